/- settle, with what On hands it. -/
import Derived.Test.YtiemfhncadcemaaP
namespace Go.Proofs.Ytiemfhncadcemaa
open Go.RowKit Dsk

set_option maxHeartbeats 1000000 in
theorem settle_on (p1 p2 p3 mb mn g gl gi : Nat) (torn : Int) (S : Int → Bool) (rv : Value) (D : DS) (E : Nat → Prop) (w : World) (h : Dk w E g gl gi rv D) (hP : D.P.length < 1000000) (hp1 : w.cell? ⟨p1, 0, none⟩ = some (.int .i64 torn)) (hp2 : w.cell? ⟨p2, 0, none⟩ = some (.pointer (some ⟨g, 0, none⟩))) (hp3 : w.cell? ⟨p3, 0, none⟩ = some (.map (some mb))) (hM : KMap w mb mn S) (hpg : p1 ≠ gl ∧ p2 ≠ gl ∧ p3 ≠ gl ∧ mb ≠ gl) :
    Calls Try.prog 43 #[.pointer (some ⟨g, 0, none⟩), .func (.func 44) #[] #[.pointer (some ⟨p1, 0, none⟩), .pointer (some ⟨p2, 0, none⟩), .pointer (some ⟨p3, 0, none⟩)]] w fun e w' => e = .returned (.tuple #[]) ∧ Dk w' E g gl gi (.slice none 0 0) (clearD (sett (onF S torn) D D.P.length)) ∧ Off (own4 g gl gi rv) w w' := by
  have HK := Lib.hid h
  obtain ⟨A, c, rfl, hle, hmx⟩ := h.pend.shape
  have c1 := h.hd.c1
  have HP := Lib.hid hP
  have HPC := Lib.hid (And.intro hp1 (And.intro hp2 (And.intro hp3 hM)))
  obtain ⟨m, hm⟩ : ∃ m, D.P.length = m := ⟨_, rfl⟩
  rw [hm] at hP hle c1
  have HM := Lib.hid hm
  clear h hp1 hp2 hp3 hM hm
  go_enter Try.func43, Try.ntmps43
  go_wp2
  go_loopw [4, 5, 11] (fun u v i wr => ∃ k : Nat, k ≤ m ∧ i = .int .i64 (k : Int) ∧ Hid (Dk wr E g gl gi (.slice A m c) (sett (onF S torn) D k)) ∧ Hid (Off (fun k => k = gl) w wr)) (fun _ _ i _ => m - (intOf i).toNat)
  case atStart => exact ⟨0, Nat.zero_le _, rfl, Lib.hid (by have := HK.out; rw [HM.out] at this; exact this), Lib.hid (Off.refl _ _)⟩
  case round =>
    obtain ⟨k, hk, rfl, hR, hO⟩ := hrel
    by_cases hlt : k < m
    · have hd : decide ((k : Int) < (m : Int)) = true := by simpa using hlt
      obtain ⟨⟨s, b⟩, hpk⟩ : ∃ p, D.P[k]? = some p := ⟨_, List.getElem?_eq_getElem (by rw [HM.out]; exact hlt)⟩
      obtain ⟨r, cc, v, er, hr, q1, q2, hsec⟩ := hR.out.pend.at_ (show (sett (onF S torn) D k).P[k]? = _ from hpk)
      injection er with er1 er2 er3
      subst er1
      obtain ⟨Av, cv, rfl, hsec2⟩ := hsec
      obtain ⟨L, hL⟩ : ∃ L, b.length = L := ⟨_, rfl⟩
      have q3 : wr.cell? ⟨r, k * 2 + 1, none⟩ = some (.slice Av L cv) := by rw [← hL]; exact q2
      have HSEC : Hid (Sec wr E (.slice Av L cv) b) := Lib.hid ⟨Av, cv, by rw [hL], hsec2⟩
      have hrk : k * 2 + 1 < 3000000 := by omega
      have HPK := Lib.hid hpk
      clear q2 hsec2 hpk er2 er3 hL
      have hsD : s < (sett (onF S torn) D k).S.length := (hR.out.ok.pend (s, b) (List.mem_of_getElem? (HPK.out))).1
      have hbD : b = [] ∨ b.length = 256 := .inr (hR.out.ok.pend (s, b) (List.mem_of_getElem? (HPK.out))).2
      obtain ⟨hq1, hq2, hq3, hqM⟩ := HPC.out
      have keep : ∀ {p : Nat} {v : Value}, p ≠ gl → w.cell? ⟨p, 0, none⟩ = some v → (wr.alloc (.cells #[.int .i64 (s : Int), .slice Av L cv] 79)).cell? ⟨p, 0, none⟩ = some v := fun {p v} hne hc =>
        Lib.cell?_alloc_some _ ((World.cell?_of_block (a := ⟨p, 0, none⟩) (hO.out.block p (World.block_lt_of_cell? w _ hc) hne)).trans hc)
      have hM1 : KMap (wr.alloc (.cells #[.int .i64 (s : Int), .slice Av L cv] 79)) mb mn S := by
        have h1 := hqM.same (hO.out.block mb hqM.lt hpg.2.2.2)
        exact h1.same (Below.heap_alloc _ _ _ h1.lt)
      have H1 : Hid (Calls Try.prog 44 #[.int .i64 (k : Int), .agg #[.int .i64 (s : Int), .slice Av L cv], .pointer (some ⟨p1, 0, none⟩), .pointer (some ⟨p2, 0, none⟩), .pointer (some ⟨p3, 0, none⟩)] (wr.alloc (.cells #[.int .i64 (s : Int), .slice Av L cv] 79)) fun e w' => e = .returned (.tuple #[]) ∧ Dk w' E g gl gi (.slice (some ⟨r, 0, none⟩) m c) (setD (sett (onF S torn) D k) s (onF S torn k b)) ∧ Off (fun k => k = gl) (wr.alloc (.cells #[.int .i64 (s : Int), .slice Av L cv] 79)) w') := by
        have hDa := hR.out.alloc (.cells #[.int .i64 (s : Int), .slice Av L cv] 79)
        have hSa := HSEC.out.same (w' := wr.alloc (.cells #[.int .i64 (s : Int), .slice Av L cv] 79)) (by simp) (fun _ _ hk => Below.heap_alloc _ _ _ hk)
        by_cases ht : (k : Int) = torn
        · have e : onF S torn k b = some [] := by unfold onF; rw [if_pos ht]
          rw [e]
          exact Lib.hid (on1_torn p1 p2 p3 g gl gi s k Av L cv _ _ E _ hDa hsD (ht ▸ keep hpg.1 hq1) (keep hpg.2.1 hq2))
        · by_cases hS : S k = true
          · have e : onF S torn k b = some b := by unfold onF; rw [if_neg ht, if_pos hS]
            rw [e]
            exact Lib.hid (on1_kept p1 p2 p3 mb mn g gl gi s k torn S Av L cv _ b _ E _ hDa hsD hSa hbD (keep hpg.1 hq1) (keep hpg.2.1 hq2) (keep hpg.2.2.1 hq3) hM1 (by omega) ht hS)
          · have e : onF S torn k b = none := by unfold onF; rw [if_neg ht, if_neg hS]
            rw [e]
            exact Lib.hid (on1_lost p1 p2 p3 mb mn g gl gi s k torn S Av L cv _ _ E _ hDa (keep hpg.1 hq1) (keep hpg.2.1 hq2) (keep hpg.2.2.1 hq3) hM1 (by omega) ht (by simpa using hS))
      clear keep hq1 hq2 hq3 hqM hM1 hbD hsD
      go_wp2_with fail
      refine H1.out.mono ?_
      rintro e w2 ⟨rfl, hD2, hO2⟩
      have HD2 : Hid (Dk w2 E g gl gi (.slice (some ⟨r, 0, none⟩) m c) (sett (onF S torn) D (k + 1))) := Lib.hid (by rw [sett_succ _ D k s b HPK.out]; exact hD2)
      have HO2 := Lib.hid ((hO.out.trans (Off.alloc _ _ _)).trans hO2)
      clear hD2 hO2 H1
      go_wp2_with fail
      go_roundw
      case rel => exact ⟨k + 1, by omega, by go_num, HD2, HO2⟩
      case measure => simp [intOf]; omega
    · obtain rfl : m = k := by omega
      have hd : decide ((m : Int) < (m : Int)) = false := by simp
      have hR2 := hR.out.cleared
      have hlo := hR.out.ok.lo
      have hhd := hR.out.hd
      have hcl := fun ty => run_clearI (wr.setCell ⟨g, 1, none⟩ (.slice none 0 0)) gi _ _ (hR.out.last.same (Below.heap_setCell wr ⟨g, 1, none⟩ _ gi hR.out.n2.symm)) (by omega) ty
      have k1 := hhd.c1
      have k2 := hhd.c2
      have kf := hhd.f 1
      have hoff : Off (own4 g gl gi (.slice A m c)) w ((wr.setCell ⟨g, 1, none⟩ (.slice none 0 0)).setCells gi 0 (List.replicate (sett (onF S torn) D m).S.length (.int .i64 0))) :=
        ((hO.out.mono (G := own4 g gl gi (.slice A m c)) (fun k _ e => .inr (.inl e))).trans ((Off.setc wr g 1 _).mono fun k _ e => .inl e)).trans ((setCells_off gi _ _ _).mono fun k _ e => .inr (.inr (.inl e)))
      have HR2 := Lib.hid hR2
      have HOFF := Lib.hid hoff
      clear hR2 hlo hhd hoff hO hR
      generalize (sett (onF S torn) D m).S.length = n at *
      go_wp2
      go_end0
      exact ⟨rfl, by rw [HM.out]; exact HR2.out, by rw [HM.out]; exact HOFF.out⟩

end Go.Proofs.Ytiemfhncadcemaa
