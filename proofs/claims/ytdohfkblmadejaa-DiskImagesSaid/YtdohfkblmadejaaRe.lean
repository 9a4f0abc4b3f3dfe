/- The reference's On. -/
import Derived.Test.YtdohfkblmadejaaRd
namespace Go.Proofs.Ytdohfkblmadejaa
open Go.RowKit Dsk

theorem has_take (ks : List Int) (k : Nat) (z i : Int) (h : ks[k]? = some z) : has (ks.take (k + 1)) i = (i == z || has (ks.take k) i) := by
  obtain ⟨hk, e⟩ := List.getElem?_eq_some_iff.1 h
  rw [List.take_succ_eq_append_getElem hk, e, has_snoc]

set_option maxHeartbeats 1000000 in
theorem among_any (K : Option Addr) (kl kc : Nat) (ks : List Int) (x : Int) (w : World) (hK : Ints w K ks) (hkl : ks.length = kl) (h9 : kl < 1000000) :
    Calls Try.prog 52 #[.slice K kl kc, .int .i64 x] w fun e w' => e = .returned (.bool (has ks x)) ∧ w = w' := by
  have HI := Lib.hid hK
  have HL := Lib.hid hkl
  clear hK hkl
  go_enter Try.func52, Try.ntmps52
  go_wp2
  go_loop [5] (fun i => ∃ k : Nat, k ≤ kl ∧ i = .int .i64 (k : Int) ∧ Hid (has (ks.take k) x = false)) (fun i => kl - (intOf i).toNat)
  case atStart => exact ⟨0, Nat.zero_le _, rfl, Lib.hid rfl⟩
  case round =>
    obtain ⟨k, hk, rfl, hn⟩ := hrel
    by_cases hlt : k < kl
    · have hd : decide ((k : Int) < (kl : Int)) = true := by simpa using hlt
      obtain ⟨z, hz⟩ : ∃ z, ks[k]? = some z := ⟨_, List.getElem?_eq_getElem (by rw [HL.out]; exact hlt)⟩
      obtain ⟨b, off, rfl, hb, hcz, _⟩ := HI.out k z hz
      have ht := has_take ks k z x hz
      rw [hn.out] at ht
      by_cases he : z = x
      · have e1 : (z == x) = true := by simpa using he
        have hh : Hid (has ks x = true) := Lib.hid (by
          unfold has
          rw [List.any_eq_true]
          exact ⟨z, List.mem_of_getElem? hz, by simp [he]⟩)
        clear he ht hz
        go_wp2
        go_ret
        exact ⟨by rw [hh.out]; rfl, rfl⟩
      · have e1 : (z == x) = false := by simpa using he
        have hn2 : Hid (has (ks.take (k + 1)) x = false) := Lib.hid (by
          rw [ht]
          have : (x == z) = false := by simpa using fun e : x = z => he e.symm
          rw [this]; rfl)
        clear he ht hz
        go_wp2
        go_round
        case rel => exact ⟨k + 1, by omega, by go_num, hn2⟩
        case measure => simp [intOf]; omega
    · obtain rfl : k = kl := by omega
      have hd : decide ((k : Int) < (k : Int)) = false := by simp
      have hh : Hid (has ks x = false) := Lib.hid (by
        have := hn.out
        rwa [List.take_of_length_le (by rw [HL.out]; exact Nat.le_refl _)] at this)
      go_wp2
      go_ret
      exact ⟨by rw [hh.out]; rfl, rfl⟩

theorem ron_state (g n c armed steps : Nat) (A : Option Addr) (pv v : Value) (i : Int) (w : World) (h : RHead w g A n c pv false armed steps) :
    Calls Try.prog 43 #[.pointer (some ⟨g, 0, none⟩), v, .int .i64 i] w fun e w' => e = .returned (.int .i64 3) ∧ w = w' := by
  have h2 := h.c2
  clear h
  go_enter Try.func43, Try.ntmps43
  go_wp2
  go_ret
  exact ⟨rfl, rfl⟩

theorem Rk.up {w : World} {E : Nat → Prop} {g gs c : Nat} {pv : Value} {D : DS} (h : Rk w E g gs c pv D) : Rk ((w.setCell ⟨g, 2, none⟩ (.bool false)).setCell ⟨g, 3, none⟩ (.int .i64 0)) E g gs c pv (upD D) := by
  refine h.turned (by simp [World.setCell]) (fun k _ hne => (Below.heap_setCell _ _ _ _ hne).trans (Below.heap_setCell _ _ _ _ hne)) rfl rfl ⟨h.ok.lo, h.ok.hi, h.ok.sec, h.ok.pend, by show 0 < _; decide⟩ ?_
  have h2 := (h.head.set_ 2 (.bool false)).set_ 3 (.int .i64 0)
  simp only [List.setIfInBounds_toArray, List.set_cons_succ, List.set_cons_zero] at h2
  exact h2

set_option maxHeartbeats 2000000 in
theorem ron_dead (g gs c kl kc : Nat) (K : Option Addr) (ks : List Int) (torn : Int) (rv : Value) (D : DS) (E : Nat → Prop) (w : World) (h : Rk w E g gs c rv D) (hd : D.dead = true) (hP : D.P.length < 1000000) (hK : Ints w K ks) (hkl : ks.length = kl) (hk9 : kl < 1000000) (hKF : ∀ p : Addr, K = some p → ks ≠ [] → ¬ own3 g gs rv p.block) :
    Calls Try.prog 43 #[.pointer (some ⟨g, 0, none⟩), .slice K kl kc, .int .i64 torn] w fun e w' => e = .returned (.int .i64 0) ∧ Rk w' E g gs c (.slice none 0 0) (upD (clearD (sett (onF (has ks) torn) D D.P.length))) ∧ Off (own3 g gs rv) w w' := by
  have c2 := h.hd.c2
  rw [hd] at c2
  obtain ⟨A, cp, rfl, hle, hmx⟩ := h.pend.shape
  obtain ⟨m, hm⟩ : ∃ m, D.P.length = m := ⟨_, rfl⟩
  have HS : Hid (Rk w E g gs c (.slice A m cp) (sett (onF (has ks) torn) D 0)) := Lib.hid (by rw [← hm]; exact h)
  rw [hm] at hP hle hKF ⊢
  have HM := Lib.hid hm
  have HO : Hid (Off (own3 g gs (.slice A m cp)) w w) := Lib.hid (Off.refl _ _)
  have HI := Lib.hid hK
  have HL := Lib.hid hkl
  have HKF := Lib.hid hKF
  clear h hd hm hK hkl hKF
  go_enter Try.func43, Try.ntmps43
  go_wp2_with fail
  go_loopw [7] (fun i wr => ∃ k : Nat, k ≤ m ∧ i = .int .i64 (k : Int) ∧ Hid (Rk wr E g gs c (.slice A m cp) (sett (onF (has ks) torn) D k)) ∧ Hid (Off (own3 g gs (.slice A m cp)) w wr)) (fun i _ => m - (intOf i).toNat)
  case atStart => exact ⟨0, Nat.zero_le _, rfl, HS, HO⟩
  case round =>
    obtain ⟨k, hk, rfl, hR, hO⟩ := hrel
    clear HS HO c2
    have hhd := hR.out.hd
    have c0 := hhd.c0
    have c1 := hhd.c1
    by_cases hlt : k < m
    · have hd : decide ((k : Int) < (m : Int)) = true := by simpa using hlt
      obtain ⟨⟨s, b⟩, hpk⟩ : ∃ p, D.P[k]? = some p := ⟨_, List.getElem?_eq_getElem (by rw [HM.out]; exact hlt)⟩
      obtain ⟨r, cc, v, er, hr, q1, q2, hsec⟩ := hR.out.pend.at_ (show (sett (onF (has ks) torn) D k).P[k]? = _ from hpk)
      injection er with er1 er2 er3
      subst er1
      have hsec0 := hsec
      obtain ⟨Av, cv, rfl, hsec2⟩ := hsec
      obtain ⟨L, hL⟩ : ∃ L, b.length = L := ⟨_, rfl⟩
      have q3 : wr.cell? ⟨r, k * 2 + 1, none⟩ = some (.slice Av L cv) := by rw [← hL]; exact q2
      have hsec1 : Sec wr E (.slice Av L cv) b := by rw [← hL]; exact hsec0
      have hrk : k * 2 + 1 < 3000000 := by omega
      have hin := hR.out.ok.pend (s, b) (List.mem_of_getElem? (show (sett (onF (has ks) torn) D k).P[k]? = _ from hpk))
      have hss := sett_succ (onF (has ks) torn) D k s b hpk
      obtain ⟨v0, hv0⟩ : ∃ v, wr.cell? ⟨gs, s, none⟩ = some v := by
        obtain ⟨v, hv, _⟩ := hR.out.secs.at_ (List.getElem?_eq_getElem hin.1)
        exact ⟨v, hv⟩
      have hf0 := hR.out.secs.free s
      have hn := hR.out.ok.hi
      have hs0 : (0 : Int) ≤ (s : Int) := by omega
      have hsl : s < (sett (onF (has ks) torn) D k).S.length := hin.1
      have hk8 : k < 1000000 := by omega
      simp only at q1
      by_cases ht : (k : Int) = torn
      · have e : onF (has ks) torn k b = some [] := by unfold onF; rw [if_pos ht]
        have hset := hR.out.setd s (.slice none 0 0) [] (Sec.nil _ _) (.inl rfl)
        rw [e] at hss
        rw [← hss] at hset
        have e1 : ((k : Int) == torn) = true := by simpa using ht
        have HSET := Lib.hid hset.drew
        have HO2 := Lib.hid (hO.out.trans (((Off.setc wr gs s (.slice none 0 0)).mono (G := own3 g gs (.slice (some ⟨r, 0, none⟩) m cp)) fun k _ e => .inr (.inl e)).trans (Off.drew _ _)))
        clear hset hss e hin hsec0 hsec1 hsec2 hpk er2 er3 hL q2 hhd hR hO ht
        generalize (sett (onF (has ks) torn) D k).S.length = n at *
        go_wp2
        go_region
        all_goals
          go_wp2
          go_roundw
          case rel => exact ⟨k + 1, by omega, by go_num, HSET, HO2⟩
          case measure => simp [intOf]; omega
      · have e1 : ((k : Int) == torn) = false := by simpa using ht
        have ha := among_any K kl kc ks (k : Int) wr (HI.out.off hO.out fun p ep hne hp => HKF.out p ep hne (by
          rcases hp with hp | hp | hp
          · exact .inl hp
          · exact .inr (.inl hp)
          · exact .inr (.inr hp))) HL.out hk9
        cases hh : has ks (k : Int)
        · have e : onF (has ks) torn k b = none := by unfold onF; rw [if_neg ht, hh]; rfl
          rw [hh] at ha
          have HAM := Lib.hid ha
          rw [e] at hss
          have HSET : Hid (Rk wr E g gs c (.slice (some ⟨r, 0, none⟩) m cp) (sett (onF (has ks) torn) D (k + 1))) := Lib.hid (by rw [hss]; exact hR.out)
          clear hss e hin hsec0 hsec1 hsec2 hpk er2 er3 hL q2 hhd hR ht ha hh
          generalize (sett (onF (has ks) torn) D k).S.length = n at *
          go_wp2_with fail
          refine HAM.out.mono ?_
          rintro e w' ⟨rfl, rfl⟩
          go_wp2_with fail
          go_roundw
          case rel => exact ⟨k + 1, by omega, by go_num, HSET, hO⟩
          case measure => simp [intOf]; omega
        · have e : onF (has ks) torn k b = some b := by unfold onF; rw [if_neg ht, hh]; rfl
          rw [hh] at ha
          have HAM := Lib.hid ha
          rw [e] at hss
          have hset := hR.out.setd s _ b hsec1 (.inr hin.2)
          rw [← hss] at hset
          have HSET := Lib.hid hset.drew
          have HO2 := Lib.hid (hO.out.trans (((Off.setc wr gs s (.slice Av L cv)).mono (G := own3 g gs (.slice (some ⟨r, 0, none⟩) m cp)) fun k _ e => .inr (.inl e)).trans (Off.drew _ _)))
          clear hset hss e hin hsec0 hsec1 hsec2 hpk er2 er3 hL q2 hhd hR hO ht ha hh
          generalize (sett (onF (has ks) torn) D k).S.length = n at *
          go_wp2_with fail
          refine HAM.out.mono ?_
          rintro e w' ⟨rfl, rfl⟩
          go_wp2_with fail
          go_region
          all_goals
            go_wp2
            go_roundw
            case rel => exact ⟨k + 1, by omega, by go_num, HSET, HO2⟩
            case measure => simp [intOf]; omega
    · obtain rfl : m = k := by omega
      have hd : decide ((m : Int) < (m : Int)) = false := by simp
      have hf1 := hhd.f 1
      have hf2 := hhd.f 2
      have hf3 := hhd.f 3
      have d2 := hhd.c2
      have d3 := hhd.c3
      have HC := Lib.hid hR.out.cleared.up
      have HO2 := Lib.hid (hO.out.trans (((Off.setc wr g 1 (.slice none 0 0)).mono (G := own3 g gs (.slice A m cp)) fun k _ e => .inl e).trans (((Off.setc _ g 2 (.bool false)).mono fun k _ e => .inl e).trans ((Off.setc _ g 3 (.int .i64 0)).mono fun k _ e => .inl e))))
      clear hhd hR hO
      go_wp2
      go_ret
      exact ⟨rfl, HC.out, HO2.out⟩

theorem Ref.on_ (g kl kc : Nat) (K : Option Addr) (ks : List Int) (torn : Int) (F : Nat → Prop) (D : DS) (w : World) (h : Ref w F g D) (hP : D.P.length < 1000000) (hK : Ints w K ks) (hkl : ks.length = kl) (hk9 : kl < 1000000) (hKF : ∀ p : Addr, K = some p → ks ≠ [] → ¬ F p.block) :
    Calls Try.prog 43 #[.pointer (some ⟨g, 0, none⟩), .slice K kl kc, .int .i64 torn] w fun e w' => e = .returned (.int .i64 (onE D)) ∧ Ref w' F g (onD D ks torn) ∧ Off F w w' := by
  have hD := h
  obtain ⟨E, gs, c, rv, hk, h1, h2, h3⟩ := h
  unfold onE onD
  by_cases hd : D.dead = true
  · rw [if_pos hd, if_pos hd]
    refine (ron_dead g gs c kl kc K ks torn rv D E w hk hd hP hK hkl hk9 fun p ep hne hp => hKF p ep hne (h2 _ hp)).mono ?_
    rintro e w' ⟨rfl, hk', ho⟩
    exact ⟨rfl, Ref.of_nil hk' h1 h2 h3 ho.size, ho.mono fun k _ => h2 k⟩
  · rw [if_neg hd, if_neg hd]
    have hh := hk.hd
    rw [show D.dead = false by simpa using hd] at hh
    refine (ron_state g _ _ _ _ _ _ _ torn w hh).mono ?_
    rintro e w' ⟨rfl, rfl⟩
    exact ⟨rfl, hD, Off.refl _ _⟩

end Go.Proofs.Ytdohfkblmadejaa
