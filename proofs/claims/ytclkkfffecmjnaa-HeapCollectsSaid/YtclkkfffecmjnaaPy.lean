/- heap: played. -/
import Derived.Test.YtclkkfffecmjnaaMd
import Derived.Test.YtclkkfffecmjnaaTake
namespace Go.Proofs.Ytclkkfffecmjnaa
open Go.RowKit
set_option linter.unusedVariables false
set_option linter.unusedSimpArgs false
attribute [local go_sem] Oper.semAt_some
set_option maxRecDepth 20000 in
set_option maxHeartbeats 4000000 in
theorem played_any (A : Option Addr) (len cap : Nat) (ls : List Ov) (w0 w : World) (hb0 : Below w0.heap.size w0 w) (hl : ls.length = len) (hlen : len ≤ 100) (hM : OpsM w0 A ls) (hfit : ∀ o ∈ ls, Fits o) :
    Calls Try.prog 28 #[.slice A len cap] w fun e w' => ∃ g H, e = .returned (.tuple #[.pointer (some ⟨g, 0, none⟩), .int .i64 (H.count : Int)]) ∧ HR w0 w' (fun _ => False) g (2 * len) H ∧ H.count ≤ len ∧ H.L.length ≤ len := by
  have H1 := Lib.hid (new_ok 1048576 w0 w (fun _ => False) (fun k h => h.elim) hb0 (by omega))
  have HM := Lib.hid (And.intro hM hl)
  have HFit := Lib.hid hfit
  clear hM hl hfit hb0
  go_enter Try.func28, Try.ntmps28
  go_wp2_with fail
  refine H1.out.mono ?_
  rintro e w2 ⟨g, rfl, hr, _⟩
  have HR2 := Lib.hid hr
  clear hr H1
  go_wp2_with fail
  go_loopw [6, 7] (fun nv iv wr => ∃ (i : Nat) (H : HS), i ≤ len ∧ iv = .int .i64 (i : Int) ∧ nv = .int .i64 (H.count : Int) ∧ H.count ≤ i ∧ Hid (HR w0 wr (fun _ => False) g (2 * i) H ∧ H.L.length ≤ i)) (fun _ iv _ => len - (intOf iv).toNat)
  case atStart => exact ⟨0, newH 1048576, Nat.zero_le _, rfl, rfl, Nat.le_refl _, Lib.hid ⟨HR2.out, Nat.le_refl _⟩⟩
  case round =>
    clear HR2
    obtain ⟨i, H, hi, rfl, rfl, hci, hI⟩ := hrel
    obtain ⟨cn, hcn⟩ : ∃ cn, H.count = cn := ⟨_, rfl⟩
    rw [hcn] at hci ⊢
    by_cases hlt : i < len
    · have hd : decide ((i : Int) < (len : Int)) = true := by simpa using hlt
      obtain ⟨o, ho⟩ : ∃ o, ls[i]? = some o := ⟨_, List.getElem?_eq_getElem (by rw [HM.out.2]; exact hlt)⟩
      have hbel := hI.out.1.bel
      obtain ⟨b, off, B, c, R, d, rfl, hblt, hc0, hv0⟩ := HM.out.1 i o ho
      have hc : ∀ (j : Nat) (v : Value), (opC o B c R d)[j]? = some v → wr.cell? ⟨b, off + i * 10 + j, none⟩ = some v := fun j v hj => (hbel.cell (p := ⟨b, off + i * 10 + j, none⟩) hblt).trans (hc0 j v hj)
      have hv := hv0.below hbel
      obtain ⟨z0, z1, z2, z3, z4, z5, z6, z7, z8, z9⟩ := ops_cells hc
      have hfo := HFit.out o (List.mem_of_getElem? ho)
      have HD := does_hr hI.out.1 (by omega) (by have := hI.out.2; omega) hv hfo
      have hcnt := doF_counts H o
      rw [hcn] at hcnt
      obtain ⟨H2, hH2⟩ : ∃ H2, (doF H o).1 = H2 := ⟨_, rfl⟩
      obtain ⟨tv, htv⟩ : ∃ tv, (doF H o).2 = tv := ⟨_, rfl⟩
      rw [hH2, htv] at HD hcnt
      clear hH2 htv
      obtain ⟨⟨tk, ttag, tws, ttx⟩, ⟨twk, twn⟩, tn, tis, te⟩ := tv
      have htold : ∀ T c2, toldC ⟨⟨tk, ttag, tws, ttx⟩, ⟨twk, twn⟩, tn, tis, te⟩ T c2 = #[.int .u8 (tk : Int), .int .i64 ttag, .slice T tws.length c2, .string (str ttx), .int .u8 (twk : Int), .int .i64 twn, .int .i64 (tn : Int), .bool tis, .int .i64 (te : Int)] := fun T c2 => rfl
      have HTO := Lib.hid htold
      dsimp only at hcnt
      have hways : (o.kind = 0 ∧ te = 0 ∧ H2.count = cn + 1) ∨ (o.kind = 0 ∧ te ≠ 0 ∧ H2.count = cn) ∨ (o.kind ≠ 0 ∧ H2.count = cn) := by
        rcases hcnt.2.2 with ⟨h1, h2, _, h4⟩ | ⟨h1, _, h3⟩
        · exact .inl ⟨h1, h2, by rw [h4]; show H.count + 1 = _; rw [hcn]⟩
        · by_cases hk : o.kind = 0
          · rcases h1 with h1 | h1
            · exact absurd hk h1
            · exact .inr (.inl ⟨hk, h1, h3⟩)
          · exact .inr (.inr ⟨hk, h3⟩)
      have HO := Lib.hid (And.intro hI.out (And.intro hcnt.2.1 (And.intro hblt (And.intro hc0 hv0))))
      unfold opC at HD
      replace HD := Lib.hid HD
      clear hbel hc hv hfo ho hcn htold hI hc0 hv0 hcnt
      go_wp2_with fail
      refine HD.out.mono ?_
      rintro e w3 ⟨T, c2, rfl, _, hr3, _⟩
      rw [HTO.out]
      have hr3 := hr3.less (Y := fun _ => False) (fun k h => h.elim)
      obtain ⟨m3, hm3⟩ : ∃ m3, tws.length = m3 := ⟨_, rfl⟩
      rw [hm3]
      clear hm3
      obtain ⟨w4, hw4⟩ : ∃ w4, w3.alloc (.cells #[.int .u8 (tk : Int), .int .i64 ttag, .slice T m3 c2, .string (str ttx), .int .u8 (twk : Int), .int .i64 twn, .int .i64 (tn : Int), .bool tis, .int .i64 (te : Int)] 39) = w4 := ⟨_, rfl⟩
      have hb4 : Below w3.heap.size w3 w4 := by rw [← hw4]; exact (Below.refl _ _).alloc (Nat.le_refl _) _
      have hB4 : Blk w4 w3.heap.size 39 #[.int .u8 (tk : Int), .int .i64 ttag, .slice T m3 c2, .string (str ttx), .int .u8 (twk : Int), .int .i64 twn, .int .i64 (tn : Int), .bool tis, .int .i64 (te : Int)] := by rw [← hw4]; exact Blk.new _ _ _
      have hr4 := (hr3.below hb4).1
      have x8 := hB4.cell 8
      simp only [List.getElem?_toArray, List.getElem?_cons_zero, List.getElem?_cons_succ] at x8
      have z0 : w4.cell? ⟨b, off + i * 10, none⟩ = some (.int .i64 o.kind) := (hr4.bel.cell (p := ⟨b, off + i * 10, none⟩) HO.out.2.2.1).trans (HO.out.2.2.2.1 0 _ rfl)
      have HR4 := Lib.hid hr4
      clear hr3 hb4 hr4 hB4 HD HTO z1 z2 z3 z4 z5 z6 z7 z8 z9
      have HNX : Hid (∀ z : Int, z = H2.count → H2.count ≤ i + 1 → ∃ (j : Nat) (H' : HS), j ≤ len ∧ Value.int .i64 ((i : Int) + 1) = .int .i64 (j : Int) ∧ Value.int .i64 z = .int .i64 (H'.count : Int) ∧ H'.count ≤ j ∧ Hid (HR w0 w4 (fun _ => False) g (2 * j) H' ∧ H'.L.length ≤ j)) := Lib.hid fun z hz hle =>
        ⟨i + 1, H2, by omega, by go_num, by rw [hz], by omega, Lib.hid ⟨HR4.out.mono (by omega), by have := HO.out.1.2; have := HO.out.2.1; omega⟩⟩
      rcases hways with ⟨hk0, ht, hc2⟩ | ⟨hk0, ht, hc2⟩ | ⟨hk0, hc2⟩
      · have q1 : (o.kind == 0) = true := by simpa using hk0
        have q2 : ((te : Int) == 0) = true := by simp; omega
        have HC := Lib.hid hc2
        clear hk0 ht hc2
        go_wp2_with fail
        go_roundw
        case rel => exact HNX.out _ (by rw [HC.out]; omega) (by rw [HC.out]; omega)
        case measure => simp [intOf]; omega
      · have q1 : (o.kind == 0) = true := by simpa using hk0
        have q2 : ((te : Int) == 0) = false := by simp; omega
        have HC := Lib.hid hc2
        clear hk0 ht hc2
        go_wp2_with fail
        go_roundw
        case rel => exact HNX.out _ (by rw [HC.out]) (by rw [HC.out]; omega)
        case measure => simp [intOf]; omega
      · have q1 : (o.kind == 0) = false := by simpa using hk0
        have HC := Lib.hid hc2
        clear hk0 hc2
        go_wp2_with fail
        go_roundw
        case rel => exact HNX.out _ (by rw [HC.out]) (by rw [HC.out]; omega)
        case measure => simp [intOf]; omega
    · obtain rfl : len = i := by omega
      have hd : decide ((len : Int) < (len : Int)) = false := by simp
      have HI := Lib.hid (And.intro hI.out hcn)
      clear hI hcn
      go_wp2_with fail
      go_ret2
      exact ⟨g, H, by rw [HI.out.2]; rfl, HI.out.1.1, by rw [HI.out.2]; exact hci, HI.out.1.2⟩
end Go.Proofs.Ytclkkfffecmjnaa
