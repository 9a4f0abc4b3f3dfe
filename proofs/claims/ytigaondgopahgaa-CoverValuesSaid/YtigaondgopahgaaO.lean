/- cover: sort. -/
import Derived.Test.YtigaondgopahgaaR
namespace Go.Proofs.Ytigaondgopahgaa
open Go.RowKit
set_option linter.unusedVariables false
set_option linter.unusedSimpArgs false
attribute [local go_sem] Oper.semAt_some
set_option maxRecDepth 20000 in
set_option maxHeartbeats 8000000 in
theorem sort_any {F : Nat → Prop} {l : List Inf} {b1 b2 en : Nat} (t : Ty) (A : Option Addr) (c : Nat) (w : World) (hl : t.nm.length ≤ maxLen) (hS : Ask F w b1 b2 en l) :
    Calls Try.prog 26 #[.agg #[.map (some b1), .map (some b2)], t.val A c] w fun e w' => e = .returned (sort l t).val ∧ Below w.heap.size w w' := by
  obtain ⟨k, nm, n, ks⟩ := t
  have hl : nm.length ≤ maxLen := hl
  show Calls Try.prog 26 #[.agg #[.map (some b1), .map (some b2)], .agg #[.int .u8 (k : Int), .string (str nm), .int .i64 n, .slice A ks.length c]] w _
  obtain ⟨kl, hkl⟩ : ∃ kl, ks.length = kl := ⟨_, rfl⟩
  have hk5 : (((k : Nat) : Int) == 5) = decide (k = 5) := eq_of k 5
  have hk6 : (((k : Nat) : Int) == 6) = decide (k = 6) := eq_of k 6
  obtain ⟨ov, hov⟩ : ∃ ov, ofOf l nm = ov := ⟨_, rfl⟩
  have hv : Hid ((sort l (.node k nm n ks)).val = .agg #[.int .u8 (k : Int), .string (str (if k = 6 then ov else [])), .int .i64 0, .int .i64 ((if k = 5 then kl else 0 : Nat) : Int)]) := Lib.hid (by rw [← hkl, ← hov]; rfl)
  rw [hkl]
  clear hkl
  obtain ⟨w9, hw9⟩ : ∃ w9, w.alloc (.cells #[.map (some b1), .map (some b2)] 57) = w9 := ⟨_, rfl⟩
  have hb9 : Below w.heap.size w w9 := by rw [← hw9]; exact (Below.refl _ _).alloc (Nat.le_refl _) _
  have hA9 : Blk w9 w.heap.size 57 #[.map (some b1), .map (some b2)] := by rw [← hw9]; exact Blk.new _ _ _
  have hs9 : w9.heap.size = w.heap.size + 1 := by rw [← hw9]; simp
  obtain ⟨w0, hw0⟩ : ∃ w0, w9.alloc (.cells #[.int .u8 (k : Int), .string (str nm), .int .i64 n, .slice A kl c] 40) = w0 := ⟨_, rfl⟩
  have hb0 : Below w9.heap.size w9 w0 := by rw [← hw0]; exact (Below.refl _ _).alloc (Nat.le_refl _) _
  have hB0 : Blk w0 (w.heap.size + 1) 40 #[.int .u8 (k : Int), .string (str nm), .int .i64 n, .slice A kl c] := by rw [← hw0, ← hs9]; exact Blk.new _ _ _
  have hs0 : w0.heap.size = w.heap.size + 2 := by rw [← hw0]; simp [hs9]
  obtain ⟨w1, hw1⟩ : ∃ w1, w0.alloc (.cells #[.int .u8 0, .string ⟨#[]⟩, .int .i64 0, .int .i64 0] 65) = w1 := ⟨_, rfl⟩
  have hb1 : Below w0.heap.size w0 w1 := by rw [← hw1]; exact (Below.refl _ _).alloc (Nat.le_refl _) _
  have hR1 : Blk w1 (w.heap.size + 2) 65 #[.int .u8 0, .string ⟨#[]⟩, .int .i64 0, .int .i64 0] := by rw [← hw1, ← hs0]; exact Blk.new _ _ _
  have hs1 : w1.heap.size = w.heap.size + 3 := by rw [← hw1]; simp [hs0]
  have hB1 : Blk w1 (w.heap.size + 1) 40 #[.int .u8 (k : Int), .string (str nm), .int .i64 n, .slice A kl c] := hB0.below hb1 (by omega)
  obtain ⟨w3, hw3⟩ : ∃ w3, w1.alloc (.cells #[.int .u8 (k : Int), .string ⟨#[]⟩, .int .i64 0, .int .i64 0] 65) = w3 := ⟨_, rfl⟩
  have hb3 : Below w1.heap.size w1 w3 := by rw [← hw3]; exact (Below.refl _ _).alloc (Nat.le_refl _) _
  have hH3 : Blk w3 (w.heap.size + 3) 65 #[.int .u8 (k : Int), .string ⟨#[]⟩, .int .i64 0, .int .i64 0] := by rw [← hw3, ← hs1]; exact Blk.new _ _ _
  have hB3 := hB1.below hb3 (by omega)
  have hR3 := hR1.below hb3 (by omega)
  have hA3 := ((hA9.below hb0 hA9.lt).below hb1 (by omega)).below hb3 (by omega)
  obtain ⟨s1, pp, mm, hlk⟩ := ((((hS.bel hb9).bel hb0).bel hb1).bel hb3).look1' nm hl
  have hfd := info_of s1 (str (ofOf l nm)) pp mm (hasOf l nm) w3
  rw [hov] at hlk hfd
  have HB : Hid (Below w.heap.size w w3) := Lib.hid (hb9.trans ((hb0.mono (by omega)).trans ((hb1.mono (by omega)).trans (hb3.mono (by omega)))))
  have hS3 : w.heap.size + 3 < w3.heap.size := hH3.lt
  have a0 := hB1.cell 0
  have d0 := hB3.cell 0
  have d1 := hB3.cell 1
  have d3 := hB3.cell 3
  have g0 := hA3.cell 0
  simp only [List.getElem?_toArray, List.getElem?_cons_zero, List.getElem?_cons_succ] at a0 d0 d1 d3 g0
  have h0 := hH3.cell 0
  have h1 := hH3.cell 1
  have h2 := hH3.cell 2
  have h3 := hH3.cell 3
  have r0 := hR3.cell 0
  have r1 := hR3.cell 1
  have r2 := hR3.cell 2
  have r3 := hR3.cell 3
  simp only [List.getElem?_toArray, List.getElem?_cons_zero, List.getElem?_cons_succ] at h0 h1 h2 h3 r0 r1 r2 r3
  have hf := hH3.frozen
  have rf := hR3.frozen
  have HH := Lib.hid (And.intro hH3 (And.intro hR3 hS3))
  clear hb9 hA9 hb0 hB0 hb1 hR1 hB1 hb3 hH3 hB3 hR3 hA3 hS3 hS hl hov
  have HW3 := Lib.hid hw3
  clear hw3
  by_cases e5 : k = 5
  · rw [if_neg (by omega), if_pos e5] at hv
    rw [decide_eq_true e5] at hk5
    clear hk6 e5 hlk hfd
    go_enter Try.func26, Try.ntmps26
    go_upto_region 1 with fail
    (try rw [hw9])
    (try rw [hw0])
    (try rw [hw1])
    (try simp only [hs1])
    (try simp only [hs0])
    (try simp only [hs9])
    clear hw9 hw0 hw1
    go_upto_region 2 with fail
    (try rw [HW3.out])
    (try simp only [hs1])
    (try simp only [hs0])
    (try simp only [hs9])
    clear HW3 hs0 hs1 hs9
    go_wp2_with fail
    refine bodyPost_ret (results_cell_row rfl _ _ (w.heap.size + 2) 65 _ (0, 0) _ rfl ((HH.out.2.1.far (show w.heap.size + 2 ≠ w.heap.size + 3 by omega) _).set4 (.int .u8 (k : Int)) (.string ⟨#[]⟩) (.int .i64 0) (.int .i64 (kl : Int))) Try.underlying65 rfl (by kernel_rfl)) rfl ?_
    exact ⟨by rw [hv.out] <;> rfl, HB.out.trans (Off.below (((Off.setc _ _ _ _).mono (fun _ _ e => (e : _ = w.heap.size + 3) ▸ (show w.heap.size ≤ w.heap.size + 3 by omega))).trans ((off4 _ (w.heap.size + 2) (.int .u8 (k : Int)) (.string ⟨#[]⟩) (.int .i64 0) (.int .i64 (kl : Int))).mono (fun _ _ e => by omega))) HB.out.size (fun g e => by omega))⟩
  · by_cases e6 : k = 6
    · rw [if_pos e6, if_neg e5] at hv
      rw [decide_eq_true e6] at hk6
      rw [decide_eq_false e5] at hk5
      clear e5 e6
      go_enter Try.func26, Try.ntmps26
      go_upto_region 1 with fail
      (try rw [hw9])
      (try rw [hw0])
      (try rw [hw1])
      (try simp only [hs1])
      (try simp only [hs0])
      (try simp only [hs9])
      clear hw9 hw0 hw1
      go_upto_region 2 with fail
      (try rw [HW3.out])
      (try simp only [hs1])
      (try simp only [hs0])
      (try simp only [hs9])
      clear HW3 hs0 hs1 hs9
      go_wp2_with fail
      refine bodyPost_ret (results_cell_row rfl _ _ (w.heap.size + 2) 65 _ (0, 0) _ rfl ((HH.out.2.1.far (show w.heap.size + 2 ≠ w.heap.size + 3 by omega) _).set4 (.int .u8 (k : Int)) (.string (str ov)) (.int .i64 0) (.int .i64 0)) Try.underlying65 rfl (by kernel_rfl)) rfl ?_
      exact ⟨by rw [hv.out] <;> rfl, HB.out.trans (Off.below (((Off.setc _ _ _ _).mono (fun _ _ e => (e : _ = w.heap.size + 3) ▸ (show w.heap.size ≤ w.heap.size + 3 by omega))).trans ((off4 _ (w.heap.size + 2) (.int .u8 (k : Int)) (.string (str ov)) (.int .i64 0) (.int .i64 0)).mono (fun _ _ e => by omega))) HB.out.size (fun g e => by omega))⟩
    · rw [if_neg e6, if_neg e5] at hv
      rw [decide_eq_false e6] at hk6
      rw [decide_eq_false e5] at hk5
      clear e5 e6 hlk hfd
      go_enter Try.func26, Try.ntmps26
      go_upto_region 1 with fail
      (try rw [hw9])
      (try rw [hw0])
      (try rw [hw1])
      (try simp only [hs1])
      (try simp only [hs0])
      (try simp only [hs9])
      clear hw9 hw0 hw1
      go_upto_region 2 with fail
      (try rw [HW3.out])
      (try simp only [hs1])
      (try simp only [hs0])
      (try simp only [hs9])
      clear HW3 hs0 hs1 hs9
      go_wp2_with fail
      refine bodyPost_ret (results_cell_row rfl _ _ (w.heap.size + 2) 65 _ (0, 0) _ rfl (HH.out.2.1.set4 (.int .u8 (k : Int)) (.string ⟨#[]⟩) (.int .i64 0) (.int .i64 0)) Try.underlying65 rfl (by kernel_rfl)) rfl ?_
      exact ⟨by rw [hv.out] <;> rfl, HB.out.trans (Off.below (off4 _ (w.heap.size + 2) (.int .u8 (k : Int)) (.string ⟨#[]⟩) (.int .i64 0) (.int .i64 0)) HB.out.size (fun g e => by omega))⟩
end Go.Proofs.Ytigaondgopahgaa
