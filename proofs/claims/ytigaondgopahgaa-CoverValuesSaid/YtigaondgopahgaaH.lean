/- cover: headOf. -/
import Derived.Test.YtigaondgopahgaaS
namespace Go.Proofs.Ytigaondgopahgaa
open Go.RowKit
set_option linter.unusedVariables false
set_option linter.unusedSimpArgs false
attribute [local go_sem] Oper.semAt_some
/-- A head, as a value. -/
def Head.val (h : Head) : Value := .agg #[.int .u8 (h.k : Int), .string (str h.nm), .int .i64 h.n, .int .i64 (h.many : Int)]
theorem Blk.set4 {w : World} {g : Nat} {t : TypeId} {a0 a1 a2 a3 : Value} (h : Blk w g t #[a0, a1, a2, a3]) (v0 v1 v2 v3 : Value) : Blk ((((w.setCell ⟨g, 0, none⟩ v0).setCell ⟨g, 1, none⟩ v1).setCell ⟨g, 2, none⟩ v2).setCell ⟨g, 3, none⟩ v3) g t #[v0, v1, v2, v3] := by
  have := (((h.set_ 0 v0).set_ 1 v1).set_ 2 v2).set_ 3 v3
  simpa using this
theorem off4 (w : World) (g : Nat) (v0 v1 v2 v3 : Value) : Off (fun k => k = g) w ((((w.setCell ⟨g, 0, none⟩ v0).setCell ⟨g, 1, none⟩ v1).setCell ⟨g, 2, none⟩ v2).setCell ⟨g, 3, none⟩ v3) :=
  (((Off.setc _ _ _ _).trans (Off.setc _ _ _ _)).trans (Off.setc _ _ _ _)).trans (Off.setc _ _ _ _)
set_option maxRecDepth 20000 in
set_option maxHeartbeats 8000000 in
theorem headOf_any (t : Ty) (A : Option Addr) (c : Nat) (w : World) :
    Calls Try.prog 28 #[t.val A c] w fun e w' => e = .returned t.head.val ∧ Below w.heap.size w w' := by
  obtain ⟨k, nm, n, ks⟩ := t
  show Calls Try.prog 28 #[.agg #[.int .u8 (k : Int), .string (str nm), .int .i64 n, .slice A ks.length c]] w _
  obtain ⟨kl, hkl⟩ : ∃ kl, ks.length = kl := ⟨_, rfl⟩
  have hk3 : (((k : Nat) : Int) == 3) = decide (k = 3) := eq_of k 3
  have hk6 : (((k : Nat) : Int) == 6) = decide (k = 6) := eq_of k 6
  have hv : Hid ((Ty.head (.node k nm n ks)).val = .agg #[.int .u8 (k : Int), .string (str (if k = 6 then nm else [])), .int .i64 (if k = 3 then n else 0), .int .i64 (kl : Int)]) := Lib.hid (by rw [← hkl]; rfl)
  rw [hkl]
  clear hkl
  obtain ⟨w0, hw0⟩ : ∃ w0, w.alloc (.cells #[.int .u8 (k : Int), .string (str nm), .int .i64 n, .slice A kl c] 40) = w0 := ⟨_, rfl⟩
  have hb0 : Below w.heap.size w w0 := by rw [← hw0]; exact (Below.refl _ _).alloc (Nat.le_refl _) _
  have hB0 : Blk w0 w.heap.size 40 #[.int .u8 (k : Int), .string (str nm), .int .i64 n, .slice A kl c] := by rw [← hw0]; exact Blk.new _ _ _
  have hs0 : w0.heap.size = w.heap.size + 1 := by rw [← hw0]; simp
  obtain ⟨w1, hw1⟩ : ∃ w1, w0.alloc (.cells #[.int .u8 0, .string ⟨#[]⟩, .int .i64 0, .int .i64 0] 65) = w1 := ⟨_, rfl⟩
  have hb1 : Below w0.heap.size w0 w1 := by rw [← hw1]; exact (Below.refl _ _).alloc (Nat.le_refl _) _
  have hR1 : Blk w1 (w.heap.size + 1) 65 #[.int .u8 0, .string ⟨#[]⟩, .int .i64 0, .int .i64 0] := by rw [← hw1, ← hs0]; exact Blk.new _ _ _
  have hs1 : w1.heap.size = w.heap.size + 2 := by rw [← hw1]; simp [hs0]
  have hB1 : Blk w1 w.heap.size 40 #[.int .u8 (k : Int), .string (str nm), .int .i64 n, .slice A kl c] := hB0.below hb1 (by omega)
  obtain ⟨w3, hw3⟩ : ∃ w3, w1.alloc (.cells #[.int .u8 (k : Int), .string ⟨#[]⟩, .int .i64 0, .int .i64 (kl : Int)] 65) = w3 := ⟨_, rfl⟩
  have hb3 : Below w1.heap.size w1 w3 := by rw [← hw3]; exact (Below.refl _ _).alloc (Nat.le_refl _) _
  have hH3 : Blk w3 (w.heap.size + 2) 65 #[.int .u8 (k : Int), .string ⟨#[]⟩, .int .i64 0, .int .i64 (kl : Int)] := by rw [← hw3, ← hs1]; exact Blk.new _ _ _
  have hB3 := hB1.below hb3 (by omega)
  have hR3 := hR1.below hb3 (by omega)
  have HB : Hid (Below w.heap.size w w3) := Lib.hid (hb0.trans ((hb1.mono hb0.size).trans (hb3.mono (by omega))))
  have hS3 : w.heap.size + 2 < w3.heap.size := hH3.lt
  have a0 := hB1.cell 0
  have a3 := hB1.cell 3
  have d0 := hB3.cell 0
  have d1 := hB3.cell 1
  have d2 := hB3.cell 2
  simp only [List.getElem?_toArray, List.getElem?_cons_zero, List.getElem?_cons_succ] at a0 a3 d0 d1 d2
  have h0 := hH3.cell 0
  have h1 := hH3.cell 1
  have h2 := hH3.cell 2
  have h3 := hH3.cell 3
  have r0 := hR3.cell 0
  have r1 := hR3.cell 1
  have r2 := hR3.cell 2
  have r3 := hR3.cell 3
  simp only [List.getElem?_toArray, List.getElem?_cons_zero, List.getElem?_cons_succ] at h0 h1 h2 h3 r0 r1 r2 r3
  have hf := hH3.frozen
  have rf := hR3.frozen
  have HH := Lib.hid (And.intro hH3 (And.intro hR3 hS3))
  clear hb0 hB0 hb1 hR1 hB1 hb3 hH3 hB3 hR3 hS3
  by_cases e3 : k = 3
  · rw [if_neg (by omega), if_pos e3] at hv
    rw [decide_eq_true e3] at hk3
    clear hk6 e3
    go_enter Try.func28, Try.ntmps28
    go_upto_region 1 with fail
    (try rw [hw0])
    (try rw [hw1])
    clear hw0 hw1
    go_upto_region 2 with fail
    (try rw [hw3])
    (try simp only [hs1])
    (try simp only [hs0])
    clear hw3 hs0 hs1
    go_wp2_with fail
    refine bodyPost_ret (results_cell_row rfl _ _ (w.heap.size + 1) 65 _ (0, 0) _ rfl ((HH.out.2.1.far (show w.heap.size + 1 ≠ w.heap.size + 2 by omega) _).set4 (.int .u8 (k : Int)) (.string ⟨#[]⟩) (.int .i64 n) (.int .i64 (kl : Int))) Try.underlying65 rfl (by kernel_rfl)) rfl ?_
    exact ⟨by rw [hv.out] <;> rfl, HB.out.trans (Off.below (((Off.setc _ _ _ _).mono (fun _ _ e => (e : _ = w.heap.size + 2) ▸ (show w.heap.size ≤ w.heap.size + 2 by omega))).trans ((off4 _ (w.heap.size + 1) (.int .u8 (k : Int)) (.string ⟨#[]⟩) (.int .i64 n) (.int .i64 (kl : Int))).mono (fun _ _ e => by omega))) HB.out.size (fun g e => by omega))⟩
  · by_cases e6 : k = 6
    · rw [if_pos e6, if_neg e3] at hv
      rw [decide_eq_true e6] at hk6
      rw [decide_eq_false e3] at hk3
      clear e3 e6
      go_enter Try.func28, Try.ntmps28
      go_upto_region 1 with fail
      (try rw [hw0])
      (try rw [hw1])
      clear hw0 hw1
      go_upto_region 2 with fail
      (try rw [hw3])
      (try simp only [hs1])
      (try simp only [hs0])
      clear hw3 hs0 hs1
      go_wp2_with fail
      refine bodyPost_ret (results_cell_row rfl _ _ (w.heap.size + 1) 65 _ (0, 0) _ rfl ((HH.out.2.1.far (show w.heap.size + 1 ≠ w.heap.size + 2 by omega) _).set4 (.int .u8 (k : Int)) (.string (str nm)) (.int .i64 0) (.int .i64 (kl : Int))) Try.underlying65 rfl (by kernel_rfl)) rfl ?_
      exact ⟨by rw [hv.out] <;> rfl, HB.out.trans (Off.below (((Off.setc _ _ _ _).mono (fun _ _ e => (e : _ = w.heap.size + 2) ▸ (show w.heap.size ≤ w.heap.size + 2 by omega))).trans ((off4 _ (w.heap.size + 1) (.int .u8 (k : Int)) (.string (str nm)) (.int .i64 0) (.int .i64 (kl : Int))).mono (fun _ _ e => by omega))) HB.out.size (fun g e => by omega))⟩
    · rw [if_neg e3, if_neg e6] at hv
      rw [decide_eq_false e3] at hk3
      rw [decide_eq_false e6] at hk6
      clear e3 e6
      go_enter Try.func28, Try.ntmps28
      go_upto_region 1 with fail
      (try rw [hw0])
      (try rw [hw1])
      clear hw0 hw1
      go_upto_region 2 with fail
      (try rw [hw3])
      (try simp only [hs1])
      (try simp only [hs0])
      clear hw3 hs0 hs1
      go_wp2_with fail
      refine bodyPost_ret (results_cell_row rfl _ _ (w.heap.size + 1) 65 _ (0, 0) _ rfl (HH.out.2.1.set4 (.int .u8 (k : Int)) (.string ⟨#[]⟩) (.int .i64 0) (.int .i64 (kl : Int))) Try.underlying65 rfl (by kernel_rfl)) rfl ?_
      exact ⟨by rw [hv.out] <;> rfl, HB.out.trans (Off.below (off4 _ (w.heap.size + 1) (.int .u8 (k : Int)) (.string ⟨#[]⟩) (.int .i64 0) (.int .i64 (kl : Int))) HB.out.size (fun g e => by omega))⟩
end Go.Proofs.Ytigaondgopahgaa
