/- heap: words, made. -/
import Derived.Test.YtclkkfffecmjnaaP
namespace Go.Proofs.Ytclkkfffecmjnaa
open Go.RowKit
attribute [local go_sem] Oper.semAt_some
theorem number_any (i : Int) (w : World) : Calls Try.prog 41 #[.int .i64 i] w fun e w' => e = .returned (.agg #[.int .u8 1, .int .i64 i]) ∧ Below w.heap.size w w' := by
  obtain ⟨w0, hw0⟩ : ∃ w0, w.alloc (.cells #[.int .u8 0, .int .i64 0] 37) = w0 := ⟨_, rfl⟩
  have hb : Below w.heap.size w w0 := by rw [← hw0]; exact (Below.refl _ _).alloc (Nat.le_refl _) _
  have hR : Blk w0 w.heap.size 37 #[.int .u8 0, .int .i64 0] := by rw [← hw0]; exact Blk.new _ _ _
  have r0 := hR.cell 0
  have r1 := hR.cell 1
  have rf := hR.frozen
  simp only [List.getElem?_toArray, List.getElem?_cons_zero, List.getElem?_cons_succ] at r0 r1
  have HR := Lib.hid (And.intro hb hR)
  clear hb hR
  go_enter Try.func41, Try.ntmps41
  go_wp2_with fail
  have HB6 := (HR.out.2.set_ 0 (.int .u8 1)).set_ 1 (.int .i64 i)
  refine bodyPost_ret (results_cell_row rfl _ _ w.heap.size 37 _ (0, 0) _ rfl HB6 Try.underlying37 rfl (by kernel_rfl)) rfl ?_
  exact ⟨rfl, (HR.out.1.setCell (p := ⟨w.heap.size, 0, none⟩) (Nat.le_refl _) _).setCell (p := ⟨w.heap.size, 1, none⟩) (Nat.le_refl _) _⟩
theorem handle_any (i : Int) (w : World) : Calls Try.prog 42 #[.int .i64 i] w fun e w' => e = .returned (.agg #[.int .u8 2, .int .i64 i]) ∧ Below w.heap.size w w' := by
  obtain ⟨w0, hw0⟩ : ∃ w0, w.alloc (.cells #[.int .u8 0, .int .i64 0] 37) = w0 := ⟨_, rfl⟩
  have hb : Below w.heap.size w w0 := by rw [← hw0]; exact (Below.refl _ _).alloc (Nat.le_refl _) _
  have hR : Blk w0 w.heap.size 37 #[.int .u8 0, .int .i64 0] := by rw [← hw0]; exact Blk.new _ _ _
  have r0 := hR.cell 0
  have r1 := hR.cell 1
  have rf := hR.frozen
  simp only [List.getElem?_toArray, List.getElem?_cons_zero, List.getElem?_cons_succ] at r0 r1
  have HR := Lib.hid (And.intro hb hR)
  clear hb hR
  go_enter Try.func42, Try.ntmps42
  go_wp2_with fail
  have HB6 := (HR.out.2.set_ 0 (.int .u8 2)).set_ 1 (.int .i64 i)
  refine bodyPost_ret (results_cell_row rfl _ _ w.heap.size 37 _ (0, 0) _ rfl HB6 Try.underlying37 rfl (by kernel_rfl)) rfl ?_
  exact ⟨rfl, (HR.out.1.setCell (p := ⟨w.heap.size, 0, none⟩) (Nat.le_refl _) _).setCell (p := ⟨w.heap.size, 1, none⟩) (Nat.le_refl _) _⟩
end Go.Proofs.Ytclkkfffecmjnaa
