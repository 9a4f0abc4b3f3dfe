/- cover: isWild. -/
import Derived.Test.YtigaondgopahgaaMa
import Derived.Deep.CutBlock
import Derived.Deep.RegionHeld3
import Derived.Lib.LazyBuf
import Derived.Laws.Rows
namespace Go.Proofs.Ytigaondgopahgaa
open Go.RowKit
set_option linter.unusedVariables false
set_option linter.unusedSimpArgs false
attribute [local go_sem] Oper.semAt_some
theorem eq_of (k m : Nat) : (((k : Nat) : Int) == ((m : Nat) : Int)) = decide (k = m) := by
  by_cases e : k = m
  · subst e; simp
  · rw [decide_eq_false e]; simp; omega
set_option maxRecDepth 20000 in
set_option maxHeartbeats 8000000 in
theorem isWild_any (t : Ty) (A : Option Addr) (c : Nat) (w : World) :
    Calls Try.prog 25 #[t.val A c] w fun e w' => e = .returned (.bool t.wild) ∧ Below w.heap.size w w' := by
  obtain ⟨k, nm, n, ks⟩ := t
  show Calls Try.prog 25 #[.agg #[.int .u8 (k : Int), .string (str nm), .int .i64 n, .slice A ks.length c]] w _
  obtain ⟨kl, hkl⟩ : ∃ kl, ks.length = kl := ⟨_, rfl⟩
  rw [hkl]
  obtain ⟨w0, hw0⟩ : ∃ w0, w.alloc (.cells #[.int .u8 (k : Int), .string (str nm), .int .i64 n, .slice A kl c] 40) = w0 := ⟨_, rfl⟩
  have hb0 : Below w.heap.size w w0 := by rw [← hw0]; exact (Below.refl _ _).alloc (Nat.le_refl _) _
  have hB0 : Blk w0 w.heap.size 40 #[.int .u8 (k : Int), .string (str nm), .int .i64 n, .slice A kl c] := by rw [← hw0]; exact Blk.new _ _ _
  have d0 := hB0.cell 0
  simp only [List.getElem?_toArray, List.getElem?_cons_zero, List.getElem?_cons_succ] at d0
  have HB := Lib.hid hb0
  clear hb0 hB0 hkl
  have hk1 : (((k : Nat) : Int) == 1) = decide (k = 1) := eq_of k 1
  have hk2 : (((k : Nat) : Int) == 2) = decide (k = 2) := eq_of k 2
  have hv : Hid (Ty.wild (.node k nm n ks) = (decide (k = 1) || decide (k = 2))) := Lib.hid (by unfold Ty.wild Ty.k; simp only [Nat.beq_eq_true_eq, Bool.decide_or]; rfl)
  by_cases e1 : k = 1
  · rw [decide_eq_true e1] at hk1 hv
    clear e1 hk2
    go_enter Try.func25, Try.ntmps25
    go_upto_region 1 with fail
    (try rw [hw0])
    clear hw0
    go_wp2_with fail
    go_ret
    exact ⟨congrArg (fun b => Ending.returned (Value.bool b)) (by rw [hv.out]; rfl), HB.out⟩
  · rw [decide_eq_false e1] at hk1 hv
    clear e1
    obtain ⟨b2, hb2⟩ : ∃ b2, decide (k = 2) = b2 := ⟨_, rfl⟩
    rw [hb2] at hk2 hv
    clear hb2
    cases b2 with
    | true =>
      go_enter Try.func25, Try.ntmps25
      go_upto_region 1 with fail
      (try rw [hw0])
      clear hw0
      go_wp2_with fail
      go_ret
      exact ⟨congrArg (fun b => Ending.returned (Value.bool b)) (by rw [hv.out]; rfl), HB.out⟩
    | false =>
      go_enter Try.func25, Try.ntmps25
      go_upto_region 1 with fail
      (try rw [hw0])
      clear hw0
      go_wp2_with fail
      go_ret
      exact ⟨congrArg (fun b => Ending.returned (Value.bool b)) (by rw [hv.out]; rfl), HB.out⟩
end Go.Proofs.Ytigaondgopahgaa
