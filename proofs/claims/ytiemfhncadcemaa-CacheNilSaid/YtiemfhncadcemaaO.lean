/- octet.Fill. -/
import Derived.Test.YtiemfhncadcemaaI
namespace Go.Proofs.Ytiemfhncadcemaa
open Go.RowKit

/-- Bytes, filled up. -/
def filled (bs : List UInt8) (n : Nat) : List UInt8 := bs ++ List.replicate (n - bs.length) 0
theorem filled_length (bs : List UInt8) (n : Nat) (h : bs.length ≤ n) : (filled bs n).length = n := by simp [filled]; omega

set_option maxHeartbeats 400000 in
theorem fill_ok (A : Option Addr) (cap n : Nat) (bs : List UInt8) (w : World) (hle : bs.length ≤ n) (hn : n ≤ 1048576) (hA : Bytes w A bs) :
    Calls Try.prog 47 #[.slice A bs.length cap, .int .i64 n] w fun e W' => e = .returned (.tuple #[.slice (some ⟨w.heap.size, 0, none⟩) n n, .bool true]) ∧
      Blk W' w.heap.size 5 (row8 (filled bs n)) ∧ Below w.heap.size w W' := by
  have hmk := run_mk8 n (by omega)
  have cR : Blk (w.alloc (.cells (mk8 n) 5)) w.heap.size 5 (List.replicate n (bv 0)).toArray := by
    rw [← mk8_eq]; exact Blk.new w _ _
  have cW : Below w.heap.size w (w.alloc (.cells (mk8 n) 5)) := (Below.refl _ w).alloc (Nat.le_refl _) _
  obtain ⟨w1, hcp, hR1, hg1, hs1⟩ := run_copy8 _ 3 w.heap.size n n A cap bs _ (hA.below cW) cR hle (by simp)
  have hB1 : Below w.heap.size w w1 := cW.grown hg1 (by simp) (fun k e => by cases e; omega)
  have hR2 : Blk w1 w.heap.size 5 (row8 (filled bs n)) := by
    have e : bs.map bv ++ (List.replicate n (bv 0)).drop bs.length = (bs ++ List.replicate (n - bs.length) 0).map bv := by simp
    unfold row8 filled; rw [← e]; exact hR1
  simp only [goInt] at hcp
  have HR := Lib.hid hR2
  have HB := Lib.hid hB1
  clear hR1 hR2 hB1 hg1 hs1 cR cW
  have h1 : ¬ ((n : Int) < (bs.length : Int)) := by omega
  have h2 : ¬ ((1048576 : Int) < (n : Int)) := by omega
  go_enter Try.func47, Try.ntmps47
  go_wp2
  go_ret2
  exact ⟨rfl, HR.out, HB.out⟩

set_option maxHeartbeats 400000 in
theorem fill_no (A : Option Addr) (len cap : Nat) (n : Int) (w : World) (h : n < len ∨ 1048576 < n) :
    Calls Try.prog 47 #[.slice A len cap, .int .i64 n] w fun e W' => e = .returned (.tuple #[.slice none 0 0, .bool false]) ∧ w = W' := by
  by_cases h1 : n < (len : Int)
  · go_enter Try.func47, Try.ntmps47
    go_wp2
    go_ret2
    exact ⟨rfl, rfl⟩
  · have h2 : 1048576 < n := by omega
    clear h
    go_enter Try.func47, Try.ntmps47
    go_wp2
    go_ret2
    exact ⟨rfl, rfl⟩

theorem fill_okL (A : Option Addr) (len cap n : Nat) (bs : List UInt8) (w : World) (hl : bs.length = len) (hle : len ≤ n) (hn : n ≤ 1048576) (hA : Bytes w A bs) :
    Calls Try.prog 47 #[.slice A len cap, .int .i64 n] w fun e W' => e = .returned (.tuple #[.slice (some ⟨w.heap.size, 0, none⟩) n n, .bool true]) ∧
      Blk W' w.heap.size 5 (row8 (filled bs n)) ∧ Below w.heap.size w W' := by subst hl; exact fill_ok A cap n bs w hle hn hA

end Go.Proofs.Ytiemfhncadcemaa
