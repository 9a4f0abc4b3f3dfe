/- octet's Get, Cut, Put in one form. -/
import Derived.Test.YtcmaehilgeonjaaOE
namespace Go.Proofs.Ytcmaehilgeonjaa
open Go.RowKit Go.Shelf

def filled (bs : List UInt8) (n : Nat) : List UInt8 := bs ++ List.replicate (n - bs.length) 0

def fieldOf (bs : List UInt8) (at_ n : Nat) : List UInt8 := (bs.drop at_).take n
theorem get_ok (A : Option Addr) (cap at_ n : Nat) (bs : List UInt8) (w : World) (hn : sizeB n = true) (hle : at_ + n ≤ bs.length) (hlm : bs.length ≤ maxLen) (hA : Bytes w A bs) :
    Calls Try.prog 39 #[.slice A bs.length cap, .int .i64 at_, .int .i64 n] w fun e W' => e = .returned (.tuple #[.int .u64 (leN (fieldOf bs at_ n) : Int), .int .i64 0]) ∧ Below w.heap.size w W' := by
  unfold maxLen at hlm
  refine (get_in A bs.length cap at_ n (fieldOf bs at_ n) w hn hle (by omega) (fun k hk => ?_)).mono ?_
  · have h1 : at_ + k < bs.length := by omega
    obtain ⟨b, off, e, _, hc⟩ := hA (at_ + k) _ (List.getElem?_eq_getElem h1)
    exact ⟨b, off, _, e, by unfold fieldOf; rw [List.getElem?_take_of_lt hk, List.getElem?_drop]; exact List.getElem?_eq_getElem h1, hc⟩
  · rintro e W' ⟨rfl, hB⟩
    refine ⟨?_, hB⟩
    have : (fieldOf bs at_ n).take n = fieldOf bs at_ n := by unfold fieldOf; rw [List.take_take, Nat.min_self]
    rw [this]
theorem put_ok (A : Option Addr) (cap n x : Nat) (bs : List UInt8) (w : World) (hn : sizeB n = true) (hlm : bs.length ≤ 140737488355328) (hA : Bytes w A bs) :
    Calls Try.prog 38 #[.slice A bs.length cap, .int .u64 x, .int .i64 n] w fun e W' => e = .returned (.slice (some ⟨w.heap.size + 2, 0, none⟩) (bs.length + n) (bs.length + n)) ∧
      Blk W' (w.heap.size + 2) 5 (row8 (bs ++ lePut x n)) ∧ Below w.heap.size w W' := put_in A cap n x bs w hn hlm hA

set_option maxHeartbeats 400000 in
theorem get_no (A : Option Addr) (len cap : Nat) (at_ n : Int) (w : World) (hl : len ≤ maxLen) (hn : n < 9223372036854775808) (ha : at_ < 9223372036854775808) (h : sizeB n = false ∨ insideB len at_ n = false) :
    Calls Try.prog 39 #[.slice A len cap, .int .i64 at_, .int .i64 n] w fun e W' => e = .returned (.tuple #[.int .u64 0, .int .i64 1]) ∧ w = W' := by
  by_cases h1 : sizeB n = true
  · have h2 : insideB len at_ n = false := by
      rcases h with h | h
      · rw [h1] at h; cases h
      · exact h
    clear h
    go_enter Try.func39, Try.ntmps39
    go_wp2_with (first
      | (go_at_call 41; refine (isSize_any _ _).mono ?_; rintro e w' ⟨rfl, rfl⟩)
      | (go_at_call 44; refine (within_any _ _ _ _ _ _ hl hn ha).mono ?_; rintro e w' ⟨rfl, rfl⟩))
    go_ret2
    exact ⟨rfl, rfl⟩
  · have h2 : sizeB n = false := by simpa using h1
    clear h h1
    go_enter Try.func39, Try.ntmps39
    go_wp2_with (first
      | (go_at_call 41; refine (isSize_any _ _).mono ?_; rintro e w' ⟨rfl, rfl⟩)
      | (go_at_call 44; refine (within_any _ _ _ _ _ _ hl hn ha).mono ?_; rintro e w' ⟨rfl, rfl⟩))
    go_ret2
    exact ⟨rfl, rfl⟩

theorem get_okL (A : Option Addr) (len cap at_ n : Nat) (bs : List UInt8) (w : World) (hl : bs.length = len) (hn : sizeB n = true) (hle : at_ + n ≤ len) (hlm : len ≤ maxLen) (hA : Bytes w A bs) :
    Calls Try.prog 39 #[.slice A len cap, .int .i64 at_, .int .i64 n] w fun e W' => e = .returned (.tuple #[.int .u64 (leN (fieldOf bs at_ n) : Int), .int .i64 0]) ∧ Below w.heap.size w W' := by
  subst hl; exact get_ok A cap at_ n bs w hn hle hlm hA
theorem put_okL (A : Option Addr) (len cap n x : Nat) (bs : List UInt8) (w : World) (hl : bs.length = len) (hn : sizeB n = true) (hlm : len ≤ 140737488355328) (hA : Bytes w A bs) :
    Calls Try.prog 38 #[.slice A len cap, .int .u64 x, .int .i64 n] w fun e W' => e = .returned (.slice (some ⟨w.heap.size + 2, 0, none⟩) (len + n) (len + n)) ∧
      Blk W' (w.heap.size + 2) 5 (row8 (bs ++ lePut x n)) ∧ Below w.heap.size w W' := by subst hl; exact put_ok A cap n x bs w hn hlm hA

end Go.Proofs.Ytcmaehilgeonjaa
