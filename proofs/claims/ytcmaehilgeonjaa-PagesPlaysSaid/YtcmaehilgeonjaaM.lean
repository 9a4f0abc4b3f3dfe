/- pages: maps apart from memory. -/
import Derived.Test.YtcmaehilgeonjaaF
namespace Go.Proofs.Ytcmaehilgeonjaa
open Go.RowKit

namespace Pgs
/-- A map without sectors: of the code's 1116 numbers. -/
def none_ : List Nat := List.replicate 1116 0
/-- What is kept: 1116 numbers of 16 bits, none of them behind page 1023. -/
structure Ok (L : List Nat) : Prop where
  len : L.length = 1116
  lt : ∀ (i x : Nat), L[i]? = some x → x < 65536
  end_ : ∀ i, 1024 ≤ i → L.getD i 0 = 0
theorem none_ok : Ok none_ := ⟨by unfold none_; rw [List.length_replicate], fun i x h => by
    have := List.mem_of_getElem? h
    rw [none_, List.mem_replicate] at this
    omega, fun i _ => by
    unfold none_
    rw [List.getD_eq_getElem?_getD, List.getElem?_replicate]
    split <;> rfl⟩
/-- A page's sector. -/
def got (L : List Nat) (p : Int) : Nat := if 0 ≤ p ∧ p < 1024 then L.getD p.toNat 0 else 0
/-- May a page have it? -/
def setB (p s : Int) : Bool := decide (0 ≤ p ∧ p < 1024) && decide (1 ≤ s ∧ s ≤ 65535)
def setL (L : List Nat) (p s : Int) : List Nat := if setB p s then L.set p.toNat s.toNat else L
def clearB (L : List Nat) (p : Int) : Bool := decide (got L p ≠ 0)
def clearL (L : List Nat) (p : Int) : List Nat := if clearB L p then L.set p.toNat 0 else L
theorem Ok.set {L : List Nat} (h : Ok L) (i x : Nat) (hi : i < 1024) (hx : x < 65536) : Ok (L.set i x) := by
  refine ⟨by rw [List.length_set]; exact h.len, fun j y hj => ?_, fun j hj => ?_⟩
  · by_cases e : j = i
    · subst e
      rw [List.getElem?_set_self (by rw [h.len]; omega)] at hj
      cases hj; exact hx
    · rw [List.getElem?_set_ne (fun e' => e e'.symm)] at hj
      exact h.lt j y hj
  · have := h.end_ j hj
    rw [List.getD_eq_getElem?_getD] at this ⊢
    rw [List.getElem?_set_ne (by omega)]
    exact this
theorem setL_ok {L : List Nat} (h : Ok L) (p s : Int) : Ok (setL L p s) := by
  unfold setL
  split
  · rename_i hb
    unfold setB at hb
    simp only [Bool.and_eq_true, decide_eq_true_eq] at hb
    exact h.set _ _ (by omega) (by omega)
  · exact h
theorem clearL_ok {L : List Nat} (h : Ok L) (p : Int) : Ok (clearL L p) := by
  unfold clearL
  split
  · rename_i hb
    unfold clearB got at hb
    simp only [decide_eq_true_eq] at hb
    have : 0 ≤ p ∧ p < 1024 := by
      by_cases e : 0 ≤ p ∧ p < 1024
      · exact e
      · rw [if_neg e] at hb; exact absurd rfl hb
    exact h.set _ _ (by omega) (by decide)
  · exact h

/-- The pages that have a sector, rising; their sectors. -/
def pagesL (L : List Nat) : List Nat := (List.range 1024).filter fun i => decide (L.getD i 0 ≠ 0)
def sectorsL (L : List Nat) : List Nat := (pagesL L).map fun i => L.getD i 0
/-- The pages below one. -/
def pagesTo (L : List Nat) (k : Nat) : List Nat := (List.range k).filter fun i => decide (L.getD i 0 ≠ 0)
theorem pagesTo_succ (L : List Nat) (k : Nat) : pagesTo L (k + 1) = if L.getD k 0 = 0 then pagesTo L k else pagesTo L k ++ [k] := by
  unfold pagesTo
  rw [List.range_succ, List.filter_append]
  by_cases h : L.getD k 0 = 0
  · rw [if_pos h]; rw [List.getD_eq_getElem?_getD] at h; simp [h]
  · rw [if_neg h]; rw [List.getD_eq_getElem?_getD] at h; simp [h]
theorem pagesTo_len (L : List Nat) (k : Nat) : (pagesTo L k).length ≤ k := by
  unfold pagesTo
  have := List.length_filter_le (fun i => decide (L.getD i 0 ≠ 0)) (List.range k)
  rw [List.length_range] at this
  exact this
theorem pagesTo_lt (L : List Nat) (k : Nat) : ∀ p ∈ pagesTo L k, p < k ∧ L.getD p 0 ≠ 0 := fun p hp => by
  unfold pagesTo at hp
  simp only [List.mem_filter, List.mem_range, decide_eq_true_eq] at hp
  exact hp

/-- A part's numbers. -/
def partN (L : List Nat) (i : Nat) : List Nat := (L.drop (i * 124)).take 124
/-- Without the noughts at its end. -/
def trim : List Nat → List Nat
  | [] => []
  | x :: r => if x = 0 ∧ trim r = [] then [] else x :: trim r
def bytes2 (l : List Nat) : List UInt8 := l.flatMap fun x => [UInt8.ofNat x, UInt8.ofNat (x / 256)]
def partB (L : List Nat) (i : Nat) : List UInt8 := bytes2 (trim (partN L i))
/-- The numbers that bytes say. -/
def said (b : List UInt8) : List Nat := (List.range (b.length / 2)).map fun k => (b.getD (2 * k) 0).toNat + 256 * (b.getD (2 * k + 1) 0).toNat
def layB (i : Int) (b : List UInt8) : Bool := decide (0 ≤ i ∧ i < 9) && decide (b.length ≤ 248) && decide (b.length % 2 = 0) && decide (∀ k, k < b.length / 2 → (said b).getD k 0 ≠ 0 → i.toNat * 124 + k < 1024) && decide (b.length = 0 ∨ (said b).getD (b.length / 2 - 1) 0 ≠ 0)
def layL (L : List Nat) (i : Int) (b : List UInt8) : List Nat := if layB i b then L.take (i.toNat * 124) ++ (said b ++ List.replicate (124 - b.length / 2) 0) ++ L.drop (i.toNat * 124 + 124) else L
/-- The parts that are not the same. -/
def turnedL (L K : List Nat) : List Nat := (List.range 9).filter fun i => decide (partN L i ≠ partN K i)
end Pgs
end Go.Proofs.Ytcmaehilgeonjaa
