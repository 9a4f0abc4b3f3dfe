/- pages: a part read up to page 1023, apart from memory. -/
import Derived.Test.YtcmaehilgeonjaaQ
namespace Go.Proofs.Ytcmaehilgeonjaa
open Go.RowKit Pgs
namespace Pgs
theorem trim_rep (n : Nat) : trim (List.replicate n 0) = [] := by
  induction n with
  | zero => rfl
  | succ n ih => rw [List.replicate_succ, trim, if_pos ⟨rfl, ih⟩]
theorem trim_rep0 (P : List Nat) (n : Nat) : trim (P ++ List.replicate n 0) = trim P := by
  induction P with
  | nil => rw [List.nil_append, trim_rep]; rfl
  | cons x r ih => rw [List.cons_append, trim, trim, ih]
/-- A part's numbers, up to page 1023. -/
def partR (L : List Nat) (i : Nat) : List Nat := partN (L.take 1024) i
theorem partR_len {L : List Nat} (h : Ok L) {i : Nat} (hi : i < 9) : (partR L i).length = min 124 (1024 - i * 124) := by
  unfold partR partN
  rw [List.length_take, List.length_drop, List.length_take, h.len]; omega
theorem partR_get {L : List Nat} {i j : Nat} (hj : j < 124) (hp : i * 124 + j < 1024) : (partR L i)[j]? = L[i * 124 + j]? := by
  unfold partR partN
  rw [List.getElem?_take_of_lt hj, List.getElem?_drop, List.getElem?_take_of_lt hp]
theorem partN_R {L : List Nat} (h : Ok L) {i : Nat} (hi : i < 9) : partN L i = partR L i ++ List.replicate (124 - (partR L i).length) 0 := by
  have hl := partR_len h hi
  apply List.ext_getElem?
  intro j
  rcases Nat.lt_or_ge j 124 with hj | hj
  · rcases Nat.lt_or_ge (i * 124 + j) 1024 with hp | hp
    · rw [List.getElem?_append_left (by omega), partR_get hj hp]
      unfold partN
      rw [List.getElem?_take_of_lt hj, List.getElem?_drop]
    · rw [List.getElem?_append_right (by omega), List.getElem?_replicate, if_pos (by omega)]
      unfold partN
      rw [List.getElem?_take_of_lt hj, List.getElem?_drop]
      have := h.end_ (i * 124 + j) hp
      rw [List.getD_eq_getElem?_getD, List.getElem?_eq_getElem (show i * 124 + j < L.length by rw [h.len]; omega)] at this
      rw [List.getElem?_eq_getElem (show i * 124 + j < L.length by rw [h.len]; omega)]
      exact congrArg some this
  · rw [List.getElem?_eq_none (by rw [partN_len h hi]; exact hj), List.getElem?_eq_none (by rw [List.length_append, List.length_replicate]; omega)]
theorem partB_R {L : List Nat} (h : Ok L) {i : Nat} (hi : i < 9) : partB L i = bytes2 (trim (partR L i)) := by
  unfold partB
  rw [partN_R h hi, trim_rep0]
/-- When the reference lays. -/
theorem layB_ref {bs : List UInt8} {i n : Nat} (hi : i < 9) (hl : bs.length = 2 * n) (hn : n ≤ 124) (he : n = 0 ∨ ∃ x, (said bs)[n - 1]? = some x ∧ x ≠ 0) : layB (i : Int) bs = decide (i * 124 + n ≤ 1024) := by
  by_cases hp : i * 124 + n ≤ 1024
  · rw [decide_eq_true hp]
    exact layB_true hi hl hn (fun k x hk _ _ => by omega) he
  · rw [decide_eq_false hp]
    rcases he with e | ⟨x, hx, h0⟩
    · omega
    · exact layB_page hl (show n - 1 < n by omega) hx h0 (by omega)
end Pgs
end Go.Proofs.Ytcmaehilgeonjaa
