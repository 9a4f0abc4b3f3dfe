/- pages: parts apart from memory. -/
import Derived.Test.YtcmaehilgeonjaaG
import Derived.Test.YtcmaehilgeonjaaOF
import Derived.Test.YtcmaehilgeonjaaW
namespace Go.Proofs.Ytcmaehilgeonjaa
open Go.RowKit Pgs

namespace Pgs
theorem trim_zeros (l : List Nat) (h : ∀ x ∈ l, x = 0) : trim l = [] := by
  induction l with
  | nil => rfl
  | cons x r ih =>
    have hx := h x (List.mem_cons_self)
    have hr := ih (fun y hy => h y (List.mem_cons_of_mem _ hy))
    unfold trim
    rw [if_pos ⟨hx, hr⟩]
theorem trim_app (a b : List Nat) (hb : ∀ x ∈ b, x = 0) (ha : a = [] ∨ ∃ x, a.getLast? = some x ∧ x ≠ 0) : trim (a ++ b) = a := by
  induction a with
  | nil => exact trim_zeros b hb
  | cons x r ih =>
    rcases ha with h | ⟨y, hy, hn⟩
    · cases h
    · cases r with
      | nil =>
        simp at hy
        subst hy
        show trim (x :: b) = [x]
        unfold trim
        rw [trim_zeros b hb, if_neg (fun h => hn h.1)]
      | cons z r =>
        have ih2 := ih (.inr ⟨y, by simpa using hy, hn⟩)
        show trim (x :: ((z :: r) ++ b)) = x :: z :: r
        unfold trim
        rw [ih2, if_neg (fun h => by cases h.2)]
/-- What the loop over a part's end leaves. -/
theorem trim_take (l : List Nat) (n : Nat) (hn : n ≤ l.length) (hz : ∀ j, n ≤ j → j < l.length → l[j]? = some 0) (he : n = 0 ∨ ∃ x, l[n - 1]? = some x ∧ x ≠ 0) : trim l = l.take n := by
  have e : l = l.take n ++ l.drop n := (List.take_append_drop n l).symm
  conv => lhs; rw [e]
  refine trim_app _ _ (fun x hx => ?_) ?_
  · obtain ⟨j, hj, rfl⟩ := List.getElem_of_mem hx
    rw [List.length_drop] at hj
    have h := hz (n + j) (by omega) (by omega)
    rw [List.getElem?_eq_getElem (by omega)] at h
    rw [List.getElem_drop]
    exact Option.some.inj h
  · rcases he with h | ⟨x, hx, hne⟩
    · subst h; exact .inl rfl
    · by_cases h0 : n = 0
      · subst h0; exact .inl rfl
      · refine .inr ⟨x, ?_, hne⟩
        rw [List.getLast?_eq_getElem?, List.length_take, Nat.min_eq_left hn, List.getElem?_take_of_lt (by omega)]
        exact hx
theorem partN_len {L : List Nat} (h : Ok L) {i : Nat} (hi : i < 9) : (partN L i).length = 124 := by
  unfold partN
  rw [List.length_take, List.length_drop, h.len]
  omega
theorem partN_get {L : List Nat} (h : Ok L) {i j : Nat} (hi : i < 9) (hj : j < 124) : ∃ x, (partN L i)[j]? = some x ∧ L[i * 124 + j]? = some x ∧ x < 65536 := by
  obtain ⟨x, hx⟩ : ∃ x, L[i * 124 + j]? = some x := ⟨_, List.getElem?_eq_getElem (by rw [h.len]; omega)⟩
  refine ⟨x, ?_, hx, h.lt _ _ hx⟩
  unfold partN
  rw [List.getElem?_take_of_lt hj, List.getElem?_drop]
  exact hx
theorem bytes2_snoc (l : List Nat) (x : Nat) : bytes2 (l ++ [x]) = bytes2 l ++ lePut x 2 := by
  unfold bytes2
  rw [List.flatMap_append]
  congr 1
theorem bytes2_len (l : List Nat) : (bytes2 l).length = 2 * l.length := by
  induction l with
  | nil => rfl
  | cons x l ih => unfold bytes2 at ih ⊢; rw [List.flatMap_cons, List.length_append, ih, List.length_cons]; simp; omega
end Pgs
end Go.Proofs.Ytcmaehilgeonjaa
