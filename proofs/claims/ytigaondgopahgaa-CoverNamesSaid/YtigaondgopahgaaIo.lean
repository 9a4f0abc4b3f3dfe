/- cover: a row of infos of a call's own. -/
import Derived.Test.YtigaondgopahgaaPn
namespace Go.Proofs.Ytigaondgopahgaa
open Go.RowKit
set_option linter.unusedVariables false
set_option linter.unusedSimpArgs false
def flatJ (xs : List InfX) : List Value := xs.flatMap InfX.cells
theorem InfX.cells_len (x : InfX) : x.cells.length = 5 := rfl
theorem flatJ_cons (x : InfX) (xs : List InfX) : flatJ (x :: xs) = x.cells ++ flatJ xs := rfl
theorem flatJ_app (a b : List InfX) : flatJ (a ++ b) = flatJ a ++ flatJ b := by unfold flatJ; rw [List.flatMap_append]
theorem flatJ_len (xs : List InfX) : (flatJ xs).length = xs.length * 5 := by
  induction xs with
  | nil => rfl
  | cons x xs ih => rw [flatJ_cons, List.length_append, ih, InfX.cells_len, List.length_cons]; omega
theorem flatJ_one (xs : List InfX) : ∀ u ∈ flatJ xs, u.oneCell' = true := fun u hu => by
  unfold flatJ at hu
  obtain ⟨e, _, he⟩ := List.mem_flatMap.1 hu
  unfold InfX.cells at he
  simp at he
  rcases he with rfl | rfl | rfl | rfl | rfl <;> rfl
theorem flatJ_get {xs : List InfX} {k j : Nat} {x : InfX} {v : Value} (h : xs[k]? = some x) (hj : x.cells[j]? = some v) : (flatJ xs)[k * 5 + j]? = some v := by
  induction xs generalizing k with
  | nil => simp at h
  | cons y xs ih =>
    have hj5 : j < 5 := (List.getElem?_eq_some_iff.1 hj).1
    cases k with
    | zero =>
      simp at h
      subst h
      rw [flatJ_cons, Nat.zero_mul, Nat.zero_add, List.getElem?_append_left (by rw [InfX.cells_len]; exact hj5)]
      exact hj
    | succ k =>
      rw [flatJ_cons, List.getElem?_append_right (by rw [InfX.cells_len]; omega), InfX.cells_len, show (k + 1) * 5 + j - 5 = k * 5 + j by omega]
      exact ih (by simpa using h)
structure IO (B : Nat) (w : World) (v : Value) (xs : List InfX) : Prop where
  own : w.ownsRow B 30 5 v xs.length (flatJ xs)
  txt : ∀ x ∈ xs, x.i.nm.length ≤ maxLen ∧ x.i.of.length ≤ maxLen
section
variable {B : Nat} {w w' : World} {v : Value} {xs : List InfX}
theorem IO.nil (B : Nat) (w : World) : IO B w (.slice none 0 0) [] := ⟨World.ownsRow_nil _ _ _ _, fun e h => by cases h⟩
theorem IO.below (h : IO B w v xs) (hb : Below w.heap.size w w') : IO B w' v xs := ⟨own_below h.own hb, h.txt⟩
theorem IO.shape (h : IO B w v xs) : ∃ A c, v = .slice A xs.length c ∧ IAt Everywhere w A xs.length c xs := by
  rcases h.own.2 with ⟨rfl, h0⟩ | ⟨g, cap, cur, rfl, hB, hg, h1, h2, h3, h4⟩
  · have : xs = [] := List.eq_nil_of_length_eq_zero h0
    subst this
    exact ⟨none, 0, rfl, rfl, Nat.le_refl _, Nat.zero_le _, fun r x hx => by simp at hx⟩
  · have hbk : Blk w g 30 cur := hg
    refine ⟨_, _, rfl, rfl, h1, h2, fun r x hx => ⟨g, 0, rfl, trivial, hbk.lt, fun j u hj => ?_, h.txt x (List.mem_of_getElem? hx)⟩⟩
    have hj5 : j < 5 := (List.getElem?_eq_some_iff.1 hj).1
    have hr := (List.getElem?_eq_some_iff.1 hx).1
    have h5 := flatJ_get hx hj
    rw [← h4, List.getElem?_take_of_lt (by omega)] at h5
    rw [Nat.zero_add, hbk.cell]
    simpa using h5
theorem infoInfo : (Try.prog.info? 30).map (fun i => (i.zero, i.size, i.bytes)) = some (some (.agg #[.string ⟨#[]⟩, .string ⟨#[]⟩, .int .i64 0, .int .i64 0, .bool false]), 5, 56) := by kernel_rfl
theorem IO.app (h : IO B w v xs) (hB : B ≤ w.heap.size) (x : InfX) (a : Addr) (hb : ∀ (j : Nat) (u : Value), x.cells[j]? = some u → w.cell? (a.add j) = some u) (ht : x.i.nm.length ≤ maxLen ∧ x.i.of.length ≤ maxLen) (hl : xs.length < 1000) :
    ∃ v' w', (Builtin.append_ #[23, 23] 23 #[v, .slice (some a) 1 1]).run Try.prog w = .ok v' w' ∧ IO B w' v' (xs ++ [x]) ∧ Below B w w' := by
  obtain ⟨i0, hi, hz0, hz1, hz2⟩ := info_parts infoInfo
  obtain ⟨v', w', hrun, h2, h3, _, h5⟩ := run_append_own_at (P := Try.prog) w B 23 23 30 i0 (.agg #[.string ⟨#[]⟩, .string ⟨#[]⟩, .int .i64 0, .int .i64 0, .bool false]) 5 56 Try.underlying23 hi hz0 hz1 hz2 rfl (by decide) v xs.length _ h.own a 1 1 x.cells rfl hb
    (fun u hu => flatJ_one [x] u (by unfold flatJ; simpa using hu)) (by unfold maxLen; omega) (by omega) hB
  refine ⟨v', w', hrun, ⟨?_, fun y hy => ?_⟩, ((Off.of_grown h3).below hB fun k hk => (h.own.lt k hk).1)⟩
  · rw [List.length_append, flatJ_app]
    have : flatJ [x] = x.cells := by unfold flatJ; simp
    rw [this]
    exact h2
  · rcases List.mem_append.1 hy with hy | hy
    · exact h.txt y hy
    · rw [List.mem_singleton.1 hy]; exact ht
end
/-- What the law makes of one. -/
def InfX.back (x : InfX) : InfX := ⟨x.i, 0, -1⟩
theorem back_i (l : List InfX) : (l.map InfX.back).map InfX.i = l.map InfX.i := by
  rw [List.map_map]; rfl
theorem told_back (xs : List InfX) (hd : (xs.map InfX.i).Pairwise fun a b => a.nm ≠ b.nm) (ps : List Ty) (b : Bool) : told ((xs.reverse.map InfX.back).map InfX.i) ps b = told (xs.map InfX.i) ps b := by
  rw [back_i, List.map_reverse, told_reverse hd]
/-- The names behind a place are each another than those ahead. -/
def Apart18 (xs : List InfX) (k : Nat) : Prop := ∀ i j (x y : InfX), k ≤ j → i < j → xs[i]? = some x → xs[j]? = some y → x.i.nm ≠ y.i.nm
theorem Apart18.all {xs : List InfX} (h : Apart18 xs 0) : (xs.map InfX.i).Pairwise fun a b => a.nm ≠ b.nm := by
  rw [List.pairwise_iff_getElem]
  intro i j hi hj hij
  rw [List.length_map] at hi hj
  have := h i j xs[i] xs[j] (Nat.zero_le _) hij (List.getElem?_eq_getElem hi) (List.getElem?_eq_getElem hj)
  simpa using this
theorem Apart18.down {xs : List InfX} {k : Nat} (h : Apart18 xs (k + 1)) {y : InfX} (hy : xs[k]? = some y) (hk : ∀ i x, i < k → xs[i]? = some x → x.i.nm ≠ y.i.nm) : Apart18 xs k := fun i j x z hj hij hx hz => by
  rcases Nat.lt_or_ge k j with h1 | h1
  · exact h i j x z h1 hij hx hz
  · obtain rfl : j = k := by omega
    rw [hy] at hz
    cases hz
    exact hk i x hij hx
theorem rev_snoc {xs : List InfX} {m k : Nat} (hm : xs.length = m) (hk : k < m) {y : InfX} (hy : xs[k]? = some y) : (xs.drop k).reverse.map InfX.back = (xs.drop (k + 1)).reverse.map InfX.back ++ [y.back] := by
  have h1 : xs.drop k = y :: xs.drop (k + 1) := by
    have hlt : k < xs.length := by omega
    have := List.drop_eq_getElem_cons hlt
    rw [this]
    have e : xs[k] = y := by have := List.getElem?_eq_getElem hlt; rw [hy] at this; exact (Option.some.inj this).symm
    rw [e]
  rw [h1, List.reverse_cons, List.map_append]
  rfl
end Go.Proofs.Ytigaondgopahgaa
