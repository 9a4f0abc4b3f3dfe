/- cover: rows of heads of a call's own. -/
import Derived.Test.YtigaondgopahgaaEq
namespace Go.Proofs.Ytigaondgopahgaa
open Go.RowKit
set_option linter.unusedVariables false
set_option linter.unusedSimpArgs false
theorem heads_snoc (l : List Ty) (p : Ty) : heads (l ++ [p]) = if p.wild then heads l else if p.head ∈ heads l then heads l else heads l ++ [p.head] := by
  unfold heads
  rw [List.filter_append]
  cases hw : p.wild with
  | true => simp [hw]
  | false => simp [hw, List.foldl_append]
theorem heads_len : ∀ l : List Ty, (heads l).length ≤ l.length := by
  intro l
  have key : ∀ n, n ≤ l.length → (heads (l.take n)).length ≤ n := by
    intro n
    induction n with
    | zero => intro _; rw [List.take_zero]; exact Nat.le_refl _
    | succ n ih =>
      intro hn
      have h1 := ih (by omega)
      rw [List.take_add_one, List.getElem?_eq_getElem (by omega)]
      show (heads (l.take n ++ [_])).length ≤ _
      rw [heads_snoc]
      split
      · omega
      · split
        · omega
        · rw [List.length_append]; simp; omega
  have := key l.length (Nat.le_refl _)
  rwa [List.take_length] at this
def Head.cells (h : Head) : List Value := [.int .u8 (h.k : Int), .string (str h.nm), .int .i64 h.n, .int .i64 (h.many : Int)]
def flatH (hs : List Head) : List Value := hs.flatMap Head.cells
theorem flatH_app (a b : List Head) : flatH (a ++ b) = flatH a ++ flatH b := by unfold flatH; rw [List.flatMap_append]
theorem flatH_cons (x : Head) (es : List Head) : flatH (x :: es) = x.cells ++ flatH es := rfl
theorem flatH_get {es : List Head} {k j : Nat} {x : Head} {v : Value} (h : es[k]? = some x) (hj : x.cells[j]? = some v) : (flatH es)[k * 4 + j]? = some v := by
  induction es generalizing k with
  | nil => simp at h
  | cons y es ih =>
    have hl : ∀ z : Head, z.cells.length = 4 := fun _ => rfl
    have hj4 : j < 4 := by rw [← hl x]; exact (List.getElem?_eq_some_iff.1 hj).1
    cases k with
    | zero =>
      simp at h
      subst h
      rw [flatH_cons, Nat.zero_mul, Nat.zero_add, List.getElem?_append_left (by rw [hl]; exact hj4)]
      exact hj
    | succ k =>
      rw [flatH_cons, List.getElem?_append_right (by rw [hl]; omega), hl, show (k + 1) * 4 + j - 4 = k * 4 + j by omega]
      exact ih (by simpa using h)
/-- A row of heads of the call's own. -/
structure HdO (B : Nat) (w : World) (v : Value) (hs : List Head) : Prop where
  own : w.ownsRow B 65 4 v hs.length (flatH hs)
section
variable {B : Nat} {w w' : World} {v : Value} {hs : List Head}
theorem HdO.nil (B : Nat) (w : World) : HdO B w (.slice none 0 0) [] := ⟨World.ownsRow_nil _ _ _ _⟩
theorem HdO.below (h : HdO B w v hs) (hb : Below w.heap.size w w') : HdO B w' v hs := ⟨own_below h.own hb⟩
theorem HdO.shape (h : HdO B w v hs) : ∃ A c, v = .slice A hs.length c ∧ hs.length ≤ c ∧ c ≤ maxLen ∧ HAt w A hs := by
  rcases h.own.2 with ⟨rfl, h0⟩ | ⟨g, cap, cur, rfl, hB, hg, h1, h2, h3, h4⟩
  · have : hs = [] := List.eq_nil_of_length_eq_zero h0
    subst this
    exact ⟨none, 0, rfl, Nat.le_refl _, Nat.zero_le _, fun r x hx => by simp at hx⟩
  · have hbk : Blk w g 65 cur := hg
    refine ⟨_, _, rfl, h1, h2, fun r x hx => ⟨g, 0, rfl, hbk.lt, ?_⟩⟩
    have hr := (List.getElem?_eq_some_iff.1 hx).1
    have hc : ∀ (j : Nat) (u : Value), x.cells[j]? = some u → w.cell? ⟨g, 0 + (r * 4 + j), none⟩ = some u := fun j u hj => by
      have hj4 : j < 4 := (List.getElem?_eq_some_iff.1 hj).1
      have h5 := flatH_get hx hj
      rw [← h4, List.getElem?_take_of_lt (by omega)] at h5
      rw [Nat.zero_add, hbk.cell]
      simpa using h5
    exact ⟨hc 0 _ rfl, hc 1 _ rfl, hc 2 _ rfl, hc 3 _ rfl⟩
/-- One more. -/
theorem HdO.push (h : HdO B w v hs) (hB : B ≤ w.heap.size) (e : Head) (b : Nat) (hb : Blk w b 65 #[.int .u8 (e.k : Int), .string (str e.nm), .int .i64 e.n, .int .i64 (e.many : Int)]) (hl : hs.length < 1000000) :
    ∃ v' w', (Builtin.append_ #[67, 67] 67 #[v, .slice (some ⟨b, 0, none⟩) 1 1]).run Try.prog w = .ok v' w' ∧ HdO B w' v' (hs ++ [e]) ∧ w.grownBy w' v.ownBlock := by
  have hI : (Try.prog.info? 65).map (fun i => (i.zero, i.size, i.bytes)) = some (some (.agg #[.int .u8 0, .string ⟨#[]⟩, .int .i64 0, .int .i64 0]), 4, 40) := by kernel_rfl
  obtain ⟨i0, hi, hz0, hz1, hz2⟩ := info_parts hI
  have hcell : ∀ (j : Nat) (u : Value), e.cells[j]? = some u → w.cell? ((⟨b, 0, none⟩ : Addr).add j) = some u := fun j u hj => by
    have hjl : j < 4 := (List.getElem?_eq_some_iff.1 hj).1
    have e2 : (⟨b, 0, none⟩ : Addr).add j = ⟨b, 0 + j, none⟩ := by unfold Addr.add; split <;> simp_all
    rw [e2, Nat.zero_add, hb.cell j]
    match j, hjl with
    | 0, _ => exact hj
    | 1, _ => exact hj
    | 2, _ => exact hj
    | 3, _ => exact hj
  obtain ⟨v', w', hrun, h2, h3, _, h5⟩ := run_append_own_at (P := Try.prog) w B 67 67 65 i0 (.agg #[.int .u8 0, .string ⟨#[]⟩, .int .i64 0, .int .i64 0]) 4 40 Try.underlying67 hi hz0 hz1 hz2 rfl (by decide) v hs.length _ h.own ⟨b, 0, none⟩ 1 1 e.cells (by simp [Head.cells]) hcell
    (fun u hu => by unfold Head.cells at hu; simp at hu; rcases hu with rfl | rfl | rfl | rfl <;> rfl) (by unfold maxLen; omega) (by omega) hB
  exact ⟨v', w', hrun, ⟨by rw [List.length_append, List.length_singleton, flatH_app]; simpa [flatH] using h2⟩, h3⟩
theorem HdO.bel (h : HdO B w v hs) (hg : w.grownBy w' v.ownBlock) {B0 : Nat} (hB : B0 ≤ B) (hB2 : B0 ≤ w.heap.size) : Below B0 w w' :=
  ((Off.of_grown hg).below (B := B0) hB2 fun k hk => by have := (h.own.lt k hk).1; omega)
end
end Go.Proofs.Ytigaondgopahgaa
