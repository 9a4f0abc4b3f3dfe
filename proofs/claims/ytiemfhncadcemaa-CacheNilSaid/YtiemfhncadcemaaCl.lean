/- cache: a frame more. -/
import Derived.Test.YtiemfhncadcemaaCk
namespace Go.Proofs.Ytiemfhncadcemaa
open Go.RowKit Dsk
def addB (B : Nat → Nat) (s f : Nat) : Nat → Nat := fun k => if k = s then f else B k
theorem addB_same (B : Nat → Nat) (s f : Nat) : addB B s f s = f := if_pos rfl
theorem addB_other (B : Nat → Nat) {s f k : Nat} (h : k ≠ s) : addB B s f k = B k := if_neg h
theorem atS_none {B : Nat → Nat} {L : List Fr} {s : Nat} (h : ∀ x ∈ L, x.s ≠ s) : atS B L (s : Int) = none := by
  unfold atS
  rw [List.find?_eq_none.2 (fun x hx => by have := h x hx; simp; omega)]; rfl
theorem atS_add (B : Nat → Nat) (y : Fr) (f : Nat) (L : List Fr) (h : ∀ x ∈ L, x.s ≠ y.s) : (fun j : Int => if j = (y.s : Int) then some f else atS B L j) = atS (addB B y.s f) (L ++ [y]) := by
  funext j
  unfold atS
  rw [List.find?_append]
  by_cases e : j = (y.s : Int)
  · rw [if_pos e, List.find?_eq_none.2 (fun x hx => by have := h x hx; simp; omega)]
    have : ([y] : List Fr).find? (fun x => (x.s : Int) == j) = some y := by simp [e]
    rw [this]
    show some f = some (addB B y.s f y.s)
    rw [addB_same]
  · rw [if_neg e]
    have : ([y] : List Fr).find? (fun x => (x.s : Int) == j) = none := by
      rw [List.find?_eq_none]
      intro x hx
      rw [List.mem_singleton.1 hx]
      simp; omega
    rw [this]
    cases hh : L.find? (fun x => (x.s : Int) == j) with
    | none => rfl
    | some x =>
      show some (B x.s) = some (addB B y.s f x.s)
      rw [addB_other B (h x (List.mem_of_find?_eq_some hh))]
theorem Cm.add {w w' : World} {E : Nat → Prop} {g dg mb n most time : Nat} {B : Nat → Nat} {L : List Fr} (h : Cm w E g dg mb n B most time L) (y : Fr) (f : Nat) (v : Value) (hno : ∀ x ∈ L, x.s ≠ y.s)
    (hf : Frm w f v y.dirty y.pins y.used) (hv : Sec w E v y.b) (hap : f ≠ g ∧ f ≠ mb ∧ ¬ E f) (hB : ∀ x ∈ L, B x.s ≠ f) (hs : y.b.length = 256 ∧ y.s < 1000000 ∧ y.pins < 1000000000)
    (hm : PMap w' mb (n + 1) (if (atS B L (y.s : Int)).isSome then L.length else L.length + 1) (fun j => if j = (y.s : Int) then some f else atS B L j)) (ho : Off (fun k => k = mb) w w') :
    Cm w' E g dg mb (n + 1) (addB B y.s f) most time (L ++ [y]) := by
  have hc : ∀ x ∈ L ++ [y], (x ∈ L ∧ addB B y.s f x.s = B x.s) ∨ (x = y ∧ addB B y.s f x.s = f) := fun x hx => by
    rcases List.mem_append.1 hx with hx | hx
    · exact .inl ⟨hx, addB_other B (hno x hx)⟩
    · rw [List.mem_singleton.1 hx]; exact .inr ⟨rfl, addB_same B _ _⟩
  rw [atS_none hno, atS_add B y f L hno] at hm
  refine ⟨Blk.same h.head (ho.block g (Blk.lt h.head) h.ne), by rw [List.length_append]; exact hm, fun x hx => ?_, fun x hx => ?_, ?_, fun x hx z hz e => ?_, fun x hx => ?_, h.e1, h.e2, h.ne⟩
  · rcases hc x hx with ⟨hx, e⟩ | ⟨rfl, e⟩
    · rw [e]
      obtain ⟨u, h1, h2⟩ := h.frm x hx
      exact ⟨u, Blk.same h1 (ho.block _ (Blk.lt h1) (h.apart x hx).2.1), h2.same ho.size (fun k hk hl => ho.block k hl (fun e => h.e2 (e ▸ hk)))⟩
    · rw [e]
      exact ⟨v, Blk.same hf (ho.block _ (Blk.lt hf) hap.2.1), hv.same ho.size (fun k hk hl => ho.block k hl (fun e => h.e2 (e ▸ hk)))⟩
  · rcases hc x hx with ⟨hx, _⟩ | ⟨rfl, _⟩
    · exact h.secs x hx
    · exact hs
  · rw [List.pairwise_append]
    exact ⟨h.nodup, List.pairwise_singleton _ _, fun a ha b hb => by rw [List.mem_singleton.1 hb]; exact hno a ha⟩
  · rcases hc x hx with ⟨hx', e1⟩ | ⟨ex, e1⟩
    · rcases hc z hz with ⟨hz', e2⟩ | ⟨ez, e2⟩
      · exact h.inj x hx' z hz' (by rw [← e1, ← e2]; exact e)
      · rw [e1, e2] at e; exact absurd e (hB x hx')
    · rcases hc z hz with ⟨hz', e2⟩ | ⟨ez, e2⟩
      · rw [e1, e2] at e; exact absurd e.symm (hB z hz')
      · rw [ex, ez]
  · rcases hc x hx with ⟨hx, e1⟩ | ⟨rfl, e1⟩
    · rw [e1]; exact h.apart x hx
    · rw [e1]; exact hap
end Go.Proofs.Ytiemfhncadcemaa
