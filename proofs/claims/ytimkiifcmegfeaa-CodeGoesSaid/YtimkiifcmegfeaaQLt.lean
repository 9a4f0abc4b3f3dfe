/- Contracts. -/
import Derived.Test.YtimkiifcmegfeaaBA
import Derived.SizedLaws
/- Sizes of what came in: no part of it is above the form's reach. -/
namespace Go.Proofs.Ytimkiifcmegfeaa
open Go.RowKit
/-- All of it is within reach. -/
def Light {H : Type} (P : Program) (t : TypeId) (d : DataW H) : Prop := ∀ n ∈ d.weights P t, n ≤ 140737488351232
section
variable {H : Type} {P : Program} {t e : TypeId}
theorem Light.top {ts : List TypeId} {ds : List (DataW H)} {d : DataW H} {j : Nat} (h : (DataW.weightsEach P ts ds).all (· ≤ reachBytes) = true) (ht : ts[j]? = some t) (hd : ds[j]? = some d) : Light P t d := fun n hn => by
  have := List.all_eq_true.1 h _ (DataW.weights_mem_each ht hd n hn)
  have h2 := of_decide_eq_true this
  exact h2
theorem weightsAll_mem {x : DataW H} : ∀ {l : List (DataW H)}, x ∈ l → ∀ n ∈ x.weights P e, n ∈ DataW.weightsAll P e l
  | [], h, _, _ => by cases h
  | y :: l, h, n, hn => by
    simp only [DataW.weightsAll, List.mem_append]
    rcases List.mem_cons.1 h with rfl | h
    · exact .inl hn
    · exact .inr (weightsAll_mem h n hn)
theorem Light.elem {elems spare : List (DataW H)} (h : Light P t (.slice elems spare)) (hu : P.underlying t = some (.slice e)) {x : DataW H} (hx : x ∈ elems) : Light P e x := fun n hn => by
  refine h n ?_
  simp only [DataW.weights, hu, List.mem_cons, List.mem_append]
  exact .inr (.inl (weightsAll_mem hx n hn))
theorem Light.len {elems spare : List (DataW H)} (h : Light P t (.slice elems spare)) (hu : P.underlying t = some (.slice e)) : (elems.length + spare.length) * P.bytesOf e ≤ 140737488351232 :=
  h _ (by simp only [DataW.weights, hu]; exact List.mem_cons_self ..)
theorem weightsEach_mem {p : DataW H} : ∀ {ts : List TypeId} {ps : List (DataW H)} {i : Nat} {t : TypeId}, ts[i]? = some t → ps[i]? = some p → ∀ n ∈ p.weights P t, n ∈ DataW.weightsEach P ts ps := fun ht hd n hn => DataW.weights_mem_each ht hd n hn
theorem Light.field {fs : Array Field} {ps : List (DataW H)} (h : Light P t (.agg ps)) (hu : P.underlying t = some (.struct fs)) {i : Nat} {f : Field} {p : DataW H} (hf : fs[i]? = some f) (hp : ps[i]? = some p) : Light P f.type p := fun n hn => by
  refine h n ?_
  simp only [DataW.weights, hu]
  exact weightsEach_mem (i := i) (by rw [List.getElem?_map]; simp [hf]) hp n hn
theorem Light.text {s : List UInt8} (h : Light P t (.lit (.string s) : DataW H)) : s.length ≤ 140737488351232 := h _ (by simp [DataW.weights])
end
end Go.Proofs.Ytimkiifcmegfeaa
