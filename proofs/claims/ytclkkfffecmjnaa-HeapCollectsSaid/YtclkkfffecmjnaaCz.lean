/- HeapCollects: the roots that came in. -/
import Derived.Test.YtclkkfffecmjnaaCo
import Derived.Test.YtclkkfffecmjnaaAd
namespace Go.Proofs.Ytclkkfffecmjnaa
open Go.RowKit Go.ChangeShapes Go.WideShapes
set_option linter.unusedVariables false
set_option maxRecDepth 20000
def OpenedInts (w : World) (v : Value) : Prop := ∃ A n c zs, v = .slice A n c ∧ zs.length = n ∧ n ≤ c ∧ c ≤ maxLen ∧ Ints w A zs
theorem openedInts {H : Type} {enc : TypeId × Value → H} {W : World} {v : Value} {d : DataW H} {p : List MemPlace} (hok : Value.okWide Try.prog W .any 0 41 v)
    (h : DataW.Trod enc Try.prog W 0 (fun _ => true) true 41 v d p) : OpenedInts W v := by
  obtain ⟨a0, len0, cap0, rfl⟩ := okWide_slice Try.underlying41 hok
  obtain ⟨fuel, hf⟩ := h
  obtain ⟨A, len, cap, ks, e, h1, h2, h3, h4, _⟩ := ints_in (v := .slice a0 len0 cap0) (by simpa [Value.cells] using hf)
  exact ⟨A, len, cap, ks, e, h1, h2, h3, h4⟩
end Go.Proofs.Ytclkkfffecmjnaa
