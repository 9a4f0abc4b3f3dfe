/- cover: useful. -/
import Derived.Test.YtigaondgopahgaaUb
import Derived.Test.YtigaondgopahgaaUc
namespace Go.Proofs.Ytigaondgopahgaa
open Go.RowKit Ty
theorem use_any {l : List Inf} {b1 b2 en : Nat} (hof : ∀ s, (ofOf l s).length ≤ maxLen) : ∀ mm, mm ≤ 50000 → UseOk l b1 b2 en mm := by
  intro mm
  induction mm with
  | zero =>
    intro _ rows q A n c B nq cq w hwt hR hQ hlen hS hn
    have hq : q = [] := List.length_eq_zero_iff.1 (by omega)
    subst hq
    have hnq : nq = 0 := by have := hQ.len; simpa using this.symm
    subst hnq
    cases rows with
    | nil =>
      have hn0 : n = 0 := by have := hR.len; simpa using this.symm
      subst hn0
      rw [useful_nil]
      exact use_nil b1 b2 A c B 0 cq w
    | cons r rows =>
      rw [useful_none]
      exact use_none b1 b2 A n c B cq w (by have := hR.len; simp at this; omega) hn
  | succ mm ih =>
    intro hmm rows q A n c B nq cq w hwt hR hQ hlen hS hn
    cases rows with
    | nil =>
      have hn0 : n = 0 := by have := hR.len; simpa using this.symm
      subst hn0
      rw [useful_nil]
      exact use_nil b1 b2 A c B nq cq w
    | cons r rows =>
      cases q with
      | nil =>
        have hnq : nq = 0 := by have := hQ.len; simpa using this.symm
        subst hnq
        rw [useful_none]
        exact use_none b1 b2 A n c B cq w (by have := hR.len; simp at this; omega) hn
      | cons p q =>
        cases hw : p.wild with
        | false => exact use_tame (ih (by omega)) r rows p q A n c B nq cq w (by omega) hwt hR hQ hlen hS hn hw
        | true =>
          cases hwh : wholeOf l (heads ((r :: rows).filterMap List.head?)) with
          | true => exact use_whole (ih (by omega)) hof r rows p q A n c B nq cq w (by omega) hwt hR hQ hlen hS hn hw hwh
          | false =>
            by_cases hcq : cq = 1
            · subst hcq
              have hnq : nq = 1 := by have h1 := hQ.len; have h2 := hQ.le; simp at h1; omega
              subst hnq
              exact use_rest1 (ih (by omega)) hof r rows p q A n c B w (by omega) hwt hR hQ hlen hS hn hw hwh
            · exact use_rest2 (ih (by omega)) hof r rows p q A n c B nq cq w (by omega) hwt hR hQ hlen hS hn hw hwh hcq
end Go.Proofs.Ytigaondgopahgaa
