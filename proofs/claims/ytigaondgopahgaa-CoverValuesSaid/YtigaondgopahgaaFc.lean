/- cover: fit, of any patterns. -/
import Derived.Test.YtigaondgopahgaaFb
namespace Go.Proofs.Ytigaondgopahgaa
open Go.RowKit Ty
theorem fit_any {l : List Inf} {b1 b2 en : Nat} : ∀ mm, mm ≤ 50000 → FitOk l b1 b2 en mm := by
  intro mm
  induction mm with
  | zero => intro _ ps A n c w hwt; omega
  | succ mm ih =>
    intro hmm ps A n c w hwt hP hS
    exact fit_step (ih (by omega)) ps A n c w (by omega) hwt hP hS
end Go.Proofs.Ytigaondgopahgaa
