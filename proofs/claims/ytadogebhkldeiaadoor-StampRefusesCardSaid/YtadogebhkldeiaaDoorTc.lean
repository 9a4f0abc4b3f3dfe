/- stamp: StampRefuses and what its row lays. -/
import Derived.Test.YtadogebhkldeiaaDoorTb
import Derived.Test.YtadogebhkldeiaaDoorRf
namespace Go.Proofs.YtadogebhkldeiaaDoor
open Go.RowKit
theorem refuses_tab (x y : Nat) (b : Bool) (hx : x < 256) (hy : y < 256) (w : World) (h : Tab w) : Calls Tryd.prog 4 #[.int .u8 (x : Int), .int .u8 (y : Int), .bool b] w fun e w' => e = .returned (.bool true) ∧ Below w.heap.size w w' := by
  obtain ⟨e0, he⟩ := h
  exact refuses_law x y b hx hy e0 w he
end Go.Proofs.YtadogebhkldeiaaDoor
