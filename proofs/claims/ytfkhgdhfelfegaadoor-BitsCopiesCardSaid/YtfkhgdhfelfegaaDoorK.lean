/- What the row's list gives: the library's table lies as its text lays it. -/
import Derived.Test.YtfkhgdhfelfegaaDoorRows
import Derived.Test.YtfkhgdhfelfegaaDoorB
import Derived.Deep.DeepHandedRow
import Derived.Lib.LaidTab
namespace Go.Proofs.YtfkhgdhfelfegaaDoor
open Go.RowKit Go.ChangeShapes Go.WideShapes Go.ChangeAt Bts

theorem gTab : Tryd.prog.globalNamed "math/bits.deBruijn64tab" = some 0 := by kernel_rfl
theorem gTabType : (Tryd.prog.globals[0]?).map (·.type) = some 62 := by kernel_rfl
theorem cellsA : Tryd.prog.cellsOf 62 = 64 := by kernel_rfl
theorem cellsU : Tryd.prog.cellsOf 5 = 1 := by kernel_rfl
def rests : List Int := [0, 1, 56, 2, 57, 49, 28, 3, 61, 58, 42, 50, 38, 29, 17, 4, 62, 47, 59, 36, 45, 43, 51, 22, 53, 39, 33, 30, 24, 18, 12, 5, 63, 55, 48, 27, 60, 41, 37, 16, 46, 35, 44, 21, 52, 32, 23, 11, 54, 26, 40, 15, 34, 20, 31, 10, 25, 14, 19, 9, 13, 8, 7, 6]
theorem rests_tab : ∀ i : Fin 64, rests.getD i.1 0 = (Lib.deBruijn64tab.getD i.1 0 : Nat) := by decide +kernel
theorem tabIs {W : World} (h : laidMetH Tryd.prog [("math/bits.deBruijn64tab", Rows.laid_math_bits_deBruijn64tab)] W) : Lib.TabIs Tryd.prog W "math/bits.deBruijn64tab" .u8 rests :=
  Lib.tabIs_of_head (rest := []) gTab gTabType Tryd.underlying62 Tryd.underlying5 cellsU cellsA h
theorem tab_of {W : World} (h : laidMetH Tryd.prog [("math/bits.deBruijn64tab", Rows.laid_math_bits_deBruijn64tab)] W) : Tab W := fun i hi => by
  have hc := (tabIs h).cell gTab i (by simpa [rests] using hi)
  rw [rests_tab ⟨i, hi⟩] at hc
  exact hc

end Go.Proofs.YtfkhgdhfelfegaaDoor
