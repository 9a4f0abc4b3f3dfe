/- What the row's list gives: the table of rests lies as its text lays it. -/
import Derived.Test.YtlgoacpmacomnaaDoorRows
import Derived.Test.YtlgoacpmacomnaaDoorCX
import Derived.Deep.DeepHandedRow
import Derived.Lib.LaidTab
namespace Go.Proofs.YtlgoacpmacomnaaDoor
open Go.RowKit Go.ChangeShapes Go.WideShapes Go.ChangeAt Crc

theorem gTab : Tryd.prog.globalNamed "aumbry/crc.rests" = some 0 := by kernel_rfl
theorem gTabType : (Tryd.prog.globals[0]?).map (·.type) = some 69 := by kernel_rfl
theorem cellsA : Tryd.prog.cellsOf 69 = 16 := by kernel_rfl
theorem cellsU : Tryd.prog.cellsOf 36 = 1 := by kernel_rfl
def rests : List Int := [0, 498536548, 997073096, 651767980, 1994146192, 1802195444, 1303535960, 1342533948, 3988292384, 4027552580, 3604390888, 3412177804, 2607071920, 2262029012, 2685067896, 3183342108]
theorem rests_tab : ∀ i : Fin 16, rests.getD i.1 0 = (tab i.1 : Int) := by decide +kernel
theorem tabIs {W : World} (h : laidMetH Tryd.prog [("aumbry/crc.rests", Rows.laid_aumbry_crc_rests)] W) : Lib.TabIs Tryd.prog W "aumbry/crc.rests" .u32 rests :=
  Lib.tabIs_of_head (rest := []) gTab gTabType Tryd.underlying69 Tryd.underlying36 cellsU cellsA h
theorem tab_of {W : World} (h : laidMetH Tryd.prog [("aumbry/crc.rests", Rows.laid_aumbry_crc_rests)] W) : Tab W := fun i hi => by
  have hc := (tabIs h).cell gTab i (by simpa [rests] using hi)
  rw [rests_tab ⟨i, hi⟩] at hc
  exact hc

end Go.Proofs.YtlgoacpmacomnaaDoor
