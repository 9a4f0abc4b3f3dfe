/- stamp: what the laws' rows lay. -/
import Derived.Test.YtadogebhkldeiaaDoorJ
import Derived.Test.YtadogebhkldeiaaDoorCards
import Derived.Stop.LaidErr
import Derived.Lib.LaidIn
import Derived.ProofKit
namespace Go.Proofs.YtadogebhkldeiaaDoor
open Go.RowKit Go.ChangeShapes Go.WideShapes Go.ChangeAt
set_option linter.unusedVariables false
/-- The sentinel stands. -/
def Tab (w : World) : Prop := ∃ e0, w.cell? ⟨0, 0, none⟩ = some (errv e0)
theorem starE : "*" ++ "errors.errorString" = "*errors.errorString" := by decide
theorem rowE (u : TypeId) (h : Tryd.prog.typeName? 3 u = some "*errors.errorString") : u = 159 :=
  typeName_ptr_named (nm := "errors.errorString") (by rw [starE]; kernel_rfl) (by kernel_rfl) (by decide) u (by rw [starE]; exact h)
theorem tab_of {W : World} (h : laidMet Tryd.prog Rows.stampLongRow.laid W) : Tab W := by
  obtain ⟨a0, s0, hv0, _⟩ := laid_sentinel (g := 0) h.tail.tail.tail.tail (by kernel_rfl) (by kernel_rfl) Tryd.underlying54 rowE Tryd.underlying159 Tryd.underlying182 rfl rfl Tryd.underlying9 (by kernel_rfl) (by kernel_rfl)
  exact ⟨a0, by simpa [errv] using World.var?_cell (show Tryd.prog.globalNamed "aumbry/stamp.errKept" = some 0 by kernel_rfl) hv0 0⟩
def litsOf (l : List (DataW Unit)) : List Value := l.filterMap fun
  | .lit (.int k n) => some (.int k n)
  | _ => none
def cellsOf1 : DataW Unit → Array Value
  | .agg l => (litsOf l).toArray
  | _ => #[]
def cellsOf2 : DataW Unit → Array Value
  | .agg l => (l.flatMap fun
    | .agg r => litsOf r
    | _ => []).toArray
  | _ => #[]
/-- The settled world, in which all is laid. -/
noncomputable def laidW (os : Os) : World :=
  let N := (World.settled Tryd.prog os).heap.size
  let w0 := World.holding Tryd.prog os ⟨#[.cells #[.string ⟨#[115, 116, 97, 109, 112, 58, 32, 97, 32, 116, 121, 112, 101, 32, 116, 104, 97, 116, 32, 109, 97, 121, 32, 110, 111, 116, 32, 98, 101, 32, 107, 101, 112, 116]⟩] 182], #[], []⟩
  let put (h : Array Obj) (g : Nat) (cs : Array Value) : Array Obj := h.modify g fun
    | .cells _ t frozen => .cells cs t frozen
    | o => o
  let h0 := put w0.heap 0 #[.iface 159 (.pointer (some ⟨N, 0, none⟩))]
  let h1 := put h0 2 (cellsOf1 Rows.laid_unicode_utf8_first)
  let h2 := put h1 3 (cellsOf2 Rows.laid_unicode_utf8_acceptRanges)
  let h3 := put h2 4 (cellsOf1 Rows.laid_internal_strconv_uint64pow10)
  let h4 := put h3 5 (cellsOf1 Rows.laid_math_bits_deBruijn32tab)
  let h5 := put h4 6 (cellsOf1 Rows.laid_math_bits_deBruijn64tab)
  { w0 with heap := h5 }
theorem laid_met_long (os : Os) (args : Array Value) : laidMet Tryd.prog Rows.stampLongRow.laid ((laidW os).forCall (fun _ _ => 0) ⟨#[], args, []⟩).memory :=
  laidMet_of_run' 8 (by kernel_rfl) (by kernel_rfl)
end Go.Proofs.YtadogebhkldeiaaDoor
