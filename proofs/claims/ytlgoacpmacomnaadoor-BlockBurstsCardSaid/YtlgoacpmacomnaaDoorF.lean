/- A pair of 32-bit numbers that came in. -/
import Derived.Test.YtlgoacpmacomnaaDoorE
import Derived.WideKeyPair
namespace Go.Proofs.YtlgoacpmacomnaaDoor
open Go.RowKit Go.ChangeShapes Go.WideShapes

theorem pairKey : Go.WideMaps.ArrKey Tryd.prog 37 36 2 := ⟨Tryd.underlying37, by kernel_rfl, by kernel_rfl, by kernel_rfl⟩

def OpenedP (_w : World) (v : Value) : Prop := ∃ a b : Nat, a < 4294967296 ∧ b < 4294967296 ∧ v = .agg #[.int .u32 (a : Int), .int .u32 (b : Int)]

def zeroP : Value := .agg #[.int .u32 0, .int .u32 0]

theorem wf_u32n {n : Int} (h : (Lit.int .u32 n).wf = true) : ∃ m : Nat, n = m ∧ m < 4294967296 := by
  have h' := h
  simp [Lit.wf, IntKind.min, IntKind.max, IntKind.bits, IntKind.signed] at h'
  exact ⟨n.toNat, by omega, by omega⟩

theorem openedP {H : Type} {enc : TypeId × Value → H} {W : World} {v : Value} {d : DataW H} {p : List MemPlace} (hok : Value.okWide Tryd.prog W .any 0 37 v)
    (h : DataW.Trod enc Tryd.prog W 0 (fun _ => true) true 37 v d p) : OpenedP W v := by
  obtain ⟨a, b, rfl, _, _, wa, wb⟩ := Go.WideMaps.open_pair pairKey Tryd.underlying36 hok h
  obtain ⟨a', rfl, ha⟩ := wf_u32n wa
  obtain ⟨b', rfl, hb⟩ := wf_u32n wb
  exact ⟨a', b', ha, hb, rfl⟩

end Go.Proofs.YtlgoacpmacomnaaDoor
