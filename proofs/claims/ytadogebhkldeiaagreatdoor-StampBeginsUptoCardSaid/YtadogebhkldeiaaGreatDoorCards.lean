/-
  DERIVED. GIVEN WITH THE SEED: THE CARDS: each row of YtadogebhkldeiaaGreatDoorRows.lean that lists a variable, with what it lists TIED to the program's text (the seventh form; the later family's looks); each row that meets fmt, with fmt's text TOLD by the authors' own Lean function (tested against real Go, not proved from fmt's source: count such statements apart). THE CARD IS WHAT COUNTS. Prove the row's statement (the work); the ties are given (YtadogebhkldeiaaGreatDoorTie.lean); close each card by the builder's one call (the guide's Derived/Test/ToyasCard.lean, 'card_holds'). Laid BY PROGRAM, IN A SANDBOX (cutbox-door.mjs). By AI agents, Wed Nov 11 2026. No macro, syntax, notation, axiom, sorry.
-/
import Derived.Test.YtadogebhkldeiaaGreatDoorRows
import GoSem.ClaimSeven
namespace Go.Proofs.YtadogebhkldeiaaGreatDoor
namespace Rows

/-- THE TIED CARD OF 'aumbrylaw19.StampBegins'. -/
def stampBeginsCard : Claim7 := { stood := { row := stampBeginsRow, standIns := [], harness := (true, "4e640470bdddbc99147182cf51f983159c7f10d3063dcec7b258adac010e661e"), looks := true }, kinds := [], alts := [], laidByText := true, laidKinds := [.data, .data, .data, .data, .sentinel, .pinned], laidTests := true, laidLooks := .later }
def StampBeginsCardSaid : Prop := Claim7.holds Tryz.pinned (.plain (OpenSpec.ofChange stampBeginsSpec)) stampBeginsCard

/-- THE SECOND FORM's CARD OF 'aumbrylaw19.StampBegins'. -/
def stampBeginsUptoCard : Claim7 := { stood := { row := stampBeginsUptoRow, standIns := [], harness := (true, "4e640470bdddbc99147182cf51f983159c7f10d3063dcec7b258adac010e661e"), looks := true }, kinds := [], alts := [], laidByText := true, laidKinds := [.data, .data, .data, .data, .sentinel, .pinned], laidTests := true, laidLooks := .later }
def StampBeginsUptoCardSaid : Prop := Claim7.holds Tryz.pinned (.plain (OpenSpec.upto stampBeginsSpec)) stampBeginsUptoCard
end Rows
end Go.Proofs.YtadogebhkldeiaaGreatDoor
