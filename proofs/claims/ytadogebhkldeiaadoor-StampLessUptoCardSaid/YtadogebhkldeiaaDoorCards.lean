/-
  DERIVED. GIVEN WITH THE SEED: THE CARDS: each row of YtadogebhkldeiaaDoorRows.lean that lists a variable, with what it lists TIED to the program's text (the seventh form; the later family's looks); each row that meets fmt, with fmt's text TOLD by the authors' own Lean function (tested against real Go, not proved from fmt's source: count such statements apart). THE CARD IS WHAT COUNTS. Prove the row's statement (the work); the ties are given (YtadogebhkldeiaaDoorTie.lean); close each card by the builder's one call (the guide's Derived/Test/ToyasCard.lean, 'card_holds'). Laid BY PROGRAM, IN A SANDBOX (cutbox-door.mjs). By AI agents, Wed Nov 11 2026. No macro, syntax, notation, axiom, sorry.
-/
import Derived.Test.YtadogebhkldeiaaDoorRows
import GoSem.ClaimSeven
namespace Go.Proofs.YtadogebhkldeiaaDoor
namespace Rows

/-- THE TIED CARD OF 'aumbrylaw19.StampLess'. -/
def stampLessCard : Claim7 := { stood := { row := stampLessRow, standIns := [], harness := (true, "6bcdb5109ede58b1cf7a37a7b652812a739c2eadf533fbf8e3a62c51582e65cb"), looks := true }, kinds := [], alts := [], laidByText := true, laidKinds := [.data, .data, .data, .data, .sentinel, .pinned], laidTests := true, laidLooks := .later }
def StampLessCardSaid : Prop := Claim7.holds Tryd.pinned (.plain (OpenSpec.ofChange stampLessSpec)) stampLessCard

/-- THE TIED CARD OF 'aumbrylaw19.StampRefuses'. -/
def stampRefusesCard : Claim7 := { stood := { row := stampRefusesRow, standIns := [], harness := (true, "6bcdb5109ede58b1cf7a37a7b652812a739c2eadf533fbf8e3a62c51582e65cb"), looks := true }, kinds := [], alts := [], laidByText := true, laidKinds := [.data, .data, .data, .data, .sentinel, .pinned], laidTests := true, laidLooks := .later }
def StampRefusesCardSaid : Prop := Claim7.holds Tryd.pinned (.plain (OpenSpec.ofChange stampRefusesSpec)) stampRefusesCard

/-- THE TIED CARD OF 'aumbrylaw19.StampLong'. -/
def stampLongCard : Claim7 := { stood := { row := stampLongRow, standIns := [], harness := (true, "6bcdb5109ede58b1cf7a37a7b652812a739c2eadf533fbf8e3a62c51582e65cb"), looks := true }, kinds := [], alts := [], laidByText := true, laidKinds := [.data, .data, .data, .data, .sentinel, .pinned], laidTests := true, laidLooks := .later }
def StampLongCardSaid : Prop := Claim7.holds Tryd.pinned (.plain (OpenSpec.ofChange stampLongSpec)) stampLongCard

/-- THE SECOND FORM's CARD OF 'aumbrylaw19.StampLess'. -/
def stampLessUptoCard : Claim7 := { stood := { row := stampLessUptoRow, standIns := [], harness := (true, "6bcdb5109ede58b1cf7a37a7b652812a739c2eadf533fbf8e3a62c51582e65cb"), looks := true }, kinds := [], alts := [], laidByText := true, laidKinds := [.data, .data, .data, .data, .sentinel, .pinned], laidTests := true, laidLooks := .later }
def StampLessUptoCardSaid : Prop := Claim7.holds Tryd.pinned (.plain (OpenSpec.upto stampLessSpec)) stampLessUptoCard

/-- THE SECOND FORM's CARD OF 'aumbrylaw19.StampRefuses'. -/
def stampRefusesUptoCard : Claim7 := { stood := { row := stampRefusesUptoRow, standIns := [], harness := (true, "6bcdb5109ede58b1cf7a37a7b652812a739c2eadf533fbf8e3a62c51582e65cb"), looks := true }, kinds := [], alts := [], laidByText := true, laidKinds := [.data, .data, .data, .data, .sentinel, .pinned], laidTests := true, laidLooks := .later }
def StampRefusesUptoCardSaid : Prop := Claim7.holds Tryd.pinned (.plain (OpenSpec.upto stampRefusesSpec)) stampRefusesUptoCard

/-- THE SECOND FORM's CARD OF 'aumbrylaw19.StampLong'. -/
def stampLongUptoCard : Claim7 := { stood := { row := stampLongUptoRow, standIns := [], harness := (true, "6bcdb5109ede58b1cf7a37a7b652812a739c2eadf533fbf8e3a62c51582e65cb"), looks := true }, kinds := [], alts := [], laidByText := true, laidKinds := [.data, .data, .data, .data, .sentinel, .pinned], laidTests := true, laidLooks := .later }
def StampLongUptoCardSaid : Prop := Claim7.holds Tryd.pinned (.plain (OpenSpec.upto stampLongSpec)) stampLongUptoCard
end Rows
end Go.Proofs.YtadogebhkldeiaaDoor
