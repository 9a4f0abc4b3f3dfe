/-
  DERIVED. GIVEN WITH THE SEED: THE CARDS: each row of YtolpgpphjnkehaaGreatDoorRows.lean that lists a variable, with what it lists TIED to the program's text (the seventh form; the later family's looks); each row that meets fmt, with fmt's text TOLD by the authors' own Lean function (tested against real Go, not proved from fmt's source: count such statements apart). THE CARD IS WHAT COUNTS. Prove the row's statement (the work); the ties are given (YtolpgpphjnkehaaGreatDoorTie.lean); close each card by the builder's one call (the guide's Derived/Test/ToyasCard.lean, 'card_holds'). Laid BY PROGRAM, IN A SANDBOX (cutbox-door.mjs). By AI agents, Wed Nov 11 2026. No macro, syntax, notation, axiom, sorry.
-/
import Derived.Test.YtolpgpphjnkehaaGreatDoorRows
import GoSem.ClaimSeven
namespace Go.Proofs.YtolpgpphjnkehaaGreatDoor
namespace Rows

/-- THE TIED CARD OF 'aumbrylaw08.ShadowPlays'. -/
def shadowPlaysCard : Claim7 := { stood := { row := shadowPlaysRow, standIns := [], harness := (true, "aa6cef474e3955366d7c4652d8b8447439b0f2a22de7d37a05fec4116601f931"), looks := false }, kinds := [], alts := [], laidByText := true, laidKinds := [.data], laidTests := true, laidLooks := .later }
def ShadowPlaysCardSaid : Prop := Claim7.holds Tryz.pinned (.plain (OpenSpec.ofChange shadowPlaysSpec)) shadowPlaysCard

/-- THE TIED CARD OF 'aumbrylaw08.ShadowOpens'. -/
def shadowOpensCard : Claim7 := { stood := { row := shadowOpensRow, standIns := [], harness := (true, "aa6cef474e3955366d7c4652d8b8447439b0f2a22de7d37a05fec4116601f931"), looks := false }, kinds := [], alts := [], laidByText := true, laidKinds := [.data], laidTests := true, laidLooks := .later }
def ShadowOpensCardSaid : Prop := Claim7.holds Tryz.pinned (.plain (OpenSpec.ofChange shadowOpensSpec)) shadowOpensCard

/-- THE TIED CARD OF 'aumbrylaw08.ShadowLasts'. -/
def shadowLastsCard : Claim7 := { stood := { row := shadowLastsRow, standIns := [], harness := (true, "aa6cef474e3955366d7c4652d8b8447439b0f2a22de7d37a05fec4116601f931"), looks := false }, kinds := [], alts := [], laidByText := true, laidKinds := [.data], laidTests := true, laidLooks := .later }
def ShadowLastsCardSaid : Prop := Claim7.holds Tryz.pinned (.plain (OpenSpec.ofChange shadowLastsSpec)) shadowLastsCard

/-- THE TIED CARD OF 'aumbrylaw08.ShadowPublishes'. -/
def shadowPublishesCard : Claim7 := { stood := { row := shadowPublishesRow, standIns := [], harness := (true, "aa6cef474e3955366d7c4652d8b8447439b0f2a22de7d37a05fec4116601f931"), looks := false }, kinds := [], alts := [], laidByText := true, laidKinds := [.data], laidTests := true, laidLooks := .later }
def ShadowPublishesCardSaid : Prop := Claim7.holds Tryz.pinned (.plain (OpenSpec.ofChange shadowPublishesSpec)) shadowPublishesCard

/-- THE TIED CARD OF 'aumbrylaw08.ShadowRoom'. -/
def shadowRoomCard : Claim7 := { stood := { row := shadowRoomRow, standIns := [], harness := (true, "aa6cef474e3955366d7c4652d8b8447439b0f2a22de7d37a05fec4116601f931"), looks := false }, kinds := [], alts := [], laidByText := true, laidKinds := [.data], laidTests := true, laidLooks := .later }
def ShadowRoomCardSaid : Prop := Claim7.holds Tryz.pinned (.plain (OpenSpec.ofChange shadowRoomSpec)) shadowRoomCard

/-- THE TIED CARD OF 'aumbrylaw08.ShadowDrops'. -/
def shadowDropsCard : Claim7 := { stood := { row := shadowDropsRow, standIns := [], harness := (true, "aa6cef474e3955366d7c4652d8b8447439b0f2a22de7d37a05fec4116601f931"), looks := false }, kinds := [], alts := [], laidByText := true, laidKinds := [.data], laidTests := true, laidLooks := .later }
def ShadowDropsCardSaid : Prop := Claim7.holds Tryz.pinned (.plain (OpenSpec.ofChange shadowDropsSpec)) shadowDropsCard

/-- THE TIED CARD OF 'aumbrylaw08.ShadowNil'. -/
def shadowNilCard : Claim7 := { stood := { row := shadowNilRow, standIns := [], harness := (true, "aa6cef474e3955366d7c4652d8b8447439b0f2a22de7d37a05fec4116601f931"), looks := false }, kinds := [], alts := [], laidByText := true, laidKinds := [.data], laidTests := true, laidLooks := .later }
def ShadowNilCardSaid : Prop := Claim7.holds Tryz.pinned (.plain (OpenSpec.ofChange shadowNilSpec)) shadowNilCard

/-- THE SECOND FORM's CARD OF 'aumbrylaw08.ShadowPlays'. -/
def shadowPlaysUptoCard : Claim7 := { stood := { row := shadowPlaysUptoRow, standIns := [], harness := (true, "aa6cef474e3955366d7c4652d8b8447439b0f2a22de7d37a05fec4116601f931"), looks := false }, kinds := [], alts := [], laidByText := true, laidKinds := [.data], laidTests := true, laidLooks := .later }
def ShadowPlaysUptoCardSaid : Prop := Claim7.holds Tryz.pinned (.plain (OpenSpec.upto shadowPlaysSpec)) shadowPlaysUptoCard

/-- THE SECOND FORM's CARD OF 'aumbrylaw08.ShadowOpens'. -/
def shadowOpensUptoCard : Claim7 := { stood := { row := shadowOpensUptoRow, standIns := [], harness := (true, "aa6cef474e3955366d7c4652d8b8447439b0f2a22de7d37a05fec4116601f931"), looks := false }, kinds := [], alts := [], laidByText := true, laidKinds := [.data], laidTests := true, laidLooks := .later }
def ShadowOpensUptoCardSaid : Prop := Claim7.holds Tryz.pinned (.plain (OpenSpec.upto shadowOpensSpec)) shadowOpensUptoCard

/-- THE SECOND FORM's CARD OF 'aumbrylaw08.ShadowLasts'. -/
def shadowLastsUptoCard : Claim7 := { stood := { row := shadowLastsUptoRow, standIns := [], harness := (true, "aa6cef474e3955366d7c4652d8b8447439b0f2a22de7d37a05fec4116601f931"), looks := false }, kinds := [], alts := [], laidByText := true, laidKinds := [.data], laidTests := true, laidLooks := .later }
def ShadowLastsUptoCardSaid : Prop := Claim7.holds Tryz.pinned (.plain (OpenSpec.upto shadowLastsSpec)) shadowLastsUptoCard

/-- THE SECOND FORM's CARD OF 'aumbrylaw08.ShadowPublishes'. -/
def shadowPublishesUptoCard : Claim7 := { stood := { row := shadowPublishesUptoRow, standIns := [], harness := (true, "aa6cef474e3955366d7c4652d8b8447439b0f2a22de7d37a05fec4116601f931"), looks := false }, kinds := [], alts := [], laidByText := true, laidKinds := [.data], laidTests := true, laidLooks := .later }
def ShadowPublishesUptoCardSaid : Prop := Claim7.holds Tryz.pinned (.plain (OpenSpec.upto shadowPublishesSpec)) shadowPublishesUptoCard

/-- THE SECOND FORM's CARD OF 'aumbrylaw08.ShadowRoom'. -/
def shadowRoomUptoCard : Claim7 := { stood := { row := shadowRoomUptoRow, standIns := [], harness := (true, "aa6cef474e3955366d7c4652d8b8447439b0f2a22de7d37a05fec4116601f931"), looks := false }, kinds := [], alts := [], laidByText := true, laidKinds := [.data], laidTests := true, laidLooks := .later }
def ShadowRoomUptoCardSaid : Prop := Claim7.holds Tryz.pinned (.plain (OpenSpec.upto shadowRoomSpec)) shadowRoomUptoCard

/-- THE SECOND FORM's CARD OF 'aumbrylaw08.ShadowDrops'. -/
def shadowDropsUptoCard : Claim7 := { stood := { row := shadowDropsUptoRow, standIns := [], harness := (true, "aa6cef474e3955366d7c4652d8b8447439b0f2a22de7d37a05fec4116601f931"), looks := false }, kinds := [], alts := [], laidByText := true, laidKinds := [.data], laidTests := true, laidLooks := .later }
def ShadowDropsUptoCardSaid : Prop := Claim7.holds Tryz.pinned (.plain (OpenSpec.upto shadowDropsSpec)) shadowDropsUptoCard

/-- THE SECOND FORM's CARD OF 'aumbrylaw08.ShadowNil'. -/
def shadowNilUptoCard : Claim7 := { stood := { row := shadowNilUptoRow, standIns := [], harness := (true, "aa6cef474e3955366d7c4652d8b8447439b0f2a22de7d37a05fec4116601f931"), looks := false }, kinds := [], alts := [], laidByText := true, laidKinds := [.data], laidTests := true, laidLooks := .later }
def ShadowNilUptoCardSaid : Prop := Claim7.holds Tryz.pinned (.plain (OpenSpec.upto shadowNilSpec)) shadowNilUptoCard
end Rows
end Go.Proofs.YtolpgpphjnkehaaGreatDoor
