/-
  DERIVED. GIVEN WITH THE SEED: THE CARDS: each row of YtbihhjcgiaaopaaDoorRows.lean that lists a variable, with what it lists TIED to the program's text (the seventh form; the later family's looks); each row that meets fmt, with fmt's text TOLD by the authors' own Lean function (tested against real Go, not proved from fmt's source: count such statements apart). THE CARD IS WHAT COUNTS. Prove the row's statement (the work); the ties are given (YtbihhjcgiaaopaaDoorTie.lean); close each card by the builder's one call (the guide's Derived/Test/ToyasCard.lean, 'card_holds'). Laid BY PROGRAM, IN A SANDBOX (cutbox-door.mjs). By AI agents, Wed Nov 11 2026. No macro, syntax, notation, axiom, sorry.
-/
import Derived.Test.YtbihhjcgiaaopaaDoorRows
import GoSem.ClaimSeven
namespace Go.Proofs.YtbihhjcgiaaopaaDoor
namespace Rows

/-- THE TIED CARD OF 'aumbrylaw02.CrcDivides'. -/
def crcDividesCard : Claim7 := { stood := { row := crcDividesRow, standIns := [], harness := (true, "e3e814a231813934b22e679e19460cda5b9aa1949d667a2416d7698db1f0d850"), looks := false }, kinds := [], alts := [], laidByText := true, laidKinds := [.data], laidTests := true, laidLooks := .later }
def CrcDividesCardSaid : Prop := Claim7.holds Tryd.pinned (.plain (OpenSpec.ofChange crcDividesSpec)) crcDividesCard

/-- THE TIED CARD OF 'aumbrylaw02.CrcSeals'. -/
def crcSealsCard : Claim7 := { stood := { row := crcSealsRow, standIns := [], harness := (true, "e3e814a231813934b22e679e19460cda5b9aa1949d667a2416d7698db1f0d850"), looks := false }, kinds := [], alts := [], laidByText := true, laidKinds := [.data], laidTests := true, laidLooks := .later }
def CrcSealsCardSaid : Prop := Claim7.holds Tryd.pinned (.plain (OpenSpec.ofChange crcSealsSpec)) crcSealsCard

/-- THE TIED CARD OF 'aumbrylaw02.CrcTwo'. -/
def crcTwoCard : Claim7 := { stood := { row := crcTwoRow, standIns := [], harness := (true, "e3e814a231813934b22e679e19460cda5b9aa1949d667a2416d7698db1f0d850"), looks := false }, kinds := [], alts := [], laidByText := true, laidKinds := [.data], laidTests := true, laidLooks := .later }
def CrcTwoCardSaid : Prop := Claim7.holds Tryd.pinned (.plain (OpenSpec.ofChange crcTwoSpec)) crcTwoCard

/-- THE TIED CARD OF 'aumbrylaw02.CrcBlank'. -/
def crcBlankCard : Claim7 := { stood := { row := crcBlankRow, standIns := [], harness := (true, "e3e814a231813934b22e679e19460cda5b9aa1949d667a2416d7698db1f0d850"), looks := false }, kinds := [], alts := [], laidByText := true, laidKinds := [.data], laidTests := true, laidLooks := .later }
def CrcBlankCardSaid : Prop := Claim7.holds Tryd.pinned (.plain (OpenSpec.ofChange crcBlankSpec)) crcBlankCard

/-- THE TIED CARD OF 'aumbrylaw02.CrcLog'. -/
def crcLogCard : Claim7 := { stood := { row := crcLogRow, standIns := [], harness := (true, "e3e814a231813934b22e679e19460cda5b9aa1949d667a2416d7698db1f0d850"), looks := false }, kinds := [], alts := [], laidByText := true, laidKinds := [.data], laidTests := true, laidLooks := .later }
def CrcLogCardSaid : Prop := Claim7.holds Tryd.pinned (.plain (OpenSpec.ofChange crcLogSpec)) crcLogCard

/-- THE TIED CARD OF 'aumbrylaw02.CrcPlace'. -/
def crcPlaceCard : Claim7 := { stood := { row := crcPlaceRow, standIns := [], harness := (true, "e3e814a231813934b22e679e19460cda5b9aa1949d667a2416d7698db1f0d850"), looks := false }, kinds := [], alts := [], laidByText := true, laidKinds := [.data], laidTests := true, laidLooks := .later }
def CrcPlaceCardSaid : Prop := Claim7.holds Tryd.pinned (.plain (OpenSpec.ofChange crcPlaceSpec)) crcPlaceCard

/-- THE SECOND FORM's CARD OF 'aumbrylaw02.CrcDivides'. -/
def crcDividesUptoCard : Claim7 := { stood := { row := crcDividesUptoRow, standIns := [], harness := (true, "e3e814a231813934b22e679e19460cda5b9aa1949d667a2416d7698db1f0d850"), looks := false }, kinds := [], alts := [], laidByText := true, laidKinds := [.data], laidTests := true, laidLooks := .later }
def CrcDividesUptoCardSaid : Prop := Claim7.holds Tryd.pinned (.plain (OpenSpec.upto crcDividesSpec)) crcDividesUptoCard

/-- THE SECOND FORM's CARD OF 'aumbrylaw02.CrcSeals'. -/
def crcSealsUptoCard : Claim7 := { stood := { row := crcSealsUptoRow, standIns := [], harness := (true, "e3e814a231813934b22e679e19460cda5b9aa1949d667a2416d7698db1f0d850"), looks := false }, kinds := [], alts := [], laidByText := true, laidKinds := [.data], laidTests := true, laidLooks := .later }
def CrcSealsUptoCardSaid : Prop := Claim7.holds Tryd.pinned (.plain (OpenSpec.upto crcSealsSpec)) crcSealsUptoCard

/-- THE SECOND FORM's CARD OF 'aumbrylaw02.CrcTwo'. -/
def crcTwoUptoCard : Claim7 := { stood := { row := crcTwoUptoRow, standIns := [], harness := (true, "e3e814a231813934b22e679e19460cda5b9aa1949d667a2416d7698db1f0d850"), looks := false }, kinds := [], alts := [], laidByText := true, laidKinds := [.data], laidTests := true, laidLooks := .later }
def CrcTwoUptoCardSaid : Prop := Claim7.holds Tryd.pinned (.plain (OpenSpec.upto crcTwoSpec)) crcTwoUptoCard

/-- THE SECOND FORM's CARD OF 'aumbrylaw02.CrcBlank'. -/
def crcBlankUptoCard : Claim7 := { stood := { row := crcBlankUptoRow, standIns := [], harness := (true, "e3e814a231813934b22e679e19460cda5b9aa1949d667a2416d7698db1f0d850"), looks := false }, kinds := [], alts := [], laidByText := true, laidKinds := [.data], laidTests := true, laidLooks := .later }
def CrcBlankUptoCardSaid : Prop := Claim7.holds Tryd.pinned (.plain (OpenSpec.upto crcBlankSpec)) crcBlankUptoCard

/-- THE SECOND FORM's CARD OF 'aumbrylaw02.CrcLog'. -/
def crcLogUptoCard : Claim7 := { stood := { row := crcLogUptoRow, standIns := [], harness := (true, "e3e814a231813934b22e679e19460cda5b9aa1949d667a2416d7698db1f0d850"), looks := false }, kinds := [], alts := [], laidByText := true, laidKinds := [.data], laidTests := true, laidLooks := .later }
def CrcLogUptoCardSaid : Prop := Claim7.holds Tryd.pinned (.plain (OpenSpec.upto crcLogSpec)) crcLogUptoCard

/-- THE SECOND FORM's CARD OF 'aumbrylaw02.CrcPlace'. -/
def crcPlaceUptoCard : Claim7 := { stood := { row := crcPlaceUptoRow, standIns := [], harness := (true, "e3e814a231813934b22e679e19460cda5b9aa1949d667a2416d7698db1f0d850"), looks := false }, kinds := [], alts := [], laidByText := true, laidKinds := [.data], laidTests := true, laidLooks := .later }
def CrcPlaceUptoCardSaid : Prop := Claim7.holds Tryd.pinned (.plain (OpenSpec.upto crcPlaceSpec)) crcPlaceUptoCard
end Rows
end Go.Proofs.YtbihhjcgiaaopaaDoor
