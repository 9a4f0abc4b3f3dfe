/-
  NARROWER THAN 'FOR EVERY INPUT', by the rows' own cells (each row's printed sentence says how): CrcDivides: laid · CrcSeals: laid · CrcTwo: laid · CrcBlank: laid · CrcLog: laid · CrcPlace: laid.
  DERIVED. THE GIVEN ROWS OF THIS SEAT. 6 by the template 'for every input the law returns true; each argument reads behind the call as it read before'; 0 by the template 'total and deterministic' (their statements: YtbihhjcgiaaopaaDoorTotals.lean).
  GIVEN WITH THE SEED: the statements are not yours to turn. If you find one false, say at which input.
  Laid BY PROGRAM, IN A SANDBOX (cutbox-rows.mjs): the forced cells as the released guide's own fill.sh prints them over the translation 74567020aeac5882… (all of the seat's roots in one cut). By AI agents, Wed Nov 11 2026. No macro, syntax, notation, axiom, sorry.
-/
import Derived.Test.YtbihhjcgiaaopaaDoorChecked
import GoSem.Claim
import GoSem.ClaimJoined
import GoSem.ClaimMapViews
import Derived.JoinedTies
import Derived.KernelRfl
namespace Go.Proofs.YtbihhjcgiaaopaaDoor
/- THE CELL 'sum', in the pinned program and in every row, IS THE sha256 OF THE DUMP (.gsa) THAT YtbihhjcgiaaopaaDoorProg.lean LOADS. Nothing in Lean hashes anything: it is a label: what it is worth is what the hold of that sum in a sandbox is worth. -/
noncomputable def Tryd.pinned : Pinned := { name := "ytbihhjcgiaaopaadoor", sum := "74567020aeac5882de1d93cee2f056148d908517e17f1c4be7f894a0fd65bbec", checked := Tryd.checked }
namespace Rows
def none {H : Type} : Left H := { results := [], args := [] }

/- WHAT THE LISTED PACKAGE-LEVEL VARIABLES READ AS WHEN THE CALL BEGINS. Each datum BY PROGRAM (the guide's laid-datum.mjs) off the statement by which the dump's own 'gosem.cut.vars' lays the variable. In a bare row this is a premise. The card (YtbihhjcgiaaopaaDoorCards.lean) ties it to the program's text. -/
def laid_aumbry_crc_rests {H : Type} : DataW H := .agg [.lit (.int .u32 0), .lit (.int .u32 498536548), .lit (.int .u32 997073096), .lit (.int .u32 651767980), .lit (.int .u32 1994146192), .lit (.int .u32 1802195444), .lit (.int .u32 1303535960), .lit (.int .u32 1342533948), .lit (.int .u32 3988292384), .lit (.int .u32 4027552580), .lit (.int .u32 3604390888), .lit (.int .u32 3412177804), .lit (.int .u32 2607071920), .lit (.int .u32 2262029012), .lit (.int .u32 2685067896), .lit (.int .u32 3183342108)]

/-- 'aumbrylaw02.CrcDivides': WHATEVER THE INPUT: true; the input reads as it did. -/
def crcDividesSpec : ChangeSpec := { name := "crcDivides", fn := fun _ => fun
  | [d1, d2] => { results := [.lit (.bool true)], args := [d1, d2] }
  | _ => none }
def crcDividesRow : OpenClaim := { program := "ytbihhjcgiaaopaadoor", sum := "74567020aeac5882de1d93cee2f056148d908517e17f1c4be7f894a0fd65bbec", func := "aumbry/aumbrylaw02.CrcDivides", spec := "crcDivides", named := ["aumbry/crc.rests"], apart := false, laid := [("aumbry/crc.rests", laid_aumbry_crc_rests)] }
def CrcDividesSaid : Prop := crcDividesRow.holds Tryd.pinned (OpenSpec.ofChange crcDividesSpec)

/-- ITS FALSE NEIGHBOUR: 'it returns false'. Refute it at one input. -/
def crcDividesWrong : ChangeSpec := { name := "crcDivides", fn := fun _ => fun
  | [d1, d2] => { results := [.lit (.bool false)], args := [d1, d2] }
  | _ => none }
def CrcDividesWrongFalsely : Prop := crcDividesRow.holds Tryd.pinned (OpenSpec.ofChange crcDividesWrong)

/-- 'aumbrylaw02.CrcSeals': WHATEVER THE INPUT: true; the input reads as it did. -/
def crcSealsSpec : ChangeSpec := { name := "crcSeals", fn := fun _ => fun
  | [d1, d2, d3] => { results := [.lit (.bool true)], args := [d1, d2, d3] }
  | _ => none }
def crcSealsRow : OpenClaim := { program := "ytbihhjcgiaaopaadoor", sum := "74567020aeac5882de1d93cee2f056148d908517e17f1c4be7f894a0fd65bbec", func := "aumbry/aumbrylaw02.CrcSeals", spec := "crcSeals", named := ["aumbry/crc.rests"], apart := false, laid := [("aumbry/crc.rests", laid_aumbry_crc_rests)] }
def CrcSealsSaid : Prop := crcSealsRow.holds Tryd.pinned (OpenSpec.ofChange crcSealsSpec)

/-- ITS FALSE NEIGHBOUR: 'it returns false'. Refute it at one input. -/
def crcSealsWrong : ChangeSpec := { name := "crcSeals", fn := fun _ => fun
  | [d1, d2, d3] => { results := [.lit (.bool false)], args := [d1, d2, d3] }
  | _ => none }
def CrcSealsWrongFalsely : Prop := crcSealsRow.holds Tryd.pinned (OpenSpec.ofChange crcSealsWrong)

/-- 'aumbrylaw02.CrcTwo': WHATEVER THE INPUT: true; the input reads as it did. -/
def crcTwoSpec : ChangeSpec := { name := "crcTwo", fn := fun _ => fun
  | [d1, d2, d3] => { results := [.lit (.bool true)], args := [d1, d2, d3] }
  | _ => none }
def crcTwoRow : OpenClaim := { program := "ytbihhjcgiaaopaadoor", sum := "74567020aeac5882de1d93cee2f056148d908517e17f1c4be7f894a0fd65bbec", func := "aumbry/aumbrylaw02.CrcTwo", spec := "crcTwo", named := ["aumbry/crc.rests"], apart := false, laid := [("aumbry/crc.rests", laid_aumbry_crc_rests)] }
def CrcTwoSaid : Prop := crcTwoRow.holds Tryd.pinned (OpenSpec.ofChange crcTwoSpec)

/-- ITS FALSE NEIGHBOUR: 'it returns false'. Refute it at one input. -/
def crcTwoWrong : ChangeSpec := { name := "crcTwo", fn := fun _ => fun
  | [d1, d2, d3] => { results := [.lit (.bool false)], args := [d1, d2, d3] }
  | _ => none }
def CrcTwoWrongFalsely : Prop := crcTwoRow.holds Tryd.pinned (OpenSpec.ofChange crcTwoWrong)

/-- 'aumbrylaw02.CrcBlank': WHATEVER THE INPUT: true; the input reads as it did. -/
def crcBlankSpec : ChangeSpec := { name := "crcBlank", fn := fun _ => fun
  | [d1, d2, d3] => { results := [.lit (.bool true)], args := [d1, d2, d3] }
  | _ => none }
def crcBlankRow : OpenClaim := { program := "ytbihhjcgiaaopaadoor", sum := "74567020aeac5882de1d93cee2f056148d908517e17f1c4be7f894a0fd65bbec", func := "aumbry/aumbrylaw02.CrcBlank", spec := "crcBlank", named := ["aumbry/crc.rests"], apart := false, laid := [("aumbry/crc.rests", laid_aumbry_crc_rests)] }
def CrcBlankSaid : Prop := crcBlankRow.holds Tryd.pinned (OpenSpec.ofChange crcBlankSpec)

/-- ITS FALSE NEIGHBOUR: 'it returns false'. Refute it at one input. -/
def crcBlankWrong : ChangeSpec := { name := "crcBlank", fn := fun _ => fun
  | [d1, d2, d3] => { results := [.lit (.bool false)], args := [d1, d2, d3] }
  | _ => none }
def CrcBlankWrongFalsely : Prop := crcBlankRow.holds Tryd.pinned (OpenSpec.ofChange crcBlankWrong)

/-- 'aumbrylaw02.CrcLog': WHATEVER THE INPUT: true; the input reads as it did. -/
def crcLogSpec : ChangeSpec := { name := "crcLog", fn := fun _ => fun
  | [d] => { results := [.lit (.bool true)], args := [d] }
  | _ => none }
def crcLogRow : OpenClaim := { program := "ytbihhjcgiaaopaadoor", sum := "74567020aeac5882de1d93cee2f056148d908517e17f1c4be7f894a0fd65bbec", func := "aumbry/aumbrylaw02.CrcLog", spec := "crcLog", named := ["aumbry/crc.rests"], apart := false, laid := [("aumbry/crc.rests", laid_aumbry_crc_rests)] }
def CrcLogSaid : Prop := crcLogRow.holds Tryd.pinned (OpenSpec.ofChange crcLogSpec)

/-- ITS FALSE NEIGHBOUR: 'it returns false'. Refute it at one input. -/
def crcLogWrong : ChangeSpec := { name := "crcLog", fn := fun _ => fun
  | [d] => { results := [.lit (.bool false)], args := [d] }
  | _ => none }
def CrcLogWrongFalsely : Prop := crcLogRow.holds Tryd.pinned (OpenSpec.ofChange crcLogWrong)

/-- 'aumbrylaw02.CrcPlace': WHATEVER THE INPUT: true; the input reads as it did. -/
def crcPlaceSpec : ChangeSpec := { name := "crcPlace", fn := fun _ => fun
  | [d1, d2, d3, d4] => { results := [.lit (.bool true)], args := [d1, d2, d3, d4] }
  | _ => none }
def crcPlaceRow : OpenClaim := { program := "ytbihhjcgiaaopaadoor", sum := "74567020aeac5882de1d93cee2f056148d908517e17f1c4be7f894a0fd65bbec", func := "aumbry/aumbrylaw02.CrcPlace", spec := "crcPlace", named := ["aumbry/crc.rests"], apart := false, laid := [("aumbry/crc.rests", laid_aumbry_crc_rests)] }
def CrcPlaceSaid : Prop := crcPlaceRow.holds Tryd.pinned (OpenSpec.ofChange crcPlaceSpec)

/-- ITS FALSE NEIGHBOUR: 'it returns false'. Refute it at one input. -/
def crcPlaceWrong : ChangeSpec := { name := "crcPlace", fn := fun _ => fun
  | [d1, d2, d3, d4] => { results := [.lit (.bool false)], args := [d1, d2, d3, d4] }
  | _ => none }
def CrcPlaceWrongFalsely : Prop := crcPlaceRow.holds Tryd.pinned (OpenSpec.ofChange crcPlaceWrong)

/- THE SECOND FORM. 'bulk': how many values and letters a reading holds, each counted each time it is reached (what is shared counts as often as it is met; a slice's spare places count too). A statement '..UptoSaid' is the law's where the arguments, and the package variables that the reading takes, are together of bulk at most 1048576: NARROWER than '..Said'. Prove '..Said' where nothing that the law and all that it calls make is longer than what came in: it says more and counts as full. Else prove '..UptoSaid'. A law counts once. -/
mutual
def uptoBulk {H : Type} : DataW H → Nat
  | .lit (.string bytes) => bytes.length + 1
  | .lit _ => 1
  | .nil => 1
  | .ptr d => uptoBulk d + 1
  | .slice elems spare => uptoBulkAll elems + uptoBulkAll spare + 1
  | .agg parts => uptoBulkAll parts + 1
  | .iface _ d => uptoBulk d + 1
  | .map entries => uptoBulkEntries entries + 1
  | .held _ => 1
def uptoBulkAll {H : Type} : List (DataW H) → Nat
  | [] => 0
  | d :: r => uptoBulk d + uptoBulkAll r
def uptoBulkEntries {H : Type} : List (Lit × DataW H) → Nat
  | [] => 0
  | x :: r => uptoBulkEntry x + uptoBulkEntries r
def uptoBulkEntry {H : Type} : Lit × DataW H → Nat
  | (.string bytes, d) => bytes.length + uptoBulk d + 1
  | (_, d) => uptoBulk d + 1
 end
def uptoSmall : (H : Type) → List (DataW H) → Bool := fun _ ds => decide (uptoBulkAll ds ≤ 1048576)
def OpenSpec.upto (s : _root_.Go.ChangeSpec) : _root_.Go.OpenSpec := { _root_.Go.OpenSpec.ofChange s with cond := some uptoSmall }

/-- 'aumbrylaw02.CrcDivides', WHERE WHAT IT READS IS OF BULK AT MOST 1048576: true; the input reads as it did. -/
def crcDividesUptoRow : OpenClaim := { program := "ytbihhjcgiaaopaadoor", sum := "74567020aeac5882de1d93cee2f056148d908517e17f1c4be7f894a0fd65bbec", func := "aumbry/aumbrylaw02.CrcDivides", spec := "crcDivides", named := ["aumbry/crc.rests"], apart := false, laid := [("aumbry/crc.rests", laid_aumbry_crc_rests)], narrowed := true }
def CrcDividesUptoSaid : Prop := crcDividesUptoRow.holds Tryd.pinned (OpenSpec.upto crcDividesSpec)

/-- 'aumbrylaw02.CrcSeals', WHERE WHAT IT READS IS OF BULK AT MOST 1048576: true; the input reads as it did. -/
def crcSealsUptoRow : OpenClaim := { program := "ytbihhjcgiaaopaadoor", sum := "74567020aeac5882de1d93cee2f056148d908517e17f1c4be7f894a0fd65bbec", func := "aumbry/aumbrylaw02.CrcSeals", spec := "crcSeals", named := ["aumbry/crc.rests"], apart := false, laid := [("aumbry/crc.rests", laid_aumbry_crc_rests)], narrowed := true }
def CrcSealsUptoSaid : Prop := crcSealsUptoRow.holds Tryd.pinned (OpenSpec.upto crcSealsSpec)

/-- 'aumbrylaw02.CrcTwo', WHERE WHAT IT READS IS OF BULK AT MOST 1048576: true; the input reads as it did. -/
def crcTwoUptoRow : OpenClaim := { program := "ytbihhjcgiaaopaadoor", sum := "74567020aeac5882de1d93cee2f056148d908517e17f1c4be7f894a0fd65bbec", func := "aumbry/aumbrylaw02.CrcTwo", spec := "crcTwo", named := ["aumbry/crc.rests"], apart := false, laid := [("aumbry/crc.rests", laid_aumbry_crc_rests)], narrowed := true }
def CrcTwoUptoSaid : Prop := crcTwoUptoRow.holds Tryd.pinned (OpenSpec.upto crcTwoSpec)

/-- 'aumbrylaw02.CrcBlank', WHERE WHAT IT READS IS OF BULK AT MOST 1048576: true; the input reads as it did. -/
def crcBlankUptoRow : OpenClaim := { program := "ytbihhjcgiaaopaadoor", sum := "74567020aeac5882de1d93cee2f056148d908517e17f1c4be7f894a0fd65bbec", func := "aumbry/aumbrylaw02.CrcBlank", spec := "crcBlank", named := ["aumbry/crc.rests"], apart := false, laid := [("aumbry/crc.rests", laid_aumbry_crc_rests)], narrowed := true }
def CrcBlankUptoSaid : Prop := crcBlankUptoRow.holds Tryd.pinned (OpenSpec.upto crcBlankSpec)

/-- 'aumbrylaw02.CrcLog', WHERE WHAT IT READS IS OF BULK AT MOST 1048576: true; the input reads as it did. -/
def crcLogUptoRow : OpenClaim := { program := "ytbihhjcgiaaopaadoor", sum := "74567020aeac5882de1d93cee2f056148d908517e17f1c4be7f894a0fd65bbec", func := "aumbry/aumbrylaw02.CrcLog", spec := "crcLog", named := ["aumbry/crc.rests"], apart := false, laid := [("aumbry/crc.rests", laid_aumbry_crc_rests)], narrowed := true }
def CrcLogUptoSaid : Prop := crcLogUptoRow.holds Tryd.pinned (OpenSpec.upto crcLogSpec)

/-- 'aumbrylaw02.CrcPlace', WHERE WHAT IT READS IS OF BULK AT MOST 1048576: true; the input reads as it did. -/
def crcPlaceUptoRow : OpenClaim := { program := "ytbihhjcgiaaopaadoor", sum := "74567020aeac5882de1d93cee2f056148d908517e17f1c4be7f894a0fd65bbec", func := "aumbry/aumbrylaw02.CrcPlace", spec := "crcPlace", named := ["aumbry/crc.rests"], apart := false, laid := [("aumbry/crc.rests", laid_aumbry_crc_rests)], narrowed := true }
def CrcPlaceUptoSaid : Prop := crcPlaceUptoRow.holds Tryd.pinned (OpenSpec.upto crcPlaceSpec)

end Rows
end Go.Proofs.YtbihhjcgiaaopaaDoor
