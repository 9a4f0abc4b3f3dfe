/-
  NARROWER THAN 'FOR EVERY INPUT', by the rows' own cells (each row's printed sentence says how): BlockSeals: laid · BlockOpens: laid · BlockBack: laid · BlockBursts: laid · BlockForms: laid · BlockLengths: laid.
  DERIVED. THE GIVEN ROWS OF THIS SEAT. 6 by the template 'for every input the law returns true; each argument reads behind the call as it read before'; 0 by the template 'total and deterministic' (their statements: YtlgoacpmacomnaaDoorTotals.lean).
  GIVEN WITH THE SEED: the statements are not yours to turn. If you find one false, say at which input.
  Laid BY PROGRAM, IN A SANDBOX (cutbox-rows.mjs): the forced cells as the released guide's own fill.sh prints them over the translation 416751fb0dcb8e2a… (all of the seat's roots in one cut). By AI agents, Wed Nov 11 2026. No macro, syntax, notation, axiom, sorry.
-/
import Derived.Test.YtlgoacpmacomnaaDoorChecked
import GoSem.Claim
import GoSem.ClaimJoined
import GoSem.ClaimMapViews
import Derived.JoinedTies
import Derived.KernelRfl
namespace Go.Proofs.YtlgoacpmacomnaaDoor
/- THE CELL 'sum', in the pinned program and in every row, IS THE sha256 OF THE DUMP (.gsa) THAT YtlgoacpmacomnaaDoorProg.lean LOADS. Nothing in Lean hashes anything: it is a label: what it is worth is what the hold of that sum in a sandbox is worth. -/
noncomputable def Tryd.pinned : Pinned := { name := "ytlgoacpmacomnaadoor", sum := "416751fb0dcb8e2af12c47c981f520effdd817efbc01c8790e0a4b91e1c99656", checked := Tryd.checked }
namespace Rows
def none {H : Type} : Left H := { results := [], args := [] }

/- WHAT THE LISTED PACKAGE-LEVEL VARIABLES READ AS WHEN THE CALL BEGINS. Each datum BY PROGRAM (the guide's laid-datum.mjs) off the statement by which the dump's own 'gosem.cut.vars' lays the variable. In a bare row this is a premise. The card (YtlgoacpmacomnaaDoorCards.lean) ties it to the program's text. -/
def laid_aumbry_crc_rests {H : Type} : DataW H := .agg [.lit (.int .u32 0), .lit (.int .u32 498536548), .lit (.int .u32 997073096), .lit (.int .u32 651767980), .lit (.int .u32 1994146192), .lit (.int .u32 1802195444), .lit (.int .u32 1303535960), .lit (.int .u32 1342533948), .lit (.int .u32 3988292384), .lit (.int .u32 4027552580), .lit (.int .u32 3604390888), .lit (.int .u32 3412177804), .lit (.int .u32 2607071920), .lit (.int .u32 2262029012), .lit (.int .u32 2685067896), .lit (.int .u32 3183342108)]

/-- 'aumbrylaw04.BlockSeals': WHATEVER THE INPUT: true; the input reads as it did. -/
def blockSealsSpec : ChangeSpec := { name := "blockSeals", fn := fun _ => fun
  | [d1, d2] => { results := [.lit (.bool true)], args := [d1, d2] }
  | _ => none }
def blockSealsRow : OpenClaim := { program := "ytlgoacpmacomnaadoor", sum := "416751fb0dcb8e2af12c47c981f520effdd817efbc01c8790e0a4b91e1c99656", func := "aumbry/aumbrylaw04.BlockSeals", spec := "blockSeals", unfollowed := true, recurses := true, named := ["aumbry/crc.rests"], apart := false, laid := [("aumbry/crc.rests", laid_aumbry_crc_rests)] }
def BlockSealsSaid : Prop := blockSealsRow.holds Tryd.pinned (OpenSpec.ofChange blockSealsSpec)

/-- ITS FALSE NEIGHBOUR: 'it returns false'. Refute it at one input. -/
def blockSealsWrong : ChangeSpec := { name := "blockSeals", fn := fun _ => fun
  | [d1, d2] => { results := [.lit (.bool false)], args := [d1, d2] }
  | _ => none }
def BlockSealsWrongFalsely : Prop := blockSealsRow.holds Tryd.pinned (OpenSpec.ofChange blockSealsWrong)

/-- 'aumbrylaw04.BlockOpens': WHATEVER THE INPUT: true; the input reads as it did. -/
def blockOpensSpec : ChangeSpec := { name := "blockOpens", fn := fun _ => fun
  | [d] => { results := [.lit (.bool true)], args := [d] }
  | _ => none }
def blockOpensRow : OpenClaim := { program := "ytlgoacpmacomnaadoor", sum := "416751fb0dcb8e2af12c47c981f520effdd817efbc01c8790e0a4b91e1c99656", func := "aumbry/aumbrylaw04.BlockOpens", spec := "blockOpens", unfollowed := true, recurses := true, named := ["aumbry/crc.rests"], apart := false, laid := [("aumbry/crc.rests", laid_aumbry_crc_rests)] }
def BlockOpensSaid : Prop := blockOpensRow.holds Tryd.pinned (OpenSpec.ofChange blockOpensSpec)

/-- ITS FALSE NEIGHBOUR: 'it returns false'. Refute it at one input. -/
def blockOpensWrong : ChangeSpec := { name := "blockOpens", fn := fun _ => fun
  | [d] => { results := [.lit (.bool false)], args := [d] }
  | _ => none }
def BlockOpensWrongFalsely : Prop := blockOpensRow.holds Tryd.pinned (OpenSpec.ofChange blockOpensWrong)

/-- 'aumbrylaw04.BlockBack': WHATEVER THE INPUT: true; the input reads as it did. -/
def blockBackSpec : ChangeSpec := { name := "blockBack", fn := fun _ => fun
  | [d1, d2, d3] => { results := [.lit (.bool true)], args := [d1, d2, d3] }
  | _ => none }
def blockBackRow : OpenClaim := { program := "ytlgoacpmacomnaadoor", sum := "416751fb0dcb8e2af12c47c981f520effdd817efbc01c8790e0a4b91e1c99656", func := "aumbry/aumbrylaw04.BlockBack", spec := "blockBack", unfollowed := true, recurses := true, named := ["aumbry/crc.rests"], apart := false, laid := [("aumbry/crc.rests", laid_aumbry_crc_rests)] }
def BlockBackSaid : Prop := blockBackRow.holds Tryd.pinned (OpenSpec.ofChange blockBackSpec)

/-- ITS FALSE NEIGHBOUR: 'it returns false'. Refute it at one input. -/
def blockBackWrong : ChangeSpec := { name := "blockBack", fn := fun _ => fun
  | [d1, d2, d3] => { results := [.lit (.bool false)], args := [d1, d2, d3] }
  | _ => none }
def BlockBackWrongFalsely : Prop := blockBackRow.holds Tryd.pinned (OpenSpec.ofChange blockBackWrong)

/-- 'aumbrylaw04.BlockBursts': WHATEVER THE INPUT: true; the input reads as it did. -/
def blockBurstsSpec : ChangeSpec := { name := "blockBursts", fn := fun _ => fun
  | [d1, d2, d3] => { results := [.lit (.bool true)], args := [d1, d2, d3] }
  | _ => none }
def blockBurstsRow : OpenClaim := { program := "ytlgoacpmacomnaadoor", sum := "416751fb0dcb8e2af12c47c981f520effdd817efbc01c8790e0a4b91e1c99656", func := "aumbry/aumbrylaw04.BlockBursts", spec := "blockBursts", unfollowed := true, recurses := true, named := ["aumbry/crc.rests"], apart := false, laid := [("aumbry/crc.rests", laid_aumbry_crc_rests)] }
def BlockBurstsSaid : Prop := blockBurstsRow.holds Tryd.pinned (OpenSpec.ofChange blockBurstsSpec)

/-- ITS FALSE NEIGHBOUR: 'it returns false'. Refute it at one input. -/
def blockBurstsWrong : ChangeSpec := { name := "blockBursts", fn := fun _ => fun
  | [d1, d2, d3] => { results := [.lit (.bool false)], args := [d1, d2, d3] }
  | _ => none }
def BlockBurstsWrongFalsely : Prop := blockBurstsRow.holds Tryd.pinned (OpenSpec.ofChange blockBurstsWrong)

/-- 'aumbrylaw04.BlockForms': WHATEVER THE INPUT: true; the input reads as it did. -/
def blockFormsSpec : ChangeSpec := { name := "blockForms", fn := fun _ => fun
  | [d1, d2, d3] => { results := [.lit (.bool true)], args := [d1, d2, d3] }
  | _ => none }
def blockFormsRow : OpenClaim := { program := "ytlgoacpmacomnaadoor", sum := "416751fb0dcb8e2af12c47c981f520effdd817efbc01c8790e0a4b91e1c99656", func := "aumbry/aumbrylaw04.BlockForms", spec := "blockForms", unfollowed := true, recurses := true, named := ["aumbry/crc.rests"], apart := false, laid := [("aumbry/crc.rests", laid_aumbry_crc_rests)] }
def BlockFormsSaid : Prop := blockFormsRow.holds Tryd.pinned (OpenSpec.ofChange blockFormsSpec)

/-- ITS FALSE NEIGHBOUR: 'it returns false'. Refute it at one input. -/
def blockFormsWrong : ChangeSpec := { name := "blockForms", fn := fun _ => fun
  | [d1, d2, d3] => { results := [.lit (.bool false)], args := [d1, d2, d3] }
  | _ => none }
def BlockFormsWrongFalsely : Prop := blockFormsRow.holds Tryd.pinned (OpenSpec.ofChange blockFormsWrong)

/-- 'aumbrylaw04.BlockLengths': WHATEVER THE INPUT: true; the input reads as it did. -/
def blockLengthsSpec : ChangeSpec := { name := "blockLengths", fn := fun _ => fun
  | [d1, d2, d3] => { results := [.lit (.bool true)], args := [d1, d2, d3] }
  | _ => none }
def blockLengthsRow : OpenClaim := { program := "ytlgoacpmacomnaadoor", sum := "416751fb0dcb8e2af12c47c981f520effdd817efbc01c8790e0a4b91e1c99656", func := "aumbry/aumbrylaw04.BlockLengths", spec := "blockLengths", unfollowed := true, recurses := true, named := ["aumbry/crc.rests"], apart := false, laid := [("aumbry/crc.rests", laid_aumbry_crc_rests)] }
def BlockLengthsSaid : Prop := blockLengthsRow.holds Tryd.pinned (OpenSpec.ofChange blockLengthsSpec)

/-- ITS FALSE NEIGHBOUR: 'it returns false'. Refute it at one input. -/
def blockLengthsWrong : ChangeSpec := { name := "blockLengths", fn := fun _ => fun
  | [d1, d2, d3] => { results := [.lit (.bool false)], args := [d1, d2, d3] }
  | _ => none }
def BlockLengthsWrongFalsely : Prop := blockLengthsRow.holds Tryd.pinned (OpenSpec.ofChange blockLengthsWrong)

/- THE SECOND FORM. 'bulk': how many values and letters a reading holds, each counted each time it is reached (what is shared counts as often as it is met; a slice's spare places count too). A statement '..UptoSaid' is the law's where the arguments, and the package variables that the reading takes, are together of bulk at most 1048576: NARROWER than '..Said'. Prove '..Said' where nothing that the law and all that it calls make is longer than what came in: it says more and counts as full. Else prove '..UptoSaid'. A law counts once. -/
mutual
def uptoBulk {H : Type} : DataW H → Nat
  | .lit (.string bytes) => bytes.length + 1
  | .lit _ => 1
  | .nil => 1
  | .ptr d => uptoBulk d + 1
  | .slice elems spare => uptoBulkAll elems + uptoBulkAll spare + 1
  | .agg parts => uptoBulkAll parts + 1
  | .iface _ d => uptoBulk d + 1
  | .map entries => uptoBulkEntries entries + 1
  | .held _ => 1
def uptoBulkAll {H : Type} : List (DataW H) → Nat
  | [] => 0
  | d :: r => uptoBulk d + uptoBulkAll r
def uptoBulkEntries {H : Type} : List (Lit × DataW H) → Nat
  | [] => 0
  | x :: r => uptoBulkEntry x + uptoBulkEntries r
def uptoBulkEntry {H : Type} : Lit × DataW H → Nat
  | (.string bytes, d) => bytes.length + uptoBulk d + 1
  | (_, d) => uptoBulk d + 1
 end
def uptoSmall : (H : Type) → List (DataW H) → Bool := fun _ ds => decide (uptoBulkAll ds ≤ 1048576)
def OpenSpec.upto (s : _root_.Go.ChangeSpec) : _root_.Go.OpenSpec := { _root_.Go.OpenSpec.ofChange s with cond := some uptoSmall }

/-- 'aumbrylaw04.BlockSeals', WHERE WHAT IT READS IS OF BULK AT MOST 1048576: true; the input reads as it did. -/
def blockSealsUptoRow : OpenClaim := { program := "ytlgoacpmacomnaadoor", sum := "416751fb0dcb8e2af12c47c981f520effdd817efbc01c8790e0a4b91e1c99656", func := "aumbry/aumbrylaw04.BlockSeals", spec := "blockSeals", unfollowed := true, recurses := true, named := ["aumbry/crc.rests"], apart := false, laid := [("aumbry/crc.rests", laid_aumbry_crc_rests)], narrowed := true }
def BlockSealsUptoSaid : Prop := blockSealsUptoRow.holds Tryd.pinned (OpenSpec.upto blockSealsSpec)

/-- 'aumbrylaw04.BlockOpens', WHERE WHAT IT READS IS OF BULK AT MOST 1048576: true; the input reads as it did. -/
def blockOpensUptoRow : OpenClaim := { program := "ytlgoacpmacomnaadoor", sum := "416751fb0dcb8e2af12c47c981f520effdd817efbc01c8790e0a4b91e1c99656", func := "aumbry/aumbrylaw04.BlockOpens", spec := "blockOpens", unfollowed := true, recurses := true, named := ["aumbry/crc.rests"], apart := false, laid := [("aumbry/crc.rests", laid_aumbry_crc_rests)], narrowed := true }
def BlockOpensUptoSaid : Prop := blockOpensUptoRow.holds Tryd.pinned (OpenSpec.upto blockOpensSpec)

/-- 'aumbrylaw04.BlockBack', WHERE WHAT IT READS IS OF BULK AT MOST 1048576: true; the input reads as it did. -/
def blockBackUptoRow : OpenClaim := { program := "ytlgoacpmacomnaadoor", sum := "416751fb0dcb8e2af12c47c981f520effdd817efbc01c8790e0a4b91e1c99656", func := "aumbry/aumbrylaw04.BlockBack", spec := "blockBack", unfollowed := true, recurses := true, named := ["aumbry/crc.rests"], apart := false, laid := [("aumbry/crc.rests", laid_aumbry_crc_rests)], narrowed := true }
def BlockBackUptoSaid : Prop := blockBackUptoRow.holds Tryd.pinned (OpenSpec.upto blockBackSpec)

/-- 'aumbrylaw04.BlockBursts', WHERE WHAT IT READS IS OF BULK AT MOST 1048576: true; the input reads as it did. -/
def blockBurstsUptoRow : OpenClaim := { program := "ytlgoacpmacomnaadoor", sum := "416751fb0dcb8e2af12c47c981f520effdd817efbc01c8790e0a4b91e1c99656", func := "aumbry/aumbrylaw04.BlockBursts", spec := "blockBursts", unfollowed := true, recurses := true, named := ["aumbry/crc.rests"], apart := false, laid := [("aumbry/crc.rests", laid_aumbry_crc_rests)], narrowed := true }
def BlockBurstsUptoSaid : Prop := blockBurstsUptoRow.holds Tryd.pinned (OpenSpec.upto blockBurstsSpec)

/-- 'aumbrylaw04.BlockForms', WHERE WHAT IT READS IS OF BULK AT MOST 1048576: true; the input reads as it did. -/
def blockFormsUptoRow : OpenClaim := { program := "ytlgoacpmacomnaadoor", sum := "416751fb0dcb8e2af12c47c981f520effdd817efbc01c8790e0a4b91e1c99656", func := "aumbry/aumbrylaw04.BlockForms", spec := "blockForms", unfollowed := true, recurses := true, named := ["aumbry/crc.rests"], apart := false, laid := [("aumbry/crc.rests", laid_aumbry_crc_rests)], narrowed := true }
def BlockFormsUptoSaid : Prop := blockFormsUptoRow.holds Tryd.pinned (OpenSpec.upto blockFormsSpec)

/-- 'aumbrylaw04.BlockLengths', WHERE WHAT IT READS IS OF BULK AT MOST 1048576: true; the input reads as it did. -/
def blockLengthsUptoRow : OpenClaim := { program := "ytlgoacpmacomnaadoor", sum := "416751fb0dcb8e2af12c47c981f520effdd817efbc01c8790e0a4b91e1c99656", func := "aumbry/aumbrylaw04.BlockLengths", spec := "blockLengths", unfollowed := true, recurses := true, named := ["aumbry/crc.rests"], apart := false, laid := [("aumbry/crc.rests", laid_aumbry_crc_rests)], narrowed := true }
def BlockLengthsUptoSaid : Prop := blockLengthsUptoRow.holds Tryd.pinned (OpenSpec.upto blockLengthsSpec)

end Rows
end Go.Proofs.YtlgoacpmacomnaaDoor
