/-
  No cell of these rows narrows 'for every input' (looked for: loops, veiled, ifaces, maps, wideKeys, modest, calm, conditions, laid).
  DERIVED. THE GIVEN ROWS OF THIS SEAT. 7 by the template 'for every input the law returns true; each argument reads behind the call as it read before'; 0 by the template 'total and deterministic' (their statements: YtimkiifcmegfeaaTotals.lean).
  GIVEN WITH THE SEED: the statements are not yours to turn. If you find one false, say at which input.
  Laid BY PROGRAM, IN A SANDBOX (cutbox-rows.mjs): the forced cells as the released guide's own fill.sh prints them over the translation 8762fffb2181017e… (all of the seat's roots in one cut). By AI agents, Wed Nov 11 2026. No macro, syntax, notation, axiom, sorry.
-/
import Derived.Test.YtimkiifcmegfeaaChecked
import GoSem.Claim
import GoSem.ClaimJoined
import GoSem.ClaimMapViews
import Derived.JoinedTies
import Derived.KernelRfl
namespace Go.Proofs.Ytimkiifcmegfeaa
/- THE CELL 'sum', in the pinned program and in every row, IS THE sha256 OF THE DUMP (.gsa) THAT YtimkiifcmegfeaaProg.lean LOADS. Nothing in Lean hashes anything: it is a label: what it is worth is what the hold of that sum in a sandbox is worth. -/
noncomputable def Try.pinned : Pinned := { name := "ytimkiifcmegfeaa", sum := "8762fffb2181017ef9c467c3dcd0545f89bc8ef12b8abbb8e8251cd380eb7b33", checked := Try.checked }
namespace Rows
def none {H : Type} : Left H := { results := [], args := [] }

/-- 'aumbrylaw22.CodeBytes': WHATEVER THE INPUT: true; the input reads as it did. -/
def codeBytesSpec : ChangeSpec := { name := "codeBytes", fn := fun _ => fun
  | [d1, d2] => { results := [.lit (.bool true)], args := [d1, d2] }
  | _ => none }
def codeBytesRow : OpenClaim := { program := "ytimkiifcmegfeaa", sum := "8762fffb2181017ef9c467c3dcd0545f89bc8ef12b8abbb8e8251cd380eb7b33", func := "aumbry/aumbrylaw22.CodeBytes", spec := "codeBytes", unfollowed := true, recurses := true, plainKeys := false, apart := false }
def CodeBytesSaid : Prop := codeBytesRow.holds Try.pinned (OpenSpec.ofChange codeBytesSpec)

/-- ITS FALSE NEIGHBOUR: 'it returns false'. Refute it at one input. -/
def codeBytesWrong : ChangeSpec := { name := "codeBytes", fn := fun _ => fun
  | [d1, d2] => { results := [.lit (.bool false)], args := [d1, d2] }
  | _ => none }
def CodeBytesWrongFalsely : Prop := codeBytesRow.holds Try.pinned (OpenSpec.ofChange codeBytesWrong)

/-- 'aumbrylaw22.CodeChecks': WHATEVER THE INPUT: true; the input reads as it did. -/
def codeChecksSpec : ChangeSpec := { name := "codeChecks", fn := fun _ => fun
  | [d] => { results := [.lit (.bool true)], args := [d] }
  | _ => none }
def codeChecksRow : OpenClaim := { program := "ytimkiifcmegfeaa", sum := "8762fffb2181017ef9c467c3dcd0545f89bc8ef12b8abbb8e8251cd380eb7b33", func := "aumbry/aumbrylaw22.CodeChecks", spec := "codeChecks", unfollowed := true, recurses := true, plainKeys := false, apart := false }
def CodeChecksSaid : Prop := codeChecksRow.holds Try.pinned (OpenSpec.ofChange codeChecksSpec)

/-- ITS FALSE NEIGHBOUR: 'it returns false'. Refute it at one input. -/
def codeChecksWrong : ChangeSpec := { name := "codeChecks", fn := fun _ => fun
  | [d] => { results := [.lit (.bool false)], args := [d] }
  | _ => none }
def CodeChecksWrongFalsely : Prop := codeChecksRow.holds Try.pinned (OpenSpec.ofChange codeChecksWrong)

/-- 'aumbrylaw22.CodeTakes': WHATEVER THE INPUT: true; the input reads as it did. -/
def codeTakesSpec : ChangeSpec := { name := "codeTakes", fn := fun _ => fun
  | [d] => { results := [.lit (.bool true)], args := [d] }
  | _ => none }
def codeTakesRow : OpenClaim := { program := "ytimkiifcmegfeaa", sum := "8762fffb2181017ef9c467c3dcd0545f89bc8ef12b8abbb8e8251cd380eb7b33", func := "aumbry/aumbrylaw22.CodeTakes", spec := "codeTakes", unfollowed := true, recurses := true, plainKeys := false, apart := false }
def CodeTakesSaid : Prop := codeTakesRow.holds Try.pinned (OpenSpec.ofChange codeTakesSpec)

/-- ITS FALSE NEIGHBOUR: 'it returns false'. Refute it at one input. -/
def codeTakesWrong : ChangeSpec := { name := "codeTakes", fn := fun _ => fun
  | [d] => { results := [.lit (.bool false)], args := [d] }
  | _ => none }
def CodeTakesWrongFalsely : Prop := codeTakesRow.holds Try.pinned (OpenSpec.ofChange codeTakesWrong)

/-- 'aumbrylaw22.CodeBack': WHATEVER THE INPUT: true; the input reads as it did. -/
def codeBackSpec : ChangeSpec := { name := "codeBack", fn := fun _ => fun
  | [d1, d2, d3] => { results := [.lit (.bool true)], args := [d1, d2, d3] }
  | _ => none }
def codeBackRow : OpenClaim := { program := "ytimkiifcmegfeaa", sum := "8762fffb2181017ef9c467c3dcd0545f89bc8ef12b8abbb8e8251cd380eb7b33", func := "aumbry/aumbrylaw22.CodeBack", spec := "codeBack", unfollowed := true, recurses := true, plainKeys := false, apart := false }
def CodeBackSaid : Prop := codeBackRow.holds Try.pinned (OpenSpec.ofChange codeBackSpec)

/-- ITS FALSE NEIGHBOUR: 'it returns false'. Refute it at one input. -/
def codeBackWrong : ChangeSpec := { name := "codeBack", fn := fun _ => fun
  | [d1, d2, d3] => { results := [.lit (.bool false)], args := [d1, d2, d3] }
  | _ => none }
def CodeBackWrongFalsely : Prop := codeBackRow.holds Try.pinned (OpenSpec.ofChange codeBackWrong)

/-- 'aumbrylaw22.CodeGoes': WHATEVER THE INPUT: true; the input reads as it did. -/
def codeGoesSpec : ChangeSpec := { name := "codeGoes", fn := fun _ => fun
  | [d1, d2, d3] => { results := [.lit (.bool true)], args := [d1, d2, d3] }
  | _ => none }
def codeGoesRow : OpenClaim := { program := "ytimkiifcmegfeaa", sum := "8762fffb2181017ef9c467c3dcd0545f89bc8ef12b8abbb8e8251cd380eb7b33", func := "aumbry/aumbrylaw22.CodeGoes", spec := "codeGoes", unfollowed := true, recurses := true, plainKeys := false, apart := false }
def CodeGoesSaid : Prop := codeGoesRow.holds Try.pinned (OpenSpec.ofChange codeGoesSpec)

/-- ITS FALSE NEIGHBOUR: 'it returns false'. Refute it at one input. -/
def codeGoesWrong : ChangeSpec := { name := "codeGoes", fn := fun _ => fun
  | [d1, d2, d3] => { results := [.lit (.bool false)], args := [d1, d2, d3] }
  | _ => none }
def CodeGoesWrongFalsely : Prop := codeGoesRow.holds Try.pinned (OpenSpec.ofChange codeGoesWrong)

/-- 'aumbrylaw22.CodeSpoilt': WHATEVER THE INPUT: true; the input reads as it did. -/
def codeSpoiltSpec : ChangeSpec := { name := "codeSpoilt", fn := fun _ => fun
  | [d] => { results := [.lit (.bool true)], args := [d] }
  | _ => none }
def codeSpoiltRow : OpenClaim := { program := "ytimkiifcmegfeaa", sum := "8762fffb2181017ef9c467c3dcd0545f89bc8ef12b8abbb8e8251cd380eb7b33", func := "aumbry/aumbrylaw22.CodeSpoilt", spec := "codeSpoilt", unfollowed := true, recurses := true, plainKeys := false, apart := false }
def CodeSpoiltSaid : Prop := codeSpoiltRow.holds Try.pinned (OpenSpec.ofChange codeSpoiltSpec)

/-- ITS FALSE NEIGHBOUR: 'it returns false'. Refute it at one input. -/
def codeSpoiltWrong : ChangeSpec := { name := "codeSpoilt", fn := fun _ => fun
  | [d] => { results := [.lit (.bool false)], args := [d] }
  | _ => none }
def CodeSpoiltWrongFalsely : Prop := codeSpoiltRow.holds Try.pinned (OpenSpec.ofChange codeSpoiltWrong)

/-- 'aumbrylaw22.CodeHeights': WHATEVER THE INPUT: true; the input reads as it did. -/
def codeHeightsSpec : ChangeSpec := { name := "codeHeights", fn := fun _ => fun
  | [d1, d2, d3] => { results := [.lit (.bool true)], args := [d1, d2, d3] }
  | _ => none }
def codeHeightsRow : OpenClaim := { program := "ytimkiifcmegfeaa", sum := "8762fffb2181017ef9c467c3dcd0545f89bc8ef12b8abbb8e8251cd380eb7b33", func := "aumbry/aumbrylaw22.CodeHeights", spec := "codeHeights", unfollowed := true, recurses := true, plainKeys := false, apart := false }
def CodeHeightsSaid : Prop := codeHeightsRow.holds Try.pinned (OpenSpec.ofChange codeHeightsSpec)

/-- ITS FALSE NEIGHBOUR: 'it returns false'. Refute it at one input. -/
def codeHeightsWrong : ChangeSpec := { name := "codeHeights", fn := fun _ => fun
  | [d1, d2, d3] => { results := [.lit (.bool false)], args := [d1, d2, d3] }
  | _ => none }
def CodeHeightsWrongFalsely : Prop := codeHeightsRow.holds Try.pinned (OpenSpec.ofChange codeHeightsWrong)

/- THE SECOND FORM. 'bulk': how many values and letters a reading holds, each counted each time it is reached (what is shared counts as often as it is met; a slice's spare places count too). A statement '..UptoSaid' is the law's where the arguments, and the package variables that the reading takes, are together of bulk at most 1048576: NARROWER than '..Said'. Prove '..Said' where nothing that the law and all that it calls make is longer than what came in: it says more and counts as full. Else prove '..UptoSaid'. A law counts once. -/
mutual
def uptoBulk {H : Type} : DataW H → Nat
  | .lit (.string bytes) => bytes.length + 1
  | .lit _ => 1
  | .nil => 1
  | .ptr d => uptoBulk d + 1
  | .slice elems spare => uptoBulkAll elems + uptoBulkAll spare + 1
  | .agg parts => uptoBulkAll parts + 1
  | .iface _ d => uptoBulk d + 1
  | .map entries => uptoBulkEntries entries + 1
  | .held _ => 1
def uptoBulkAll {H : Type} : List (DataW H) → Nat
  | [] => 0
  | d :: r => uptoBulk d + uptoBulkAll r
def uptoBulkEntries {H : Type} : List (Lit × DataW H) → Nat
  | [] => 0
  | x :: r => uptoBulkEntry x + uptoBulkEntries r
def uptoBulkEntry {H : Type} : Lit × DataW H → Nat
  | (.string bytes, d) => bytes.length + uptoBulk d + 1
  | (_, d) => uptoBulk d + 1
 end
def uptoSmall : (H : Type) → List (DataW H) → Bool := fun _ ds => decide (uptoBulkAll ds ≤ 1048576)
def OpenSpec.upto (s : _root_.Go.ChangeSpec) : _root_.Go.OpenSpec := { _root_.Go.OpenSpec.ofChange s with cond := some uptoSmall }

/-- 'aumbrylaw22.CodeBytes', WHERE WHAT IT READS IS OF BULK AT MOST 1048576: true; the input reads as it did. -/
def codeBytesUptoRow : OpenClaim := { program := "ytimkiifcmegfeaa", sum := "8762fffb2181017ef9c467c3dcd0545f89bc8ef12b8abbb8e8251cd380eb7b33", func := "aumbry/aumbrylaw22.CodeBytes", spec := "codeBytes", unfollowed := true, recurses := true, plainKeys := false, apart := false, narrowed := true }
def CodeBytesUptoSaid : Prop := codeBytesUptoRow.holds Try.pinned (OpenSpec.upto codeBytesSpec)

/-- 'aumbrylaw22.CodeChecks', WHERE WHAT IT READS IS OF BULK AT MOST 1048576: true; the input reads as it did. -/
def codeChecksUptoRow : OpenClaim := { program := "ytimkiifcmegfeaa", sum := "8762fffb2181017ef9c467c3dcd0545f89bc8ef12b8abbb8e8251cd380eb7b33", func := "aumbry/aumbrylaw22.CodeChecks", spec := "codeChecks", unfollowed := true, recurses := true, plainKeys := false, apart := false, narrowed := true }
def CodeChecksUptoSaid : Prop := codeChecksUptoRow.holds Try.pinned (OpenSpec.upto codeChecksSpec)

/-- 'aumbrylaw22.CodeTakes', WHERE WHAT IT READS IS OF BULK AT MOST 1048576: true; the input reads as it did. -/
def codeTakesUptoRow : OpenClaim := { program := "ytimkiifcmegfeaa", sum := "8762fffb2181017ef9c467c3dcd0545f89bc8ef12b8abbb8e8251cd380eb7b33", func := "aumbry/aumbrylaw22.CodeTakes", spec := "codeTakes", unfollowed := true, recurses := true, plainKeys := false, apart := false, narrowed := true }
def CodeTakesUptoSaid : Prop := codeTakesUptoRow.holds Try.pinned (OpenSpec.upto codeTakesSpec)

/-- 'aumbrylaw22.CodeBack', WHERE WHAT IT READS IS OF BULK AT MOST 1048576: true; the input reads as it did. -/
def codeBackUptoRow : OpenClaim := { program := "ytimkiifcmegfeaa", sum := "8762fffb2181017ef9c467c3dcd0545f89bc8ef12b8abbb8e8251cd380eb7b33", func := "aumbry/aumbrylaw22.CodeBack", spec := "codeBack", unfollowed := true, recurses := true, plainKeys := false, apart := false, narrowed := true }
def CodeBackUptoSaid : Prop := codeBackUptoRow.holds Try.pinned (OpenSpec.upto codeBackSpec)

/-- 'aumbrylaw22.CodeGoes', WHERE WHAT IT READS IS OF BULK AT MOST 1048576: true; the input reads as it did. -/
def codeGoesUptoRow : OpenClaim := { program := "ytimkiifcmegfeaa", sum := "8762fffb2181017ef9c467c3dcd0545f89bc8ef12b8abbb8e8251cd380eb7b33", func := "aumbry/aumbrylaw22.CodeGoes", spec := "codeGoes", unfollowed := true, recurses := true, plainKeys := false, apart := false, narrowed := true }
def CodeGoesUptoSaid : Prop := codeGoesUptoRow.holds Try.pinned (OpenSpec.upto codeGoesSpec)

/-- 'aumbrylaw22.CodeSpoilt', WHERE WHAT IT READS IS OF BULK AT MOST 1048576: true; the input reads as it did. -/
def codeSpoiltUptoRow : OpenClaim := { program := "ytimkiifcmegfeaa", sum := "8762fffb2181017ef9c467c3dcd0545f89bc8ef12b8abbb8e8251cd380eb7b33", func := "aumbry/aumbrylaw22.CodeSpoilt", spec := "codeSpoilt", unfollowed := true, recurses := true, plainKeys := false, apart := false, narrowed := true }
def CodeSpoiltUptoSaid : Prop := codeSpoiltUptoRow.holds Try.pinned (OpenSpec.upto codeSpoiltSpec)

/-- 'aumbrylaw22.CodeHeights', WHERE WHAT IT READS IS OF BULK AT MOST 1048576: true; the input reads as it did. -/
def codeHeightsUptoRow : OpenClaim := { program := "ytimkiifcmegfeaa", sum := "8762fffb2181017ef9c467c3dcd0545f89bc8ef12b8abbb8e8251cd380eb7b33", func := "aumbry/aumbrylaw22.CodeHeights", spec := "codeHeights", unfollowed := true, recurses := true, plainKeys := false, apart := false, narrowed := true }
def CodeHeightsUptoSaid : Prop := codeHeightsUptoRow.holds Try.pinned (OpenSpec.upto codeHeightsSpec)

end Rows
end Go.Proofs.Ytimkiifcmegfeaa
