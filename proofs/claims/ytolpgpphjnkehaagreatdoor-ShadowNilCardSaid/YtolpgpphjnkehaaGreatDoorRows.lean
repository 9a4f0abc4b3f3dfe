/-
  NARROWER THAN 'FOR EVERY INPUT', by the rows' own cells (each row's printed sentence says how): ShadowPlays: laid · ShadowOpens: laid · ShadowLasts: laid · ShadowPublishes: laid · ShadowRoom: laid · ShadowDrops: laid · ShadowNil: laid.
  DERIVED. THE GIVEN ROWS OF THIS SEAT. 7 by the template 'for every input the law returns true; each argument reads behind the call as it read before'; 0 by the template 'total and deterministic' (their statements: YtolpgpphjnkehaaGreatDoorTotals.lean).
  GIVEN WITH THE SEED: the statements are not yours to turn. If you find one false, say at which input.
  Laid BY PROGRAM, IN A SANDBOX (cutbox-rows.mjs): the forced cells as the released guide's own fill.sh prints them over the translation f8921387ab0d7e3b… (all of the seat's roots in one cut). By AI agents, Wed Nov 11 2026. No macro, syntax, notation, axiom, sorry.
-/
import Derived.Test.YtolpgpphjnkehaaGreatDoorChecked
import GoSem.Claim
import GoSem.ClaimJoined
import GoSem.ClaimMapViews
import Derived.JoinedTies
import Derived.KernelRfl
namespace Go.Proofs.YtolpgpphjnkehaaGreatDoor
/- THE CELL 'sum', in the pinned program and in every row, IS THE sha256 OF THE DUMP (.gsa) THAT YtolpgpphjnkehaaGreatDoorProg.lean LOADS. Nothing in Lean hashes anything: it is a label: what it is worth is what the hold of that sum in a sandbox is worth. -/
noncomputable def Tryz.pinned : Pinned := { name := "ytolpgpphjnkehaagreatdoor", sum := "f8921387ab0d7e3b0131c19341891b0657059262d25b457611a709eac12a1dbe", checked := Tryz.checked }
namespace Rows
def none {H : Type} : Left H := { results := [], args := [] }

/- WHAT THE LISTED PACKAGE-LEVEL VARIABLES READ AS WHEN THE CALL BEGINS. Each datum BY PROGRAM (the guide's laid-datum.mjs) off the statement by which the dump's own 'gosem.cut.vars' lays the variable. In a bare row this is a premise. The card (YtolpgpphjnkehaaGreatDoorCards.lean) ties it to the program's text. -/
def laid_aumbry_crc_rests {H : Type} : DataW H := .agg [.lit (.int .u32 0), .lit (.int .u32 498536548), .lit (.int .u32 997073096), .lit (.int .u32 651767980), .lit (.int .u32 1994146192), .lit (.int .u32 1802195444), .lit (.int .u32 1303535960), .lit (.int .u32 1342533948), .lit (.int .u32 3988292384), .lit (.int .u32 4027552580), .lit (.int .u32 3604390888), .lit (.int .u32 3412177804), .lit (.int .u32 2607071920), .lit (.int .u32 2262029012), .lit (.int .u32 2685067896), .lit (.int .u32 3183342108)]

/-- 'aumbrylaw08.ShadowPlays': WHATEVER THE INPUT: true; the input reads as it did. -/
def shadowPlaysSpec : ChangeSpec := { name := "shadowPlays", fn := fun _ => fun
  | [d1, d2, d3] => { results := [.lit (.bool true)], args := [d1, d2, d3] }
  | _ => none }
def shadowPlaysRow : OpenClaim := { program := "ytolpgpphjnkehaagreatdoor", sum := "f8921387ab0d7e3b0131c19341891b0657059262d25b457611a709eac12a1dbe", func := "aumbry/aumbrylaw08.ShadowPlays", spec := "shadowPlays", inPlace := ["sync/atomic.LoadUint32", "(*internal/sync.Mutex).Lock", "internal/race.Disable", "sync/atomic.CompareAndSwapInt32", "internal/race.Enable", "internal/race.Acquire", "(*internal/sync.Mutex).lockSlow", "internal/sync.runtime_canSpin", "internal/sync.runtime_doSpin", "internal/sync.throw", "internal/sync.runtime_nanotime", "internal/sync.runtime_SemacquireMutex", "sync/atomic.AddInt32", "(*internal/sync.Mutex).Unlock", "internal/race.ReleaseMerge", "(*internal/sync.Mutex).unlockSlow", "internal/sync.fatal", "internal/sync.runtime_Semrelease", "sync/atomic.StoreUint32"], unfollowed := true, recurses := true, named := ["aumbry/crc.rests"], apart := false, laid := [("aumbry/crc.rests", laid_aumbry_crc_rests)] }
def ShadowPlaysSaid : Prop := shadowPlaysRow.holds Tryz.pinned (OpenSpec.ofChange shadowPlaysSpec)

/-- ITS FALSE NEIGHBOUR: 'it returns false'. Refute it at one input. -/
def shadowPlaysWrong : ChangeSpec := { name := "shadowPlays", fn := fun _ => fun
  | [d1, d2, d3] => { results := [.lit (.bool false)], args := [d1, d2, d3] }
  | _ => none }
def ShadowPlaysWrongFalsely : Prop := shadowPlaysRow.holds Tryz.pinned (OpenSpec.ofChange shadowPlaysWrong)

/-- 'aumbrylaw08.ShadowOpens': WHATEVER THE INPUT: true; the input reads as it did. -/
def shadowOpensSpec : ChangeSpec := { name := "shadowOpens", fn := fun _ => fun
  | [d1, d2] => { results := [.lit (.bool true)], args := [d1, d2] }
  | _ => none }
def shadowOpensRow : OpenClaim := { program := "ytolpgpphjnkehaagreatdoor", sum := "f8921387ab0d7e3b0131c19341891b0657059262d25b457611a709eac12a1dbe", func := "aumbry/aumbrylaw08.ShadowOpens", spec := "shadowOpens", inPlace := ["sync/atomic.LoadUint32", "(*internal/sync.Mutex).Lock", "internal/race.Disable", "sync/atomic.CompareAndSwapInt32", "internal/race.Enable", "internal/race.Acquire", "(*internal/sync.Mutex).lockSlow", "internal/sync.runtime_canSpin", "internal/sync.runtime_doSpin", "internal/sync.throw", "internal/sync.runtime_nanotime", "internal/sync.runtime_SemacquireMutex", "sync/atomic.AddInt32", "(*internal/sync.Mutex).Unlock", "internal/race.ReleaseMerge", "(*internal/sync.Mutex).unlockSlow", "internal/sync.fatal", "internal/sync.runtime_Semrelease", "sync/atomic.StoreUint32"], unfollowed := true, recurses := true, named := ["aumbry/crc.rests"], apart := false, laid := [("aumbry/crc.rests", laid_aumbry_crc_rests)] }
def ShadowOpensSaid : Prop := shadowOpensRow.holds Tryz.pinned (OpenSpec.ofChange shadowOpensSpec)

/-- ITS FALSE NEIGHBOUR: 'it returns false'. Refute it at one input. -/
def shadowOpensWrong : ChangeSpec := { name := "shadowOpens", fn := fun _ => fun
  | [d1, d2] => { results := [.lit (.bool false)], args := [d1, d2] }
  | _ => none }
def ShadowOpensWrongFalsely : Prop := shadowOpensRow.holds Tryz.pinned (OpenSpec.ofChange shadowOpensWrong)

/-- 'aumbrylaw08.ShadowLasts': WHATEVER THE INPUT: true; the input reads as it did. -/
def shadowLastsSpec : ChangeSpec := { name := "shadowLasts", fn := fun _ => fun
  | [d1, d2, d3] => { results := [.lit (.bool true)], args := [d1, d2, d3] }
  | _ => none }
def shadowLastsRow : OpenClaim := { program := "ytolpgpphjnkehaagreatdoor", sum := "f8921387ab0d7e3b0131c19341891b0657059262d25b457611a709eac12a1dbe", func := "aumbry/aumbrylaw08.ShadowLasts", spec := "shadowLasts", inPlace := ["sync/atomic.LoadUint32", "(*internal/sync.Mutex).Lock", "internal/race.Disable", "sync/atomic.CompareAndSwapInt32", "internal/race.Enable", "internal/race.Acquire", "(*internal/sync.Mutex).lockSlow", "internal/sync.runtime_canSpin", "internal/sync.runtime_doSpin", "internal/sync.throw", "internal/sync.runtime_nanotime", "internal/sync.runtime_SemacquireMutex", "sync/atomic.AddInt32", "(*internal/sync.Mutex).Unlock", "internal/race.ReleaseMerge", "(*internal/sync.Mutex).unlockSlow", "internal/sync.fatal", "internal/sync.runtime_Semrelease", "sync/atomic.StoreUint32"], unfollowed := true, recurses := true, named := ["aumbry/crc.rests"], apart := false, laid := [("aumbry/crc.rests", laid_aumbry_crc_rests)] }
def ShadowLastsSaid : Prop := shadowLastsRow.holds Tryz.pinned (OpenSpec.ofChange shadowLastsSpec)

/-- ITS FALSE NEIGHBOUR: 'it returns false'. Refute it at one input. -/
def shadowLastsWrong : ChangeSpec := { name := "shadowLasts", fn := fun _ => fun
  | [d1, d2, d3] => { results := [.lit (.bool false)], args := [d1, d2, d3] }
  | _ => none }
def ShadowLastsWrongFalsely : Prop := shadowLastsRow.holds Tryz.pinned (OpenSpec.ofChange shadowLastsWrong)

/-- 'aumbrylaw08.ShadowPublishes': WHATEVER THE INPUT: true; the input reads as it did. -/
def shadowPublishesSpec : ChangeSpec := { name := "shadowPublishes", fn := fun _ => fun
  | [d1, d2, d3] => { results := [.lit (.bool true)], args := [d1, d2, d3] }
  | _ => none }
def shadowPublishesRow : OpenClaim := { program := "ytolpgpphjnkehaagreatdoor", sum := "f8921387ab0d7e3b0131c19341891b0657059262d25b457611a709eac12a1dbe", func := "aumbry/aumbrylaw08.ShadowPublishes", spec := "shadowPublishes", inPlace := ["sync/atomic.LoadUint32", "(*internal/sync.Mutex).Lock", "internal/race.Disable", "sync/atomic.CompareAndSwapInt32", "internal/race.Enable", "internal/race.Acquire", "(*internal/sync.Mutex).lockSlow", "internal/sync.runtime_canSpin", "internal/sync.runtime_doSpin", "internal/sync.throw", "internal/sync.runtime_nanotime", "internal/sync.runtime_SemacquireMutex", "sync/atomic.AddInt32", "(*internal/sync.Mutex).Unlock", "internal/race.ReleaseMerge", "(*internal/sync.Mutex).unlockSlow", "internal/sync.fatal", "internal/sync.runtime_Semrelease", "sync/atomic.StoreUint32"], unfollowed := true, recurses := true, named := ["aumbry/crc.rests"], apart := false, laid := [("aumbry/crc.rests", laid_aumbry_crc_rests)] }
def ShadowPublishesSaid : Prop := shadowPublishesRow.holds Tryz.pinned (OpenSpec.ofChange shadowPublishesSpec)

/-- ITS FALSE NEIGHBOUR: 'it returns false'. Refute it at one input. -/
def shadowPublishesWrong : ChangeSpec := { name := "shadowPublishes", fn := fun _ => fun
  | [d1, d2, d3] => { results := [.lit (.bool false)], args := [d1, d2, d3] }
  | _ => none }
def ShadowPublishesWrongFalsely : Prop := shadowPublishesRow.holds Tryz.pinned (OpenSpec.ofChange shadowPublishesWrong)

/-- 'aumbrylaw08.ShadowRoom': WHATEVER THE INPUT: true; the input reads as it did. -/
def shadowRoomSpec : ChangeSpec := { name := "shadowRoom", fn := fun _ => fun
  | [d1, d2, d3, d4] => { results := [.lit (.bool true)], args := [d1, d2, d3, d4] }
  | _ => none }
def shadowRoomRow : OpenClaim := { program := "ytolpgpphjnkehaagreatdoor", sum := "f8921387ab0d7e3b0131c19341891b0657059262d25b457611a709eac12a1dbe", func := "aumbry/aumbrylaw08.ShadowRoom", spec := "shadowRoom", inPlace := ["sync/atomic.LoadUint32", "(*internal/sync.Mutex).Lock", "internal/race.Disable", "sync/atomic.CompareAndSwapInt32", "internal/race.Enable", "internal/race.Acquire", "(*internal/sync.Mutex).lockSlow", "internal/sync.runtime_canSpin", "internal/sync.runtime_doSpin", "internal/sync.throw", "internal/sync.runtime_nanotime", "internal/sync.runtime_SemacquireMutex", "sync/atomic.AddInt32", "(*internal/sync.Mutex).Unlock", "internal/race.ReleaseMerge", "(*internal/sync.Mutex).unlockSlow", "internal/sync.fatal", "internal/sync.runtime_Semrelease", "sync/atomic.StoreUint32"], unfollowed := true, recurses := true, named := ["aumbry/crc.rests"], apart := false, laid := [("aumbry/crc.rests", laid_aumbry_crc_rests)] }
def ShadowRoomSaid : Prop := shadowRoomRow.holds Tryz.pinned (OpenSpec.ofChange shadowRoomSpec)

/-- ITS FALSE NEIGHBOUR: 'it returns false'. Refute it at one input. -/
def shadowRoomWrong : ChangeSpec := { name := "shadowRoom", fn := fun _ => fun
  | [d1, d2, d3, d4] => { results := [.lit (.bool false)], args := [d1, d2, d3, d4] }
  | _ => none }
def ShadowRoomWrongFalsely : Prop := shadowRoomRow.holds Tryz.pinned (OpenSpec.ofChange shadowRoomWrong)

/-- 'aumbrylaw08.ShadowDrops': WHATEVER THE INPUT: true; the input reads as it did. -/
def shadowDropsSpec : ChangeSpec := { name := "shadowDrops", fn := fun _ => fun
  | [d1, d2] => { results := [.lit (.bool true)], args := [d1, d2] }
  | _ => none }
def shadowDropsRow : OpenClaim := { program := "ytolpgpphjnkehaagreatdoor", sum := "f8921387ab0d7e3b0131c19341891b0657059262d25b457611a709eac12a1dbe", func := "aumbry/aumbrylaw08.ShadowDrops", spec := "shadowDrops", inPlace := ["sync/atomic.LoadUint32", "(*internal/sync.Mutex).Lock", "internal/race.Disable", "sync/atomic.CompareAndSwapInt32", "internal/race.Enable", "internal/race.Acquire", "(*internal/sync.Mutex).lockSlow", "internal/sync.runtime_canSpin", "internal/sync.runtime_doSpin", "internal/sync.throw", "internal/sync.runtime_nanotime", "internal/sync.runtime_SemacquireMutex", "sync/atomic.AddInt32", "(*internal/sync.Mutex).Unlock", "internal/race.ReleaseMerge", "(*internal/sync.Mutex).unlockSlow", "internal/sync.fatal", "internal/sync.runtime_Semrelease", "sync/atomic.StoreUint32"], unfollowed := true, recurses := true, named := ["aumbry/crc.rests"], apart := false, laid := [("aumbry/crc.rests", laid_aumbry_crc_rests)] }
def ShadowDropsSaid : Prop := shadowDropsRow.holds Tryz.pinned (OpenSpec.ofChange shadowDropsSpec)

/-- ITS FALSE NEIGHBOUR: 'it returns false'. Refute it at one input. -/
def shadowDropsWrong : ChangeSpec := { name := "shadowDrops", fn := fun _ => fun
  | [d1, d2] => { results := [.lit (.bool false)], args := [d1, d2] }
  | _ => none }
def ShadowDropsWrongFalsely : Prop := shadowDropsRow.holds Tryz.pinned (OpenSpec.ofChange shadowDropsWrong)

/-- 'aumbrylaw08.ShadowNil': WHATEVER THE INPUT: true; the input reads as it did. -/
def shadowNilSpec : ChangeSpec := { name := "shadowNil", fn := fun _ => fun
  | [d] => { results := [.lit (.bool true)], args := [d] }
  | _ => none }
def shadowNilRow : OpenClaim := { program := "ytolpgpphjnkehaagreatdoor", sum := "f8921387ab0d7e3b0131c19341891b0657059262d25b457611a709eac12a1dbe", func := "aumbry/aumbrylaw08.ShadowNil", spec := "shadowNil", inPlace := ["sync/atomic.LoadUint32", "(*internal/sync.Mutex).Lock", "internal/race.Disable", "sync/atomic.CompareAndSwapInt32", "internal/race.Enable", "internal/race.Acquire", "(*internal/sync.Mutex).lockSlow", "internal/sync.runtime_canSpin", "internal/sync.runtime_doSpin", "internal/sync.throw", "internal/sync.runtime_nanotime", "internal/sync.runtime_SemacquireMutex", "sync/atomic.AddInt32", "(*internal/sync.Mutex).Unlock", "internal/race.ReleaseMerge", "(*internal/sync.Mutex).unlockSlow", "internal/sync.fatal", "internal/sync.runtime_Semrelease", "sync/atomic.StoreUint32"], unfollowed := true, recurses := true, named := ["aumbry/crc.rests"], apart := false, laid := [("aumbry/crc.rests", laid_aumbry_crc_rests)] }
def ShadowNilSaid : Prop := shadowNilRow.holds Tryz.pinned (OpenSpec.ofChange shadowNilSpec)

/-- ITS FALSE NEIGHBOUR: 'it returns false'. Refute it at one input. -/
def shadowNilWrong : ChangeSpec := { name := "shadowNil", fn := fun _ => fun
  | [d] => { results := [.lit (.bool false)], args := [d] }
  | _ => none }
def ShadowNilWrongFalsely : Prop := shadowNilRow.holds Tryz.pinned (OpenSpec.ofChange shadowNilWrong)

/- THE SECOND FORM. 'bulk': how many values and letters a reading holds, each counted each time it is reached (what is shared counts as often as it is met; a slice's spare places count too). A statement '..UptoSaid' is the law's where the arguments, and the package variables that the reading takes, are together of bulk at most 1048576: NARROWER than '..Said'. Prove '..Said' where nothing that the law and all that it calls make is longer than what came in: it says more and counts as full. Else prove '..UptoSaid'. A law counts once. -/
mutual
def uptoBulk {H : Type} : DataW H → Nat
  | .lit (.string bytes) => bytes.length + 1
  | .lit _ => 1
  | .nil => 1
  | .ptr d => uptoBulk d + 1
  | .slice elems spare => uptoBulkAll elems + uptoBulkAll spare + 1
  | .agg parts => uptoBulkAll parts + 1
  | .iface _ d => uptoBulk d + 1
  | .map entries => uptoBulkEntries entries + 1
  | .held _ => 1
def uptoBulkAll {H : Type} : List (DataW H) → Nat
  | [] => 0
  | d :: r => uptoBulk d + uptoBulkAll r
def uptoBulkEntries {H : Type} : List (Lit × DataW H) → Nat
  | [] => 0
  | x :: r => uptoBulkEntry x + uptoBulkEntries r
def uptoBulkEntry {H : Type} : Lit × DataW H → Nat
  | (.string bytes, d) => bytes.length + uptoBulk d + 1
  | (_, d) => uptoBulk d + 1
 end
def uptoSmall : (H : Type) → List (DataW H) → Bool := fun _ ds => decide (uptoBulkAll ds ≤ 1048576)
def OpenSpec.upto (s : _root_.Go.ChangeSpec) : _root_.Go.OpenSpec := { _root_.Go.OpenSpec.ofChange s with cond := some uptoSmall }

/-- 'aumbrylaw08.ShadowPlays', WHERE WHAT IT READS IS OF BULK AT MOST 1048576: true; the input reads as it did. -/
def shadowPlaysUptoRow : OpenClaim := { program := "ytolpgpphjnkehaagreatdoor", sum := "f8921387ab0d7e3b0131c19341891b0657059262d25b457611a709eac12a1dbe", func := "aumbry/aumbrylaw08.ShadowPlays", spec := "shadowPlays", inPlace := ["sync/atomic.LoadUint32", "(*internal/sync.Mutex).Lock", "internal/race.Disable", "sync/atomic.CompareAndSwapInt32", "internal/race.Enable", "internal/race.Acquire", "(*internal/sync.Mutex).lockSlow", "internal/sync.runtime_canSpin", "internal/sync.runtime_doSpin", "internal/sync.throw", "internal/sync.runtime_nanotime", "internal/sync.runtime_SemacquireMutex", "sync/atomic.AddInt32", "(*internal/sync.Mutex).Unlock", "internal/race.ReleaseMerge", "(*internal/sync.Mutex).unlockSlow", "internal/sync.fatal", "internal/sync.runtime_Semrelease", "sync/atomic.StoreUint32"], unfollowed := true, recurses := true, named := ["aumbry/crc.rests"], apart := false, laid := [("aumbry/crc.rests", laid_aumbry_crc_rests)], narrowed := true }
def ShadowPlaysUptoSaid : Prop := shadowPlaysUptoRow.holds Tryz.pinned (OpenSpec.upto shadowPlaysSpec)

/-- 'aumbrylaw08.ShadowOpens', WHERE WHAT IT READS IS OF BULK AT MOST 1048576: true; the input reads as it did. -/
def shadowOpensUptoRow : OpenClaim := { program := "ytolpgpphjnkehaagreatdoor", sum := "f8921387ab0d7e3b0131c19341891b0657059262d25b457611a709eac12a1dbe", func := "aumbry/aumbrylaw08.ShadowOpens", spec := "shadowOpens", inPlace := ["sync/atomic.LoadUint32", "(*internal/sync.Mutex).Lock", "internal/race.Disable", "sync/atomic.CompareAndSwapInt32", "internal/race.Enable", "internal/race.Acquire", "(*internal/sync.Mutex).lockSlow", "internal/sync.runtime_canSpin", "internal/sync.runtime_doSpin", "internal/sync.throw", "internal/sync.runtime_nanotime", "internal/sync.runtime_SemacquireMutex", "sync/atomic.AddInt32", "(*internal/sync.Mutex).Unlock", "internal/race.ReleaseMerge", "(*internal/sync.Mutex).unlockSlow", "internal/sync.fatal", "internal/sync.runtime_Semrelease", "sync/atomic.StoreUint32"], unfollowed := true, recurses := true, named := ["aumbry/crc.rests"], apart := false, laid := [("aumbry/crc.rests", laid_aumbry_crc_rests)], narrowed := true }
def ShadowOpensUptoSaid : Prop := shadowOpensUptoRow.holds Tryz.pinned (OpenSpec.upto shadowOpensSpec)

/-- 'aumbrylaw08.ShadowLasts', WHERE WHAT IT READS IS OF BULK AT MOST 1048576: true; the input reads as it did. -/
def shadowLastsUptoRow : OpenClaim := { program := "ytolpgpphjnkehaagreatdoor", sum := "f8921387ab0d7e3b0131c19341891b0657059262d25b457611a709eac12a1dbe", func := "aumbry/aumbrylaw08.ShadowLasts", spec := "shadowLasts", inPlace := ["sync/atomic.LoadUint32", "(*internal/sync.Mutex).Lock", "internal/race.Disable", "sync/atomic.CompareAndSwapInt32", "internal/race.Enable", "internal/race.Acquire", "(*internal/sync.Mutex).lockSlow", "internal/sync.runtime_canSpin", "internal/sync.runtime_doSpin", "internal/sync.throw", "internal/sync.runtime_nanotime", "internal/sync.runtime_SemacquireMutex", "sync/atomic.AddInt32", "(*internal/sync.Mutex).Unlock", "internal/race.ReleaseMerge", "(*internal/sync.Mutex).unlockSlow", "internal/sync.fatal", "internal/sync.runtime_Semrelease", "sync/atomic.StoreUint32"], unfollowed := true, recurses := true, named := ["aumbry/crc.rests"], apart := false, laid := [("aumbry/crc.rests", laid_aumbry_crc_rests)], narrowed := true }
def ShadowLastsUptoSaid : Prop := shadowLastsUptoRow.holds Tryz.pinned (OpenSpec.upto shadowLastsSpec)

/-- 'aumbrylaw08.ShadowPublishes', WHERE WHAT IT READS IS OF BULK AT MOST 1048576: true; the input reads as it did. -/
def shadowPublishesUptoRow : OpenClaim := { program := "ytolpgpphjnkehaagreatdoor", sum := "f8921387ab0d7e3b0131c19341891b0657059262d25b457611a709eac12a1dbe", func := "aumbry/aumbrylaw08.ShadowPublishes", spec := "shadowPublishes", inPlace := ["sync/atomic.LoadUint32", "(*internal/sync.Mutex).Lock", "internal/race.Disable", "sync/atomic.CompareAndSwapInt32", "internal/race.Enable", "internal/race.Acquire", "(*internal/sync.Mutex).lockSlow", "internal/sync.runtime_canSpin", "internal/sync.runtime_doSpin", "internal/sync.throw", "internal/sync.runtime_nanotime", "internal/sync.runtime_SemacquireMutex", "sync/atomic.AddInt32", "(*internal/sync.Mutex).Unlock", "internal/race.ReleaseMerge", "(*internal/sync.Mutex).unlockSlow", "internal/sync.fatal", "internal/sync.runtime_Semrelease", "sync/atomic.StoreUint32"], unfollowed := true, recurses := true, named := ["aumbry/crc.rests"], apart := false, laid := [("aumbry/crc.rests", laid_aumbry_crc_rests)], narrowed := true }
def ShadowPublishesUptoSaid : Prop := shadowPublishesUptoRow.holds Tryz.pinned (OpenSpec.upto shadowPublishesSpec)

/-- 'aumbrylaw08.ShadowRoom', WHERE WHAT IT READS IS OF BULK AT MOST 1048576: true; the input reads as it did. -/
def shadowRoomUptoRow : OpenClaim := { program := "ytolpgpphjnkehaagreatdoor", sum := "f8921387ab0d7e3b0131c19341891b0657059262d25b457611a709eac12a1dbe", func := "aumbry/aumbrylaw08.ShadowRoom", spec := "shadowRoom", inPlace := ["sync/atomic.LoadUint32", "(*internal/sync.Mutex).Lock", "internal/race.Disable", "sync/atomic.CompareAndSwapInt32", "internal/race.Enable", "internal/race.Acquire", "(*internal/sync.Mutex).lockSlow", "internal/sync.runtime_canSpin", "internal/sync.runtime_doSpin", "internal/sync.throw", "internal/sync.runtime_nanotime", "internal/sync.runtime_SemacquireMutex", "sync/atomic.AddInt32", "(*internal/sync.Mutex).Unlock", "internal/race.ReleaseMerge", "(*internal/sync.Mutex).unlockSlow", "internal/sync.fatal", "internal/sync.runtime_Semrelease", "sync/atomic.StoreUint32"], unfollowed := true, recurses := true, named := ["aumbry/crc.rests"], apart := false, laid := [("aumbry/crc.rests", laid_aumbry_crc_rests)], narrowed := true }
def ShadowRoomUptoSaid : Prop := shadowRoomUptoRow.holds Tryz.pinned (OpenSpec.upto shadowRoomSpec)

/-- 'aumbrylaw08.ShadowDrops', WHERE WHAT IT READS IS OF BULK AT MOST 1048576: true; the input reads as it did. -/
def shadowDropsUptoRow : OpenClaim := { program := "ytolpgpphjnkehaagreatdoor", sum := "f8921387ab0d7e3b0131c19341891b0657059262d25b457611a709eac12a1dbe", func := "aumbry/aumbrylaw08.ShadowDrops", spec := "shadowDrops", inPlace := ["sync/atomic.LoadUint32", "(*internal/sync.Mutex).Lock", "internal/race.Disable", "sync/atomic.CompareAndSwapInt32", "internal/race.Enable", "internal/race.Acquire", "(*internal/sync.Mutex).lockSlow", "internal/sync.runtime_canSpin", "internal/sync.runtime_doSpin", "internal/sync.throw", "internal/sync.runtime_nanotime", "internal/sync.runtime_SemacquireMutex", "sync/atomic.AddInt32", "(*internal/sync.Mutex).Unlock", "internal/race.ReleaseMerge", "(*internal/sync.Mutex).unlockSlow", "internal/sync.fatal", "internal/sync.runtime_Semrelease", "sync/atomic.StoreUint32"], unfollowed := true, recurses := true, named := ["aumbry/crc.rests"], apart := false, laid := [("aumbry/crc.rests", laid_aumbry_crc_rests)], narrowed := true }
def ShadowDropsUptoSaid : Prop := shadowDropsUptoRow.holds Tryz.pinned (OpenSpec.upto shadowDropsSpec)

/-- 'aumbrylaw08.ShadowNil', WHERE WHAT IT READS IS OF BULK AT MOST 1048576: true; the input reads as it did. -/
def shadowNilUptoRow : OpenClaim := { program := "ytolpgpphjnkehaagreatdoor", sum := "f8921387ab0d7e3b0131c19341891b0657059262d25b457611a709eac12a1dbe", func := "aumbry/aumbrylaw08.ShadowNil", spec := "shadowNil", inPlace := ["sync/atomic.LoadUint32", "(*internal/sync.Mutex).Lock", "internal/race.Disable", "sync/atomic.CompareAndSwapInt32", "internal/race.Enable", "internal/race.Acquire", "(*internal/sync.Mutex).lockSlow", "internal/sync.runtime_canSpin", "internal/sync.runtime_doSpin", "internal/sync.throw", "internal/sync.runtime_nanotime", "internal/sync.runtime_SemacquireMutex", "sync/atomic.AddInt32", "(*internal/sync.Mutex).Unlock", "internal/race.ReleaseMerge", "(*internal/sync.Mutex).unlockSlow", "internal/sync.fatal", "internal/sync.runtime_Semrelease", "sync/atomic.StoreUint32"], unfollowed := true, recurses := true, named := ["aumbry/crc.rests"], apart := false, laid := [("aumbry/crc.rests", laid_aumbry_crc_rests)], narrowed := true }
def ShadowNilUptoSaid : Prop := shadowNilUptoRow.holds Tryz.pinned (OpenSpec.upto shadowNilSpec)

end Rows
end Go.Proofs.YtolpgpphjnkehaaGreatDoor
