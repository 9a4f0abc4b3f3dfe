/- types: the unifier in memory. -/
import Derived.Test.YtndhojnfjlkojaaX
namespace Go.Proofs.Ytndhojnfjlkojaa
open Go.RowKit
set_option linter.unusedVariables false
set_option linter.unusedSimpArgs false
attribute [local go_sem] Oper.semAt_some
open Ty
/-- The unifier. -/
structure Un (M : Nat → Prop) (w : World) (g gu N : Nat) (a b : Ty) (Aa : Option Addr) (ca : Nat) (Aw : Option Addr) (cw : Nat) : Prop where
  blk : Blk w gu 60 #[.pointer (some ⟨g, 0, none⟩), .int .u8 (a.k : Int), .string (str a.nm), .int .i64 a.n, .slice Aa a.ks.length ca, .int .u8 (b.k : Int), .string (str b.nm), .int .i64 b.n, .slice Aw b.ks.length cw]
  ng : ¬ M gu
  ta : Tm M w a Aa ca
  tb : Tm M w b Aw cw
  ga : good N a
  gb : good N b
theorem Un.bel {M : Nat → Prop} {w w' : World} {g gu N : Nat} {a b : Ty} {Aa : Option Addr} {ca : Nat} {Aw : Option Addr} {cw : Nat} (h : Un M w g gu N a b Aa ca Aw cw) (hb : Below w.heap.size w w') : Un M w' g gu N a b Aa ca Aw cw := ⟨h.blk.below hb h.blk.lt, h.ng, h.ta.bel hb, h.tb.bel hb, h.ga, h.gb⟩
theorem Un.go {w w' : World} {g gu N : Nat} {a b : Ty} {Aa : Option Addr} {ca : Nat} {Aw : Option Addr} {cw : Nat} {vb vt vb' vt' : Value} (h : Un (Mut g vb vt) w g gu N a b Aa ca Aw cw) (hg : Go w g vb vt w' vb' vt') : Un (Mut g vb' vt') w' g gu N a b Aa ca Aw cw := ⟨hg.blk h.blk h.ng, hg.apart h.ng h.blk.lt, hg.tm h.ta, hg.tm h.tb, h.ga, h.gb⟩
end Go.Proofs.Ytndhojnfjlkojaa
