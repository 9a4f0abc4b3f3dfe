/- pages: the reference's Part: two bytes a round. -/
import Derived.Test.YtcmaehilgeonjaaA
namespace Go.Proofs.Ytcmaehilgeonjaa
open Go.RowKit Pgs
/-- A row of bytes of the call's own. -/
structure RbI (w wr : World) (v : Value) (bs : List UInt8) : Prop where
  own : wr.ownsRow w.heap.size 5 1 v bs.length (bs.map bv)
  bel : Below w.heap.size w wr
theorem RbI.push {w wr : World} {v : Value} {bs : List UInt8} (h : RbI w wr v bs) (x y : UInt8) (hl : bs.length < 1000000) :
    ∃ v' w', (Builtin.append_ #[30, 30] 30 #[v, .slice (some ⟨wr.heap.size, 0, none⟩) 2 2]).run Try.prog (wr.alloc (.cells #[bv x, bv y] 5)) = .ok v' w' ∧ RbI w w' v' (bs ++ [x, y]) := by
  have hb : Below wr.heap.size wr (wr.alloc (.cells #[bv x, bv y] 5)) := (Below.refl wr.heap.size wr).alloc (Nat.le_refl _) _
  have hsz := h.bel.size
  have hB : Bytes (wr.alloc (.cells #[bv x, bv y] 5)) (some ⟨wr.heap.size, 0, none⟩) [x, y] := Bytes.of_blk (Blk.new wr 5 #[bv x, bv y]) (fun k c hk => by
    rcases k with _ | _ | k
    · simp at hk; subst hk; rfl
    · simp at hk; subst hk; rfl
    · simp at hk)
  obtain ⟨v', w', hrun, ho, hg⟩ := run_app8 (wr.alloc (.cells #[bv x, bv y] 5)) w.heap.size v bs.length bs (own_below h.own hb) (some ⟨wr.heap.size, 0, none⟩) 2 2 [x, y] rfl hB (by omega) (by rw [World.size_alloc]; omega)
  refine ⟨v', w', hrun, by rw [List.length_append]; exact ho, ?_⟩
  refine (h.bel.trans (hb.mono hsz)).grown hg (by rw [World.size_alloc]; omega) (fun k hk => ?_)
  exact (h.own.lt k hk).1
end Go.Proofs.Ytcmaehilgeonjaa
