/- A copy of the reference's disk: what is there between the rounds. -/
import Derived.Test.YtdohfkblmadejaaId
namespace Go.Proofs.Ytdohfkblmadejaa
open Go.RowKit Dsk

def RcE (w0 : World) (g gs : Nat) (pv : Value) (wr : World) : Nat → Prop := fun j => w0.heap.size ≤ j ∧ j < wr.heap.size ∧ j ≠ g ∧ j ≠ gs ∧ pv.ownBlock ≠ some j
structure RcS (w0 wr : World) (g gs c : Nat) (pv : Value) (D : DS) (k : Nat) : Prop where
  cap : D.S.length ≤ c
  head : Blk wr g 46 #[.slice (some ⟨gs, 0, none⟩) D.S.length c, pv, .bool D.dead, .int .i64 (D.armed : Int), .int .i64 (D.steps : Int)]
  secs : Secs wr (RcE w0 g gs pv wr) gs D.S
  pend : Pend wr 78 (RcE w0 g gs pv wr) pv (D.P.take k)
  bel : Below w0.heap.size w0 wr
  lo : w0.heap.size ≤ g ∧ w0.heap.size ≤ gs
  ne : g ≠ gs
  row : ∀ j, pv.ownBlock = some j → w0.heap.size ≤ j ∧ j ≠ g ∧ j ≠ gs

theorem RcS.below {w0 wr w' : World} {g gs c : Nat} {pv : Value} {D : DS} {k : Nat} (h : RcS w0 wr g gs c pv D k) (hb : Below wr.heap.size wr w') : RcS w0 w' g gs c pv D k := by
  have hE : ∀ j, RcE w0 g gs pv wr j → RcE w0 g gs pv w' j := fun j hj => ⟨hj.1, Nat.lt_of_lt_of_le hj.2.1 hb.size, hj.2.2⟩
  exact ⟨h.cap, h.head.below hb h.head.lt, (h.secs.same hb.size (fun j _ hj => hb.block j hj) (hb.block gs h.secs.lt)).mono hE, (h.pend.same hb.size (fun j _ hj => hb.block j hj) (fun j hj => hb.block j (h.pend.lt j hj))).mono hE,
    h.bel.trans (hb.mono h.bel.size), h.lo, h.ne, h.row⟩

theorem RcS.push {w0 wr w2 : World} {g gs c : Nat} {pv v' : Value} {D : DS} {k : Nat} {p : Nat × List UInt8} (h : RcS w0 wr g gs c pv D k) (hk : D.P[k]? = some p)
    (hp : Pend w2 78 (RcE w0 g gs pv wr) v' (D.P.take k ++ [p])) (hg : wr.grownBy w2 pv.ownBlock) (ho : v'.ownBlock = pv.ownBlock ∨ v'.ownBlock = some wr.heap.size) :
    RcS w0 (w2.setCell ⟨g, 1, none⟩ v') g gs c v' D (k + 1) := by
  have hgs := h.secs.lt
  have hgg := h.head.lt
  have far : ∀ j, j < wr.heap.size → pv.ownBlock ≠ some j → w2.heap[j]? = wr.heap[j]? := fun j hj hn => hg.block j hj (fun e => hn e.symm)
  have ng : pv.ownBlock ≠ some g := fun e => (h.row g e).2.1 rfl
  have nl : pv.ownBlock ≠ some gs := fun e => (h.row gs e).2.2 rfl
  have vne : ∀ j, j < wr.heap.size → pv.ownBlock ≠ some j → v'.ownBlock ≠ some j := fun j hj hn e => by
    rcases ho with ho | ho
    · exact hn (ho ▸ e)
    · rw [ho] at e; injection e with e; omega
  have st : ∀ j, j ≠ g → (w2.setCell ⟨g, 1, none⟩ v').heap[j]? = w2.heap[j]? := fun j h1 => Below.heap_setCell _ _ _ _ h1
  have sz : w2.heap.size = (w2.setCell ⟨g, 1, none⟩ v').heap.size := by simp [World.setCell]
  have hE : ∀ j, RcE w0 g gs pv wr j → RcE w0 g gs v' (w2.setCell ⟨g, 1, none⟩ v') j := fun j hj => ⟨hj.1, by rw [← sz]; have := hg.size; have := hj.2.1; omega, hj.2.2.1, hj.2.2.2.1, vne j hj.2.1 hj.2.2.2.2⟩
  have e1 : D.P.take (k + 1) = D.P.take k ++ [p] := by
    obtain ⟨hk', e⟩ := List.getElem?_eq_some_iff.1 hk
    rw [List.take_succ_eq_append_getElem hk', e]
  refine ⟨h.cap, ?_, ?_, ?_, ?_, h.lo, h.ne, fun j hj => ?_⟩
  · have h1 : Blk w2 g _ _ := h.head.same (far g hgg ng)
    have h2 := h1.set_ 1 v'
    simp only [List.setIfInBounds_toArray, List.set_cons_succ, List.set_cons_zero] at h2
    exact h2
  · exact (h.secs.same (Nat.le_trans hg.size (Nat.le_of_eq sz)) (fun j hj hl => (st j hj.2.2.1).trans (far j hl hj.2.2.2.2)) ((st gs h.ne.symm).trans (far gs hgs nl))).mono hE
  · rw [e1]
    exact (hp.same (Nat.le_of_eq sz) (fun j hj _ => st j hj.2.2.1) (fun j hj => st j (fun e => vne g hgg ng (e ▸ hj)))).mono hE
  · exact (h.bel.grown hg h.bel.size (fun j hj => (h.row j hj).1)).setCell (p := ⟨g, 1, none⟩) h.lo.1 _
  · rcases ho with ho | ho
    · exact h.row j (ho ▸ hj)
    · rw [ho] at hj; injection hj with hj
      have := h.bel.size
      exact ⟨by omega, by omega, by omega⟩

theorem RcS.ref {w0 wr : World} {g gs c : Nat} {pv : Value} {D : DS} (h : RcS w0 wr g gs c pv D D.P.length) (hok : D.Ok) : Ref wr (fun k => w0.heap.size ≤ k ∧ k < wr.heap.size) g D := by
  have hp := h.pend
  rw [List.take_length] at hp
  refine ⟨RcE w0 g gs pv wr, gs, c, pv, ⟨hok, h.cap, h.head, h.secs, hp, fun e => e.2.2.1 rfl, fun e => e.2.2.2.1 rfl, fun k hk => ⟨fun e => e.2.2.2.2 hk, (h.row k hk).2⟩, h.ne⟩,
    fun k hk => ⟨hk.1, hk.2.1⟩, fun k hk => ?_, fun k hk => hk.2⟩
  rcases hk with rfl | rfl | hk
  · exact ⟨h.lo.1, h.head.lt⟩
  · exact ⟨h.lo.2, h.secs.lt⟩
  · exact ⟨(h.row k hk).1, h.pend.lt k hk⟩

end Go.Proofs.Ytdohfkblmadejaa
