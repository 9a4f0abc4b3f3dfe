/- A copy of a disk: what is there between the rounds. -/
import Derived.Test.YtdohfkblmadejaaPlays
namespace Go.Proofs.Ytdohfkblmadejaa
open Go.RowKit Dsk

def CpE (w0 : World) (g gl gi : Nat) (rv : Value) (wr : World) : Nat → Prop := fun j => w0.heap.size ≤ j ∧ j < wr.heap.size ∧ j ≠ g ∧ j ≠ gl ∧ j ≠ gi ∧ rv.ownBlock ≠ some j
structure CpS (w0 wr : World) (g gl gi : Nat) (rv : Value) (D : DS) (k : Nat) : Prop where
  head : Blk wr g 74 #[.slice (some ⟨gl, 0, none⟩) D.S.length D.S.length, rv, .slice (some ⟨gi, 0, none⟩) D.S.length D.S.length, .bool D.dead, .int .i64 (D.armed : Int), .int .i64 (D.steps : Int)]
  secs : Secs wr (CpE w0 g gl gi rv wr) gl D.S
  pend : Pend wr 76 (CpE w0 g gl gi rv wr) rv (D.P.take k)
  last : Lasts wr gi D.S.length D.P
  bel : Below w0.heap.size w0 wr
  lo : w0.heap.size ≤ g ∧ w0.heap.size ≤ gl ∧ w0.heap.size ≤ gi
  ne : g ≠ gl ∧ g ≠ gi ∧ gl ≠ gi
  row : ∀ j, rv.ownBlock = some j → w0.heap.size ≤ j ∧ j ≠ g ∧ j ≠ gl ∧ j ≠ gi

theorem CpS.below {w0 wr w' : World} {g gl gi : Nat} {rv : Value} {D : DS} {k : Nat} (h : CpS w0 wr g gl gi rv D k) (hb : Below wr.heap.size wr w') : CpS w0 w' g gl gi rv D k := by
  have hE : ∀ j, CpE w0 g gl gi rv wr j → CpE w0 g gl gi rv w' j := fun j hj => ⟨hj.1, Nat.lt_of_lt_of_le hj.2.1 hb.size, hj.2.2⟩
  exact ⟨h.head.below hb h.head.lt, (h.secs.same hb.size (fun j _ hj => hb.block j hj) (hb.block gl h.secs.lt)).mono hE, (h.pend.same hb.size (fun j _ hj => hb.block j hj) (fun j hj => hb.block j (h.pend.lt j hj))).mono hE,
    h.last.same (hb.block gi h.last.lt), h.bel.trans (hb.mono h.bel.size), h.lo, h.ne, h.row⟩

theorem CpS.push {w0 wr w2 : World} {g gl gi : Nat} {rv v' : Value} {D : DS} {k : Nat} {p : Nat × List UInt8} (h : CpS w0 wr g gl gi rv D k) (hk : D.P[k]? = some p)
    (hp : Pend w2 76 (CpE w0 g gl gi rv wr) v' (D.P.take k ++ [p])) (hg : wr.grownBy w2 rv.ownBlock) (ho : v'.ownBlock = rv.ownBlock ∨ v'.ownBlock = some wr.heap.size) :
    CpS w0 (w2.setCell ⟨g, 1, none⟩ v') g gl gi v' D (k + 1) := by
  have hgl := h.secs.lt
  have hgi := h.last.lt
  have hgg := h.head.lt
  have far : ∀ j, j < wr.heap.size → rv.ownBlock ≠ some j → w2.heap[j]? = wr.heap[j]? := fun j hj hn => hg.block j hj (fun e => hn e.symm)
  have ng : rv.ownBlock ≠ some g := fun e => (h.row g e).2.1 rfl
  have nl : rv.ownBlock ≠ some gl := fun e => (h.row gl e).2.2.1 rfl
  have ni : rv.ownBlock ≠ some gi := fun e => (h.row gi e).2.2.2 rfl
  have vne : ∀ j, j < wr.heap.size → rv.ownBlock ≠ some j → v'.ownBlock ≠ some j := fun j hj hn e => by
    rcases ho with ho | ho
    · exact hn (ho ▸ e)
    · rw [ho] at e; injection e with e; omega
  have st : ∀ j, j ≠ g → (w2.setCell ⟨g, 1, none⟩ v').heap[j]? = w2.heap[j]? := fun j h1 => Below.heap_setCell _ _ _ _ h1
  have sz : w2.heap.size = (w2.setCell ⟨g, 1, none⟩ v').heap.size := by simp [World.setCell]
  have hE : ∀ j, CpE w0 g gl gi rv wr j → CpE w0 g gl gi v' (w2.setCell ⟨g, 1, none⟩ v') j := fun j hj => ⟨hj.1, by rw [← sz]; have := hg.size; have := hj.2.1; omega, hj.2.2.1, hj.2.2.2.1, hj.2.2.2.2.1, vne j hj.2.1 hj.2.2.2.2.2⟩
  have e1 : D.P.take (k + 1) = D.P.take k ++ [p] := by
    obtain ⟨hk', e⟩ := List.getElem?_eq_some_iff.1 hk
    rw [List.take_succ_eq_append_getElem hk', e]
  refine ⟨?_, ?_, ?_, ?_, ?_, h.lo, h.ne, fun j hj => ?_⟩
  · have h1 : Blk w2 g _ _ := h.head.same (far g hgg ng)
    have h2 := h1.set_ 1 v'
    simp only [List.setIfInBounds_toArray, List.set_cons_succ, List.set_cons_zero] at h2
    exact h2
  · exact (h.secs.same (Nat.le_trans hg.size (Nat.le_of_eq sz)) (fun j hj hl => (st j hj.2.2.1).trans (far j hl hj.2.2.2.2.2)) ((st gl h.ne.1.symm).trans (far gl hgl nl))).mono hE
  · rw [e1]
    exact (hp.same (Nat.le_of_eq sz) (fun j hj _ => st j hj.2.2.1) (fun j hj => st j (fun e => vne g hgg ng (e ▸ hj)))).mono hE
  · exact h.last.same ((st gi h.ne.2.1.symm).trans (far gi hgi ni))
  · exact (h.bel.grown hg h.bel.size (fun j hj => (h.row j hj).1)).setCell (p := ⟨g, 1, none⟩) h.lo.1 _
  · rcases ho with ho | ho
    · exact h.row j (ho ▸ hj)
    · rw [ho] at hj; injection hj with hj
      have := h.bel.size
      exact ⟨by omega, by omega, by omega, by omega⟩

theorem CpS.disk {w0 wr : World} {g gl gi : Nat} {rv : Value} {D : DS} (h : CpS w0 wr g gl gi rv D D.P.length) (hok : D.Ok) : Disk wr (fun k => w0.heap.size ≤ k ∧ k < wr.heap.size) g D := by
  have hp := h.pend
  rw [List.take_length] at hp
  refine ⟨CpE w0 g gl gi rv wr, gl, gi, rv, ⟨hok, h.head, h.secs, hp, h.last, fun e => e.2.2.1 rfl, fun e => e.2.2.2.1 rfl, fun e => e.2.2.2.2.1 rfl, fun k hk => ⟨fun e => e.2.2.2.2.2 hk, (h.row k hk).2⟩, h.ne.1, h.ne.2.1, h.ne.2.2⟩,
    fun k hk => ⟨hk.1, hk.2.1⟩, fun k hk => ?_, fun k hk => hk.2⟩
  rcases hk with rfl | rfl | rfl | hk
  · exact ⟨h.lo.1, h.head.lt⟩
  · exact ⟨h.lo.2.1, h.secs.lt⟩
  · exact ⟨h.lo.2.2, h.last.lt⟩
  · exact ⟨(h.row k hk).1, h.pend.lt k hk⟩

/-- copy of the last places. -/
theorem run_copyI (w : World) (ty : TypeId) (gd gs n : Nat) (P : List (Nat × List UInt8)) (cur : Array Value) (hS : Lasts w gs n P) (hR : Blk w gd 3 cur) (hc : cur.size = n) :
    ∃ w', (Builtin.copy_ #[35, 35] ty #[.slice (some ⟨gd, 0, none⟩) n n, .slice (some ⟨gs, 0, none⟩) n n]).run Try.prog w = .ok (goInt n) w' ∧ Lasts w' gd n P ∧ w.grownBy w' (some gd) ∧ w'.heap.size = w.heap.size := by
  have hsz : (Try.prog.info? 3).map (·.size) = some 1 := by kernel_rfl
  have hl : ((List.range n).map fun s => Value.int .i64 (lastAt P s : Int)).length = n := by simp
  have hrun := run_copy_row (P := Try.prog) w 35 35 ty 3 gd 0 n n ⟨gs, 0, none⟩ n n cur 3 ((List.range n).map fun s => Value.int .i64 (lastAt P s : Int)) Try.underlying35 hsz hR (by rw [hl]; simp)
    (fun j v hv => by
      have hj := (List.getElem?_eq_some_iff.1 hv).1
      rw [hl] at hj
      rw [List.getElem?_map, List.getElem?_range hj] at hv
      simp only [Option.map_some, Option.some.injEq] at hv
      rw [← hv, show (⟨gs, 0, none⟩ : Addr).add j = ⟨gs, j, none⟩ by unfold Addr.add; split <;> simp_all]
      exact hS.at_ hj)
    (by rw [hl, hc]; omega) (fun v hv => by obtain ⟨d, _, rfl⟩ := List.mem_map.1 hv; rfl)
  rw [hl] at hrun
  refine ⟨_, hrun, ?_, ?_, by simp [World.setRow]⟩
  · have hB := setRow_heap w gd cur (cur.toList.take 0 ++ ((List.range n).map fun s => Value.int .i64 (lastAt P s : Int)) ++ cur.toList.drop (0 + ((List.range n).map fun s => Value.int .i64 (lastAt P s : Int)).length)).toArray 3 (0, 0) hR
    rw [hl] at hB
    refine ⟨_, hB, by simp [hc], fun s hs => ?_⟩
    simp only [List.take_zero, List.nil_append, List.getElem?_toArray]
    rw [List.getElem?_append_left (by rw [hl]; exact hs), List.getElem?_map, List.getElem?_range hs]
    rfl
  · exact ⟨rfl, rfl, rfl, by simp [World.setRow], fun k hk hne => setRow_other w gd k _ (fun e => hne (by rw [e]))⟩

end Go.Proofs.Ytdohfkblmadejaa
