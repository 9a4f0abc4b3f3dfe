/- Words for memory: a block known whole; a slice value that reads as a list of bytes; a made row of bytes. -/
import Derived.Test.YtabledlkpmlcbaaRows
import Derived.WalkKit
import Derived.WalkSpells
import Derived.WalkLawsBesides
import Derived.Laws.CopyOwn
import Derived.Laws.MakeOwn
import Derived.Lib.Hide
import Derived.RangeFuncBox
import Derived.Deep.Draws
namespace Go.Proofs.Ytabledlkpmlcbaa
open Go.RowKit

def Blk (w : World) (g : Nat) (t : TypeId) (cs : Array Value) : Prop := w.heap[g]? = some (.cells cs t (0, 0))

section
variable {w w' : World} {g : Nat} {t : TypeId} {cs : Array Value}
theorem Blk.lt (h : Blk w g t cs) : g < w.heap.size := by
  rcases Nat.lt_or_ge g w.heap.size with hlt | hge
  · exact hlt
  · unfold Blk at h; rw [Array.getElem?_eq_none hge] at h; cases h
theorem Blk.cell (h : Blk w g t cs) (i : Nat) : w.cell? ⟨g, i, none⟩ = cs[i]? := cell_of_row w g i cs t (0, 0) h
theorem Blk.frozen (h : Blk w g t cs) (i : Nat) : w.frozen? ⟨g, i, none⟩ = false := by
  unfold Blk at h
  simp [World.frozen?, h]
theorem Blk.new (w : World) (t : TypeId) (cs : Array Value) : Blk (w.alloc (.cells cs t)) w.heap.size t cs := heap_alloc_new w _
theorem Blk.drew (h : Blk w g t cs) : Blk w.drew g t cs := h
theorem Blk.drewN (h : Blk w g t cs) (n : Nat) : Blk (w.drewN n) g t cs := h
theorem Blk.alloc (h : Blk w g t cs) (o : Obj) : Blk (w.alloc o) g t cs := (Below.heap_alloc w o g h.lt).trans h
theorem Blk.set_ (h : Blk w g t cs) (i : Nat) (u : Value) : Blk (w.setCell ⟨g, i, none⟩ u) g t (cs.setIfInBounds i u) := by
  unfold Blk at h ⊢
  simp [World.setCell, Array.getElem?_modify, h]
theorem Blk.far (h : Blk w g t cs) {p : Addr} (hp : g ≠ p.block) (u : Value) : Blk (w.setCell p u) g t cs := (Below.heap_setCell w p u g hp).trans h
theorem Blk.below {B : Nat} (h : Blk w g t cs) (hb : Below B w w') (hg : g < B) : Blk w' g t cs := (hb.block g hg).trans h
theorem Blk.grown {row : Option Nat} (h : Blk w g t cs) (hb : w.grownBy w' row) (hg : some g ≠ row) : Blk w' g t cs := (hb.block g h.lt hg).trans h
theorem Blk.kept {row : Option Nat} (h : Blk w g t cs) (hg : w.grownBy w' row) (hr : ∀ r, row = some r → ∃ o : Obj, w.heap[r]? = some o ∧ o.isCells = false) : Blk w' g t cs :=
  h.grown hg fun e => by
    obtain ⟨o, ho, hc⟩ := hr g e.symm
    rw [show w.heap[g]? = _ from h] at ho; cases ho; cases hc
theorem Blk.putObj (h : Blk w g t cs) {l : Nat} {o : Obj} (o' : Obj) (hl : w.heap[l]? = some o) (ho : o.isCells = false) : Blk (w.putObj l o') g t cs :=
  h.kept (grownBy_putObj' w l o') (fun r e => by cases e; exact ⟨o, hl, ho⟩)
end

/-- A byte as a value. -/
def bv (c : UInt8) : Value := .int .u8 (c.toNat : Int)
theorem bv_one (c : UInt8) : (bv c).oneCell' = true := rfl

/-- What a slice value of bytes reads as. -/
def Bytes (w : World) (A : Option Addr) (bs : List UInt8) : Prop :=
  ∀ (k : Nat) (c : UInt8), bs[k]? = some c → ∃ b off, A = some ⟨b, off, none⟩ ∧ b < w.heap.size ∧ w.cell? ⟨b, off + k, none⟩ = some (.int .u8 (c.toNat : Int))

theorem Bytes.nil (w : World) (A : Option Addr) : Bytes w A [] := fun k c h => by simp at h
theorem Bytes.below {w w' : World} {A : Option Addr} {bs : List UInt8} (h : Bytes w A bs) (hb : Below w.heap.size w w') : Bytes w' A bs := fun k c hk => by
  obtain ⟨b, off, e, hlt, hc⟩ := h k c hk
  exact ⟨b, off, e, Nat.lt_of_lt_of_le hlt hb.size, (hb.cell (p := ⟨b, off + k, none⟩) hlt).trans hc⟩
theorem Bytes.of_blk {w : World} {g : Nat} {t : TypeId} {cs : Array Value} {bs : List UInt8} (h : Blk w g t cs) (hcs : ∀ (k : Nat) (c : UInt8), bs[k]? = some c → cs[k]? = some (bv c)) : Bytes w (some ⟨g, 0, none⟩) bs := fun k c hk =>
  ⟨g, 0, rfl, h.lt, by rw [Nat.zero_add, h.cell, hcs k c hk]; rfl⟩
theorem Bytes.at_ {w : World} {A : Option Addr} {bs : List UInt8} (h : Bytes w A bs) {k : Nat} (hk : k < bs.length) : ∃ b off, A = some ⟨b, off, none⟩ ∧ b < w.heap.size ∧ ∀ (j : Nat) (c : UInt8), bs[j]? = some c → w.cell? ⟨b, off + j, none⟩ = some (.int .u8 (c.toNat : Int)) := by
  obtain ⟨b, off, rfl, hlt, _⟩ := h k bs[k] (List.getElem?_eq_getElem hk)
  refine ⟨b, off, rfl, hlt, fun j c hj => ?_⟩
  obtain ⟨b', off', e, _, hc⟩ := h j c hj
  cases e
  exact hc

/-- A made row of n bytes. -/
def mk8 (n : Nat) : Array Value := madeCells #[.int .u8 0] n
theorem mk8_list (n : Nat) : (mk8 n).toList = List.replicate n (bv 0) := by
  apply List.ext_getElem
  · simp [mk8, madeCells]
  · intro i h1 h2
    simp [mk8, madeCells, bv, Nat.mod_one]
theorem mk8_eq (n : Nat) : mk8 n = (List.replicate n (bv 0)).toArray := by
  rw [← mk8_list]

theorem Try.info8 : (Try.prog.info? 5).map (fun i => (i.zero, i.size, i.bytes)) = some (some (.int .u8 0), 1, 1) := by kernel_rfl

theorem run_mk8 (n : Nat) (hn : n ≤ 281474976710656) (w : World) :
    (Instr.makeSlice 22 (.int .i64 (n : Int)) (.int .i64 (n : Int))).run Try.prog w = .ok (.slice (some ⟨w.heap.size, 0, none⟩) n n) (w.alloc (.cells (mk8 n) 5)) := by
  obtain ⟨i0, hi, hz0, hz1, hz2⟩ := info_parts Try.info8
  have h := run_make (P := Try.prog) w 22 5 i0 (.int .u8 0) Try.underlying22 hi hz0 .i64 .i64 (n : Int) (n : Int) (by omega) (by omega) (by rw [hz2]; omega) (by omega)
  simpa [hz1, mk8, Value.cells] using h

theorem Try.size8 : (Try.prog.info? 5).map (·.size) = some 1 := by kernel_rfl

/-- copy of a whole slice of bytes to the front of a row of the call's own. -/
theorem run_copy8 (w : World) (ty : TypeId) (g m c : Nat) (A : Option Addr) (cap : Nat) (bs : List UInt8) (cur : List Value) (hA : Bytes w A bs) (hR : Blk w g 5 cur.toArray) (hm : bs.length ≤ m) (hc : m ≤ cur.length) :
    ∃ w', (Builtin.copy_ #[22, 22] ty #[.slice (some ⟨g, 0, none⟩) m c, .slice A bs.length cap]).run Try.prog w = .ok (goInt bs.length) w' ∧
      Blk w' g 5 (bs.map bv ++ cur.drop bs.length).toArray ∧ w.grownBy w' (some g) ∧ w'.heap.size = w.heap.size := by
  rcases Nat.eq_zero_or_pos bs.length with h0 | h0
  · obtain rfl : bs = [] := List.eq_nil_of_length_eq_zero h0
    exact ⟨w, run_copy_none (P := Try.prog) w _ _ ty 5 _ _ _ _ _ _ Try.underlying22 Try.size8 (by simp), by simpa using hR, World.grownBy.refl w _, rfl⟩
  · obtain ⟨b, off, rfl, hb, hcell⟩ := hA.at_ h0
    have hrun := run_copy_row (P := Try.prog) w 22 22 ty 5 g 0 m c ⟨b, off, none⟩ bs.length cap cur.toArray 5 (bs.map bv) Try.underlying22 Try.size8 hR (by rw [List.length_map]; exact (Nat.min_eq_left hm).symm)
      (fun j v hv => by
        rw [List.getElem?_map] at hv
        cases hj : bs[j]? with
        | none => rw [hj] at hv; cases hv
        | some d =>
          rw [hj] at hv
          simp only [Option.map_some, Option.some.injEq] at hv
          subst hv
          have e : (⟨b, off, none⟩ : Addr).add j = ⟨b, off + j, none⟩ := by unfold Addr.add; split <;> simp_all
          rw [e]; exact hcell j d hj)
      (by simp; omega) (fun v hv => by obtain ⟨d, _, rfl⟩ := List.mem_map.1 hv; rfl)
    refine ⟨_, by simpa using hrun, ?_, ?_, by simp [World.setRow]⟩
    · have := setRow_heap w g cur.toArray (cur.take 0 ++ bs.map bv ++ cur.drop (0 + (bs.map bv).length)).toArray 5 (0, 0) hR
      simpa [Blk] using this
    · exact ⟨rfl, rfl, rfl, by simp [World.setRow], fun k hk hne => setRow_other w g k _ (fun e => hne (by rw [e]))⟩

end Go.Proofs.Ytabledlkpmlcbaa
