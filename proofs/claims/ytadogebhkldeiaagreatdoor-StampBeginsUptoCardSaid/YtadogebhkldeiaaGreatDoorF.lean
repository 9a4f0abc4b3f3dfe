/- What a step may turn: a set of blocks. -/
import Derived.Test.YtadogebhkldeiaaGreatDoorL
namespace Go.Proofs.YtadogebhkldeiaaGreatDoor
open Go.RowKit

/-- From w to w' only blocks of F, and new ones, have turned. -/
structure Off (F : Nat → Prop) (w w' : World) : Prop where
  os : w'.os = w.os
  tape : w'.tape = w.tape
  output : w'.output = w.output
  size : w.heap.size ≤ w'.heap.size
  block : ∀ k, k < w.heap.size → ¬ F k → w'.heap[k]? = w.heap[k]?

section
variable {F G : Nat → Prop} {w w1 w2 : World}
theorem Off.refl (F : Nat → Prop) (w : World) : Off F w w := ⟨rfl, rfl, rfl, Nat.le_refl _, fun _ _ _ => rfl⟩
theorem Off.trans (h : Off F w w1) (k : Off F w1 w2) : Off F w w2 :=
  ⟨k.os.trans h.os, k.tape.trans h.tape, k.output.trans h.output, Nat.le_trans h.size k.size, fun i hi hn => (k.block i (Nat.lt_of_lt_of_le hi h.size) hn).trans (h.block i hi hn)⟩
theorem Off.mono (h : Off F w w1) (hF : ∀ k, k < w.heap.size → F k → G k) : Off G w w1 :=
  ⟨h.os, h.tape, h.output, h.size, fun k hk hn => h.block k hk fun hf => hn (hF k hk hf)⟩
/-- Two steps, the second of which may turn what the first has made. -/
theorem Off.then (h : Off F w w1) (k : Off G w1 w2) (hG : ∀ j, j < w.heap.size → G j → F j) : Off F w w2 :=
  ⟨k.os.trans h.os, k.tape.trans h.tape, k.output.trans h.output, Nat.le_trans h.size k.size, fun i hi hn => (k.block i (Nat.lt_of_lt_of_le hi h.size) fun hg => hn (hG i hi hg)).trans (h.block i hi hn)⟩
theorem Off.below {B : Nat} (h : Off F w w1) (hB : B ≤ w.heap.size) (hF : ∀ k, F k → B ≤ k) : Below B w w1 :=
  ⟨h.os, h.tape, h.output, h.size, fun k hk => h.block k (by omega) fun hf => by have := hF k hf; omega⟩
theorem Off.of_below {B : Nat} (h : Below B w w1) (F : Nat → Prop) (hF : ∀ k, k < w.heap.size → B ≤ k → F k) : Off F w w1 :=
  ⟨h.os, h.tape, h.output, h.size, fun k hk hn => h.block k (by
    rcases Nat.lt_or_ge k B with hb | hb
    · exact hb
    · exact absurd (hF k hk hb) hn)⟩
theorem Off.of_new (h : Below w.heap.size w w1) (F : Nat → Prop) : Off F w w1 := Off.of_below h F fun k h1 h2 => by omega
theorem Off.of_grown {row : Option Nat} (h : w.grownBy w1 row) : Off (fun k => row = some k) w w1 :=
  ⟨h.os, h.tape, h.output, h.size, fun k hk hn => h.block k hk fun e => hn e.symm⟩
theorem Off.set_ (w : World) (p : Addr) (u : Value) : Off (fun k => k = p.block) w (w.setCell p u) :=
  ⟨rfl, rfl, rfl, by simp [World.setCell], fun k _ hn => Below.heap_setCell _ _ _ _ hn⟩
theorem Off.setc (w : World) (g i : Nat) (u : Value) : Off (fun k => k = g) w (w.setCell ⟨g, i, none⟩ u) := Off.set_ w ⟨g, i, none⟩ u
theorem Off.drew (F : Nat → Prop) (w : World) : Off F w w.drew := ⟨rfl, rfl, rfl, Nat.le_refl _, fun _ _ _ => rfl⟩
theorem Off.drewN (F : Nat → Prop) (w : World) (n : Nat) : Off F w (w.drewN n) := ⟨rfl, rfl, rfl, Nat.le_refl _, fun _ _ _ => rfl⟩
theorem Off.alloc (F : Nat → Prop) (w : World) (o : Obj) : Off F w (w.alloc o) := ⟨rfl, rfl, rfl, by simp, fun k hk _ => Below.heap_alloc _ _ _ hk⟩
end

/-- A set of blocks, and those made since. -/
def grow (F : Nat → Prop) (w w' : World) : Nat → Prop := fun k => F k ∨ (w.heap.size ≤ k ∧ k < w'.heap.size)
theorem grow.old {F : Nat → Prop} {w w' : World} {k : Nat} (h : F k) : grow F w w' k := .inl h

theorem Blk.off {F : Nat → Prop} {w w' : World} {g : Nat} {t : TypeId} {cs : Array Value} (h : Blk w g t cs) (ho : Off F w w') (hg : ¬ F g) : Blk w' g t cs := (ho.block g h.lt hg).trans h
theorem Blk.same {w w' : World} {g : Nat} {t : TypeId} {cs : Array Value} (h : Blk w g t cs) (he : w'.heap[g]? = w.heap[g]?) : Blk w' g t cs := he.trans h

/-- A value that is a slice of bytes, which reads as bs; its block is one of E. -/
def Sec (w : World) (E : Nat → Prop) (v : Value) (bs : List UInt8) : Prop :=
  ∃ A c, v = .slice A bs.length c ∧ bs.length ≤ c ∧ c ≤ maxLen ∧ Bytes w A bs ∧ ∀ p : Addr, A = some p → E p.block

theorem Bytes.same {w w' : World} {A : Option Addr} {bs : List UInt8} (h : Bytes w A bs) (hs : w.heap.size ≤ w'.heap.size) (he : ∀ p : Addr, A = some p → p.block < w.heap.size → w'.heap[p.block]? = w.heap[p.block]?) : Bytes w' A bs := fun k c hk => by
  obtain ⟨b, off, e, hlt, hc⟩ := h k c hk
  exact ⟨b, off, e, Nat.lt_of_lt_of_le hlt hs, (World.cell?_of_block (a := ⟨b, off + k, none⟩) (he ⟨b, off, none⟩ e hlt)).trans hc⟩
theorem Sec.same {w w' : World} {E : Nat → Prop} {v : Value} {bs : List UInt8} (h : Sec w E v bs) (hs : w.heap.size ≤ w'.heap.size) (he : ∀ k, E k → k < w.heap.size → w'.heap[k]? = w.heap[k]?) : Sec w' E v bs := by
  obtain ⟨A, c, h1, h2, h3, h4, h5⟩ := h
  exact ⟨A, c, h1, h2, h3, h4.same hs (fun p e hp => he _ (h5 p e) hp), h5⟩
theorem Sec.mono {w : World} {E E' : Nat → Prop} {v : Value} {bs : List UInt8} (h : Sec w E v bs) (hE : ∀ k, E k → E' k) : Sec w E' v bs := by
  obtain ⟨A, c, h1, h2, h3, h4, h5⟩ := h
  exact ⟨A, c, h1, h2, h3, h4, fun p e => hE _ (h5 p e)⟩
theorem Sec.nil (w : World) (E : Nat → Prop) : Sec w E (.slice none 0 0) [] := ⟨none, 0, rfl, Nat.le_refl _, Nat.zero_le _, Bytes.nil _ _, fun p e => by cases e⟩
theorem Sec.of_blk {w : World} {E : Nat → Prop} {g : Nat} {t : TypeId} {bs : List UInt8} (h : Blk w g t (row8 bs)) (hE : E g) (hl : bs.length ≤ maxLen) (n : Nat) (hn : bs.length = n) : Sec w E (.slice (some ⟨g, 0, none⟩) n n) bs :=
  ⟨some ⟨g, 0, none⟩, n, by rw [hn], by omega, by omega, Bytes.row h, fun p e => by cases e; exact hE⟩

end Go.Proofs.YtadogebhkldeiaaGreatDoor
