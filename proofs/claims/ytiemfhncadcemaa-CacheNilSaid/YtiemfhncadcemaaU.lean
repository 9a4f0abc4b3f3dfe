/- One disk, of this call's own; the anchor. -/
import Derived.Test.YtiemfhncadcemaaT
namespace Go.Proofs.Ytiemfhncadcemaa
open Go.RowKit Dsk

theorem Disk.sectors_ (g : Nat) (F : Nat → Prop) (D : DS) (w : World) (h : Disk w F g D) : Calls Try.prog 50 #[.pointer (some ⟨g, 0, none⟩)] w fun e w' => e = .returned (.int .i64 (D.S.length : Int)) ∧ w = w' := by
  obtain ⟨E, gl, gi, rv, hk, _⟩ := h
  exact sectors_hd g _ _ _ _ _ _ _ w hk.hd
theorem Disk.dead_ (g : Nat) (F : Nat → Prop) (D : DS) (w : World) (h : Disk w F g D) : Calls Try.prog 27 #[.pointer (some ⟨g, 0, none⟩)] w fun e w' => e = .returned (.bool D.dead) ∧ w = w' := by
  obtain ⟨E, gl, gi, rv, hk, _⟩ := h
  exact dead_hd g _ _ _ _ _ _ _ w hk.hd
/-- A disk that this call has made, all of it behind w0, and apart from X. -/
structure Run (w0 w : World) (X : Nat → Prop) (g : Nat) (D : DS) : Prop where
  own : ∃ F, Disk w F g D ∧ ∀ k, F k → w0.heap.size ≤ k ∧ ¬ X k
  lt : ∀ k, X k → k < w.heap.size
  bel : Below w0.heap.size w0 w
/-- The blocks of X are as they were. -/
structure Keep (X : Nat → Prop) (w w' : World) : Prop where
  size : w.heap.size ≤ w'.heap.size
  at_ : ∀ k, X k → w'.heap[k]? = w.heap[k]?
theorem Keep.of_below {X : Nat → Prop} {w w' : World} (h : Below w.heap.size w w') (hX : ∀ k, X k → k < w.heap.size) : Keep X w w' := ⟨h.size, fun k hk => h.block k (hX k hk)⟩
theorem Keep.trans {X : Nat → Prop} {w w1 w2 : World} (h : Keep X w w1) (k : Keep X w1 w2) : Keep X w w2 := ⟨Nat.le_trans h.size k.size, fun j hj => (k.at_ j hj).trans (h.at_ j hj)⟩
theorem Keep.less {X Y : Nat → Prop} {w w1 : World} (h : Keep X w w1) (hY : ∀ k, Y k → X k) : Keep Y w w1 := ⟨h.size, fun j hj => h.at_ j (hY j hj)⟩
theorem Run.size {w0 w : World} {X : Nat → Prop} {g : Nat} {D : DS} (h : Run w0 w X g D) : w0.heap.size ≤ w.heap.size := h.bel.size
theorem Run.below {w0 w w' : World} {X : Nat → Prop} {g : Nat} {D : DS} (h : Run w0 w X g D) (hb : Below w.heap.size w w') : Run w0 w' X g D := by
  obtain ⟨⟨F, h1, h2⟩, h3, h4⟩ := h
  exact ⟨⟨F, h1.below hb, h2⟩, fun k hk => Nat.lt_of_lt_of_le (h3 k hk) hb.size, h4.trans (hb.mono h4.size)⟩
/-- What has been made since is set apart, too. -/
theorem Run.add {w0 w w' : World} {X : Nat → Prop} {g : Nat} {D : DS} (h : Run w0 w X g D) (hb : Below w.heap.size w w') (Y : Nat → Prop) (hY : ∀ k, Y k → X k ∨ (w.heap.size ≤ k ∧ k < w'.heap.size)) : Run w0 w' Y g D := by
  obtain ⟨⟨F, h1, h2⟩, h3, h4⟩ := h
  refine ⟨⟨F, h1.below hb, fun k hk => ⟨(h2 k hk).1, fun hy => ?_⟩⟩, fun k hk => ?_, h4.trans (hb.mono h4.size)⟩
  · rcases hY k hy with hx | hx
    · exact (h2 k hk).2 hx
    · have := h1.lt k hk; omega
  · rcases hY k hk with hx | hx
    · exact Nat.lt_of_lt_of_le (h3 k hx) hb.size
    · exact hx.2
/-- What is apart may be turned. -/
theorem Run.turn {w0 w w' : World} {X G : Nat → Prop} {g : Nat} {D : DS} (h : Run w0 w X g D) (ho : Off G w w') (hX : ∀ k, G k → X k ∧ w0.heap.size ≤ k) (Y : Nat → Prop) (hY : ∀ k, Y k → X k ∨ (w.heap.size ≤ k ∧ k < w'.heap.size)) : Run w0 w' Y g D := by
  obtain ⟨⟨F, h1, h2⟩, h3, h4⟩ := h
  refine ⟨⟨F, h1.off ho fun k hk hg => (h2 k hk).2 (hX k hg).1, fun k hk => ⟨(h2 k hk).1, fun hy => ?_⟩⟩, fun k hk => ?_, h4.trans (ho.below h4.size fun k hg => (hX k hg).2)⟩
  · rcases hY k hy with hx | hx
    · exact (h2 k hk).2 hx
    · have := h1.lt k hk; omega
  · rcases hY k hk with hx | hx
    · exact Nat.lt_of_lt_of_le (h3 k hx) ho.size
    · exact hx.2
theorem Run.less {w0 w : World} {X Y : Nat → Prop} {g : Nat} {D : DS} (h : Run w0 w X g D) (hY : ∀ k, Y k → X k) : Run w0 w Y g D := by
  obtain ⟨⟨F, h1, h2⟩, h3, h4⟩ := h
  exact ⟨⟨F, h1, fun k hk => ⟨(h2 k hk).1, fun hy => (h2 k hk).2 (hY k hy)⟩⟩, fun k hk => h3 k (hY k hk), h4⟩
theorem Run.next {w0 w w' : World} {X : Nat → Prop} {g : Nat} {D' : DS} {F : Nat → Prop} (hF : ∀ k, F k → w0.heap.size ≤ k ∧ ¬ X k) (hX : ∀ k, X k → k < w.heap.size) (hb : Below w0.heap.size w0 w) (h : Disk w' (grow F w w') g D') (ho : Off F w w') : Run w0 w' X g D' ∧ Keep X w w' :=
  ⟨⟨⟨_, h, fun k hk => hk.elim (hF k) fun e => ⟨by have := hb.size; omega, fun hx => by have := hX k hx; omega⟩⟩, fun k hk => Nat.lt_of_lt_of_le (hX k hk) ho.size, hb.trans (ho.below hb.size fun k hk => (hF k hk).1)⟩,
    ⟨ho.size, fun k hk => ho.block k (hX k hk) fun hf => (hF k hf).2 hk⟩⟩
theorem Run.next' {w0 w w' : World} {X : Nat → Prop} {g : Nat} {D' : DS} {F : Nat → Prop} (hF : ∀ k, F k → w0.heap.size ≤ k ∧ ¬ X k) (hX : ∀ k, X k → k < w.heap.size) (hb : Below w0.heap.size w0 w) (h : Disk w' F g D') (ho : Off F w w') : Run w0 w' X g D' ∧ Keep X w w' :=
  ⟨⟨⟨_, h, hF⟩, fun k hk => Nat.lt_of_lt_of_le (hX k hk) ho.size, hb.trans (ho.below hb.size fun k hk => (hF k hk).1)⟩, ⟨ho.size, fun k hk => ho.block k (hX k hk) fun hf => (hF k hf).2 hk⟩⟩

theorem Run.new (n : Nat) (w0 w : World) (X : Nat → Prop) (hX : ∀ k, X k → k < w.heap.size) (hb : Below w0.heap.size w0 w) (hn : 16 ≤ n ∧ n ≤ 4096) : Calls Try.prog 10 #[.int .i64 (n : Int)] w fun e w' => ∃ g, e = .returned (.tuple #[.pointer (some ⟨g, 0, none⟩), .int .i64 0]) ∧ Run w0 w' X g (newD n) ∧ Below w.heap.size w w' := by
  refine (new_ok n w hn).mono ?_
  rintro e w' ⟨g, rfl, hg, hD, hb'⟩
  exact ⟨g, rfl, ⟨⟨_, hD, fun k hk => ⟨by have := hb.size; omega, fun hx => by have := hX k hx; omega⟩⟩, fun k hk => Nat.lt_of_lt_of_le (hX k hk) hb'.size, hb.trans (hb'.mono hb.size)⟩, hb'⟩
section
variable {w0 w : World} {X : Nat → Prop} {g : Nat} {D : DS} (h : Run w0 w X g D)
include h
theorem Run.write (len cap : Nat) (B : Option Addr) (i : Int) (bs : List UInt8) (hlen : bs.length = len) (hB : Bytes w B bs) (hP : D.P.length < 1000000) (hS : D.steps < 1000000000) :
    Calls Try.prog 34 #[.pointer (some ⟨g, 0, none⟩), .int .i64 i, .slice B len cap] w fun e w' => e = .returned (.int .i64 (writeE D i bs)) ∧ Run w0 w' X g (writeD D i bs) ∧ Keep X w w' := by
  obtain ⟨⟨F, h1, h2⟩, h3, h4⟩ := h
  refine (h1.write_ g len cap B F D i bs w hlen hB hP hS).mono ?_
  rintro e w' ⟨rfl, a, b⟩
  exact ⟨rfl, Run.next h2 h3 h4 a b⟩
theorem Run.barrier (hP : D.P.length < 1000000) (hS : D.steps < 1000000000) :
    Calls Try.prog 35 #[.pointer (some ⟨g, 0, none⟩)] w fun e w' => e = .returned (.int .i64 (barE D)) ∧ Run w0 w' X g (barD D) ∧ Keep X w w' := by
  obtain ⟨⟨F, h1, h2⟩, h3, h4⟩ := h
  refine (Disk.barrier_ g F D w h1 hP hS).mono ?_
  rintro e w' ⟨rfl, a, b⟩
  exact ⟨rfl, Run.next' h2 h3 h4 a b⟩
theorem Run.off :
    Calls Try.prog 28 #[.pointer (some ⟨g, 0, none⟩)] w fun e w' => e = .returned (.tuple #[]) ∧ Run w0 w' X g (offD D) ∧ Keep X w w' := by
  obtain ⟨⟨F, h1, h2⟩, h3, h4⟩ := h
  refine (Disk.off_ g F D w h1).mono ?_
  rintro e w' ⟨rfl, a, b⟩
  exact ⟨rfl, Run.next' h2 h3 h4 a b⟩
theorem Run.arm (i : Int) (hi : i < 9223372036854775808) :
    Calls Try.prog 30 #[.pointer (some ⟨g, 0, none⟩), .int .i64 i] w fun e w' => e = .returned (.int .i64 (armE D i)) ∧ Run w0 w' X g (armD D i) ∧ Keep X w w' := by
  obtain ⟨⟨F, h1, h2⟩, h3, h4⟩ := h
  refine (Disk.arm_ g F D i w h1 hi).mono ?_
  rintro e w' ⟨rfl, a, b⟩
  exact ⟨rfl, Run.next' h2 h3 h4 a b⟩
theorem Run.on (kl kc : Nat) (K : Option Addr) (ks : List Int) (torn : Int) (hP : D.P.length < 1000000) (hK : Ints w K ks) (hkl : ks.length = kl) (hk9 : kl < 1000000) :
    Calls Try.prog 29 #[.pointer (some ⟨g, 0, none⟩), .slice K kl kc, .int .i64 torn] w fun e w' => e = .returned (.int .i64 (onE D)) ∧ Run w0 w' X g (onD D ks torn) ∧ Keep X w w' := by
  obtain ⟨⟨F, h1, h2⟩, h3, h4⟩ := h
  refine (Disk.on_ g kl kc K ks torn F D w h1 hP hK hkl hk9).mono ?_
  rintro e w' ⟨rfl, a, b⟩
  exact ⟨rfl, Run.next' h2 h3 h4 a b⟩
theorem Run.read_yes (i : Int) (he : readE D i = 0) :
    Calls Try.prog 51 #[.pointer (some ⟨g, 0, none⟩), .int .i64 i] w fun e w' => e = .returned (.tuple #[.slice (some ⟨w.heap.size, 0, none⟩) 256 256, .int .i64 0]) ∧ Blk w' w.heap.size 5 (row8 (readS D i.toNat)) ∧ (readS D i.toNat).length = 256 ∧ Run w0 w' (fun k => X k ∨ k = w.heap.size) g D ∧ Below w.heap.size w w' := by
  have hr := h
  obtain ⟨⟨F, h1, h2⟩, h3, h4⟩ := h
  refine (Disk.read_yes g F D i w h1 he).mono ?_
  rintro e w' ⟨rfl, a, b, c⟩
  exact ⟨rfl, a, b, hr.add c _ fun k hk => hk.imp id fun e => by have := a.lt; omega, c⟩
theorem Run.read_no (i : Int) (he : readE D i ≠ 0) :
    Calls Try.prog 51 #[.pointer (some ⟨g, 0, none⟩), .int .i64 i] w fun e w' => e = .returned (.tuple #[.slice none 0 0, .int .i64 (readE D i)]) ∧ w = w' := by
  obtain ⟨⟨F, h1, h2⟩, h3⟩ := h
  exact Disk.read_no g F D i w h1 he
end

def wD1 : DS := writeD (newD 16) 3 [7]
def wD2 : DS := barD wD1
def wD3 : DS := writeD wD2 3 [8]
def wD4 : DS := offD wD3
def wD5 : DS := onD wD4 [] (-1)

set_option maxRecDepth 20000 in
theorem w_facts : writeE (newD 16) 3 [7] = 0 ∧ barE wD1 = 0 ∧ writeE wD2 3 [8] = 0 ∧ readE wD3 3 = 0 ∧ onE wD4 = 0 ∧ readE wD5 3 = 0 ∧ wD5.steps = 3 ∧ (readS wD3 3)[0]? = some 8 ∧ (readS wD5 3)[0]? = some 7 ∧
    wD1.P.length < 1000000 ∧ wD1.steps < 1000000000 ∧ wD2.P.length < 1000000 ∧ wD2.steps < 1000000000 ∧ wD4.P.length < 1000000 := by decide +kernel

theorem one_byte (w : World) (x : UInt8) : Bytes (w.alloc (.cells #[.int .u8 (x.toNat : Int)] 5)) (some ⟨w.heap.size, 0, none⟩) [x] := by
  have h := Blk.new w 5 (row8 [x])
  exact Bytes.row h

end Go.Proofs.Ytiemfhncadcemaa
