/- One disk, of this call's own; the anchor. -/
import Derived.Test.YtdohfkblmadejaaT
namespace Go.Proofs.Ytdohfkblmadejaa
open Go.RowKit Dsk

theorem Disk.sectors_ (g : Nat) (F : Nat → Prop) (D : DS) (w : World) (h : Disk w F g D) : Calls Try.prog 36 #[.pointer (some ⟨g, 0, none⟩)] w fun e w' => e = .returned (.int .i64 (D.S.length : Int)) ∧ w = w' := by
  obtain ⟨E, gl, gi, rv, hk, _⟩ := h
  exact sectors_hd g _ _ _ _ _ _ _ w hk.hd
theorem Disk.steps_ (g : Nat) (F : Nat → Prop) (D : DS) (w : World) (h : Disk w F g D) : Calls Try.prog 34 #[.pointer (some ⟨g, 0, none⟩)] w fun e w' => e = .returned (.int .i64 (D.steps : Int)) ∧ w = w' := by
  obtain ⟨E, gl, gi, rv, hk, _⟩ := h
  exact steps_hd g _ _ _ _ _ _ _ w hk.hd
theorem Disk.dead_ (g : Nat) (F : Nat → Prop) (D : DS) (w : World) (h : Disk w F g D) : Calls Try.prog 33 #[.pointer (some ⟨g, 0, none⟩)] w fun e w' => e = .returned (.bool D.dead) ∧ w = w' := by
  obtain ⟨E, gl, gi, rv, hk, _⟩ := h
  exact dead_hd g _ _ _ _ _ _ _ w hk.hd
theorem Disk.pending_ (g : Nat) (F : Nat → Prop) (D : DS) (w : World) (h : Disk w F g D) : Calls Try.prog 29 #[.pointer (some ⟨g, 0, none⟩)] w fun e w' => e = .returned (.int .i64 (D.P.length : Int)) ∧ w = w' := by
  obtain ⟨E, gl, gi, rv, hk, _⟩ := h
  have hh := hk.hd
  obtain ⟨A, c, rfl, _⟩ := hk.pend.shape
  exact pending_hd g _ _ _ _ _ _ _ _ _ w hh

/-- A disk that this call has made, all of it behind w0, and apart from X. -/
structure Run (w0 w : World) (X : Nat → Prop) (g : Nat) (D : DS) : Prop where
  own : ∃ F, Disk w F g D ∧ ∀ k, F k → w0.heap.size ≤ k ∧ ¬ X k
  lt : ∀ k, X k → k < w.heap.size
  bel : Below w0.heap.size w0 w
/-- The blocks of X are as they were. -/
structure Keep (X : Nat → Prop) (w w' : World) : Prop where
  size : w.heap.size ≤ w'.heap.size
  at_ : ∀ k, X k → w'.heap[k]? = w.heap[k]?
theorem Keep.of_below {X : Nat → Prop} {w w' : World} (h : Below w.heap.size w w') (hX : ∀ k, X k → k < w.heap.size) : Keep X w w' := ⟨h.size, fun k hk => h.block k (hX k hk)⟩
theorem Keep.trans {X : Nat → Prop} {w w1 w2 : World} (h : Keep X w w1) (k : Keep X w1 w2) : Keep X w w2 := ⟨Nat.le_trans h.size k.size, fun j hj => (k.at_ j hj).trans (h.at_ j hj)⟩
theorem Keep.less {X Y : Nat → Prop} {w w1 : World} (h : Keep X w w1) (hY : ∀ k, Y k → X k) : Keep Y w w1 := ⟨h.size, fun j hj => h.at_ j (hY j hj)⟩
theorem Run.size {w0 w : World} {X : Nat → Prop} {g : Nat} {D : DS} (h : Run w0 w X g D) : w0.heap.size ≤ w.heap.size := h.bel.size
theorem Run.below {w0 w w' : World} {X : Nat → Prop} {g : Nat} {D : DS} (h : Run w0 w X g D) (hb : Below w.heap.size w w') : Run w0 w' X g D := by
  obtain ⟨⟨F, h1, h2⟩, h3, h4⟩ := h
  exact ⟨⟨F, h1.below hb, h2⟩, fun k hk => Nat.lt_of_lt_of_le (h3 k hk) hb.size, h4.trans (hb.mono h4.size)⟩
/-- What has been made since is set apart, too. -/
theorem Run.add {w0 w w' : World} {X : Nat → Prop} {g : Nat} {D : DS} (h : Run w0 w X g D) (hb : Below w.heap.size w w') (Y : Nat → Prop) (hY : ∀ k, Y k → X k ∨ (w.heap.size ≤ k ∧ k < w'.heap.size)) : Run w0 w' Y g D := by
  obtain ⟨⟨F, h1, h2⟩, h3, h4⟩ := h
  refine ⟨⟨F, h1.below hb, fun k hk => ⟨(h2 k hk).1, fun hy => ?_⟩⟩, fun k hk => ?_, h4.trans (hb.mono h4.size)⟩
  · rcases hY k hy with hx | hx
    · exact (h2 k hk).2 hx
    · have := h1.lt k hk; omega
  · rcases hY k hk with hx | hx
    · exact Nat.lt_of_lt_of_le (h3 k hx) hb.size
    · exact hx.2
/-- What is apart may be turned. -/
theorem Run.turn {w0 w w' : World} {X G : Nat → Prop} {g : Nat} {D : DS} (h : Run w0 w X g D) (ho : Off G w w') (hX : ∀ k, G k → X k ∧ w0.heap.size ≤ k) (Y : Nat → Prop) (hY : ∀ k, Y k → X k ∨ (w.heap.size ≤ k ∧ k < w'.heap.size)) : Run w0 w' Y g D := by
  obtain ⟨⟨F, h1, h2⟩, h3, h4⟩ := h
  refine ⟨⟨F, h1.off ho fun k hk hg => (h2 k hk).2 (hX k hg).1, fun k hk => ⟨(h2 k hk).1, fun hy => ?_⟩⟩, fun k hk => ?_, h4.trans (ho.below h4.size fun k hg => (hX k hg).2)⟩
  · rcases hY k hy with hx | hx
    · exact (h2 k hk).2 hx
    · have := h1.lt k hk; omega
  · rcases hY k hk with hx | hx
    · exact Nat.lt_of_lt_of_le (h3 k hx) ho.size
    · exact hx.2
theorem Run.less {w0 w : World} {X Y : Nat → Prop} {g : Nat} {D : DS} (h : Run w0 w X g D) (hY : ∀ k, Y k → X k) : Run w0 w Y g D := by
  obtain ⟨⟨F, h1, h2⟩, h3, h4⟩ := h
  exact ⟨⟨F, h1, fun k hk => ⟨(h2 k hk).1, fun hy => (h2 k hk).2 (hY k hy)⟩⟩, fun k hk => h3 k (hY k hk), h4⟩
theorem Run.next {w0 w w' : World} {X : Nat → Prop} {g : Nat} {D' : DS} {F : Nat → Prop} (hF : ∀ k, F k → w0.heap.size ≤ k ∧ ¬ X k) (hX : ∀ k, X k → k < w.heap.size) (hb : Below w0.heap.size w0 w) (h : Disk w' (grow F w w') g D') (ho : Off F w w') : Run w0 w' X g D' ∧ Keep X w w' :=
  ⟨⟨⟨_, h, fun k hk => hk.elim (hF k) fun e => ⟨by have := hb.size; omega, fun hx => by have := hX k hx; omega⟩⟩, fun k hk => Nat.lt_of_lt_of_le (hX k hk) ho.size, hb.trans (ho.below hb.size fun k hk => (hF k hk).1)⟩,
    ⟨ho.size, fun k hk => ho.block k (hX k hk) fun hf => (hF k hf).2 hk⟩⟩
theorem Run.next' {w0 w w' : World} {X : Nat → Prop} {g : Nat} {D' : DS} {F : Nat → Prop} (hF : ∀ k, F k → w0.heap.size ≤ k ∧ ¬ X k) (hX : ∀ k, X k → k < w.heap.size) (hb : Below w0.heap.size w0 w) (h : Disk w' F g D') (ho : Off F w w') : Run w0 w' X g D' ∧ Keep X w w' :=
  ⟨⟨⟨_, h, hF⟩, fun k hk => Nat.lt_of_lt_of_le (hX k hk) ho.size, hb.trans (ho.below hb.size fun k hk => (hF k hk).1)⟩, ⟨ho.size, fun k hk => ho.block k (hX k hk) fun hf => (hF k hf).2 hk⟩⟩

theorem Run.new (n : Nat) (w0 w : World) (X : Nat → Prop) (hX : ∀ k, X k → k < w.heap.size) (hb : Below w0.heap.size w0 w) (hn : 16 ≤ n ∧ n ≤ 4096) : Calls Try.prog 12 #[.int .i64 (n : Int)] w fun e w' => ∃ g, e = .returned (.tuple #[.pointer (some ⟨g, 0, none⟩), .int .i64 0]) ∧ Run w0 w' X g (newD n) ∧ Below w.heap.size w w' := by
  refine (new_ok n w hn).mono ?_
  rintro e w' ⟨g, rfl, hg, hD, hb'⟩
  exact ⟨g, rfl, ⟨⟨_, hD, fun k hk => ⟨by have := hb.size; omega, fun hx => by have := hX k hx; omega⟩⟩, fun k hk => Nat.lt_of_lt_of_le (hX k hk) hb'.size, hb.trans (hb'.mono hb.size)⟩, hb'⟩
section
variable {w0 w : World} {X : Nat → Prop} {g : Nat} {D : DS} (h : Run w0 w X g D)
include h
theorem Run.write (len cap : Nat) (B : Option Addr) (i : Int) (bs : List UInt8) (hlen : bs.length = len) (hB : Bytes w B bs) (hP : D.P.length < 1000000) (hS : D.steps < 1000000000) :
    Calls Try.prog 31 #[.pointer (some ⟨g, 0, none⟩), .int .i64 i, .slice B len cap] w fun e w' => e = .returned (.int .i64 (writeE D i bs)) ∧ Run w0 w' X g (writeD D i bs) ∧ Keep X w w' := by
  obtain ⟨⟨F, h1, h2⟩, h3, h4⟩ := h
  refine (h1.write_ g len cap B F D i bs w hlen hB hP hS).mono ?_
  rintro e w' ⟨rfl, a, b⟩
  exact ⟨rfl, Run.next h2 h3 h4 a b⟩
theorem Run.barrier (hP : D.P.length < 1000000) (hS : D.steps < 1000000000) :
    Calls Try.prog 32 #[.pointer (some ⟨g, 0, none⟩)] w fun e w' => e = .returned (.int .i64 (barE D)) ∧ Run w0 w' X g (barD D) ∧ Keep X w w' := by
  obtain ⟨⟨F, h1, h2⟩, h3, h4⟩ := h
  refine (Disk.barrier_ g F D w h1 hP hS).mono ?_
  rintro e w' ⟨rfl, a, b⟩
  exact ⟨rfl, Run.next' h2 h3 h4 a b⟩
theorem Run.off :
    Calls Try.prog 27 #[.pointer (some ⟨g, 0, none⟩)] w fun e w' => e = .returned (.tuple #[]) ∧ Run w0 w' X g (offD D) ∧ Keep X w w' := by
  obtain ⟨⟨F, h1, h2⟩, h3, h4⟩ := h
  refine (Disk.off_ g F D w h1).mono ?_
  rintro e w' ⟨rfl, a, b⟩
  exact ⟨rfl, Run.next' h2 h3 h4 a b⟩
theorem Run.arm (i : Int) (hi : i < 9223372036854775808) :
    Calls Try.prog 30 #[.pointer (some ⟨g, 0, none⟩), .int .i64 i] w fun e w' => e = .returned (.int .i64 (armE D i)) ∧ Run w0 w' X g (armD D i) ∧ Keep X w w' := by
  obtain ⟨⟨F, h1, h2⟩, h3, h4⟩ := h
  refine (Disk.arm_ g F D i w h1 hi).mono ?_
  rintro e w' ⟨rfl, a, b⟩
  exact ⟨rfl, Run.next' h2 h3 h4 a b⟩
theorem Run.on (kl kc : Nat) (K : Option Addr) (ks : List Int) (torn : Int) (hP : D.P.length < 1000000) (hK : Ints w K ks) (hkl : ks.length = kl) (hk9 : kl < 1000000) :
    Calls Try.prog 28 #[.pointer (some ⟨g, 0, none⟩), .slice K kl kc, .int .i64 torn] w fun e w' => e = .returned (.int .i64 (onE D)) ∧ Run w0 w' X g (onD D ks torn) ∧ Keep X w w' := by
  obtain ⟨⟨F, h1, h2⟩, h3, h4⟩ := h
  refine (Disk.on_ g kl kc K ks torn F D w h1 hP hK hkl hk9).mono ?_
  rintro e w' ⟨rfl, a, b⟩
  exact ⟨rfl, Run.next' h2 h3 h4 a b⟩
theorem Run.read_yes (i : Int) (he : readE D i = 0) :
    Calls Try.prog 26 #[.pointer (some ⟨g, 0, none⟩), .int .i64 i] w fun e w' => e = .returned (.tuple #[.slice (some ⟨w.heap.size, 0, none⟩) 256 256, .int .i64 0]) ∧ Blk w' w.heap.size 5 (row8 (readS D i.toNat)) ∧ (readS D i.toNat).length = 256 ∧ Run w0 w' (fun k => X k ∨ k = w.heap.size) g D ∧ Below w.heap.size w w' := by
  have hr := h
  obtain ⟨⟨F, h1, h2⟩, h3, h4⟩ := h
  refine (Disk.read_yes g F D i w h1 he).mono ?_
  rintro e w' ⟨rfl, a, b, c⟩
  exact ⟨rfl, a, b, hr.add c _ fun k hk => hk.imp id fun e => by have := a.lt; omega, c⟩
theorem Run.read_no (i : Int) (he : readE D i ≠ 0) :
    Calls Try.prog 26 #[.pointer (some ⟨g, 0, none⟩), .int .i64 i] w fun e w' => e = .returned (.tuple #[.slice none 0 0, .int .i64 (readE D i)]) ∧ w = w' := by
  obtain ⟨⟨F, h1, h2⟩, h3⟩ := h
  exact Disk.read_no g F D i w h1 he
end

def wD1 : DS := writeD (newD 16) 3 [7]
def wD2 : DS := barD wD1
def wD3 : DS := writeD wD2 3 [8]
def wD4 : DS := offD wD3
def wD5 : DS := onD wD4 [] (-1)

set_option maxRecDepth 20000 in
theorem w_facts : writeE (newD 16) 3 [7] = 0 ∧ barE wD1 = 0 ∧ writeE wD2 3 [8] = 0 ∧ readE wD3 3 = 0 ∧ onE wD4 = 0 ∧ readE wD5 3 = 0 ∧ wD5.steps = 3 ∧ (readS wD3 3)[0]? = some 8 ∧ (readS wD5 3)[0]? = some 7 ∧
    wD1.P.length < 1000000 ∧ wD1.steps < 1000000000 ∧ wD2.P.length < 1000000 ∧ wD2.steps < 1000000000 ∧ wD4.P.length < 1000000 := by decide +kernel

theorem one_byte (w : World) (x : UInt8) : Bytes (w.alloc (.cells #[.int .u8 (x.toNat : Int)] 5)) (some ⟨w.heap.size, 0, none⟩) [x] := by
  have h := Blk.new w 5 (row8 [x])
  exact Bytes.row h

set_option maxRecDepth 20000 in
set_option maxHeartbeats 1000000 in
theorem works_any (w : World) : Calls Try.prog 11 #[] w fun e W' => e = .returned (.bool true) ∧ Below w.heap.size w W' := by
  obtain ⟨e1, e2, e3, e4, e5, e6, e7, b1, b2, p1, s1, p2, s2, p4⟩ := w_facts
  have EE := Lib.hid (And.intro e1 (And.intro e2 (And.intro e3 (And.intro e4 (And.intro e5 (And.intro e6 e7))))))
  have EB := Lib.hid (And.intro b1 b2)
  have EP := Lib.hid (And.intro p1 (And.intro s1 (And.intro p2 (And.intro s2 p4))))
  have H1 := Lib.hid (Run.new 16 w w (fun _ => False) (fun _ h => h.elim) (Below.refl _ _) (by decide))
  clear e1 e2 e3 e4 e5 e6 e7 b1 b2 p1 s1 p2 s2 p4
  go_enter Try.func11, Try.ntmps11
  go_wp2_with fail
  refine H1.out.mono ?_
  rintro e w1 ⟨g, rfl, hR, _⟩
  have h2 := (hR.below ((Below.refl _ w1).alloc (Nat.le_refl _) (.cells #[.int .u8 ((7 : UInt8).toNat : Int)] 5))).write 1 1 _ 3 [7] rfl (one_byte w1 7) (by decide) (by decide)
  rw [EE.out.1] at h2
  have H2 := Lib.hid h2
  clear h2 H1 hR
  go_wp2_with fail
  refine H2.out.mono ?_
  rintro e w2 ⟨rfl, hR, _⟩
  have h3 := hR.barrier EP.out.1 EP.out.2.1
  rw [show barE (writeD (newD 16) 3 [7]) = 0 from EE.out.2.1] at h3
  have H3 := Lib.hid h3
  clear h3 H2 hR
  go_wp2_with fail
  refine H3.out.mono ?_
  rintro e w3 ⟨rfl, hR, _⟩
  have h4 := (hR.below ((Below.refl _ w3).alloc (Nat.le_refl _) (.cells #[.int .u8 ((8 : UInt8).toNat : Int)] 5))).write 1 1 _ 3 [8] rfl (one_byte w3 8) EP.out.2.2.1 EP.out.2.2.2.1
  rw [show writeE (barD (writeD (newD 16) 3 [7])) 3 [8] = 0 from EE.out.2.2.1] at h4
  have H4 := Lib.hid h4
  clear h4 H3 hR
  go_wp2_with fail
  refine H4.out.mono ?_
  rintro e w4 ⟨rfl, hR, _⟩
  have H5 := Lib.hid (hR.read_yes 3 EE.out.2.2.2.1)
  clear H4 hR
  go_wp2_with fail
  refine H5.out.mono ?_
  rintro e w5 ⟨rfl, hb, hl, hR, _⟩
  have H6 := Lib.hid hR.off
  have hc : w5.cell? ⟨w4.heap.size, 0, none⟩ = some (.int .u8 8) := by
    rw [hb.cell 0]
    exact row8_get 0 8 EB.out.1
  have HC := Lib.hid hc
  clear H5 hR hb hl hc
  go_wp2_with fail
  refine H6.out.mono ?_
  rintro e w6 ⟨rfl, hR, hk⟩
  have hc6 : w6.cell? ⟨w4.heap.size, 0, none⟩ = some (.int .u8 8) := (World.cell?_of_block (a := ⟨w4.heap.size, 0, none⟩) (hk.at_ _ (.inr rfl))).trans HC.out
  have h7 := hR.on 0 0 none [] (-1) EP.out.2.2.2.2 (Ints.nil _ _) rfl (by decide)
  rw [show onE (offD (writeD (barD (writeD (newD 16) 3 [7])) 3 [8])) = 0 from EE.out.2.2.2.2.1] at h7
  have H7 := Lib.hid h7
  clear H6 hR hk HC h7
  go_wp2_with fail
  refine H7.out.mono ?_
  rintro e w7 ⟨rfl, hR, _⟩
  have H8 := Lib.hid (hR.read_yes 3 EE.out.2.2.2.2.2.1)
  clear H7 hR hc6
  go_wp2_with fail
  refine H8.out.mono ?_
  rintro e w8 ⟨rfl, hb, hl, hR, _⟩
  obtain ⟨F, hD, _⟩ := hR.own
  have h9 := Disk.steps_ g F _ w8 hD
  rw [show (onD (offD (writeD (barD (writeD (newD 16) 3 [7])) 3 [8])) [] (-1)).steps = 3 from EE.out.2.2.2.2.2.2] at h9
  have H9 := Lib.hid h9
  have hc : w8.cell? ⟨w7.heap.size, 0, none⟩ = some (.int .u8 7) := by
    rw [hb.cell 0]
    exact row8_get 0 7 EB.out.2
  have HB := Lib.hid hR.bel
  clear H8 hR hb hl hD h9
  go_wp2_with fail
  refine H9.out.mono ?_
  rintro e w9 ⟨rfl, rfl⟩
  go_wp2_with fail
  go_ret
  exact ⟨rfl, HB.out⟩

end Go.Proofs.Ytdohfkblmadejaa
