/- cache: works, apart from memory. -/
import Derived.Test.YtiemfhncadcemaaCy
import Derived.Lib.SmallJoins
namespace Go.Proofs.Ytiemfhncadcemaa
open Go.RowKit Dsk
def fA : List UInt8 := filled [97] 256
def fB : List UInt8 := filled [98] 256
theorem fA_len : fA.length = 256 := filled_length [97] 256 (by simp)
theorem fB_len : fB.length = 256 := filled_length [98] 256 (by simp)
section
variable {t : Nat} {D D' : DS} {L L' : List Fr} {y y1 : Fr} {b : List UInt8}
theorem wk1 (h : Wrote 2 D [] 3 b D' L' y) : D' = D ∧ L' = [y] ∧ y.s = 3 ∧ y.dirty = true ∧ y.pins = 0 ∧ y.b = b := by
  rcases h with ⟨x, hx, _⟩ | ⟨_, L1, hr, ey, rfl⟩
  · cases hx
  · rcases hr with ⟨_, rfl, rfl⟩ | ⟨hl, _⟩
    · exact ⟨rfl, rfl, by rw [ey], by rw [ey], by rw [ey], by rw [ey]⟩
    · simp at hl
theorem wk2 (h : Wrote 2 D [y1] 4 b D' L' y) (h1 : y1.s = 3) : D' = D ∧ L' = [y1, y] ∧ y.s = 4 ∧ y.dirty = true ∧ y.pins = 0 ∧ y.b = b := by
  rcases h with ⟨x, hx, e, _⟩ | ⟨_, L1, hr, ey, rfl⟩
  · rw [List.mem_singleton.1 hx] at e; omega
  · rcases hr with ⟨_, rfl, rfl⟩ | ⟨hl, _⟩
    · exact ⟨rfl, rfl, by rw [ey], by rw [ey], by rw [ey], by rw [ey]⟩
    · simp at hl
theorem wk3 {s : Nat} (h : Brought 2 D L s D' L' y) (hl : L.length = 2) (hn : L.Pairwise fun x y => x.s ≠ y.s) (hd : ∀ x ∈ L, x.dirty = true) (hno : ∀ x ∈ L, x.s ≠ s) : L'.length = 2 ∧ L'.countP (fun x => x.dirty) = 1 := by
  rcases h with ⟨x, hx, e, _⟩ | ⟨_, L1, hr, ey, rfl⟩
  · exact absurd e (hno x hx)
  · rcases hr with ⟨h2, _⟩ | ⟨_, x, hx, _, _, rfl⟩
    · omega
    · have h1 := delL_len hn ⟨x, hx, rfl⟩
      have h2 : (delL x.s L).countP (fun x => x.dirty) = (delL x.s L).length := List.countP_eq_length.2 (fun z hz => hd z (delL_mem.1 hz).1)
      rw [List.length_append, List.countP_append, h2, h1, hl, ey]
      exact ⟨rfl, rfl⟩
theorem nostuck0 {most s : Nat} {P : Nat → Nat} (hp : Pn P L) {x : Fr} (hx : x ∈ L) (h0 : P x.s = 0) : ¬ Stuck most L s := fun h => h.1.2 x hx ((hp.at_ x hx).trans h0)
theorem two_frames (hn : L.Pairwise fun x y => x.s ≠ y.s) (hl : L.length ≤ 2) {a b : Nat} (hab : a ≠ b) (ha : ∃ x ∈ L, x.s = a) (hb : ∃ x ∈ L, x.s = b) : L.length = 2 ∧ ∀ x ∈ L, x.s = a ∨ x.s = b := by
  have h1 := delL_len hn ha
  obtain ⟨xb, hxb, eb⟩ := hb
  have hb' : ∃ x ∈ delL a L, x.s = b := ⟨xb, delL_mem.2 ⟨hxb, by omega⟩, eb⟩
  have h2 := delL_len (hn.filter _) hb'
  have h2 : (delL b (delL a L)).length = (delL a L).length - 1 := h2
  obtain ⟨xb', hxb', _⟩ := hb'
  have hp1 := List.length_pos_of_mem hxb'
  obtain ⟨xa, hxa, _⟩ := ha
  have hp2 := List.length_pos_of_mem hxa
  have h3 : delL b (delL a L) = [] := List.eq_nil_of_length_eq_zero (by omega)
  refine ⟨by omega, fun x hx => ?_⟩
  by_cases e1 : x.s = a
  · exact .inl e1
  · by_cases e2 : x.s = b
    · exact .inr e2
    · have : x ∈ delL b (delL a L) := delL_mem.2 ⟨delL_mem.2 ⟨hx, e1⟩, e2⟩
      rw [h3] at this; cases this
/-- Frames 3 and 5 are pinned: no other one comes. -/
theorem wk6 {P : Nat → Nat} (hp : Pn P L) (hn : L.Pairwise fun x y => x.s ≠ y.s) (hl : L.length ≤ 2) (h3 : P 3 ≠ 0) (h5 : P 5 ≠ 0) : ¬ Brought 2 D L 6 D' L' y := by
  obtain ⟨e1, e2⟩ := two_frames hn hl (show 3 ≠ 5 by omega) (hp.has 3 h3) (hp.has 5 h5)
  intro h
  rcases h with ⟨x, hx, e, _⟩ | ⟨_, L1, hr, _⟩
  · have := e2 x hx; omega
  · rcases hr with ⟨h2, _⟩ | ⟨_, x, hx, h0, _⟩
    · omega
    · rw [hp.at_ x hx] at h0
      rcases e2 x hx with e | e
      · rw [e] at h0; exact h3 h0
      · rw [e] at h0; exact h5 h0
theorem nostuck3 {P : Nat → Nat} {s : Nat} (hp : Pn P L) (hn : L.Pairwise fun x y => x.s ≠ y.s) (h : ∀ j, j ≠ 3 → P j = 0) : ¬ Stuck 2 L s := fun hs => by
  have hall : ∀ x ∈ L, x.s = 3 := fun x hx => by
    by_cases e : x.s = 3
    · exact e
    · exact absurd ((hp.at_ x hx).trans (h _ e)) (hs.1.2 x hx)
  have hl := hs.1.1
  match L, hl, hn, hall with
  | a :: b :: L, _, hn, hall =>
    have h1 := (List.pairwise_cons.1 hn).1 b (by simp)
    exact h1 ((hall a (by simp)).trans (hall b (by simp)).symm)
  | [_], hl, _, _ => simp at hl
  | [], hl, _, _ => simp at hl
end
theorem what_pin {D : DS} {L : List Fr} (hn : L.Pairwise fun x y => x.s ≠ y.s) {y : Fr} (hy : y ∈ L) (v j : Nat) : what D (updL { y with pins := v } L) j = what D L j := by
  rw [what_upd hn (y := { y with pins := v }) ⟨y, hy, rfl⟩]
  split
  · rename_i e; rw [e]; exact (what_yes hn hy).symm
  · rfl
theorem Pn.pinned {most s : Nat} {D D' : DS} {L L' : List Fr} {y : Fr} {P : Nat → Nat} (h : Pn P L) (hb : Brought most D L s D' L' y) (hy : y ∈ L') : Pn (putP P s (P s + 1)) (updL { y with pins := y.pins + 1 } L') := by
  obtain ⟨p1, p2⟩ := h.brought hb
  have h2 := p1.pin hy (y.pins + 1)
  have h3 : putP P y.s (y.pins + 1) = putP P s (P s + 1) := by rw [hb.sec, p2]
  rw [h3] at h2
  exact h2
/-- While works works. -/
structure WS (w0 w : World) (X : Nat → Prop) (g dg t : Nat) (P : Nat → Nat) (D : DS) (L : List Fr) : Prop where
  cs : CS w0 w X g dg 16 2 t D L
  pn : Pn P L
  a : what D L 3 = fA
  b : what D L 4 = fB
/-- A byte in a block that is marked behind its last cell. -/
theorem lit_bytes (w : World) (x : UInt8) : Bytes (w.alloc (.cells #[.int .u8 (x.toNat : Int)] 5 (1, 2))) (some ⟨w.heap.size, 0, none⟩) [x] := fun k c hk => by
  refine ⟨w.heap.size, 0, rfl, by simp, ?_⟩
  have h := World.cell?_alloc_mark w #[.int .u8 (x.toNat : Int)] 5 (1, 2) (0 + k)
  refine h.trans ?_
  have hr := row8_get k c hk
  rw [Nat.zero_add]
  exact hr
theorem run_lit (x : Int) (w : World) : (convert 33 33 (.slice (some ⟨w.heap.size, 0, none⟩) 1 1)).run Try.prog (w.alloc (.cells #[.int .u8 x] 5)) = .ok (.slice (some ⟨w.heap.size, 0, none⟩) 1 1) (w.alloc (.cells #[.int .u8 x] 5 (1, 2))) :=
  Lib.run_convert_bytes_const w 33 5 _ 1 1 Try.underlying33 Try.underlying5
theorem litD_below (w : World) (x : Int) : Below w.heap.size w (w.alloc (.cells #[.int .u8 x] 5 (1, 2))).drew := ((Below.refl _ w).alloc (Nat.le_refl _) _).drew
theorem lit_below (w : World) (x : Int) : Below w.heap.size w (w.alloc (.cells #[.int .u8 x] 5 (1, 2))) := (Below.refl _ w).alloc (Nat.le_refl _) _
theorem full1D (w : World) (x : UInt8) : Calls Try.prog 12 #[.slice (some ⟨w.heap.size, 0, none⟩) 1 1] (w.alloc (.cells #[.int .u8 (x.toNat : Int)] 5 (1, 2))).drew fun e w' => e = .returned (.slice (some ⟨w.heap.size + 1, 0, none⟩) 256 256) ∧ Blk w' (w.heap.size + 1) 5 (row8 (filled [x] 256)) ∧ Below w.heap.size w w' := by
  refine (full_any (some ⟨w.heap.size, 0, none⟩) 1 1 [x] _ rfl (by omega) (lit_bytes w.drew x)).mono ?_
  rintro e w' ⟨rfl, h1, h2⟩
  have e1 : (w.drew.alloc (.cells #[.int .u8 (x.toNat : Int)] 5 (1, 2))).heap.size = w.heap.size + 1 := World.size_alloc _ _
  have e2 : Below w.heap.size w (w.drew.alloc (.cells #[.int .u8 (x.toNat : Int)] 5 (1, 2))) := litD_below w _
  rw [e1] at h1 h2
  exact ⟨by rw [e1], h1, e2.trans (h2.mono (Nat.le_succ _))⟩
theorem full1 (w : World) (x : UInt8) : Calls Try.prog 12 #[.slice (some ⟨w.heap.size, 0, none⟩) 1 1] (w.alloc (.cells #[.int .u8 (x.toNat : Int)] 5 (1, 2))) fun e w' => e = .returned (.slice (some ⟨w.heap.size + 1, 0, none⟩) 256 256) ∧ Blk w' (w.heap.size + 1) 5 (row8 (filled [x] 256)) ∧ Below w.heap.size w w' := by
  refine (full_any (some ⟨w.heap.size, 0, none⟩) 1 1 [x] _ rfl (by omega) (lit_bytes w x)).mono ?_
  rintro e w' ⟨rfl, h1, h2⟩
  have e1 := World.size_alloc w (.cells #[.int .u8 (x.toNat : Int)] 5 (1, 2))
  rw [e1] at h1 h2
  exact ⟨by rw [e1], h1, (lit_below w _).trans (h2.mono (Nat.le_succ _))⟩
/-- The mark of a literal whose block was laid before. -/
theorem run_litL (w : World) (g : Nat) (x : UInt8) (h : w.heap[g]? = some (.cells #[.int .u8 (x.toNat : Int)] 5 (0, 0))) :
    ∃ vf, (convert 33 33 (.slice (some ⟨g, 0, none⟩) 1 1)).run Try.prog w = .ok (.slice (some ⟨g, 0, none⟩) 1 1) vf ∧ Off (fun k => k = g) w vf ∧ Bytes vf (some ⟨g, 0, none⟩) [x] := by
  have hlt : g < w.heap.size := Blk.lt (t := 5) h
  have hsh : w.shape? g = some (5, 1) := by
    unfold World.shape?
    rw [h]; rfl
  have hg : (w.freeze ⟨g, 1, none⟩ 1).heap[g]? = some (.cells #[.int .u8 (x.toNat : Int)] 5 (1, 2)) := by
    unfold World.freeze
    rw [if_neg (by decide)]
    simp only [Array.getElem?_modify, h, if_true]
    rfl
  have hs : (w.freeze ⟨g, 1, none⟩ 1).heap.size = w.heap.size := by
    unfold World.freeze
    rw [if_neg (by decide)]
    simp
  refine ⟨w.freeze ⟨g, 1, none⟩ 1, ?_, ⟨?_, ?_, ?_, by rw [hs]; exact Nat.le_refl _, fun k hk hn => ?_⟩, fun k c hk => ?_⟩
  · simp [convert, run_underlying Try.underlying33, run_underlying Try.underlying5, markStringish, hsh]
  · unfold World.freeze; rw [if_neg (by decide)]
  · unfold World.freeze; rw [if_neg (by decide)]
  · unfold World.freeze; rw [if_neg (by decide)]
  · unfold World.freeze
    rw [if_neg (by decide)]
    simp only [Array.getElem?_modify]
    rw [if_neg (fun e => hn e.symm)]
  · refine ⟨g, 0, rfl, by rw [hs]; exact hlt, ?_⟩
    rcases k with _ | k
    · cases hk
      simp [World.cell?, hg]
    · simp at hk
theorem litB (v1 v2 : World) (b : List UInt8) (A : Option Addr) (v : Value) (hb : Below (v1.heap.size + 1) (v1.alloc (.cells #[.int .u8 98] 5)) v2) (hy : Bytes v2 A b) (hE : ∀ p : Addr, A = some p → v1.heap.size + 1 < p.block ∧ p.block < v2.heap.size)
    (hx : v2.cell? ⟨v1.heap.size + 1, 4, none⟩ = some v) (hlt : v1.heap.size + 1 < v2.heap.size) :
    ∃ vf, (convert 33 33 (.slice (some ⟨v1.heap.size, 0, none⟩) 1 1)).run Try.prog v2 = .ok (.slice (some ⟨v1.heap.size, 0, none⟩) 1 1) vf ∧ vf.cell? ⟨v1.heap.size + 1, 4, none⟩ = some v ∧ Below v1.heap.size v1 vf ∧ Bytes vf A b ∧ v1.heap.size + 1 < vf.heap.size ∧ Bytes vf (some ⟨v1.heap.size, 0, none⟩) [98] := by
  have hl : v2.heap[v1.heap.size]? = some (.cells #[.int .u8 98] 5 (0, 0)) := (hb.block v1.heap.size (Nat.lt_succ_self _)).trans (heap_alloc_new v1 _)
  obtain ⟨vf, hcv, hof, hbf⟩ := run_litL v2 v1.heap.size 98 hl
  have hb0 : Below v1.heap.size v1 v2 := ((Below.refl _ _).alloc (Nat.le_refl _) _).trans (hb.mono (Nat.le_succ _))
  refine ⟨vf, hcv, (World.cell?_of_block (a := ⟨v1.heap.size + 1, 4, none⟩) (hof.block _ hlt (fun e => Nat.succ_ne_self _ e))).trans hx, hb0.trans (hof.below hb0.size (fun k e => Nat.le_of_eq (Eq.symm e))), hy.same hof.size (fun p e hp => hof.block _ hp (fun e' => ?_)), Nat.lt_of_lt_of_le hlt hof.size, hbf⟩
  have e'' : p.block = v1.heap.size := e'
  have h9 := (hE p e).1
  omega
theorem samet_any (A B : Option Addr) (l1 c1 l2 c2 : Nat) (xs : List UInt8) (w : World) (h1 : xs.length = l1) (h2 : xs.length = l2) (hA : Bytes w A xs) (hB : Bytes w B xs) :
    Calls Try.prog 14 #[.slice A l1 c1, .slice B l2 c2] w fun e w' => e = .returned (.bool true) ∧ w = w' := by
  have h := sameb_any A B l1 c1 l2 c2 xs xs w h1 h2 hA hB
  rw [decide_eq_true rfl] at h
  exact h
section
variable {w0 w w' : World} {X : Nat → Prop} {g dg t nn most : Nat} {P : Nat → Nat} {D : DS} {L : List Fr}
theorem CS.image (h : CS w0 w X g dg nn most t D L) :
    Calls Try.prog 16 #[.pointer (some ⟨dg, 0, none⟩)] w fun e w' => e = .returned (.slice (some ⟨w.heap.size, 0, none⟩) nn nn) ∧ Secs w' (fun j => w.heap.size < j ∧ j < w'.heap.size) w.heap.size D.S ∧ Below w.heap.size w w' := by
  obtain ⟨⟨mb, n, time, B, E, h1, h2, h5⟩, h3, h4⟩ := h
  have := h1.run.image
  rw [h3.hale.len] at this
  exact this
theorem Secs.cell {w : World} {E : Nat → Prop} {g k : Nat} {S : List (List UInt8)} {b : List UInt8} (h : Secs w E g S) (hk : k < S.length) (hb : S.getD k [] = b) : ∃ A c, w.cell? ⟨g, k, none⟩ = some (.slice A b.length c) ∧ Bytes w A b ∧ ∀ p : Addr, A = some p → E p.block := by
  have e : S[k]? = some b := by
    rw [List.getElem?_eq_getElem hk]
    rw [List.getD, List.getElem?_eq_getElem hk] at hb
    exact congrArg some hb
  obtain ⟨v, hv, A, c, rfl, _, _, hby, hE⟩ := h.at_ e
  exact ⟨A, c, hv, hby, hE⟩
theorem WS.below (h : WS w0 w X g dg t P D L) (hb : Below w.heap.size w w') : WS w0 w' X g dg t P D L := ⟨h.cs.below hb, h.pn, h.a, h.b⟩
theorem run_litD (x : Int) (w : World) : (convert 33 33 (.slice (some ⟨w.heap.size, 0, none⟩) 1 1)).run Try.prog (w.alloc (.cells #[.int .u8 x] 5)).drew = .ok (.slice (some ⟨w.heap.size, 0, none⟩) 1 1) (w.alloc (.cells #[.int .u8 x] 5 (1, 2))).drew :=
  run_lit x w.drew
/-- A byte of the call's own is written. -/
theorem CS.write1 {nn most s : Nat} (h : CS w0 w X g dg nn most t D L) (x : UInt8) (hs : s < nn) (ht : t < 900000) (hx : L.length < most) :
    Calls Try.prog 24 #[.pointer (some ⟨g, 0, none⟩), .int .i64 (s : Int), .slice (some ⟨w.heap.size, 0, none⟩) 1 1] (w.alloc (.cells #[.int .u8 (x.toNat : Int)] 5 (1, 2))) fun e w' =>
      ∃ D' L' y, e = .returned (.int .i64 0) ∧ Wrote most D L s (filled [x] 256) D' L' y ∧ CS w0 w' X g dg nn most (t + 1) D' L' ∧ Keep X w w' := by
  have hb : Below w.heap.size w (w.alloc (.cells #[.int .u8 (x.toNat : Int)] 5 (1, 2))) := (Below.refl _ _).alloc (Nat.le_refl _) _
  have h1 := h.more hb (fun k => X k ∨ k = w.heap.size) (fun k hk => hk.imp id fun e => by rw [World.size_alloc]; omega)
  refine (h1.write (some ⟨w.heap.size, 0, none⟩) 1 1 [x] hs ht rfl (by omega) (lit_bytes w x) (fun p e => .inr (by cases e; rfl))).mono ?_
  rintro e w' (⟨rfl, k1, _⟩ | ⟨D', L', y, rfl, k1, k2, k3⟩)
  · have := k1.1.1; omega
  · exact ⟨D', L', y, rfl, k1, k2.less fun k hk => .inl hk, ⟨Nat.le_trans hb.size k3.size, fun k hk => (k3.at_ k (.inl hk)).trans (hb.block k (h.lt k hk))⟩⟩
end
end Go.Proofs.Ytiemfhncadcemaa
