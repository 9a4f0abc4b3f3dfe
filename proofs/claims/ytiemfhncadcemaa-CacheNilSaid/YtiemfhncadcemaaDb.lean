/- cache: what is done, opened; does: Pin. -/
import Derived.Test.YtiemfhncadcemaaTake
import Derived.Laws.Rows
namespace Go.Proofs.Ytiemfhncadcemaa
open Go.RowKit Dsk
/-- What is done. -/
structure Ov where
  kind : Int
  s : Int
  B : List UInt8
  K : List Int
  torn : Int
instance : Inhabited Ov := ⟨⟨0, 0, [], [], 0⟩⟩
structure OpV (w : World) (v0 v1 v2 v3 v4 : Value) (o : Ov) : Prop where
  kind : v0 = .int .i64 o.kind ∧ -9223372036854775808 ≤ o.kind ∧ o.kind < 9223372036854775808
  s : v1 = .int .i64 o.s ∧ -9223372036854775808 ≤ o.s ∧ o.s < 9223372036854775808
  B : ∃ A c, v2 = .slice A o.B.length c ∧ o.B.length ≤ c ∧ c ≤ maxLen ∧ Bytes w A o.B
  K : ∃ A c, v3 = .slice A o.K.length c ∧ o.K.length ≤ c ∧ c ≤ maxLen ∧ Ints w A o.K
  torn : v4 = .int .i64 o.torn ∧ -9223372036854775808 ≤ o.torn ∧ o.torn < 9223372036854775808
theorem OpV.below {w w' : World} {v0 v1 v2 v3 v4 : Value} {o : Ov} (h : OpV w v0 v1 v2 v3 v4 o) (hb : Below w.heap.size w w') : OpV w' v0 v1 v2 v3 v4 o := by
  obtain ⟨h1, h2, ⟨A, c, a1, a2, a3, a4⟩, ⟨K, d, b1, b2, b3, b4⟩, h5⟩ := h
  exact ⟨h1, h2, ⟨A, c, a1, a2, a3, a4.below hb⟩, ⟨K, d, b1, b2, b3, b4.below hb⟩, h5⟩
/-- The three blocks of does. -/
def wD (w : World) (cs : Array Value) : World := ((w.alloc (.cells cs 37)).alloc (.cells #[.slice none 0 0, .bool false, .int .i64 0] 39)).alloc (.cells #[.slice none 0 0, .bool false, .int .i64 0] 39)
def YD (w : World) (X : Nat → Prop) : Nat → Prop := fun k => X k ∨ (w.heap.size ≤ k ∧ k < w.heap.size + 3)
theorem wD_size (w : World) (cs : Array Value) : (wD w cs).heap.size = w.heap.size + 3 := by unfold wD; simp
theorem wD_below (w : World) (cs : Array Value) : Below w.heap.size w (wD w cs) := (((Below.refl _ w).alloc (Nat.le_refl _) _).alloc (by simp) _).alloc (by simp; omega) _
structure Dz (w W : World) (cs xs : Array Value) : Prop where
  op : Blk W w.heap.size 37 cs
  r : Blk W (w.heap.size + 1) 39 #[.slice none 0 0, .bool false, .int .i64 0]
  x : Blk W (w.heap.size + 1 + 1) 39 xs
theorem Dz.new (w : World) (cs : Array Value) : Dz w (wD w cs) cs #[.slice none 0 0, .bool false, .int .i64 0] := by
  refine ⟨((Blk.new w _ cs).alloc _).alloc _, ?_, ?_⟩
  · have := (Blk.new (w.alloc (.cells cs 37)) 39 #[.slice none 0 0, .bool false, .int .i64 0]).alloc (.cells #[.slice none 0 0, .bool false, .int .i64 0] 39)
    rw [World.size_alloc] at this
    exact this
  · have := Blk.new ((w.alloc (.cells cs 37)).alloc (.cells #[.slice none 0 0, .bool false, .int .i64 0] 39)) 39 #[.slice none 0 0, .bool false, .int .i64 0]
    rw [World.size_alloc, World.size_alloc] at this
    exact this
theorem Dz.keep {w W W' : World} {cs xs : Array Value} {X : Nat → Prop} (h : Dz w W cs xs) (hk : Keep (YD w X) W W') : Dz w W' cs xs :=
  ⟨h.op.same (hk.at_ _ (.inr ⟨Nat.le_refl _, by omega⟩)), h.r.same (hk.at_ _ (.inr ⟨by omega, by omega⟩)), h.x.same (hk.at_ _ (.inr ⟨by omega, by omega⟩))⟩
theorem Dz.below {w W W' : World} {cs xs : Array Value} (h : Dz w W cs xs) (hb : Below W.heap.size W W') : Dz w W' cs xs := ⟨h.op.below hb h.op.lt, h.r.below hb h.r.lt, h.x.below hb h.x.lt⟩
theorem offS {G : Nat → Prop} {w w1 : World} (h : Off G w w1) (g i : Nat) (v : Value) (hg : G g) : Off G w (w1.setCell ⟨g, i, none⟩ v) := h.trans ((Off.setc w1 g i v).mono fun k _ e => by have e' : k = g := e; rw [e']; exact hg)
section
variable {w0 w w' wf : World} {X Y : Nat → Prop} {g dg nn most t s : Nat} {D : DS} {L : List Fr}
theorem CS.turnX {G : Nat → Prop} (h : CS w0 w Y g dg nn most t D L) (ho : Off G w wf) (hG : ∀ k, G k → Y k ∧ w0.heap.size ≤ k) : CS w0 wf Y g dg nn most t D L := by
  obtain ⟨⟨mb, n, time, B, E, h1, h2⟩, h3, h4⟩ := h
  refine ⟨⟨mb, n, time, B, E, ⟨h1.cm.keep (fun k hz => ho.block k (h1.run.lt k (.inr hz)) (fun e => (h1.far k hz).2 (hG k e).1)) ho.size, h1.run.turn ho (fun k e => ⟨.inl (hG k e).1, (hG k e).2⟩) _ (fun k hk => .inl hk), h1.far⟩, h2⟩, h3, h4⟩
theorem CS.does0 (h : CS w0 w X g dg nn most t D L) (cs : Array Value) : CS w0 (wD w cs) (YD w X) g dg nn most t D L := h.more (wD_below w cs) _ fun k hk => hk.imp id fun e => by rw [wD_size]; exact e
/-- The end of does. -/
theorem CS.doesEnd {q : Nat} (h0 : CS w0 w X g dg nn most t D L) {t' : Nat} {D' : DS} {L' : List Fr} {cs : Array Value} (h : CS w0 w' (fun k => YD w X k ∨ k = q) g dg nn most t' D' L') (hk : Keep (YD w X) (wD w cs) w') (ho : Off (fun k => k = w.heap.size + 1 ∨ k = w.heap.size + 1 + 1) w' wf) :
    CS w0 wf (fun k => X k ∨ k = q) g dg nn most t' D' L' ∧ Keep X w wf := by
  have hs := h0.bel.size
  refine ⟨(h.turnX ho (fun k e => ⟨.inl (.inr (by rcases e with e | e <;> omega)), by rcases e with e | e <;> omega⟩)).less fun k e => e.imp .inl id, ⟨?_, fun k hX => ?_⟩⟩
  · have h1 := (wD_below w cs).size
    have h2 := hk.size
    have h3 := ho.size
    omega
  · have hlt := h0.lt k hX
    exact (ho.block k (h.lt k (.inl (.inl hX))) (fun e => by rcases e with e | e <;> omega)).trans ((hk.at_ k (.inl hX)).trans ((wD_below w cs).block k hlt))
end
/-- What becomes of it. -/
structure Did (o : Ov) (nn : Nat) (D : DS) (L : List Fr) (e : Int) (bs : List UInt8) (D' : DS) (L' : List Fr) : Prop where
  what_ : ∀ j : Nat, what D' L' j = if o.kind = 1 ∧ e = 0 ∧ (j : Int) = o.s then filled o.B 256 else what D L j
  rng : (o.kind = 0 ∨ o.kind = 1) → e = 0 → 0 ≤ o.s ∧ o.s < nn
  long : o.kind = 1 → e = 0 → o.B.length ≤ 256
  read : o.kind = 0 → e = 0 → bs = what D L o.s.toNat
  flush : o.kind = 6 → e = 0 ∧ (∀ x ∈ L', x.dirty = false) ∧ ∀ j, D'.S.getD j [] = what D' L' j
  nopin : (∀ x ∈ L, x.pins = 0) → (o.kind = 0 ∨ o.kind = 1 ∨ o.kind = 4 ∨ o.kind = 6) → (∀ x ∈ L', x.pins = 0) ∧ e = if o.kind = 0 then (if 0 ≤ o.s ∧ o.s < nn then 0 else 1) else if o.kind = 1 then (if (0 ≤ o.s ∧ o.s < nn) ∧ o.B.length ≤ 256 then 0 else 1) else 0
/-- The answer of does, and what is so behind it. -/
def DidW (w0 w w' : World) (X : Nat → Prop) (g dg nn most t : Nat) (D : DS) (L : List Fr) (o : Ov) (en : Ending) : Prop :=
  ∃ A len c is e bs D' L' q, en = .returned (.agg #[.slice A len c, .bool is, .int .i64 e]) ∧ Did o nn D L e bs D' L' ∧ bs.length = len ∧ Bytes w' A bs ∧ (∀ p : Addr, A = some p → p.block = q) ∧ w.heap.size ≤ q ∧ CS w0 w' (fun k => X k ∨ k = q) g dg nn most (t + 1025) D' L' ∧ Keep X w w'
theorem Did.same {o : Ov} {nn : Nat} {D : DS} {L : List Fr} {e : Int} (h1 : o.kind ≠ 1 ∨ e ≠ 0) (h0 : o.kind = 0 → e ≠ 0) (h6 : o.kind ≠ 6) (hp : (∀ x ∈ L, x.pins = 0) → (o.kind = 0 ∨ o.kind = 1 ∨ o.kind = 4 ∨ o.kind = 6) → e = if o.kind = 0 then (if 0 ≤ o.s ∧ o.s < nn then 0 else 1) else if o.kind = 1 then (if (0 ≤ o.s ∧ o.s < nn) ∧ o.B.length ≤ 256 then 0 else 1) else 0) : Did o nn D L e [] D L :=
  ⟨fun j => by rw [if_neg (fun h => by rcases h1 with h1 | h1; exact h1 h.1; exact h1 h.2.1)], fun h e0 => by
      rcases h with h | h
      · exact absurd e0 (h0 h)
      · rcases h1 with h1 | h1
        · exact absurd h h1
        · exact absurd e0 h1, fun h e0 => by
      rcases h1 with h1 | h1
      · exact absurd h h1
      · exact absurd e0 h1, fun h e0 => absurd e0 (h0 h), fun h => absurd h h6, fun h hk => ⟨h, hp h hk⟩⟩
section
variable {w0 w w' wf : World} {X : Nat → Prop} {g dg nn most t : Nat} {D D' : DS} {L L' : List Fr} {o : Ov} {e : Int}
theorem CS.doesNone (h0 : CS w0 w X g dg nn most t D L) {cs : Array Value} (hd : Did o nn D L e [] D' L') (hc : CS w0 w' (YD w X) g dg nn most (t + 1025) D' L') (hk : Keep (YD w X) (wD w cs) w') (ho : Off (fun k => k = w.heap.size + 1 ∨ k = w.heap.size + 1 + 1) w' wf) (is : Bool) :
    DidW w0 w wf X g dg nn most t D L o (.returned (.agg #[.slice none 0 0, .bool is, .int .i64 e])) := by
  obtain ⟨h1, h2⟩ := h0.doesEnd (q := w.heap.size) (hc.less fun k hk => by
    rcases hk with hk | hk
    · exact hk
    · exact .inr (by omega)) hk ho
  exact ⟨none, 0, 0, is, e, [], D', L', w.heap.size, rfl, hd, rfl, Bytes.nil _ _, (fun p e => by cases e), Nat.le_refl _, h1, h2⟩
end
end Go.Proofs.Ytiemfhncadcemaa
/- cache: does: Pin. -/
namespace Go.Proofs.Ytiemfhncadcemaa
open Go.RowKit Dsk
section
variable {w0 w : World} {X : Nat → Prop} {g dg nn most t : Nat} {D : DS} {L : List Fr}
set_option maxRecDepth 20000 in
set_option maxHeartbeats 1000000 in
/-- One call, whose answer is an error alone. -/
theorem CS.does_pin (h : CS w0 w X g dg nn most t D L) {v0 v1 v2 v3 v4 : Value} {o : Ov} (hv : OpV w v0 v1 v2 v3 v4 o) (hk : o.kind = 2) (ht : t < 800000) :
    Calls Try.prog 13 #[.pointer (some ⟨g, 0, none⟩), .pointer (some ⟨dg, 0, none⟩), .agg #[v0, v1, v2, v3, v4]] w (fun en w' => DidW w0 w w' X g dg nn most t D L o en) := by
  obtain ⟨cs, hcs⟩ : ∃ cs : Array Value, #[v0, v1, v2, v3, v4] = cs := ⟨_, rfl⟩
  have hd := h.does0 cs
  have hz := Dz.new w cs
  obtain ⟨⟨e0, _, _⟩, ⟨e1, hs1, hs2⟩, ⟨A, c, e2, _⟩, ⟨K, d, e3, _⟩, ⟨e4, _, _⟩⟩ := hv
  have hcall : Calls Try.prog 19 #[.pointer (some ⟨g, 0, none⟩), .int .i64 o.s] (wD w cs) fun en w' => ∃ e D' L', en = .returned (.int .i64 e) ∧ Did o nn D L e [] D' L' ∧ CS w0 w' (YD w X) g dg nn most (t + 1025) D' L' ∧ Keep (YD w X) (wD w cs) w' := by
    by_cases hin : 0 ≤ o.s ∧ o.s < nn
    · obtain ⟨s, hs⟩ : ∃ s : Nat, o.s = s := ⟨o.s.toNat, by omega⟩
      rw [hs]
      refine (hd.pin (s := s) (by omega) (by omega)).mono ?_
      rintro en w' (⟨rfl, _, hc, hkp⟩ | ⟨D', L', y, rfl, hb, hc, hkp⟩)
      · exact ⟨3, D, L, rfl, Did.same (.inr (by omega)) (fun e => by omega) (by omega) (fun _ hk' => by omega), hc.mono (by omega), hkp⟩
      · obtain ⟨st', hw, _, hy, _⟩ := hb.sta h.st (by omega) h.pos
        exact ⟨0, D', _, rfl, ⟨fun j => by rw [if_neg (fun e => by omega), what_pin st'.nodup hy]; exact hw j, fun h' => by omega, fun h' => by omega, fun h' => by omega, fun h' => by omega, fun _ h' => by omega⟩, hc.mono (by omega), hkp⟩
    · refine (hd.pin_bad o.s (by omega)).mono ?_
      rintro en w' ⟨rfl, rfl⟩
      exact ⟨1, D, L, rfl, Did.same (.inr (by omega)) (fun e => by omega) (by omega) (fun _ hk' => by omega), hd.mono (by omega), ⟨Nat.le_refl _, fun _ _ => rfl⟩⟩
  have HC := Lib.hid hcall
  have HD := Lib.hid (And.intro h (And.intro hd hz))
  rw [hk] at e0
  generalize o.B.length = x at *
  generalize o.K.length = y at *
  generalize o.torn = tn at *
  clear hcall h hd hk
  subst e0 e1 e2 e3 e4
  subst hcs
  obtain ⟨s, hs⟩ : ∃ s, o.s = s := ⟨_, rfl⟩
  rw [hs] at HC hz ⊢
  clear hs
  go_enter Try.func13, Try.ntmps13
  go_wp2_with fail
  refine HC.out.mono ?_
  rintro en w' ⟨e, D', L', rfl, hdid, hc, hkp⟩
  obtain ⟨zo, zr, zx⟩ := hz.keep hkp
  have r0 := zr.cell 0
  have r1 := zr.cell 1
  have r2 := zr.cell 2
  have rf := zr.frozen
  have x0 := zx.cell 0
  have x1 := zx.cell 1
  have x2 := zx.cell 2
  have xf := zx.frozen
  have HZ := Lib.hid (And.intro zr zx)
  have HF := Lib.hid (And.intro hdid (And.intro hc hkp))
  clear zo zr zx hdid hc hkp hz HC
  go_wp2_with fail
  have HB6 := (((HZ.out.1.far (p := ⟨w.heap.size + 1 + 1, 2, none⟩) (by show w.heap.size + 1 ≠ w.heap.size + 1 + 1; omega) (.int .i64 e)).set_ 0 (.slice none 0 0)).set_ 1 (.bool false)).set_ 2 (.int .i64 e)
  refine bodyPost_ret (results_cell_row rfl _ _ (w.heap.size + 1) 39 _ (0, 0) _ rfl HB6 Try.underlying39 rfl (by kernel_rfl)) rfl ?_
  exact HD.out.1.doesNone HF.out.1 HF.out.2.1 HF.out.2.2 (offS (offS (offS (offS (Off.refl _ _) _ _ _ (.inr rfl)) _ _ _ (.inl rfl)) _ _ _ (.inl rfl)) _ _ _ (.inl rfl)) false
end
end Go.Proofs.Ytiemfhncadcemaa
/- cache: does: Unpin, Flush, Evict. -/
namespace Go.Proofs.Ytiemfhncadcemaa
open Go.RowKit Dsk
section
variable {w0 w : World} {X : Nat → Prop} {g dg nn most t : Nat} {D : DS} {L : List Fr}
set_option maxRecDepth 20000 in
set_option maxHeartbeats 1000000 in
/-- One call, whose answer is an error alone. -/
theorem CS.does_unpin (h : CS w0 w X g dg nn most t D L) {v0 v1 v2 v3 v4 : Value} {o : Ov} (hv : OpV w v0 v1 v2 v3 v4 o) (hk : o.kind = 3) :
    Calls Try.prog 13 #[.pointer (some ⟨g, 0, none⟩), .pointer (some ⟨dg, 0, none⟩), .agg #[v0, v1, v2, v3, v4]] w (fun en w' => DidW w0 w w' X g dg nn most t D L o en) := by
  obtain ⟨cs, hcs⟩ : ∃ cs : Array Value, #[v0, v1, v2, v3, v4] = cs := ⟨_, rfl⟩
  have hd := h.does0 cs
  have hz := Dz.new w cs
  obtain ⟨⟨e0, _, _⟩, ⟨e1, hs1, hs2⟩, ⟨A, c, e2, _⟩, ⟨K, d, e3, _⟩, ⟨e4, _, _⟩⟩ := hv
  have hcall : Calls Try.prog 23 #[.pointer (some ⟨g, 0, none⟩), .int .i64 o.s] (wD w cs) fun en w' => ∃ e D' L', en = .returned (.int .i64 e) ∧ Did o nn D L e [] D' L' ∧ CS w0 w' (YD w X) g dg nn most (t + 1025) D' L' ∧ Keep (YD w X) (wD w cs) w' := by
    by_cases hx : ∃ x ∈ L, (x.s : Int) = o.s ∧ x.pins ≠ 0
    · obtain ⟨x, hx, e, hp⟩ := hx
      rw [← e]
      refine (hd.unpin hx (p := x.pins - 1) (by omega)).mono ?_
      rintro en w' ⟨rfl, hc, hkp⟩
      exact ⟨0, D, _, rfl, ⟨fun j => by rw [if_neg (fun e => by omega), what_pin h.st.nodup hx], fun h' => by omega, fun h' => by omega, fun h' => by omega, fun h' => by omega, fun _ h' => by omega⟩, hc.mono (by omega), hkp⟩
    · refine (hd.unpin_none (WalkArith.wf_i64 (by omega)) (fun x hx' e => by
        by_cases hp : x.pins = 0
        · exact hp
        · exact absurd ⟨x, hx', e, hp⟩ hx)).mono ?_
      rintro en w' ⟨rfl, rfl⟩
      exact ⟨7, D, L, rfl, Did.same (.inr (by omega)) (fun e => by omega) (by omega) (fun _ hk' => by omega), hd.mono (by omega), ⟨Nat.le_refl _, fun _ _ => rfl⟩⟩
  have HC := Lib.hid hcall
  have HD := Lib.hid (And.intro h (And.intro hd hz))
  rw [hk] at e0
  generalize o.B.length = x at *
  generalize o.K.length = y at *
  generalize o.torn = tn at *
  clear hcall h hd hk
  subst e0 e1 e2 e3 e4
  subst hcs
  obtain ⟨s, hs⟩ : ∃ s, o.s = s := ⟨_, rfl⟩
  rw [hs] at HC hz ⊢
  clear hs
  go_enter Try.func13, Try.ntmps13
  go_wp2_with fail
  refine HC.out.mono ?_
  rintro en w' ⟨e, D', L', rfl, hdid, hc, hkp⟩
  obtain ⟨zo, zr, zx⟩ := hz.keep hkp
  have r0 := zr.cell 0
  have r1 := zr.cell 1
  have r2 := zr.cell 2
  have rf := zr.frozen
  have x0 := zx.cell 0
  have x1 := zx.cell 1
  have x2 := zx.cell 2
  have xf := zx.frozen
  have HZ := Lib.hid (And.intro zr zx)
  have HF := Lib.hid (And.intro hdid (And.intro hc hkp))
  clear zo zr zx hdid hc hkp hz HC
  go_wp2_with fail
  have HB6 := (((HZ.out.1.far (p := ⟨w.heap.size + 1 + 1, 2, none⟩) (by show w.heap.size + 1 ≠ w.heap.size + 1 + 1; omega) (.int .i64 e)).set_ 0 (.slice none 0 0)).set_ 1 (.bool false)).set_ 2 (.int .i64 e)
  refine bodyPost_ret (results_cell_row rfl _ _ (w.heap.size + 1) 39 _ (0, 0) _ rfl HB6 Try.underlying39 rfl (by kernel_rfl)) rfl ?_
  exact HD.out.1.doesNone HF.out.1 HF.out.2.1 HF.out.2.2 (offS (offS (offS (offS (Off.refl _ _) _ _ _ (.inr rfl)) _ _ _ (.inl rfl)) _ _ _ (.inl rfl)) _ _ _ (.inl rfl)) false
set_option maxRecDepth 20000 in
set_option maxHeartbeats 1000000 in
/-- One call, whose answer is an error alone. -/
theorem CS.does_flush (h : CS w0 w X g dg nn most t D L) {v0 v1 v2 v3 v4 : Value} {o : Ov} (hv : OpV w v0 v1 v2 v3 v4 o) (hk : o.kind = 6) (ht : t < 800000) :
    Calls Try.prog 13 #[.pointer (some ⟨g, 0, none⟩), .pointer (some ⟨dg, 0, none⟩), .agg #[v0, v1, v2, v3, v4]] w (fun en w' => DidW w0 w w' X g dg nn most t D L o en) := by
  obtain ⟨cs, hcs⟩ : ∃ cs : Array Value, #[v0, v1, v2, v3, v4] = cs := ⟨_, rfl⟩
  have hd := h.does0 cs
  have hz := Dz.new w cs
  obtain ⟨⟨e0, _, _⟩, ⟨e1, hs1, hs2⟩, ⟨A, c, e2, _⟩, ⟨K, d, e3, _⟩, ⟨e4, _, _⟩⟩ := hv
  have hcall : Calls Try.prog 17 #[.pointer (some ⟨g, 0, none⟩)] (wD w cs) fun en w' => ∃ e D' L', en = .returned (.int .i64 e) ∧ Did o nn D L e [] D' L' ∧ CS w0 w' (YD w X) g dg nn most (t + 1025) D' L' ∧ Keep (YD w X) (wD w cs) w' := by
    refine (hd.flush (by omega)).mono ?_
    rintro en w' ⟨D', L', rfl, h1, h2, h3, h4, hc, hkp⟩
    exact ⟨0, D', L', rfl, ⟨fun j => by rw [if_neg (fun e => by omega)]; exact h3 j, fun h' => by omega, fun h' => by omega, fun h' => by omega, fun _ => ⟨rfl, h2, fun j => by rw [h4, h3]⟩, fun hp _ => ⟨fun x hx => by
      have hm : key x ∈ L.map key := by rw [← h1]; exact List.mem_map.2 ⟨x, hx, rfl⟩
      obtain ⟨z, hz, e⟩ := List.mem_map.1 hm
      have e2 : z.pins = x.pins := congrArg Prod.snd e
      rw [← e2]; exact hp z hz, by rw [if_neg (by omega), if_neg (by omega)]⟩⟩, hc, hkp⟩
  have HC := Lib.hid hcall
  have HD := Lib.hid (And.intro h (And.intro hd hz))
  rw [hk] at e0
  generalize o.B.length = x at *
  generalize o.K.length = y at *
  generalize o.torn = tn at *
  clear hcall h hd hk
  subst e0 e1 e2 e3 e4
  subst hcs
  obtain ⟨s, hs⟩ : ∃ s, o.s = s := ⟨_, rfl⟩
  rw [hs] at HC hz ⊢
  clear hs
  go_enter Try.func13, Try.ntmps13
  go_wp2_with fail
  refine HC.out.mono ?_
  rintro en w' ⟨e, D', L', rfl, hdid, hc, hkp⟩
  obtain ⟨zo, zr, zx⟩ := hz.keep hkp
  have r0 := zr.cell 0
  have r1 := zr.cell 1
  have r2 := zr.cell 2
  have rf := zr.frozen
  have x0 := zx.cell 0
  have x1 := zx.cell 1
  have x2 := zx.cell 2
  have xf := zx.frozen
  have HZ := Lib.hid (And.intro zr zx)
  have HF := Lib.hid (And.intro hdid (And.intro hc hkp))
  clear zo zr zx hdid hc hkp hz HC
  go_wp2_with fail
  have HB6 := (((HZ.out.1.far (p := ⟨w.heap.size + 1 + 1, 2, none⟩) (by show w.heap.size + 1 ≠ w.heap.size + 1 + 1; omega) (.int .i64 e)).set_ 0 (.slice none 0 0)).set_ 1 (.bool false)).set_ 2 (.int .i64 e)
  refine bodyPost_ret (results_cell_row rfl _ _ (w.heap.size + 1) 39 _ (0, 0) _ rfl HB6 Try.underlying39 rfl (by kernel_rfl)) rfl ?_
  exact HD.out.1.doesNone HF.out.1 HF.out.2.1 HF.out.2.2 (offS (offS (offS (offS (Off.refl _ _) _ _ _ (.inr rfl)) _ _ _ (.inl rfl)) _ _ _ (.inl rfl)) _ _ _ (.inl rfl)) false
set_option maxRecDepth 20000 in
set_option maxHeartbeats 1000000 in
/-- One call, whose answer is an error alone. -/
theorem CS.does_evict (h : CS w0 w X g dg nn most t D L) {v0 v1 v2 v3 v4 : Value} {o : Ov} (hv : OpV w v0 v1 v2 v3 v4 o) (hk : o.kind = 4) (ht : t < 800000) :
    Calls Try.prog 13 #[.pointer (some ⟨g, 0, none⟩), .pointer (some ⟨dg, 0, none⟩), .agg #[v0, v1, v2, v3, v4]] w (fun en w' => DidW w0 w w' X g dg nn most t D L o en) := by
  obtain ⟨cs, hcs⟩ : ∃ cs : Array Value, #[v0, v1, v2, v3, v4] = cs := ⟨_, rfl⟩
  have hd := h.does0 cs
  have hz := Dz.new w cs
  obtain ⟨⟨e0, _, _⟩, ⟨e1, hs1, hs2⟩, ⟨A, c, e2, _⟩, ⟨K, d, e3, _⟩, ⟨e4, _, _⟩⟩ := hv
  have hcall : Calls Try.prog 21 #[.pointer (some ⟨g, 0, none⟩), .int .i64 o.s] (wD w cs) fun en w' => ∃ is D' L', en = .returned (.tuple #[.bool is, .int .i64 0]) ∧ Did o nn D L 0 [] D' L' ∧ CS w0 w' (YD w X) g dg nn most (t + 1025) D' L' ∧ Keep (YD w X) (wD w cs) w' := by
    by_cases hx : o.s < 0 ∨ L = []
    · refine (hd.evict_none o.s hx).mono ?_
      rintro en w' ⟨rfl, rfl⟩
      exact ⟨false, D, L, rfl, Did.same (.inl (by omega)) (fun e => by omega) (by omega) (fun _ hk' => by rw [if_neg (by omega), if_neg (by omega)]), hd.mono (by omega), ⟨Nat.le_refl _, fun _ _ => rfl⟩⟩
    · refine (hd.evict o.s ⟨by omega, hs2⟩ (fun e => hx (.inr e)) (by omega)).mono ?_
      rintro en w' ⟨x, hx', ⟨_, rfl, hc, hkp⟩ | ⟨_, rfl, hc, hkp⟩⟩
      · exact ⟨false, D, L, rfl, Did.same (.inl (by omega)) (fun e => by omega) (by omega) (fun _ hk' => by rw [if_neg (by omega), if_neg (by omega)]), hc.mono (by omega), hkp⟩
      · exact ⟨true, _, _, rfl, ⟨fun j => by rw [if_neg (fun e => by omega)]; exact what_out h.st hx' j, fun h' => by omega, fun h' => by omega, fun h' => by omega, fun h' => by omega, fun hp _ => ⟨fun z hz => hp z (delL_mem.1 hz).1, by rw [if_neg (by omega), if_neg (by omega)]⟩⟩, hc.mono (by omega), hkp⟩
  have HC := Lib.hid hcall
  have HD := Lib.hid (And.intro h (And.intro hd hz))
  rw [hk] at e0
  generalize o.B.length = x at *
  generalize o.K.length = y at *
  generalize o.torn = tn at *
  clear hcall h hd hk
  subst e0 e1 e2 e3 e4
  subst hcs
  obtain ⟨s, hs⟩ : ∃ s, o.s = s := ⟨_, rfl⟩
  rw [hs] at HC hz ⊢
  clear hs
  go_enter Try.func13, Try.ntmps13
  go_wp2_with fail
  refine HC.out.mono ?_
  rintro en w' ⟨is, D', L', rfl, hdid, hc, hkp⟩
  obtain ⟨zo, zr, zx⟩ := hz.keep hkp
  have r0 := zr.cell 0
  have r1 := zr.cell 1
  have r2 := zr.cell 2
  have rf := zr.frozen
  have x0 := zx.cell 0
  have x1 := zx.cell 1
  have x2 := zx.cell 2
  have xf := zx.frozen
  have HZ := Lib.hid (And.intro zr zx)
  have HF := Lib.hid (And.intro hdid (And.intro hc hkp))
  clear zo zr zx hdid hc hkp hz HC
  go_wp2_with fail
  have HB6 := ((((HZ.out.1.far (p := ⟨w.heap.size + 1 + 1, 1, none⟩) (by show w.heap.size + 1 ≠ w.heap.size + 1 + 1; omega) (.bool is)).far (p := ⟨w.heap.size + 1 + 1, 2, none⟩) (by show w.heap.size + 1 ≠ w.heap.size + 1 + 1; omega) (.int .i64 0)).set_ 0 (.slice none 0 0)).set_ 1 (.bool is)).set_ 2 (.int .i64 0)
  refine bodyPost_ret (results_cell_row rfl _ _ (w.heap.size + 1) 39 _ (0, 0) _ rfl HB6 Try.underlying39 rfl (by kernel_rfl)) rfl ?_
  exact HD.out.1.doesNone HF.out.1 HF.out.2.1 HF.out.2.2 (offS (offS (offS (offS (offS (Off.refl _ _) _ _ _ (.inr rfl)) _ _ _ (.inr rfl)) _ _ _ (.inl rfl)) _ _ _ (.inl rfl)) _ _ _ (.inl rfl)) is
set_option maxRecDepth 20000 in
set_option maxHeartbeats 1000000 in
/-- One call, whose answer is an error alone. -/
theorem CS.does_other (h : CS w0 w X g dg nn most t D L) {v0 v1 v2 v3 v4 : Value} {o : Ov} (hv : OpV w v0 v1 v2 v3 v4 o) (hk : o.kind < 0 ∨ 8 < o.kind) :
    Calls Try.prog 13 #[.pointer (some ⟨g, 0, none⟩), .pointer (some ⟨dg, 0, none⟩), .agg #[v0, v1, v2, v3, v4]] w (fun en w' => DidW w0 w w' X g dg nn most t D L o en) := by
  obtain ⟨cs, hcs⟩ : ∃ cs : Array Value, #[v0, v1, v2, v3, v4] = cs := ⟨_, rfl⟩
  have hd := h.does0 cs
  have hz := Dz.new w cs
  obtain ⟨⟨e0, _, _⟩, ⟨e1, hs1, hs2⟩, ⟨A, c, e2, _⟩, ⟨K, d, e3, _⟩, ⟨e4, _, _⟩⟩ := hv
  have hdid : Did o nn D L 0 [] D L := Did.same (.inl (by omega)) (fun e => by omega) (by omega) (fun _ hk' => by omega)
  have HD := Lib.hid (And.intro h (And.intro hd (And.intro hz hdid)))
  generalize o.B.length = x at *
  generalize o.K.length = y at *
  generalize o.torn = tn at *
  clear h hd hdid
  subst e0 e1 e2 e3 e4
  subst hcs
  obtain ⟨kk, hkk⟩ : ∃ kk, o.kind = kk := ⟨_, rfl⟩
  obtain ⟨s, hs⟩ : ∃ s, o.s = s := ⟨_, rfl⟩
  rw [hs, hkk] at hz ⊢
  rw [hkk] at hk
  have d0 : (kk == 0) = false := by simp; omega
  have d1 : (kk == 1) = false := by simp; omega
  have d2 : (kk == 2) = false := by simp; omega
  have d3 : (kk == 3) = false := by simp; omega
  have d4 : (kk == 4) = false := by simp; omega
  have d5 : (kk == 5) = false := by simp; omega
  have d6 : (kk == 6) = false := by simp; omega
  have d7 : (kk == 7) = false := by simp; omega
  have d8 : (kk == 8) = false := by simp; omega
  have HZ := Lib.hid (And.intro hz.r hz.x)
  obtain ⟨zo, zr, zx⟩ := hz
  have HKK := Lib.hid (And.intro hkk hs)
  clear hkk hs hk zo zr zx
  go_enter Try.func13, Try.ntmps13
  go_wp2_with fail
  have HB6 := HZ.out.1
  refine bodyPost_ret (results_cell_row rfl _ _ (w.heap.size + 1) 39 _ (0, 0) _ rfl HB6 Try.underlying39 rfl (by kernel_rfl)) rfl ?_
  obtain ⟨rfl, rfl⟩ := HKK.out
  exact HD.out.1.doesNone HD.out.2.2.2 (HD.out.2.1.mono (by omega)) ⟨Nat.le_refl _, fun _ _ => rfl⟩ (Off.refl _ _) false
end
end Go.Proofs.Ytiemfhncadcemaa
/- cache: does: Read, Write. -/
namespace Go.Proofs.Ytiemfhncadcemaa
open Go.RowKit Dsk
theorem Bytes.off {w w' : World} {G : Nat → Prop} {A : Option Addr} {bs : List UInt8} (h : Bytes w A bs) (ho : Off G w w') (hA : ∀ p : Addr, A = some p → ¬ G p.block) : Bytes w' A bs := h.same ho.size fun p e hp => ho.block _ hp (hA p e)
theorem off3 (w : World) (g i1 i2 i3 : Nat) (v1 v2 v3 : Value) : Off (fun k => k = g) w (((w.setCell ⟨g, i1, none⟩ v1).setCell ⟨g, i2, none⟩ v2).setCell ⟨g, i3, none⟩ v3) := offS (offS (Off.setc _ _ _ _) _ _ _ rfl) _ _ _ rfl
/-- Between the rounds of the loop that turns what was handed out. -/
structure LpI (w0 w wr : World) (X Z : Nat → Prop) (g dg nn most t : Nat) (D : DS) (L : List Fr) (q len : Nat) (xs : Array Value) (A : Option Addr) (bs : List UInt8) : Prop where
  r : Blk wr (w.heap.size + 1) 39 #[.slice none 0 0, .bool false, .int .i64 0]
  x : Blk wr (w.heap.size + 1 + 1) 39 xs
  mu : 0 < len → Mut wr q len
  by_ : Bytes wr A bs
  cs : CS w0 wr Z g dg nn most t D L
  keep : Keep X w wr
theorem LpI.start {w0 w w2 w5 : World} {X Z : Nat → Prop} {g dg nn most t : Nat} {D : DS} {L : List Fr} {q len : Nat} {xs ys cs : Array Value} {A : Option Addr} {bs : List UInt8} (h0 : w0.heap.size ≤ w.heap.size) (hX : ∀ k, X k → k < w.heap.size) (hz : Dz w w2 cs ys) (hc : CS w0 w2 Z g dg nn most t D L) (hk : Keep X w w2)
    (hmu : 0 < len → Mut w2 q len) (hq : 0 < len → w.heap.size + 3 ≤ q) (hby : Bytes w2 A bs) (hA : ∀ p : Addr, A = some p → w.heap.size + 3 ≤ p.block) (hZ : Z (w.heap.size + 1 + 1)) (ho : Off (fun k => k = w.heap.size + 1 + 1) w2 w5) (hx : Blk w5 (w.heap.size + 1 + 1) 39 xs) : LpI w0 w w5 X Z g dg nn most t D L q len xs A bs :=
  ⟨hz.r.same (ho.block _ hz.r.lt (by show ¬ (w.heap.size + 1 = w.heap.size + 1 + 1); omega)), hx, fun hl => (hmu hl).same ho.size (ho.block _ (hmu hl).lt (fun e => by have e' : q = w.heap.size + 1 + 1 := e; have := hq hl; omega)), hby.off ho (fun p e e' => by have e'' : p.block = w.heap.size + 1 + 1 := e'; have := hA p e; omega),
    hc.turnX ho (fun k e => by have e' : k = w.heap.size + 1 + 1 := e; rw [e']; exact ⟨hZ, by omega⟩), hk.trans ⟨ho.size, fun k hk' => ho.block k (Nat.lt_of_lt_of_le (hX k hk') hk.size) (fun e => by have e' : k = w.heap.size + 1 + 1 := e; have := hX k hk'; omega)⟩⟩
/-- The end. -/
theorem LpI.fin {w0 w wr wf : World} {X Z : Nat → Prop} {g dg nn most t0 : Nat} {D D0 : DS} {L L0 : List Fr} {q len n2 c2 q2 : Nat} {xs : Array Value} {A : Option Addr} {bs : List UInt8} {o : Ov} {e : Int} (h : LpI w0 w wr X Z g dg nn most (t0 + 1025) D L q len xs A bs) (h0 : w0.heap.size ≤ w.heap.size) (hX : ∀ k, X k → k < w.heap.size)
    (ho : Off (fun k => k = w.heap.size + 1) wr wf) (hd : Did o nn D0 L0 e bs D L) (hl : bs.length = n2) (hA : ∀ p : Addr, A = some p → p.block = q2 ∧ w.heap.size + 3 ≤ p.block) (hq2 : w.heap.size ≤ q2) (hZ2 : Z q2) (hZX : ∀ k, X k → Z k) (hZr : Z (w.heap.size + 1)) (is : Bool) :
    DidW w0 w wf X g dg nn most t0 D0 L0 o (.returned (.agg #[.slice A n2 c2, .bool is, .int .i64 e])) :=
  ⟨A, n2, c2, is, e, bs, D, L, q2, rfl, hd, hl, h.by_.off ho (fun p e e' => by have e'' : p.block = w.heap.size + 1 := e'; have := (hA p e).2; omega), fun p e => (hA p e).1, hq2,
    (h.cs.turnX ho (fun k e => by have e' : k = w.heap.size + 1 := e; rw [e']; exact ⟨hZr, by omega⟩)).less (fun k hk => by rcases hk with hk | hk; exact hZX k hk; rw [hk]; exact hZ2),
    h.keep.trans ⟨ho.size, fun k hk' => ho.block k (Nat.lt_of_lt_of_le (hX k hk') h.keep.size) (fun e => by have e' : k = w.heap.size + 1 := e; have := hX k hk'; omega)⟩⟩
theorem LpI.step {w0 w wr : World} {X Z : Nat → Prop} {g dg nn most t : Nat} {D : DS} {L : List Fr} {q len : Nat} {xs : Array Value} {A : Option Addr} {bs : List UInt8} (h : LpI w0 w wr X Z g dg nn most t D L q len xs A bs)
    (hq : w.heap.size + 3 ≤ q) (hZ : Z q) (hA : ∀ p : Addr, A = some p → p.block ≠ q) (hw : w0.heap.size ≤ w.heap.size) (hX : ∀ k, X k → k < w.heap.size) (hl : 0 < len) (i : Nat) (c : UInt8) : LpI w0 w (wr.setCell ⟨q, i, none⟩ (bv c)) X Z g dg nn most t D L q len xs A bs := by
  have ho : Off (fun k => k = q) wr (wr.setCell ⟨q, i, none⟩ (bv c)) := Off.setc _ _ _ _
  exact ⟨h.r.far (p := ⟨q, i, none⟩) (by show w.heap.size + 1 ≠ q; omega) _, h.x.far (p := ⟨q, i, none⟩) (by show w.heap.size + 1 + 1 ≠ q; omega) _, fun _ => (h.mu hl).set_ i c, h.by_.off ho (fun p e => hA p e),
    h.cs.turnX ho (fun k e => by have e' : k = q := e; rw [e']; exact ⟨hZ, by omega⟩), h.keep.trans ⟨ho.size, fun k hk => Below.heap_setCell _ _ _ _ (fun e => by have e' : k = q := e; have := hX k hk; omega)⟩⟩
section
variable {w0 w : World} {X : Nat → Prop} {g dg nn most t : Nat} {D : DS} {L : List Fr}
set_option maxRecDepth 20000 in
set_option maxHeartbeats 2000000 in
theorem CS.does_read (h : CS w0 w X g dg nn most t D L) {v0 v1 v2 v3 v4 : Value} {o : Ov} (hv : OpV w v0 v1 v2 v3 v4 o) (hk : o.kind = 0) (ht : t < 800000) :
    Calls Try.prog 13 #[.pointer (some ⟨g, 0, none⟩), .pointer (some ⟨dg, 0, none⟩), .agg #[v0, v1, v2, v3, v4]] w (fun en w' => DidW w0 w w' X g dg nn most t D L o en) := by
  obtain ⟨cs, hcs⟩ : ∃ cs : Array Value, #[v0, v1, v2, v3, v4] = cs := ⟨_, rfl⟩
  have hd := h.does0 cs
  have hz := Dz.new w cs
  obtain ⟨⟨e0, _, _⟩, ⟨e1, hs1, hs2⟩, ⟨A, c, e2, _⟩, ⟨K, d, e3, _⟩, ⟨e4, _, _⟩⟩ := hv
  have hcall : Calls Try.prog 20 #[.pointer (some ⟨g, 0, none⟩), .int .i64 o.s] (wD w cs) fun en w' => ∃ A len c e bs D' L' q, en = .returned (.tuple #[.slice A len c, .int .i64 e]) ∧ Did o nn D L e bs D' L' ∧ (bs.length = len ∧ len ≤ c ∧ len ≤ 256 ∧ c ≤ maxLen) ∧ Bytes w' A bs ∧ (0 < len → (w.heap.size + 3 ≤ q ∧ A = some ⟨q, 0, none⟩ ∧ Mut w' q len)) ∧ w.heap.size ≤ q ∧ CS w0 w' (fun k => YD w X k ∨ k = q) g dg nn most (t + 1025) D' L' ∧ Keep (YD w X) (wD w cs) w' := by
    have hno : CS w0 (wD w cs) (YD w X) g dg nn most t D L → CS w0 (wD w cs) (fun k => YD w X k ∨ k = w.heap.size) g dg nn most (t + 1025) D L := fun hc => (hc.less fun k hk => by
      rcases hk with hk | hk
      · exact hk
      · exact .inr (by omega)).mono (by omega)
    by_cases hin : 0 ≤ o.s ∧ o.s < nn
    · obtain ⟨s, hs⟩ : ∃ s : Nat, o.s = s := ⟨o.s.toNat, by omega⟩
      rw [hs]
      refine (hd.read (s := s) (by omega) (by omega)).mono ?_
      rintro en w' (⟨rfl, hst, hc, hkp⟩ | ⟨D', L', y, q, c, rfl, hb, hrw, hq, hc, hkp⟩)
      · refine ⟨none, 0, 0, 3, [], D, L, w.heap.size, rfl, Did.same (.inr (by omega)) (fun e => by omega) (by omega) (fun hp _ => ?_), ⟨rfl, Nat.le_refl _, by omega, Nat.zero_le _⟩, Bytes.nil _ _, (fun h0 => by omega), Nat.le_refl _, (hc.less fun k hk => by
          rcases hk with hk | hk
          · exact hk
          · exact .inr (by omega)).mono (by omega), hkp⟩
        exfalso
        have h1 := hst.1.1
        have h2 := h.pos
        match L, h1, hp, hst.1.2 with
        | [], h1, _, _ => simp at h1; omega
        | x :: _, _, hp, hs => exact hs x (by simp) (hp x (by simp))
      · obtain ⟨st', hw, hyb, hy, _⟩ := hb.sta h.st (by omega) h.pos
        rw [wD_size] at hq
        refine ⟨some ⟨q, 0, none⟩, 256, c, 0, y.b, D', L', q, rfl, ⟨fun j => by rw [if_neg (fun e => by omega)]; exact hw j, fun _ _ => hin, fun h' => by omega, fun _ _ => by rw [hyb, hs, Int.toNat_natCast], fun h' => by omega, fun hp _ => ⟨fun x hx => ?_, by rw [if_pos hk, if_pos hin]⟩⟩, ⟨hrw.long, hrw.le, Nat.le_refl _, hrw.max⟩, hrw.bytes, fun _ => ⟨hq, rfl, hrw.mut⟩, by omega, hc.mono (by omega), hkp⟩
        rcases hb with ⟨z, hz, _, ey, _, rfl⟩ | ⟨_, L1, hr, ey, rfl⟩
        · rcases updL_mem hx with ⟨rfl, _⟩ | ⟨hx, _⟩
          · rw [ey]; exact hp z hz
          · exact hp x hx
        · rcases List.mem_append.1 hx with hx | hx
          · exact hp x (hr.sub x hx)
          · rw [List.mem_singleton.1 hx, ey]
    · refine (hd.read_bad o.s (by omega)).mono ?_
      rintro en w' ⟨rfl, rfl⟩
      exact ⟨none, 0, 0, 1, [], D, L, w.heap.size, rfl, Did.same (.inr (by omega)) (fun e => by omega) (by omega) (fun _ _ => by rw [if_pos hk, if_neg hin]), ⟨rfl, Nat.le_refl _, by omega, Nat.zero_le _⟩, Bytes.nil _ _, (fun h0 => by omega), Nat.le_refl _, hno hd, ⟨Nat.le_refl _, fun _ _ => rfl⟩⟩
  have HC := Lib.hid hcall
  have HD := Lib.hid (And.intro h (And.intro hd hz))
  rw [hk] at e0
  generalize o.B.length = x at *
  generalize o.K.length = y at *
  generalize o.torn = tn at *
  clear hcall h hd hk
  subst e0 e1 e2 e3 e4
  subst hcs
  obtain ⟨s, hs⟩ : ∃ s, o.s = s := ⟨_, rfl⟩
  rw [hs] at HC hz HD ⊢
  clear hs
  go_enter Try.func13, Try.ntmps13
  go_wp2_with fail
  refine HC.out.mono ?_
  rintro en w1 ⟨A1, len, c1, e, bs, D', L', q, rfl, hdid, ⟨hl1, hl2, hl3, hl4⟩, hby, hmu, hq, hc, hkp⟩
  have HT := Lib.hid (twin_any A1 len c1 bs w1 hl1 (by omega) hby)
  have HF := Lib.hid (And.intro hdid (And.intro hmu (And.intro hq (And.intro hc (And.intro hkp (hz.keep hkp))))))
  clear hdid hl1 hby hmu hq hc hkp hz HC hs1 hs2
  go_wp2_with fail
  refine HT.out.mono ?_
  rintro en w2 ⟨A2, c2, rfl, ho, hb2⟩
  have hz2 := HF.out.2.2.2.2.2.below hb2
  have x0 := hz2.x.cell 0
  have x1 := hz2.x.cell 1
  have x2 := hz2.x.cell 2
  have xf := hz2.x.frozen
  have hw1 : (wD w #[.int .i64 0, .int .i64 s, .slice A x c, .slice K y d, .int .i64 tn]).heap.size = w.heap.size + 3 := wD_size w _
  have hk1 := HF.out.2.2.2.2.1.size
  rw [hw1] at hk1
  obtain ⟨q2, hq2a, hq2b, hq2c⟩ : ∃ q2, (∀ p : Addr, A2 = some p → p.block = q2 ∧ w.heap.size + 3 ≤ p.block) ∧ w.heap.size ≤ q2 ∧ ((YD w X q2 ∨ q2 = q) ∨ (w1.heap.size ≤ q2 ∧ q2 < w2.heap.size)) := by
    cases hA2 : A2 with
    | none => exact ⟨w.heap.size, (fun p e => by cases e), Nat.le_refl _, .inl (.inl (.inr ⟨Nat.le_refl _, by omega⟩))⟩
    | some a =>
      have h9 := ho.blk a hA2
      exact ⟨a.block, (fun p e => by cases e; exact ⟨rfl, by omega⟩), by omega, .inr h9⟩
  have hS : LpI w0 w (((w2.setCell ⟨w.heap.size + 1 + 1, 0, none⟩ (.slice A2 len c2)).setCell ⟨w.heap.size + 1 + 1, 1, none⟩ (.bool false)).setCell ⟨w.heap.size + 1 + 1, 2, none⟩ (.int .i64 e)) X (fun k => (YD w X k ∨ k = q) ∨ (w1.heap.size ≤ k ∧ k < w2.heap.size)) g dg nn most (t + 1025) D' L' q len #[.slice A2 len c2, .bool false, .int .i64 e] A2 bs :=
    LpI.start HD.out.1.bel.size HD.out.1.lt hz2 (HF.out.2.2.2.1.more hb2 _ fun k hk => hk) ⟨by have := hb2.size; omega, fun k hk => (hb2.block k (by have := HD.out.1.lt k hk; omega)).trans ((HF.out.2.2.2.2.1.at_ k (.inl hk)).trans ((wD_below w _).block k (HD.out.1.lt k hk)))⟩
      (fun h0 => (HF.out.2.1 h0).2.2.same hb2.size (hb2.block _ (HF.out.2.1 h0).2.2.lt)) (fun h0 => (HF.out.2.1 h0).1) ho.bytes (fun p e => (hq2a p e).2) (.inl (.inl (.inr ⟨by omega, by omega⟩))) (off3 _ _ _ _ _ _ _ _) (((hz2.x.set_ 0 _).set_ 1 _).set_ 2 _)
  have HS := Lib.hid hS
  have HA1 : Hid (0 < len → A1 = some ⟨q, 0, none⟩) := Lib.hid (fun h0 => (HF.out.2.1 h0).2.1)
  have HNE : Hid (0 < len → ∀ p : Addr, A2 = some p → p.block ≠ q) := Lib.hid (fun h0 p e => by have h9 := (ho.blk p e).1; have := (HF.out.2.1 h0).2.2.lt; omega)
  have HG := Lib.hid (And.intro HF.out.1 (And.intro ho.long (And.intro hq2a (And.intro hq2b (And.intro hq2c (And.intro HF.out.2.1 HD.out.1))))))
  clear hS ho hb2 hz2 hq2a hq2b hq2c hw1 hk1 HF HD HT
  go_wp2_with fail
  go_loopw [10] (fun iv wr => ∃ i : Nat, i ≤ len ∧ iv = .int .i64 (i : Int) ∧ Hid (LpI w0 w wr X (fun k => (YD w X k ∨ k = q) ∨ (w1.heap.size ≤ k ∧ k < w2.heap.size)) g dg nn most (t + 1025) D' L' q len #[.slice A2 len c2, .bool false, .int .i64 e] A2 bs)) (fun iv _ => len - (intOf iv).toNat)
  case atStart => exact ⟨0, Nat.zero_le _, rfl, HS⟩
  case round =>
    clear HS x0 x1 x2 xf
    obtain ⟨i, hi, rfl, hI⟩ := hrel
    by_cases hlt : i < len
    · have hd : decide ((i : Int) < (len : Int)) = true := by simpa using hlt
      have hA := HA1.out (by omega)
      subst hA
      have hmu := hI.out.mu (by omega)
      obtain ⟨b, hcb⟩ := hmu.cell i hlt
      have hfb := hmu.free i hlt
      have HI2 := Lib.hid (hI.out.step (HG.out.2.2.2.2.2.1 (by omega)).1 (.inl (.inr rfl)) (fun p e => HNE.out (by omega) p e) HG.out.2.2.2.2.2.2.bel.size HG.out.2.2.2.2.2.2.lt (by omega) i 85)
      unfold bv at hcb
      clear hmu hI
      go_wp2_with fail
      go_roundw
      case rel => exact ⟨i + 1, by omega, by go_num, HI2⟩
      case measure => simp [intOf]; omega
    · obtain rfl : len = i := by omega
      have hd : decide ((len : Int) < (len : Int)) = false := by simp
      have r0 := hI.out.r.cell 0
      have r1 := hI.out.r.cell 1
      have r2 := hI.out.r.cell 2
      have rf := hI.out.r.frozen
      have y0 := hI.out.x.cell 0
      have y1 := hI.out.x.cell 1
      have y2 := hI.out.x.cell 2
      have HI := Lib.hid hI.out
      clear hI
      go_wp2_with fail
      have HB6 := ((HI.out.r.set_ 0 (.slice A2 len c2)).set_ 1 (.bool false)).set_ 2 (.int .i64 e)
      refine bodyPost_ret (results_cell_row rfl _ _ (w.heap.size + 1) 39 _ (0, 0) _ rfl HB6 Try.underlying39 rfl (by kernel_rfl)) rfl ?_
      obtain ⟨g1, g2, g3, g4, g5, g6, g7⟩ := HG.out
      exact HI.out.fin g7.bel.size g7.lt (off3 _ _ _ _ _ _ _ _) g1 g2 g3 g4 g5 (fun k hk => .inl (.inl (.inl hk))) (.inl (.inl (.inr ⟨by omega, by omega⟩))) false
set_option maxRecDepth 20000 in
set_option maxHeartbeats 2000000 in
theorem CS.does_write (h : CS w0 w X g dg nn most t D L) {v0 v1 v2 v3 v4 : Value} {o : Ov} (hv : OpV w v0 v1 v2 v3 v4 o) (hk : o.kind = 1) (ht : t < 800000) (hB : o.B.length ≤ 1024) :
    Calls Try.prog 13 #[.pointer (some ⟨g, 0, none⟩), .pointer (some ⟨dg, 0, none⟩), .agg #[v0, v1, v2, v3, v4]] w (fun en w' => DidW w0 w w' X g dg nn most t D L o en) := by
  obtain ⟨cs, hcs⟩ : ∃ cs : Array Value, #[v0, v1, v2, v3, v4] = cs := ⟨_, rfl⟩
  have hd := h.does0 cs
  have hz := Dz.new w cs
  obtain ⟨⟨e0, _, _⟩, ⟨e1, hs1, hs2⟩, ⟨A, c, e2, _, _, hby⟩, ⟨K, d, e3, _⟩, ⟨e4, _, _⟩⟩ := hv
  have HT := Lib.hid (twin_any A o.B.length c o.B (wD w cs) rfl (by omega) (hby.below (wD_below w cs)))
  have hcall : ∀ w1 A2 c2, Below (wD w cs).heap.size (wD w cs) w1 → Own8 w1 (wD w cs).heap.size A2 o.B.length c2 o.B → Calls Try.prog 24 #[.pointer (some ⟨g, 0, none⟩), .int .i64 o.s, .slice A2 o.B.length c2] w1 fun en w' => ∃ e D' L', en = .returned (.int .i64 e) ∧ Did o nn D L e [] D' L' ∧ CS w0 w' (fun k => YD w X k ∨ ((wD w cs).heap.size ≤ k ∧ k < w1.heap.size)) g dg nn most (t + 1025) D' L' ∧ Keep (fun k => YD w X k ∨ ((wD w cs).heap.size ≤ k ∧ k < w1.heap.size)) w1 w' := by
    intro w1 A2 c2 hb ho
    have h1 := hd.more hb (fun k => YD w X k ∨ ((wD w cs).heap.size ≤ k ∧ k < w1.heap.size)) (fun k hk => hk)
    by_cases hin : 0 ≤ o.s ∧ o.s < nn
    · obtain ⟨s, hs⟩ : ∃ s : Nat, o.s = s := ⟨o.s.toNat, by omega⟩
      rw [hs]
      by_cases hl : o.B.length ≤ 256
      · refine (h1.write A2 o.B.length c2 o.B (s := s) (by omega) (by omega) rfl hl ho.bytes (fun p e => .inr (ho.blk p e))).mono ?_
        rintro en w' (⟨rfl, hst, hc, hkp⟩ | ⟨D', L', y, rfl, hw, hc, hkp⟩)
        · refine ⟨3, D, L, rfl, Did.same (.inr (by omega)) (fun e => by omega) (by omega) (fun hp _ => ?_), hc.mono (by omega), hkp⟩
          exfalso
          have h1 := hst.1.1
          have h2 := h.pos
          match L, h1, hp, hst.1.2 with
          | [], h1, _, _ => simp at h1; omega
          | x :: _, _, hp, hs => exact hs x (by simp) (hp x (by simp))
        · obtain ⟨st', hwh, hy, _⟩ := hw.sta h.st (by omega) h.pos (filled_length o.B 256 hl)
          refine ⟨0, D', L', rfl, ⟨fun j => ?_, fun _ _ => hin, fun _ _ => hl, fun h' => by omega, fun h' => by omega, fun hp _ => ⟨fun x hx => ?_, by rw [if_neg (by omega), if_pos hk, if_pos ⟨hin, hl⟩]⟩⟩, hc.mono (by omega), hkp⟩
          · rw [hwh j]
            by_cases e : j = s
            · rw [if_pos e, if_pos ⟨hk, rfl, by rw [e, hs]⟩]
            · rw [if_neg e, if_neg (fun h' => e (by have := h'.2.2; omega))]
          · rcases hw with ⟨z, hz, _, ey, _, rfl⟩ | ⟨_, L1, hr, ey, rfl⟩
            · rcases updL_mem hx with ⟨rfl, _⟩ | ⟨hx, _⟩
              · rw [ey]; exact hp z hz
              · exact hp x hx
            · rcases List.mem_append.1 hx with hx | hx
              · exact hp x (hr.sub x hx)
              · rw [List.mem_singleton.1 hx, ey]
      · refine (h1.write_long A2 o.B.length c2 (s := s) (by omega) (by omega)).mono ?_
        rintro en w' ⟨rfl, rfl⟩
        exact ⟨1, D, L, rfl, Did.same (.inr (by omega)) (fun e => by omega) (by omega) (fun _ _ => by rw [if_neg (by omega), if_pos hk, if_neg (fun h' => hl h'.2)]), h1.mono (by omega), ⟨Nat.le_refl _, fun _ _ => rfl⟩⟩
    · refine (h1.write_bad o.s A2 o.B.length c2 (by omega)).mono ?_
      rintro en w' ⟨rfl, rfl⟩
      exact ⟨1, D, L, rfl, Did.same (.inr (by omega)) (fun e => by omega) (by omega) (fun _ _ => by rw [if_neg (by omega), if_pos hk, if_neg (fun h' => hin h'.1)]), h1.mono (by omega), ⟨Nat.le_refl _, fun _ _ => rfl⟩⟩
  have HC := Lib.hid hcall
  have HD := Lib.hid (And.intro h (And.intro hd hz))
  rw [hk] at e0
  obtain ⟨len, hlen⟩ : ∃ len, o.B.length = len := ⟨_, rfl⟩
  rw [hlen] at HC HT e2 hB
  generalize o.K.length = y at *
  generalize o.torn = tn at *
  clear hcall h hd hk hlen hby
  subst e0 e1 e2 e3 e4
  subst hcs
  obtain ⟨s, hs⟩ : ∃ s, o.s = s := ⟨_, rfl⟩
  rw [hs] at HC hz HD HT ⊢
  clear hs hz hs1 hs2
  go_enter Try.func13, Try.ntmps13
  go_wp2_with fail
  refine HT.out.mono ?_
  rintro en w1 ⟨A2, c2, rfl, ho, hb⟩
  have HCC := Lib.hid (HC.out w1 A2 c2 hb ho)
  have hz1 := HD.out.2.2.below hb
  have hs1 : w1.cell? ⟨w.heap.size, 1, none⟩ = some (.int .i64 s) := hz1.op.cell 1
  have HO := Lib.hid (And.intro ho (And.intro hb hz1))
  clear ho hb hz1 HC HT
  go_wp2_with fail
  refine HCC.out.mono ?_
  rintro en w2 ⟨e, D', L', rfl, hdid, hc, hkp⟩
  have hz2 : Dz w w2 _ _ := HO.out.2.2.keep (X := X) ⟨hkp.size, fun k hk => hkp.at_ k (.inl hk)⟩
  have x0 := hz2.x.cell 0
  have x1 := hz2.x.cell 1
  have x2 := hz2.x.cell 2
  have xf := hz2.x.frozen
  have hw1 : (wD w #[.int .i64 1, .int .i64 s, .slice A len c, .slice K y d, .int .i64 tn]).heap.size = w.heap.size + 3 := wD_size w _
  obtain ⟨q, hq⟩ : ∃ q, 0 < len → A2 = some ⟨q, 0, none⟩ ∧ w.heap.size + 3 ≤ q ∧ q < w1.heap.size ∧ Mut w1 q len := by
    by_cases h0 : 0 < len
    · obtain ⟨q, e, hr⟩ := HO.out.1.may h0
      have h9 := (HO.out.1.blk _ e).1
      rw [hw1] at h9
      exact ⟨q, fun _ => ⟨e, h9, hr.lt, hr.mut⟩⟩
    · exact ⟨0, fun h => absurd h h0⟩
  have hS : LpI w0 w (w2.setCell ⟨w.heap.size + 1 + 1, 2, none⟩ (.int .i64 e)) X (fun k => YD w X k ∨ ((wD w #[.int .i64 1, .int .i64 s, .slice A len c, .slice K y d, .int .i64 tn]).heap.size ≤ k ∧ k < w1.heap.size)) g dg nn most (t + 1025) D' L' q len #[.slice none 0 0, .bool false, .int .i64 e] none [] :=
    LpI.start HD.out.1.bel.size HD.out.1.lt hz2 hc ⟨by have h1 := hkp.size; have h2 := HO.out.2.1.size; omega, fun k hk => (hkp.at_ k (.inl (.inl hk))).trans ((HO.out.2.1.block k (by have := HD.out.1.lt k hk; omega)).trans ((wD_below w _).block k (HD.out.1.lt k hk)))⟩
      (fun h0 => (hq h0).2.2.2.same hkp.size (hkp.at_ q (.inr ⟨by rw [hw1]; exact (hq h0).2.1, (hq h0).2.2.1⟩))) (fun h0 => (hq h0).2.1) (Bytes.nil _ _) (fun p e => by cases e) (.inl (.inr ⟨by omega, by omega⟩)) (Off.setc _ _ _ _) (hz2.x.set_ 2 _)
  have HS := Lib.hid hS
  have HG := Lib.hid (And.intro hdid (And.intro hq (And.intro hw1 HD.out.1)))
  clear hS hz2 hq hw1 hdid hc hkp HO HD HCC
  go_wp2_with fail
  go_loopw [12] (fun iv wr => ∃ i : Nat, i ≤ len ∧ iv = .int .i64 (i : Int) ∧ Hid (LpI w0 w wr X (fun k => YD w X k ∨ ((wD w #[.int .i64 1, .int .i64 s, .slice A len c, .slice K y d, .int .i64 tn]).heap.size ≤ k ∧ k < w1.heap.size)) g dg nn most (t + 1025) D' L' q len #[.slice none 0 0, .bool false, .int .i64 e] none [])) (fun iv _ => len - (intOf iv).toNat)
  case atStart => exact ⟨0, Nat.zero_le _, rfl, HS⟩
  case round =>
    clear HS x0 x1 x2 xf
    obtain ⟨i, hi, rfl, hI⟩ := hrel
    by_cases hlt : i < len
    · have hd : decide ((i : Int) < (len : Int)) = true := by simpa using hlt
      have hA := (HG.out.2.1 (by omega)).1
      subst hA
      have hmu := hI.out.mu (by omega)
      obtain ⟨b, hcb⟩ := hmu.cell i hlt
      have hfb := hmu.free i hlt
      have HI2 := Lib.hid (hI.out.step (HG.out.2.1 (by omega)).2.1 (.inr ⟨by rw [HG.out.2.2.1]; exact (HG.out.2.1 (by omega)).2.1, (HG.out.2.1 (by omega)).2.2.1⟩) (fun p e => by cases e) HG.out.2.2.2.bel.size HG.out.2.2.2.lt (by omega) i 85)
      unfold bv at hcb
      clear hmu hI
      go_wp2_with fail
      go_roundw
      case rel => exact ⟨i + 1, by omega, by go_num, HI2⟩
      case measure => simp [intOf]; omega
    · obtain rfl : len = i := by omega
      have hd : decide ((len : Int) < (len : Int)) = false := by simp
      have r0 := hI.out.r.cell 0
      have r1 := hI.out.r.cell 1
      have r2 := hI.out.r.cell 2
      have rf := hI.out.r.frozen
      have y0 := hI.out.x.cell 0
      have y1 := hI.out.x.cell 1
      have y2 := hI.out.x.cell 2
      have HI := Lib.hid hI.out
      clear hI
      go_wp2_with fail
      have HB6 := ((HI.out.r.set_ 0 (.slice none 0 0)).set_ 1 (.bool false)).set_ 2 (.int .i64 e)
      refine bodyPost_ret (results_cell_row rfl _ _ (w.heap.size + 1) 39 _ (0, 0) _ rfl HB6 Try.underlying39 rfl (by kernel_rfl)) rfl ?_
      obtain ⟨g1, g2, g3, g4⟩ := HG.out
      exact HI.out.fin g4.bel.size g4.lt (off3 _ _ _ _ _ _ _ _) g1 rfl (fun p e => by cases e) (Nat.le_refl _) (.inl (.inr ⟨Nat.le_refl _, by omega⟩)) (fun k hk => .inl (.inl hk)) (.inl (.inr ⟨by omega, by omega⟩)) false
end
end Go.Proofs.Ytiemfhncadcemaa
