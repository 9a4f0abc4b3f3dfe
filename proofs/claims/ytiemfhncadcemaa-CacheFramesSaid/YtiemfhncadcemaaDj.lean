/- cache: does in one form; what is wanted. -/
import Derived.Test.YtiemfhncadcemaaDb
import Derived.Test.YtiemfhncadcemaaDg
import Derived.Deep.QuietTactic
namespace Go.Proofs.Ytiemfhncadcemaa
open Go.RowKit Dsk
section
variable {w0 w w' : World} {X : Nat → Prop} {g dg nn most t : Nat} {D D' : DS} {L L' : List Fr}
theorem CS.does_any (h : CS w0 w X g dg nn most t D L) {v0 v1 v2 v3 v4 : Value} {o : Ov} (hv : OpV w v0 v1 v2 v3 v4 o) (hk : o.kind ≠ 5 ∧ o.kind ≠ 7 ∧ o.kind ≠ 8) (ht : t < 800000) (hB : o.B.length ≤ 1024) :
    Calls Try.prog 13 #[.pointer (some ⟨g, 0, none⟩), .pointer (some ⟨dg, 0, none⟩), .agg #[v0, v1, v2, v3, v4]] w (fun en w' => DidW w0 w w' X g dg nn most t D L o en) := by
  by_cases h0 : o.kind = 0
  · exact h.does_read hv h0 ht
  by_cases h1 : o.kind = 1
  · exact h.does_write hv h1 ht hB
  by_cases h2 : o.kind = 2
  · exact h.does_pin hv h2 ht
  by_cases h3 : o.kind = 3
  · exact h.does_unpin hv h3
  by_cases h4 : o.kind = 4
  · exact h.does_evict hv h4 ht
  by_cases h6 : o.kind = 6
  · exact h.does_flush hv h6 ht
  · exact h.does_other hv (by omega)
end
/-- What each sector should say. -/
def wantL (D : DS) (L : List Fr) (nn : Nat) : List (List UInt8) := (List.range nn).map fun j => what D L j
theorem wantL_len (D : DS) (L : List Fr) (nn : Nat) : (wantL D L nn).length = nn := by unfold wantL; simp
theorem wantL_get (D : DS) (L : List Fr) {nn j : Nat} (h : j < nn) : (wantL D L nn)[j]? = some (what D L j) := by unfold wantL; simp [h]
theorem wantL_same {D D' : DS} {L L' : List Fr} (nn : Nat) (h : ∀ j, what D' L' j = what D L j) : wantL D' L' nn = wantL D L nn := by
  unfold wantL
  exact List.map_congr_left (fun j _ => h j)
theorem wantL_set {D D' : DS} {L L' : List Fr} {nn s : Nat} {b : List UInt8} (hs : s < nn) (h : ∀ j, what D' L' j = if j = s then b else what D L j) : wantL D' L' nn = (wantL D L nn).set s b := by
  apply List.ext_getElem?
  intro j
  by_cases hj : j < nn
  · rw [wantL_get _ _ hj, h]
    by_cases e : j = s
    · subst e; rw [if_pos rfl, List.getElem?_set_self (by rw [wantL_len]; exact hj)]
    · rw [if_neg e, List.getElem?_set_ne (fun e' => e e'.symm), wantL_get _ _ hj]
  · rw [List.getElem?_eq_none (by rw [wantL_len]; omega), List.getElem?_eq_none (by rw [List.length_set, wantL_len]; omega)]
theorem wantL_new (nn : Nat) : wantL (newD nn) [] nn = List.replicate nn zeros := by
  apply List.ext_getElem?
  intro j
  by_cases hj : j < nn
  · rw [wantL_get _ _ hj, what_no (fun x hx => by cases hx), Hale.new_read hj, List.getElem?_replicate, if_pos hj]
  · rw [List.getElem?_eq_none (by rw [wantL_len]; omega), List.getElem?_eq_none (by rw [List.length_replicate]; omega)]
theorem what_len {nn most t : Nat} {D : DS} {L : List Fr} (h : Sta nn most t D L) {j : Nat} (hj : j < nn) : (what D L j).length = 256 := by
  by_cases hx : ∃ x ∈ L, x.s = j
  · obtain ⟨x, hx, rfl⟩ := hx
    rw [what_yes h.nodup hx]; exact (h.inn x hx).2.2
  · rw [what_no (fun x hx' e => hx ⟨x, hx', e⟩)]; exact (h.hale.read hj).1
/-- Between the rounds of CacheKeeps. -/
structure KpS (w wr : World) (X : Nat → Prop) (g dg nn most t wb : Nat) (D : DS) (L : List Fr) : Prop where
  cs : CS w wr X g dg nn most t D L
  hx : X wb
  secs : Secs wr (fun k => X k ∧ k ≠ wb) wb (wantL D L nn)
  lo : w.heap.size ≤ wb
section
variable {w w0 wr w' : World} {X X' : Nat → Prop} {g dg nn most t wb : Nat} {D : DS} {L : List Fr}
theorem KpS.below (h : KpS w wr X g dg nn most t wb D L) (hb : Below wr.heap.size wr w') : KpS w w' X g dg nn most t wb D L :=
  ⟨h.cs.below hb, h.hx, h.secs.same hb.size (fun k _ hk => hb.block k hk) (hb.block wb h.secs.lt), h.lo⟩
theorem Secs.keep {w w' : World} {E X : Nat → Prop} {g : Nat} {S : List (List UInt8)} (h : Secs w E g S) (hk : Keep X w w') (hE : ∀ k, E k → X k) (hg : X g) : Secs w' E g S := h.same hk.size (fun k he _ => hk.at_ k (hE k he)) (hk.at_ g hg)
end
end Go.Proofs.Ytiemfhncadcemaa
/- cache: what is wanted, behind what is done. -/
namespace Go.Proofs.Ytiemfhncadcemaa
open Go.RowKit Dsk
section
variable {w w0 wr w2 w' w5 : World} {X X' : Nat → Prop} {g dg nn most t t' wb : Nat} {D D' : DS} {L L' : List Fr}
theorem KpS.boxed (h : KpS w wr X g dg nn most t wb D L) (o : Obj) : KpS w (wr.alloc o) (fun k => X k ∨ k = wr.heap.size) g dg nn most t wb D L := by
  have hb : Below wr.heap.size wr (wr.alloc o) := (Below.refl _ _).alloc (Nat.le_refl _) _
  have h2 := h.below hb
  exact ⟨h.cs.more hb _ (fun k hk => hk.imp id fun e => by rw [World.size_alloc]; omega), .inl h.hx, h2.secs.mono fun k hk => ⟨.inl hk.1, hk.2⟩, h.lo⟩
theorem KpS.did {q : Nat} (h : KpS w w2 X g dg nn most t wb D L) (hc : CS w w' (fun k => X k ∨ k = q) g dg nn most t' D' L') (hk : Keep X w2 w') (hw : ∀ j, what D' L' j = what D L j) : KpS w w' (fun k => X k ∨ k = q) g dg nn most t' wb D' L' :=
  ⟨hc, .inl h.hx, by rw [wantL_same nn hw]; exact (h.secs.keep hk (fun k e => e.1) h.hx).mono fun k e => ⟨.inl e.1, e.2⟩, h.lo⟩
theorem KpS.wrote {q nb s : Nat} {bs : List UInt8} (h : KpS w w2 X g dg nn most t wb D L) (hc : CS w w' (fun k => X k ∨ k = q) g dg nn most t' D' L') (hk : Keep X w2 w') (hb : Below w'.heap.size w' w5) (hB : Blk w5 nb 5 (row8 bs)) (hn : w'.heap.size ≤ nb) (hl : bs.length = 256) (hs : s < nn)
    (hw : ∀ j, what D' L' j = if j = s then bs else what D L j) : KpS w (w5.setCell ⟨wb, s, none⟩ (.slice (some ⟨nb, 0, none⟩) 256 256)) (fun k => (X k ∨ k = q) ∨ (w'.heap.size ≤ k ∧ k < w5.heap.size)) g dg nn most t' wb D' L' := by
  have h1 := h.secs.keep hk (fun k e => e.1) h.hx
  have hwl := h1.lt
  have h2 : Secs w5 (fun k => ((X k ∨ k = q) ∨ (w'.heap.size ≤ k ∧ k < w5.heap.size)) ∧ k ≠ wb) wb (wantL D L nn) := (h1.same hb.size (fun k _ hk => hb.block k hk) (hb.block wb hwl)).mono fun k e => ⟨.inl (.inl e.1), e.2⟩
  have h3 := hc.more hb (fun k => (X k ∨ k = q) ∨ (w'.heap.size ≤ k ∧ k < w5.heap.size)) (fun k hk => hk)
  have ho : Off (fun j => j = wb) w5 (w5.setCell ⟨wb, s, none⟩ (.slice (some ⟨nb, 0, none⟩) 256 256)) := Off.setc _ _ _ _
  refine ⟨?_, .inl (.inl h.hx), ?_, h.lo⟩
  · refine h3.turnX ho (fun j e => ?_)
    have e' : j = wb := e
    rw [e']
    exact ⟨.inl (.inl h.hx), h.lo⟩
  · rw [wantL_set hs hw]
    exact h2.set_ (fun e => e.2 rfl) s _ bs (Sec.of_blk hB ⟨.inr ⟨hn, hB.lt⟩, by omega⟩ (by rw [hl]; unfold maxLen; omega) 256 hl)
end
end Go.Proofs.Ytiemfhncadcemaa
/- cache: two caches side by side. -/
namespace Go.Proofs.Ytiemfhncadcemaa
open Go.RowKit Dsk
/-- A cache whose blocks are F's. -/
structure Foot (w0 w : World) (F : Nat → Prop) (g dg nn most t : Nat) (D : DS) (L : List Fr) : Prop where
  rng : ∀ k, F k → w0.heap.size ≤ k ∧ k < w.heap.size
  ex : ∃ mb n time B E Fd, Cm w E g dg mb n B most time L ∧ Disk w Fd dg D ∧ (∀ k, zone E g mb B L k → F k ∧ ¬ Fd k) ∧ (∀ k, Fd k → F k) ∧ n ≤ t ∧ time ≤ t
  st : Sta nn most t D L
  pos : 0 < most
  bel : Below w0.heap.size w0 w
section
variable {w0 w w' : World} {X F : Nat → Prop} {g dg nn most t : Nat} {D : DS} {L : List Fr}
theorem CS.foot (h : CS w0 w X g dg nn most t D L) : ∃ F, Foot w0 w F g dg nn most t D L ∧ ∀ k, F k → ¬ X k := by
  obtain ⟨⟨mb, n, time, B, E, ⟨hc, ⟨⟨Fd, hD, hF⟩, hlt, hb⟩, hfar⟩, h1, h2⟩, h3, h4⟩ := h
  refine ⟨fun k => zone E g mb B L k ∨ Fd k, ⟨fun k hk => ?_, ⟨mb, n, time, B, E, Fd, hc, hD, fun k hk => ⟨.inl hk, fun e => (hF k e).2 (.inr hk)⟩, fun k hk => .inr hk, h1, h2⟩, h3, h4, hb⟩, fun k hk => ?_⟩
  · rcases hk with hk | hk
    · exact ⟨(hfar k hk).1, hlt k (.inr hk)⟩
    · exact ⟨(hF k hk).1, hD.lt k hk⟩
  · rcases hk with hk | hk
    · exact (hfar k hk).2
    · exact fun e => (hF k hk).2 (.inl e)
theorem Foot.cs (h : Foot w0 w F g dg nn most t D L) (hX : ∀ k, X k → k < w.heap.size ∧ ¬ F k) : CS w0 w X g dg nn most t D L := by
  obtain ⟨hr, ⟨mb, n, time, B, E, Fd, hc, hD, hz, hF, h1, h2⟩, h3, h4, hb⟩ := h
  refine ⟨⟨mb, n, time, B, E, ⟨hc, ⟨⟨Fd, hD, fun k hk => ⟨(hr k (hF k hk)).1, fun e => ?_⟩⟩, fun k hk => ?_, hb⟩, fun k hk => ⟨(hr k (hz k hk).1).1, fun e => (hX k e).2 (hz k hk).1⟩⟩, h1, h2⟩, h3, h4⟩
  · rcases e with e | e
    · exact (hX k e).2 (hF k hk)
    · exact (hz k e).2 hk
  · rcases hk with hk | hk
    · exact (hX k hk).1
    · exact (hr k (hz k hk).1).2
theorem Foot.keep (h : Foot w0 w F g dg nn most t D L) (hk : Keep F w w') (hb : Below w0.heap.size w0 w') : Foot w0 w' F g dg nn most t D L := by
  obtain ⟨hr, ⟨mb, n, time, B, E, Fd, hc, ⟨Ed, gl, gi, rv, hd, e1, e2, e3⟩, hz, hF, h1, h2⟩, h3, h4, _⟩ := h
  exact ⟨fun k hk' => ⟨(hr k hk').1, Nat.lt_of_lt_of_le (hr k hk').2 hk.size⟩, ⟨mb, n, time, B, E, Fd, hc.keep (fun k hk' => hk.at_ k (hz k hk').1) hk.size,
    ⟨Ed, gl, gi, rv, hd.same hk.size (fun k _ hk' => hk.at_ k (hF k (hk'.elim (e1 k) (e2 k)))), e1, e2, fun k hk' => Nat.lt_of_lt_of_le (e3 k hk') hk.size⟩, hz, hF, h1, h2⟩, h3, h4, hb⟩
theorem Foot.below (h : Foot w0 w F g dg nn most t D L) (hb : Below w.heap.size w w') : Foot w0 w' F g dg nn most t D L :=
  h.keep ⟨hb.size, fun k hk => hb.block k (h.rng k hk).2⟩ (h.bel.trans (hb.mono h.bel.size))
theorem Foot.mono {u : Nat} (h : Foot w0 w F g dg nn most t D L) (hu : t ≤ u) : Foot w0 w F g dg nn most u D L := by
  obtain ⟨hr, ⟨mb, n, time, B, E, Fd, hc, hD, hz, hF, h1, h2⟩, h3, h4, hb⟩ := h
  exact ⟨hr, ⟨mb, n, time, B, E, Fd, hc, hD, hz, hF, Nat.le_trans h1 hu, Nat.le_trans h2 hu⟩, h3.mono hu, h4, hb⟩
end
end Go.Proofs.Ytiemfhncadcemaa
