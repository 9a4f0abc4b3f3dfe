/- cache: Unpin, Drop, Held, New, of a cache over a disk whose power stays. -/
import Derived.Test.YtiemfhncadcemaaCt
namespace Go.Proofs.Ytiemfhncadcemaa
open Go.RowKit Dsk
theorem Sta.del {n most t s : Nat} {D : DS} {L : List Fr} (h : Sta n most t D L) : Sta n most t D (delL s L) :=
  ⟨h.hale, fun y hy hd => h.clean y (delL_mem.1 hy).1 hd, fun y hy => h.inn y (delL_mem.1 hy).1, h.nodup.filter _, Nat.le_trans (List.length_filter_le _ _) h.len, h.top⟩
section
variable {w0 w : World} {X : Nat → Prop} {g dg nn most t s : Nat} {L : List Fr} {D : DS}
theorem atS_has {B : Nat → Nat} {L : List Fr} {i : Int} (h : ¬ ∃ x ∈ L, (x.s : Int) = i) : atS B L i = none := by
  unfold atS
  rw [List.find?_eq_none.2 (fun x hx => by have : (x.s : Int) ≠ i := fun e => h ⟨x, hx, e⟩; simpa using this)]; rfl
theorem CS.unpin_none (h : CS w0 w X g dg nn most t D L) {i : Int} (hi : (Lit.int .i64 i).wf = true) (hx : ∀ x ∈ L, (x.s : Int) = i → x.pins = 0) :
    Calls Try.prog 23 #[.pointer (some ⟨g, 0, none⟩), .int .i64 i] w fun e w' => e = .returned (.int .i64 7) ∧ w = w' := by
  obtain ⟨⟨mb, n, time, B, E, h1, h2, h5⟩, h3, h4⟩ := h
  obtain ⟨F, hD⟩ := h1.disk
  by_cases hh : ∃ x ∈ L, (x.s : Int) = i
  · obtain ⟨x, hxL, rfl⟩ := hh
    exact unpin_zero h1.cm hD h3.hale.dead hxL (hx x hxL rfl)
  · exact unpin_no h1.cm hD h3.hale.dead hi (atS_has hh)
theorem CS.unpin (h : CS w0 w X g dg nn most t D L) {x : Fr} (hx : x ∈ L) {p : Nat} (hp : x.pins = p + 1) :
    Calls Try.prog 23 #[.pointer (some ⟨g, 0, none⟩), .int .i64 (x.s : Int)] w fun e w' => e = .returned (.int .i64 0) ∧ CS w0 w' X g dg nn most t D (updL { x with pins := p } L) ∧ Keep X w w' := by
  obtain ⟨⟨mb, n, time, B, E, h1, h2, h5⟩, h3, h4⟩ := h
  obtain ⟨F, hD⟩ := h1.disk
  refine (unpin_ok h1.cm hD h3.hale.dead hx hp).mono ?_
  rintro e w' ⟨rfl, k1, k2⟩
  obtain ⟨q1, q2⟩ := h1.turned (y := { x with pins := p }) ⟨x, hx, rfl⟩ k1 (k2.mono fun k _ e => .inl e)
  have hin := h3.inn x hx
  exact ⟨rfl, ⟨⟨mb, n, time, B, _, q1, h2, h5⟩, h3.upd (y := { x with pins := p }) ⟨x, hx, rfl⟩ (fun hd => h3.clean x hx hd) (by show p ≤ t; omega) hin.2.2, h4⟩, q2⟩
theorem CS.drop_none (h : CS w0 w X g dg nn most t D L) {i : Int} (hi : (Lit.int .i64 i).wf = true) (hx : ∀ x ∈ L, (x.s : Int) ≠ i) :
    Calls Try.prog 22 #[.pointer (some ⟨g, 0, none⟩), .int .i64 i] w fun e w' => e = .returned (.int .i64 7) ∧ w = w' := by
  obtain ⟨⟨mb, n, time, B, E, h1, h2, h5⟩, h3, h4⟩ := h
  obtain ⟨F, hD⟩ := h1.disk
  exact drop_no h1.cm hD h3.hale.dead hi (atS_has (fun ⟨x, hx', e⟩ => hx x hx' e))
theorem CS.drop_pin (h : CS w0 w X g dg nn most t D L) {x : Fr} (hx : x ∈ L) (hp : 0 < x.pins) :
    Calls Try.prog 22 #[.pointer (some ⟨g, 0, none⟩), .int .i64 (x.s : Int)] w fun e w' => e = .returned (.int .i64 3) ∧ w = w' := by
  obtain ⟨⟨mb, n, time, B, E, h1, h2, h5⟩, h3, h4⟩ := h
  obtain ⟨F, hD⟩ := h1.disk
  exact drop_pinned h1.cm hD h3.hale.dead hx hp
theorem CS.drop (h : CS w0 w X g dg nn most t D L) {x : Fr} (hx : x ∈ L) (hp : x.pins = 0) :
    Calls Try.prog 22 #[.pointer (some ⟨g, 0, none⟩), .int .i64 (x.s : Int)] w fun e w' => e = .returned (.int .i64 0) ∧ CS w0 w' X g dg nn most t D (delL x.s L) ∧ Keep X w w' := by
  obtain ⟨⟨mb, n, time, B, E, h1, h2, h5⟩, h3, h4⟩ := h
  obtain ⟨F, hD⟩ := h1.disk
  refine (drop_yes h1.cm hD h3.hale.dead hx hp).mono ?_
  rintro e w' ⟨rfl, k1, k2⟩
  obtain ⟨q1, q2⟩ := h1.gone k1 k2
  exact ⟨rfl, ⟨⟨mb, n, time, B, _, q1, h2, h5⟩, h3.del, h4⟩, q2⟩
theorem CS.held (h : CS w0 w X g dg nn most t D L) :
    Calls Try.prog 15 #[.pointer (some ⟨g, 0, none⟩)] w fun e w' => e = .returned (.tuple #[.int .i64 (L.length : Int), .int .i64 ((L.countP fun x => x.dirty : Nat) : Int), .int .i64 ((L.countP fun x => decide (0 < x.pins) : Nat) : Int)]) ∧ Below w.heap.size w w' := by
  obtain ⟨⟨mb, n, time, B, E, h1, h2, h5⟩, h3, h4⟩ := h
  exact held_any g dg mb n most time E B L w h1.cm (by have := h3.len; have := h3.top; omega)
theorem CS.new (nn most : Nat) (hn : 16 ≤ nn ∧ nn ≤ 4096) (hm : 1 ≤ most ∧ most ≤ 1024) (h : Run w0 w X dg (newD nn)) :
    Calls Try.prog 11 #[.pointer (some ⟨dg, 0, none⟩), .int .i64 (most : Int)] w fun e w' => ∃ g, e = .returned (.tuple #[.pointer (some ⟨g, 0, none⟩), .int .i64 0]) ∧ w.heap.size ≤ g ∧ CS w0 w' X g dg nn most 0 (newD nn) [] ∧ Below w.heap.size w w' := by
  have hr := h
  obtain ⟨⟨F, hD, hF⟩, hX, hb0⟩ := h
  refine (cnew_ok dg F (newD nn) most w hD rfl hm).mono ?_
  rintro e w' ⟨rfl, h1, h2, hb⟩
  have hsz := Blk.lt h1
  refine ⟨_, rfl, by omega, ⟨⟨w.heap.size, 0, 0, fun _ => 0, fun _ => False, ⟨⟨h1, h2, (fun x hx => by cases hx), (fun x hx => by cases hx), List.Pairwise.nil, (fun x hx => by cases hx), (fun x hx => by cases hx), id, id, by omega⟩, hr.add hb _ (fun k hk => ?_), fun k hk => ?_⟩, Nat.le_refl _, Nat.le_refl _⟩, Sta.new nn most ⟨hm.2, hn⟩, by omega⟩, hb⟩
  · rcases hk with hk | hk | hk | hk | ⟨x, hx, _⟩
    · exact .inl hk
    · exact .inr (by omega)
    · exact .inr (by omega)
    · exact hk.elim
    · cases hx
  · have hs0 := hb0.size
    rcases hk with hk | hk | hk | ⟨x, hx, _⟩
    · exact ⟨by omega, fun hx => by have := hX k hx; omega⟩
    · exact ⟨by omega, fun hx => by have := hX k hx; omega⟩
    · exact hk.elim
    · cases hx
end
end Go.Proofs.Ytiemfhncadcemaa
