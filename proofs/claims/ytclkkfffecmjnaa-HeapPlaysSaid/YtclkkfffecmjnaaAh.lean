/- heap: does, over a heap and over none. -/
import Derived.Test.YtclkkfffecmjnaaX
import Derived.Test.YtclkkfffecmjnaaAc
import Derived.Test.YtclkkfffecmjnaaAe
import Derived.Test.YtclkkfffecmjnaaAf
import Derived.Test.YtclkkfffecmjnaaAg
namespace Go.Proofs.Ytclkkfffecmjnaa
open Go.RowKit
set_option linter.unusedVariables false
/-- What is answered. -/
structure Tv where
  o : Ob
  w : Wd
  n : Nat
  is : Bool
  e : Nat
def noT : Tv := ⟨noOb, ⟨0, 0⟩, 0, false, 0⟩
def toldC (t : Tv) (T : Option Addr) (c2 : Nat) : Array Value := #[.int .u8 (t.o.k : Int), .int .i64 t.o.tag, .slice T t.o.ws.length c2, .string (str t.o.t), .int .u8 (t.w.k : Int), .int .i64 t.w.n, .int .i64 (t.n : Int), .bool t.is, .int .i64 (t.e : Int)]
noncomputable def doF (H : HS) (o : Ov) : HS × Tv :=
  if o.kind = 0 then ((allocF H o.o).1, { noT with n := (allocF H o.o).2.1, e := (allocF H o.o).2.2 })
  else if o.kind = 1 then (H, { noT with o := getO H o.k, is := (H.obj o.k).isSome })
  else if o.kind = 2 then (H, { noT with w := (wordF H o.k o.i).1, is := (wordF H o.k o.i).2 })
  else if o.kind = 3 then ((setF H o.k o.i o.w).1, { noT with is := (setF H o.k o.i o.w).2 })
  else if o.kind = 4 then ((tieF H o.k o.i).1, { noT with e := (tieF H o.k o.i).2 })
  else if o.kind = 5 then ((untieF H o.k).1, { noT with is := (untieF H o.k).2 })
  else if o.kind = 6 then (H, { noT with n := (H.oidOf o.k).getD 0, is := (H.oidOf o.k).isSome })
  else if o.kind = 7 then (H, { noT with n := (H.ofOid o.i).getD 0, is := (H.ofOid o.i).isSome })
  else if o.kind = 8 then ((fillF H o.k o.o).1, { noT with e := (fillF H o.k o.o).2 })
  else if o.kind = 9 then ((cleanF H o.k).1, { noT with is := (cleanF H o.k).2 })
  else if o.kind = 10 then (collectH H o.roots, { noT with n := H.L.length - (collectH H o.roots).L.length })
  else (H, noT)
/-- The document's answers where there is no heap. -/
def doN (o : Ov) : Tv := if o.kind = 0 ∨ o.kind = 4 ∨ o.kind = 8 then { noT with e := 2 } else noT
theorem wf_rng {i : Int} (h : rng i) : (Lit.int .i64 i).wf = true := WalkArith.wf_i64 (by unfold rng at h; omega)
section
variable {w0 w : World} {X : Nat → Prop} {g t : Nat} {H : HS} {o : Ov} {A R : Option Addr} {c d : Nat}
/-- What is so behind does. -/
def QH (w0 w : World) (X : Nat → Prop) (g u : Nat) (H' : HS) (b : Nat) (W : World) : Prop := HR w0 W (fun k => X k ∨ YD w b k) g u H' ∧ Keep X w W
theorem QH.stays (h0 : HR w0 w X g t H) (u : Nat) (H' : HS) : Stays (QH w0 w X g u H') w := fun b W W' hq ho => by
  refine ⟨hq.1.turnX ho fun k hk => ⟨.inr hk, Nat.le_trans h0.bel.size hk.1⟩, hq.2.trans ⟨ho.size, fun k hk => ho.block k (Nat.lt_of_lt_of_le (h0.lt k hk) hq.2.size) fun e => by have := h0.lt k hk; have := e.1; omega⟩⟩
theorem QH.at1 (h0 : HR w0 w X g t H) {w1 : World} (hb : Below w.heap.size w w1) : HR w0 w1 (fun k => X k ∨ YD w w1.heap.size k) g t H ∧ Keep X w w1 :=
  ⟨h0.more hb fun k hk => hk.imp id fun e => e, (h0.below hb).2⟩
theorem QH.mk (h0 : HR w0 w X g t H) {w1 w' : World} {u : Nat} {H' : HS} (hb : Below w.heap.size w w1) (h1 : HR w0 w' (fun k => X k ∨ YD w w1.heap.size k) g u H') (hk : Keep (fun k => X k ∨ YD w w1.heap.size k) w1 w') :
    QH w0 w X g u H' w1.heap.size w' ∧ Keep (YD w w1.heap.size) w1 w' :=
  ⟨⟨h1, (QH.at1 h0 hb).2.trans (hk.less fun k hk => .inl hk)⟩, hk.less fun k hk => .inr hk⟩
theorem QH.same (h0 : HR w0 w X g t H) {w1 w' : World} (hb : Below w.heap.size w w1) (hb' : Below w1.heap.size w1 w') : QH w0 w X g (t + 2) H w1.heap.size w' ∧ Keep (YD w w1.heap.size) w1 w' := by
  have h1 := ((QH.at1 h0 hb).1.mono (Nat.le_add_right t 2)).below hb'
  exact QH.mk h0 hb h1.1 h1.2
theorem QH.more (W W' : World) {u : Nat} {H' : HS} (h0 : HR w0 w X g t H) (h : QH w0 w X g u H' W.heap.size W) (hb : Below W.heap.size W W') : QH w0 w X g u H' W'.heap.size W' :=
  ⟨h.1.more hb fun k hk => by
    rcases hk with hk | hk
    · exact .inl (.inl hk)
    · by_cases e : k < W.heap.size
      · exact .inl (.inr ⟨hk.1, e⟩)
      · exact .inr ⟨by omega, hk.2⟩, h.2.trans ((h.1.below hb).2.less fun k hk => .inl hk)⟩
theorem does_hr (h : HR w0 w X g t H) (ht : t < 399000) (hlen : H.L.length < 399000) (hv : OpV w o A c R d) (hf : Fits o) :
    Calls Try.prog 16 #[.pointer (some ⟨g, 0, none⟩), .agg (opC o A c R d)] w fun en w' => ∃ T c2, en = .returned (.agg (toldC (doF H o).2 T c2)) ∧ WRow w.heap.size w' T (doF H o).2.o.ws.length c2 (doF H o).2.o.ws ∧ HR w0 w' (fun k => X k ∨ ∃ p : Addr, T = some p ∧ p.block = k) g (t + 2) (doF H o).1 ∧ Keep X w w' := by
  have hk := wf_rng hv.k
  have hi := wf_rng hv.i
  have hsm : Hp.small o.o := ⟨by have := hf.1; omega, by have := hf.2.1; omega, hv.ok⟩
  have harg : ∀ w1 A1 (c1 : Nat), WRow (w.heap.size + 3) w1 A1 o.o.ws.length c1 o.o.ws → OArg w1 o.o A1 := fun w1 A1 c1 hr => ⟨hr.words, hsm, hv.tag⟩
  have hplain : ∀ {H' : HS} {fn : Ending} {w' : World} {tv : Tv}, tv.o = noOb → (fn = .returned (.agg (toldC tv none 0)) ∧ ∃ b, QH w0 w X g (t + 2) H' b w') → ∃ T c2, fn = .returned (.agg (toldC tv T c2)) ∧ WRow w.heap.size w' T tv.o.ws.length c2 tv.o.ws ∧ HR w0 w' (fun k => X k ∨ ∃ p : Addr, T = some p ∧ p.block = k) g (t + 2) H' ∧ Keep X w w' := by
    rintro H' fn w' tv hno ⟨e, b, hq⟩
    refine ⟨none, 0, e, by rw [hno]; exact WRow.nil _ _, hq.1.less fun k hk => ?_, hq.2⟩
    rcases hk with hk | ⟨p, hp, _⟩
    · exact .inl hk
    · cases hp
  unfold doF
  by_cases k0 : o.kind = 0
  · rw [if_pos k0]
    refine (does_alloc (QH.stays h (t + 2) (allocF H o.o).1) hv hf k0 fun w1 A1 c1 hb hr hA => ?_).mono fun fn w' hp => hplain rfl hp
    have h1 := (QH.at1 h hb).1
    refine (alloc_hr h1 (by omega) o.o A1 c1 (harg _ _ _ hr) fun p e => .inl (.inr ⟨by have := (hr.blk p e).2.2.1; omega, hA p e⟩)).mono ?_
    rintro fn w' ⟨rfl, h2, hk2⟩
    exact ⟨rfl, QH.mk h hb h2 hk2⟩
  rw [if_neg k0]
  by_cases k1 : o.kind = 1
  · rw [if_pos k1]
    have hgl : (getO H o.k).ws.length ≤ 100000 := by
      unfold getO
      cases hx : H.obj o.k with
      | none => exact Nat.zero_le _
      | some x => exact (h.ok.inn x (HS.obj_some hx).1).2.2.1.1
    refine (does_get (Q := QH w0 w X g (t + 2) H) (go := getO H o.k) (is := (H.obj o.k).isSome) (QH.stays h (t + 2) H) hv hf k1 hgl (fun W W' hq hb => QH.more W W' h hq hb) fun w1 hb => ?_).mono ?_
    · have h1 := (QH.at1 h hb).1
      refine (get_hr h1 o.k hk).mono ?_
      rintro fn w' ⟨v, G, gc, rfl, hob, hb'⟩
      obtain ⟨rfl, hr⟩ := hob
      refine ⟨G, gc, rfl, hr.mono (by omega), ?_, hb'⟩
      exact QH.more w1 w' h ⟨h1.mono (Nat.le_add_right t 2), (QH.at1 h hb).2⟩ hb'
    · rintro fn w' ⟨T, c2, b, rfl, hq, hr, _, _, hT⟩
      refine ⟨T, c2, rfl, hr, hq.1.less fun k hk => ?_, hq.2⟩
      rcases hk with hk | ⟨p, hp, rfl⟩
      · exact .inl hk
      · exact .inr ⟨(hr.blk p hp).2.2.1, hT p hp⟩
  rw [if_neg k1]
  by_cases k2 : o.kind = 2
  · rw [if_pos k2]
    refine (does_word (QH.stays h (t + 2) H) hv hf k2 fun w1 A1 c1 hb hr hA => ?_).mono fun fn w' hp => hplain rfl hp
    refine (word_hr (QH.at1 h hb).1 o.k o.i hk).mono ?_
    rintro fn w' ⟨rfl, hb'⟩
    exact ⟨rfl, QH.same h hb hb'⟩
  rw [if_neg k2]
  by_cases k3 : o.kind = 3
  · rw [if_pos k3]
    refine (does_set (QH.stays h (t + 2) (setF H o.k o.i o.w).1) hv hf k3 fun w1 A1 c1 hb hr hA => ?_).mono fun fn w' hp => hplain rfl hp
    refine (set_hr (QH.at1 h hb).1 o.k o.i o.w hv.wd hk).mono ?_
    rintro fn w' ⟨rfl, h2, hk2⟩
    exact ⟨rfl, QH.mk h hb h2 hk2⟩
  rw [if_neg k3]
  by_cases k4 : o.kind = 4
  · rw [if_pos k4]
    refine (does_tie (QH.stays h (t + 2) (tieF H o.k o.i).1) hv hf k4 fun w1 A1 c1 hb hr hA => ?_).mono fun fn w' hp => hplain rfl hp
    refine (tie_hr (QH.at1 h hb).1 (by omega) o.k o.i hk).mono ?_
    rintro fn w' ⟨rfl, h2, hk2⟩
    exact ⟨rfl, QH.mk h hb h2 hk2⟩
  rw [if_neg k4]
  by_cases k5 : o.kind = 5
  · rw [if_pos k5]
    refine (does_untie (QH.stays h (t + 2) (untieF H o.k).1) hv hf k5 fun w1 A1 c1 hb hr hA => ?_).mono fun fn w' hp => hplain rfl hp
    refine (untie_hr (QH.at1 h hb).1 (by omega) o.k hk).mono ?_
    rintro fn w' ⟨rfl, h2, hk2⟩
    exact ⟨rfl, QH.mk h hb h2 hk2⟩
  rw [if_neg k5]
  by_cases k6 : o.kind = 6
  · rw [if_pos k6]
    refine (does_oid (QH.stays h (t + 2) H) hv hf k6 fun w1 A1 c1 hb hr hA => ?_).mono fun fn w' hp => hplain rfl hp
    refine (oid_hr (QH.at1 h hb).1 o.k hk).mono ?_
    rintro fn w' ⟨rfl, rfl⟩
    exact ⟨rfl, QH.same h hb (Below.refl _ _)⟩
  rw [if_neg k6]
  by_cases k7 : o.kind = 7
  · rw [if_pos k7]
    refine (does_of (QH.stays h (t + 2) H) hv hf k7 fun w1 A1 c1 hb hr hA => ?_).mono fun fn w' hp => hplain rfl hp
    refine (of_hr (QH.at1 h hb).1 o.i hi).mono ?_
    rintro fn w' ⟨rfl, rfl⟩
    exact ⟨rfl, QH.same h hb (Below.refl _ _)⟩
  rw [if_neg k7]
  by_cases k8 : o.kind = 8
  · rw [if_pos k8]
    refine (does_fill (QH.stays h (t + 2) (fillF H o.k o.o).1) hv hf k8 fun w1 A1 c1 hb hr hA => ?_).mono fun fn w' hp => hplain rfl hp
    refine (fill_hr (QH.at1 h hb).1 o.k hk o.o A1 c1 (harg _ _ _ hr) fun p e => .inl (.inr ⟨by have := (hr.blk p e).2.2.1; omega, hA p e⟩)).mono ?_
    rintro fn w' ⟨rfl, h2, hk2⟩
    exact ⟨rfl, QH.mk h hb h2 hk2⟩
  rw [if_neg k8]
  by_cases k9 : o.kind = 9
  · rw [if_pos k9]
    refine (does_clean (QH.stays h (t + 2) (cleanF H o.k).1) hv hf k9 fun w1 A1 c1 hb hr hA => ?_).mono fun fn w' hp => hplain rfl hp
    refine (clean_hr (QH.at1 h hb).1 o.k hk).mono ?_
    rintro fn w' ⟨rfl, h2, hk2⟩
    exact ⟨rfl, QH.mk h hb h2 hk2⟩
  rw [if_neg k9]
  by_cases k10 : o.kind = 10
  · rw [if_pos k10]
    refine (does_collect (QH.stays h (t + 2) (collectH H o.roots)) hv hf k10 fun w1 R1 d1 hb hr => ?_).mono fun fn w' hp => hplain rfl hp
    refine (collect_hr (QH.at1 h hb).1 (by omega) R1 o.roots.length d1 o.roots rfl (by have := hf.2.2; omega) (by omega) hr).mono ?_
    rintro fn w' ⟨rfl, h2, hk2⟩
    exact ⟨rfl, QH.mk h hb h2 hk2⟩
  rw [if_neg k10]
  refine (does_other (QH.stays h (t + 2) H) hv hf (by omega) fun w1 hb => ?_).mono fun fn w' hp => hplain rfl hp
  exact (QH.same h hb (Below.refl _ _)).1
end
section
variable {w : World} {o : Ov} {A R : Option Addr} {c d : Nat}
theorem belowStays (w : World) : Stays (fun _ W => Below w.heap.size w W) w := fun b W W' hq ho => hq.trans (ho.below hq.size fun k hk => hk.1)
theorem below_call {w1 w' : World} (hb : Below w.heap.size w w1) (hb' : Below w1.heap.size w1 w') : Below w.heap.size w w' ∧ Keep (YD w w1.heap.size) w1 w' := ⟨hb.trans (hb'.mono hb.size), hb'.size, fun k hk => hb'.block k hk.2⟩
theorem does_nil (hv : OpV w o A c R d) (hf : Fits o) :
    Calls Try.prog 16 #[.pointer none, .agg (opC o A c R d)] w fun en w' => ∃ T c2, en = .returned (.agg (toldC (doN o) T c2)) ∧ Below w.heap.size w w' := by
  have hplain : ∀ {fn : Ending} {w' : World} {tv : Tv}, (fn = .returned (.agg (toldC tv none 0)) ∧ ∃ b : Nat, (fun _ W => Below w.heap.size w W) b w') → ∃ T c2, fn = .returned (.agg (toldC tv T c2)) ∧ Below w.heap.size w w' := by
    rintro fn w' tv ⟨e, _, hq⟩
    exact ⟨none, 0, e, hq⟩
  by_cases k0 : o.kind = 0
  · rw [show doN o = { noT with e := 2 } from if_pos (.inl k0)]
    refine (does_alloc (en := 0) (ee := 2) (belowStays w) hv hf k0 fun w1 A1 c1 hb hr hA => ?_).mono fun fn w' hp => hplain hp
    refine (alloc_nil o.o A1 c1 w1).mono ?_
    rintro fn w' ⟨rfl, hb'⟩
    exact ⟨rfl, below_call hb hb'⟩
  by_cases k4 : o.kind = 4
  · rw [show doN o = { noT with e := 2 } from if_pos (.inr (.inl k4))]
    refine (does_tie (ee := 2) (belowStays w) hv hf k4 fun w1 A1 c1 hb hr hA => ?_).mono fun fn w' hp => hplain hp
    refine (tieE_nil o.k o.i w1).mono ?_
    rintro fn w' ⟨rfl, rfl⟩
    exact ⟨rfl, below_call hb (Below.refl _ _)⟩
  by_cases k8 : o.kind = 8
  · rw [show doN o = { noT with e := 2 } from if_pos (.inr (.inr k8))]
    refine (does_fill (ee := 2) (belowStays w) hv hf k8 fun w1 A1 c1 hb hr hA => ?_).mono fun fn w' hp => hplain hp
    refine (fill_nil o.k o.o A1 c1 w1).mono ?_
    rintro fn w' ⟨rfl, hb'⟩
    exact ⟨rfl, below_call hb hb'⟩
  rw [show doN o = noT from if_neg (by omega)]
  by_cases k1 : o.kind = 1
  · refine (does_get (Q := fun _ W => Below w.heap.size w W) (go := noOb) (is := false) (belowStays w) hv hf k1 (Nat.zero_le _) (fun W W' hq hb => hq.trans (hb.mono hq.size)) fun w1 hb => ?_).mono ?_
    · refine (get_nil o.k w1).mono ?_
      rintro fn w' ⟨rfl, hb'⟩
      exact ⟨none, 0, rfl, WRow.nil _ _, (below_call hb hb').1, hb'⟩
    · rintro fn w' ⟨T, c2, b, rfl, hq, _⟩
      exact ⟨T, c2, rfl, hq⟩
  by_cases k2 : o.kind = 2
  · refine (does_word (z := ⟨0, 0⟩) (is := false) (belowStays w) hv hf k2 fun w1 A1 c1 hb hr hA => ?_).mono fun fn w' hp => hplain hp
    refine (word_nil o.k o.i w1).mono ?_
    rintro fn w' ⟨rfl, hb'⟩
    exact ⟨rfl, below_call hb hb'⟩
  by_cases k3 : o.kind = 3
  · refine (does_set (is := false) (belowStays w) hv hf k3 fun w1 A1 c1 hb hr hA => ?_).mono fun fn w' hp => hplain hp
    refine (set_nil o.k o.i o.w w1).mono ?_
    rintro fn w' ⟨rfl, hb'⟩
    exact ⟨rfl, below_call hb hb'⟩
  by_cases k5 : o.kind = 5
  · refine (does_untie (is := false) (belowStays w) hv hf k5 fun w1 A1 c1 hb hr hA => ?_).mono fun fn w' hp => hplain hp
    refine (untieE_nil o.k w1).mono ?_
    rintro fn w' ⟨rfl, rfl⟩
    exact ⟨rfl, below_call hb (Below.refl _ _)⟩
  by_cases k6 : o.kind = 6
  · refine (does_oid (en := 0) (is := false) (belowStays w) hv hf k6 fun w1 A1 c1 hb hr hA => ?_).mono fun fn w' hp => hplain hp
    refine (oid_nil o.k w1).mono ?_
    rintro fn w' ⟨rfl, rfl⟩
    exact ⟨rfl, below_call hb (Below.refl _ _)⟩
  by_cases k7 : o.kind = 7
  · refine (does_of (en := 0) (is := false) (belowStays w) hv hf k7 fun w1 A1 c1 hb hr hA => ?_).mono fun fn w' hp => hplain hp
    refine (of_nil o.i w1).mono ?_
    rintro fn w' ⟨rfl, rfl⟩
    exact ⟨rfl, below_call hb (Below.refl _ _)⟩
  by_cases k9 : o.kind = 9
  · refine (does_clean (is := false) (belowStays w) hv hf k9 fun w1 A1 c1 hb hr hA => ?_).mono fun fn w' hp => hplain hp
    refine (clean_nil o.k w1).mono ?_
    rintro fn w' ⟨rfl, rfl⟩
    exact ⟨rfl, below_call hb (Below.refl _ _)⟩
  by_cases k10 : o.kind = 10
  · refine (does_collect (en := 0) (belowStays w) hv hf k10 fun w1 R1 d1 hb hr => ?_).mono fun fn w' hp => hplain hp
    refine (collect_nil R1 o.roots.length d1 w1).mono ?_
    rintro fn w' ⟨rfl, hb'⟩
    exact ⟨rfl, below_call hb hb'⟩
  refine (does_other (belowStays w) hv hf (by omega) fun w1 hb => hb).mono fun fn w' hp => hplain hp
end
end Go.Proofs.Ytclkkfffecmjnaa
