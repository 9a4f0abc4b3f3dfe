/- Apart's first loop: what stands between its rounds. -/
import Derived.Test.YtobfglnopihibaaZn
namespace Go.Proofs.Ytobfglnopihibaa
open Go.RowKit

/-- An answer: its slice, what it reads as. -/
structure Itm where
  A : Option Addr
  len : Nat
  cap : Nat
  cs : List UInt8
def Itm.home (it : Itm) : Option Nat := it.A.map (·.block)

def ItOk (w : World) (B : Nat) (it : Itm) : Prop := (it.A = none ∧ it.len = 0 ∧ it.cap = 0 ∧ it.cs = []) ∨ ∃ g, it.A = some ⟨g, 0, none⟩ ∧ B ≤ g ∧ Rw w g it.len it.cap it.cs

theorem ItOk.mv {w : World} {B : Nat} {it : Itm} (h : ItOk w B it) : Mv w (.slice it.A it.len it.cap) it.len it.cs := by
  rcases h with ⟨h1, h2, h3, h4⟩ | ⟨g, h1, _, h2⟩
  · exact .inl ⟨by rw [h1, h2, h3], h2, h4⟩
  · exact .inr ⟨g, it.cap, by rw [h1], h2⟩
theorem ItOk.frame {w w' : World} {B : Nat} {it : Itm} (h : ItOk w B it) (hs : w.heap.size ≤ w'.heap.size) (hb : ∀ k, k < w.heap.size → it.home = some k → w'.heap[k]? = w.heap[k]?) : ItOk w' B it := by
  rcases h with h | ⟨g, h1, h2, h3⟩
  · exact .inl h
  · exact .inr ⟨g, h1, h2, h3.frame hs (hb g h3.lt (by unfold Itm.home; rw [h1]; rfl))⟩
theorem ItOk.home_lt {w : World} {B : Nat} {it : Itm} (h : ItOk w B it) {g : Nat} (hg : it.home = some g) : g < w.heap.size ∧ B ≤ g := by
  rcases h with ⟨h1, _⟩ | ⟨g', h1, h2, h3⟩
  · unfold Itm.home at hg; rw [h1] at hg; cases hg
  · unfold Itm.home at hg; rw [h1] at hg
    have : g' = g := by simpa using hg
    subst this
    exact ⟨h3.lt, h2⟩
theorem ItOk.bytes {w : World} {B : Nat} {it : Itm} (h : ItOk w B it) : Bytes w it.A it.cs := by
  rcases h with ⟨_, _, _, h4⟩ | ⟨g, h1, _, h3⟩
  · rw [h4]; exact Bytes.nil _ _
  · rw [h1]; exact h3.bytes
theorem ItOk.long {w : World} {B : Nat} {it : Itm} (h : ItOk w B it) : it.cs.length = it.len := by
  rcases h with ⟨_, h2, _, h4⟩ | ⟨g, _, _, h3⟩
  · rw [h4, h2]; rfl
  · exact h3.long

/-- The answers' blocks are each another's, and none is the row's that lists them. -/
structure Homes (ga : Nat) (its : List Itm) : Prop where
  two : ∀ (j k : Nat) (it jt : Itm) (g : Nat), j ≠ k → its[j]? = some it → its[k]? = some jt → it.home = some g → jt.home ≠ some g
  row : ∀ (j : Nat) (it : Itm), its[j]? = some it → it.home ≠ some ga
  short : ∀ (j : Nat) (it : Itm), its[j]? = some it → it.len ≤ 1099511627776

/-- Behind i rounds of Apart's first loop. -/
structure Outer (w0 : World) (B ga : Nat) (its : List Itm) (i : Nat) (v : Value) (ms : Nat → Nat × Nat) (w : World) : Prop where
  below : Below B w0 w
  list : ∀ (j : Nat) (it : Itm), its[j]? = some it → w.cell? ⟨ga, j, none⟩ = some (.slice it.A it.len it.cap)
  items : ∀ (j : Nat) (it : Itm), its[j]? = some it → ItOk w B it
  old : ∀ (j : Nat) (it : Itm) (g : Nat), its[j]? = some it → it.home = some g → g < w0.heap.size
  gaLt : ga < w0.heap.size
  row : ∃ xs, w.ownsRow w0.heap.size 52 3 v i xs ∧ ∀ (j : Nat) (it : Itm), j < i → its[j]? = some it → xs[j * 3]? = some (.slice it.A it.len it.cap) ∧ xs[j * 3 + 1]? = some (.string (str it.cs)) ∧ xs[j * 3 + 2]? = some (.slice (some ⟨(ms j).1, 0, none⟩) (it.len + 10) (ms j).2)
  more : ∀ (j : Nat) (it : Itm), j < i → its[j]? = some it → Rw w (ms j).1 (it.len + 10) (ms j).2 (it.cs ++ List.replicate 10 (UInt8.ofNat j)) ∧ (it.home = some (ms j).1 ∨ w0.heap.size ≤ (ms j).1)
  apart : ∀ j k, j < i → k < i → j ≠ k → (ms j).1 ≠ (ms k).1
  off : ∀ j, j < i → v.ownBlock ≠ some (ms j).1

theorem Outer.start {w0 : World} {B ga : Nat} {its : List Itm} (h1 : ∀ (j : Nat) (it : Itm), its[j]? = some it → w0.cell? ⟨ga, j, none⟩ = some (.slice it.A it.len it.cap)) (h2 : ∀ (j : Nat) (it : Itm), its[j]? = some it → ItOk w0 B it) (hga : ga < w0.heap.size) (ms : Nat → Nat × Nat) :
    Outer w0 B ga its 0 (.slice none 0 0) ms w0 :=
  ⟨Below.refl _ _, h1, h2, fun j it g hj hg => ((h2 j it hj).home_lt hg).1, hga, ⟨[], ⟨by simp, .inl ⟨rfl, rfl⟩⟩, fun j it hj => by omega⟩, fun j it hj => by omega, fun j k hj => by omega, fun j hj => by omega⟩

theorem own_at {w : World} {base n : Nat} {e : TypeId} {size : Nat} {v : Value} {xs : List Value} (h : w.ownsRow base e size v n xs) {g : Nat} (hg : v.ownBlock = some g) : base ≤ g ∧ g < w.heap.size := by
  rcases h.2 with ⟨rfl, _⟩ | ⟨g', c, cur, rfl, hb, hg', _⟩
  · cases hg
  · have : g' = g := by simpa [Value.ownBlock] using hg
    subst this
    refine ⟨hb, ?_⟩
    rcases Nat.lt_or_ge g' w.heap.size with hlt | hge
    · exact hlt
    · rw [Array.getElem?_eq_none hge] at hg'; cases hg'

/-- Where the block of answer i alone was turned, of those that were there. -/
theorem Outer.frame {w0 : World} {B ga : Nat} {its : List Itm} {i : Nat} {v : Value} {ms : Nat → Nat × Nat} {w w' : World} (hh : Homes ga its) (h : Outer w0 B ga its i v ms w) {it : Itm} (hi : its[i]? = some it)
    (hs : w.heap.size ≤ w'.heap.size) (hB : Below B w0 w') (hfr : ∀ k, k < w.heap.size → it.home ≠ some k → w'.heap[k]? = w.heap[k]?) (hit : ItOk w' B it) : Outer w0 B ga its i v ms w' := by
  have hw := h.below.size
  refine ⟨hB, fun j jt hj => ?_, fun j jt hj => ?_, h.old, h.gaLt, ?_, fun j jt hji hj => ?_, h.apart, h.off⟩
  · exact (World.cell?_of_block (a := ⟨ga, j, none⟩) (hfr ga (Nat.lt_of_lt_of_le h.gaLt hw) (hh.row i it hi))).trans (h.list j jt hj)
  · by_cases hji : j = i
    · subst hji
      rw [hi] at hj; injection hj with hj; subst hj
      exact hit
    · exact (h.items j jt hj).frame hs (fun k hk hjt => hfr k hk (fun e => hh.two i j it jt k (fun e => hji e.symm) hi hj e hjt))
  · obtain ⟨xs, hown, hx⟩ := h.row
    refine ⟨xs, ?_, hx⟩
    refine ⟨hown.1, hown.2.imp id fun ⟨g, cap, cur, hv, hb, hg, r⟩ => ⟨g, cap, cur, hv, hb, ?_, r⟩⟩
    have hgl := own_at hown (g := g) (by rw [hv]; rfl)
    rw [hfr g hgl.2 (fun e => by have := h.old i it g hi e; omega)]
    exact hg
  · obtain ⟨hR, hor⟩ := h.more j jt hji hj
    refine ⟨hR.frame hs (hfr _ hR.lt (fun e => ?_)), hor⟩
    rcases hor with hor | hor
    · exact hh.two i j it jt _ (by omega) hi hj e hor
    · have := h.old i it _ hi e; omega

/-- A round's end: one more is held. -/
theorem Outer.step {w0 : World} {B ga : Nat} {its : List Itm} {i : Nat} {v v' : Value} {ms : Nat → Nat × Nat} {w w' : World} (h : Outer w0 B ga its i v ms w) {it : Itm} (hi : its[i]? = some it) (gm cm : Nat)
    (hR : Rw w gm (it.len + 10) cm (it.cs ++ List.replicate 10 (UInt8.ofNat i))) (hor : it.home = some gm ∨ w0.heap.size ≤ gm) (hne : ∀ j, j < i → (ms j).1 ≠ gm) (hv : v.ownBlock ≠ some gm) (hBw : B ≤ w0.heap.size)
    (hrow : ∀ xs, w.ownsRow w0.heap.size 52 3 v i xs → w'.ownsRow w0.heap.size 52 3 v' (i + 1) (xs ++ [.slice it.A it.len it.cap, .string (str it.cs), .slice (some ⟨gm, 0, none⟩) (it.len + 10) cm]))
    (hgr : w.grownBy w' v.ownBlock) (hat : v'.ownBlock = v.ownBlock ∨ ∃ g, v'.ownBlock = some g ∧ w.heap.size ≤ g) : Outer w0 B ga its (i + 1) v' (fun j => if j = i then (gm, cm) else ms j) w' := by
  obtain ⟨xs, hown, hx⟩ := h.row
  have hs := hgr.size
  have hblk : ∀ k, k < w.heap.size → v.ownBlock ≠ some k → w'.heap[k]? = w.heap[k]? := fun k hk hne => hgr.block k hk (fun e => hne e.symm)
  have hvo : ∀ k, v.ownBlock = some k → w0.heap.size ≤ k := fun k hk => (own_at hown hk).1
  have hoff : ∀ k, k < w.heap.size → v.ownBlock ≠ some k → v'.ownBlock ≠ some k := fun k hk hne e => by
    rcases hat with e' | ⟨g, e', hg⟩
    · exact hne (by rw [← e', e])
    · rw [e'] at e; injection e with e; omega
  refine ⟨h.below.grown hgr (Nat.le_trans hBw h.below.size) (fun k e => Nat.le_trans hBw (hvo k e)), fun j jt hj => ?_, fun j jt hj => ?_, h.old, h.gaLt, ⟨_, hrow xs hown, fun j jt hji hj => ?_⟩, fun j jt hji hj => ?_, fun j k hji hki hjk => ?_, fun j hji => ?_⟩
  · have hlt := h.below.size
    exact (World.cell?_of_block (a := ⟨ga, j, none⟩) (hblk ga (Nat.lt_of_lt_of_le h.gaLt hlt) (fun e => by have := hvo _ e; have := h.gaLt; omega))).trans (h.list j jt hj)
  · exact (h.items j jt hj).frame hs (fun k hk e => hblk k hk (fun e' => by have := hvo _ e'; have := h.old j jt k hj e; omega))
  · have hxl := hown.1
    by_cases hj' : j = i
    · subst hj'
      rw [hi] at hj; injection hj with hj; subst hj
      rw [if_pos rfl]
      refine ⟨?_, ?_, ?_⟩
      · rw [List.getElem?_append_right (by omega), hxl, Nat.sub_self]; rfl
      · rw [List.getElem?_append_right (by omega), hxl, Nat.add_sub_cancel_left]; rfl
      · rw [List.getElem?_append_right (by omega), hxl, Nat.add_sub_cancel_left]; rfl
    · rw [if_neg hj']
      obtain ⟨h1, h2, h3⟩ := hx j jt (by omega) hj
      rw [List.getElem?_append_left (by omega), List.getElem?_append_left (by omega), List.getElem?_append_left (by omega)]
      exact ⟨h1, h2, h3⟩
  · by_cases hj' : j = i
    · subst hj'
      rw [hi] at hj; injection hj with hj; subst hj
      rw [if_pos rfl]
      exact ⟨hR.frame hs (hblk gm hR.lt hv), hor⟩
    · rw [if_neg hj']
      obtain ⟨h1, h2⟩ := h.more j jt (by omega) hj
      exact ⟨h1.frame hs (hblk _ h1.lt (h.off j (by omega))), h2⟩
  · by_cases hj' : j = i
    · subst hj'
      rw [if_pos rfl, if_neg (fun e => hjk e.symm)]
      exact fun e => hne k (by omega) e.symm
    · rw [if_neg hj']
      by_cases hk' : k = i
      · subst hk'; rw [if_pos rfl]; exact hne j (by omega)
      · rw [if_neg hk']; exact h.apart j k (by omega) (by omega) hjk
  · by_cases hj' : j = i
    · subst hj'; rw [if_pos rfl]; exact hoff gm hR.lt hv
    · rw [if_neg hj']
      by_cases hex : ∃ jt, its[j]? = some jt
      · obtain ⟨jt, hj⟩ := hex
        exact hoff _ (h.more j jt (by omega) hj).1.lt (h.off j (by omega))
      · exfalso
        have hil := (List.getElem?_eq_some_iff.1 hi).1
        exact hex ⟨its[j]'(by omega), List.getElem?_eq_getElem (by omega)⟩

end Go.Proofs.Ytobfglnopihibaa
