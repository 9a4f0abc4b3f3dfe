/- heap: words and objects. -/
import Derived.Test.YtclkkfffecmjnaaF
import Derived.Maps.OwnOps
import Derived.Maps.OwnSet
import Derived.Maps.Views
import Derived.Laws.Rows
namespace Go.Proofs.Ytclkkfffecmjnaa
open Go.RowKit

/-- A word. -/
structure Wd where
  k : Nat
  n : Int
instance : Inhabited Wd := ⟨⟨0, 0⟩⟩
/-- An object. -/
structure Ob where
  k : Nat
  tag : Int
  ws : List Wd
  t : List UInt8
def wkv (x : Wd) : Value := .int .u8 (x.k : Int)
def wnv (x : Wd) : Value := .int .i64 x.n
/-- A word that may be in memory. -/
def Wd.ok (x : Wd) : Prop := x.k < 256 ∧ -9223372036854775808 ≤ x.n ∧ x.n < 9223372036854775808
/-- What a value of type []Word reads as. -/
def Words (w : World) (A : Option Addr) (ws : List Wd) : Prop :=
  ∀ (r : Nat) (x : Wd), ws[r]? = some x → ∃ b off, A = some ⟨b, off, none⟩ ∧ b < w.heap.size ∧ w.cell? ⟨b, off + r * 2, none⟩ = some (.int .u8 (x.k : Int)) ∧ w.cell? ⟨b, off + r * 2 + 1, none⟩ = some (.int .i64 x.n) ∧ x.ok
theorem Words.nil (w : World) (A : Option Addr) : Words w A [] := fun r x h => by simp at h
theorem Words.same {w w' : World} {A : Option Addr} {ws : List Wd} (h : Words w A ws) (hs : w.heap.size ≤ w'.heap.size) (he : ∀ p : Addr, A = some p → p.block < w.heap.size → w'.heap[p.block]? = w.heap[p.block]?) : Words w' A ws := fun r x hr => by
  obtain ⟨b, off, e, hlt, c0, c1, h2⟩ := h r x hr
  exact ⟨b, off, e, Nat.lt_of_lt_of_le hlt hs, (World.cell?_of_block (a := ⟨b, off + r * 2, none⟩) (he ⟨b, off, none⟩ e hlt)).trans c0, (World.cell?_of_block (a := ⟨b, off + r * 2 + 1, none⟩) (he ⟨b, off, none⟩ e hlt)).trans c1, h2⟩
theorem Words.below {w w' : World} {A : Option Addr} {ws : List Wd} (h : Words w A ws) (hb : Below w.heap.size w w') : Words w' A ws := h.same hb.size fun p _ hp => hb.block _ hp
theorem Words.all {w : World} {A : Option Addr} {ws : List Wd} (h : Words w A ws) : ∀ x ∈ ws, x.ok := fun x hx => by
  obtain ⟨r, hr, rfl⟩ := List.getElem_of_mem hx
  obtain ⟨_, _, _, _, _, _, h2⟩ := h r _ (List.getElem?_eq_getElem hr)
  exact h2

/-- Numbers that were appended. -/
structure IntsZ (W : World) (sv : Value) (zs : List Int) : Prop where
  own : W.ownsRow 0 3 1 sv zs.length (zs.map fun (z : Int) => Value.int .i64 z)
theorem IntsZ.nil (W : World) : IntsZ W (.slice none 0 0) [] := ⟨World.ownsRow_nil _ _ _ _⟩
theorem IntsZ.shape {W : World} {sv : Value} {zs : List Int} (h : IntsZ W sv zs) : ∃ A c, sv = .slice A zs.length c ∧ zs.length ≤ c ∧ c ≤ maxLen := by
  rcases h.own.2 with ⟨rfl, h0⟩ | ⟨g, cap, cur, rfl, _, _, h1, h2, _⟩
  · exact ⟨none, 0, by rw [h0], by omega, Nat.zero_le _⟩
  · exact ⟨_, _, rfl, h1, h2⟩
theorem IntsZ.lt {W : World} {sv : Value} {zs : List Int} (h : IntsZ W sv zs) (k : Nat) (hk : sv.ownBlock = some k) : k < W.heap.size := (h.own.lt k hk).2
theorem IntsZ.same {W W' : World} {sv : Value} {zs : List Int} (h : IntsZ W sv zs) (hr : ∀ k, sv.ownBlock = some k → W'.heap[k]? = W.heap[k]?) : IntsZ W' sv zs := by
  refine ⟨h.own.1, ?_⟩
  rcases h.own.2 with h0 | ⟨g, cap, cur, rfl, h1, h2, h3⟩
  · exact .inl h0
  · exact .inr ⟨g, cap, cur, rfl, h1, (hr g rfl).trans h2, h3⟩
theorem IntsZ.get {W : World} {sv : Value} {zs : List Int} (h : IntsZ W sv zs) (k : Nat) (z : Int) (hz : zs[k]? = some z) : ∃ g c, sv = .slice (some ⟨g, 0, none⟩) zs.length c ∧ g < W.heap.size ∧ W.cell? ⟨g, k, none⟩ = some (.int .i64 z) := by
  have hk := (List.getElem?_eq_some_iff.1 hz).1
  rcases h.own.2 with ⟨rfl, e⟩ | ⟨g, cap, cur, rfl, _, h1, _⟩
  · omega
  · have c1 := h.own.cellAt k (by omega)
    rw [List.getElem?_map, hz] at c1
    exact ⟨g, cap, rfl, h.lt g rfl, c1⟩
theorem IntsZ.push {W : World} {sv : Value} {zs : List Int} (h : IntsZ W sv zs) (z : Int) (b : Nat) (h0 : W.cell? ⟨b, 0, none⟩ = some (.int .i64 z)) (hl : zs.length < 1000000) :
    ∃ v' w', (Builtin.append_ #[41, 41] 41 #[sv, .slice (some ⟨b, 0, none⟩) 1 1]).run Try.prog W = .ok v' w' ∧ IntsZ w' v' (zs ++ [z]) ∧ W.grownBy w' sv.ownBlock ∧ (v'.ownBlock = sv.ownBlock ∨ v'.ownBlock = some W.heap.size) := by
  have hI : (Try.prog.info? 3).map (fun i => (i.zero, i.size, i.bytes)) = some (some (.int .i64 0), 1, 8) := by kernel_rfl
  obtain ⟨i0, hi, hz0, hz1, hz2⟩ := info_parts hI
  have hcell : ∀ (j : Nat) (u : Value), [Value.int .i64 z][j]? = some u → W.cell? ((⟨b, 0, none⟩ : Addr).add j) = some u := fun j u hj => by
    have e2 : (⟨b, 0, none⟩ : Addr).add j = ⟨b, 0 + j, none⟩ := by unfold Addr.add; split <;> simp_all
    rw [e2, Nat.zero_add]
    rcases j with _ | j
    · cases hj; exact h0
    · simp at hj
  obtain ⟨v', w', hrun, h2, h3, _, h5⟩ := run_append_own_at (P := Try.prog) W 0 41 41 3 i0 (.int .i64 0) 1 8 Try.underlying41 hi hz0 hz1 hz2 rfl (by decide) sv zs.length _ h.own ⟨b, 0, none⟩ 1 1 [.int .i64 z] (by simp) hcell
    (fun u hu => by rw [List.mem_singleton.1 hu]; rfl) (by unfold maxLen; omega) (by omega) (Nat.zero_le _)
  exact ⟨v', w', hrun, ⟨by rw [List.length_append, List.length_singleton, List.map_append]; exact h2⟩, h3, h5⟩


def wcs (x : Wd) : List Value := [.int .u8 (x.k : Int), .int .i64 x.n]
def flat (ws : List Wd) : List Value := ws.flatMap wcs
theorem flat_len (ws : List Wd) : (flat ws).length = ws.length * 2 := by
  induction ws with
  | nil => rfl
  | cons x ws ih => unfold flat at ih ⊢; rw [List.flatMap_cons, List.length_append, ih, List.length_cons]; simp [wcs]; omega
theorem flat_get {ws : List Wd} {r : Nat} {x : Wd} (h : ws[r]? = some x) : (flat ws)[r * 2]? = some (.int .u8 (x.k : Int)) ∧ (flat ws)[r * 2 + 1]? = some (.int .i64 x.n) := by
  induction ws generalizing r with
  | nil => simp at h
  | cons y ws ih =>
    cases r with
    | zero => simp at h; subst h; exact ⟨rfl, rfl⟩
    | succ r =>
      have := ih (r := r) (by simpa using h)
      have e : flat (y :: ws) = wcs y ++ flat ws := rfl
      have hl : (wcs y).length = 2 := rfl
      rw [e, List.getElem?_append_right (by omega), List.getElem?_append_right (by omega), hl, show (r + 1) * 2 - 2 = r * 2 by omega, show (r + 1) * 2 + 1 - 2 = r * 2 + 1 by omega]
      exact this
theorem flat_one {ws : List Wd} : ∀ u ∈ flat ws, u.oneCell' = true := fun u hu => by
  unfold flat at hu
  obtain ⟨x, _, hx⟩ := List.mem_flatMap.1 hu
  simp [wcs] at hx
  rcases hx with rfl | rfl <;> rfl

/-- A row of words that may be written: of blocks from B on. -/
structure WRow (B : Nat) (w : World) (A : Option Addr) (n c : Nat) (ws : List Wd) : Prop where
  long : ws.length = n
  le : n ≤ c
  max : c ≤ maxLen
  words : Words w A ws
  blk : ∀ p : Addr, A = some p → p.off = 0 ∧ p.spot = none ∧ B ≤ p.block ∧ p.block < w.heap.size
  free : ∀ p : Addr, A = some p → ∀ j, w.frozen? ⟨p.block, j, none⟩ = false
theorem WRow.nil (B : Nat) (w : World) : WRow B w none 0 0 [] := ⟨rfl, Nat.le_refl _, Nat.zero_le _, Words.nil _ _, (fun p e => by cases e), (fun p e => by cases e)⟩
theorem ne_off {b i j : Nat} (h : i ≠ j) : (⟨b, i, none⟩ : Addr) ≠ ⟨b, j, none⟩ := fun e => h (congrArg Addr.off e)
theorem WRow.same {B : Nat} {w w' : World} {A : Option Addr} {n c : Nat} {ws : List Wd} (h : WRow B w A n c ws) (hs : w.heap.size ≤ w'.heap.size) (he : ∀ p : Addr, A = some p → w'.heap[p.block]? = w.heap[p.block]?) : WRow B w' A n c ws :=
  ⟨h.long, h.le, h.max, h.words.same hs fun p e _ => he p e, fun p e => ⟨(h.blk p e).1, (h.blk p e).2.1, (h.blk p e).2.2.1, Nat.lt_of_lt_of_le (h.blk p e).2.2.2 hs⟩, fun p e j => (World.frozen?_of_block (a := ⟨p.block, j, none⟩) (he p e)).trans (h.free p e j)⟩
theorem WRow.below {B : Nat} {w w' : World} {A : Option Addr} {n c : Nat} {ws : List Wd} (h : WRow B w A n c ws) (hb : Below w.heap.size w w') : WRow B w' A n c ws := h.same hb.size fun p e => hb.block _ (h.blk p e).2.2.2
theorem WRow.mono {B B' : Nat} {w : World} {A : Option Addr} {n c : Nat} {ws : List Wd} (h : WRow B w A n c ws) (hB : B' ≤ B) : WRow B' w A n c ws := ⟨h.long, h.le, h.max, h.words, fun p e => ⟨(h.blk p e).1, (h.blk p e).2.1, Nat.le_trans hB (h.blk p e).2.2.1, (h.blk p e).2.2.2⟩, h.free⟩
theorem WRow.at_ {B : Nat} {w : World} {A : Option Addr} {n c : Nat} {ws : List Wd} (h : WRow B w A n c ws) {i : Nat} (hi : i < n) : ∃ q x, A = some ⟨q, 0, none⟩ ∧ ws[i]? = some x ∧ x.ok ∧ q < w.heap.size ∧ B ≤ q ∧ w.cell? ⟨q, i * 2, none⟩ = some (.int .u8 (x.k : Int)) ∧ w.cell? ⟨q, i * 2 + 1, none⟩ = some (.int .i64 x.n) ∧ ∀ j, w.frozen? ⟨q, j, none⟩ = false := by
  have hx : ws[i]? = some (ws[i]'(by rw [h.long]; exact hi)) := List.getElem?_eq_getElem _
  obtain ⟨b, off, e, hlt, c0, c1, h2⟩ := h.words i _ hx
  obtain ⟨e1, _, e3, _⟩ := h.blk _ e
  have e1 : off = 0 := e1
  subst e1
  rw [Nat.zero_add] at c0 c1
  exact ⟨b, _, e, hx, h2, hlt, e3, c0, c1, h.free _ e⟩
/-- A word stored. -/
theorem WRow.set_ {B : Nat} {w : World} {q n c : Nat} {ws : List Wd} (h : WRow B w (some ⟨q, 0, none⟩) n c ws) (i : Nat) (x : Wd) (hx : x.ok) : WRow B ((w.setCell ⟨q, i * 2, none⟩ (.int .u8 (x.k : Int))).setCell ⟨q, i * 2 + 1, none⟩ (.int .i64 x.n)) (some ⟨q, 0, none⟩) n c (ws.set i x) := by
  have hsz : ((w.setCell ⟨q, i * 2, none⟩ (.int .u8 (x.k : Int))).setCell ⟨q, i * 2 + 1, none⟩ (.int .i64 x.n)).heap.size = w.heap.size := by simp [World.setCell]
  refine ⟨by rw [List.length_set]; exact h.long, h.le, h.max, fun r y hy => ?_, fun p e => ?_, fun p e j => ?_⟩
  · by_cases e : r = i
    · subst e
      have hr : r < ws.length := by
        have := (List.getElem?_eq_some_iff.1 hy).1
        rw [List.length_set] at this; exact this
      rw [List.getElem?_set_self hr] at hy
      cases hy
      obtain ⟨b, off, e1, hlt, c0, c1, _⟩ := h.words r _ (List.getElem?_eq_getElem hr)
      cases e1
      rw [Nat.zero_add] at c0 c1
      refine ⟨q, 0, rfl, by rw [hsz]; exact hlt, ?_, ?_, hx⟩
      · rw [Nat.zero_add, World.cell?_setCell_other _ _ _ _ (ne_off (by omega))]
        exact World.cell?_setCell_same _ _ _ c0
      · rw [Nat.zero_add]
        exact World.cell?_setCell_same _ _ _ ((World.cell?_setCell_other _ _ _ _ (ne_off (by omega))).trans c1)
    · rw [List.getElem?_set_ne (fun e' => e e'.symm)] at hy
      obtain ⟨b, off, e1, hlt, c0, c1, h2⟩ := h.words r y hy
      cases e1
      rw [Nat.zero_add] at c0 c1
      refine ⟨q, 0, rfl, by rw [hsz]; exact hlt, ?_, ?_, h2⟩
      · rw [Nat.zero_add, World.cell?_setCell_other _ _ _ _ (ne_off (by omega)), World.cell?_setCell_other _ _ _ _ (ne_off (by omega))]; exact c0
      · rw [Nat.zero_add, World.cell?_setCell_other _ _ _ _ (ne_off (by omega)), World.cell?_setCell_other _ _ _ _ (ne_off (by omega))]; exact c1
  · rw [hsz]; exact h.blk p e
  · rw [World.frozen?_setCell, World.frozen?_setCell]; exact h.free p e j
end Go.Proofs.Ytclkkfffecmjnaa
