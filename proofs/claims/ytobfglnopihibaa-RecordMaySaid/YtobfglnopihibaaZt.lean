/- Apart's second loop: what stands between its rounds. -/
import Derived.Test.YtobfglnopihibaaZq
namespace Go.Proofs.Ytobfglnopihibaa
open Go.RowKit

/-- All are held: answer j reads as f j, and is said to be sy j. -/
structure Turns (w0 : World) (B gl n : Nat) (its : List Itm) (ms : Nat → Nat × Nat) (f sy : Nat → List UInt8) (w : World) : Prop where
  below : Below B w0 w
  glLt : w0.heap.size ≤ gl
  row : ∃ cur, Blk w gl 52 cur ∧ ∀ (j : Nat) (it : Itm), j < n → its[j]? = some it → cur[j * 3]? = some (.slice it.A it.len it.cap) ∧ cur[j * 3 + 1]? = some (.string (str (sy j))) ∧ cur[j * 3 + 2]? = some (.slice (some ⟨(ms j).1, 0, none⟩) (it.len + 10) (ms j).2)
  item : ∀ (j : Nat) (it : Itm), j < n → its[j]? = some it → (it.A = none ∧ it.len = 0 ∧ it.cap = 0 ∧ f j = []) ∨ ∃ g, it.A = some ⟨g, 0, none⟩ ∧ B ≤ g ∧ g < w0.heap.size ∧ Rw w g it.len it.cap (f j)
  more : ∀ (j : Nat) (it : Itm), j < n → its[j]? = some it → ∃ front, front.length = it.len ∧ Rw w (ms j).1 (it.len + 10) (ms j).2 (front ++ List.replicate 10 (UInt8.ofNat j)) ∧ (it.home = some (ms j).1 ∨ w0.heap.size ≤ (ms j).1)
  apart : ∀ j k, j < n → k < n → j ≠ k → (ms j).1 ≠ (ms k).1
  off : ∀ j, j < n → gl ≠ (ms j).1

theorem Outer.turns {w0 : World} {B ga : Nat} {its : List Itm} {n : Nat} {v : Value} {ms : Nat → Nat × Nat} {w : World} (h : Outer w0 B ga its n v ms w) (hn : 0 < n) (hl : its.length = n) :
    ∃ gl c, v = .slice (some ⟨gl, 0, none⟩) n c ∧ Turns w0 B gl n its ms (fun j => (its.getD j ⟨none, 0, 0, []⟩).cs) (fun j => (its.getD j ⟨none, 0, 0, []⟩).cs) w := by
  obtain ⟨xs, hown, hx⟩ := h.row
  have hx0 := hown.1
  rcases hown.2 with ⟨_, e⟩ | ⟨gl, c, cur, rfl, hb, hg, hnc, _, hs, ht⟩
  · omega
  · have hgd : ∀ (j : Nat) (it : Itm), its[j]? = some it → its.getD j ⟨none, 0, 0, []⟩ = it := fun j it hj => by simp [List.getD, hj]
    refine ⟨gl, c, rfl, h.below, hb, ⟨cur, hg, fun j it hj hit => ?_⟩, fun j it hj hit => ?_, fun j it hj hit => ?_, h.apart, fun j hj e => h.off j hj (by rw [← e]; rfl)⟩
    · obtain ⟨h1, h2, h3⟩ := hx j it hj hit
      have hc : ∀ k u, xs[k]? = some u → cur[k]? = some u := fun k u hk => by
        have hkl := (List.getElem?_eq_some_iff.1 hk).1
        rw [← ht, List.getElem?_take_of_lt (by omega)] at hk
        rw [← Array.getElem?_toList]; exact hk
      simp only [hgd j it hit]
      exact ⟨hc _ _ h1, hc _ _ h2, hc _ _ h3⟩
    · simp only [hgd j it hit]
      rcases h.items j it hit with h0 | ⟨g, h1, h2, h3⟩
      · exact .inl h0
      · exact .inr ⟨g, h1, h2, h.old j it g hit (by unfold Itm.home; rw [h1]; rfl), h3⟩
    · obtain ⟨h1, h2⟩ := h.more j it hj hit
      exact ⟨it.cs, (h.items j it hit).long, h1, h2⟩

/-- A byte of answer i, or of what was put behind it, is turned. -/
theorem Turns.set {w0 : World} {B ga gl n : Nat} {its : List Itm} {ms : Nat → Nat × Nat} {f sy : Nat → List UInt8} {w : World} (hh : Homes ga its) (h : Turns w0 B gl n its ms f sy w) {i : Nat} {it : Itm} (hi : i < n) (hit : its[i]? = some it) (b k : Nat) (d : UInt8) (hk : k < it.len)
    (hb : it.home = some b ∨ (ms i).1 = b) (hBw : B ≤ w0.heap.size) : Turns w0 B gl n its ms (fun j => if j = i ∧ it.home = some b then (f i).set k d else f j) sy (w.setCell ⟨b, k, none⟩ (bv d)) := by
  have hset : ∀ q, q ≠ b → (w.setCell ⟨b, k, none⟩ (bv d)).heap[q]? = w.heap[q]? := fun q hq => Below.heap_setCell w ⟨b, k, none⟩ _ q hq
  have hsz : (w.setCell ⟨b, k, none⟩ (bv d)).heap.size = w.heap.size := by simp [World.setCell]
  have hfr : ∀ {g l c : Nat} {cs : List UInt8}, Rw w g l c cs → g ≠ b → Rw (w.setCell ⟨b, k, none⟩ (bv d)) g l c cs := fun hR hne => hR.frame (by rw [hsz]; exact Nat.le_refl _) (hset _ hne)
  have hold : ∀ (j : Nat) (jt : Itm) (g : Nat), j < n → its[j]? = some jt → jt.home = some g → g < w0.heap.size ∧ B ≤ g := fun j jt g hj hjt hg => by
    rcases h.item j jt hj hjt with ⟨e, _⟩ | ⟨g', e, h1, h2, _⟩
    · unfold Itm.home at hg; rw [e] at hg; cases hg
    · unfold Itm.home at hg; rw [e] at hg
      have : g' = g := by simpa using hg
      subst this
      exact ⟨h2, h1⟩
  obtain ⟨front, hfl, hRm, hor⟩ := h.more i it hi hit
  have hbB : B ≤ b := by
    rcases hb with e | e
    · exact (hold i it b hi hit e).2
    · rcases hor with e' | e'
      · rw [← e]; exact (hold i it _ hi hit e').2
      · omega
  have hbgl : gl ≠ b := fun e => by
    rcases hb with e' | e'
    · have := (hold i it b hi hit e').1; have := h.glLt; omega
    · exact h.off i hi (by rw [e]; exact e'.symm)
  have hbm : ∀ j, j < n → j ≠ i → ∀ jt, its[j]? = some jt → (ms j).1 ≠ b := fun j hj hji jt hjt e => by
    rcases hb with e' | e'
    · obtain ⟨_, _, _, hor'⟩ := h.more j jt hj hjt
      rcases hor' with e2 | e2
      · rw [e] at e2; exact hh.two i j it jt b (fun x => hji x.symm) hit hjt e' e2
      · have := (hold i it b hi hit e').1; omega
    · exact h.apart j i hj hi hji (by rw [e, e'])
  have hbh : ∀ j, j < n → j ≠ i → ∀ jt g, its[j]? = some jt → jt.home = some g → g ≠ b := fun j hj hji jt g hjt hg e => by
    subst e
    rcases hb with e' | e'
    · exact hh.two i j it jt g (fun x => hji x.symm) hit hjt e' hg
    · rcases hor with e2 | e2
      · rw [e'] at e2; exact hh.two i j it jt g (fun x => hji x.symm) hit hjt e2 hg
      · have := (hold j jt g hj hjt hg).1; omega
  refine ⟨h.below.setCell (p := ⟨b, k, none⟩) hbB _, h.glLt, ?_, fun j jt hj hjt => ?_, fun j jt hj hjt => ?_, h.apart, h.off⟩
  · obtain ⟨cur, hc, hx⟩ := h.row
    exact ⟨cur, (hset gl hbgl).trans hc, hx⟩
  · by_cases hji : j = i
    · subst hji
      rw [hit] at hjt; injection hjt with hjt; subst hjt
      rcases h.item j it hj hit with ⟨e1, e2, e3, e4⟩ | ⟨g, e1, e2, e3, e4⟩
      · omega
      · have hhome : it.home = some g := by unfold Itm.home; rw [e1]; rfl
        refine .inr ⟨g, e1, e2, e3, ?_⟩
        by_cases hgb : g = b
        · subst hgb
          rw [if_pos ⟨rfl, hhome⟩]
          exact e4.set k hk d
        · rw [if_neg (fun e => hgb (by have := e.2; rw [hhome] at this; injection this))]
          exact hfr e4 hgb
    · rw [if_neg (fun e => hji e.1)]
      rcases h.item j jt hj hjt with h0 | ⟨g, e1, e2, e3, e4⟩
      · exact .inl h0
      · exact .inr ⟨g, e1, e2, e3, hfr e4 (hbh j hj hji jt g hjt (by unfold Itm.home; rw [e1]; rfl))⟩
  · by_cases hji : j = i
    · subst hji
      rw [hit] at hjt; injection hjt with hjt; subst hjt
      by_cases hmb : (ms j).1 = b
      · refine ⟨front.set k d, by rw [List.length_set]; exact hfl, ?_, hor⟩
        have := hRm.set k (by omega) d
        rw [List.set_append_left _ _ (by rw [hfl]; exact hk), hmb] at this
        rw [hmb]; exact this
      · exact ⟨front, hfl, hfr hRm hmb, hor⟩
    · obtain ⟨fr2, h1, h2, h3⟩ := h.more j jt hj hjt
      exact ⟨fr2, h1, hfr h2 (hbm j hj hji jt hjt), h3⟩

/-- What answer i is said to be is told anew. -/
theorem Turns.says {w0 : World} {B gl n : Nat} {its : List Itm} {ms : Nat → Nat × Nat} {f sy : Nat → List UInt8} {w : World} (h : Turns w0 B gl n its ms f sy w) {i : Nat} (cs : List UInt8) (hBw : B ≤ w0.heap.size) :
    Turns w0 B gl n its ms f (fun j => if j = i then cs else sy j) (w.setCell ⟨gl, i * 3 + 1, none⟩ (.string (str cs))) := by
  have hset : ∀ q, q ≠ gl → (w.setCell ⟨gl, i * 3 + 1, none⟩ (.string (str cs))).heap[q]? = w.heap[q]? := fun q hq => Below.heap_setCell w ⟨gl, i * 3 + 1, none⟩ _ q hq
  have hsz : (w.setCell ⟨gl, i * 3 + 1, none⟩ (.string (str cs))).heap.size = w.heap.size := by simp [World.setCell]
  have hfr : ∀ {g l c : Nat} {xs : List UInt8}, Rw w g l c xs → g ≠ gl → Rw (w.setCell ⟨gl, i * 3 + 1, none⟩ (.string (str cs))) g l c xs := fun hR hne => hR.frame (by rw [hsz]; exact Nat.le_refl _) (hset _ hne)
  have hgl := h.glLt
  refine ⟨h.below.setCell (p := ⟨gl, i * 3 + 1, none⟩) (by show B ≤ gl; omega) _, h.glLt, ?_, fun j jt hj hjt => ?_, fun j jt hj hjt => ?_, h.apart, h.off⟩
  · obtain ⟨cur, hc, hx⟩ := h.row
    refine ⟨_, hc.set_ (i * 3 + 1) _, fun j jt hj hjt => ?_⟩
    obtain ⟨h1, h2, h3⟩ := hx j jt hj hjt
    refine ⟨?_, ?_, ?_⟩
    · rw [Array.getElem?_setIfInBounds_ne (by omega)]; exact h1
    · by_cases hji : j = i
      · subst hji
        have hlt : j * 3 + 1 < cur.size := (Array.getElem?_eq_some_iff.1 h2).1
        rw [if_pos rfl, Array.getElem?_setIfInBounds_self_of_lt hlt]
      · rw [if_neg hji, Array.getElem?_setIfInBounds_ne (by omega)]; exact h2
    · rw [Array.getElem?_setIfInBounds_ne (by omega)]; exact h3
  · rcases h.item j jt hj hjt with h0 | ⟨g, e1, e2, e3, e4⟩
    · exact .inl h0
    · exact .inr ⟨g, e1, e2, e3, hfr e4 (by omega)⟩
  · obtain ⟨fr2, h1, h2, h3⟩ := h.more j jt hj hjt
    exact ⟨fr2, h1, hfr h2 (fun e => h.off j hj e.symm), h3⟩

theorem Turns.later {w0 : World} {B gl n : Nat} {its : List Itm} {ms : Nat → Nat × Nat} {f sy : Nat → List UInt8} {w w' : World} (h : Turns w0 B gl n its ms f sy w) (hb : Below w.heap.size w w') (hBw : B ≤ w.heap.size) : Turns w0 B gl n its ms f sy w' := by
  refine ⟨h.below.trans (hb.mono hBw), h.glLt, ?_, fun j jt hj hjt => ?_, fun j jt hj hjt => ?_, h.apart, h.off⟩
  · obtain ⟨cur, hc, hx⟩ := h.row
    exact ⟨cur, (hb.block gl hc.lt).trans hc, hx⟩
  · rcases h.item j jt hj hjt with h0 | ⟨g, e1, e2, e3, e4⟩
    · exact .inl h0
    · exact .inr ⟨g, e1, e2, e3, e4.below hb⟩
  · obtain ⟨fr2, h1, h2, h3⟩ := h.more j jt hj hjt
    exact ⟨fr2, h1, h2.below hb, h3⟩

theorem Turns.stands {w0 : World} {B gl n : Nat} {its : List Itm} {ms : Nat → Nat × Nat} {f sy : Nat → List UInt8} {w : World} (h : Turns w0 B gl n its ms f sy w) (hl : its.length = n) (hs : ∀ (j : Nat) (it : Itm), its[j]? = some it → it.len ≤ 70368744177664) (but : Int)
    (he : ∀ j, j < n → (j : Int) = but ∨ f j = sy j) : Stands w gl n but := fun i hi => by
  have hit : its[i]? = some (its[i]'(by omega)) := List.getElem?_eq_getElem (by omega)
  obtain ⟨it, hitv⟩ : ∃ it, its[i]'(by omega) = it := ⟨_, rfl⟩
  rw [hitv] at hit
  obtain ⟨cur, hc, hx⟩ := h.row
  obtain ⟨h1, h2, h3⟩ := hx i it hi hit
  obtain ⟨front, hf1, hf2, _⟩ := h.more i it hi hit
  have hbl : (f i).length = it.len ∧ Bytes w it.A (f i) := by
    rcases h.item i it hi hit with ⟨e1, e2, _, e4⟩ | ⟨g, e1, _, _, e4⟩
    · rw [e4, e2]; exact ⟨rfl, Bytes.nil _ _⟩
    · rw [e1]; exact ⟨e4.long, e4.bytes⟩
  refine ⟨it.A, it.len, it.cap, f i, sy i, (ms i).1, (ms i).2, ⟨(hc.cell _).trans h1, (hc.cell _).trans h2, (hc.cell _).trans h3, hbl.1, hs i it hit, hbl.2, fun k hk => ?_⟩, he i hi⟩
  have := hf2.holds (it.len + k) (UInt8.ofNat i) (by rw [List.getElem?_append_right (by omega), hf1, Nat.add_sub_cancel_left, List.getElem?_replicate, if_pos hk])
  rw [this]
  unfold bv
  rw [UInt8.toNat_ofNat']
  rfl

end Go.Proofs.Ytobfglnopihibaa
