/- types: pairs of types that came in. -/
import Derived.Test.YtndhojnfjlkojaaOp
namespace Go.Proofs.Ytndhojnfjlkojaa
open Go.RowKit Go.ChangeShapes Go.WideShapes
set_option linter.unusedVariables false
open Ty
/-- A row of pairs of types. -/
def PsM (w : World) (A : Option Addr) (ps : List (Te × Te)) : Prop :=
  ∀ (r : Nat) (p : Te × Te), ps[r]? = some p → ∃ b off, A = some ⟨b, off, none⟩ ∧ b < w.heap.size ∧ (∀ (j : Nat) (v : Value), p.1.cells[j]? = some v → w.cell? ⟨b, off + r * 8 + j, none⟩ = some v) ∧ (∀ (j : Nat) (v : Value), p.2.cells[j]? = some v → w.cell? ⟨b, off + r * 8 + (4 + j), none⟩ = some v) ∧ Tb w.heap.size w p.1.t p.1.A p.1.c ∧ Tb w.heap.size w p.2.t p.2.A p.2.c
theorem PsM.bel {w w' : World} {A : Option Addr} {ps : List (Te × Te)} (h : PsM w A ps) (hb : Below w.heap.size w w') : PsM w' A ps := fun r p hp => by
  obtain ⟨b, off, e, hlt, h1, h2, h3, h4⟩ := h r p hp
  exact ⟨b, off, e, Nat.lt_of_lt_of_le hlt hb.size, fun j v hj => (hb.cell (p := ⟨b, off + r * 8 + j, none⟩) hlt).trans (h1 j v hj), fun j v hj => (hb.cell (p := ⟨b, off + r * 8 + (4 + j), none⟩) hlt).trans (h2 j v hj), ⟨(h3.at_.bel hb).now, h3.len, h3.cap, h3.ok⟩, ⟨(h4.at_.bel hb).now, h4.len, h4.cap, h4.ok⟩⟩
def OpenedPs (w : World) (v : Value) : Prop := ∃ A len cap ps, v = .slice A len cap ∧ ps.length = len ∧ len ≤ cap ∧ cap ≤ maxLen ∧ PsM w A ps
set_option maxRecDepth 20000 in
theorem openedPs {H : Type} {enc : TypeId × Value → H} {W : World} {v : Value} {d : DataW H} {p : List MemPlace} (hok : Value.okWide Try.prog W .any 0 41 v)
    (h : DataW.Trod enc Try.prog W 0 (fun _ => true) true 41 v d p) : OpenedPs W v := by
  obtain ⟨a0, len0, cap0, rfl⟩ := okWide_slice Try.underlying41 hok
  obtain ⟨fuel, hf⟩ := h
  rcases Deep.open_slice Try.underlying41 hf with ⟨hcs, _⟩ | ⟨x, l, c, m, n, D, Pl, hcs, _, hl, hm, hmm, _, hr⟩
  · simp [Value.cells] at hcs
    obtain ⟨rfl, rfl, rfl⟩ := hcs
    exact ⟨none, 0, 0, [], rfl, rfl, Nat.le_refl _, Nat.zero_le _, fun r bs h => by simp at h⟩
  · simp [Value.cells] at hcs
    obtain ⟨rfl, rfl, rfl⟩ := hcs
    simp only [if_true] at hmm
    subst hmm
    have hC : Try.prog.cellsOf 43 = 8 := by kernel_rfl
    have each : ∀ r, r < m → ∃ e : Te × Te, (∀ (j : Nat) (v : Value), e.1.cells[j]? = some v → W.cell? (x.add (r * 8 + j)) = some v) ∧ (∀ (j : Nat) (v : Value), e.2.cells[j]? = some v → W.cell? (x.add (r * 8 + (4 + j))) = some v) ∧ Tb W.heap.size W e.1.t e.1.A e.1.c ∧ Tb W.heap.size W e.2.t e.2.A e.2.c := by
      intro r hrm
      obtain ⟨cs', hc, ht⟩ := hr r hrm
      rw [hC] at hc
      obtain ⟨_, hlen, hat⟩ := World.cells?_some hc
      obtain ⟨c0, c1, c2, c3, c4, c5, c6, c7, rfl⟩ : ∃ c0 c1 c2 c3 c4 c5 c6 c7, cs' = [c0, c1, c2, c3, c4, c5, c6, c7] := by
        match cs', hlen with
        | [c0, c1, c2, c3, c4, c5, c6, c7], _ => exact ⟨c0, c1, c2, c3, c4, c5, c6, c7, rfl⟩
      obtain ⟨ys, n', _, _, _, hyl, hfl⟩ := DataW.trod_struct Try.underlying43 ht
      have ya : ∀ j, j < 2 → ∃ y, ys[j]? = some y := fun j hj => ⟨_, List.getElem?_eq_getElem (by rw [hyl]; exact hj)⟩
      obtain ⟨y0, hy0⟩ := ya 0 (by decide)
      obtain ⟨y1, hy1⟩ := ya 1 (by decide)
      have h0 : DataW.trod enc Try.prog W 0 (fun _ => true) true n' 24 [c0, c1, c2, c3] = some y0 := (hfl 0 _ rfl).trans hy0
      have h1 : DataW.trod enc Try.prog W 0 (fun _ => true) true n' 24 [c4, c5, c6, c7] = some y1 := (hfl 1 _ rfl).trans hy1
      obtain ⟨t, A, c, e, hT⟩ := ty_in _ _ _ rfl h0
      obtain ⟨t', A', c', e', hT'⟩ := ty_in _ _ _ rfl h1
      refine ⟨(⟨t, A, c⟩, ⟨t', A', c'⟩), fun j v hj => ?_, fun j v hj => ?_, hT, hT'⟩
      · have hj4 : j < 4 := by
          have := (List.getElem?_eq_some_iff.1 hj).1
          rwa [Te.cells_len] at this
        have h2 := hat j (by omega)
        rw [Deep.add_add] at h2
        have h3 : (t.cells A c)[j]? = some v := hj
        rw [← e] at h3
        rw [h2]
        match j, hj4 with
        | 0, _ => exact h3
        | 1, _ => exact h3
        | 2, _ => exact h3
        | 3, _ => exact h3
      · have hj4 : j < 4 := by
          have := (List.getElem?_eq_some_iff.1 hj).1
          rwa [Te.cells_len] at this
        have h2 := hat (4 + j) (by omega)
        rw [Deep.add_add] at h2
        have h3 : (t'.cells A' c')[j]? = some v := hj
        rw [← e'] at h3
        rw [h2]
        match j, hj4 with
        | 0, _ => exact h3
        | 1, _ => exact h3
        | 2, _ => exact h3
        | 3, _ => exact h3
    obtain ⟨F, hF⟩ : ∃ F : Nat → Te × Te, ∀ r, r < m → (∀ (j : Nat) (v : Value), (F r).1.cells[j]? = some v → W.cell? (x.add (r * 8 + j)) = some v) ∧ (∀ (j : Nat) (v : Value), (F r).2.cells[j]? = some v → W.cell? (x.add (r * 8 + (4 + j))) = some v) ∧ Tb W.heap.size W (F r).1.t (F r).1.A (F r).1.c ∧ Tb W.heap.size W (F r).2.t (F r).2.A (F r).2.c := by
      refine ⟨fun r => if h : r < m then (each r h).choose else (⟨.node 0 [] 0 [], none, 0⟩, ⟨.node 0 [] 0 [], none, 0⟩), fun r h => ?_⟩
      simp only [dif_pos h]
      exact (each r h).choose_spec
    refine ⟨some x, len0, m, (List.range len0).map F, rfl, by simp, hl, hm, fun r e he => ?_⟩
    rw [List.getElem?_map] at he
    have hrl : r < len0 := by
      rcases Nat.lt_or_ge r len0 with h | h
      · exact h
      · rw [List.getElem?_eq_none (by simp; omega)] at he; cases he
    rw [List.getElem?_range hrl] at he
    simp only [Option.map_some, Option.some.injEq] at he
    subst he
    obtain ⟨k0, k1, k2, k3⟩ := hF r (by omega)
    obtain ⟨b, off, spot⟩ := x
    have hspot : spot = none := by simpa [Addr.add] using World.cell?_spot ((hF 0 (by omega)).1 0 _ rfl)
    subst hspot
    refine ⟨b, off, rfl, ?_, fun j v hj => ?_, fun j v hj => ?_, k2, k3⟩
    · have := k0 0 _ rfl
      rw [add_none] at this
      exact World.block_lt_of_cell? W _ this
    · have := k0 j v hj
      rw [add_none, ← Nat.add_assoc] at this
      exact this
    · have := k1 j v hj
      rw [add_none, ← Nat.add_assoc] at this
      exact this
end Go.Proofs.Ytndhojnfjlkojaa
