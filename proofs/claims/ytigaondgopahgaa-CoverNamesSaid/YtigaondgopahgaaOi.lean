/- cover: infos that came in. -/
import Derived.Test.YtigaondgopahgaaOe
import Derived.Test.YtigaondgopahgaaIn
namespace Go.Proofs.Ytigaondgopahgaa
open Go.RowKit Go.ChangeShapes Go.WideShapes
set_option linter.unusedVariables false
section
variable {H : Type} {enc : TypeId × Value → H} {W : World}
theorem info_in (fuel : Nat) (cs : List Value) (y : DataW H × List MemPlace) (hlen : cs.length = 5) (ht : DataW.trod enc Try.prog W 0 (fun _ => true) true fuel 30 cs = some y) : ∃ x : InfX, cs = x.cells ∧ x.i.nm.length ≤ maxLen ∧ x.i.of.length ≤ maxLen := by
  obtain ⟨c0, c1, c2, c3, c4, rfl⟩ : ∃ c0 c1 c2 c3 c4, cs = [c0, c1, c2, c3, c4] := by
    match cs, hlen with
    | [c0, c1, c2, c3, c4], _ => exact ⟨c0, c1, c2, c3, c4, rfl⟩
  obtain ⟨ys, n', hfu, _, _, hyl, hfl⟩ := DataW.trod_struct Try.underlying30 ht
  have ya : ∀ j, j < 5 → ∃ y, ys[j]? = some y := fun j hj => ⟨_, List.getElem?_eq_getElem (by rw [hyl]; exact hj)⟩
  obtain ⟨y0, hy0⟩ := ya 0 (by decide)
  obtain ⟨y1, hy1⟩ := ya 1 (by decide)
  obtain ⟨y2, hy2⟩ := ya 2 (by decide)
  obtain ⟨y3, hy3⟩ := ya 3 (by decide)
  obtain ⟨y4, hy4⟩ := ya 4 (by decide)
  have h0 : DataW.trod enc Try.prog W 0 (fun _ => true) true n' 9 [c0] = some y0 := (hfl 0 _ rfl).trans hy0
  have h1 : DataW.trod enc Try.prog W 0 (fun _ => true) true n' 9 [c1] = some y1 := (hfl 1 _ rfl).trans hy1
  have h2 : DataW.trod enc Try.prog W 0 (fun _ => true) true n' 3 [c2] = some y2 := (hfl 2 _ rfl).trans hy2
  have h3 : DataW.trod enc Try.prog W 0 (fun _ => true) true n' 3 [c3] = some y3 := (hfl 3 _ rfl).trans hy3
  have h4 : DataW.trod enc Try.prog W 0 (fun _ => true) true n' 4 [c4] = some y4 := (hfl 4 _ rfl).trans hy4
  obtain ⟨s0, e0, hs0⟩ := DataW.trod_string Try.underlying9 h0
  obtain ⟨s1, e1, hs1⟩ := DataW.trod_string Try.underlying9 h1
  obtain ⟨s2, e2, _, f2⟩ := DataW.trod_int Try.underlying3 h2
  obtain ⟨s3, e3, _, f3⟩ := DataW.trod_int Try.underlying3 h3
  obtain ⟨s4, e4, _⟩ := DataW.trod_bool Try.underlying4 h4
  simp at e0 e1 e2 e3 e4
  refine ⟨⟨⟨s0.data.toList, s1.data.toList, s4⟩, s2, s3⟩, ?_, (show s0.data.toList.length ≤ maxLen by rw [Array.length_toList]; exact hs0.2), (show s1.data.toList.length ≤ maxLen by rw [Array.length_toList]; exact hs1.2)⟩
  show [c0, c1, c2, c3, c4] = [.string (str s0.data.toList), .string (str s1.data.toList), .int .i64 s2, .int .i64 s3, .bool s4]
  rw [e0, e1, e2, e3, e4, str_of, str_of]
end
def OpenedIs (w : World) (v : Value) : Prop := ∃ A len cap xs, v = .slice A len cap ∧ IAt (fun b => b < w.heap.size) w A len cap xs ∧ (A = none → cap = 0)
theorem openedIs {H : Type} {enc : TypeId × Value → H} {W : World} {v : Value} {d : DataW H} {p : List MemPlace} (hok : Value.okWide Try.prog W .any 0 23 v)
    (h : DataW.Trod enc Try.prog W 0 (fun _ => true) true 23 v d p) : OpenedIs W v := by
  obtain ⟨a0, len0, cap0, rfl⟩ := okWide_slice Try.underlying23 hok
  obtain ⟨fuel, hf⟩ := h
  have h : DataW.trod enc Try.prog W 0 (fun _ => true) true fuel 23 [.slice a0 len0 cap0] = some (d, p) := by simpa [Value.cells] using hf
  rcases DataW.trod_slice Try.underlying23 h with ⟨hcs, _⟩ | ⟨x, len, cap, elems, rest, n, hfu, hcs, _, _, hl, hm, hlen, hel, _, _⟩
  · simp at hcs
    obtain ⟨rfl, rfl, rfl⟩ := hcs
    exact ⟨none, 0, 0, [], rfl, ⟨rfl, Nat.le_refl _, Nat.zero_le _, fun r x hx => by simp at hx⟩, fun _ => rfl⟩
  · simp at hcs
    obtain ⟨rfl, rfl, rfl⟩ := hcs
    have hC : Try.prog.cellsOf 30 = 5 := by kernel_rfl
    have each : ∀ r, r < len0 → ∃ e : InfX, (∀ (j : Nat) (v : Value), e.cells[j]? = some v → W.cell? (x.add (r * 5 + j)) = some v) ∧ e.i.nm.length ≤ maxLen ∧ e.i.of.length ≤ maxLen := by
      intro r hrm
      have h1 := hel r hrm
      rw [hC, List.getElem?_eq_getElem (show r < elems.length by omega)] at h1
      cases hcz : W.cells? 0 (x.add (r * 5)) 5 with
      | none => rw [hcz] at h1; cases h1
      | some cs' =>
        rw [hcz] at h1
        obtain ⟨_, hlen5, hat⟩ := World.cells?_some hcz
        obtain ⟨e, he, hT⟩ := info_in n cs' _ hlen5 h1
        refine ⟨e, fun j v hj => ?_, hT⟩
        have hj5 : j < 5 := by
          have := (List.getElem?_eq_some_iff.1 hj).1
          exact this
        have := hat j hj5
        rw [Deep.add_add, he] at this
        rw [this]
        exact hj
    obtain ⟨F, hF⟩ : ∃ F : Nat → InfX, ∀ r, r < len0 → (∀ (j : Nat) (v : Value), (F r).cells[j]? = some v → W.cell? (x.add (r * 5 + j)) = some v) ∧ (F r).i.nm.length ≤ maxLen ∧ (F r).i.of.length ≤ maxLen := by
      refine ⟨fun r => if h : r < len0 then (each r h).choose else ⟨⟨[], [], false⟩, 0, 0⟩, fun r h => ?_⟩
      simp only [dif_pos h]
      exact (each r h).choose_spec
    refine ⟨some x, len0, cap0, (List.range len0).map F, rfl, ⟨by simp, hl, hm, fun r e he => ?_⟩, fun h => by cases h⟩
    rw [List.getElem?_map] at he
    have hrl : r < len0 := by
      rcases Nat.lt_or_ge r len0 with h | h
      · exact h
      · rw [List.getElem?_eq_none (by simp; omega)] at he; cases he
    rw [List.getElem?_range hrl] at he
    obtain rfl : F r = e := by simpa using he
    obtain ⟨k1, k2, k3⟩ := hF r hrl
    have c0 := (hF 0 (by omega)).1 0 _ rfl
    obtain ⟨b, off, spot⟩ := x
    have hspot : spot = none := by simpa [Addr.add] using World.cell?_spot c0
    subst hspot
    have hlt : b < W.heap.size := World.block_lt_of_cell? W _ c0
    refine ⟨b, off, rfl, hlt, hlt, fun j v hj => ?_, k2, k3⟩
    have := k1 j v hj
    rw [add_none, ← Nat.add_assoc] at this
    exact this
end Go.Proofs.Ytigaondgopahgaa
