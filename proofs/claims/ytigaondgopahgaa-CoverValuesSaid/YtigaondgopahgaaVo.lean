/- cover: rows of four bytes that came in. -/
import Derived.Test.YtigaondgopahgaaVs
import Derived.OpenShut
import Derived.Laws.IdiomArrays
namespace Go.Proofs.Ytigaondgopahgaa
open Go.RowKit Go.ChangeShapes Go.WideShapes
set_option linter.unusedVariables false
/-- Rows of four bytes in memory. -/
def R4 (w : World) (A : Option Addr) (m : Nat) (X : Nat → Nat → Nat) : Prop := ∀ r, r < m → ∃ b off, A = some ⟨b, off, none⟩ ∧ b < w.heap.size ∧ ∀ k, k < 4 → w.cell? ⟨b, off + r * 4 + k, none⟩ = some (.int .u8 (X r k : Int)) ∧ X r k < 256
theorem R4.bel {w w' : World} {A : Option Addr} {m : Nat} {X : Nat → Nat → Nat} (h : R4 w A m X) (hb : Below w.heap.size w w') : R4 w' A m X := fun r hr => by
  obtain ⟨b, off, e, hlt, hc⟩ := h r hr
  exact ⟨b, off, e, Nat.lt_of_lt_of_le hlt hb.size, fun k hk => ⟨(hb.cell (p := ⟨b, off + r * 4 + k, none⟩) hlt).trans (hc k hk).1, (hc k hk).2⟩⟩
def OpenedR (w : World) (v : Value) : Prop := ∃ A m c X, v = .slice A m c ∧ m ≤ c ∧ c ≤ maxLen ∧ R4 w A m X
theorem openedR {H : Type} {enc : TypeId × Value → H} {W : World} {v : Value} {d : DataW H} {p : List MemPlace} (hok : Value.okWide Try.prog W .any 0 33 v)
    (h : DataW.Trod enc Try.prog W 0 (fun _ => true) true 33 v d p) : OpenedR W v := by
  obtain ⟨a0, len0, cap0, rfl⟩ := okWide_slice Try.underlying33 hok
  obtain ⟨fuel, hf⟩ := h
  rcases DataW.trod_slice Try.underlying33 (show DataW.trod enc Try.prog W 0 (fun _ => true) true fuel 33 [.slice a0 len0 cap0] = some (d, p) by simpa [Value.cells] using hf) with ⟨hcs, _⟩ | ⟨x, len, cap, elems, rest, n, hfu, hcs, _, _, hl, hm, hlen, hel, _, _⟩
  · simp at hcs
    obtain ⟨rfl, rfl, rfl⟩ := hcs
    exact ⟨none, 0, 0, fun _ _ => 0, rfl, Nat.le_refl _, Nat.zero_le _, fun r hr => by omega⟩
  · simp at hcs
    obtain ⟨rfl, hl0, hc0⟩ := hcs
    have hC : Try.prog.cellsOf 42 = 4 := by kernel_rfl
    have hC1 : Try.prog.cellsOf 5 = 1 := by kernel_rfl
    have each : ∀ r, r < len → ∃ f : Nat → Nat, ∀ k, k < 4 → W.cell? (x.add (r * 4 + k)) = some (.int .u8 (f k : Int)) ∧ f k < 256 := by
      intro r hrm
      have h1 := hel r hrm
      rw [hC, List.getElem?_eq_getElem (show r < elems.length by omega)] at h1
      cases hcz : W.cells? 0 (x.add (r * 4)) 4 with
      | none => rw [hcz] at h1; cases h1
      | some cs' =>
        rw [hcz] at h1
        obtain ⟨_, hlen4, hat⟩ := World.cells?_some hcz
        obtain ⟨c0, c1, c2, c3, rfl⟩ : ∃ c0 c1 c2 c3, cs' = [c0, c1, c2, c3] := by
          match cs', hlen4 with
          | [c0, c1, c2, c3], _ => exact ⟨c0, c1, c2, c3, rfl⟩
        have key : ∀ k, k < 4 → ∃ m : Nat, [c0, c1, c2, c3][k]? = some (.int .u8 (m : Int)) ∧ m < 256 := by
          obtain ⟨y0, y1, y2, y3, n', _, g0, g1, g2, g3⟩ := trod_array4 Try.underlying42 hC1 h1
          have one : ∀ {c : Value} {y : DataW H × List MemPlace}, DataW.trod enc Try.prog W 0 (fun _ => true) true n' 5 [c] = some y → ∃ m : Nat, c = .int .u8 (m : Int) ∧ m < 256 := fun {c y} g => by
            obtain ⟨s0, e0, _, f0⟩ := DataW.trod_int Try.underlying5 g
            simp at e0
            obtain ⟨k, rfl, hk⟩ := wf_u8n f0
            exact ⟨k, e0, hk⟩
          obtain ⟨m0, rfl, l0⟩ := one g0
          obtain ⟨m1, rfl, l1⟩ := one g1
          obtain ⟨m2, rfl, l2⟩ := one g2
          obtain ⟨m3, rfl, l3⟩ := one g3
          intro k hk
          match k, hk with
          | 0, _ => exact ⟨m0, rfl, l0⟩
          | 1, _ => exact ⟨m1, rfl, l1⟩
          | 2, _ => exact ⟨m2, rfl, l2⟩
          | 3, _ => exact ⟨m3, rfl, l3⟩
        obtain ⟨m0, e0, l0⟩ := key 0 (by decide)
        obtain ⟨m1, e1, l1⟩ := key 1 (by decide)
        obtain ⟨m2, e2, l2⟩ := key 2 (by decide)
        obtain ⟨m3, e3, l3⟩ := key 3 (by decide)
        refine ⟨fun k => if k = 0 then m0 else if k = 1 then m1 else if k = 2 then m2 else m3, fun k hk => ?_⟩
        have := hat k hk
        rw [Deep.add_add] at this
        rw [this]
        match k, hk with
        | 0, _ => exact ⟨e0, l0⟩
        | 1, _ => exact ⟨e1, l1⟩
        | 2, _ => exact ⟨e2, l2⟩
        | 3, _ => exact ⟨e3, l3⟩
    obtain ⟨F, hF⟩ := Classical.skolem.1 (fun r => show ∃ f : Nat → Nat, r < len → ∀ k, k < 4 → W.cell? (x.add (r * 4 + k)) = some (.int .u8 (f k : Int)) ∧ f k < 256 from by
      by_cases hr : r < len
      · obtain ⟨f, hf⟩ := each r hr
        exact ⟨f, fun _ => hf⟩
      · exact ⟨fun _ => 0, fun h => absurd h hr⟩)
    refine ⟨some x, len, cap, F, by rw [hl0, hc0], hl, hm, fun r hr => ?_⟩
    have h0 := (hF 0 (by omega) 0 (by decide)).1
    obtain ⟨b, off, spot⟩ := x
    have hspot : spot = none := by simpa [Addr.add] using World.cell?_spot h0
    subst hspot
    rw [add_none] at h0
    refine ⟨b, off, rfl, World.block_lt_of_cell? W _ h0, fun k hk => ?_⟩
    have := hF r hr k hk
    rw [add_none, ← Nat.add_assoc] at this
    exact this
end Go.Proofs.Ytigaondgopahgaa
