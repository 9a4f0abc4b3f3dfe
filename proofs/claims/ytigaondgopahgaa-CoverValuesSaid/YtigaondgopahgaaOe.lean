/- cover: patterns that came in. -/
import Derived.Test.YtigaondgopahgaaLm
import Derived.OpenShut
import Derived.Deep.Slices
import Derived.Deep.Fields
import Derived.Lib.SmallJoins
import Derived.ChangeSlices
import Derived.ShutString
namespace Go.Proofs.Ytigaondgopahgaa
open Go.RowKit Go.ChangeShapes Go.WideShapes
set_option linter.unusedVariables false
open Ty
/-- A pattern that came in. -/
structure Tb (B : Nat) (w : World) (t : Ty) (A : Option Addr) (c : Nat) : Prop where
  at_ : Ty.At (fun b => b < B) w A t.ks
  len : t.ks.length ≤ c
  cap : c ≤ maxLen
  ok : t.ok
theorem add_none {b off : Nat} (i : Nat) : (⟨b, off, none⟩ : Addr).add i = ⟨b, off + i, none⟩ := by unfold Addr.add; split <;> simp_all
theorem str_of (s : ByteArray) : str s.data.toList = s := by
  unfold str
  simp
section
variable {H : Type} {enc : TypeId × Value → H} {W : World}
theorem row_in {fuel : Nat} (ih : ∀ n, n < fuel → ∀ (cs : List Value) (y : DataW H × List MemPlace), cs.length = 4 → DataW.trod enc Try.prog W 0 (fun _ => true) true n 40 cs = some y → ∃ (t : Ty) (A : Option Addr) (c : Nat), cs = t.cells A c ∧ Tb W.heap.size W t A c)
    {v : Value} {y : DataW H × List MemPlace} (h : DataW.trod enc Try.prog W 0 (fun _ => true) true fuel 22 [v] = some y) : ∃ A len cap ts, v = .slice A len cap ∧ ts.length = len ∧ len ≤ cap ∧ cap ≤ maxLen ∧ Ty.At (fun b => b < W.heap.size) W A ts ∧ (A = none → cap = 0) := by
  rcases DataW.trod_slice Try.underlying22 h with ⟨hcs, _⟩ | ⟨x, len, cap, elems, rest, n, hfu, hcs, _, _, hl, hm, hlen, hel, _, _⟩
  · simp at hcs
    exact ⟨none, 0, 0, [], hcs, rfl, Nat.le_refl _, Nat.zero_le _, .nil _, fun _ => rfl⟩
  · simp at hcs
    subst hcs
    have hC : Try.prog.cellsOf 40 = 4 := by kernel_rfl
    have each : ∀ r, r < len → ∃ e : Te, (∀ (j : Nat) (v : Value), e.cells[j]? = some v → W.cell? (x.add (r * 4 + j)) = some v) ∧ Tb W.heap.size W e.t e.A e.c := by
      intro r hrm
      have h1 := hel r hrm
      rw [hC, List.getElem?_eq_getElem (show r < elems.length by omega)] at h1
      cases hcz : W.cells? 0 (x.add (r * 4)) 4 with
      | none => rw [hcz] at h1; cases h1
      | some cs' =>
        rw [hcz] at h1
        obtain ⟨_, hlen4, hat⟩ := World.cells?_some hcz
        obtain ⟨t, A, c, e, hT⟩ := ih n (by omega) cs' _ hlen4 h1
        refine ⟨⟨t, A, c⟩, fun j v hj => ?_, hT⟩
        have hj4 : j < 4 := by
          have := (List.getElem?_eq_some_iff.1 hj).1
          rwa [Te.cells_len] at this
        have := hat j hj4
        rw [Deep.add_add, e] at this
        rw [this]
        exact hj
    obtain ⟨F, hF⟩ : ∃ F : Nat → Te, ∀ r, r < len → (∀ (j : Nat) (v : Value), (F r).cells[j]? = some v → W.cell? (x.add (r * 4 + j)) = some v) ∧ Tb W.heap.size W (F r).t (F r).A (F r).c := by
      refine ⟨fun r => if h : r < len then (each r h).choose else ⟨.node 0 [] 0 [], none, 0⟩, fun r h => ?_⟩
      simp only [dif_pos h]
      exact (each r h).choose_spec
    refine ⟨some x, len, cap, (List.range len).map fun r => (F r).t, rfl, by simp, hl, hm, ?_, fun h => by cases h⟩
    rcases Nat.eq_zero_or_pos len with h0 | h0
    · subst h0
      exact .nil _
    · obtain ⟨hc0, _⟩ := hF 0 h0
      obtain ⟨b, off, spot⟩ := x
      have hspot : spot = none := by simpa [Addr.add] using World.cell?_spot (hc0 0 _ rfl)
      subst hspot
      have hlt : b < W.heap.size := World.block_lt_of_cell? W _ (hc0 0 _ rfl)
      have get : ∀ (r : Nat) (t : Ty), ((List.range len).map fun r => (F r).t)[r]? = some t → r < len ∧ (F r).t = t := fun r t ht => by
        rw [List.getElem?_map] at ht
        have hrl : r < len := by
          rcases Nat.lt_or_ge r len with h | h
          · exact h
          · rw [List.getElem?_eq_none (by simp; omega)] at ht; cases ht
        rw [List.getElem?_range hrl] at ht
        exact ⟨hrl, by simpa using ht⟩
      refine .mk b off _ (fun r => (F r).A) (fun r => (F r).c) hlt hlt (fun r t ht => ?_) fun r t ht => ?_
      · obtain ⟨hrl, rfl⟩ := get r t ht
        obtain ⟨k1, k2⟩ := hF r hrl
        refine ⟨fun j v hj => ?_, k2.ok, k2.len, k2.cap⟩
        have := k1 j v hj
        rw [add_none, ← Nat.add_assoc] at this
        exact this
      · obtain ⟨hrl, rfl⟩ := get r t ht
        exact (hF r hrl).2.at_
theorem ty_in : ∀ (fuel : Nat) (cs : List Value) (y : DataW H × List MemPlace), cs.length = 4 → DataW.trod enc Try.prog W 0 (fun _ => true) true fuel 40 cs = some y → ∃ (t : Ty) (A : Option Addr) (c : Nat), cs = t.cells A c ∧ Tb W.heap.size W t A c := by
  intro fuel
  induction fuel using Nat.strongRecOn with
  | ind fuel ih =>
  intro cs y hlen ht
  obtain ⟨c0, c1, c2, c3, rfl⟩ : ∃ c0 c1 c2 c3, cs = [c0, c1, c2, c3] := by
    match cs, hlen with
    | [c0, c1, c2, c3], _ => exact ⟨c0, c1, c2, c3, rfl⟩
  obtain ⟨ys, n', hfu, _, _, hyl, hfl⟩ := DataW.trod_struct Try.underlying40 ht
  have ya : ∀ j, j < 4 → ∃ y, ys[j]? = some y := fun j hj => ⟨_, List.getElem?_eq_getElem (by rw [hyl]; exact hj)⟩
  obtain ⟨y0, hy0⟩ := ya 0 (by decide)
  obtain ⟨y1, hy1⟩ := ya 1 (by decide)
  obtain ⟨y2, hy2⟩ := ya 2 (by decide)
  obtain ⟨y3, hy3⟩ := ya 3 (by decide)
  have h0 : DataW.trod enc Try.prog W 0 (fun _ => true) true n' 5 [c0] = some y0 := (hfl 0 _ rfl).trans hy0
  have h1 : DataW.trod enc Try.prog W 0 (fun _ => true) true n' 9 [c1] = some y1 := (hfl 1 _ rfl).trans hy1
  have h2 : DataW.trod enc Try.prog W 0 (fun _ => true) true n' 2 [c2] = some y2 := (hfl 2 _ rfl).trans hy2
  have h3 : DataW.trod enc Try.prog W 0 (fun _ => true) true n' 22 [c3] = some y3 := (hfl 3 _ rfl).trans hy3
  obtain ⟨s0, e0, _, f0⟩ := DataW.trod_int Try.underlying5 h0
  obtain ⟨s1, e1, hs1⟩ := DataW.trod_string Try.underlying9 h1
  obtain ⟨s2, e2, _, f2⟩ := DataW.trod_int Try.underlying2 h2
  obtain ⟨A, len, cap, ts, e3, k1, k2, k3, k4, _⟩ := row_in (fun n hn => ih n (by omega)) h3
  simp at e0 e1 e2
  obtain ⟨k, rfl, hk⟩ := wf_u8n f0
  refine ⟨.node k s1.data.toList s2 ts, A, cap, ?_, ⟨k4, by show ts.length ≤ cap; omega, k3, ⟨hk, wf_i64 f2, (show s1.data.toList.length ≤ maxLen by rw [Array.length_toList]; exact hs1.2)⟩⟩⟩
  show [c0, c1, c2, c3] = [.int .u8 (k : Int), .string (str s1.data.toList), .int .i64 s2, .slice A ts.length cap]
  rw [e0, e1, e2, e3, str_of, k1]
end
def OpenedT (w : World) (v : Value) : Prop := ∃ (t : Ty) (A : Option Addr) (c : Nat), v = t.val A c ∧ Tb w.heap.size w t A c
def OpenedTs (w : World) (v : Value) : Prop := ∃ A len cap ts, v = .slice A len cap ∧ ts.length = len ∧ len ≤ cap ∧ cap ≤ maxLen ∧ Ty.At (fun b => b < w.heap.size) w A ts ∧ (A = none → cap = 0)
abbrev zeroTyV : Value := .agg #[.int .u8 0, .string ⟨#[]⟩, .int .i64 0, .slice none 0 0]
theorem openedT {H : Type} {enc : TypeId × Value → H} {W : World} {v : Value} {d : DataW H} {p : List MemPlace} (hok : Value.okWide Try.prog W .any 0 40 v)
    (h : DataW.Trod enc Try.prog W 0 (fun _ => true) true 40 v d p) : OpenedT W v := by
  obtain ⟨cs, rfl, hcz⟩ := okWide_struct Try.underlying40 hok
  obtain ⟨fuel, hf⟩ := h
  have hC : Try.prog.cellsOf 40 = 4 := by kernel_rfl
  rw [hC] at hcz
  obtain ⟨t, A, c, e, hT⟩ := ty_in fuel cs.toList _ (by simpa using hcz) (by simpa [Value.cells] using hf)
  exact ⟨t, A, c, by rw [show cs = cs.toList.toArray by simp, e]; rfl, hT⟩
theorem openedTs {H : Type} {enc : TypeId × Value → H} {W : World} {v : Value} {d : DataW H} {p : List MemPlace} (hok : Value.okWide Try.prog W .any 0 22 v)
    (h : DataW.Trod enc Try.prog W 0 (fun _ => true) true 22 v d p) : OpenedTs W v := by
  obtain ⟨a0, len0, cap0, rfl⟩ := okWide_slice Try.underlying22 hok
  obtain ⟨fuel, hf⟩ := h
  exact row_in (fun n _ cs y => ty_in n cs y) (by simpa [Value.cells] using hf)
end Go.Proofs.Ytigaondgopahgaa
