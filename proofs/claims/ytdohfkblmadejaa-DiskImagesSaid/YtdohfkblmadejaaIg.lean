/- Images that came in. -/
import Derived.Test.YtdohfkblmadejaaIf
import Derived.OpenShut
import Derived.Deep.Matrix
namespace Go.Proofs.Ytdohfkblmadejaa
open Go.RowKit Go.ChangeShapes Go.WideShapes Dsk

/-- The bytes of a list of integers that are bytes. -/
def toB (zs : List Int) : List UInt8 := zs.map fun z => UInt8.ofNat z.toNat
def OpenedIm (w : World) (v : Value) : Prop := ∃ A len cap rows, v = .slice A len cap ∧ rows.length = len ∧ len ≤ cap ∧ cap ≤ maxLen ∧ Img w A rows

theorem openedIm {H : Type} {enc : TypeId × Value → H} {W : World} {v : Value} {d : DataW H} {p : List MemPlace} (hok : Value.okWide Try.prog W .any 0 42 v)
    (h : DataW.Trod enc Try.prog W 0 (fun _ => true) true 42 v d p) : OpenedIm W v := by
  obtain ⟨a0, len0, cap0, rfl⟩ := okWide_slice Try.underlying42 hok
  obtain ⟨fuel, hf⟩ := h
  rcases Deep.open_int_rows Try.underlying42 Try.underlying32 Try.underlying5 (by kernel_rfl) (by kernel_rfl) hf with ⟨hcs, _⟩ | ⟨x, l, c, A, L, C, Z, hcs, _, hl, hm, _, hr⟩
  · simp [Value.cells] at hcs
    obtain ⟨rfl, rfl, rfl⟩ := hcs
    exact ⟨none, 0, 0, [], rfl, rfl, Nat.le_refl _, Nat.zero_le _, fun r bs h => by simp at h⟩
  · simp [Value.cells] at hcs
    obtain ⟨rfl, rfl, rfl⟩ := hcs
    refine ⟨some x, len0, cap0, (List.range len0).map fun r => toB ((Z r).take (L r)), rfl, by simp, hl, hm, fun r bs hbs => ?_⟩
    rw [List.getElem?_map] at hbs
    have hrl : r < len0 := by
      rcases Nat.lt_or_ge r len0 with h | h
      · exact h
      · rw [List.getElem?_eq_none (by simp; omega)] at hbs; cases hbs
    rw [List.getElem?_range hrl] at hbs
    simp only [Option.map_some, Option.some.injEq] at hbs
    obtain ⟨h1, h2, h3, h4, h5, h6, h7⟩ := hr r (by omega)
    have hc0 := (hr 0 (by omega)).1
    obtain ⟨b, off, spot⟩ := x
    have hspot : spot = none := by simpa [Addr.add] using World.cell?_spot hc0
    subst hspot
    rw [add_none] at h1
    have hlen : bs.length = L r := by rw [← hbs]; simp [toB]; omega
    refine ⟨b, off, .slice (A r) (L r) (C r), rfl, World.block_lt_of_cell? W _ h1, h1, A r, C r, by rw [hlen], by omega, h3, ?_, fun _ _ => trivial⟩
    cases hA : A r with
    | none =>
      have := h6 hA
      intro k c hk
      rw [List.getElem?_eq_none (by omega)] at hk
      cases hk
    | some a' =>
      obtain ⟨_, hcell⟩ := h7 a' hA
      intro k c hk
      rw [← hbs] at hk
      have hkl : k < L r := by
        rcases Nat.lt_or_ge k (L r) with h | h
        · exact h
        · rw [List.getElem?_eq_none (by simp [toB]; omega)] at hk; cases hk
      have hkz : k < (Z r).length := by omega
      unfold toB at hk
      rw [List.getElem?_map, List.getElem?_take_of_lt hkl, List.getElem?_eq_getElem hkz] at hk
      simp only [Option.map_some, Option.some.injEq] at hk
      have hc := hcell k (by omega)
      have hc0' := hcell 0 (by omega)
      obtain ⟨b', off', spot'⟩ := a'
      have hspot' : spot' = none := by simpa [Addr.add] using World.cell?_spot hc0'
      subst hspot'
      rw [add_none] at hc
      have hwf := wf_u8 (h5 (Z r)[k] (List.getElem_mem hkz))
      have hg : (Z r).getD k 0 = (Z r)[k] := by simp [List.getD, hkz]
      refine ⟨b', off', rfl, World.block_lt_of_cell? W _ hc, ?_⟩
      rw [hc, hg, ← hk, UInt8.toNat_ofNat']
      congr 2
      omega

end Go.Proofs.Ytdohfkblmadejaa
