/- Steps that came in. -/
import Derived.Test.YtdohfkblmadejaaU
import Derived.OpenShut
import Derived.Deep.Slices
import Derived.Deep.Fields
import Derived.Lib.SmallJoins
import Derived.ChangeSlices
namespace Go.Proofs.Ytdohfkblmadejaa
open Go.RowKit Go.ChangeShapes Go.WideShapes Dsk

theorem add_none {b off : Nat} (i : Nat) : (⟨b, off, none⟩ : Addr).add i = ⟨b, off + i, none⟩ := by unfold Addr.add; split <;> simp_all

section
variable {H : Type} {enc : TypeId × Value → H} {W : World} {n : Nat}
/-- A slice of bytes among what came in. -/
theorem bytes_in {v : Value} {y : DataW H × List MemPlace} (h : DataW.trod enc Try.prog W 0 (fun _ => true) true n 32 [v] = some y) : ∃ A len cap bs, v = .slice A len cap ∧ bs.length = len ∧ len ≤ cap ∧ cap ≤ maxLen ∧ Bytes W A bs := by
  rcases open_ints Try.underlying32 Try.underlying5 (by kernel_rfl) h with ⟨hcs, _⟩ | ⟨x, l, c, zs, hcs, _, hl, hm, hz, _, hcell, hwz⟩
  · simp at hcs
    exact ⟨none, 0, 0, [], hcs, rfl, Nat.le_refl _, Nat.zero_le _, Bytes.nil _ _⟩
  · simp at hcs
    have hrow : IsRow .u8 W (some x) l c zs := .inr ⟨x, rfl, hl, hm, by simpa using hz, hcell, hwz⟩
    obtain ⟨bs, h1, h2, _⟩ := bytes_of_row8 hrow
    exact ⟨some x, l, c, bs, hcs, h1, hl, hm, h2⟩
theorem ints_in {v : Value} {y : DataW H × List MemPlace} (h : DataW.trod enc Try.prog W 0 (fun _ => true) true n 35 [v] = some y) : ∃ A len cap ks, v = .slice A len cap ∧ ks.length = len ∧ len ≤ cap ∧ cap ≤ maxLen ∧ Ints W A ks := by
  rcases open_ints Try.underlying35 Try.underlying3 (by kernel_rfl) h with ⟨hcs, _⟩ | ⟨x, l, c, zs, hcs, _, hl, hm, hz, _, hcell, hwz⟩
  · simp at hcs
    exact ⟨none, 0, 0, [], hcs, rfl, Nat.le_refl _, Nat.zero_le _, Ints.nil _ _⟩
  · simp at hcs hz
    refine ⟨some x, l, c, zs.take l, hcs, by simp; omega, hl, hm, fun k z hk => ?_⟩
    have hkl : k < l := by have := (List.getElem?_eq_some_iff.1 hk).1; simp at this; omega
    rw [List.getElem?_take_of_lt hkl] at hk
    have hkz : k < zs.length := by omega
    have hc := hcell k hkz
    have hc0 := hcell 0 (by omega)
    obtain ⟨b, off, spot⟩ := x
    have hspot : spot = none := by simpa [Addr.add] using World.cell?_spot hc0
    subst hspot
    rw [add_none] at hc
    have hg : zs.getD k 0 = z := by simp [List.getD, hk]
    rw [hg] at hc
    exact ⟨b, off, rfl, World.block_lt_of_cell? W _ hc, hc, wf_i64 (hwz z (List.mem_of_getElem? hk))⟩
end

/-- A step. -/
structure St where
  kind : Int
  s : Int
  B : List UInt8
  K : List Int
instance : Inhabited St := ⟨⟨0, 0, [], []⟩⟩

/-- The zero step, as a value. -/
def zeroSt : Value := .agg #[.int .i64 0, .int .i64 0, .slice none 0 0, .slice none 0 0]
/-- Its fields' values. -/
structure StV (w : World) (v0 v1 v2 v3 : Value) (st : St) : Prop where
  kind : v0 = .int .i64 st.kind ∧ -9223372036854775808 ≤ st.kind ∧ st.kind < 9223372036854775808
  s : v1 = .int .i64 st.s ∧ -9223372036854775808 ≤ st.s ∧ st.s < 9223372036854775808
  B : ∃ A c, v2 = .slice A st.B.length c ∧ st.B.length ≤ c ∧ c ≤ maxLen ∧ Bytes w A st.B
  K : ∃ A c, v3 = .slice A st.K.length c ∧ st.K.length ≤ c ∧ c ≤ maxLen ∧ Ints w A st.K
theorem StV.below {w w' : World} {v0 v1 v2 v3 : Value} {st : St} (h : StV w v0 v1 v2 v3 st) (hb : Below w.heap.size w w') : StV w' v0 v1 v2 v3 st := by
  obtain ⟨h1, h2, ⟨A, c, a1, a2, a3, a4⟩, ⟨K, d, b1, b2, b3, b4⟩⟩ := h
  exact ⟨h1, h2, ⟨A, c, a1, a2, a3, a4.below hb⟩, ⟨K, d, b1, b2, b3, b4.below hb⟩⟩

/-- What a value of type []Step reads as. -/
def Steps (w : World) (A : Option Addr) (ls : List St) : Prop :=
  ∀ (r : Nat) (st : St), ls[r]? = some st → ∃ b off v0 v1 v2 v3, A = some ⟨b, off, none⟩ ∧ b < w.heap.size ∧ w.cell? ⟨b, off + r * 4, none⟩ = some v0 ∧ w.cell? ⟨b, off + r * 4 + 1, none⟩ = some v1 ∧ w.cell? ⟨b, off + r * 4 + 2, none⟩ = some v2 ∧ w.cell? ⟨b, off + r * 4 + 3, none⟩ = some v3 ∧ StV w v0 v1 v2 v3 st
theorem Steps.below {w w' : World} {A : Option Addr} {ls : List St} (h : Steps w A ls) (hb : Below w.heap.size w w') : Steps w' A ls := fun r st hr => by
  obtain ⟨b, off, v0, v1, v2, v3, e, hlt, c0, c1, c2, c3, hs⟩ := h r st hr
  exact ⟨b, off, v0, v1, v2, v3, e, Nat.lt_of_lt_of_le hlt hb.size, (hb.cell (p := ⟨b, off + r * 4, none⟩) hlt).trans c0, (hb.cell (p := ⟨b, off + r * 4 + 1, none⟩) hlt).trans c1, (hb.cell (p := ⟨b, off + r * 4 + 2, none⟩) hlt).trans c2, (hb.cell (p := ⟨b, off + r * 4 + 3, none⟩) hlt).trans c3, hs.below hb⟩
def OpenedSt (w : World) (v : Value) : Prop := ∃ v0 v1 v2 v3 st, v = .agg #[v0, v1, v2, v3] ∧ StV w v0 v1 v2 v3 st
def OpenedSs (w : World) (v : Value) : Prop := ∃ A len cap ls, v = .slice A len cap ∧ ls.length = len ∧ len ≤ cap ∧ cap ≤ maxLen ∧ Steps w A ls

theorem stv_in {H : Type} {enc : TypeId × Value → H} {W : World} {n : Nat} {v0 v1 v2 v3 : Value} {y0 y1 y2 y3 : DataW H × List MemPlace}
    (h0 : DataW.trod enc Try.prog W 0 (fun _ => true) true n 3 [v0] = some y0) (h1 : DataW.trod enc Try.prog W 0 (fun _ => true) true n 3 [v1] = some y1)
    (h2 : DataW.trod enc Try.prog W 0 (fun _ => true) true n 32 [v2] = some y2) (h3 : DataW.trod enc Try.prog W 0 (fun _ => true) true n 35 [v3] = some y3) : ∃ st, StV W v0 v1 v2 v3 st := by
  obtain ⟨k, e0, _, f0⟩ := DataW.trod_int Try.underlying3 h0
  obtain ⟨s, e1, _, f1⟩ := DataW.trod_int Try.underlying3 h1
  obtain ⟨A, l, c, bs, rfl, rfl, a1, a2, a3⟩ := bytes_in h2
  obtain ⟨K, l', c', ks, rfl, rfl, b1, b2, b3⟩ := ints_in h3
  simp at e0 e1
  exact ⟨⟨k, s, bs, ks⟩, ⟨e0, wf_i64 f0⟩, ⟨e1, wf_i64 f1⟩, ⟨A, c, rfl, a1, a2, a3⟩, ⟨K, c', rfl, b1, b2, b3⟩⟩

theorem openedSt {H : Type} {enc : TypeId × Value → H} {W : World} {v : Value} {d : DataW H} {p : List MemPlace} (hok : Value.okWide Try.prog W .any 0 37 v)
    (h : DataW.Trod enc Try.prog W 0 (fun _ => true) true 37 v d p) : OpenedSt W v := by
  obtain ⟨v0, v1, v2, v3, y0, y1, y2, y3, n, rfl, _, _, t0, t1, t2, t3⟩ := Joins.open_agg4 Try.underlying37 (by kernel_rfl) (by kernel_rfl) hok h
  obtain ⟨st, hs⟩ := stv_in t0 t1 t2 t3
  exact ⟨v0, v1, v2, v3, st, rfl, hs⟩

theorem openedSs {H : Type} {enc : TypeId × Value → H} {W : World} {v : Value} {d : DataW H} {p : List MemPlace} (hok : Value.okWide Try.prog W .any 0 22 v)
    (h : DataW.Trod enc Try.prog W 0 (fun _ => true) true 22 v d p) : OpenedSs W v := by
  obtain ⟨a0, len0, cap0, rfl⟩ := okWide_slice Try.underlying22 hok
  obtain ⟨fuel, hf⟩ := h
  rcases Deep.open_slice Try.underlying22 hf with ⟨hcs, _⟩ | ⟨x, l, c, m, n, D, Pl, hcs, _, hl, hm, hmm, _, hr⟩
  · simp [Value.cells] at hcs
    obtain ⟨rfl, rfl, rfl⟩ := hcs
    exact ⟨none, 0, 0, [], rfl, rfl, Nat.le_refl _, Nat.zero_le _, fun r bs h => by simp at h⟩
  · simp [Value.cells] at hcs
    obtain ⟨rfl, rfl, rfl⟩ := hcs
    simp only [if_true] at hmm
    subst hmm
    have hC : Try.prog.cellsOf 37 = 4 := by kernel_rfl
    have each : ∀ r, r < m → ∃ st : St, ∃ v0 v1 v2 v3, W.cell? (x.add (r * 4)) = some v0 ∧ W.cell? (x.add (r * 4 + 1)) = some v1 ∧ W.cell? (x.add (r * 4 + 2)) = some v2 ∧ W.cell? (x.add (r * 4 + 3)) = some v3 ∧ StV W v0 v1 v2 v3 st := by
      intro r hrm
      obtain ⟨cs', hc, ht⟩ := hr r hrm
      rw [hC] at hc
      obtain ⟨_, hlen, hat⟩ := World.cells?_some hc
      obtain ⟨c0, c1, c2, c3, rfl⟩ : ∃ c0 c1 c2 c3, cs' = [c0, c1, c2, c3] := by
        match cs', hlen with
        | [c0, c1, c2, c3], _ => exact ⟨c0, c1, c2, c3, rfl⟩
      obtain ⟨ys, n', _, _, _, hyl, hfl⟩ := DataW.trod_struct Try.underlying37 ht
      have ya : ∀ j, j < 4 → ∃ y, ys[j]? = some y := fun j hj => ⟨_, List.getElem?_eq_getElem (by rw [hyl]; exact hj)⟩
      obtain ⟨y0, hy0⟩ := ya 0 (by decide)
      obtain ⟨y1, hy1⟩ := ya 1 (by decide)
      obtain ⟨y2, hy2⟩ := ya 2 (by decide)
      obtain ⟨y3, hy3⟩ := ya 3 (by decide)
      obtain ⟨st, hs⟩ := stv_in ((hfl 0 _ rfl).trans hy0) ((hfl 1 _ rfl).trans hy1) ((hfl 2 _ rfl).trans hy2) ((hfl 3 _ rfl).trans hy3)
      have q : ∀ j, j < 4 → W.cell? (x.add (r * 4 + j)) = [c0, c1, c2, c3][j]? := fun j hj => by
        have := hat j hj
        rw [Deep.add_add] at this
        exact this
      exact ⟨st, c0, c1, c2, c3, q 0 (by decide), q 1 (by decide), q 2 (by decide), q 3 (by decide), hs⟩
    obtain ⟨F, hF⟩ := Deep.choose_lt each
    refine ⟨some x, len0, m, (List.range len0).map F, rfl, by simp, hl, hm, fun r st hst => ?_⟩
    rw [List.getElem?_map] at hst
    have hrl : r < len0 := by
      rcases Nat.lt_or_ge r len0 with h | h
      · exact h
      · rw [List.getElem?_eq_none (by simp; omega)] at hst; cases hst
    rw [List.getElem?_range hrl] at hst
    simp only [Option.map_some, Option.some.injEq] at hst
    obtain ⟨v0, v1, v2, v3, k0, k1, k2, k3, hs⟩ := hF r (by omega)
    obtain ⟨_, _, _, _, z0, _⟩ := hF 0 (by omega)
    obtain ⟨b, off, spot⟩ := x
    have hspot : spot = none := by simpa [Addr.add] using World.cell?_spot z0
    subst hspot
    rw [add_none] at k0 k1 k2 k3
    rw [hst] at hs
    exact ⟨b, off, v0, v1, v2, v3, rfl, World.block_lt_of_cell? W _ k0, k0, k1, k2, k3, hs⟩

end Go.Proofs.Ytdohfkblmadejaa
