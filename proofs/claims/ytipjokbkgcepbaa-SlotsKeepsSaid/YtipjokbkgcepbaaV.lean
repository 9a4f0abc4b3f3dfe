/- Steps that came in; long. -/
import Derived.Test.YtipjokbkgcepbaaK
import Derived.OpenShut
import Derived.Deep.Slices
import Derived.Deep.Fields
import Derived.Lib.SmallJoins
import Derived.ChangeSlices
namespace Go.Proofs.Ytipjokbkgcepbaa
open Go.RowKit Go.ChangeShapes Go.WideShapes Slt

theorem add_none {b off : Nat} (i : Nat) : (⟨b, off, none⟩ : Addr).add i = ⟨b, off + i, none⟩ := by unfold Addr.add; split <;> simp_all

section
variable {H : Type} {enc : TypeId × Value → H} {W : World} {n : Nat}
/-- A slice of bytes among what came in. -/
theorem bytes_in {v : Value} {y : DataW H × List MemPlace} (h : DataW.trod enc Try.prog W 0 (fun _ => true) true n 22 [v] = some y) : ∃ A len cap bs, v = .slice A len cap ∧ bs.length = len ∧ len ≤ cap ∧ cap ≤ maxLen ∧ Bytes W A bs := by
  rcases open_ints Try.underlying22 Try.underlying5 (by kernel_rfl) h with ⟨hcs, _⟩ | ⟨x, l, c, zs, hcs, _, hl, hm, hz, _, hcell, hwz⟩
  · simp at hcs
    exact ⟨none, 0, 0, [], hcs, rfl, Nat.le_refl _, Nat.zero_le _, Bytes.nil _ _⟩
  · simp at hcs
    have hrow : IsRow .u8 W (some x) l c zs := .inr ⟨x, rfl, hl, hm, by simpa using hz, hcell, hwz⟩
    obtain ⟨bs, h1, h2, _⟩ := bytes_of_row8 hrow
    exact ⟨some x, l, c, bs, hcs, h1, hl, hm, h2⟩
end

/-- A step. -/
structure St where
  R : List UInt8
  s : Int
instance : Inhabited St := ⟨⟨[], 0⟩⟩
structure StV (w : World) (v0 v1 : Value) (st : St) : Prop where
  R : ∃ A c, v0 = .slice A st.R.length c ∧ st.R.length ≤ c ∧ c ≤ maxLen ∧ Bytes w A st.R
  s : v1 = .int .i64 st.s ∧ -9223372036854775808 ≤ st.s ∧ st.s < 9223372036854775808
theorem StV.below {w w' : World} {v0 v1 : Value} {st : St} (h : StV w v0 v1 st) (hb : Below w.heap.size w w') : StV w' v0 v1 st := by
  obtain ⟨⟨A, c, a1, a2, a3, a4⟩, h2⟩ := h
  exact ⟨⟨A, c, a1, a2, a3, a4.below hb⟩, h2⟩
/-- What a value of type []Step reads as. -/
def Steps (w : World) (A : Option Addr) (ls : List St) : Prop :=
  ∀ (r : Nat) (st : St), ls[r]? = some st → ∃ b off v0 v1, A = some ⟨b, off, none⟩ ∧ b < w.heap.size ∧ w.cell? ⟨b, off + r * 2, none⟩ = some v0 ∧ w.cell? ⟨b, off + r * 2 + 1, none⟩ = some v1 ∧ StV w v0 v1 st
theorem Steps.below {w w' : World} {A : Option Addr} {ls : List St} (h : Steps w A ls) (hb : Below w.heap.size w w') : Steps w' A ls := fun r st hr => by
  obtain ⟨b, off, v0, v1, e, hlt, c0, c1, hs⟩ := h r st hr
  exact ⟨b, off, v0, v1, e, Nat.lt_of_lt_of_le hlt hb.size, (hb.cell (p := ⟨b, off + r * 2, none⟩) hlt).trans c0, (hb.cell (p := ⟨b, off + r * 2 + 1, none⟩) hlt).trans c1, hs.below hb⟩
def OpenedSs (w : World) (v : Value) : Prop := ∃ A len cap ls, v = .slice A len cap ∧ ls.length = len ∧ len ≤ cap ∧ cap ≤ maxLen ∧ Steps w A ls

theorem stv_in {H : Type} {enc : TypeId × Value → H} {W : World} {n : Nat} {v0 v1 : Value} {y0 y1 : DataW H × List MemPlace}
    (h0 : DataW.trod enc Try.prog W 0 (fun _ => true) true n 22 [v0] = some y0) (h1 : DataW.trod enc Try.prog W 0 (fun _ => true) true n 3 [v1] = some y1) : ∃ st, StV W v0 v1 st := by
  obtain ⟨s, e1, _, f1⟩ := DataW.trod_int Try.underlying3 h1
  obtain ⟨A, l, c, bs, rfl, rfl, a1, a2, a3⟩ := bytes_in h0
  simp at e1
  exact ⟨⟨bs, s⟩, ⟨A, c, rfl, a1, a2, a3⟩, ⟨e1, wf_i64 f1⟩⟩

theorem openedSs {H : Type} {enc : TypeId × Value → H} {W : World} {v : Value} {d : DataW H} {p : List MemPlace} (hok : Value.okWide Try.prog W .any 0 38 v)
    (h : DataW.Trod enc Try.prog W 0 (fun _ => true) true 38 v d p) : OpenedSs W v := by
  obtain ⟨a0, len0, cap0, rfl⟩ := okWide_slice Try.underlying38 hok
  obtain ⟨fuel, hf⟩ := h
  rcases Deep.open_slice Try.underlying38 hf with ⟨hcs, _⟩ | ⟨x, l, c, m, n, D, Pl, hcs, _, hl, hm, hmm, _, hr⟩
  · simp [Value.cells] at hcs
    obtain ⟨rfl, rfl, rfl⟩ := hcs
    exact ⟨none, 0, 0, [], rfl, rfl, Nat.le_refl _, Nat.zero_le _, fun r bs h => by simp at h⟩
  · simp [Value.cells] at hcs
    obtain ⟨rfl, rfl, rfl⟩ := hcs
    simp only [if_true] at hmm
    subst hmm
    have hC : Try.prog.cellsOf 42 = 2 := by kernel_rfl
    have each : ∀ r, r < m → ∃ st : St, ∃ v0 v1, W.cell? (x.add (r * 2)) = some v0 ∧ W.cell? (x.add (r * 2 + 1)) = some v1 ∧ StV W v0 v1 st := by
      intro r hrm
      obtain ⟨cs', hc, ht⟩ := hr r hrm
      rw [hC] at hc
      obtain ⟨_, hlen, hat⟩ := World.cells?_some hc
      obtain ⟨c0, c1, rfl⟩ : ∃ c0 c1, cs' = [c0, c1] := by
        match cs', hlen with
        | [c0, c1], _ => exact ⟨c0, c1, rfl⟩
      obtain ⟨ys, n', _, _, _, hyl, hfl⟩ := DataW.trod_struct Try.underlying42 ht
      have ya : ∀ j, j < 2 → ∃ y, ys[j]? = some y := fun j hj => ⟨_, List.getElem?_eq_getElem (by rw [hyl]; exact hj)⟩
      obtain ⟨y0, hy0⟩ := ya 0 (by decide)
      obtain ⟨y1, hy1⟩ := ya 1 (by decide)
      obtain ⟨st, hs⟩ := stv_in ((hfl 0 _ rfl).trans hy0) ((hfl 1 _ rfl).trans hy1)
      have q : ∀ j, j < 2 → W.cell? (x.add (r * 2 + j)) = [c0, c1][j]? := fun j hj => by
        have := hat j hj
        rw [Deep.add_add] at this
        exact this
      exact ⟨st, c0, c1, q 0 (by decide), q 1 (by decide), hs⟩
    obtain ⟨F, hF⟩ := Deep.choose_lt each
    refine ⟨some x, len0, m, (List.range len0).map F, rfl, by simp, hl, hm, fun r st hst => ?_⟩
    rw [List.getElem?_map] at hst
    have hrl : r < len0 := by
      rcases Nat.lt_or_ge r len0 with h | h
      · exact h
      · rw [List.getElem?_eq_none (by simp; omega)] at hst; cases hst
    rw [List.getElem?_range hrl] at hst
    simp only [Option.map_some, Option.some.injEq] at hst
    obtain ⟨v0, v1, k0, k1, hs⟩ := hF r (by omega)
    obtain ⟨_, _, z0, _⟩ := hF 0 (by omega)
    obtain ⟨b, off, spot⟩ := x
    have hspot : spot = none := by simpa [Addr.add] using World.cell?_spot z0
    subst hspot
    rw [add_none] at k0 k1
    rw [hst] at hs
    exact ⟨b, off, v0, v1, rfl, World.block_lt_of_cell? W _ k0, k0, k1, hs⟩

def longB (ls : List St) : Bool := decide (100 < ls.length) || ls.any fun st => decide (512 < st.R.length)
theorem longB_no {ls : List St} (h : longB ls = false) : ls.length ≤ 100 ∧ ∀ st ∈ ls, st.R.length ≤ 512 := by
  unfold longB at h
  simp only [Bool.or_eq_false_iff, decide_eq_false_iff_not, List.any_eq_false, decide_eq_true_eq] at h
  exact ⟨by omega, fun st hst => by have := h.2 st hst; omega⟩

set_option maxHeartbeats 1000000 in
theorem long_any (A : Option Addr) (len cap : Nat) (ls : List St) (w : World) (hl : ls.length = len) (hA : Steps w A ls) :
    Calls Try.prog 27 #[.slice A len cap] w fun e w' => e = .returned (.bool (longB ls)) ∧ w = w' := by
  by_cases h120 : 100 < len
  · have hd : decide ((100 : Int) < (len : Int)) = true := by simp; omega
    have hv : longB ls = true := by unfold longB; rw [hl]; simp [h120]
    rw [hv]
    clear hA hv
    go_enter Try.func27, Try.ntmps27
    go_wp2
    go_ret
    exact ⟨rfl, rfl⟩
  · have hd : decide ((100 : Int) < (len : Int)) = false := by simp; omega
    have HL := Lib.hid hl
    have HA := Lib.hid hA
    have h12 : len ≤ 100 := by omega
    clear hA hl h120
    go_enter Try.func27, Try.ntmps27
    go_wp2
    go_loop [3] (fun i => ∃ k : Nat, k ≤ len ∧ i = .int .i64 (k : Int) ∧ Hid (∀ j st, j < k → ls[j]? = some st → st.R.length ≤ 512)) (fun i => len - (intOf i).toNat)
    case atStart => exact ⟨0, Nat.zero_le _, rfl, Lib.hid fun j st hj => by omega⟩
    case round =>
      obtain ⟨k, hk, rfl, hR⟩ := hrel
      by_cases hlt : k < len
      · have hd2 : decide ((k : Int) < (len : Int)) = true := by simpa using hlt
        obtain ⟨st, hst⟩ : ∃ st, ls[k]? = some st := ⟨_, List.getElem?_eq_getElem (by rw [HL.out]; exact hlt)⟩
        obtain ⟨b, off, v0, v1, rfl, _, c0, _, hs⟩ := HA.out k st hst
        obtain ⟨A2, cap2, rfl, _, _, _⟩ := hs.R
        have HST := Lib.hid hst
        obtain ⟨x, hx⟩ : ∃ x, st.R.length = x := ⟨_, rfl⟩
        rw [hx] at c0
        have HX := Lib.hid hx
        clear hst hs hx
        by_cases hb : 512 < x
        · have hd3 : decide ((512 : Int) < (x : Int)) = true := by simp; omega
          have hv : Hid (longB ls = true) := Lib.hid (by
            unfold longB
            rw [Bool.or_eq_true, List.any_eq_true]
            exact .inr ⟨st, List.mem_of_getElem? HST.out, by rw [HX.out]; simp [hb]⟩)
          go_wp2
          go_ret
          exact ⟨by rw [hv.out]; rfl, rfl⟩
        · have hd3 : decide ((512 : Int) < (x : Int)) = false := by simp; omega
          have hR2 : Hid (∀ j st, j < k + 1 → ls[j]? = some st → st.R.length ≤ 512) := Lib.hid fun j st' hj hst' => by
            by_cases e : j = k
            · subst e
              have := HST.out
              rw [hst'] at this
              cases this
              rw [HX.out]; omega
            · exact hR.out j st' (by omega) hst'
          go_wp2
          go_round
          case rel => exact ⟨k + 1, by omega, by go_num, hR2⟩
          case measure => simp [intOf]; omega
      · obtain rfl : len = k := by omega
        have hd2 : decide ((len : Int) < (len : Int)) = false := by simp
        have hv : Hid (longB ls = false) := Lib.hid (by
          unfold longB
          simp only [Bool.or_eq_false_iff, decide_eq_false_iff_not, List.any_eq_false, decide_eq_true_eq]
          refine ⟨by rw [HL.out]; omega, fun st hst => ?_⟩
          obtain ⟨j, hj, rfl⟩ := List.getElem_of_mem hst
          have := hR.out j _ (by rw [← HL.out]; exact hj) (List.getElem?_eq_getElem hj)
          omega)
        go_wp2
        go_ret
        exact ⟨by rw [hv.out]; rfl, rfl⟩
end Go.Proofs.Ytipjokbkgcepbaa
