/- cache: things done, that came in. -/
import Derived.Test.YtiemfhncadcemaaDb
import Derived.OpenShut
import Derived.Deep.Slices
import Derived.Deep.Fields
import Derived.Lib.SmallJoins
import Derived.ChangeSlices
namespace Go.Proofs.Ytiemfhncadcemaa
open Go.RowKit Go.ChangeShapes Go.WideShapes Dsk

theorem add_none {b off : Nat} (i : Nat) : (⟨b, off, none⟩ : Addr).add i = ⟨b, off + i, none⟩ := by unfold Addr.add; split <;> simp_all

section
variable {H : Type} {enc : TypeId × Value → H} {W : World} {n : Nat}
/-- A slice of bytes among what came in. -/
theorem bytes_in {v : Value} {y : DataW H × List MemPlace} (h : DataW.trod enc Try.prog W 0 (fun _ => true) true n 33 [v] = some y) : ∃ A len cap bs, v = .slice A len cap ∧ bs.length = len ∧ len ≤ cap ∧ cap ≤ maxLen ∧ Bytes W A bs := by
  rcases open_ints Try.underlying33 Try.underlying5 (by kernel_rfl) h with ⟨hcs, _⟩ | ⟨x, l, c, zs, hcs, _, hl, hm, hz, _, hcell, hwz⟩
  · simp at hcs
    exact ⟨none, 0, 0, [], hcs, rfl, Nat.le_refl _, Nat.zero_le _, Bytes.nil _ _⟩
  · simp at hcs
    have hrow : IsRow .u8 W (some x) l c zs := .inr ⟨x, rfl, hl, hm, by simpa using hz, hcell, hwz⟩
    obtain ⟨bs, h1, h2, _⟩ := bytes_of_row8 hrow
    exact ⟨some x, l, c, bs, hcs, h1, hl, hm, h2⟩
theorem ints_in {v : Value} {y : DataW H × List MemPlace} (h : DataW.trod enc Try.prog W 0 (fun _ => true) true n 35 [v] = some y) : ∃ A len cap ks, v = .slice A len cap ∧ ks.length = len ∧ len ≤ cap ∧ cap ≤ maxLen ∧ Ints W A ks := by
  rcases open_ints Try.underlying35 Try.underlying3 (by kernel_rfl) h with ⟨hcs, _⟩ | ⟨x, l, c, zs, hcs, _, hl, hm, hz, _, hcell, hwz⟩
  · simp at hcs
    exact ⟨none, 0, 0, [], hcs, rfl, Nat.le_refl _, Nat.zero_le _, Ints.nil _ _⟩
  · simp at hcs hz
    refine ⟨some x, l, c, zs.take l, hcs, by simp; omega, hl, hm, fun k z hk => ?_⟩
    have hkl : k < l := by have := (List.getElem?_eq_some_iff.1 hk).1; simp at this; omega
    rw [List.getElem?_take_of_lt hkl] at hk
    have hkz : k < zs.length := by omega
    have hc := hcell k hkz
    have hc0 := hcell 0 (by omega)
    obtain ⟨b, off, spot⟩ := x
    have hspot : spot = none := by simpa [Addr.add] using World.cell?_spot hc0
    subst hspot
    rw [add_none] at hc
    have hg : zs.getD k 0 = z := by simp [List.getD, hk]
    rw [hg] at hc
    exact ⟨b, off, rfl, World.block_lt_of_cell? W _ hc, hc, wf_i64 (hwz z (List.mem_of_getElem? hk))⟩
end

/-- What a value of type []Op reads as. -/
def OpsM (w : World) (A : Option Addr) (ls : List Ov) : Prop :=
  ∀ (r : Nat) (st : Ov), ls[r]? = some st → ∃ b off v0 v1 v2 v3 v4, A = some ⟨b, off, none⟩ ∧ b < w.heap.size ∧ w.cell? ⟨b, off + r * 5, none⟩ = some v0 ∧ w.cell? ⟨b, off + r * 5 + 1, none⟩ = some v1 ∧ w.cell? ⟨b, off + r * 5 + 2, none⟩ = some v2 ∧ w.cell? ⟨b, off + r * 5 + 3, none⟩ = some v3 ∧ w.cell? ⟨b, off + r * 5 + 4, none⟩ = some v4 ∧ OpV w v0 v1 v2 v3 v4 st
theorem OpsM.below {w w' : World} {A : Option Addr} {ls : List Ov} (h : OpsM w A ls) (hb : Below w.heap.size w w') : OpsM w' A ls := fun r st hr => by
  obtain ⟨b, off, v0, v1, v2, v3, v4, e, hlt, c0, c1, c2, c3, c4, hs⟩ := h r st hr
  exact ⟨b, off, v0, v1, v2, v3, v4, e, Nat.lt_of_lt_of_le hlt hb.size, (hb.cell (p := ⟨b, off + r * 5, none⟩) hlt).trans c0, (hb.cell (p := ⟨b, off + r * 5 + 1, none⟩) hlt).trans c1, (hb.cell (p := ⟨b, off + r * 5 + 2, none⟩) hlt).trans c2, (hb.cell (p := ⟨b, off + r * 5 + 3, none⟩) hlt).trans c3, (hb.cell (p := ⟨b, off + r * 5 + 4, none⟩) hlt).trans c4, hs.below hb⟩
def OpenedOp (w : World) (v : Value) : Prop := ∃ v0 v1 v2 v3 v4 st, v = .agg #[v0, v1, v2, v3, v4] ∧ OpV w v0 v1 v2 v3 v4 st
def OpenedOps (w : World) (v : Value) : Prop := ∃ A len cap ls, v = .slice A len cap ∧ ls.length = len ∧ len ≤ cap ∧ cap ≤ maxLen ∧ OpsM w A ls

theorem opv_in {H : Type} {enc : TypeId × Value → H} {W : World} {n : Nat} {v0 v1 v2 v3 v4 : Value} {y0 y1 y2 y3 y4 : DataW H × List MemPlace}
    (h0 : DataW.trod enc Try.prog W 0 (fun _ => true) true n 3 [v0] = some y0) (h1 : DataW.trod enc Try.prog W 0 (fun _ => true) true n 3 [v1] = some y1)
    (h2 : DataW.trod enc Try.prog W 0 (fun _ => true) true n 33 [v2] = some y2) (h3 : DataW.trod enc Try.prog W 0 (fun _ => true) true n 35 [v3] = some y3) (h4 : DataW.trod enc Try.prog W 0 (fun _ => true) true n 3 [v4] = some y4) : ∃ st, OpV W v0 v1 v2 v3 v4 st := by
  obtain ⟨k, e0, _, f0⟩ := DataW.trod_int Try.underlying3 h0
  obtain ⟨s, e1, _, f1⟩ := DataW.trod_int Try.underlying3 h1
  obtain ⟨A, l, c, bs, rfl, rfl, a1, a2, a3⟩ := bytes_in h2
  obtain ⟨K, l', c', ks, rfl, rfl, b1, b2, b3⟩ := ints_in h3
  obtain ⟨tn, e4, _, f4⟩ := DataW.trod_int Try.underlying3 h4
  simp at e0 e1 e4
  exact ⟨⟨k, s, bs, ks, tn⟩, ⟨e0, wf_i64 f0⟩, ⟨e1, wf_i64 f1⟩, ⟨A, c, rfl, a1, a2, a3⟩, ⟨K, c', rfl, b1, b2, b3⟩, ⟨e4, wf_i64 f4⟩⟩
set_option maxRecDepth 20000 in
theorem op_cells {H : Type} {enc : TypeId × Value → H} {W : World} {n : Nat} {cs : List Value} {y : DataW H × List MemPlace} (hlen : cs.length = 5) (ht : DataW.trod enc Try.prog W 0 (fun _ => true) true n 37 cs = some y) : ∃ v0 v1 v2 v3 v4 st, cs = [v0, v1, v2, v3, v4] ∧ OpV W v0 v1 v2 v3 v4 st := by
  obtain ⟨c0, c1, c2, c3, c4, rfl⟩ : ∃ c0 c1 c2 c3 c4, cs = [c0, c1, c2, c3, c4] := by
    match cs, hlen with
    | [c0, c1, c2, c3, c4], _ => exact ⟨c0, c1, c2, c3, c4, rfl⟩
  obtain ⟨ys, n', _, _, _, hyl, hfl⟩ := DataW.trod_struct Try.underlying37 ht
  have ya : ∀ j, j < 5 → ∃ y, ys[j]? = some y := fun j hj => ⟨_, List.getElem?_eq_getElem (by rw [hyl]; exact hj)⟩
  obtain ⟨y0, hy0⟩ := ya 0 (by decide)
  obtain ⟨y1, hy1⟩ := ya 1 (by decide)
  obtain ⟨y2, hy2⟩ := ya 2 (by decide)
  obtain ⟨y3, hy3⟩ := ya 3 (by decide)
  obtain ⟨y4, hy4⟩ := ya 4 (by decide)
  obtain ⟨st, hs⟩ := opv_in ((hfl 0 _ rfl).trans hy0) ((hfl 1 _ rfl).trans hy1) ((hfl 2 _ rfl).trans hy2) ((hfl 3 _ rfl).trans hy3) ((hfl 4 _ rfl).trans hy4)
  exact ⟨c0, c1, c2, c3, c4, st, rfl, hs⟩
set_option maxRecDepth 20000 in
theorem openedOp {H : Type} {enc : TypeId × Value → H} {W : World} {v : Value} {d : DataW H} {p : List MemPlace} (hok : Value.okWide Try.prog W .any 0 37 v)
    (h : DataW.Trod enc Try.prog W 0 (fun _ => true) true 37 v d p) : OpenedOp W v := by
  obtain ⟨cs, rfl, hsz⟩ := okWide_struct Try.underlying37 hok
  obtain ⟨fuel, hf⟩ := h
  have hC : Try.prog.cellsOf 37 = 5 := by kernel_rfl
  rw [hC] at hsz
  obtain ⟨v0, v1, v2, v3, v4, st, e, hs⟩ := op_cells (cs := cs.toList) (by simpa using hsz) (by simpa [Value.cells] using hf)
  exact ⟨v0, v1, v2, v3, v4, st, by rw [show cs = cs.toList.toArray by simp, e], hs⟩

set_option maxRecDepth 20000 in
theorem openedOps {H : Type} {enc : TypeId × Value → H} {W : World} {v : Value} {d : DataW H} {p : List MemPlace} (hok : Value.okWide Try.prog W .any 0 22 v)
    (h : DataW.Trod enc Try.prog W 0 (fun _ => true) true 22 v d p) : OpenedOps W v := by
  obtain ⟨a0, len0, cap0, rfl⟩ := okWide_slice Try.underlying22 hok
  obtain ⟨fuel, hf⟩ := h
  rcases Deep.open_slice Try.underlying22 hf with ⟨hcs, _⟩ | ⟨x, l, c, m, n, D, Pl, hcs, _, hl, hm, hmm, _, hr⟩
  · simp [Value.cells] at hcs
    obtain ⟨rfl, rfl, rfl⟩ := hcs
    exact ⟨none, 0, 0, [], rfl, rfl, Nat.le_refl _, Nat.zero_le _, fun r bs h => by simp at h⟩
  · simp [Value.cells] at hcs
    obtain ⟨rfl, rfl, rfl⟩ := hcs
    simp only [if_true] at hmm
    subst hmm
    have hC : Try.prog.cellsOf 37 = 5 := by kernel_rfl
    have each : ∀ r, r < m → ∃ st : Ov, ∃ v0 v1 v2 v3 v4, W.cell? (x.add (r * 5)) = some v0 ∧ W.cell? (x.add (r * 5 + 1)) = some v1 ∧ W.cell? (x.add (r * 5 + 2)) = some v2 ∧ W.cell? (x.add (r * 5 + 3)) = some v3 ∧ W.cell? (x.add (r * 5 + 4)) = some v4 ∧ OpV W v0 v1 v2 v3 v4 st := by
      intro r hrm
      obtain ⟨cs', hc, ht⟩ := hr r hrm
      rw [hC] at hc
      obtain ⟨_, hlen, hat⟩ := World.cells?_some hc
      obtain ⟨c0, c1, c2, c3, c4, st, rfl, hs⟩ := op_cells hlen ht
      have q : ∀ j, j < 5 → W.cell? (x.add (r * 5 + j)) = [c0, c1, c2, c3, c4][j]? := fun j hj => by
        have := hat j hj
        rw [Deep.add_add] at this
        exact this
      exact ⟨st, c0, c1, c2, c3, c4, q 0 (by decide), q 1 (by decide), q 2 (by decide), q 3 (by decide), q 4 (by decide), hs⟩
    obtain ⟨F, hF⟩ := Deep.choose_lt each
    refine ⟨some x, len0, m, (List.range len0).map F, rfl, by simp, hl, hm, fun r st hst => ?_⟩
    rw [List.getElem?_map] at hst
    have hrl : r < len0 := by
      rcases Nat.lt_or_ge r len0 with h | h
      · exact h
      · rw [List.getElem?_eq_none (by simp; omega)] at hst; cases hst
    rw [List.getElem?_range hrl] at hst
    simp only [Option.map_some, Option.some.injEq] at hst
    obtain ⟨v0, v1, v2, v3, v4, k0, k1, k2, k3, k4, hs⟩ := hF r (by omega)
    obtain ⟨_, _, _, _, _, z0, _⟩ := hF 0 (by omega)
    obtain ⟨b, off, spot⟩ := x
    have hspot : spot = none := by simpa [Addr.add] using World.cell?_spot z0
    subst hspot
    rw [add_none] at k0 k1 k2 k3 k4
    rw [hst] at hs
    exact ⟨b, off, v0, v1, v2, v3, v4, rfl, World.block_lt_of_cell? W _ k0, k0, k1, k2, k3, k4, hs⟩

end Go.Proofs.Ytiemfhncadcemaa
/- cache: Vast. -/
namespace Go.Proofs.Ytiemfhncadcemaa
open Go.RowKit Dsk

def vastB (ls : List Ov) : Bool := decide (120 < ls.length) || ls.any fun st => decide (1024 < st.B.length) || decide (200 < st.K.length)
theorem vastB_no {ls : List Ov} (h : vastB ls = false) : ls.length ≤ 120 ∧ ∀ st ∈ ls, st.B.length ≤ 1024 ∧ st.K.length ≤ 200 := by
  unfold vastB at h
  simp only [Bool.or_eq_false_iff, decide_eq_false_iff_not, List.any_eq_false, Bool.or_eq_true, decide_eq_true_eq, not_or] at h
  exact ⟨by omega, fun st hst => by have := h.2 st hst; omega⟩

set_option maxHeartbeats 1000000 in
theorem vast_any (A : Option Addr) (len cap : Nat) (ls : List Ov) (w : World) (hl : ls.length = len) (hA : OpsM w A ls) :
    Calls Try.prog 8 #[.slice A len cap] w fun e w' => e = .returned (.bool (vastB ls)) ∧ w = w' := by
  by_cases h120 : 120 < len
  · have hd : decide ((120 : Int) < (len : Int)) = true := by simp; omega
    have hv : vastB ls = true := by unfold vastB; rw [hl]; simp [h120]
    rw [hv]
    clear hA hv
    go_enter Try.func8, Try.ntmps8
    go_wp2
    go_ret
    exact ⟨rfl, rfl⟩
  · have hd : decide ((120 : Int) < (len : Int)) = false := by simp; omega
    have HL := Lib.hid hl
    have HA := Lib.hid hA
    have h12 : len ≤ 120 := by omega
    clear hA hl h120
    go_enter Try.func8, Try.ntmps8
    go_wp2
    go_loop [3] (fun i => ∃ k : Nat, k ≤ len ∧ i = .int .i64 (k : Int) ∧ Hid (∀ j st, j < k → ls[j]? = some st → st.B.length ≤ 1024 ∧ st.K.length ≤ 200)) (fun i => len - (intOf i).toNat)
    case atStart => exact ⟨0, Nat.zero_le _, rfl, Lib.hid fun j st hj => by omega⟩
    case round =>
      obtain ⟨k, hk, rfl, hR⟩ := hrel
      by_cases hlt : k < len
      · have hd2 : decide ((k : Int) < (len : Int)) = true := by simpa using hlt
        obtain ⟨st, hst⟩ : ∃ st, ls[k]? = some st := ⟨_, List.getElem?_eq_getElem (by rw [HL.out]; exact hlt)⟩
        obtain ⟨b, off, v0, v1, v2, v3, v4, rfl, _, _, _, c2, c3, _, hs⟩ := HA.out k st hst
        obtain ⟨A2, cap2, rfl, _, _, _⟩ := hs.B
        obtain ⟨A3, cap3, rfl, _, _, _⟩ := hs.K
        have HST := Lib.hid hst
        obtain ⟨x, hx⟩ : ∃ x, st.B.length = x := ⟨_, rfl⟩
        obtain ⟨y, hy⟩ : ∃ y, st.K.length = y := ⟨_, rfl⟩
        rw [hx] at c2
        rw [hy] at c3
        have HX := Lib.hid hx
        have HY := Lib.hid hy
        clear hst hs hx hy
        by_cases hb : 1024 < x
        · have hd3 : decide ((1024 : Int) < (x : Int)) = true := by simp; omega
          have hv : Hid (vastB ls = true) := Lib.hid (by
            unfold vastB
            rw [Bool.or_eq_true, List.any_eq_true]
            exact .inr ⟨st, List.mem_of_getElem? HST.out, by rw [HX.out]; simp [hb]⟩)
          go_wp2
          go_ret
          exact ⟨by rw [hv.out]; rfl, rfl⟩
        · have hd3 : decide ((1024 : Int) < (x : Int)) = false := by simp; omega
          by_cases hc : 200 < y
          · have hd4 : decide ((200 : Int) < (y : Int)) = true := by simp; omega
            have hv : Hid (vastB ls = true) := Lib.hid (by
              unfold vastB
              rw [Bool.or_eq_true, List.any_eq_true]
              exact .inr ⟨st, List.mem_of_getElem? HST.out, by rw [HY.out]; simp [hc]⟩)
            go_wp2
            go_ret
            exact ⟨by rw [hv.out]; rfl, rfl⟩
          · have hd4 : decide ((200 : Int) < (y : Int)) = false := by simp; omega
            have hR2 : Hid (∀ j st, j < k + 1 → ls[j]? = some st → st.B.length ≤ 1024 ∧ st.K.length ≤ 200) := Lib.hid fun j st' hj hst' => by
              by_cases e : j = k
              · subst e
                have := HST.out
                rw [hst'] at this
                cases this
                rw [HX.out, HY.out]; omega
              · exact hR.out j st' (by omega) hst'
            go_wp2
            go_round
            case rel => exact ⟨k + 1, by omega, by go_num, hR2⟩
            case measure => simp [intOf]; omega
      · obtain rfl : len = k := by omega
        have hd2 : decide ((len : Int) < (len : Int)) = false := by simp
        have hv : Hid (vastB ls = false) := Lib.hid (by
          unfold vastB
          simp only [Bool.or_eq_false_iff, decide_eq_false_iff_not, List.any_eq_false, Bool.or_eq_true, decide_eq_true_eq, not_or]
          refine ⟨by rw [HL.out]; omega, fun st hst => ?_⟩
          obtain ⟨j, hj, rfl⟩ := List.getElem_of_mem hst
          have := hR.out j _ (by rw [← HL.out]; exact hj) (List.getElem?_eq_getElem hj)
          omega)
        go_wp2
        go_ret
        exact ⟨by rw [hv.out]; rfl, rfl⟩

end Go.Proofs.Ytiemfhncadcemaa
