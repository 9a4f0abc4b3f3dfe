/- The law, walked. -/
import Derived.Test.YtolpgpphjnkehaaGreatDoorMI
import Derived.Laws.Rows
import Derived.OpenShut
import Derived.Deep.Slices
import Derived.Deep.Fields
import Derived.Lib.SmallJoins
import Derived.ChangeSlices
import Derived.Deep.RegionHeld3
/- ShadowNil: an Op that came in; Vast; twin; does where there is no space. -/
namespace Go.Proofs.YtolpgpphjnkehaaGreatDoor.Shd
open Go.RowKit Go.ChangeShapes Go.WideShapes Dsk Cac
/-- What is done. -/
structure Ov where
  kind : Int
  s : Int
  B : List UInt8
  K : List Int
  torn : Int
instance : Inhabited Ov := ⟨⟨0, 0, [], [], 0⟩⟩
structure OpV (w : World) (v0 v1 v2 v3 v4 : Value) (o : Ov) : Prop where
  kind : v0 = .int .i64 o.kind ∧ -9223372036854775808 ≤ o.kind ∧ o.kind < 9223372036854775808
  s : v1 = .int .i64 o.s ∧ -9223372036854775808 ≤ o.s ∧ o.s < 9223372036854775808
  B : ∃ A c, v2 = .slice A o.B.length c ∧ o.B.length ≤ c ∧ c ≤ maxLen ∧ Bytes w A o.B
  K : ∃ A c, v3 = .slice A o.K.length c ∧ o.K.length ≤ c ∧ c ≤ maxLen ∧ Ints w A o.K
  torn : v4 = .int .i64 o.torn ∧ -9223372036854775808 ≤ o.torn ∧ o.torn < 9223372036854775808
theorem OpV.below {w w' : World} {v0 v1 v2 v3 v4 : Value} {o : Ov} (h : OpV w v0 v1 v2 v3 v4 o) (hb : Below w.heap.size w w') : OpV w' v0 v1 v2 v3 v4 o := by
  obtain ⟨h1, h2, ⟨A, c, a1, a2, a3, a4⟩, ⟨K, d, b1, b2, b3, b4⟩, h5⟩ := h
  exact ⟨h1, h2, ⟨A, c, a1, a2, a3, a4.below hb⟩, ⟨K, d, b1, b2, b3, b4.below hb⟩, h5⟩
theorem add_none {b off : Nat} (i : Nat) : (⟨b, off, none⟩ : Addr).add i = ⟨b, off + i, none⟩ := by unfold Addr.add; split <;> simp_all

section
variable {H : Type} {enc : TypeId × Value → H} {W : World} {n : Nat}
/-- A slice of bytes among what came in. -/
theorem bytes_in {v : Value} {y : DataW H × List MemPlace} (h : DataW.trod enc Tryz.prog W 0 (fun _ => true) true n 32 [v] = some y) : ∃ A len cap bs, v = .slice A len cap ∧ bs.length = len ∧ len ≤ cap ∧ cap ≤ maxLen ∧ Bytes W A bs := by
  rcases open_ints Tryz.underlying32 Tryz.underlying5 (by kernel_rfl) h with ⟨hcs, _⟩ | ⟨x, l, c, zs, hcs, _, hl, hm, hz, _, hcell, hwz⟩
  · simp at hcs
    exact ⟨none, 0, 0, [], hcs, rfl, Nat.le_refl _, Nat.zero_le _, Bytes.nil _ _⟩
  · simp at hcs
    have hrow : IsRow .u8 W (some x) l c zs := .inr ⟨x, rfl, hl, hm, by simpa using hz, hcell, hwz⟩
    obtain ⟨bs, h1, h2, _⟩ := bytes_of_row8 hrow
    exact ⟨some x, l, c, bs, hcs, h1, hl, hm, h2⟩
theorem ints_in {v : Value} {y : DataW H × List MemPlace} (h : DataW.trod enc Tryz.prog W 0 (fun _ => true) true n 33 [v] = some y) : ∃ A len cap ks, v = .slice A len cap ∧ ks.length = len ∧ len ≤ cap ∧ cap ≤ maxLen ∧ Ints W A ks := by
  rcases open_ints Tryz.underlying33 Tryz.underlying3 (by kernel_rfl) h with ⟨hcs, _⟩ | ⟨x, l, c, zs, hcs, _, hl, hm, hz, _, hcell, hwz⟩
  · simp at hcs
    exact ⟨none, 0, 0, [], hcs, rfl, Nat.le_refl _, Nat.zero_le _, Ints.nil _ _⟩
  · simp at hcs hz
    refine ⟨some x, l, c, zs.take l, hcs, by simp; omega, hl, hm, fun k z hk => ?_⟩
    have hkl : k < l := by have := (List.getElem?_eq_some_iff.1 hk).1; simp at this; omega
    rw [List.getElem?_take_of_lt hkl] at hk
    have hkz : k < zs.length := by omega
    have hc := hcell k hkz
    have hc0 := hcell 0 (by omega)
    obtain ⟨b, off, spot⟩ := x
    have hspot : spot = none := by simpa [Addr.add] using World.cell?_spot hc0
    subst hspot
    rw [add_none] at hc
    have hg : zs.getD k 0 = z := by simp [List.getD, hk]
    rw [hg] at hc
    exact ⟨b, off, rfl, World.block_lt_of_cell? W _ hc, hc, wf_i64 (hwz z (List.mem_of_getElem? hk))⟩
end

/-- What a value of type []Op reads as. -/
def OpsM (w : World) (A : Option Addr) (ls : List Ov) : Prop :=
  ∀ (r : Nat) (st : Ov), ls[r]? = some st → ∃ b off v0 v1 v2 v3 v4, A = some ⟨b, off, none⟩ ∧ b < w.heap.size ∧ w.cell? ⟨b, off + r * 5, none⟩ = some v0 ∧ w.cell? ⟨b, off + r * 5 + 1, none⟩ = some v1 ∧ w.cell? ⟨b, off + r * 5 + 2, none⟩ = some v2 ∧ w.cell? ⟨b, off + r * 5 + 3, none⟩ = some v3 ∧ w.cell? ⟨b, off + r * 5 + 4, none⟩ = some v4 ∧ OpV w v0 v1 v2 v3 v4 st
theorem OpsM.below {w w' : World} {A : Option Addr} {ls : List Ov} (h : OpsM w A ls) (hb : Below w.heap.size w w') : OpsM w' A ls := fun r st hr => by
  obtain ⟨b, off, v0, v1, v2, v3, v4, e, hlt, c0, c1, c2, c3, c4, hs⟩ := h r st hr
  exact ⟨b, off, v0, v1, v2, v3, v4, e, Nat.lt_of_lt_of_le hlt hb.size, (hb.cell (p := ⟨b, off + r * 5, none⟩) hlt).trans c0, (hb.cell (p := ⟨b, off + r * 5 + 1, none⟩) hlt).trans c1, (hb.cell (p := ⟨b, off + r * 5 + 2, none⟩) hlt).trans c2, (hb.cell (p := ⟨b, off + r * 5 + 3, none⟩) hlt).trans c3, (hb.cell (p := ⟨b, off + r * 5 + 4, none⟩) hlt).trans c4, hs.below hb⟩
def OpenedOp (w : World) (v : Value) : Prop := ∃ v0 v1 v2 v3 v4 st, v = .agg #[v0, v1, v2, v3, v4] ∧ OpV w v0 v1 v2 v3 v4 st
def OpenedOps (w : World) (v : Value) : Prop := ∃ A len cap ls, v = .slice A len cap ∧ ls.length = len ∧ len ≤ cap ∧ cap ≤ maxLen ∧ OpsM w A ls

theorem opv_in {H : Type} {enc : TypeId × Value → H} {W : World} {n : Nat} {v0 v1 v2 v3 v4 : Value} {y0 y1 y2 y3 y4 : DataW H × List MemPlace}
    (h0 : DataW.trod enc Tryz.prog W 0 (fun _ => true) true n 3 [v0] = some y0) (h1 : DataW.trod enc Tryz.prog W 0 (fun _ => true) true n 3 [v1] = some y1)
    (h2 : DataW.trod enc Tryz.prog W 0 (fun _ => true) true n 32 [v2] = some y2) (h3 : DataW.trod enc Tryz.prog W 0 (fun _ => true) true n 33 [v3] = some y3) (h4 : DataW.trod enc Tryz.prog W 0 (fun _ => true) true n 3 [v4] = some y4) : ∃ st, OpV W v0 v1 v2 v3 v4 st := by
  obtain ⟨k, e0, _, f0⟩ := DataW.trod_int Tryz.underlying3 h0
  obtain ⟨s, e1, _, f1⟩ := DataW.trod_int Tryz.underlying3 h1
  obtain ⟨A, l, c, bs, rfl, rfl, a1, a2, a3⟩ := bytes_in h2
  obtain ⟨K, l', c', ks, rfl, rfl, b1, b2, b3⟩ := ints_in h3
  obtain ⟨tn, e4, _, f4⟩ := DataW.trod_int Tryz.underlying3 h4
  simp at e0 e1 e4
  exact ⟨⟨k, s, bs, ks, tn⟩, ⟨e0, wf_i64 f0⟩, ⟨e1, wf_i64 f1⟩, ⟨A, c, rfl, a1, a2, a3⟩, ⟨K, c', rfl, b1, b2, b3⟩, ⟨e4, wf_i64 f4⟩⟩
set_option maxRecDepth 20000 in
theorem op_cells {H : Type} {enc : TypeId × Value → H} {W : World} {n : Nat} {cs : List Value} {y : DataW H × List MemPlace} (hlen : cs.length = 5) (ht : DataW.trod enc Tryz.prog W 0 (fun _ => true) true n 35 cs = some y) : ∃ v0 v1 v2 v3 v4 st, cs = [v0, v1, v2, v3, v4] ∧ OpV W v0 v1 v2 v3 v4 st := by
  obtain ⟨c0, c1, c2, c3, c4, rfl⟩ : ∃ c0 c1 c2 c3 c4, cs = [c0, c1, c2, c3, c4] := by
    match cs, hlen with
    | [c0, c1, c2, c3, c4], _ => exact ⟨c0, c1, c2, c3, c4, rfl⟩
  obtain ⟨ys, n', _, _, _, hyl, hfl⟩ := DataW.trod_struct Tryz.underlying35 ht
  have ya : ∀ j, j < 5 → ∃ y, ys[j]? = some y := fun j hj => ⟨_, List.getElem?_eq_getElem (by rw [hyl]; exact hj)⟩
  obtain ⟨y0, hy0⟩ := ya 0 (by decide)
  obtain ⟨y1, hy1⟩ := ya 1 (by decide)
  obtain ⟨y2, hy2⟩ := ya 2 (by decide)
  obtain ⟨y3, hy3⟩ := ya 3 (by decide)
  obtain ⟨y4, hy4⟩ := ya 4 (by decide)
  obtain ⟨st, hs⟩ := opv_in ((hfl 0 _ rfl).trans hy0) ((hfl 1 _ rfl).trans hy1) ((hfl 2 _ rfl).trans hy2) ((hfl 3 _ rfl).trans hy3) ((hfl 4 _ rfl).trans hy4)
  exact ⟨c0, c1, c2, c3, c4, st, rfl, hs⟩
set_option maxRecDepth 20000 in
theorem openedOp {H : Type} {enc : TypeId × Value → H} {W : World} {v : Value} {d : DataW H} {p : List MemPlace} (hok : Value.okWide Tryz.prog W .any 0 35 v)
    (h : DataW.Trod enc Tryz.prog W 0 (fun _ => true) true 35 v d p) : OpenedOp W v := by
  obtain ⟨cs, rfl, hsz⟩ := okWide_struct Tryz.underlying35 hok
  obtain ⟨fuel, hf⟩ := h
  have hC : Tryz.prog.cellsOf 35 = 5 := by kernel_rfl
  rw [hC] at hsz
  obtain ⟨v0, v1, v2, v3, v4, st, e, hs⟩ := op_cells (cs := cs.toList) (by simpa using hsz) (by simpa [Value.cells] using hf)
  exact ⟨v0, v1, v2, v3, v4, st, by rw [show cs = cs.toList.toArray by simp, e], hs⟩

set_option maxRecDepth 20000 in
theorem openedOps {H : Type} {enc : TypeId × Value → H} {W : World} {v : Value} {d : DataW H} {p : List MemPlace} (hok : Value.okWide Tryz.prog W .any 0 22 v)
    (h : DataW.Trod enc Tryz.prog W 0 (fun _ => true) true 22 v d p) : OpenedOps W v := by
  obtain ⟨a0, len0, cap0, rfl⟩ := okWide_slice Tryz.underlying22 hok
  obtain ⟨fuel, hf⟩ := h
  rcases Deep.open_slice Tryz.underlying22 hf with ⟨hcs, _⟩ | ⟨x, l, c, m, n, D, Pl, hcs, _, hl, hm, hmm, _, hr⟩
  · simp [Value.cells] at hcs
    obtain ⟨rfl, rfl, rfl⟩ := hcs
    exact ⟨none, 0, 0, [], rfl, rfl, Nat.le_refl _, Nat.zero_le _, fun r bs h => by simp at h⟩
  · simp [Value.cells] at hcs
    obtain ⟨rfl, rfl, rfl⟩ := hcs
    simp only [if_true] at hmm
    subst hmm
    have hC : Tryz.prog.cellsOf 35 = 5 := by kernel_rfl
    have each : ∀ r, r < m → ∃ st : Ov, ∃ v0 v1 v2 v3 v4, W.cell? (x.add (r * 5)) = some v0 ∧ W.cell? (x.add (r * 5 + 1)) = some v1 ∧ W.cell? (x.add (r * 5 + 2)) = some v2 ∧ W.cell? (x.add (r * 5 + 3)) = some v3 ∧ W.cell? (x.add (r * 5 + 4)) = some v4 ∧ OpV W v0 v1 v2 v3 v4 st := by
      intro r hrm
      obtain ⟨cs', hc, ht⟩ := hr r hrm
      rw [hC] at hc
      obtain ⟨_, hlen, hat⟩ := World.cells?_some hc
      obtain ⟨c0, c1, c2, c3, c4, st, rfl, hs⟩ := op_cells hlen ht
      have q : ∀ j, j < 5 → W.cell? (x.add (r * 5 + j)) = [c0, c1, c2, c3, c4][j]? := fun j hj => by
        have := hat j hj
        rw [Deep.add_add] at this
        exact this
      exact ⟨st, c0, c1, c2, c3, c4, q 0 (by decide), q 1 (by decide), q 2 (by decide), q 3 (by decide), q 4 (by decide), hs⟩
    obtain ⟨F, hF⟩ := Deep.choose_lt each
    refine ⟨some x, len0, m, (List.range len0).map F, rfl, by simp, hl, hm, fun r st hst => ?_⟩
    rw [List.getElem?_map] at hst
    have hrl : r < len0 := by
      rcases Nat.lt_or_ge r len0 with h | h
      · exact h
      · rw [List.getElem?_eq_none (by simp; omega)] at hst; cases hst
    rw [List.getElem?_range hrl] at hst
    simp only [Option.map_some, Option.some.injEq] at hst
    obtain ⟨v0, v1, v2, v3, v4, k0, k1, k2, k3, k4, hs⟩ := hF r (by omega)
    obtain ⟨_, _, _, _, _, z0, _⟩ := hF 0 (by omega)
    obtain ⟨b, off, spot⟩ := x
    have hspot : spot = none := by simpa [Addr.add] using World.cell?_spot z0
    subst hspot
    rw [add_none] at k0 k1 k2 k3 k4
    rw [hst] at hs
    exact ⟨b, off, v0, v1, v2, v3, v4, rfl, World.block_lt_of_cell? W _ k0, k0, k1, k2, k3, k4, hs⟩

def vastB (ls : List Ov) : Bool := decide (80 < ls.length) || ls.any fun st => decide (1024 < st.B.length) || decide (200 < st.K.length)
theorem vastB_no {ls : List Ov} (h : vastB ls = false) : ls.length ≤ 80 ∧ ∀ st ∈ ls, st.B.length ≤ 1024 ∧ st.K.length ≤ 200 := by
  unfold vastB at h
  simp only [Bool.or_eq_false_iff, decide_eq_false_iff_not, List.any_eq_false, Bool.or_eq_true, decide_eq_true_eq, not_or] at h
  exact ⟨by omega, fun st hst => by have := h.2 st hst; omega⟩

set_option maxHeartbeats 1000000 in
theorem vast_any (A : Option Addr) (len cap : Nat) (ls : List Ov) (w : World) (hl : ls.length = len) (hA : OpsM w A ls) :
    Calls Tryz.prog 10 #[.slice A len cap] w fun e w' => e = .returned (.bool (vastB ls)) ∧ w = w' := by
  by_cases h80 : 80 < len
  · have hd : decide ((80 : Int) < (len : Int)) = true := by simp; omega
    have hv : vastB ls = true := by unfold vastB; rw [hl]; simp [h80]
    rw [hv]
    clear hA hv
    go_enter Tryz.func10, Tryz.ntmps10
    go_wp2
    go_ret
    exact ⟨rfl, rfl⟩
  · have hd : decide ((80 : Int) < (len : Int)) = false := by simp; omega
    have HL := Lib.hid hl
    have HA := Lib.hid hA
    have h12 : len ≤ 80 := by omega
    clear hA hl h80
    go_enter Tryz.func10, Tryz.ntmps10
    go_wp2
    go_loop [3] (fun i => ∃ k : Nat, k ≤ len ∧ i = .int .i64 (k : Int) ∧ Hid (∀ j st, j < k → ls[j]? = some st → st.B.length ≤ 1024 ∧ st.K.length ≤ 200)) (fun i => len - (intOf i).toNat)
    case atStart => exact ⟨0, Nat.zero_le _, rfl, Lib.hid fun j st hj => by omega⟩
    case round =>
      obtain ⟨k, hk, rfl, hR⟩ := hrel
      by_cases hlt : k < len
      · have hd2 : decide ((k : Int) < (len : Int)) = true := by simpa using hlt
        obtain ⟨st, hst⟩ : ∃ st, ls[k]? = some st := ⟨_, List.getElem?_eq_getElem (by rw [HL.out]; exact hlt)⟩
        obtain ⟨b, off, v0, v1, v2, v3, v4, rfl, _, _, _, c2, c3, _, hs⟩ := HA.out k st hst
        obtain ⟨A2, cap2, rfl, _, _, _⟩ := hs.B
        obtain ⟨A3, cap3, rfl, _, _, _⟩ := hs.K
        have HST := Lib.hid hst
        obtain ⟨x, hx⟩ : ∃ x, st.B.length = x := ⟨_, rfl⟩
        obtain ⟨y, hy⟩ : ∃ y, st.K.length = y := ⟨_, rfl⟩
        rw [hx] at c2
        rw [hy] at c3
        have HX := Lib.hid hx
        have HY := Lib.hid hy
        clear hst hs hx hy
        by_cases hb : 1024 < x
        · have hd3 : decide ((1024 : Int) < (x : Int)) = true := by simp; omega
          have hv : Hid (vastB ls = true) := Lib.hid (by
            unfold vastB
            rw [Bool.or_eq_true, List.any_eq_true]
            exact .inr ⟨st, List.mem_of_getElem? HST.out, by rw [HX.out]; simp [hb]⟩)
          go_wp2
          go_ret
          exact ⟨by rw [hv.out]; rfl, rfl⟩
        · have hd3 : decide ((1024 : Int) < (x : Int)) = false := by simp; omega
          by_cases hc : 200 < y
          · have hd4 : decide ((200 : Int) < (y : Int)) = true := by simp; omega
            have hv : Hid (vastB ls = true) := Lib.hid (by
              unfold vastB
              rw [Bool.or_eq_true, List.any_eq_true]
              exact .inr ⟨st, List.mem_of_getElem? HST.out, by rw [HY.out]; simp [hc]⟩)
            go_wp2
            go_ret
            exact ⟨by rw [hv.out]; rfl, rfl⟩
          · have hd4 : decide ((200 : Int) < (y : Int)) = false := by simp; omega
            have hR2 : Hid (∀ j st, j < k + 1 → ls[j]? = some st → st.B.length ≤ 1024 ∧ st.K.length ≤ 200) := Lib.hid fun j st' hj hst' => by
              by_cases e : j = k
              · subst e
                have := HST.out
                rw [hst'] at this
                cases this
                rw [HX.out, HY.out]; omega
              · exact hR.out j st' (by omega) hst'
            go_wp2
            go_round
            case rel => exact ⟨k + 1, by omega, by go_num, hR2⟩
            case measure => simp [intOf]; omega
      · obtain rfl : len = k := by omega
        have hd2 : decide ((len : Int) < (len : Int)) = false := by simp
        have hv : Hid (vastB ls = false) := Lib.hid (by
          unfold vastB
          simp only [Bool.or_eq_false_iff, decide_eq_false_iff_not, List.any_eq_false, Bool.or_eq_true, decide_eq_true_eq, not_or]
          refine ⟨by rw [HL.out]; omega, fun st hst => ?_⟩
          obtain ⟨j, hj, rfl⟩ := List.getElem_of_mem hst
          have := hR.out j _ (by rw [← HL.out]; exact hj) (List.getElem?_eq_getElem hj)
          omega)
        go_wp2
        go_ret
        exact ⟨by rw [hv.out]; rfl, rfl⟩

set_option maxHeartbeats 400000 in
theorem twin_any (A : Option Addr) (len cap : Nat) (bs : List UInt8) (w : World) (hbl : bs.length = len) (hl : len ≤ 1048576) (hA : Bytes w A bs) :
    Calls Tryz.prog 71 #[.slice A len cap] w fun e w' => ∃ A' c, e = .returned (.slice A' len c) ∧ Own8 w' w.heap.size A' len c bs ∧ Below w.heap.size w w' := by
  have hb0 : Below w.heap.size w (w.alloc (.cells #[] 5)) := (Below.refl _ w).alloc (Nat.le_refl _) _
  obtain ⟨v1, w1, hrun1, hown1, hgr1⟩ := run_app8 (w.alloc (.cells #[] 5)) w.heap.size _ 0 [] (own_new w w.heap.size (Nat.le_refl _)) A len cap bs hbl (hA.below hb0) (by omega) (by simp)
  rw [List.nil_append, Nat.zero_add] at hown1
  have hb1 : Below w.heap.size w w1 := hb0.grown hgr1 (by simp) (fun k e => by simp [Value.ownBlock] at e; omega)
  obtain ⟨A', c, rfl, ho⟩ := own8_of hown1
  have HRUN := Lib.hid hrun1
  have HO := Lib.hid (And.intro ho hb1)
  clear hrun1 hown1 hgr1 hb1 hb0 hA ho
  go_enter Tryz.func71, Tryz.ntmps71
  go_wp2_with (at_builtin; refine wpList_app rfl _ _ 32 rfl _ _ _ _ rfl rfl HRUN.out ?_; clear HRUN)
  go_ret
  exact ⟨_, _, rfl, HO.out⟩
/-- The three blocks of does. -/
def wD (w : World) (cs : Array Value) : World := ((w.alloc (.cells cs 35)).alloc (.cells #[.slice none 0 0, .bool false, .int .i64 0] 47)).alloc (.cells #[.slice none 0 0, .bool false, .int .i64 0] 47)
def YD (w : World) : Nat → Prop := fun k => w.heap.size ≤ k ∧ k < w.heap.size + 3
theorem wD_size (w : World) (cs : Array Value) : (wD w cs).heap.size = w.heap.size + 3 := by unfold wD; simp
theorem wD_below (w : World) (cs : Array Value) : Below w.heap.size w (wD w cs) := (((Below.refl _ w).alloc (Nat.le_refl _) _).alloc (by simp) _).alloc (by simp; omega) _
structure Dz (w W : World) (cs xs : Array Value) : Prop where
  op : Blk W w.heap.size 35 cs
  r : Blk W (w.heap.size + 1) 47 #[.slice none 0 0, .bool false, .int .i64 0]
  x : Blk W (w.heap.size + 1 + 1) 47 xs
theorem Dz.new (w : World) (cs : Array Value) : Dz w (wD w cs) cs #[.slice none 0 0, .bool false, .int .i64 0] := by
  refine ⟨((Blk.new w _ cs).alloc _).alloc _, ?_, ?_⟩
  · have := (Blk.new (w.alloc (.cells cs 35)) 47 #[.slice none 0 0, .bool false, .int .i64 0]).alloc (.cells #[.slice none 0 0, .bool false, .int .i64 0] 47)
    rw [World.size_alloc] at this
    exact this
  · have := Blk.new ((w.alloc (.cells cs 35)).alloc (.cells #[.slice none 0 0, .bool false, .int .i64 0] 47)) 47 #[.slice none 0 0, .bool false, .int .i64 0]
    rw [World.size_alloc, World.size_alloc] at this
    exact this
theorem Dz.keep {w W W' : World} {cs xs : Array Value} (h : Dz w W cs xs) (hk : Keep (YD w) W W') : Dz w W' cs xs :=
  ⟨h.op.same (hk.at_ _ (⟨Nat.le_refl _, by omega⟩)), h.r.same (hk.at_ _ (⟨by omega, by omega⟩)), h.x.same (hk.at_ _ (⟨by omega, by omega⟩))⟩
theorem Dz.below {w W W' : World} {cs xs : Array Value} (h : Dz w W cs xs) (hb : Below W.heap.size W W') : Dz w W' cs xs := ⟨h.op.below hb h.op.lt, h.r.below hb h.r.lt, h.x.below hb h.x.lt⟩
theorem offS {G : Nat → Prop} {w w1 : World} (h : Off G w w1) (g i : Nat) (v : Value) (hg : G g) : Off G w (w1.setCell ⟨g, i, none⟩ v) := h.trans ((Off.setc w1 g i v).mono fun k _ e => by have e' : k = g := e; rw [e']; exact hg)
theorem off3 (w : World) (g i1 i2 i3 : Nat) (v1 v2 v3 : Value) : Off (fun k => k = g) w (((w.setCell ⟨g, i1, none⟩ v1).setCell ⟨g, i2, none⟩ v2).setCell ⟨g, i3, none⟩ v3) := offS (offS (Off.setc _ _ _ _) _ _ _ rfl) _ _ _ rfl
/-- What is answered where there is no cache. -/
def DidN (w0 w' : World) (k : Int) (en : Ending) : Prop := ∃ A c e, en = .returned (.agg #[.slice A 0 c, .bool false, .int .i64 e]) ∧ (0 ≤ k ∧ k ≤ 5 → e = 2) ∧ Below w0.heap.size w0 w'
theorem DidN.fin {w0 w w' wf : World} {k e : Int} {A : Option Addr} {c : Nat} (hw : w0.heap.size ≤ w.heap.size) (he : 0 ≤ k ∧ k ≤ 5 → e = 2) (hb : Below w0.heap.size w0 w') (ho : Off (fun k => k = w.heap.size + 1 ∨ k = w.heap.size + 1 + 1) w' wf) : DidN w0 wf k (.returned (.agg #[.slice A 0 c, .bool false, .int .i64 e])) :=
  ⟨A, c, e, rfl, he, hb.trans (ho.below hb.size (fun k e => by rcases e with e | e <;> omega))⟩
/-- Between the rounds of the loops that turn what was handed out. -/
structure LpN (w0 w wr : World) (q len : Nat) (xs : Array Value) : Prop where
  r : Blk wr (w.heap.size + 1) 47 #[.slice none 0 0, .bool false, .int .i64 0]
  x : Blk wr (w.heap.size + 1 + 1) 47 xs
  mu : 0 < len → Mut wr q len
  bel : Below w0.heap.size w0 wr
theorem LpN.start {w0 w w2 w5 : World} {q len : Nat} {cs ys xs : Array Value} (h0 : w0.heap.size ≤ w.heap.size) (hz : Dz w w2 cs ys) (hb : Below w0.heap.size w0 w2) (hmu : 0 < len → Mut w2 q len) (hq : 0 < len → w.heap.size + 3 ≤ q)
    (ho : Off (fun k => k = w.heap.size + 1 + 1) w2 w5) (hx : Blk w5 (w.heap.size + 1 + 1) 47 xs) : LpN w0 w w5 q len xs :=
  ⟨hz.r.same (ho.block _ hz.r.lt (by show ¬ (w.heap.size + 1 = w.heap.size + 1 + 1); omega)), hx, fun hl => (hmu hl).same ho.size (ho.block _ (hmu hl).lt (fun e => by have e' : q = w.heap.size + 1 + 1 := e; have := hq hl; omega)),
    hb.trans (ho.below hb.size (fun k e => by have e' : k = w.heap.size + 1 + 1 := e; omega))⟩
theorem LpN.step {w0 w wr : World} {q len : Nat} {xs : Array Value} (h : LpN w0 w wr q len xs) (hw : w0.heap.size ≤ w.heap.size) (hq : w.heap.size + 3 ≤ q) (hl : 0 < len) (i : Nat) (c : UInt8) : LpN w0 w (wr.setCell ⟨q, i, none⟩ (bv c)) q len xs :=
  ⟨h.r.far (p := ⟨q, i, none⟩) (by show w.heap.size + 1 ≠ q; omega) _, h.x.far (p := ⟨q, i, none⟩) (by show w.heap.size + 1 + 1 ≠ q; omega) _, fun _ => (h.mu hl).set_ i c, h.bel.setCell (p := ⟨q, i, none⟩) (by show w0.heap.size ≤ q; omega) _⟩
theorem LpN.fin {w0 w wr wf : World} {q len c : Nat} {xs : Array Value} {A : Option Addr} {k e : Int} (h : LpN w0 w wr q len xs) (hw : w0.heap.size ≤ w.heap.size) (he : 0 ≤ k ∧ k ≤ 5 → e = 2) (ho : Off (fun k => k = w.heap.size + 1) wr wf) : DidN w0 wf k (.returned (.agg #[.slice A 0 c, .bool false, .int .i64 e])) :=
  ⟨A, c, e, rfl, he, h.bel.trans (ho.below h.bel.size (fun k e => by have e' : k = w.heap.size + 1 := e; omega))⟩
section
variable {w : World}
set_option maxRecDepth 20000 in
set_option maxHeartbeats 2000000 in
theorem doesn_read {v0 v1 v2 v3 v4 : Value} {o : Ov} (hv : OpV w v0 v1 v2 v3 v4 o) (hk : o.kind = 0) :
    Calls Tryz.prog 25 #[.pointer none, .agg #[v0, v1, v2, v3, v4]] w (fun en w' => DidN w w' o.kind en) := by
  obtain ⟨cs, hcs⟩ : ∃ cs : Array Value, #[v0, v1, v2, v3, v4] = cs := ⟨_, rfl⟩
  have hz := Dz.new w cs
  obtain ⟨⟨e0, _, _⟩, ⟨e1, hs1, hs2⟩, ⟨A, c, e2, _, _, hby⟩, ⟨K, d, e3, _, _, hin⟩, ⟨e4, _, _⟩⟩ := hv
  have HT := Lib.hid (twin_any none 0 0 [] (wD w cs) rfl (by omega) (Bytes.nil _ _))
  have HC := Lib.hid (sread_nil o.s (wD w cs))
  have HD := Lib.hid (And.intro (Nat.le_refl w.heap.size) (And.intro (wD_below w cs) hz))
  rw [hk] at e0 ⊢
  generalize o.B.length = x at *
  generalize o.K.length = y at *
  generalize o.torn = tn at *
  clear hz hby hin hk
  subst e0 e1 e2 e3 e4
  subst hcs
  obtain ⟨s, hs⟩ : ∃ s, o.s = s := ⟨_, rfl⟩
  rw [hs] at HC HD hs1 hs2 HT ⊢
  clear hs
  go_enter Tryz.func25, Tryz.ntmps25
  go_wp2_with fail
  refine HC.out.mono ?_
  rintro en w1 ⟨rfl, rfl⟩
  clear HC
  go_wp2_with fail
  refine HT.out.mono ?_
  rintro en w2 ⟨A2, c2, rfl, ho, hb2⟩
  have hz2 := HD.out.2.2.below hb2
  have x0 := hz2.x.cell 0
  have x1 := hz2.x.cell 1
  have x2 := hz2.x.cell 2
  have xf := hz2.x.frozen
  have HS : Hid (LpN w w (((w2.setCell ⟨w.heap.size + 1 + 1, 0, none⟩ (.slice A2 0 c2)).setCell ⟨w.heap.size + 1 + 1, 1, none⟩ (.bool false)).setCell ⟨w.heap.size + 1 + 1, 2, none⟩ (.int .i64 2)) 0 0 #[.slice A2 0 c2, .bool false, .int .i64 2]) := Lib.hid
    (LpN.start HD.out.1 hz2 (HD.out.2.1.trans (hb2.mono HD.out.2.1.size)) (fun h => absurd h (Nat.lt_irrefl 0)) (fun h => absurd h (Nat.lt_irrefl 0)) (off3 _ _ _ _ _ _ _ _) (((hz2.x.set_ 0 _).set_ 1 _).set_ 2 _))
  have HL := Lib.hid HD.out.1
  clear ho hb2 hz2 HT HD
  go_wp2_with fail
  go_loopw [8] (fun iv wr => iv = .int .i64 0 ∧ Hid (LpN w w wr 0 0 #[.slice A2 0 c2, .bool false, .int .i64 2])) (fun _ _ => 0)
  case atStart => exact ⟨rfl, HS⟩
  case round =>
    clear HS x0 x1 x2 xf
    obtain ⟨rfl, hI⟩ := hrel
    have r0 := hI.out.r.cell 0
    have r1 := hI.out.r.cell 1
    have r2 := hI.out.r.cell 2
    have rf := hI.out.r.frozen
    have y0 := hI.out.x.cell 0
    have y1 := hI.out.x.cell 1
    have y2 := hI.out.x.cell 2
    have HI := Lib.hid hI.out
    clear hI
    go_wp2_with fail
    have HB6 := ((HI.out.r.set_ 0 (.slice A2 0 c2)).set_ 1 (.bool false)).set_ 2 (.int .i64 2)
    refine bodyPost_ret (results_cell_row rfl _ _ (w.heap.size + 1) 47 _ (0, 0) _ rfl HB6 Tryz.underlying47 rfl (by kernel_rfl)) rfl ?_
    exact HI.out.fin HL.out (fun _ => rfl) (off3 _ _ _ _ _ _ _ _)
set_option maxRecDepth 20000 in
set_option maxHeartbeats 2000000 in
theorem doesn_write {v0 v1 v2 v3 v4 : Value} {o : Ov} (hv : OpV w v0 v1 v2 v3 v4 o) (hk : o.kind = 1) (hB : o.B.length ≤ 1024) :
    Calls Tryz.prog 25 #[.pointer none, .agg #[v0, v1, v2, v3, v4]] w (fun en w' => DidN w w' o.kind en) := by
  obtain ⟨cs, hcs⟩ : ∃ cs : Array Value, #[v0, v1, v2, v3, v4] = cs := ⟨_, rfl⟩
  have hz := Dz.new w cs
  obtain ⟨⟨e0, _, _⟩, ⟨e1, hs1, hs2⟩, ⟨A, c, e2, _, _, hby⟩, ⟨K, d, e3, _, _, hin⟩, ⟨e4, _, _⟩⟩ := hv
  have HT := Lib.hid (twin_any A o.B.length c o.B (wD w cs) rfl (by omega) (hby.below (wD_below w cs)))
  have HC := Lib.hid (fun (A2 : Option Addr) (l2 c2 : Nat) W => swrite_nil o.s A2 l2 c2 W)
  have HD := Lib.hid (And.intro (Nat.le_refl w.heap.size) (And.intro (wD_below w cs) hz))
  rw [hk] at e0 ⊢
  obtain ⟨len, hlen⟩ : ∃ len, o.B.length = len := ⟨_, rfl⟩
  rw [hlen] at HT e2 hB
  generalize o.K.length = y at *
  generalize o.torn = tn at *
  clear hz hby hin hk hlen
  subst e0 e1 e2 e3 e4
  subst hcs
  obtain ⟨s, hs⟩ : ∃ s, o.s = s := ⟨_, rfl⟩
  rw [hs] at HC HD hs1 hs2 HT ⊢
  clear hs
  go_enter Tryz.func25, Tryz.ntmps25
  go_wp2_with fail
  refine HT.out.mono ?_
  rintro en w1 ⟨A2, c2, rfl, ho, hb⟩
  have hz1 := HD.out.2.2.below hb
  have s1 : w1.cell? ⟨w.heap.size, 1, none⟩ = some (.int .i64 s) := hz1.op.cell 1
  have hw1 : (wD w #[.int .i64 1, .int .i64 s, .slice A len c, .slice K y d, .int .i64 tn]).heap.size = w.heap.size + 3 := wD_size w _
  obtain ⟨q, hq⟩ : ∃ q, 0 < len → A2 = some ⟨q, 0, none⟩ ∧ w.heap.size + 3 ≤ q ∧ Mut w1 q len := by
    by_cases h0 : 0 < len
    · obtain ⟨q, e, hr⟩ := ho.may h0
      have h9 := (ho.blk _ e).1
      rw [hw1] at h9
      exact ⟨q, fun _ => ⟨e, h9, hr.mut⟩⟩
    · exact ⟨0, fun h => absurd h h0⟩
  have x0 := hz1.x.cell 0
  have x1 := hz1.x.cell 1
  have x2 := hz1.x.cell 2
  have xf := hz1.x.frozen
  have HS : Hid (LpN w w (w1.setCell ⟨w.heap.size + 1 + 1, 2, none⟩ (.int .i64 2)) q len #[.slice none 0 0, .bool false, .int .i64 2]) := Lib.hid
    (LpN.start HD.out.1 hz1 (HD.out.2.1.trans (hb.mono HD.out.2.1.size)) (fun h => (hq h).2.2) (fun h => (hq h).2.1) (Off.setc _ _ _ _) (hz1.x.set_ 2 _))
  have HG := Lib.hid (And.intro HD.out.1 hq)
  clear ho hb hz1 HT hq hw1 HD
  go_wp2_with fail
  refine (HC.out _ _ _ _).mono ?_
  rintro en w2 ⟨rfl, rfl⟩
  clear HC
  go_wp2_with fail
  go_loopw [10] (fun iv wr => ∃ i : Nat, i ≤ len ∧ iv = .int .i64 (i : Int) ∧ Hid (LpN w w wr q len #[.slice none 0 0, .bool false, .int .i64 2])) (fun iv _ => len - (intOf iv).toNat)
  case atStart => exact ⟨0, Nat.zero_le _, rfl, HS⟩
  case round =>
    clear HS x0 x1 x2 xf
    obtain ⟨i, hi, rfl, hI⟩ := hrel
    by_cases hlt : i < len
    · have hd : decide ((i : Int) < (len : Int)) = true := by simpa using hlt
      have hA := (HG.out.2 (by omega)).1
      subst hA
      have hmu := hI.out.mu (by omega)
      obtain ⟨b, hcb⟩ := hmu.cell i hlt
      have hfb := hmu.free i hlt
      have HI2 := Lib.hid (hI.out.step HG.out.1 (HG.out.2 (by omega)).2.1 (by omega) i 85)
      unfold bv at hcb
      clear hmu hI
      go_wp2_with fail
      go_roundw
      case rel => exact ⟨i + 1, by omega, by go_num, HI2⟩
      case measure => simp [intOf]; omega
    · obtain rfl : len = i := by omega
      have hd : decide ((len : Int) < (len : Int)) = false := by simp
      have r0 := hI.out.r.cell 0
      have r1 := hI.out.r.cell 1
      have r2 := hI.out.r.cell 2
      have rf := hI.out.r.frozen
      have y0 := hI.out.x.cell 0
      have y1 := hI.out.x.cell 1
      have y2 := hI.out.x.cell 2
      have HI := Lib.hid hI.out
      clear hI
      go_wp2_with fail
      have HB6 := ((HI.out.r.set_ 0 (.slice none 0 0)).set_ 1 (.bool false)).set_ 2 (.int .i64 2)
      refine bodyPost_ret (results_cell_row rfl _ _ (w.heap.size + 1) 47 _ (0, 0) _ rfl HB6 Tryz.underlying47 rfl (by kernel_rfl)) rfl ?_
      exact HI.out.fin HG.out.1 (fun _ => rfl) (off3 _ _ _ _ _ _ _ _)
set_option maxRecDepth 20000 in
set_option maxHeartbeats 2000000 in
theorem doesn_commit {v0 v1 v2 v3 v4 : Value} {o : Ov} (hv : OpV w v0 v1 v2 v3 v4 o) (hk : o.kind = 3) (hB : o.B.length ≤ 1024) :
    Calls Tryz.prog 25 #[.pointer none, .agg #[v0, v1, v2, v3, v4]] w (fun en w' => DidN w w' o.kind en) := by
  obtain ⟨cs, hcs⟩ : ∃ cs : Array Value, #[v0, v1, v2, v3, v4] = cs := ⟨_, rfl⟩
  have hz := Dz.new w cs
  obtain ⟨⟨e0, _, _⟩, ⟨e1, hs1, hs2⟩, ⟨A, c, e2, _, _, hby⟩, ⟨K, d, e3, _, _, hin⟩, ⟨e4, _, _⟩⟩ := hv
  have HT := Lib.hid (twin_any A o.B.length c o.B (wD w cs) rfl (by omega) (hby.below (wD_below w cs)))
  have HC := Lib.hid (fun (A2 : Option Addr) (l2 c2 : Nat) W => scommit_nil A2 l2 c2 W)
  have HD := Lib.hid (And.intro (Nat.le_refl w.heap.size) (And.intro (wD_below w cs) hz))
  rw [hk] at e0 ⊢
  obtain ⟨len, hlen⟩ : ∃ len, o.B.length = len := ⟨_, rfl⟩
  rw [hlen] at HT e2 hB
  generalize o.K.length = y at *
  generalize o.torn = tn at *
  clear hz hby hin hk hlen
  subst e0 e1 e2 e3 e4
  subst hcs
  obtain ⟨s, hs⟩ : ∃ s, o.s = s := ⟨_, rfl⟩
  rw [hs] at HD hs1 hs2 HT ⊢
  clear hs
  go_enter Tryz.func25, Tryz.ntmps25
  go_wp2_with fail
  refine HT.out.mono ?_
  rintro en w1 ⟨A2, c2, rfl, ho, hb⟩
  have hz1 := HD.out.2.2.below hb
  have s1 : w1.cell? ⟨w.heap.size, 1, none⟩ = some (.int .i64 s) := hz1.op.cell 1
  have hw1 : (wD w #[.int .i64 3, .int .i64 s, .slice A len c, .slice K y d, .int .i64 tn]).heap.size = w.heap.size + 3 := wD_size w _
  obtain ⟨q, hq⟩ : ∃ q, 0 < len → A2 = some ⟨q, 0, none⟩ ∧ w.heap.size + 3 ≤ q ∧ Mut w1 q len := by
    by_cases h0 : 0 < len
    · obtain ⟨q, e, hr⟩ := ho.may h0
      have h9 := (ho.blk _ e).1
      rw [hw1] at h9
      exact ⟨q, fun _ => ⟨e, h9, hr.mut⟩⟩
    · exact ⟨0, fun h => absurd h h0⟩
  have x0 := hz1.x.cell 0
  have x1 := hz1.x.cell 1
  have x2 := hz1.x.cell 2
  have xf := hz1.x.frozen
  have HS : Hid (LpN w w (w1.setCell ⟨w.heap.size + 1 + 1, 2, none⟩ (.int .i64 2)) q len #[.slice none 0 0, .bool false, .int .i64 2]) := Lib.hid
    (LpN.start HD.out.1 hz1 (HD.out.2.1.trans (hb.mono HD.out.2.1.size)) (fun h => (hq h).2.2) (fun h => (hq h).2.1) (Off.setc _ _ _ _) (hz1.x.set_ 2 _))
  have HG := Lib.hid (And.intro HD.out.1 hq)
  clear ho hb hz1 HT hq hw1 HD
  go_wp2_with fail
  refine (HC.out _ _ _ _).mono ?_
  rintro en w2 ⟨rfl, rfl⟩
  clear HC
  go_wp2_with fail
  go_loopw [12] (fun iv wr => ∃ i : Nat, i ≤ len ∧ iv = .int .i64 (i : Int) ∧ Hid (LpN w w wr q len #[.slice none 0 0, .bool false, .int .i64 2])) (fun iv _ => len - (intOf iv).toNat)
  case atStart => exact ⟨0, Nat.zero_le _, rfl, HS⟩
  case round =>
    clear HS x0 x1 x2 xf
    obtain ⟨i, hi, rfl, hI⟩ := hrel
    by_cases hlt : i < len
    · have hd : decide ((i : Int) < (len : Int)) = true := by simpa using hlt
      have hA := (HG.out.2 (by omega)).1
      subst hA
      have hmu := hI.out.mu (by omega)
      obtain ⟨b, hcb⟩ := hmu.cell i hlt
      have hfb := hmu.free i hlt
      have HI2 := Lib.hid (hI.out.step HG.out.1 (HG.out.2 (by omega)).2.1 (by omega) i 85)
      unfold bv at hcb
      clear hmu hI
      go_wp2_with fail
      go_roundw
      case rel => exact ⟨i + 1, by omega, by go_num, HI2⟩
      case measure => simp [intOf]; omega
    · obtain rfl : len = i := by omega
      have hd : decide ((len : Int) < (len : Int)) = false := by simp
      have r0 := hI.out.r.cell 0
      have r1 := hI.out.r.cell 1
      have r2 := hI.out.r.cell 2
      have rf := hI.out.r.frozen
      have y0 := hI.out.x.cell 0
      have y1 := hI.out.x.cell 1
      have y2 := hI.out.x.cell 2
      have HI := Lib.hid hI.out
      clear hI
      go_wp2_with fail
      have HB6 := ((HI.out.r.set_ 0 (.slice none 0 0)).set_ 1 (.bool false)).set_ 2 (.int .i64 2)
      refine bodyPost_ret (results_cell_row rfl _ _ (w.heap.size + 1) 47 _ (0, 0) _ rfl HB6 Tryz.underlying47 rfl (by kernel_rfl)) rfl ?_
      exact HI.out.fin HG.out.1 (fun _ => rfl) (off3 _ _ _ _ _ _ _ _)
set_option maxRecDepth 20000 in
set_option maxHeartbeats 2000000 in
theorem doesn_drop {v0 v1 v2 v3 v4 : Value} {o : Ov} (hv : OpV w v0 v1 v2 v3 v4 o) (hk : o.kind = 2) :
    Calls Tryz.prog 25 #[.pointer none, .agg #[v0, v1, v2, v3, v4]] w (fun en w' => DidN w w' o.kind en) := by
  obtain ⟨cs, hcs⟩ : ∃ cs : Array Value, #[v0, v1, v2, v3, v4] = cs := ⟨_, rfl⟩
  have hz := Dz.new w cs
  obtain ⟨⟨e0, _, _⟩, ⟨e1, hs1, hs2⟩, ⟨A, c, e2, _⟩, ⟨K, d, e3, _⟩, ⟨e4, _, _⟩⟩ := hv
  have hcall : Calls Tryz.prog 49 #[.pointer none, .int .i64 o.s] (wD w cs) fun en w' => ∃ e, en = .returned (.int .i64 e) ∧ (0 ≤ o.kind ∧ o.kind ≤ 5 → e = 2) ∧ Below w.heap.size w w' ∧ Keep (YD w) (wD w cs) w' := by
    refine (sdrop_nil o.s _).mono ?_
    rintro en w' ⟨rfl, rfl⟩
    exact ⟨2, rfl, fun _ => rfl, (wD_below w cs), ⟨Nat.le_refl _, fun _ _ => rfl⟩⟩
  have HC := Lib.hid hcall
  have HD := Lib.hid (Nat.le_refl w.heap.size)
  rw [hk] at e0 HC ⊢
  generalize o.B.length = x at *
  generalize o.K.length = y at *
  generalize o.torn = tn at *
  clear hcall
  subst e0 e1 e2 e3 e4
  subst hcs
  obtain ⟨s, hs⟩ : ∃ s, o.s = s := ⟨_, rfl⟩
  rw [hs] at HC hz hs1 hs2 ⊢
  clear hs hk
  go_enter Tryz.func25, Tryz.ntmps25
  go_wp2_with fail
  refine HC.out.mono ?_
  rintro en w' ⟨e, rfl, he, hb, hkp⟩
  obtain ⟨zo, zr, zx⟩ := hz.keep hkp
  have r0 := zr.cell 0
  have r1 := zr.cell 1
  have r2 := zr.cell 2
  have rf := zr.frozen
  have x0 := zx.cell 0
  have x1 := zx.cell 1
  have x2 := zx.cell 2
  have xf := zx.frozen
  have HZ := Lib.hid (And.intro zr zx)
  have HF := Lib.hid (And.intro he hb)
  clear zo zr zx he hb hkp hz HC
  go_wp2_with fail
  have HB6 := (((HZ.out.1.far (p := ⟨w.heap.size + 1 + 1, 2, none⟩) (by show w.heap.size + 1 ≠ w.heap.size + 1 + 1; omega) (.int .i64 e)).set_ 0 (.slice none 0 0)).set_ 1 (.bool false)).set_ 2 (.int .i64 e)
  refine bodyPost_ret (results_cell_row rfl _ _ (w.heap.size + 1) 47 _ (0, 0) _ rfl HB6 Tryz.underlying47 rfl (by kernel_rfl)) rfl ?_
  exact DidN.fin HD.out HF.out.1 HF.out.2 (offS (offS (offS (offS (Off.refl _ _) _ _ _ (.inr rfl)) _ _ _ (.inl rfl)) _ _ _ (.inl rfl)) _ _ _ (.inl rfl))
set_option maxRecDepth 20000 in
set_option maxHeartbeats 2000000 in
theorem doesn_abort {v0 v1 v2 v3 v4 : Value} {o : Ov} (hv : OpV w v0 v1 v2 v3 v4 o) (hk : o.kind = 4) :
    Calls Tryz.prog 25 #[.pointer none, .agg #[v0, v1, v2, v3, v4]] w (fun en w' => DidN w w' o.kind en) := by
  obtain ⟨cs, hcs⟩ : ∃ cs : Array Value, #[v0, v1, v2, v3, v4] = cs := ⟨_, rfl⟩
  have hz := Dz.new w cs
  obtain ⟨⟨e0, _, _⟩, ⟨e1, hs1, hs2⟩, ⟨A, c, e2, _⟩, ⟨K, d, e3, _⟩, ⟨e4, _, _⟩⟩ := hv
  have hcall : Calls Tryz.prog 52 #[.pointer none] (wD w cs) fun en w' => ∃ e, en = .returned (.int .i64 e) ∧ (0 ≤ o.kind ∧ o.kind ≤ 5 → e = 2) ∧ Below w.heap.size w w' ∧ Keep (YD w) (wD w cs) w' := by
    refine (sabort_nil _).mono ?_
    rintro en w' ⟨rfl, rfl⟩
    exact ⟨2, rfl, fun _ => rfl, (wD_below w cs), ⟨Nat.le_refl _, fun _ _ => rfl⟩⟩
  have HC := Lib.hid hcall
  have HD := Lib.hid (Nat.le_refl w.heap.size)
  rw [hk] at e0 HC ⊢
  generalize o.B.length = x at *
  generalize o.K.length = y at *
  generalize o.torn = tn at *
  clear hcall
  subst e0 e1 e2 e3 e4
  subst hcs
  obtain ⟨s, hs⟩ : ∃ s, o.s = s := ⟨_, rfl⟩
  rw [hs] at HC hz hs1 hs2 ⊢
  clear hs hk
  go_enter Tryz.func25, Tryz.ntmps25
  go_wp2_with fail
  refine HC.out.mono ?_
  rintro en w' ⟨e, rfl, he, hb, hkp⟩
  obtain ⟨zo, zr, zx⟩ := hz.keep hkp
  have r0 := zr.cell 0
  have r1 := zr.cell 1
  have r2 := zr.cell 2
  have rf := zr.frozen
  have x0 := zx.cell 0
  have x1 := zx.cell 1
  have x2 := zx.cell 2
  have xf := zx.frozen
  have HZ := Lib.hid (And.intro zr zx)
  have HF := Lib.hid (And.intro he hb)
  clear zo zr zx he hb hkp hz HC
  go_wp2_with fail
  have HB6 := (((HZ.out.1.far (p := ⟨w.heap.size + 1 + 1, 2, none⟩) (by show w.heap.size + 1 ≠ w.heap.size + 1 + 1; omega) (.int .i64 e)).set_ 0 (.slice none 0 0)).set_ 1 (.bool false)).set_ 2 (.int .i64 e)
  refine bodyPost_ret (results_cell_row rfl _ _ (w.heap.size + 1) 47 _ (0, 0) _ rfl HB6 Tryz.underlying47 rfl (by kernel_rfl)) rfl ?_
  exact DidN.fin HD.out HF.out.1 HF.out.2 (offS (offS (offS (offS (Off.refl _ _) _ _ _ (.inr rfl)) _ _ _ (.inl rfl)) _ _ _ (.inl rfl)) _ _ _ (.inl rfl))
set_option maxRecDepth 20000 in
set_option maxHeartbeats 2000000 in
theorem doesn_evict {v0 v1 v2 v3 v4 : Value} {o : Ov} (hv : OpV w v0 v1 v2 v3 v4 o) (hk : o.kind = 5) :
    Calls Tryz.prog 25 #[.pointer none, .agg #[v0, v1, v2, v3, v4]] w (fun en w' => DidN w w' o.kind en) := by
  obtain ⟨cs, hcs⟩ : ∃ cs : Array Value, #[v0, v1, v2, v3, v4] = cs := ⟨_, rfl⟩
  have hz := Dz.new w cs
  obtain ⟨⟨e0, _, _⟩, ⟨e1, hs1, hs2⟩, ⟨A, c, e2, _⟩, ⟨K, d, e3, _⟩, ⟨e4, _, _⟩⟩ := hv
  have hcall : Calls Tryz.prog 72 #[.pointer none, .int .i64 o.s] (wD w cs) fun en w' => ∃ e, en = .returned (.tuple #[.bool false, .int .i64 e]) ∧ (0 ≤ o.kind ∧ o.kind ≤ 5 → e = 2) ∧ Below w.heap.size w w' ∧ Keep (YD w) (wD w cs) w' := by
    refine (sevict_nil o.s _).mono ?_
    rintro en w' ⟨rfl, rfl⟩
    exact ⟨2, rfl, fun _ => rfl, (wD_below w cs), ⟨Nat.le_refl _, fun _ _ => rfl⟩⟩
  have HC := Lib.hid hcall
  have HD := Lib.hid (Nat.le_refl w.heap.size)
  rw [hk] at e0 HC ⊢
  generalize o.B.length = x at *
  generalize o.K.length = y at *
  generalize o.torn = tn at *
  clear hcall
  subst e0 e1 e2 e3 e4
  subst hcs
  obtain ⟨s, hs⟩ : ∃ s, o.s = s := ⟨_, rfl⟩
  rw [hs] at HC hz hs1 hs2 ⊢
  clear hs hk
  go_enter Tryz.func25, Tryz.ntmps25
  go_wp2_with fail
  refine HC.out.mono ?_
  rintro en w' ⟨e, rfl, he, hb, hkp⟩
  obtain ⟨zo, zr, zx⟩ := hz.keep hkp
  have r0 := zr.cell 0
  have r1 := zr.cell 1
  have r2 := zr.cell 2
  have rf := zr.frozen
  have x0 := zx.cell 0
  have x1 := zx.cell 1
  have x2 := zx.cell 2
  have xf := zx.frozen
  have HZ := Lib.hid (And.intro zr zx)
  have HF := Lib.hid (And.intro he hb)
  clear zo zr zx he hb hkp hz HC
  go_wp2_with fail
  have HB6 := ((((HZ.out.1.far (p := ⟨w.heap.size + 1 + 1, 1, none⟩) (by show w.heap.size + 1 ≠ w.heap.size + 1 + 1; omega) (.bool false)).far (p := ⟨w.heap.size + 1 + 1, 2, none⟩) (by show w.heap.size + 1 ≠ w.heap.size + 1 + 1; omega) (.int .i64 e)).set_ 0 (.slice none 0 0)).set_ 1 (.bool false)).set_ 2 (.int .i64 e)
  refine bodyPost_ret (results_cell_row rfl _ _ (w.heap.size + 1) 47 _ (0, 0) _ rfl HB6 Tryz.underlying47 rfl (by kernel_rfl)) rfl ?_
  exact DidN.fin HD.out HF.out.1 HF.out.2 (offS (offS (offS (offS (offS (Off.refl _ _) _ _ _ (.inr rfl)) _ _ _ (.inr rfl)) _ _ _ (.inl rfl)) _ _ _ (.inl rfl)) _ _ _ (.inl rfl))
set_option maxRecDepth 20000 in
set_option maxHeartbeats 2000000 in
theorem doesn_other {v0 v1 v2 v3 v4 : Value} {o : Ov} (hv : OpV w v0 v1 v2 v3 v4 o) (hk : o.kind < 0 ∨ 5 < o.kind) :
    Calls Tryz.prog 25 #[.pointer none, .agg #[v0, v1, v2, v3, v4]] w (fun en w' => DidN w w' o.kind en) := by
  obtain ⟨cs, hcs⟩ : ∃ cs : Array Value, #[v0, v1, v2, v3, v4] = cs := ⟨_, rfl⟩
  have hz := Dz.new w cs
  obtain ⟨⟨e0, _, _⟩, ⟨e1, hs1, hs2⟩, ⟨A, c, e2, _⟩, ⟨K, d, e3, _⟩, ⟨e4, _, _⟩⟩ := hv
  have HD := Lib.hid (And.intro (Nat.le_refl w.heap.size) (wD_below w cs))
  obtain ⟨kk, hkk⟩ : ∃ kk, o.kind = kk := ⟨_, rfl⟩
  rw [hkk] at e0 hk ⊢
  generalize o.B.length = x at *
  generalize o.K.length = y at *
  generalize o.torn = tn at *
  subst e0 e1 e2 e3 e4
  subst hcs
  obtain ⟨s, hs⟩ : ∃ s, o.s = s := ⟨_, rfl⟩
  rw [hs] at hz hs1 hs2 HD ⊢
  clear hs hkk
  have d0 : (kk == 0) = false := by simp; omega
  have d1 : (kk == 1) = false := by simp; omega
  have d2 : (kk == 2) = false := by simp; omega
  have d3 : (kk == 3) = false := by simp; omega
  have d4 : (kk == 4) = false := by simp; omega
  have d5 : (kk == 5) = false := by simp; omega
  have HK := Lib.hid hk
  clear hk
  have HZ := Lib.hid (And.intro hz.r hz.x)
  clear hz
  go_enter Tryz.func25, Tryz.ntmps25
  go_wp2_with fail
  have HB6 := HZ.out.1
  refine bodyPost_ret (results_cell_row rfl _ _ (w.heap.size + 1) 47 _ (0, 0) _ rfl HB6 Tryz.underlying47 rfl (by kernel_rfl)) rfl ?_
  exact DidN.fin HD.out.1 (fun h9 => by have := HK.out; omega) HD.out.2 (Off.refl _ _)
end
end Go.Proofs.YtolpgpphjnkehaaGreatDoor.Shd
