/- pages: what is done with a map; that came in; vast. -/
import Derived.Test.YtcmaehilgeonjaaAH
import Derived.OpenShut
import Derived.Deep.Slices
import Derived.Deep.Fields
import Derived.Lib.SmallJoins
import Derived.ChangeSlices
namespace Go.Proofs.Ytcmaehilgeonjaa
open Go.RowKit Go.ChangeShapes Go.WideShapes Pgs
theorem add_none {b off : Nat} (i : Nat) : (⟨b, off, none⟩ : Addr).add i = ⟨b, off + i, none⟩ := by unfold Addr.add; split <;> simp_all

section
variable {H : Type} {enc : TypeId × Value → H} {W : World} {n : Nat}
/-- A slice of bytes among what came in. -/
theorem bytes_in {v : Value} {y : DataW H × List MemPlace} (h : DataW.trod enc Try.prog W 0 (fun _ => true) true n 30 [v] = some y) : ∃ A len cap bs, v = .slice A len cap ∧ bs.length = len ∧ len ≤ cap ∧ cap ≤ maxLen ∧ Bytes W A bs := by
  rcases open_ints Try.underlying30 Try.underlying5 (by kernel_rfl) h with ⟨hcs, _⟩ | ⟨x, l, c, zs, hcs, _, hl, hm, hz, _, hcell, hwz⟩
  · simp at hcs
    exact ⟨none, 0, 0, [], hcs, rfl, Nat.le_refl _, Nat.zero_le _, Bytes.nil _ _⟩
  · simp at hcs
    have hrow : IsRow .u8 W (some x) l c zs := .inr ⟨x, rfl, hl, hm, by simpa using hz, hcell, hwz⟩
    obtain ⟨bs, h1, h2, _⟩ := bytes_of_row8 hrow
    exact ⟨some x, l, c, bs, hcs, h1, hl, hm, h2⟩
end

/-- What is done with a map. -/
structure Ou where
  k : Int
  p : Int
  s : Int
  B : List UInt8
instance : Inhabited Ou := ⟨⟨0, 0, 0, []⟩⟩
structure OuV (w : World) (v0 v1 v2 v3 : Value) (o : Ou) : Prop where
  k : v0 = .int .i64 o.k
  p : v1 = .int .i64 o.p
  s : v2 = .int .i64 o.s
  B : ∃ A c, v3 = .slice A o.B.length c ∧ o.B.length ≤ c ∧ c ≤ maxLen ∧ Bytes w A o.B
theorem OuV.below {w w' : World} {v0 v1 v2 v3 : Value} {o : Ou} (h : OuV w v0 v1 v2 v3 o) (hb : Below w.heap.size w w') : OuV w' v0 v1 v2 v3 o := by
  obtain ⟨h0, h1, h2, A, c, a1, a2, a3, a4⟩ := h
  exact ⟨h0, h1, h2, A, c, a1, a2, a3, a4.below hb⟩
/-- What a value of type []Op reads as. -/
def Ops (w : World) (A : Option Addr) (ls : List Ou) : Prop :=
  ∀ (r : Nat) (o : Ou), ls[r]? = some o → ∃ b off v0 v1 v2 v3, A = some ⟨b, off, none⟩ ∧ b < w.heap.size ∧ w.cell? ⟨b, off + r * 4, none⟩ = some v0 ∧ w.cell? ⟨b, off + (r * 4 + 1), none⟩ = some v1 ∧ w.cell? ⟨b, off + (r * 4 + 2), none⟩ = some v2 ∧ w.cell? ⟨b, off + (r * 4 + 3), none⟩ = some v3 ∧ OuV w v0 v1 v2 v3 o
theorem Ops.below {w w' : World} {A : Option Addr} {ls : List Ou} (h : Ops w A ls) (hb : Below w.heap.size w w') : Ops w' A ls := fun r o hr => by
  obtain ⟨b, off, v0, v1, v2, v3, e, hlt, c0, c1, c2, c3, hs⟩ := h r o hr
  have hk : ∀ j, w'.cell? ⟨b, j, none⟩ = w.cell? ⟨b, j, none⟩ := fun j => hb.cell (p := ⟨b, j, none⟩) hlt
  exact ⟨b, off, v0, v1, v2, v3, e, Nat.lt_of_lt_of_le hlt hb.size, (hk _).trans c0, (hk _).trans c1, (hk _).trans c2, (hk _).trans c3, hs.below hb⟩
def OpenedOs (w : World) (v : Value) : Prop := ∃ A len cap ls, v = .slice A len cap ∧ ls.length = len ∧ len ≤ cap ∧ cap ≤ maxLen ∧ Ops w A ls
def OpenedOu (w : World) (v : Value) : Prop := ∃ (o : Ou) (A : Option Addr) (c : Nat), v = .agg #[.int .i64 o.k, .int .i64 o.p, .int .i64 o.s, .slice A o.B.length c] ∧ o.B.length ≤ c ∧ c ≤ maxLen ∧ Bytes w A o.B

theorem ouv_in {H : Type} {enc : TypeId × Value → H} {W : World} {n : Nat} {v0 v1 v2 v3 : Value} {y0 y1 y2 y3 : DataW H × List MemPlace}
    (h0 : DataW.trod enc Try.prog W 0 (fun _ => true) true n 3 [v0] = some y0) (h1 : DataW.trod enc Try.prog W 0 (fun _ => true) true n 3 [v1] = some y1) (h2 : DataW.trod enc Try.prog W 0 (fun _ => true) true n 3 [v2] = some y2) (h3 : DataW.trod enc Try.prog W 0 (fun _ => true) true n 30 [v3] = some y3) : ∃ o, OuV W v0 v1 v2 v3 o := by
  obtain ⟨s0, e0, _, _⟩ := DataW.trod_int Try.underlying3 h0
  obtain ⟨s1, e1, _, _⟩ := DataW.trod_int Try.underlying3 h1
  obtain ⟨s2, e2, _, _⟩ := DataW.trod_int Try.underlying3 h2
  obtain ⟨A, l, c, bs, rfl, rfl, a1, a2, a3⟩ := bytes_in h3
  simp at e0 e1 e2
  exact ⟨⟨s0, s1, s2, bs⟩, e0, e1, e2, A, c, rfl, a1, a2, a3⟩
theorem openedOu {H : Type} {enc : TypeId × Value → H} {W : World} {v : Value} {d : DataW H} {p : List MemPlace} (hok : Value.okWide Try.prog W .any 0 32 v)
    (h : DataW.Trod enc Try.prog W 0 (fun _ => true) true 32 v d p) : OpenedOu W v := by
  obtain ⟨v0, v1, v2, v3, y0, y1, y2, y3, n, rfl, _, _, h0, h1, h2, h3⟩ := Joins.open_agg4 Try.underlying32 (by kernel_rfl) (by kernel_rfl) hok h
  obtain ⟨o, rfl, rfl, rfl, A, c, rfl, a1, a2, a3⟩ := ouv_in h0 h1 h2 h3
  exact ⟨o, A, c, rfl, a1, a2, a3⟩
theorem openedOs {H : Type} {enc : TypeId × Value → H} {W : World} {v : Value} {d : DataW H} {p : List MemPlace} (hok : Value.okWide Try.prog W .any 0 22 v)
    (h : DataW.Trod enc Try.prog W 0 (fun _ => true) true 22 v d p) : OpenedOs W v := by
  obtain ⟨a0, len0, cap0, rfl⟩ := okWide_slice Try.underlying22 hok
  obtain ⟨fuel, hf⟩ := h
  rcases Deep.open_slice Try.underlying22 hf with ⟨hcs, _⟩ | ⟨x, l, c, m, n, D, Pl, hcs, _, hl, hm, hmm, _, hr⟩
  · simp [Value.cells] at hcs
    obtain ⟨rfl, rfl, rfl⟩ := hcs
    exact ⟨none, 0, 0, [], rfl, rfl, Nat.le_refl _, Nat.zero_le _, fun r bs h => by simp at h⟩
  · simp [Value.cells] at hcs
    obtain ⟨rfl, rfl, rfl⟩ := hcs
    simp only [if_true] at hmm
    subst hmm
    have hC : Try.prog.cellsOf 32 = 4 := by kernel_rfl
    have each : ∀ r, r < m → ∃ o : Ou, ∃ v0 v1 v2 v3, W.cell? (x.add (r * 4)) = some v0 ∧ W.cell? (x.add (r * 4 + 1)) = some v1 ∧ W.cell? (x.add (r * 4 + 2)) = some v2 ∧ W.cell? (x.add (r * 4 + 3)) = some v3 ∧ OuV W v0 v1 v2 v3 o := by
      intro r hrm
      obtain ⟨cs', hc, ht⟩ := hr r hrm
      rw [hC] at hc
      obtain ⟨_, hlen, hat⟩ := World.cells?_some hc
      obtain ⟨c0, c1, c2, c3, rfl⟩ : ∃ c0 c1 c2 c3, cs' = [c0, c1, c2, c3] := by
        match cs', hlen with
        | [c0, c1, c2, c3], _ => exact ⟨c0, c1, c2, c3, rfl⟩
      obtain ⟨ys, n', _, _, _, hyl, hfl⟩ := DataW.trod_struct Try.underlying32 ht
      have ya : ∀ j, j < 4 → ∃ y, ys[j]? = some y := fun j hj => ⟨_, List.getElem?_eq_getElem (by rw [hyl]; exact hj)⟩
      obtain ⟨y0, hy0⟩ := ya 0 (by decide)
      obtain ⟨y1, hy1⟩ := ya 1 (by decide)
      obtain ⟨y2, hy2⟩ := ya 2 (by decide)
      obtain ⟨y3, hy3⟩ := ya 3 (by decide)
      obtain ⟨o, hs⟩ := ouv_in ((hfl 0 _ rfl).trans hy0) ((hfl 1 _ rfl).trans hy1) ((hfl 2 _ rfl).trans hy2) ((hfl 3 _ rfl).trans hy3)
      have q : ∀ j, j < 4 → W.cell? (x.add (r * 4 + j)) = [c0, c1, c2, c3][j]? := fun j hj => by
        have := hat j hj
        rw [Deep.add_add] at this
        exact this
      exact ⟨o, c0, c1, c2, c3, q 0 (by decide), q 1 (by decide), q 2 (by decide), q 3 (by decide), hs⟩
    obtain ⟨F, hF⟩ := Deep.choose_lt each
    refine ⟨some x, len0, m, (List.range len0).map F, rfl, by simp, hl, hm, fun r st hst => ?_⟩
    rw [List.getElem?_map] at hst
    have hrl : r < len0 := by
      rcases Nat.lt_or_ge r len0 with h | h
      · exact h
      · rw [List.getElem?_eq_none (by simp; omega)] at hst; cases hst
    rw [List.getElem?_range hrl] at hst
    simp only [Option.map_some, Option.some.injEq] at hst
    obtain ⟨v0, v1, v2, v3, k0, k1, k2, k3, hs⟩ := hF r (by omega)
    obtain ⟨_, _, _, _, z0, _⟩ := hF 0 (by omega)
    obtain ⟨b, off, spot⟩ := x
    have hspot : spot = none := by simpa [Addr.add] using World.cell?_spot z0
    subst hspot
    rw [add_none] at k0 k1 k2 k3
    rw [hst] at hs
    exact ⟨b, off, v0, v1, v2, v3, rfl, World.block_lt_of_cell? W _ k0, k0, k1, k2, k3, hs⟩

def vastB (ls : List Ou) : Bool := decide (200 < ls.length) || ls.any fun o => decide (1024 < o.B.length)
theorem vastB_no {ls : List Ou} (h : vastB ls = false) : ls.length ≤ 200 ∧ ∀ o ∈ ls, o.B.length ≤ 1024 := by
  unfold vastB at h
  simp only [Bool.or_eq_false_iff, decide_eq_false_iff_not, List.any_eq_false, decide_eq_true_eq] at h
  exact ⟨by omega, fun o ho => by have := h.2 o ho; omega⟩
set_option maxHeartbeats 1000000 in
theorem vast_any (A : Option Addr) (len cap : Nat) (ls : List Ou) (w : World) (hl : ls.length = len) (hA : Ops w A ls) :
    Calls Try.prog 9 #[.slice A len cap] w fun e w' => e = .returned (.bool (vastB ls)) ∧ w = w' := by
  by_cases h120 : 200 < len
  · have hd : decide ((200 : Int) < (len : Int)) = true := by simp; omega
    have hv : vastB ls = true := by unfold vastB; rw [hl]; simp [h120]
    rw [hv]
    clear hA hv
    go_enter Try.func9, Try.ntmps9
    go_wp2
    go_ret
    exact ⟨rfl, rfl⟩
  · have hd : decide ((200 : Int) < (len : Int)) = false := by simp; omega
    have HL := Lib.hid hl
    have HA := Lib.hid hA
    have h12 : len ≤ 200 := by omega
    clear hA hl h120
    go_enter Try.func9, Try.ntmps9
    go_wp2
    go_loop [3] (fun i => ∃ k : Nat, k ≤ len ∧ i = .int .i64 (k : Int) ∧ Hid (∀ j st, j < k → ls[j]? = some st → st.B.length ≤ 1024)) (fun i => len - (intOf i).toNat)
    case atStart => exact ⟨0, Nat.zero_le _, rfl, Lib.hid fun j st hj => by omega⟩
    case round =>
      obtain ⟨k, hk, rfl, hR⟩ := hrel
      by_cases hlt : k < len
      · have hd2 : decide ((k : Int) < (len : Int)) = true := by simpa using hlt
        obtain ⟨st, hst⟩ : ∃ st, ls[k]? = some st := ⟨_, List.getElem?_eq_getElem (by rw [HL.out]; exact hlt)⟩
        obtain ⟨b, off, v0, v1, v2, v3, rfl, _, _, _, _, c3, hs⟩ := HA.out k st hst
        obtain ⟨A2, cap2, rfl, _, _, _⟩ := hs.B
        have HST := Lib.hid hst
        obtain ⟨x, hx⟩ : ∃ x, st.B.length = x := ⟨_, rfl⟩
        rw [hx] at c3
        rw [← Nat.add_assoc] at c3
        have HX := Lib.hid hx
        clear hst hs hx
        by_cases hb : 1024 < x
        · have hd3 : decide ((1024 : Int) < (x : Int)) = true := by simp; omega
          have hv : Hid (vastB ls = true) := Lib.hid (by
            unfold vastB
            rw [Bool.or_eq_true, List.any_eq_true]
            exact .inr ⟨st, List.mem_of_getElem? HST.out, by rw [HX.out]; simp [hb]⟩)
          go_wp2
          go_ret
          exact ⟨by rw [hv.out]; rfl, rfl⟩
        · have hd3 : decide ((1024 : Int) < (x : Int)) = false := by simp; omega
          have hR2 : Hid (∀ j st, j < k + 1 → ls[j]? = some st → st.B.length ≤ 1024) := Lib.hid fun j st' hj hst' => by
            by_cases e : j = k
            · subst e
              have := HST.out
              rw [hst'] at this
              cases this
              rw [HX.out]; omega
            · exact hR.out j st' (by omega) hst'
          go_wp2
          go_round
          case rel => exact ⟨k + 1, by omega, by go_num, hR2⟩
          case measure => simp [intOf]; omega
      · obtain rfl : len = k := by omega
        have hd2 : decide ((len : Int) < (len : Int)) = false := by simp
        have hv : Hid (vastB ls = false) := Lib.hid (by
          unfold vastB
          simp only [Bool.or_eq_false_iff, decide_eq_false_iff_not, List.any_eq_false, decide_eq_true_eq]
          refine ⟨by rw [HL.out]; omega, fun st hst => ?_⟩
          obtain ⟨j, hj, rfl⟩ := List.getElem_of_mem hst
          have := hR.out j _ (by rw [← HL.out]; exact hj) (List.getElem?_eq_getElem hj)
          omega)
        go_wp2
        go_ret
        exact ⟨by rw [hv.out]; rfl, rfl⟩
end Go.Proofs.Ytcmaehilgeonjaa
