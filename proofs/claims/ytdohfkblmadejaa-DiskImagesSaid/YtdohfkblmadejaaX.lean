/- Vast; Do where there is no disk. -/
import Derived.Test.YtdohfkblmadejaaW
namespace Go.Proofs.Ytdohfkblmadejaa
open Go.RowKit Dsk

def vastB (ls : List St) : Bool := decide (120 < ls.length) || ls.any fun st => decide (1024 < st.B.length) || decide (256 < st.K.length)
theorem vastB_no {ls : List St} (h : vastB ls = false) : ls.length ≤ 120 ∧ ∀ st ∈ ls, st.B.length ≤ 1024 ∧ st.K.length ≤ 256 := by
  unfold vastB at h
  simp only [Bool.or_eq_false_iff, decide_eq_false_iff_not, List.any_eq_false, Bool.or_eq_true, decide_eq_true_eq, not_or] at h
  exact ⟨by omega, fun st hst => by have := h.2 st hst; omega⟩

set_option maxHeartbeats 1000000 in
theorem vast_any (A : Option Addr) (len cap : Nat) (ls : List St) (w : World) (hl : ls.length = len) (hA : Steps w A ls) :
    Calls Try.prog 10 #[.slice A len cap] w fun e w' => e = .returned (.bool (vastB ls)) ∧ w = w' := by
  by_cases h120 : 120 < len
  · have hd : decide ((120 : Int) < (len : Int)) = true := by simp; omega
    have hv : vastB ls = true := by unfold vastB; rw [hl]; simp [h120]
    rw [hv]
    clear hA hv
    go_enter Try.func10, Try.ntmps10
    go_wp2
    go_ret
    exact ⟨rfl, rfl⟩
  · have hd : decide ((120 : Int) < (len : Int)) = false := by simp; omega
    have HL := Lib.hid hl
    have HA := Lib.hid hA
    have h12 : len ≤ 120 := by omega
    clear hA hl h120
    go_enter Try.func10, Try.ntmps10
    go_wp2
    go_loop [3] (fun i => ∃ k : Nat, k ≤ len ∧ i = .int .i64 (k : Int) ∧ Hid (∀ j st, j < k → ls[j]? = some st → st.B.length ≤ 1024 ∧ st.K.length ≤ 256)) (fun i => len - (intOf i).toNat)
    case atStart => exact ⟨0, Nat.zero_le _, rfl, Lib.hid fun j st hj => by omega⟩
    case round =>
      obtain ⟨k, hk, rfl, hR⟩ := hrel
      by_cases hlt : k < len
      · have hd2 : decide ((k : Int) < (len : Int)) = true := by simpa using hlt
        obtain ⟨st, hst⟩ : ∃ st, ls[k]? = some st := ⟨_, List.getElem?_eq_getElem (by rw [HL.out]; exact hlt)⟩
        obtain ⟨b, off, v0, v1, v2, v3, rfl, _, _, _, c2, c3, hs⟩ := HA.out k st hst
        obtain ⟨A2, cap2, rfl, _, _, _⟩ := hs.B
        obtain ⟨A3, cap3, rfl, _, _, _⟩ := hs.K
        have HST := Lib.hid hst
        obtain ⟨x, hx⟩ : ∃ x, st.B.length = x := ⟨_, rfl⟩
        obtain ⟨y, hy⟩ : ∃ y, st.K.length = y := ⟨_, rfl⟩
        rw [hx] at c2
        rw [hy] at c3
        have HX := Lib.hid hx
        have HY := Lib.hid hy
        clear hst hs hx hy
        by_cases hb : 1024 < x
        · have hd3 : decide ((1024 : Int) < (x : Int)) = true := by simp; omega
          have hv : Hid (vastB ls = true) := Lib.hid (by
            unfold vastB
            rw [Bool.or_eq_true, List.any_eq_true]
            exact .inr ⟨st, List.mem_of_getElem? HST.out, by rw [HX.out]; simp [hb]⟩)
          go_wp2
          go_ret
          exact ⟨by rw [hv.out]; rfl, rfl⟩
        · have hd3 : decide ((1024 : Int) < (x : Int)) = false := by simp; omega
          by_cases hc : 256 < y
          · have hd4 : decide ((256 : Int) < (y : Int)) = true := by simp; omega
            have hv : Hid (vastB ls = true) := Lib.hid (by
              unfold vastB
              rw [Bool.or_eq_true, List.any_eq_true]
              exact .inr ⟨st, List.mem_of_getElem? HST.out, by rw [HY.out]; simp [hc]⟩)
            go_wp2
            go_ret
            exact ⟨by rw [hv.out]; rfl, rfl⟩
          · have hd4 : decide ((256 : Int) < (y : Int)) = false := by simp; omega
            have hR2 : Hid (∀ j st, j < k + 1 → ls[j]? = some st → st.B.length ≤ 1024 ∧ st.K.length ≤ 256) := Lib.hid fun j st' hj hst' => by
              by_cases e : j = k
              · subst e
                have := HST.out
                rw [hst'] at this
                cases this
                rw [HX.out, HY.out]; omega
              · exact hR.out j st' (by omega) hst'
            go_wp2
            go_round
            case rel => exact ⟨k + 1, by omega, by go_num, hR2⟩
            case measure => simp [intOf]; omega
      · obtain rfl : len = k := by omega
        have hd2 : decide ((len : Int) < (len : Int)) = false := by simp
        have hv : Hid (vastB ls = false) := Lib.hid (by
          unfold vastB
          simp only [Bool.or_eq_false_iff, decide_eq_false_iff_not, List.any_eq_false, Bool.or_eq_true, decide_eq_true_eq, not_or]
          refine ⟨by rw [HL.out]; omega, fun st hst => ?_⟩
          obtain ⟨j, hj, rfl⟩ := List.getElem_of_mem hst
          have := hR.out j _ (by rw [← HL.out]; exact hj) (List.getElem?_eq_getElem hj)
          omega)
        go_wp2
        go_ret
        exact ⟨by rw [hv.out]; rfl, rfl⟩

/-! ### no disk -/
theorem image_nil (w : World) : Calls Try.prog 19 #[.pointer none] w fun e w' => e = .returned (.slice none 0 0) ∧ w = w' := by
  go_enter Try.func19, Try.ntmps19
  go_wp2
  go_ret
  exact ⟨rfl, rfl⟩
theorem copyd_nil (w : World) : Calls Try.prog 23 #[.pointer none] w fun e w' => e = .returned (.pointer none) ∧ w = w' := by
  go_enter Try.func23, Try.ntmps23
  go_wp2
  go_ret
  exact ⟨rfl, rfl⟩

def asked (k : Int) : Bool := k == 0 || (k == 1 || (k == 2 || (k == 3 || k == 5)))
def nilE (k : Int) : Int := if asked k then 2 else 0

theorem u8_succ (b : UInt8) : ∃ c : UInt8, IntKind.u8.wrap ((b.toNat : Int) + 1) = (c.toNat : Int) := by
  refine ⟨b + 1, ?_⟩
  have h : (b + 1).toNat = (b.toNat + 1) % 256 := by rw [UInt8.toNat_add]; rfl
  rw [h]
  have hb := b.toNat_lt
  by_cases e : b.toNat = 255
  · rw [e]; decide
  · have hs : (b.toNat + 1) % 256 = b.toNat + 1 := Nat.mod_eq_of_lt (by omega)
    rw [hs]
    have := IntWalk.u8_in ((b.toNat : Int) + 1) ⟨by omega, by omega⟩
    rw [this]; push_cast; rfl

/-- A slice that may be turned: its cells are bytes. -/
structure Mut (w : World) (g len : Nat) : Prop where
  lt : g < w.heap.size
  cell : ∀ j, j < len → ∃ b : UInt8, w.cell? ⟨g, j, none⟩ = some (bv b)
  free : ∀ j, j < len → w.frozen? ⟨g, j, none⟩ = false
theorem Rw.mut {w : World} {g len cap : Nat} {cs : List UInt8} (h : Rw w g len cap cs) : Mut w g len :=
  ⟨h.lt, fun j hj => ⟨cs[j]'(by rw [h.long]; exact hj), h.holds j _ (List.getElem?_eq_getElem _)⟩, fun j hj => (h.there j (Nat.lt_of_lt_of_le hj h.le)).2⟩
theorem Mut.same {w w' : World} {g len : Nat} (h : Mut w g len) (hs : w.heap.size ≤ w'.heap.size) (hb : w'.heap[g]? = w.heap[g]?) : Mut w' g len :=
  ⟨Nat.lt_of_lt_of_le h.lt hs, fun j hj => by obtain ⟨b, e⟩ := h.cell j hj; exact ⟨b, (World.cell?_of_block (a := ⟨g, j, none⟩) hb).trans e⟩, fun j hj => (World.frozen?_of_block (a := ⟨g, j, none⟩) hb).trans (h.free j hj)⟩
theorem Mut.set_ {w : World} {g len : Nat} (h : Mut w g len) (k : Nat) (c : UInt8) : Mut (w.setCell ⟨g, k, none⟩ (bv c)) g len := by
  refine ⟨by simp [World.setCell]; exact h.lt, fun j hj => ?_, fun j hj => by rw [World.frozen?_setCell]; exact h.free j hj⟩
  by_cases e : j = k
  · subst e
    obtain ⟨b, hb⟩ := h.cell j hj
    exact ⟨c, World.cell?_setCell_same w _ _ hb⟩
  · obtain ⟨b, hb⟩ := h.cell j hj
    exact ⟨b, by rw [World.cell?_setCell_other w _ _ _ (fun h => e (by injection h with h1 h2; exact h2.symm))]; exact hb⟩

end Go.Proofs.Ytdohfkblmadejaa
