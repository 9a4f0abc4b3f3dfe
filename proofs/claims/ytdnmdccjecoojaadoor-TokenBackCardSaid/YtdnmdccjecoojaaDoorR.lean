/- token: the reference's lists of texts. -/
import Derived.Test.YtdnmdccjecoojaaDoorQ
namespace Go.Proofs.YtdnmdccjecoojaaDoor
open Go.RowKit Tok
/-- What a value of type []string reads as. -/
def Strs (w : World) (A : Option Addr) (L : List (List UInt8)) : Prop :=
  ∀ (k : Nat) (x : List UInt8), L[k]? = some x → ∃ b off, A = some ⟨b, off, none⟩ ∧ b < w.heap.size ∧ w.cell? ⟨b, off + k, none⟩ = some (.string (str x))
theorem Strs.below {w w' : World} {A : Option Addr} {L : List (List UInt8)} (h : Strs w A L) (hb : Below w.heap.size w w') : Strs w' A L := fun k x hk => by
  obtain ⟨b, off, e, hlt, c⟩ := h k x hk
  exact ⟨b, off, e, Nat.lt_of_lt_of_le hlt hb.size, (hb.cell (p := ⟨b, _, none⟩) hlt).trans c⟩
theorem Strs.blk {w : World} {g : Nat} {t : TypeId} {L : List (List UInt8)} (h : Blk w g t (rowS L)) : Strs w (some ⟨g, 0, none⟩) L := fun k x hk =>
  ⟨g, 0, rfl, h.lt, by rw [Nat.zero_add, h.cell]; exact rowS_get hk⟩
theorem in_any (A : Option Addr) (n c : Nat) (L : List (List UInt8)) (s : List UInt8) (w : World) (hl : L.length = n) (hn : n < 4294967296) (hA : Strs w A L) :
    Calls Tryd.prog 19 #[.slice A n c, .string (str s)] w fun e w' => e = .returned (.bool (decide (s ∈ L))) ∧ w = w' := by
  have hst := str_toList s
  have HA := Lib.hid hA
  have HL := Lib.hid hl
  clear hA hl
  go_enter Tryd.func19, Tryd.ntmps19
  go_wp2_with fail
  go_loopw [5] (fun iv wr => ∃ k : Nat, k ≤ n ∧ iv = .int .i64 (k : Int) ∧ wr = w ∧ Hid (∀ j x, j < k → L[j]? = some x → x ≠ s)) (fun iv _ => n - (intOf iv).toNat)
  case atStart => exact ⟨0, Nat.zero_le _, rfl, rfl, Lib.hid fun j x hj => by omega⟩
  case round =>
    obtain ⟨k, hk, rfl, hw, hI⟩ := hrel
    obtain rfl : w = _ := hw.symm
    by_cases hlt : k < n
    · have hd : decide ((k : Int) < (n : Int)) = true := by simpa using hlt
      obtain ⟨x, hx⟩ : ∃ x, L[k]? = some x := ⟨_, List.getElem?_eq_getElem (by rw [HL.out]; exact hlt)⟩
      obtain ⟨b, off, rfl, hb, c0⟩ := HA.out k x hx
      have hxt := str_toList x
      by_cases he : x = s
      · have hq : (x == s) = true := by simpa using he
        have HM : Hid (decide (s ∈ L) = true) := Lib.hid (by rw [decide_eq_true_eq, ← he]; exact List.mem_of_getElem? hx)
        clear hI hx he
        go_wp2_with fail
        go_ret
        exact ⟨by rw [HM.out]; rfl, rfl⟩
      · have hq : (x == s) = false := by simpa using he
        have hI2 : Hid (∀ j x, j < k + 1 → L[j]? = some x → x ≠ s) := Lib.hid fun j y hj hy => by
          by_cases e : j = k
          · subst e
            rw [hx] at hy
            cases hy
            exact he
          · exact hI.out j y (by omega) hy
        clear hI hx he
        go_wp2_with fail
        go_roundw
        case rel => exact ⟨k + 1, by omega, by go_num, by trivial, hI2⟩
        case measure => simp [intOf]; omega
    · obtain rfl : n = k := by omega
      have hd : decide ((n : Int) < (n : Int)) = false := by simp
      have HM : Hid (decide (s ∈ L) = false) := Lib.hid (by
        rw [decide_eq_false_iff_not]
        intro hm
        obtain ⟨j, hj⟩ := List.mem_iff_getElem?.1 hm
        have hjl := (List.getElem?_eq_some_iff.1 hj).1
        exact hI.out j s (by rw [← HL.out]; exact hjl) hj rfl)
      clear hI
      go_wp2_with fail
      go_ret
      exact ⟨by rw [HM.out]; rfl, rfl⟩
theorem rwords_any (w : World) : Calls Tryd.prog 27 #[] w fun e w' => e = .returned (.slice (some ⟨w.heap.size, 0, none⟩) 22 22) ∧ Blk w' w.heap.size 9 (rowS wordsL) ∧ Below w.heap.size w w' := by
  have HB := Lib.hid (Blk.new w 9 (rowS wordsL))
  have HW := Lib.hid ((Below.refl w.heap.size w).alloc (Nat.le_refl _) (.cells (rowS wordsL) 9))
  go_enter Tryd.func27, Tryd.ntmps27
  go_wp2_with fail
  go_ret
  exact ⟨rfl, HB.out, HW.out⟩
theorem rsigns_any (w : World) : Calls Tryd.prog 49 #[] w fun e w' => e = .returned (.slice (some ⟨w.heap.size, 0, none⟩) 22 22) ∧ Blk w' w.heap.size 9 (rowS signsL) ∧ Below w.heap.size w w' := by
  have HB := Lib.hid (Blk.new w 9 (rowS signsL))
  have HW := Lib.hid ((Below.refl w.heap.size w).alloc (Nat.le_refl _) (.cells (rowS signsL) 9))
  go_enter Tryd.func49, Tryd.ntmps49
  go_wp2_with fail
  go_ret
  exact ⟨rfl, HB.out, HW.out⟩
theorem rword_any (s : List UInt8) (w : World) : Calls Tryd.prog 16 #[.string (str s)] w fun e w' => e = .returned (.bool (decide (s ∈ wordsL))) ∧ Below w.heap.size w w' := by
  have H1 := Lib.hid (rwords_any w)
  have H2 : Hid (∀ W, Blk W w.heap.size 9 (rowS wordsL) → Calls Tryd.prog 19 #[.slice (some ⟨w.heap.size, 0, none⟩) 22 22, .string (str s)] W fun e w' => e = .returned (.bool (decide (s ∈ wordsL))) ∧ W = w') := Lib.hid (fun W hW => in_any _ 22 22 wordsL s W rfl (by omega) (Strs.blk hW))
  go_enter Tryd.func16, Tryd.ntmps16
  go_wp2_with fail
  refine H1.out.mono ?_
  rintro e w1 ⟨rfl, hB, hb⟩
  have H2 := Lib.hid (H2.out w1 hB)
  go_wp2_with fail
  refine H2.out.mono ?_
  rintro e w2 ⟨rfl, rfl⟩
  go_wp2_with fail
  go_ret
  exact ⟨rfl, hb⟩
end Go.Proofs.YtdnmdccjecoojaaDoor
