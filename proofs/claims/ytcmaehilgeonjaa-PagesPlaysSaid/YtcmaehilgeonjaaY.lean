/- pages: the reference's Sectors; Pages and Sectors of none. -/
import Derived.Test.YtcmaehilgeonjaaV
namespace Go.Proofs.Ytcmaehilgeonjaa
open Go.RowKit Pgs
def sectorsTo (L : List Nat) (k : Nat) : List Nat := (pagesTo L k).map fun i => L.getD i 0
theorem sectorsTo_succ (L : List Nat) (k : Nat) : sectorsTo L (k + 1) = if L.getD k 0 = 0 then sectorsTo L k else sectorsTo L k ++ [L.getD k 0] := by
  unfold sectorsTo
  rw [pagesTo_succ]
  by_cases h : L.getD k 0 = 0
  · rw [if_pos h, if_pos h]
  · rw [if_neg h, if_neg h, List.map_append, List.map_cons, List.map_nil]
theorem sectorsTo_len (L : List Nat) (k : Nat) : (sectorsTo L k).length ≤ k := by unfold sectorsTo; rw [List.length_map]; exact pagesTo_len L k
set_option maxRecDepth 20000 in
set_option maxHeartbeats 2000000 in
theorem rsectors_some (g : Nat) (L : List Nat) (w : World) (h : PR w g L) :
    Calls Try.prog 23 #[.pointer (some ⟨g, 0, none⟩)] w fun e W' => ∃ sv, e = .returned sv ∧ IntsO W' sv (sectorsL L) ∧ (∀ j, sv.ownBlock = some j → w.heap.size ≤ j) ∧ Below w.heap.size w W' := by
  have HP := Lib.hid h
  clear h
  have HT : Hid (RpI w w (.slice none 0 0) (sectorsTo L 0)) := Lib.hid ⟨IntsO.nil _, fun j hj => (by cases hj), Below.refl _ _⟩
  go_enter Try.func23, Try.ntmps23
  go_wp2_with fail
  go_loopw [3, 4] (fun lv iv wr => ∃ k : Nat, k ≤ 1024 ∧ iv = .int .i64 (k : Int) ∧ Hid (RpI w wr lv (sectorsTo L k))) (fun _ iv _ => 1024 - (intOf iv).toNat)
  case atStart => exact ⟨0, Nat.zero_le _, rfl, HT⟩
  case round =>
    clear HT
    obtain ⟨k, hk, rfl, hI⟩ := hrel
    by_cases hlt : k < 1024
    · have hd : decide ((k : Int) < 1024) = true := by simp; omega
      have HH : Hid (∀ W, PR W g L → Calls Try.prog 35 #[.pointer (some ⟨g, 0, none⟩), .int .i64 (k : Int)] W fun e w' => e = .returned (.bool (decide (L.getD k 0 ≠ 0))) ∧ W = w') := Lib.hid (fun W hW => by
        have := has_some g L (k : Int) W hW
        unfold got at this
        rw [if_pos (by omega), Int.toNat_natCast] at this
        exact this)
      have hPR := HP.out.below hI.out.bel
      have H1 := Lib.hid (HH.out wr hPR)
      obtain ⟨Al, cl, hlv, _, _⟩ := hI.out.ints.shape
      have hlen := sectorsTo_len L k
      obtain ⟨nl, hnl⟩ : ∃ nl, (sectorsTo L k).length = nl := ⟨_, rfl⟩
      rw [hnl] at hlv
      subst hlv
      have HNL := Lib.hid hnl
      clear hnl HH
      by_cases h0 : L.getD k 0 = 0
      · rw [decide_eq_false (by simpa using h0)] at H1
        have hI2 : Hid (RpI w wr (.slice Al nl cl) (sectorsTo L (k + 1))) := Lib.hid (by rw [sectorsTo_succ, if_pos h0]; exact hI.out)
        clear hI hPR
        go_wp2_with (go_at_call 35; refine Calls.mono H1.out ?_; rintro e w' ⟨rfl, rfl⟩)
        go_roundw
        case rel => exact ⟨k + 1, by omega, by go_num, hI2⟩
        case measure => simp [intOf]; omega
      · rw [decide_eq_true (by simpa using h0)] at H1
        obtain ⟨v', w5, hrun, hT5⟩ := hI.out.push (L.getD k 0) (by omega)
        obtain ⟨A5, c5, rfl, _, _⟩ := hT5.ints.shape
        have e5 : (sectorsTo L k ++ [L.getD k 0]).length = nl + 1 := by rw [List.length_append, HNL.out]; rfl
        rw [e5] at hrun
        have hI2 : Hid (RpI w w5 (.slice A5 (nl + 1) c5) (sectorsTo L (k + 1))) := Lib.hid (by rw [sectorsTo_succ, if_neg h0, ← e5]; exact hT5)
        obtain ⟨x, hx⟩ : ∃ x, L[k]? = some x := ⟨_, List.getElem?_eq_getElem (by rw [HP.out.ok.len]; omega)⟩
        have c0 := hPR.cell hx hlt
        have hgx : L.getD k 0 = x := by rw [List.getD_eq_getElem?_getD, hx]; rfl
        rw [hgx] at hrun
        have hk2 : (k : Int) < 1024 := by omega
        have HRUN := Lib.hid hrun
        clear hI hrun hT5 hPR hx hgx h0 e5
        go_wp2_with (first
          | (go_at_call 35; refine Calls.mono H1.out ?_; rintro e w' ⟨rfl, rfl⟩)
          | (at_builtin; refine wpList_app rfl _ _ 37 rfl _ _ _ _ rfl rfl HRUN.out ?_))
        go_roundw
        case rel => exact ⟨k + 1, by omega, by go_num, hI2⟩
        case measure => simp [intOf]; omega
    · obtain rfl : 1024 = k := by omega
      have hd : decide (((1024 : Nat) : Int) < 1024) = false := by simp
      obtain ⟨Al, cl, hlv, _, _⟩ := hI.out.ints.shape
      go_wp2_with fail
      go_ret
      exact ⟨_, rfl, hI.out.ints, hI.out.own, hI.out.bel⟩
set_option maxRecDepth 20000 in
set_option maxHeartbeats 2000000 in
theorem rpages_nil (w : World) : Calls Try.prog 21 #[.pointer none] w fun e W' => e = .returned (.slice none 0 0) ∧ w = W' := by
  have HH : Hid (∀ (p : Int) W, Calls Try.prog 35 #[.pointer none, .int .i64 p] W fun e w' => e = .returned (.bool false) ∧ W = w') := Lib.hid has_nil
  go_enter Try.func21, Try.ntmps21
  go_wp2_with fail
  go_loopw [3, 4] (fun lv iv wr => ∃ k : Nat, k ≤ 1024 ∧ iv = .int .i64 (k : Int) ∧ lv = .slice none 0 0 ∧ wr = w) (fun _ iv _ => 1024 - (intOf iv).toNat)
  case atStart => exact ⟨0, Nat.zero_le _, rfl, rfl, rfl⟩
  case round =>
    obtain ⟨k, hk, rfl, rfl, rfl⟩ := hrel
    by_cases hlt : k < 1024
    · have hd : decide ((k : Int) < 1024) = true := by simp; omega
      go_wp2_with (go_at_call 35; refine Calls.mono (HH.out _ _) ?_; rintro e w' ⟨rfl, rfl⟩)
      go_roundw
      case rel => exact ⟨k + 1, by omega, by go_num, by trivial, by trivial⟩
      case measure => simp [intOf]; omega
    · obtain rfl : 1024 = k := by omega
      have hd : decide (((1024 : Nat) : Int) < 1024) = false := by simp
      go_wp2_with fail
      go_ret
      exact ⟨rfl, rfl⟩
set_option maxRecDepth 20000 in
set_option maxHeartbeats 2000000 in
theorem rsectors_nil (w : World) : Calls Try.prog 23 #[.pointer none] w fun e W' => e = .returned (.slice none 0 0) ∧ w = W' := by
  have HH : Hid (∀ (p : Int) W, Calls Try.prog 35 #[.pointer none, .int .i64 p] W fun e w' => e = .returned (.bool false) ∧ W = w') := Lib.hid has_nil
  go_enter Try.func23, Try.ntmps23
  go_wp2_with fail
  go_loopw [3, 4] (fun lv iv wr => ∃ k : Nat, k ≤ 1024 ∧ iv = .int .i64 (k : Int) ∧ lv = .slice none 0 0 ∧ wr = w) (fun _ iv _ => 1024 - (intOf iv).toNat)
  case atStart => exact ⟨0, Nat.zero_le _, rfl, rfl, rfl⟩
  case round =>
    obtain ⟨k, hk, rfl, rfl, rfl⟩ := hrel
    by_cases hlt : k < 1024
    · have hd : decide ((k : Int) < 1024) = true := by simp; omega
      go_wp2_with (go_at_call 35; refine Calls.mono (HH.out _ _) ?_; rintro e w' ⟨rfl, rfl⟩)
      go_roundw
      case rel => exact ⟨k + 1, by omega, by go_num, by trivial, by trivial⟩
      case measure => simp [intOf]; omega
    · obtain rfl : 1024 = k := by omega
      have hd : decide (((1024 : Nat) : Int) < 1024) = false := by simp
      go_wp2_with fail
      go_ret
      exact ⟨rfl, rfl⟩
end Go.Proofs.Ytcmaehilgeonjaa
