/- pages: the reference's Pages, Sectors. -/
import Derived.Test.YtcmaehilgeonjaaU
namespace Go.Proofs.Ytcmaehilgeonjaa
open Go.RowKit Pgs
/-- Between the rounds. -/
structure RpI (w wr : World) (lv : Value) (zs : List Nat) : Prop where
  ints : IntsO wr lv zs
  own : ∀ j, lv.ownBlock = some j → w.heap.size ≤ j
  bel : Below w.heap.size w wr
theorem RpI.push {w wr : World} {lv : Value} {zs : List Nat} (h : RpI w wr lv zs) (z : Nat) (hl : zs.length < 1000000) :
    ∃ v' w', (Builtin.append_ #[37, 37] 37 #[lv, .slice (some ⟨wr.heap.size, 0, none⟩) 1 1]).run Try.prog (wr.alloc (.cells #[.int .i64 (z : Int)] 3)) = .ok v' w' ∧ RpI w w' v' (zs ++ [z]) := by
  have hT : TuI w w wr lv zs := ⟨h.ints, h.own, h.bel⟩
  obtain ⟨v', w', h1, h2⟩ := hT.push z 0 hl
  exact ⟨v', w', h1, h2.ints, h2.own, h2.bel⟩
set_option maxRecDepth 20000 in
set_option maxHeartbeats 2000000 in
theorem rpages_some (g : Nat) (L : List Nat) (w : World) (h : PR w g L) :
    Calls Try.prog 21 #[.pointer (some ⟨g, 0, none⟩)] w fun e W' => ∃ sv, e = .returned sv ∧ IntsO W' sv (pagesL L) ∧ (∀ j, sv.ownBlock = some j → w.heap.size ≤ j) ∧ Below w.heap.size w W' := by
  have HP := Lib.hid h
  clear h
  have HT : Hid (RpI w w (.slice none 0 0) (pagesTo L 0)) := Lib.hid ⟨IntsO.nil _, fun j hj => (by cases hj), Below.refl _ _⟩
  go_enter Try.func21, Try.ntmps21
  go_wp2_with fail
  go_loopw [3, 4] (fun lv iv wr => ∃ k : Nat, k ≤ 1024 ∧ iv = .int .i64 (k : Int) ∧ Hid (RpI w wr lv (pagesTo L k))) (fun _ iv _ => 1024 - (intOf iv).toNat)
  case atStart => exact ⟨0, Nat.zero_le _, rfl, HT⟩
  case round =>
    clear HT
    obtain ⟨k, hk, rfl, hI⟩ := hrel
    by_cases hlt : k < 1024
    · have hd : decide ((k : Int) < 1024) = true := by simp; omega
      have HH : Hid (∀ W, PR W g L → Calls Try.prog 35 #[.pointer (some ⟨g, 0, none⟩), .int .i64 (k : Int)] W fun e w' => e = .returned (.bool (decide (L.getD k 0 ≠ 0))) ∧ W = w') := Lib.hid (fun W hW => by
        have := has_some g L (k : Int) W hW
        unfold got at this
        rw [if_pos (by omega), Int.toNat_natCast] at this
        exact this)
      have hPR := HP.out.below hI.out.bel
      have H1 := Lib.hid (HH.out wr hPR)
      obtain ⟨Al, cl, hlv, _, _⟩ := hI.out.ints.shape
      have hlen := pagesTo_len L k
      obtain ⟨nl, hnl⟩ : ∃ nl, (pagesTo L k).length = nl := ⟨_, rfl⟩
      rw [hnl] at hlv
      subst hlv
      have HNL := Lib.hid hnl
      clear hnl HH
      by_cases h0 : L.getD k 0 = 0
      · rw [decide_eq_false (by simpa using h0)] at H1
        have hI2 : Hid (RpI w wr (.slice Al nl cl) (pagesTo L (k + 1))) := Lib.hid (by rw [pagesTo_succ, if_pos h0]; exact hI.out)
        clear hI hPR
        go_wp2_with (go_at_call 35; refine Calls.mono H1.out ?_; rintro e w' ⟨rfl, rfl⟩)
        go_roundw
        case rel => exact ⟨k + 1, by omega, by go_num, hI2⟩
        case measure => simp [intOf]; omega
      · rw [decide_eq_true (by simpa using h0)] at H1
        obtain ⟨v', w5, hrun, hT5⟩ := hI.out.push (k) (by omega)
        obtain ⟨A5, c5, rfl, _, _⟩ := hT5.ints.shape
        have e5 : (pagesTo L k ++ [k]).length = nl + 1 := by rw [List.length_append, HNL.out]; rfl
        rw [e5] at hrun
        have hI2 : Hid (RpI w w5 (.slice A5 (nl + 1) c5) (pagesTo L (k + 1))) := Lib.hid (by rw [pagesTo_succ, if_neg h0, ← e5]; exact hT5)
        have HRUN := Lib.hid hrun
        clear hI hrun hT5 hPR
        go_wp2_with (first
          | (go_at_call 35; refine Calls.mono H1.out ?_; rintro e w' ⟨rfl, rfl⟩)
          | (at_builtin; refine wpList_app rfl _ _ 37 rfl _ _ _ _ rfl rfl HRUN.out ?_))
        go_roundw
        case rel => exact ⟨k + 1, by omega, by go_num, hI2⟩
        case measure => simp [intOf]; omega
    · obtain rfl : 1024 = k := by omega
      have hd : decide (((1024 : Nat) : Int) < 1024) = false := by simp
      obtain ⟨Al, cl, hlv, _, _⟩ := hI.out.ints.shape
      go_wp2_with fail
      go_ret
      exact ⟨_, rfl, hI.out.ints, hI.out.own, hI.out.bel⟩
end Go.Proofs.Ytcmaehilgeonjaa
