/- BitsNil. -/
import Derived.Test.YtfkhgdhfelfegaaDoorW
import Derived.Test.YtfkhgdhfelfegaaDoorK
namespace Go.Proofs.YtfkhgdhfelfegaaDoor
open Go.RowKit Bts

theorem copy_nil (w : World) : Calls Tryd.prog 14 #[.pointer none] w fun e w' => e = .returned (.pointer none) ∧ w = w' := by
  go_enter Tryd.func14, Tryd.ntmps14
  go_wp2
  go_ret
  exact ⟨rfl, rfl⟩

set_option maxRecDepth 20000 in
set_option maxHeartbeats 1000000 in
theorem nil_any (i n : Int) (w : World) (hT : Tab w) : Calls Tryd.prog 8 #[.int .i64 i, .int .i64 n] w fun e W' => e = .returned (.bool true) ∧ Below w.heap.size w W' := by
  have H1 := Lib.hid (low_nil w)
  have H2 := Lib.hid (has_nil i w)
  have H3 := Lib.hid (set_nil i w)
  have H4 := Lib.hid (clear_nil i w)
  have H5 := Lib.hid (size_nil w)
  have H6 := Lib.hid (count_nil w)
  have H7 := Lib.hid (copy_nil w)
  have HT := Lib.hid hT
  clear hT
  by_cases h : 0 ≤ n ∧ n ≤ 65536
  · obtain ⟨m, rfl⟩ : ∃ m : Nat, n = m := ⟨n.toNat, by omega⟩
    have hm : m ≤ 65536 := by omega
    have H8 := Lib.hid (new_some m w hm)
    clear h
    go_enter Tryd.func8, Tryd.ntmps8
    go_wp2_with (first
      | (go_at_call 22; refine H1.out.mono ?_; rintro e w' ⟨rfl, rfl⟩)
      | (go_at_call 12; refine H2.out.mono ?_; rintro e w' ⟨rfl, rfl⟩)
      | (go_at_call 18; refine H3.out.mono ?_; rintro e w' ⟨rfl, rfl⟩)
      | (go_at_call 16; refine H4.out.mono ?_; rintro e w' ⟨rfl, rfl⟩)
      | (go_at_call 23; refine H5.out.mono ?_; rintro e w' ⟨rfl, rfl⟩)
      | (go_at_call 21; refine H6.out.mono ?_; rintro e w' ⟨rfl, rfl⟩)
      | (go_at_call 14; refine H7.out.mono ?_; rintro e w' ⟨rfl, rfl⟩)
      | (go_at_call 20; refine H8.out.mono ?_; rintro e w1 ⟨p, q, rfl, _, _, _, hbel⟩; have HB := Lib.hid hbel; have HW := Lib.hid (works_any w1 (HT.out.below hbel)); clear hbel)
      | (go_at_call 9; refine HW.out.mono ?_; rintro e w2 ⟨rfl, hb2⟩; have HB2 := Lib.hid hb2; clear hb2))
    go_ret
    exact ⟨rfl, HB.out.trans (HB2.out.mono HB.out.size)⟩
  · have H8 := Lib.hid (new_none n w (by omega))
    have HW := Lib.hid (works_any w HT.out)
    by_cases h0 : 0 ≤ n
    · have h1 : 65536 < n := by omega
      have hd : decide (n ≤ 65536) = false := by simp; omega
      clear h
      go_enter Tryd.func8, Tryd.ntmps8
      go_wp2_with (first
        | (go_at_call 22; refine H1.out.mono ?_; rintro e w' ⟨rfl, rfl⟩)
        | (go_at_call 12; refine H2.out.mono ?_; rintro e w' ⟨rfl, rfl⟩)
        | (go_at_call 18; refine H3.out.mono ?_; rintro e w' ⟨rfl, rfl⟩)
        | (go_at_call 16; refine H4.out.mono ?_; rintro e w' ⟨rfl, rfl⟩)
        | (go_at_call 23; refine H5.out.mono ?_; rintro e w' ⟨rfl, rfl⟩)
        | (go_at_call 21; refine H6.out.mono ?_; rintro e w' ⟨rfl, rfl⟩)
        | (go_at_call 14; refine H7.out.mono ?_; rintro e w' ⟨rfl, rfl⟩)
        | (go_at_call 20; refine H8.out.mono ?_; rintro e w' ⟨rfl, rfl⟩)
        | (go_at_call 9; refine HW.out.mono ?_; rintro e w2 ⟨rfl, hb2⟩; have HB2 := Lib.hid hb2; clear hb2))
      go_ret
      exact ⟨rfl, HB2.out⟩
    · clear h
      go_enter Tryd.func8, Tryd.ntmps8
      go_wp2_with (first
        | (go_at_call 22; refine H1.out.mono ?_; rintro e w' ⟨rfl, rfl⟩)
        | (go_at_call 12; refine H2.out.mono ?_; rintro e w' ⟨rfl, rfl⟩)
        | (go_at_call 18; refine H3.out.mono ?_; rintro e w' ⟨rfl, rfl⟩)
        | (go_at_call 16; refine H4.out.mono ?_; rintro e w' ⟨rfl, rfl⟩)
        | (go_at_call 23; refine H5.out.mono ?_; rintro e w' ⟨rfl, rfl⟩)
        | (go_at_call 21; refine H6.out.mono ?_; rintro e w' ⟨rfl, rfl⟩)
        | (go_at_call 14; refine H7.out.mono ?_; rintro e w' ⟨rfl, rfl⟩)
        | (go_at_call 20; refine H8.out.mono ?_; rintro e w' ⟨rfl, rfl⟩)
        | (go_at_call 9; refine HW.out.mono ?_; rintro e w2 ⟨rfl, hb2⟩; have HB2 := Lib.hid hb2; clear hb2))
      go_ret
      exact ⟨rfl, HB2.out⟩

end Go.Proofs.YtfkhgdhfelfegaaDoor
