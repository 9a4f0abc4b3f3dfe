/- heap: works, walked. -/
import Derived.Test.YtclkkfffecmjnaaY
import Derived.Test.YtclkkfffecmjnaaTake
import Derived.Deep.RegionHeld3
namespace Go.Proofs.Ytclkkfffecmjnaa
open Go.RowKit
attribute [local go_sem] Oper.semAt_some
theorem small_of {o : Ob} (h1 : o.ws.length ≤ 10) (h2 : o.t.length ≤ 10) (h3 : o.k < 10) : Hp.small o := ⟨by omega, by omega, by omega⟩
set_option maxRecDepth 20000 in
set_option maxHeartbeats 4000000 in
theorem works_any (w : World) : Calls Try.prog 12 #[] w fun e w' => e = .returned (.bool true) ∧ Below w.heap.size w w' := by
  have H1 := Lib.hid (new_ok 10 w w (fun _ => False) (fun k h => h.elim) (Below.refl _ _) ⟨by omega, by omega⟩)
  go_enter Try.func12, Try.ntmps12
  go_wp2_with fail
  refine H1.out.mono ?_
  rintro e w1 ⟨g, rfl, hr, hb1⟩
  have H2 := alloc_hr hr (by omega) Wk.oA none 0 ⟨Words.nil _ _, small_of (by decide) (by decide) (by decide), by decide⟩ (fun p e => by cases e)
  rw [Wk.a1] at H2
  replace H2 : Hid (Calls Try.prog 36 #[.pointer (some ⟨g, 0, none⟩), .agg #[.int .u8 5, .int .i64 0, .slice none 0 0, .string ⟨#[97, 98]⟩]] w1 fun e w' => e = .returned (.tuple #[.int .i64 1, .int .i64 0]) ∧ HR w w' (fun _ => False) g 2 Wk.k1 ∧ Keep (fun _ => False) w1 w') := Lib.hid H2
  clear hr hb1 H1
  go_wp2_with fail
  refine H2.out.mono ?_
  rintro e w2 ⟨rfl, hr, _⟩
  have H3 := Lib.hid (handle_any 1 w2)
  have HR2 := Lib.hid hr
  clear hr H2
  go_wp2_with fail
  refine H3.out.mono ?_
  rintro e w3 ⟨rfl, hb⟩
  obtain ⟨w4, hw4⟩ : ∃ w4, w3.alloc (.cells #[.int .u8 2, .int .i64 1] 37) = w4 := ⟨_, rfl⟩
  have hb4 : Below w3.heap.size w3 w4 := by rw [← hw4]; exact (Below.refl _ _).alloc (Nat.le_refl _) _
  have hB4 : Blk w4 w3.heap.size 37 #[.int .u8 2, .int .i64 1] := by rw [← hw4]; exact Blk.new _ _ _
  have hr4 := (HR2.out.below hb).1.more (Y := fun k => k = w3.heap.size) hb4 (fun k hk => .inr ⟨by rw [hk]; exact Nat.le_refl _, by rw [hk]; exact hB4.lt⟩)
  have hwo : Words w4 (some ⟨w3.heap.size, 0, none⟩) [⟨2, 1⟩] := fun r x hx => by
    cases r with
    | zero =>
      simp at hx
      subst hx
      exact ⟨w3.heap.size, 0, rfl, hB4.lt, hB4.cell 0, hB4.cell 1, by show 2 < 256; omega, by show (-9223372036854775808 : Int) ≤ 1; omega, by show (1 : Int) < 9223372036854775808; omega⟩
    | succ r => simp at hx
  have H4 := alloc_hr hr4 (by omega) Wk.oB (some ⟨w3.heap.size, 0, none⟩) 1 ⟨hwo, small_of (by decide) (by decide) (by decide), by decide⟩ (fun p e => by cases e; exact .inl rfl)
  rw [Wk.a2] at H4
  replace H4 : Hid (Calls Try.prog 36 #[.pointer (some ⟨g, 0, none⟩), .agg #[.int .u8 3, .int .i64 0, .slice (some ⟨w3.heap.size, 0, none⟩) 1 1, .string ⟨#[]⟩]] w4 fun e w' => e = .returned (.tuple #[.int .i64 2, .int .i64 0]) ∧ HR w w' (fun k => k = w3.heap.size) g 4 Wk.k2 ∧ Keep (fun k => k = w3.heap.size) w4 w') := Lib.hid H4
  clear hb hb4 hB4 hr4 hwo H3 HR2
  go_wp2_with fail
  refine H4.out.mono ?_
  rintro e w5 ⟨rfl, hr, _⟩
  have hr5 := hr.less (Y := fun _ => False) (fun k h => h.elim)
  have H5 := alloc_hr hr5 (by omega) Wk.oC none 0 ⟨Words.nil _ _, small_of (by decide) (by decide) (by decide), by decide⟩ (fun p e => by cases e)
  rw [Wk.a3] at H5
  replace H5 : Hid (Calls Try.prog 36 #[.pointer (some ⟨g, 0, none⟩), .agg #[.int .u8 8, .int .i64 5, .slice none 0 0, .string ⟨#[]⟩]] w5 fun e w' => e = .returned (.tuple #[.int .i64 3, .int .i64 0]) ∧ HR w w' (fun _ => False) g 6 Wk.k3 ∧ Keep (fun _ => False) w5 w') := Lib.hid H5
  clear hr hr5 H4
  go_wp2_with fail
  refine H5.out.mono ?_
  rintro e w6 ⟨rfl, hr, _⟩
  have H6 : Hid (Calls Try.prog 18 #[.pointer (some ⟨g, 0, none⟩)] w6 fun e w' => e = .returned (.int .i64 5) ∧ w6 = w') := Lib.hid (used_hr hr)
  have H7 := tie_hr hr (by omega) 2 5 (WalkArith.wf_i64 (by omega))
  rw [Wk.t1] at H7
  replace H7 : Hid (Calls Try.prog 43 #[.pointer (some ⟨g, 0, none⟩), .int .i64 2, .int .i64 5] w6 fun e w' => e = .returned (.int .i64 3) ∧ HR w w' (fun _ => False) g 8 Wk.k3 ∧ Keep (fun _ => False) w6 w') := Lib.hid H7
  clear hr H5
  go_wp2_with fail
  refine H6.out.mono ?_
  rintro e w7 ⟨rfl, rfl⟩
  go_wp2_with fail
  refine H7.out.mono ?_
  rintro e w7 ⟨rfl, hr, _⟩
  have H8 := tie_hr hr (by omega) 2 6 (WalkArith.wf_i64 (by omega))
  rw [Wk.t2] at H8
  replace H8 : Hid (Calls Try.prog 43 #[.pointer (some ⟨g, 0, none⟩), .int .i64 2, .int .i64 6] w7 fun e w' => e = .returned (.int .i64 0) ∧ HR w w' (fun _ => False) g 10 Wk.k4 ∧ Keep (fun _ => False) w7 w') := Lib.hid H8
  clear hr H6 H7
  go_wp2_with fail
  refine H8.out.mono ?_
  rintro e w8 ⟨rfl, hr, _⟩
  have H9 := Lib.hid (number_any 7 w8)
  have HR8 := Lib.hid hr
  clear hr H8
  go_wp2_with fail
  refine H9.out.mono ?_
  rintro e w9 ⟨rfl, hb⟩
  have H10 := set_hr (HR8.out.below hb).1 2 0 ⟨1, 7⟩ ⟨by show 1 < 256; omega, by show (-9223372036854775808 : Int) ≤ 7; omega, by show (7 : Int) < 9223372036854775808; omega⟩ (WalkArith.wf_i64 (by omega))
  rw [Wk.s1] at H10
  replace H10 : Hid (Calls Try.prog 40 #[.pointer (some ⟨g, 0, none⟩), .int .i64 2, .int .i64 0, .agg #[.int .u8 1, .int .i64 7]] w9 fun e w' => e = .returned (.bool true) ∧ HR w w' (fun _ => False) g 12 Wk.k5 ∧ Keep (fun _ => False) w9 w') := Lib.hid H10
  clear hb H9 HR8
  go_wp2_with fail
  refine H10.out.mono ?_
  rintro e w10 ⟨rfl, hr, _⟩
  have H11 := dirty_hr hr (by omega)
  rw [Wk.d1] at H11
  replace H11 : Hid (Calls Try.prog 24 #[.pointer (some ⟨g, 0, none⟩)] w10 fun e w' => ∃ A c, e = .returned (.slice A 1 c) ∧ Ints w' A (nums [2]) ∧ (∀ p : Addr, A = some p → w10.heap.size ≤ p.block ∧ p.block < w'.heap.size) ∧ Below w10.heap.size w10 w') := Lib.hid H11
  have HR10 := Lib.hid hr
  clear hr H10
  go_wp2_with fail
  refine H11.out.mono ?_
  rintro e w11 ⟨A, c, rfl, hI, hbl, hb⟩
  obtain ⟨b, off, rfl, hblt, hc2, _⟩ := hI 0 2 rfl
  have hbb := hbl _ rfl
  have hr11 := HR10.out.more (Y := fun k => k = b) hb (fun k hk => .inr (by rw [hk]; exact hbb))
  have H12 := collect_hr hr11 (by omega) none 0 0 [] rfl (by omega) (by show 3 < 400000; omega) (fun k z hz => by simp at hz)
  rw [Wk.c1 hr11.ok] at H12
  replace H12 : Hid (Calls Try.prog 32 #[.pointer (some ⟨g, 0, none⟩), .slice none 0 0] w11 fun e w' => e = .returned (.int .i64 2) ∧ HR w w' (fun k => k = b) g 14 Wk.k6 ∧ Keep (fun k => k = b) w11 w') := Lib.hid H12
  rw [Nat.add_zero] at hc2
  have HC2 := Lib.hid (And.intro hc2 hblt)
  clear hI hbl hb hbb hr11 H11 HR10 hc2 hblt
  go_wp2_with fail
  refine H12.out.mono ?_
  rintro e w12 ⟨rfl, hr, hk⟩
  have H13 := word_hr hr 2 0 (WalkArith.wf_i64 (by omega))
  rw [Wk.w1] at H13
  replace H13 : Hid (Calls Try.prog 44 #[.pointer (some ⟨g, 0, none⟩), .int .i64 2, .int .i64 0] w12 fun e w' => e = .returned (.tuple #[.agg #[.int .u8 1, .int .i64 7], .bool true]) ∧ Below w12.heap.size w12 w') := Lib.hid H13
  have HR12 := Lib.hid (And.intro hr hk)
  clear hr hk H12
  go_wp2_with fail
  refine H13.out.mono ?_
  rintro e w13 ⟨rfl, hb⟩
  have HB13 := Lib.hid hb
  clear hb H13
  go_wp2_with fail
  obtain ⟨w14, hw14⟩ : ∃ w14, w13.alloc (.cells #[.int .u8 1, .int .i64 7] 37) = w14 := ⟨_, rfl⟩
  have hb14 : Below w13.heap.size w13 w14 := by rw [← hw14]; exact (Below.refl _ _).alloc (Nat.le_refl _) _
  have hB14 : Blk w14 w13.heap.size 37 #[.int .u8 1, .int .i64 7] := by rw [← hw14]; exact Blk.new _ _ _
  have hbb := HB13.out.trans (hb14.mono HB13.out.size)
  have b0 := hB14.cell 0
  have b1 := hB14.cell 1
  simp only [List.getElem?_toArray, List.getElem?_cons_zero, List.getElem?_cons_succ] at b0 b1
  have q0 : w14.cell? ⟨b, off, none⟩ = some (.int .i64 2) := by
    rw [World.cell?_of_block (a := ⟨b, off, none⟩) (hbb.block b (Nat.lt_of_lt_of_le HC2.out.2 HR12.out.2.size)), World.cell?_of_block (a := ⟨b, off, none⟩) (HR12.out.2.at_ b rfl)]
    exact HC2.out.1
  have HCT : Hid (Calls Try.prog 20 #[.pointer (some ⟨g, 0, none⟩)] w14.drew fun e w' => e = .returned (.int .i64 1) ∧ w14.drew = w') := Lib.hid (count_hr ((HR12.out.1.below hbb).1.below (drewN_below w14 1)).1)
  have HB14 := Lib.hid ((HR12.out.1.bel).trans (hbb.mono HR12.out.1.bel.size))
  have hlt14 : w13.heap.size < w14.drew.heap.size := hB14.lt
  have hblt14 : b < w14.drew.heap.size := World.block_lt_of_cell? w14 _ q0
  have hS0 : w14.drew.cell? ⟨b, off, none⟩ = some (.int .i64 2) ∧ w14.drew.cell? ⟨w13.heap.size, 0, none⟩ = some (.int .u8 1) ∧ w14.drew.cell? ⟨w13.heap.size, 1, none⟩ = some (.int .i64 7) := ⟨q0, b0, b1⟩
  have HBD : Hid (Below w.heap.size w w14.drew) := Lib.hid (HB14.out.trans (⟨rfl, rfl, rfl, Nat.le_refl _, fun _ _ => rfl⟩ : Below w.heap.size w14 w14.drew))
  rw [hw14]
  clear hb14 hB14 hbb hw14 HR12 HC2 HB13 HB14
  go_upto_region 12 with fail
  refine wp_region_held_drew (S := fun W => W.cell? ⟨b, off, none⟩ = some (.int .i64 2) ∧ W.cell? ⟨w13.heap.size, 0, none⟩ = some (.int .u8 1) ∧ W.cell? ⟨w13.heap.size, 1, none⟩ = some (.int .i64 7)) (by kernel_rfl) hS0 (fun hHeld => ?_)
  refine takeY 0 (some 95) rfl rfl (by kernel_rfl) (by kernel_rfl) (by kernel_rfl) (fun _ _ _ h => h) (by rfl) (v := _) (by (intro _ hSw; (try dsimp only at hSw); go_simp; try with_reducible rfl)) hHeld ?_
  simp only [Act.put, List.setIfInBounds_toArray, List.set_cons_zero, List.set_cons_succ]
  refine takeY 1 (some 96) rfl rfl (by kernel_rfl) (by kernel_rfl) (by kernel_rfl) (fun _ _ _ h => h) (by rfl) (v := _) (by (intro _ hSw; (try dsimp only at hSw); go_simp; try with_reducible rfl)) hHeld ?_
  simp only [Act.put, List.setIfInBounds_toArray, List.set_cons_zero, List.set_cons_succ]
  refine takeY 2 (some 97) rfl rfl (by kernel_rfl) (by kernel_rfl) (by kernel_rfl) (fun _ _ _ h => h) (by rfl) (v := _) (by (intro _ hSw; (try dsimp only at hSw); go_simp; try with_reducible rfl)) hHeld ?_
  simp only [Act.put, List.setIfInBounds_toArray, List.set_cons_zero, List.set_cons_succ]
  refine takeY 3 (some 98) rfl rfl (by kernel_rfl) (by kernel_rfl) (by kernel_rfl) (fun _ _ _ h => h) (by rfl) (v := _) (by (intro _ hSw; (try dsimp only at hSw); go_simp; try with_reducible rfl)) hHeld ?_
  simp only [Act.put, List.setIfInBounds_toArray, List.set_cons_zero, List.set_cons_succ]
  refine takeY 4 (some 99) rfl rfl (by kernel_rfl) (by kernel_rfl) (by kernel_rfl) (fun _ _ _ h => h) (by rfl) (v := _) (by (intro _ hSw; (try dsimp only at hSw); go_simp; try with_reducible rfl)) hHeld ?_
  simp only [Act.put, List.setIfInBounds_toArray, List.set_cons_zero, List.set_cons_succ]
  refine takeY 5 (some 100) rfl rfl (by kernel_rfl) (by kernel_rfl) (by kernel_rfl) (fun _ _ _ h => h) (by rfl) (v := _) (by (intro _ hSw; (try dsimp only at hSw); go_simp; try with_reducible rfl)) hHeld ?_
  simp only [Act.put, List.setIfInBounds_toArray, List.set_cons_zero, List.set_cons_succ]
  refine takeY 6 (some 101) rfl rfl (by kernel_rfl) (by kernel_rfl) (by kernel_rfl) (fun _ _ _ h => h) (by rfl) (v := _) (by (intro _ hSw; (try dsimp only at hSw); go_simp; try with_reducible rfl)) hHeld ?_
  simp only [Act.put, List.setIfInBounds_toArray, List.set_cons_zero, List.set_cons_succ]
  refine takeY 7 (some 102) rfl rfl (by kernel_rfl) (by kernel_rfl) (by kernel_rfl) (fun _ _ _ h => h) (by rfl) (v := _) (by (intro _ hSw; (try dsimp only at hSw); go_simp; try with_reducible rfl)) hHeld ?_
  simp only [Act.put, List.setIfInBounds_toArray, List.set_cons_zero, List.set_cons_succ]
  refine takeY 8 (some 103) rfl rfl (by kernel_rfl) (by kernel_rfl) (by kernel_rfl) (fun _ _ _ h => h) (by rfl) (v := _) (by (intro _ hSw; (try dsimp only at hSw); go_simp; try with_reducible rfl)) hHeld ?_
  simp only [Act.put, List.setIfInBounds_toArray, List.set_cons_zero, List.set_cons_succ]
  refine takeY 9 (some 104) rfl rfl (by kernel_rfl) (by kernel_rfl) (by kernel_rfl) (fun _ _ _ h => h) (by rfl) (v := _) (by (intro _ hSw; (try dsimp only at hSw); go_simp; try with_reducible rfl)) hHeld ?_
  simp only [Act.put, List.setIfInBounds_toArray, List.set_cons_zero, List.set_cons_succ]
  refine takeY 10 (some 105) rfl rfl (by kernel_rfl) (by kernel_rfl) (by kernel_rfl) (fun _ _ _ h => h) (by rfl) (v := _) (by (intro _ hSw; (try dsimp only at hSw); go_simp; try with_reducible rfl)) hHeld ?_
  simp only [Act.put, List.setIfInBounds_toArray, List.set_cons_zero, List.set_cons_succ]
  refine takeY 11 (some 106) rfl rfl (by kernel_rfl) (by kernel_rfl) (by kernel_rfl) (fun _ _ _ h => h) (by rfl) (v := _) (by (intro _ hSw; (try dsimp only at hSw); go_simp; try with_reducible rfl)) hHeld ?_
  simp only [Act.put, List.setIfInBounds_toArray, List.set_cons_zero, List.set_cons_succ]
  refine takeY 12 (some 107) rfl rfl (by kernel_rfl) (by kernel_rfl) (by kernel_rfl) (fun _ _ _ h => h) (by rfl) (v := _) (by (intro _ hSw; (try dsimp only at hSw); go_simp; try with_reducible rfl)) hHeld ?_
  simp only [Act.put, List.setIfInBounds_toArray, List.set_cons_zero, List.set_cons_succ]
  refine takeY 13 (some 108) rfl rfl (by kernel_rfl) (by kernel_rfl) (by kernel_rfl) (fun _ _ _ h => h) (by rfl) (v := _) (by (intro _ hSw; (try dsimp only at hSw); go_simp; try with_reducible rfl)) hHeld ?_
  simp only [Act.put, List.setIfInBounds_toArray, List.set_cons_zero, List.set_cons_succ]
  refine takeY 14 (some 109) rfl rfl (by kernel_rfl) (by kernel_rfl) (by kernel_rfl) (fun _ _ _ h => h) (by rfl) (v := _) (by (intro _ hSw; (try dsimp only at hSw); go_simp; try with_reducible rfl)) hHeld ?_
  simp only [Act.put, List.setIfInBounds_toArray, List.set_cons_zero, List.set_cons_succ]
  refine wpAnyH_ready (rs := [15]) (by kernel_rfl) (by simp) ?_
  refine AllReadyH.cons rfl (fun K hK => ?_) AllReadyH.nil
  clear hHeld
  go_simp
  go_wp2_with (go_at_call 20; refine Calls.mono HCT.out ?_; rintro e v1 ⟨rfl, rfl⟩)
  refine hK.out _ _ hS0 (fun hHeld => ?_)
  clear hK K
  refine takeY 16 (some 111) rfl rfl (by kernel_rfl) (by kernel_rfl) (by kernel_rfl) (fun _ _ _ h => h) (by rfl) (v := _) (by (intro _ hSw; (try dsimp only at hSw); go_simp; try with_reducible rfl)) hHeld ?_
  simp only [Act.put, List.setIfInBounds_toArray, List.set_cons_zero, List.set_cons_succ]
  refine takeY 17 (some 112) rfl rfl (by kernel_rfl) (by kernel_rfl) (by kernel_rfl) (fun _ _ _ h => h) (by rfl) (v := _) (by (intro _ hSw; (try dsimp only at hSw); go_simp; try with_reducible rfl)) hHeld ?_
  simp only [Act.put, List.setIfInBounds_toArray, List.set_cons_zero, List.set_cons_succ]
  refine takeY 18 (some 113) rfl rfl (by kernel_rfl) (by kernel_rfl) (by kernel_rfl) (fun _ _ _ h => h) (by rfl) (v := _) (by (intro _ hSw; (try dsimp only at hSw); go_simp; try with_reducible rfl)) hHeld ?_
  simp only [Act.put, List.setIfInBounds_toArray, List.set_cons_zero, List.set_cons_succ]
  refine takeY 19 (some 114) rfl rfl (by kernel_rfl) (by kernel_rfl) (by kernel_rfl) (fun _ _ _ h => h) (by rfl) (v := _) (by (intro _ hSw; (try dsimp only at hSw); go_simp; try with_reducible rfl)) hHeld ?_
  simp only [Act.put, List.setIfInBounds_toArray, List.set_cons_zero, List.set_cons_succ]
  refine takeY 20 (some 115) rfl rfl (by kernel_rfl) (by kernel_rfl) (by kernel_rfl) (fun _ _ _ h => h) (by rfl) (v := _) (by (intro _ hSw; (try dsimp only at hSw); go_simp; try with_reducible rfl)) hHeld ?_
  simp only [Act.put, List.setIfInBounds_toArray, List.set_cons_zero, List.set_cons_succ]
  refine takeY 21 (some 116) rfl rfl (by kernel_rfl) (by kernel_rfl) (by kernel_rfl) (fun _ _ _ h => h) (by rfl) (v := _) (by (intro _ hSw; (try dsimp only at hSw); go_simp; try with_reducible rfl)) hHeld ?_
  simp only [Act.put, List.setIfInBounds_toArray, List.set_cons_zero, List.set_cons_succ]
  refine takeY 22 (some 117) rfl rfl (by kernel_rfl) (by kernel_rfl) (by kernel_rfl) (fun _ _ _ h => h) (by rfl) (v := _) (by (intro _ hSw; (try dsimp only at hSw); go_simp; try with_reducible rfl)) hHeld ?_
  simp only [Act.put, List.setIfInBounds_toArray, List.set_cons_zero, List.set_cons_succ]
  refine wpAnyH_ready (rs := [23]) (by kernel_rfl) (by simp) ?_
  refine AllReadyH.cons rfl (fun K hK => ?_) AllReadyH.nil
  clear hHeld
  go_simp
  go_wp2_with (go_at_call 41; refine Calls.mono (number_any 7 _) ?_; rintro e v2 ⟨rfl, hb2⟩; have HB2 := Lib.hid hb2; clear hb2)
  refine hK.out _ _ ⟨(HB2.out.cell (p := ⟨b, off, none⟩) hblt14).trans hS0.1, (HB2.out.cell (p := ⟨w13.heap.size, 0, none⟩) hlt14).trans hS0.2.1, (HB2.out.cell (p := ⟨w13.heap.size, 1, none⟩) hlt14).trans hS0.2.2⟩ (fun hHeld => ?_)
  clear hK K
  refine takeY 24 (some 119) rfl rfl (by kernel_rfl) (by kernel_rfl) (by kernel_rfl) (fun _ _ _ h => h) (by rfl) (v := _) (by (intro _ hSw; (try dsimp only at hSw); go_simp; try with_reducible rfl)) hHeld ?_
  simp only [Act.put, List.setIfInBounds_toArray, List.set_cons_zero, List.set_cons_succ]
  refine takeY 25 (some 120) rfl rfl (by kernel_rfl) (by kernel_rfl) (by kernel_rfl) (fun _ _ _ h => h) (by rfl) (v := _) (by (intro _ hSw; (try dsimp only at hSw); go_simp; try with_reducible rfl)) hHeld ?_
  simp only [Act.put, List.setIfInBounds_toArray, List.set_cons_zero, List.set_cons_succ]
  refine takeY 26 (some 0) rfl rfl (by kernel_rfl) (by kernel_rfl) (by kernel_rfl) (fun _ _ _ h => h) (by rfl) (v := _) (by (intro _ hSw; (try dsimp only at hSw); go_simp; try with_reducible rfl)) hHeld ?_
  simp only [Act.put, List.setIfInBounds_toArray, List.set_cons_zero, List.set_cons_succ]
  refine wpAnyH_done (by kernel_rfl) ?_ _
  go_wp2_with fail
  go_ret
  exact ⟨rfl, HBD.out.trans (HB2.out.mono HBD.out.size)⟩
end Go.Proofs.Ytclkkfffecmjnaa
