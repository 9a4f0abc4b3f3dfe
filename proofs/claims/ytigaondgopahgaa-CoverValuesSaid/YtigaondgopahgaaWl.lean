/- cover: works. -/
import Derived.Test.YtigaondgopahgaaWk
namespace Go.Proofs.Ytigaondgopahgaa
open Go.RowKit Ty
set_option linter.unusedVariables false
set_option linter.unusedSimpArgs false
attribute [local go_sem] Oper.semAt_some
theorem infos_at (w : World) (o : Obj) : Calls Try.prog 16 #[] (w.alloc o) fun e w' => e = .returned (.slice (some ⟨w.heap.size + 1, 0, none⟩) 8 8) ∧ IAt Everywhere w' (some ⟨w.heap.size + 1, 0, none⟩) 8 8 infosX ∧ Below (w.heap.size + 1) (w.alloc o) w' := by
  have h := infos_any (w.alloc o)
  rw [World.size_alloc] at h
  exact h
set_option maxRecDepth 20000 in
set_option maxHeartbeats 8000000 in
theorem works_any (w : World) : Calls Try.prog 10 #[] w fun e w' => e = .returned (.bool true) ∧ Below w.heap.size w w' := by
  go_enter Try.func10, Try.ntmps10
  go_wp2_with fail
  refine (con_any ⟨#[116, 114, 117, 101]⟩ none 0 0 w).mono ?_
  rintro e wA ⟨rfl, hbA⟩
  go_wp2_with fail
  refine (con_any ⟨#[102, 97, 108, 115, 101]⟩ none 0 0 wA).mono ?_
  rintro e wB ⟨rfl, hbB⟩
  obtain ⟨w0, hw0⟩ : ∃ w0, wB.alloc (.cells #[.int .u8 6, .string ⟨#[116, 114, 117, 101]⟩, .int .i64 0, .slice none 0 0, .int .u8 6, .string ⟨#[102, 97, 108, 115, 101]⟩, .int .i64 0, .slice none 0 0] 40) = w0 := ⟨_, rfl⟩
  have hb0 : Below wB.heap.size wB w0 := by rw [← hw0]; exact (Below.refl _ _).alloc (Nat.le_refl _) _
  have hB0 : Blk w0 wB.heap.size 40 #[.int .u8 6, .string ⟨#[116, 114, 117, 101]⟩, .int .i64 0, .slice none 0 0, .int .u8 6, .string ⟨#[102, 97, 108, 115, 101]⟩, .int .i64 0, .slice none 0 0] := by rw [← hw0]; exact Blk.new _ _ _
  obtain ⟨g, hg⟩ : ∃ g, wB.heap.size = g := ⟨_, rfl⟩
  have HB := Lib.hid (hbA.trans ((hbB.trans (hb0.mono hbB.size)).mono hbA.size))
  rw [hg] at hB0
  have HK := Lib.hid hB0
  have HX : Hid (∀ W, Below w0.heap.size w0 W → W.cell? ⟨g, 0, none⟩ = some (.int .u8 6) ∧ W.cell? ⟨g, 1, none⟩ = some (.string ⟨#[116, 114, 117, 101]⟩) ∧ W.cell? ⟨g, 2, none⟩ = some (.int .i64 0) ∧ W.cell? ⟨g, 3, none⟩ = some (.slice none 0 0)) := Lib.hid fun W hW => ⟨(hB0.below hW hB0.lt).cell 0, (hB0.below hW hB0.lt).cell 1, (hB0.below hW hB0.lt).cell 2, (hB0.below hW hB0.lt).cell 3⟩
  have HC1 : Hid (∀ (W : World) (B : Option Addr), Below w0.heap.size w0 W → IAt Everywhere W B 8 8 infosX → Calls Try.prog 11 #[.slice (some ⟨g, 0, none⟩) 2 2, .slice B 8 8, .bool true] W fun e w' => e = .returned (.int .i64 0) ∧ Below W.heap.size W w') := Lib.hid fun W B hW hI => checkI [pT, pF] _ 2 2 B true 0 0 W (Wk2.two ⟨hB0.below hW hB0.lt⟩) hI told_w1 rfl
  have HC2 : Hid (∀ (W : World) (B : Option Addr), Below w0.heap.size w0 W → IAt Everywhere W B 8 8 infosX → Calls Try.prog 11 #[.slice (some ⟨g, 0, none⟩) 1 2, .slice B 8 8, .bool true] W fun e w' => e = .returned (.int .i64 14) ∧ Below W.heap.size W w') := Lib.hid fun W B hW hI => checkI [pT] _ 1 2 B true 4 14 W (Wk2.one ⟨hB0.below hW hB0.lt⟩) hI told_w2 rfl
  clear hbA hbB hb0 hB0
  go_upto_region 2 with fail
  (try rw [hg])
  (try rw [hw0])
  clear hw0 hg
  refine wp_region_held_drew (S := fun W => W.cell? ⟨g, 0, none⟩ = some (.int .u8 6) ∧ W.cell? ⟨g, 1, none⟩ = some (.string ⟨#[116, 114, 117, 101]⟩) ∧ W.cell? ⟨g, 2, none⟩ = some (.int .i64 0) ∧ W.cell? ⟨g, 3, none⟩ = some (.slice none 0 0)) (by kernel_rfl) (by exact HX.out _ (Below.refl _ w0).drew) (fun hHeld => ?_)
  refine takeY 0 (some 5) rfl rfl (by kernel_rfl) (by kernel_rfl) (by kernel_rfl) (fun _ _ _ h => h) (by rfl) (v := _) (by (intro _ hSw; (try dsimp only at hSw); go_simp; try with_reducible rfl)) hHeld ?_
  simp only [Act.put, List.setIfInBounds_toArray, List.set_cons_zero, List.set_cons_succ]
  refine wpAnyH_ready (rs := [1]) (by kernel_rfl) (by simp) ?_
  refine AllReadyH.cons rfl (fun K hK => ?_) AllReadyH.nil
  clear hHeld
  go_simp
  go_wp2_with (go_at_call 16; refine Calls.mono (infos_any w0.drew) ?_; rintro e w1 ⟨rfl, hI1, hb1⟩; have hw1 : Below w0.heap.size w0 w1 := (Below.refl _ w0).drew.trans hb1)
  refine hK.out _ _ (by exact HX.out _ hw1) (fun hHeld => ?_)
  clear hK K
  refine wpAnyH_ready (rs := [2]) (by kernel_rfl) (by simp) ?_
  refine AllReadyH.cons rfl (fun K hK => ?_) AllReadyH.nil
  clear hHeld
  go_simp
  go_wp2_with (go_at_call 11; refine Calls.mono (HC1.out _ _ hw1 hI1) ?_; rintro e w2 ⟨rfl, hb2⟩; have hw2 : Below w0.heap.size w0 w2 := hw1.trans (hb2.mono hw1.size))
  refine hK.out _ _ (by exact HX.out _ hw2) (fun hHeld => ?_)
  clear hK K
  refine takeY 3 (some 8) rfl rfl (by kernel_rfl) (by kernel_rfl) (by kernel_rfl) (fun _ _ _ h => h) (by rfl) (v := _) (by (intro _ hSw; (try dsimp only at hSw); go_simp; try with_reducible rfl)) hHeld ?_
  simp only [Act.put, List.setIfInBounds_toArray, List.set_cons_zero, List.set_cons_succ]
  refine takeY 4 (some 9) rfl rfl (by kernel_rfl) (by kernel_rfl) (by kernel_rfl) (fun _ _ _ h => h) (by rfl) (v := _) (by (intro _ hSw; (try dsimp only at hSw); go_simp; try with_reducible rfl)) hHeld ?_
  simp only [Act.put, List.setIfInBounds_toArray, List.set_cons_zero, List.set_cons_succ]
  refine takeY 5 (some 10) rfl rfl (by kernel_rfl) (by kernel_rfl) (by kernel_rfl) (fun _ _ _ h => h) (by rfl) (v := _) (by (intro _ hSw; (try dsimp only at hSw); go_simp; try with_reducible rfl)) hHeld ?_
  simp only [Act.put, List.setIfInBounds_toArray, List.set_cons_zero, List.set_cons_succ]
  refine takeY 6 (some 11) rfl rfl (by kernel_rfl) (by kernel_rfl) (by kernel_rfl) (fun _ _ _ h => h) (by rfl) (v := _) (by (intro _ hSw; (try dsimp only at hSw); go_simp; try with_reducible rfl)) hHeld ?_
  simp only [Act.put, List.setIfInBounds_toArray, List.set_cons_zero, List.set_cons_succ]
  refine wpAnyH_ready (rs := [7]) (by kernel_rfl) (by simp) ?_
  refine AllReadyH.cons rfl (fun K hK => ?_) AllReadyH.nil
  clear hHeld
  go_simp
  go_wp2_with (go_at_call 16; refine Calls.mono (infos_any w2) ?_; rintro e w3 ⟨rfl, hI3, hb3⟩; have hw3 : Below w0.heap.size w0 w3 := hw2.trans (hb3.mono hw2.size))
  refine hK.out _ _ (by exact HX.out _ hw3) (fun hHeld => ?_)
  clear hK K
  refine wpAnyH_ready (rs := [8]) (by kernel_rfl) (by simp) ?_
  refine AllReadyH.cons rfl (fun K hK => ?_) AllReadyH.nil
  clear hHeld
  go_simp
  go_wp2_with (go_at_call 11; refine Calls.mono (HC2.out _ _ hw3 hI3) ?_; rintro e w4 ⟨rfl, hb4⟩; have hw4 : Below w0.heap.size w0 w4 := hw3.trans (hb4.mono hw3.size))
  refine hK.out _ _ (by exact HX.out _ hw4) (fun hHeld => ?_)
  clear hK K
  refine takeY 9 (some 14) rfl rfl (by kernel_rfl) (by kernel_rfl) (by kernel_rfl) (fun _ _ _ h => h) (by rfl) (v := _) (by (intro _ hSw; (try dsimp only at hSw); go_simp; try with_reducible rfl)) hHeld ?_
  simp only [Act.put, List.setIfInBounds_toArray, List.set_cons_zero, List.set_cons_succ]
  refine takeY 10 (some 15) rfl rfl (by kernel_rfl) (by kernel_rfl) (by kernel_rfl) (fun _ _ _ h => h) (by rfl) (v := _) (by (intro _ hSw; (try dsimp only at hSw); go_simp; try with_reducible rfl)) hHeld ?_
  simp only [Act.put, List.setIfInBounds_toArray, List.set_cons_zero, List.set_cons_succ]
  refine takeY 11 (some 16) rfl rfl (by kernel_rfl) (by kernel_rfl) (by kernel_rfl) (fun _ _ _ h => h) (by rfl) (v := _) (by (intro _ hSw; (try dsimp only at hSw); go_simp; try with_reducible rfl)) hHeld ?_
  simp only [Act.put, List.setIfInBounds_toArray, List.set_cons_zero, List.set_cons_succ]
  refine takeY 13 (some 18) rfl rfl (by kernel_rfl) (by kernel_rfl) (by kernel_rfl) (fun _ _ _ h => h) (by rfl) (v := _) (by (intro _ hSw; (try dsimp only at hSw); go_simp; try with_reducible rfl)) hHeld ?_
  simp only [Act.put, List.setIfInBounds_toArray, List.set_cons_zero, List.set_cons_succ]
  refine takeY 14 (some 19) rfl rfl (by kernel_rfl) (by kernel_rfl) (by kernel_rfl) (fun _ _ _ h => h) (by rfl) (v := _) (by (intro _ hSw; (try dsimp only at hSw); go_simp; try with_reducible rfl)) hHeld ?_
  simp only [Act.put, List.setIfInBounds_toArray, List.set_cons_zero, List.set_cons_succ]
  refine takeY 15 (some 20) rfl rfl (by kernel_rfl) (by kernel_rfl) (by kernel_rfl) (fun _ _ _ h => h) (by rfl) (v := _) (by (intro _ hSw; (try dsimp only at hSw); go_simp; try with_reducible rfl)) hHeld ?_
  simp only [Act.put, List.setIfInBounds_toArray, List.set_cons_zero, List.set_cons_succ]
  refine wpAnyH_ready (rs := [12]) (by kernel_rfl) (by simp) ?_
  refine AllReadyH.cons rfl (fun K hK => ?_) AllReadyH.nil
  clear hHeld
  go_simp
  go_wp2_with (go_at_call 18; refine Calls.mono (wild_any w4) ?_; rintro e w5 ⟨rfl, hb5⟩; have hw5 : Below w0.heap.size w0 w5 := hw4.trans (hb5.mono hw4.size))
  refine hK.out _ _ (by exact HX.out _ hw5) (fun hHeld => ?_)
  clear hK K
  refine wpAnyH_ready (rs := [16, 17]) (by kernel_rfl) (by simp) ?_
  refine AllReadyH.cons rfl (fun K hK => ?_) (AllReadyH.cons rfl (fun K hK => ?_) AllReadyH.nil)
  · clear hHeld
    go_simp
    refine hK.out _ _ (by exact HX.out _ (hw5.alloc hw5.size _)) (fun hHeld => ?_)
    clear hK K
    refine wpAnyH_ready (rs := [17]) (by kernel_rfl) (by simp) ?_
    refine AllReadyH.cons rfl (fun K hK => ?_) AllReadyH.nil
    clear hHeld
    go_simp
    go_wp2_with (go_at_call 16; refine Calls.mono (infos_at w5 _) ?_; rintro e w6 ⟨rfl, hI6, hb6⟩; have hw6 : Below w0.heap.size w0 w6 := (hw5.alloc hw5.size _).trans (hb6.mono (by have := hw5.size; omega)))
    refine hK.out _ _ (by exact HX.out _ hw6) (fun hHeld => ?_)
    clear hK K
    refine wpAnyH_ready (rs := [18]) (by kernel_rfl) (by simp) ?_
    refine AllReadyH.cons rfl (fun K hK => ?_) AllReadyH.nil
    clear hHeld
    go_simp
    go_wp2_with (go_at_call 11; refine Calls.mono (checkI [any, pT] _ 2 2 _ false 4 14 w6 (wk3 ((Blk.new w5 _ _).below hb6 (by omega))) hI6 told_w3 rfl) ?_; rintro e w7 ⟨rfl, hb7⟩; have hw7 : Below w0.heap.size w0 w7 := hw6.trans (hb7.mono hw6.size))
    refine hK.out _ _ (by exact HX.out _ hw7) (fun hHeld => ?_)
    clear hK K
    refine takeY 19 (some 24) rfl rfl (by kernel_rfl) (by kernel_rfl) (by kernel_rfl) (fun _ _ _ h => h) (by rfl) (v := _) (by (intro _ hSw; (try dsimp only at hSw); go_simp; try with_reducible rfl)) hHeld ?_
    simp only [Act.put, List.setIfInBounds_toArray, List.set_cons_zero, List.set_cons_succ]
    refine takeY 20 (some 25) rfl rfl (by kernel_rfl) (by kernel_rfl) (by kernel_rfl) (fun _ _ _ h => h) (by rfl) (v := _) (by (intro _ hSw; (try dsimp only at hSw); go_simp; try with_reducible rfl)) hHeld ?_
    simp only [Act.put, List.setIfInBounds_toArray, List.set_cons_zero, List.set_cons_succ]
    refine takeY 21 (some 26) rfl rfl (by kernel_rfl) (by kernel_rfl) (by kernel_rfl) (fun _ _ _ h => h) (by rfl) (v := _) (by (intro _ hSw; (try dsimp only at hSw); go_simp; try with_reducible rfl)) hHeld ?_
    simp only [Act.put, List.setIfInBounds_toArray, List.set_cons_zero, List.set_cons_succ]
    refine takeY 22 (some 27) rfl rfl (by kernel_rfl) (by kernel_rfl) (by kernel_rfl) (fun _ _ _ h => h) (by rfl) (v := _) (by (intro _ hSw; (try dsimp only at hSw); go_simp; try with_reducible rfl)) hHeld ?_
    simp only [Act.put, List.setIfInBounds_toArray, List.set_cons_zero, List.set_cons_succ]
    refine takeY 23 (some 0) rfl rfl (by kernel_rfl) (by kernel_rfl) (by kernel_rfl) (fun _ _ _ h => h) (by rfl) (v := _) (by (intro _ hSw; (try dsimp only at hSw); go_simp; try with_reducible rfl)) hHeld ?_
    simp only [Act.put, List.setIfInBounds_toArray, List.set_cons_zero, List.set_cons_succ]
    refine wpAnyH_done (by kernel_rfl) ?_ _
    have HW := Lib.hid (HB.out.trans (hw7.mono HB.out.size))
    go_wp2_with fail
    go_ret
    exact ⟨rfl, HW.out⟩
  · clear hHeld
    go_simp
    go_wp2_with (go_at_call 16; refine Calls.mono (infos_any w5) ?_; rintro e w6 ⟨rfl, hI6, hb6⟩; have hw6 : Below w0.heap.size w0 w6 := hw5.trans (hb6.mono hw5.size))
    refine hK.out _ _ (by exact HX.out _ hw6) (fun hHeld => ?_)
    clear hK K
    refine wpAnyH_ready (rs := [16]) (by kernel_rfl) (by simp) ?_
    refine AllReadyH.cons rfl (fun K hK => ?_) AllReadyH.nil
    go_simp
    refine hK.out _ _ (by exact HX.out _ (hw6.alloc hw6.size _)) (fun hHeld => ?_)
    clear hK K
    refine wpAnyH_ready (rs := [18]) (by kernel_rfl) (by simp) ?_
    refine AllReadyH.cons rfl (fun K hK => ?_) AllReadyH.nil
    clear hHeld
    go_simp
    go_wp2_with (go_at_call 11; refine Calls.mono (checkI [any, pT] _ 2 2 _ false 4 14 (w6.alloc (.cells #[.int .u8 1, .string ⟨#[]⟩, .int .i64 0, .slice none 0 0, .int .u8 6, .string ⟨#[116, 114, 117, 101]⟩, .int .i64 0, .slice none 0 0] 40)) (wk3 (Blk.new w6 _ _)) (hI6.bel ((Below.refl _ _).alloc (Nat.le_refl _) _)) told_w3 rfl) ?_; rintro e w7 ⟨rfl, hb7⟩; have hw7 : Below w0.heap.size w0 w7 := (hw6.alloc hw6.size _).trans (hb7.mono (by simp; have := hw6.size; omega)))
    refine hK.out _ _ (by exact HX.out _ hw7) (fun hHeld => ?_)
    clear hK K
    refine takeY 19 (some 24) rfl rfl (by kernel_rfl) (by kernel_rfl) (by kernel_rfl) (fun _ _ _ h => h) (by rfl) (v := _) (by (intro _ hSw; (try dsimp only at hSw); go_simp; try with_reducible rfl)) hHeld ?_
    simp only [Act.put, List.setIfInBounds_toArray, List.set_cons_zero, List.set_cons_succ]
    refine takeY 20 (some 25) rfl rfl (by kernel_rfl) (by kernel_rfl) (by kernel_rfl) (fun _ _ _ h => h) (by rfl) (v := _) (by (intro _ hSw; (try dsimp only at hSw); go_simp; try with_reducible rfl)) hHeld ?_
    simp only [Act.put, List.setIfInBounds_toArray, List.set_cons_zero, List.set_cons_succ]
    refine takeY 21 (some 26) rfl rfl (by kernel_rfl) (by kernel_rfl) (by kernel_rfl) (fun _ _ _ h => h) (by rfl) (v := _) (by (intro _ hSw; (try dsimp only at hSw); go_simp; try with_reducible rfl)) hHeld ?_
    simp only [Act.put, List.setIfInBounds_toArray, List.set_cons_zero, List.set_cons_succ]
    refine takeY 22 (some 27) rfl rfl (by kernel_rfl) (by kernel_rfl) (by kernel_rfl) (fun _ _ _ h => h) (by rfl) (v := _) (by (intro _ hSw; (try dsimp only at hSw); go_simp; try with_reducible rfl)) hHeld ?_
    simp only [Act.put, List.setIfInBounds_toArray, List.set_cons_zero, List.set_cons_succ]
    refine takeY 23 (some 0) rfl rfl (by kernel_rfl) (by kernel_rfl) (by kernel_rfl) (fun _ _ _ h => h) (by rfl) (v := _) (by (intro _ hSw; (try dsimp only at hSw); go_simp; try with_reducible rfl)) hHeld ?_
    simp only [Act.put, List.setIfInBounds_toArray, List.set_cons_zero, List.set_cons_succ]
    refine wpAnyH_done (by kernel_rfl) ?_ _
    have HW := Lib.hid (HB.out.trans (hw7.mono HB.out.size))
    go_wp2_with fail
    go_ret
    exact ⟨rfl, HW.out⟩
end Go.Proofs.Ytigaondgopahgaa
