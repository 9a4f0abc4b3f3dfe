/- Contracts, part BW. -/
import Derived.Test.YtimkiifcmegfeaaBP
/- code: effect (written by cdeff.py). -/
namespace Go.Proofs.Ytimkiifcmegfeaa
open Go.RowKit
set_option linter.unusedVariables false
set_option linter.unusedSimpArgs false
attribute [local go_sem] Oper.semAt_some
set_option maxRecDepth 20000 in
set_option maxHeartbeats 2000000 in
theorem effect_4 (a b c h : Int) (t : Nat) (tx : List UInt8) (gw gk fn m pm N : Nat) (g1 g2 : Int) (cl : Cl) (gv : Value) (w : World) (hM : EfM w gw gk fn m pm N (g1, g2) cl gv) (ha : -4611686018427387904 ≤ a ∧ a ≤ 4611686018427387903) (htl : tx.length ≤ maxLen) (r : Option (Int × Int))
    (hr : r = if decide (fn = 0) = false ∧ a < g1 then some (0, 1) else none) :
    Calls Try.prog 75 #[.pointer (some ⟨gw, 0, none⟩), .agg #[.bool true, .int .i64 h, .int .i64 (t : Int)], .agg #[.int .u8 4, .int .i64 a, .int .i64 b, .int .i64 c, .string (str tx)]] w fun e w' => e = effE r ∧ PrMap w' pm (N + 1) ∧ Off (fun k => k = pm) w w' := by
  obtain ⟨ha1, ha2⟩ := ha
  obtain ⟨q, hq⟩ : ∃ q, w.heap.size = q := ⟨_, rfl⟩
  obtain ⟨q1, hq1⟩ : ∃ q1, q + 1 = q1 := ⟨_, rfl⟩
  obtain ⟨q2, hq2⟩ : ∃ q2, q1 + 1 = q2 := ⟨_, rfl⟩
  obtain ⟨w1, hw1⟩ : ∃ V, w.alloc (.cells #[.bool true, .int .i64 h, .int .i64 (t : Int)] 139) = V := ⟨_, rfl⟩
  obtain ⟨w2, hw2⟩ : ∃ V, w1.alloc (.cells #[.int .u8 4, .int .i64 a, .int .i64 b, .int .i64 c, .string (str tx)] 46) = V := ⟨_, rfl⟩
  obtain ⟨w3, hw3⟩ : ∃ V, (w2.alloc (.cells #[.int .i64 g1, .int .i64 g2] 124)).drew = V := ⟨_, rfl⟩
  obtain ⟨hb2, hb3, s1, s2, B1, B2, B3⟩ := ef_box 4 a b c h t (str tx) (g1, g2) w w1 w2 w3 q q1 q2 hq hq1 hq2 hw1 hw2 hw3
  have hM2 := hM.bel hb2
  have hM3 := hM.bel hb3
  obtain ⟨gg, hgv, _, _⟩ := hM.g
  subst hgv
  obtain ⟨gg2, hgv, u0, u1⟩ := hM2.g
  injection hgv with hgv
  injection hgv with hgv
  injection hgv with hgv
  subst hgv
  have c0 := hM2.c0
  have c1 := hM2.c1
  have ck1 : w2.cell? ⟨gk, 2, none⟩ = some (.slice (some ⟨gg, 0, none⟩) m m) := Blk.cell hM2.ck 2
  have hbz : Below w2.heap.size w2 (w2.alloc (.cells #[.int .i64 0, .int .i64 0] 124)) := (Below.refl _ _).alloc (Nat.le_refl _) _
  have n0 := (hbz.cell (World.block_lt_of_cell? w2 _ c0)).trans c0
  have n1 := (hbz.cell (World.block_lt_of_cell? w2 _ c1)).trans c1
  have n2 := (hbz.cell (World.block_lt_of_cell? w2 _ ck1)).trans ck1
  have n3 := (hbz.cell (World.block_lt_of_cell? w2 _ u0)).trans u0
  have n4 := (hbz.cell (World.block_lt_of_cell? w2 _ u1)).trans u1
  clear hbz
  have hfm := hM.fm.1
  have hmm := hM.fm.2
  have HS : Hid (∀ V, Below w3.heap.size w3 V → (V.cell? ⟨gw, 0, none⟩ = some (.pointer (some ⟨gk, 0, none⟩)) ∧ V.cell? ⟨gw, 1, none⟩ = some (.int .i64 (fn : Int))) ∧ (V.cell? ⟨q, 0, none⟩ = some (.bool true) ∧ V.cell? ⟨q, 1, none⟩ = some (.int .i64 h) ∧ V.cell? ⟨q, 2, none⟩ = some (.int .i64 (t : Int))) ∧ (V.cell? ⟨q1, 1, none⟩ = some (.int .i64 a) ∧ V.cell? ⟨q1, 4, none⟩ = some (.string (str tx))) ∧ V.cell? ⟨q2, 0, none⟩ = some (.int .i64 g1) ∧ V.cell? ⟨q2, 1, none⟩ = some (.int .i64 g2)) := Lib.hid fun V hV => by
    have k0 := hM3.bel hV
    have k1 := B1.below hV B1.lt
    have k2 := B2.below hV B2.lt
    have k3 := B3.below hV B3.lt
    exact ⟨⟨k0.c0, k0.c1⟩, ⟨k1.cell 0, k1.cell 1, k1.cell 2⟩, ⟨k2.cell 1, k2.cell 4⟩, k3.cell 0, k3.cell 1⟩
  have HD : Hid (∀ V, Below w3.heap.size w3 V → PrMap V pm (N + 1) ∧ Off (fun k => k = pm) w V) := Lib.hid fun V hV => ⟨(hM3.pr.bel hV).le (by omega), Off.of_new (hb3.trans (hV.mono hb3.size)) _⟩
  have HM3 := Lib.hid (And.intro hM3 (And.intro hb3 htl))
  have HW := Lib.hid (And.intro hw1 (And.intro hq (And.intro hw2 (And.intro s1 (And.intro hw3 s2)))))
  have HQ := Lib.hid hq1
  have HR := Lib.hid hr
  have HAN := Lib.hid (fun V => ask_no (.pointer (some ⟨gk, 0, none⟩)) V)
  have HAY := Lib.hid (fun V => ask_yes (.pointer (some ⟨gk, 0, none⟩)) V)
  have z10 := B2.cell 0
  have z11 := B2.cell 1
  have z12 := B2.cell 2
  have z13 := B2.cell 3
  have z14 := B2.cell 4
  have z01 := B1.cell 1
  have z20 := B3.cell 0
  have z21 := B3.cell 1
  have v0 := hM3.c0
  have v1 := hM3.c1
  clear hM hM2 hM3 hb2 hb3 s1 s2 B1 B2 B3 hw1 hw2 hw3 hq hq1 hq2 hr htl
  by_cases hc0 : ¬ fn = 0
  · have e0 : ((fn : Int) != 0) = true := by rw [bne_iff_ne]; omega
    by_cases hc1 : a < g1
    · have e2 : decide (a < g1) = true := decide_eq_true hc1
      have hz : r = some (0, 1) := by rw [HR.out]; simp [hc0, hc1]
      have HZ := Lib.hid hz
      clear hz hc0 hc1
      go_enter Try.func75, Try.ntmps75
      go_upto_region 1 with fail
      (try rw [HW.out.1])
      (try rw [HW.out.2.1])
      (try rw [HW.out.2.2.1])
      (try rw [HW.out.2.2.2.1])
      (try rw [HQ.out])
      go_region
      go_upto_region 2 with fail
      (try rw [HW.out.2.2.2.2.1])
      (try rw [HW.out.2.2.2.2.2])
      go_wp2_with fail
      go_region_held3 (fun V => (V.cell? ⟨gw, 0, none⟩ = some (.pointer (some ⟨gk, 0, none⟩)) ∧ V.cell? ⟨gw, 1, none⟩ = some (.int .i64 (fn : Int))) ∧ (V.cell? ⟨q, 0, none⟩ = some (.bool true) ∧ V.cell? ⟨q, 1, none⟩ = some (.int .i64 h) ∧ V.cell? ⟨q, 2, none⟩ = some (.int .i64 (t : Int))) ∧ (V.cell? ⟨q1, 1, none⟩ = some (.int .i64 a) ∧ V.cell? ⟨q1, 4, none⟩ = some (.string (str tx))) ∧ V.cell? ⟨q2, 0, none⟩ = some (.int .i64 g1) ∧ V.cell? ⟨q2, 1, none⟩ = some (.int .i64 g2))
        (first | exact HS.out _ ((Below.refl _ _).drew))
        (first | (go_at_call 39; refine (HAY.out _).mono ?_; rintro e w8 ⟨rfl, rfl⟩))
      go_wp2_with fail
      go_ret2
      exact ⟨by rw [HZ.out] <;> rfl, HD.out _ ((Below.refl _ _).drew)⟩
    · have e2 : decide (a < g1) = false := decide_eq_false hc1
      have hz : r = none := by rw [HR.out]; simp [hc0, hc1]
      have HZ := Lib.hid hz
      clear hz hc0 hc1
      go_enter Try.func75, Try.ntmps75
      go_upto_region 1 with fail
      (try rw [HW.out.1])
      (try rw [HW.out.2.1])
      (try rw [HW.out.2.2.1])
      (try rw [HW.out.2.2.2.1])
      (try rw [HQ.out])
      go_region
      go_upto_region 2 with fail
      (try rw [HW.out.2.2.2.2.1])
      (try rw [HW.out.2.2.2.2.2])
      go_wp2_with fail
      refine wp_region_held_drew (S := (fun V => (V.cell? ⟨gw, 0, none⟩ = some (.pointer (some ⟨gk, 0, none⟩)) ∧ V.cell? ⟨gw, 1, none⟩ = some (.int .i64 (fn : Int))) ∧ (V.cell? ⟨q, 0, none⟩ = some (.bool true) ∧ V.cell? ⟨q, 1, none⟩ = some (.int .i64 h) ∧ V.cell? ⟨q, 2, none⟩ = some (.int .i64 (t : Int))) ∧ (V.cell? ⟨q1, 1, none⟩ = some (.int .i64 a) ∧ V.cell? ⟨q1, 4, none⟩ = some (.string (str tx))) ∧ V.cell? ⟨q2, 0, none⟩ = some (.int .i64 g1) ∧ V.cell? ⟨q2, 1, none⟩ = some (.int .i64 g2))) (by kernel_rfl) (HS.out _ ((Below.refl _ _).drew)) (fun hHeld => ?_)
      refine takeY 0 (some 38) rfl rfl (by kernel_rfl) (by kernel_rfl) (by kernel_rfl) (fun _ _ _ h => h) (by rfl) (v := _) (by (intro _ hSw; (try dsimp only at hSw); go_simp; try with_reducible rfl)) hHeld ?_
      simp only [Act.put, List.setIfInBounds_toArray, List.set_cons_zero, List.set_cons_succ]
      refine takeY 1 (some 39) rfl rfl (by kernel_rfl) (by kernel_rfl) (by kernel_rfl) (fun _ _ _ h => h) (by rfl) (v := _) (by (intro _ hSw; (try dsimp only at hSw); go_simp; try with_reducible rfl)) hHeld ?_
      simp only [Act.put, List.setIfInBounds_toArray, List.set_cons_zero, List.set_cons_succ]
      refine takeY 2 (some 40) rfl rfl (by kernel_rfl) (by kernel_rfl) (by kernel_rfl) (fun _ _ _ h => h) (by rfl) (v := _) (by (intro _ hSw; (try dsimp only at hSw); go_simp; try with_reducible rfl)) hHeld ?_
      simp only [Act.put, List.setIfInBounds_toArray, List.set_cons_zero, List.set_cons_succ]
      refine takeY 3 (some 41) rfl rfl (by kernel_rfl) (by kernel_rfl) (by kernel_rfl) (fun _ _ _ h => h) (by rfl) (v := _) (by (intro _ hSw; (try dsimp only at hSw); go_simp; try with_reducible rfl)) hHeld ?_
      simp only [Act.put, List.setIfInBounds_toArray, List.set_cons_zero, List.set_cons_succ]
      refine takeY 4 (some 42) rfl rfl (by kernel_rfl) (by kernel_rfl) (by kernel_rfl) (fun _ _ _ h => h) (by rfl) (v := _) (by (intro _ hSw; (try dsimp only at hSw); go_simp; try with_reducible rfl)) hHeld ?_
      simp only [Act.put, List.setIfInBounds_toArray, List.set_cons_zero, List.set_cons_succ]
      refine takeY 5 (some 43) rfl rfl (by kernel_rfl) (by kernel_rfl) (by kernel_rfl) (fun _ _ _ h => h) (by rfl) (v := _) (by (intro _ hSw; (try dsimp only at hSw); go_simp; try with_reducible rfl)) hHeld ?_
      simp only [Act.put, List.setIfInBounds_toArray, List.set_cons_zero, List.set_cons_succ]
      refine takeY 6 (some 44) rfl rfl (by kernel_rfl) (by kernel_rfl) (by kernel_rfl) (fun _ _ _ h => h) (by rfl) (v := _) (by (intro _ hSw; (try dsimp only at hSw); go_simp; try with_reducible rfl)) hHeld ?_
      simp only [Act.put, List.setIfInBounds_toArray, List.set_cons_zero, List.set_cons_succ]
      refine takeY 7 (some 45) rfl rfl (by kernel_rfl) (by kernel_rfl) (by kernel_rfl) (fun _ _ _ h => h) (by rfl) (v := _) (by (intro _ hSw; (try dsimp only at hSw); go_simp; try with_reducible rfl)) hHeld ?_
      simp only [Act.put, List.setIfInBounds_toArray, List.set_cons_zero, List.set_cons_succ]
      refine takeY 8 (some 46) rfl rfl (by kernel_rfl) (by kernel_rfl) (by kernel_rfl) (fun _ _ _ h => h) (by rfl) (v := _) (by (intro _ hSw; (try dsimp only at hSw); go_simp; try with_reducible rfl)) hHeld ?_
      simp only [Act.put, List.setIfInBounds_toArray, List.set_cons_zero, List.set_cons_succ]
      refine takeY 9 (some 47) rfl rfl (by kernel_rfl) (by kernel_rfl) (by kernel_rfl) (fun _ _ _ h => h) (by rfl) (v := _) (by (intro _ hSw; (try dsimp only at hSw); go_simp; try with_reducible rfl)) hHeld ?_
      simp only [Act.put, List.setIfInBounds_toArray, List.set_cons_zero, List.set_cons_succ]
      refine takeY 10 (some 48) rfl rfl (by kernel_rfl) (by kernel_rfl) (by kernel_rfl) (fun _ _ _ h => h) (by rfl) (v := _) (by (intro _ hSw; (try dsimp only at hSw); go_simp; try with_reducible rfl)) hHeld ?_
      simp only [Act.put, List.setIfInBounds_toArray, List.set_cons_zero, List.set_cons_succ]
      refine takeY 11 (some 49) rfl rfl (by kernel_rfl) (by kernel_rfl) (by kernel_rfl) (fun _ _ _ h => h) (by rfl) (v := _) (by (intro _ hSw; (try dsimp only at hSw); go_simp; try with_reducible rfl)) hHeld ?_
      simp only [Act.put, List.setIfInBounds_toArray, List.set_cons_zero, List.set_cons_succ]
      refine takeY 12 (some 50) rfl rfl (by kernel_rfl) (by kernel_rfl) (by kernel_rfl) (fun _ _ _ h => h) (by rfl) (v := _) (by (intro _ hSw; (try dsimp only at hSw); go_simp; try with_reducible rfl)) hHeld ?_
      simp only [Act.put, List.setIfInBounds_toArray, List.set_cons_zero, List.set_cons_succ]
      refine takeY 13 (some 51) rfl rfl (by kernel_rfl) (by kernel_rfl) (by kernel_rfl) (fun _ _ _ h => h) (by rfl) (v := _) (by (intro _ hSw; (try dsimp only at hSw); go_simp; try with_reducible rfl)) hHeld ?_
      simp only [Act.put, List.setIfInBounds_toArray, List.set_cons_zero, List.set_cons_succ]
      refine takeY 14 (some 52) rfl rfl (by kernel_rfl) (by kernel_rfl) (by kernel_rfl) (fun _ _ _ h => h) (by rfl) (v := _) (by (intro _ hSw; (try dsimp only at hSw); go_simp; try with_reducible rfl)) hHeld ?_
      simp only [Act.put, List.setIfInBounds_toArray, List.set_cons_zero, List.set_cons_succ]
      refine takeY 15 (some 53) rfl rfl (by kernel_rfl) (by kernel_rfl) (by kernel_rfl) (fun _ _ _ h => h) (by rfl) (v := _) (by (intro _ hSw; (try dsimp only at hSw); go_simp; try with_reducible rfl)) hHeld ?_
      simp only [Act.put, List.setIfInBounds_toArray, List.set_cons_zero, List.set_cons_succ]
      refine wpAnyH_ready (rs := [16]) (by kernel_rfl) (by simp) ?_
      refine AllReadyH.cons rfl (fun K hK => ?_) AllReadyH.nil
      clear hHeld
      go_simp
      (go_at_call 39; refine (HAN.out _).mono ?_; rintro e w8 ⟨rfl, rfl⟩)
      exact ⟨rfl, by rw [HZ.out]; rfl, HD.out _ ((Below.refl _ _).drew)⟩
  · have e0 : ((fn : Int) != 0) = false := by rw [Classical.not_not.1 hc0]; rfl
    have hz : r = none := by rw [HR.out]; simp [hc0]
    have HZ := Lib.hid hz
    clear hz hc0
    go_enter Try.func75, Try.ntmps75
    go_upto_region 1 with fail
    (try rw [HW.out.1])
    (try rw [HW.out.2.1])
    (try rw [HW.out.2.2.1])
    (try rw [HW.out.2.2.2.1])
    (try rw [HQ.out])
    go_region
    go_upto_region 2 with fail
    (try rw [HW.out.2.2.2.2.1])
    (try rw [HW.out.2.2.2.2.2])
    go_wp2_with fail
    refine wp_region_held_drew (S := (fun V => (V.cell? ⟨gw, 0, none⟩ = some (.pointer (some ⟨gk, 0, none⟩)) ∧ V.cell? ⟨gw, 1, none⟩ = some (.int .i64 (fn : Int))) ∧ (V.cell? ⟨q, 0, none⟩ = some (.bool true) ∧ V.cell? ⟨q, 1, none⟩ = some (.int .i64 h) ∧ V.cell? ⟨q, 2, none⟩ = some (.int .i64 (t : Int))) ∧ (V.cell? ⟨q1, 1, none⟩ = some (.int .i64 a) ∧ V.cell? ⟨q1, 4, none⟩ = some (.string (str tx))) ∧ V.cell? ⟨q2, 0, none⟩ = some (.int .i64 g1) ∧ V.cell? ⟨q2, 1, none⟩ = some (.int .i64 g2))) (by kernel_rfl) (HS.out _ ((Below.refl _ _).drew)) (fun hHeld => ?_)
    refine takeY 0 (some 38) rfl rfl (by kernel_rfl) (by kernel_rfl) (by kernel_rfl) (fun _ _ _ h => h) (by rfl) (v := _) (by (intro _ hSw; (try dsimp only at hSw); go_simp; try with_reducible rfl)) hHeld ?_
    simp only [Act.put, List.setIfInBounds_toArray, List.set_cons_zero, List.set_cons_succ]
    refine takeY 1 (some 39) rfl rfl (by kernel_rfl) (by kernel_rfl) (by kernel_rfl) (fun _ _ _ h => h) (by rfl) (v := _) (by (intro _ hSw; (try dsimp only at hSw); go_simp; try with_reducible rfl)) hHeld ?_
    simp only [Act.put, List.setIfInBounds_toArray, List.set_cons_zero, List.set_cons_succ]
    refine takeY 2 (some 40) rfl rfl (by kernel_rfl) (by kernel_rfl) (by kernel_rfl) (fun _ _ _ h => h) (by rfl) (v := _) (by (intro _ hSw; (try dsimp only at hSw); go_simp; try with_reducible rfl)) hHeld ?_
    simp only [Act.put, List.setIfInBounds_toArray, List.set_cons_zero, List.set_cons_succ]
    refine takeY 3 (some 41) rfl rfl (by kernel_rfl) (by kernel_rfl) (by kernel_rfl) (fun _ _ _ h => h) (by rfl) (v := _) (by (intro _ hSw; (try dsimp only at hSw); go_simp; try with_reducible rfl)) hHeld ?_
    simp only [Act.put, List.setIfInBounds_toArray, List.set_cons_zero, List.set_cons_succ]
    refine takeY 4 (some 42) rfl rfl (by kernel_rfl) (by kernel_rfl) (by kernel_rfl) (fun _ _ _ h => h) (by rfl) (v := _) (by (intro _ hSw; (try dsimp only at hSw); go_simp; try with_reducible rfl)) hHeld ?_
    simp only [Act.put, List.setIfInBounds_toArray, List.set_cons_zero, List.set_cons_succ]
    refine takeY 5 (some 43) rfl rfl (by kernel_rfl) (by kernel_rfl) (by kernel_rfl) (fun _ _ _ h => h) (by rfl) (v := _) (by (intro _ hSw; (try dsimp only at hSw); go_simp; try with_reducible rfl)) hHeld ?_
    simp only [Act.put, List.setIfInBounds_toArray, List.set_cons_zero, List.set_cons_succ]
    refine takeY 6 (some 44) rfl rfl (by kernel_rfl) (by kernel_rfl) (by kernel_rfl) (fun _ _ _ h => h) (by rfl) (v := _) (by (intro _ hSw; (try dsimp only at hSw); go_simp; try with_reducible rfl)) hHeld ?_
    simp only [Act.put, List.setIfInBounds_toArray, List.set_cons_zero, List.set_cons_succ]
    refine takeY 7 (some 45) rfl rfl (by kernel_rfl) (by kernel_rfl) (by kernel_rfl) (fun _ _ _ h => h) (by rfl) (v := _) (by (intro _ hSw; (try dsimp only at hSw); go_simp; try with_reducible rfl)) hHeld ?_
    simp only [Act.put, List.setIfInBounds_toArray, List.set_cons_zero, List.set_cons_succ]
    refine takeY 8 (some 46) rfl rfl (by kernel_rfl) (by kernel_rfl) (by kernel_rfl) (fun _ _ _ h => h) (by rfl) (v := _) (by (intro _ hSw; (try dsimp only at hSw); go_simp; try with_reducible rfl)) hHeld ?_
    simp only [Act.put, List.setIfInBounds_toArray, List.set_cons_zero, List.set_cons_succ]
    refine takeY 9 (some 47) rfl rfl (by kernel_rfl) (by kernel_rfl) (by kernel_rfl) (fun _ _ _ h => h) (by rfl) (v := _) (by (intro _ hSw; (try dsimp only at hSw); go_simp; try with_reducible rfl)) hHeld ?_
    simp only [Act.put, List.setIfInBounds_toArray, List.set_cons_zero, List.set_cons_succ]
    refine takeN 10 (some 48) rfl rfl (by kernel_rfl) (by kernel_rfl) (by kernel_rfl) (fun _ _ _ h => h) (by rfl) hHeld ?_
    simp only [Act.put, List.setIfInBounds_toArray, List.set_cons_zero, List.set_cons_succ]
    refine takeN 11 (some 49) rfl rfl (by kernel_rfl) (by kernel_rfl) (by kernel_rfl) (fun _ _ _ h => h) (by rfl) hHeld ?_
    simp only [Act.put, List.setIfInBounds_toArray, List.set_cons_zero, List.set_cons_succ]
    refine takeN 12 (some 50) rfl rfl (by kernel_rfl) (by kernel_rfl) (by kernel_rfl) (fun _ _ _ h => h) (by rfl) hHeld ?_
    simp only [Act.put, List.setIfInBounds_toArray, List.set_cons_zero, List.set_cons_succ]
    refine takeN 13 (some 51) rfl rfl (by kernel_rfl) (by kernel_rfl) (by kernel_rfl) (fun _ _ _ h => h) (by rfl) hHeld ?_
    simp only [Act.put, List.setIfInBounds_toArray, List.set_cons_zero, List.set_cons_succ]
    refine takeN 14 (some 52) rfl rfl (by kernel_rfl) (by kernel_rfl) (by kernel_rfl) (fun _ _ _ h => h) (by rfl) hHeld ?_
    simp only [Act.put, List.setIfInBounds_toArray, List.set_cons_zero, List.set_cons_succ]
    refine takeY 15 (some 53) rfl rfl (by kernel_rfl) (by kernel_rfl) (by kernel_rfl) (fun _ _ _ h => h) (by rfl) (v := _) (by (intro _ hSw; (try dsimp only at hSw); go_simp; try with_reducible rfl)) hHeld ?_
    simp only [Act.put, List.setIfInBounds_toArray, List.set_cons_zero, List.set_cons_succ]
    refine wpAnyH_ready (rs := [16]) (by kernel_rfl) (by simp) ?_
    refine AllReadyH.cons rfl (fun K hK => ?_) AllReadyH.nil
    clear hHeld
    go_simp
    (go_at_call 39; refine (HAN.out _).mono ?_; rintro e w8 ⟨rfl, rfl⟩)
    exact ⟨rfl, by rw [HZ.out]; rfl, HD.out _ ((Below.refl _ _).drew)⟩
end Go.Proofs.Ytimkiifcmegfeaa
/- code: effect (written by cdeff.py). -/
namespace Go.Proofs.Ytimkiifcmegfeaa
open Go.RowKit
set_option linter.unusedVariables false
set_option linter.unusedSimpArgs false
attribute [local go_sem] Oper.semAt_some
set_option maxRecDepth 20000 in
set_option maxHeartbeats 2000000 in
theorem effect_5 (a b c h : Int) (t : Nat) (tx : List UInt8) (gw gk fn m pm N : Nat) (g1 g2 : Int) (cl : Cl) (gv : Value) (w : World) (hM : EfM w gw gk fn m pm N (g1, g2) cl gv) (ha : -4611686018427387904 ≤ a ∧ a ≤ 4611686018427387903) (htl : tx.length ≤ maxLen) (r : Option (Int × Int))
    (hr : r = if decide (fn = 0) = false ∧ a < g2 then some (0, 1) else none) :
    Calls Try.prog 75 #[.pointer (some ⟨gw, 0, none⟩), .agg #[.bool true, .int .i64 h, .int .i64 (t : Int)], .agg #[.int .u8 5, .int .i64 a, .int .i64 b, .int .i64 c, .string (str tx)]] w fun e w' => e = effE r ∧ PrMap w' pm (N + 1) ∧ Off (fun k => k = pm) w w' := by
  obtain ⟨ha1, ha2⟩ := ha
  obtain ⟨q, hq⟩ : ∃ q, w.heap.size = q := ⟨_, rfl⟩
  obtain ⟨q1, hq1⟩ : ∃ q1, q + 1 = q1 := ⟨_, rfl⟩
  obtain ⟨q2, hq2⟩ : ∃ q2, q1 + 1 = q2 := ⟨_, rfl⟩
  obtain ⟨w1, hw1⟩ : ∃ V, w.alloc (.cells #[.bool true, .int .i64 h, .int .i64 (t : Int)] 139) = V := ⟨_, rfl⟩
  obtain ⟨w2, hw2⟩ : ∃ V, w1.alloc (.cells #[.int .u8 5, .int .i64 a, .int .i64 b, .int .i64 c, .string (str tx)] 46) = V := ⟨_, rfl⟩
  obtain ⟨w3, hw3⟩ : ∃ V, (w2.alloc (.cells #[.int .i64 g1, .int .i64 g2] 124)).drew = V := ⟨_, rfl⟩
  obtain ⟨hb2, hb3, s1, s2, B1, B2, B3⟩ := ef_box 5 a b c h t (str tx) (g1, g2) w w1 w2 w3 q q1 q2 hq hq1 hq2 hw1 hw2 hw3
  have hM2 := hM.bel hb2
  have hM3 := hM.bel hb3
  obtain ⟨gg, hgv, _, _⟩ := hM.g
  subst hgv
  obtain ⟨gg2, hgv, u0, u1⟩ := hM2.g
  injection hgv with hgv
  injection hgv with hgv
  injection hgv with hgv
  subst hgv
  have c0 := hM2.c0
  have c1 := hM2.c1
  have ck1 : w2.cell? ⟨gk, 2, none⟩ = some (.slice (some ⟨gg, 0, none⟩) m m) := Blk.cell hM2.ck 2
  have hbz : Below w2.heap.size w2 (w2.alloc (.cells #[.int .i64 0, .int .i64 0] 124)) := (Below.refl _ _).alloc (Nat.le_refl _) _
  have n0 := (hbz.cell (World.block_lt_of_cell? w2 _ c0)).trans c0
  have n1 := (hbz.cell (World.block_lt_of_cell? w2 _ c1)).trans c1
  have n2 := (hbz.cell (World.block_lt_of_cell? w2 _ ck1)).trans ck1
  have n3 := (hbz.cell (World.block_lt_of_cell? w2 _ u0)).trans u0
  have n4 := (hbz.cell (World.block_lt_of_cell? w2 _ u1)).trans u1
  clear hbz
  have hfm := hM.fm.1
  have hmm := hM.fm.2
  have HS : Hid (∀ V, Below w3.heap.size w3 V → (V.cell? ⟨gw, 0, none⟩ = some (.pointer (some ⟨gk, 0, none⟩)) ∧ V.cell? ⟨gw, 1, none⟩ = some (.int .i64 (fn : Int))) ∧ (V.cell? ⟨q, 0, none⟩ = some (.bool true) ∧ V.cell? ⟨q, 1, none⟩ = some (.int .i64 h) ∧ V.cell? ⟨q, 2, none⟩ = some (.int .i64 (t : Int))) ∧ (V.cell? ⟨q1, 1, none⟩ = some (.int .i64 a) ∧ V.cell? ⟨q1, 4, none⟩ = some (.string (str tx))) ∧ V.cell? ⟨q2, 0, none⟩ = some (.int .i64 g1) ∧ V.cell? ⟨q2, 1, none⟩ = some (.int .i64 g2)) := Lib.hid fun V hV => by
    have k0 := hM3.bel hV
    have k1 := B1.below hV B1.lt
    have k2 := B2.below hV B2.lt
    have k3 := B3.below hV B3.lt
    exact ⟨⟨k0.c0, k0.c1⟩, ⟨k1.cell 0, k1.cell 1, k1.cell 2⟩, ⟨k2.cell 1, k2.cell 4⟩, k3.cell 0, k3.cell 1⟩
  have HD : Hid (∀ V, Below w3.heap.size w3 V → PrMap V pm (N + 1) ∧ Off (fun k => k = pm) w V) := Lib.hid fun V hV => ⟨(hM3.pr.bel hV).le (by omega), Off.of_new (hb3.trans (hV.mono hb3.size)) _⟩
  have HM3 := Lib.hid (And.intro hM3 (And.intro hb3 htl))
  have HW := Lib.hid (And.intro hw1 (And.intro hq (And.intro hw2 (And.intro s1 (And.intro hw3 s2)))))
  have HQ := Lib.hid hq1
  have HR := Lib.hid hr
  have HAN := Lib.hid (fun V => ask_no (.pointer (some ⟨gk, 0, none⟩)) V)
  have HAY := Lib.hid (fun V => ask_yes (.pointer (some ⟨gk, 0, none⟩)) V)
  have z10 := B2.cell 0
  have z11 := B2.cell 1
  have z12 := B2.cell 2
  have z13 := B2.cell 3
  have z14 := B2.cell 4
  have z01 := B1.cell 1
  have z20 := B3.cell 0
  have z21 := B3.cell 1
  have v0 := hM3.c0
  have v1 := hM3.c1
  clear hM hM2 hM3 hb2 hb3 s1 s2 B1 B2 B3 hw1 hw2 hw3 hq hq1 hq2 hr htl
  by_cases hc0 : ¬ fn = 0
  · have e0 : ((fn : Int) != 0) = true := by rw [bne_iff_ne]; omega
    by_cases hc1 : a < g2
    · have e2 : decide (a < g2) = true := decide_eq_true hc1
      have hz : r = some (0, 1) := by rw [HR.out]; simp [hc0, hc1]
      have HZ := Lib.hid hz
      clear hz hc0 hc1
      go_enter Try.func75, Try.ntmps75
      go_upto_region 1 with fail
      (try rw [HW.out.1])
      (try rw [HW.out.2.1])
      (try rw [HW.out.2.2.1])
      (try rw [HW.out.2.2.2.1])
      (try rw [HQ.out])
      go_region
      go_upto_region 2 with fail
      (try rw [HW.out.2.2.2.2.1])
      (try rw [HW.out.2.2.2.2.2])
      go_wp2_with fail
      go_region_held3 (fun V => (V.cell? ⟨gw, 0, none⟩ = some (.pointer (some ⟨gk, 0, none⟩)) ∧ V.cell? ⟨gw, 1, none⟩ = some (.int .i64 (fn : Int))) ∧ (V.cell? ⟨q, 0, none⟩ = some (.bool true) ∧ V.cell? ⟨q, 1, none⟩ = some (.int .i64 h) ∧ V.cell? ⟨q, 2, none⟩ = some (.int .i64 (t : Int))) ∧ (V.cell? ⟨q1, 1, none⟩ = some (.int .i64 a) ∧ V.cell? ⟨q1, 4, none⟩ = some (.string (str tx))) ∧ V.cell? ⟨q2, 0, none⟩ = some (.int .i64 g1) ∧ V.cell? ⟨q2, 1, none⟩ = some (.int .i64 g2))
        (first | exact HS.out _ ((Below.refl _ _).drew))
        (first | (go_at_call 39; refine (HAY.out _).mono ?_; rintro e w8 ⟨rfl, rfl⟩))
      go_wp2_with fail
      go_ret2
      exact ⟨by rw [HZ.out] <;> rfl, HD.out _ ((Below.refl _ _).drew)⟩
    · have e2 : decide (a < g2) = false := decide_eq_false hc1
      have hz : r = none := by rw [HR.out]; simp [hc0, hc1]
      have HZ := Lib.hid hz
      clear hz hc0 hc1
      go_enter Try.func75, Try.ntmps75
      go_upto_region 1 with fail
      (try rw [HW.out.1])
      (try rw [HW.out.2.1])
      (try rw [HW.out.2.2.1])
      (try rw [HW.out.2.2.2.1])
      (try rw [HQ.out])
      go_region
      go_upto_region 2 with fail
      (try rw [HW.out.2.2.2.2.1])
      (try rw [HW.out.2.2.2.2.2])
      go_wp2_with fail
      refine wp_region_held_drew (S := (fun V => (V.cell? ⟨gw, 0, none⟩ = some (.pointer (some ⟨gk, 0, none⟩)) ∧ V.cell? ⟨gw, 1, none⟩ = some (.int .i64 (fn : Int))) ∧ (V.cell? ⟨q, 0, none⟩ = some (.bool true) ∧ V.cell? ⟨q, 1, none⟩ = some (.int .i64 h) ∧ V.cell? ⟨q, 2, none⟩ = some (.int .i64 (t : Int))) ∧ (V.cell? ⟨q1, 1, none⟩ = some (.int .i64 a) ∧ V.cell? ⟨q1, 4, none⟩ = some (.string (str tx))) ∧ V.cell? ⟨q2, 0, none⟩ = some (.int .i64 g1) ∧ V.cell? ⟨q2, 1, none⟩ = some (.int .i64 g2))) (by kernel_rfl) (HS.out _ ((Below.refl _ _).drew)) (fun hHeld => ?_)
      refine takeY 0 (some 57) rfl rfl (by kernel_rfl) (by kernel_rfl) (by kernel_rfl) (fun _ _ _ h => h) (by rfl) (v := _) (by (intro _ hSw; (try dsimp only at hSw); go_simp; try with_reducible rfl)) hHeld ?_
      simp only [Act.put, List.setIfInBounds_toArray, List.set_cons_zero, List.set_cons_succ]
      refine takeY 1 (some 58) rfl rfl (by kernel_rfl) (by kernel_rfl) (by kernel_rfl) (fun _ _ _ h => h) (by rfl) (v := _) (by (intro _ hSw; (try dsimp only at hSw); go_simp; try with_reducible rfl)) hHeld ?_
      simp only [Act.put, List.setIfInBounds_toArray, List.set_cons_zero, List.set_cons_succ]
      refine takeY 2 (some 59) rfl rfl (by kernel_rfl) (by kernel_rfl) (by kernel_rfl) (fun _ _ _ h => h) (by rfl) (v := _) (by (intro _ hSw; (try dsimp only at hSw); go_simp; try with_reducible rfl)) hHeld ?_
      simp only [Act.put, List.setIfInBounds_toArray, List.set_cons_zero, List.set_cons_succ]
      refine takeY 3 (some 60) rfl rfl (by kernel_rfl) (by kernel_rfl) (by kernel_rfl) (fun _ _ _ h => h) (by rfl) (v := _) (by (intro _ hSw; (try dsimp only at hSw); go_simp; try with_reducible rfl)) hHeld ?_
      simp only [Act.put, List.setIfInBounds_toArray, List.set_cons_zero, List.set_cons_succ]
      refine takeY 4 (some 61) rfl rfl (by kernel_rfl) (by kernel_rfl) (by kernel_rfl) (fun _ _ _ h => h) (by rfl) (v := _) (by (intro _ hSw; (try dsimp only at hSw); go_simp; try with_reducible rfl)) hHeld ?_
      simp only [Act.put, List.setIfInBounds_toArray, List.set_cons_zero, List.set_cons_succ]
      refine takeY 5 (some 62) rfl rfl (by kernel_rfl) (by kernel_rfl) (by kernel_rfl) (fun _ _ _ h => h) (by rfl) (v := _) (by (intro _ hSw; (try dsimp only at hSw); go_simp; try with_reducible rfl)) hHeld ?_
      simp only [Act.put, List.setIfInBounds_toArray, List.set_cons_zero, List.set_cons_succ]
      refine takeY 6 (some 63) rfl rfl (by kernel_rfl) (by kernel_rfl) (by kernel_rfl) (fun _ _ _ h => h) (by rfl) (v := _) (by (intro _ hSw; (try dsimp only at hSw); go_simp; try with_reducible rfl)) hHeld ?_
      simp only [Act.put, List.setIfInBounds_toArray, List.set_cons_zero, List.set_cons_succ]
      refine takeY 7 (some 64) rfl rfl (by kernel_rfl) (by kernel_rfl) (by kernel_rfl) (fun _ _ _ h => h) (by rfl) (v := _) (by (intro _ hSw; (try dsimp only at hSw); go_simp; try with_reducible rfl)) hHeld ?_
      simp only [Act.put, List.setIfInBounds_toArray, List.set_cons_zero, List.set_cons_succ]
      refine takeY 8 (some 65) rfl rfl (by kernel_rfl) (by kernel_rfl) (by kernel_rfl) (fun _ _ _ h => h) (by rfl) (v := _) (by (intro _ hSw; (try dsimp only at hSw); go_simp; try with_reducible rfl)) hHeld ?_
      simp only [Act.put, List.setIfInBounds_toArray, List.set_cons_zero, List.set_cons_succ]
      refine takeY 9 (some 66) rfl rfl (by kernel_rfl) (by kernel_rfl) (by kernel_rfl) (fun _ _ _ h => h) (by rfl) (v := _) (by (intro _ hSw; (try dsimp only at hSw); go_simp; try with_reducible rfl)) hHeld ?_
      simp only [Act.put, List.setIfInBounds_toArray, List.set_cons_zero, List.set_cons_succ]
      refine takeY 10 (some 67) rfl rfl (by kernel_rfl) (by kernel_rfl) (by kernel_rfl) (fun _ _ _ h => h) (by rfl) (v := _) (by (intro _ hSw; (try dsimp only at hSw); go_simp; try with_reducible rfl)) hHeld ?_
      simp only [Act.put, List.setIfInBounds_toArray, List.set_cons_zero, List.set_cons_succ]
      refine takeY 11 (some 68) rfl rfl (by kernel_rfl) (by kernel_rfl) (by kernel_rfl) (fun _ _ _ h => h) (by rfl) (v := _) (by (intro _ hSw; (try dsimp only at hSw); go_simp; try with_reducible rfl)) hHeld ?_
      simp only [Act.put, List.setIfInBounds_toArray, List.set_cons_zero, List.set_cons_succ]
      refine takeY 12 (some 69) rfl rfl (by kernel_rfl) (by kernel_rfl) (by kernel_rfl) (fun _ _ _ h => h) (by rfl) (v := _) (by (intro _ hSw; (try dsimp only at hSw); go_simp; try with_reducible rfl)) hHeld ?_
      simp only [Act.put, List.setIfInBounds_toArray, List.set_cons_zero, List.set_cons_succ]
      refine takeY 13 (some 70) rfl rfl (by kernel_rfl) (by kernel_rfl) (by kernel_rfl) (fun _ _ _ h => h) (by rfl) (v := _) (by (intro _ hSw; (try dsimp only at hSw); go_simp; try with_reducible rfl)) hHeld ?_
      simp only [Act.put, List.setIfInBounds_toArray, List.set_cons_zero, List.set_cons_succ]
      refine takeY 14 (some 71) rfl rfl (by kernel_rfl) (by kernel_rfl) (by kernel_rfl) (fun _ _ _ h => h) (by rfl) (v := _) (by (intro _ hSw; (try dsimp only at hSw); go_simp; try with_reducible rfl)) hHeld ?_
      simp only [Act.put, List.setIfInBounds_toArray, List.set_cons_zero, List.set_cons_succ]
      refine takeY 15 (some 72) rfl rfl (by kernel_rfl) (by kernel_rfl) (by kernel_rfl) (fun _ _ _ h => h) (by rfl) (v := _) (by (intro _ hSw; (try dsimp only at hSw); go_simp; try with_reducible rfl)) hHeld ?_
      simp only [Act.put, List.setIfInBounds_toArray, List.set_cons_zero, List.set_cons_succ]
      refine wpAnyH_ready (rs := [16]) (by kernel_rfl) (by simp) ?_
      refine AllReadyH.cons rfl (fun K hK => ?_) AllReadyH.nil
      clear hHeld
      go_simp
      (go_at_call 39; refine (HAN.out _).mono ?_; rintro e w8 ⟨rfl, rfl⟩)
      exact ⟨rfl, by rw [HZ.out]; rfl, HD.out _ ((Below.refl _ _).drew)⟩
  · have e0 : ((fn : Int) != 0) = false := by rw [Classical.not_not.1 hc0]; rfl
    have hz : r = none := by rw [HR.out]; simp [hc0]
    have HZ := Lib.hid hz
    clear hz hc0
    go_enter Try.func75, Try.ntmps75
    go_upto_region 1 with fail
    (try rw [HW.out.1])
    (try rw [HW.out.2.1])
    (try rw [HW.out.2.2.1])
    (try rw [HW.out.2.2.2.1])
    (try rw [HQ.out])
    go_region
    go_upto_region 2 with fail
    (try rw [HW.out.2.2.2.2.1])
    (try rw [HW.out.2.2.2.2.2])
    go_wp2_with fail
    refine wp_region_held_drew (S := (fun V => (V.cell? ⟨gw, 0, none⟩ = some (.pointer (some ⟨gk, 0, none⟩)) ∧ V.cell? ⟨gw, 1, none⟩ = some (.int .i64 (fn : Int))) ∧ (V.cell? ⟨q, 0, none⟩ = some (.bool true) ∧ V.cell? ⟨q, 1, none⟩ = some (.int .i64 h) ∧ V.cell? ⟨q, 2, none⟩ = some (.int .i64 (t : Int))) ∧ (V.cell? ⟨q1, 1, none⟩ = some (.int .i64 a) ∧ V.cell? ⟨q1, 4, none⟩ = some (.string (str tx))) ∧ V.cell? ⟨q2, 0, none⟩ = some (.int .i64 g1) ∧ V.cell? ⟨q2, 1, none⟩ = some (.int .i64 g2))) (by kernel_rfl) (HS.out _ ((Below.refl _ _).drew)) (fun hHeld => ?_)
    refine takeY 0 (some 57) rfl rfl (by kernel_rfl) (by kernel_rfl) (by kernel_rfl) (fun _ _ _ h => h) (by rfl) (v := _) (by (intro _ hSw; (try dsimp only at hSw); go_simp; try with_reducible rfl)) hHeld ?_
    simp only [Act.put, List.setIfInBounds_toArray, List.set_cons_zero, List.set_cons_succ]
    refine takeY 1 (some 58) rfl rfl (by kernel_rfl) (by kernel_rfl) (by kernel_rfl) (fun _ _ _ h => h) (by rfl) (v := _) (by (intro _ hSw; (try dsimp only at hSw); go_simp; try with_reducible rfl)) hHeld ?_
    simp only [Act.put, List.setIfInBounds_toArray, List.set_cons_zero, List.set_cons_succ]
    refine takeY 2 (some 59) rfl rfl (by kernel_rfl) (by kernel_rfl) (by kernel_rfl) (fun _ _ _ h => h) (by rfl) (v := _) (by (intro _ hSw; (try dsimp only at hSw); go_simp; try with_reducible rfl)) hHeld ?_
    simp only [Act.put, List.setIfInBounds_toArray, List.set_cons_zero, List.set_cons_succ]
    refine takeY 3 (some 60) rfl rfl (by kernel_rfl) (by kernel_rfl) (by kernel_rfl) (fun _ _ _ h => h) (by rfl) (v := _) (by (intro _ hSw; (try dsimp only at hSw); go_simp; try with_reducible rfl)) hHeld ?_
    simp only [Act.put, List.setIfInBounds_toArray, List.set_cons_zero, List.set_cons_succ]
    refine takeY 4 (some 61) rfl rfl (by kernel_rfl) (by kernel_rfl) (by kernel_rfl) (fun _ _ _ h => h) (by rfl) (v := _) (by (intro _ hSw; (try dsimp only at hSw); go_simp; try with_reducible rfl)) hHeld ?_
    simp only [Act.put, List.setIfInBounds_toArray, List.set_cons_zero, List.set_cons_succ]
    refine takeY 5 (some 62) rfl rfl (by kernel_rfl) (by kernel_rfl) (by kernel_rfl) (fun _ _ _ h => h) (by rfl) (v := _) (by (intro _ hSw; (try dsimp only at hSw); go_simp; try with_reducible rfl)) hHeld ?_
    simp only [Act.put, List.setIfInBounds_toArray, List.set_cons_zero, List.set_cons_succ]
    refine takeY 6 (some 63) rfl rfl (by kernel_rfl) (by kernel_rfl) (by kernel_rfl) (fun _ _ _ h => h) (by rfl) (v := _) (by (intro _ hSw; (try dsimp only at hSw); go_simp; try with_reducible rfl)) hHeld ?_
    simp only [Act.put, List.setIfInBounds_toArray, List.set_cons_zero, List.set_cons_succ]
    refine takeY 7 (some 64) rfl rfl (by kernel_rfl) (by kernel_rfl) (by kernel_rfl) (fun _ _ _ h => h) (by rfl) (v := _) (by (intro _ hSw; (try dsimp only at hSw); go_simp; try with_reducible rfl)) hHeld ?_
    simp only [Act.put, List.setIfInBounds_toArray, List.set_cons_zero, List.set_cons_succ]
    refine takeY 8 (some 65) rfl rfl (by kernel_rfl) (by kernel_rfl) (by kernel_rfl) (fun _ _ _ h => h) (by rfl) (v := _) (by (intro _ hSw; (try dsimp only at hSw); go_simp; try with_reducible rfl)) hHeld ?_
    simp only [Act.put, List.setIfInBounds_toArray, List.set_cons_zero, List.set_cons_succ]
    refine takeY 9 (some 66) rfl rfl (by kernel_rfl) (by kernel_rfl) (by kernel_rfl) (fun _ _ _ h => h) (by rfl) (v := _) (by (intro _ hSw; (try dsimp only at hSw); go_simp; try with_reducible rfl)) hHeld ?_
    simp only [Act.put, List.setIfInBounds_toArray, List.set_cons_zero, List.set_cons_succ]
    refine takeN 10 (some 67) rfl rfl (by kernel_rfl) (by kernel_rfl) (by kernel_rfl) (fun _ _ _ h => h) (by rfl) hHeld ?_
    simp only [Act.put, List.setIfInBounds_toArray, List.set_cons_zero, List.set_cons_succ]
    refine takeN 11 (some 68) rfl rfl (by kernel_rfl) (by kernel_rfl) (by kernel_rfl) (fun _ _ _ h => h) (by rfl) hHeld ?_
    simp only [Act.put, List.setIfInBounds_toArray, List.set_cons_zero, List.set_cons_succ]
    refine takeN 12 (some 69) rfl rfl (by kernel_rfl) (by kernel_rfl) (by kernel_rfl) (fun _ _ _ h => h) (by rfl) hHeld ?_
    simp only [Act.put, List.setIfInBounds_toArray, List.set_cons_zero, List.set_cons_succ]
    refine takeN 13 (some 70) rfl rfl (by kernel_rfl) (by kernel_rfl) (by kernel_rfl) (fun _ _ _ h => h) (by rfl) hHeld ?_
    simp only [Act.put, List.setIfInBounds_toArray, List.set_cons_zero, List.set_cons_succ]
    refine takeN 14 (some 71) rfl rfl (by kernel_rfl) (by kernel_rfl) (by kernel_rfl) (fun _ _ _ h => h) (by rfl) hHeld ?_
    simp only [Act.put, List.setIfInBounds_toArray, List.set_cons_zero, List.set_cons_succ]
    refine takeY 15 (some 72) rfl rfl (by kernel_rfl) (by kernel_rfl) (by kernel_rfl) (fun _ _ _ h => h) (by rfl) (v := _) (by (intro _ hSw; (try dsimp only at hSw); go_simp; try with_reducible rfl)) hHeld ?_
    simp only [Act.put, List.setIfInBounds_toArray, List.set_cons_zero, List.set_cons_succ]
    refine wpAnyH_ready (rs := [16]) (by kernel_rfl) (by simp) ?_
    refine AllReadyH.cons rfl (fun K hK => ?_) AllReadyH.nil
    clear hHeld
    go_simp
    (go_at_call 39; refine (HAN.out _).mono ?_; rintro e w8 ⟨rfl, rfl⟩)
    exact ⟨rfl, by rw [HZ.out]; rfl, HD.out _ ((Below.refl _ _).drew)⟩
end Go.Proofs.Ytimkiifcmegfeaa
/- code: effect (written by cdeff.py). -/
namespace Go.Proofs.Ytimkiifcmegfeaa
open Go.RowKit
set_option linter.unusedVariables false
set_option linter.unusedSimpArgs false
attribute [local go_sem] Oper.semAt_some
set_option maxRecDepth 20000 in
set_option maxHeartbeats 2000000 in
theorem effect_24 (a b c h : Int) (t : Nat) (tx : List UInt8) (gw gk fn m pm N : Nat) (g1 g2 : Int) (cl : Cl) (gv : Value) (w : World) (hM : EfM w gw gk fn m pm N (g1, g2) cl gv) (ha : -4611686018427387904 ≤ a ∧ a ≤ 4611686018427387903) (htl : tx.length ≤ maxLen) (r : Option (Int × Int))
    (hr : r = if decide (fn = 0) = true then some (1, 1) else none) :
    Calls Try.prog 75 #[.pointer (some ⟨gw, 0, none⟩), .agg #[.bool true, .int .i64 h, .int .i64 (t : Int)], .agg #[.int .u8 24, .int .i64 a, .int .i64 b, .int .i64 c, .string (str tx)]] w fun e w' => e = effE r ∧ PrMap w' pm (N + 1) ∧ Off (fun k => k = pm) w w' := by
  obtain ⟨ha1, ha2⟩ := ha
  obtain ⟨q, hq⟩ : ∃ q, w.heap.size = q := ⟨_, rfl⟩
  obtain ⟨q1, hq1⟩ : ∃ q1, q + 1 = q1 := ⟨_, rfl⟩
  obtain ⟨q2, hq2⟩ : ∃ q2, q1 + 1 = q2 := ⟨_, rfl⟩
  obtain ⟨w1, hw1⟩ : ∃ V, w.alloc (.cells #[.bool true, .int .i64 h, .int .i64 (t : Int)] 139) = V := ⟨_, rfl⟩
  obtain ⟨w2, hw2⟩ : ∃ V, w1.alloc (.cells #[.int .u8 24, .int .i64 a, .int .i64 b, .int .i64 c, .string (str tx)] 46) = V := ⟨_, rfl⟩
  obtain ⟨w3, hw3⟩ : ∃ V, (w2.alloc (.cells #[.int .i64 g1, .int .i64 g2] 124)).drew = V := ⟨_, rfl⟩
  obtain ⟨hb2, hb3, s1, s2, B1, B2, B3⟩ := ef_box 24 a b c h t (str tx) (g1, g2) w w1 w2 w3 q q1 q2 hq hq1 hq2 hw1 hw2 hw3
  have hM2 := hM.bel hb2
  have hM3 := hM.bel hb3
  obtain ⟨gg, hgv, _, _⟩ := hM.g
  subst hgv
  obtain ⟨gg2, hgv, u0, u1⟩ := hM2.g
  injection hgv with hgv
  injection hgv with hgv
  injection hgv with hgv
  subst hgv
  have c0 := hM2.c0
  have c1 := hM2.c1
  have ck1 : w2.cell? ⟨gk, 2, none⟩ = some (.slice (some ⟨gg, 0, none⟩) m m) := Blk.cell hM2.ck 2
  have hbz : Below w2.heap.size w2 (w2.alloc (.cells #[.int .i64 0, .int .i64 0] 124)) := (Below.refl _ _).alloc (Nat.le_refl _) _
  have n0 := (hbz.cell (World.block_lt_of_cell? w2 _ c0)).trans c0
  have n1 := (hbz.cell (World.block_lt_of_cell? w2 _ c1)).trans c1
  have n2 := (hbz.cell (World.block_lt_of_cell? w2 _ ck1)).trans ck1
  have n3 := (hbz.cell (World.block_lt_of_cell? w2 _ u0)).trans u0
  have n4 := (hbz.cell (World.block_lt_of_cell? w2 _ u1)).trans u1
  clear hbz
  have hfm := hM.fm.1
  have hmm := hM.fm.2
  have HS : Hid (∀ V, Below w3.heap.size w3 V → (V.cell? ⟨gw, 0, none⟩ = some (.pointer (some ⟨gk, 0, none⟩)) ∧ V.cell? ⟨gw, 1, none⟩ = some (.int .i64 (fn : Int))) ∧ (V.cell? ⟨q, 0, none⟩ = some (.bool true) ∧ V.cell? ⟨q, 1, none⟩ = some (.int .i64 h) ∧ V.cell? ⟨q, 2, none⟩ = some (.int .i64 (t : Int))) ∧ (V.cell? ⟨q1, 1, none⟩ = some (.int .i64 a) ∧ V.cell? ⟨q1, 4, none⟩ = some (.string (str tx))) ∧ V.cell? ⟨q2, 0, none⟩ = some (.int .i64 g1) ∧ V.cell? ⟨q2, 1, none⟩ = some (.int .i64 g2)) := Lib.hid fun V hV => by
    have k0 := hM3.bel hV
    have k1 := B1.below hV B1.lt
    have k2 := B2.below hV B2.lt
    have k3 := B3.below hV B3.lt
    exact ⟨⟨k0.c0, k0.c1⟩, ⟨k1.cell 0, k1.cell 1, k1.cell 2⟩, ⟨k2.cell 1, k2.cell 4⟩, k3.cell 0, k3.cell 1⟩
  have HD : Hid (∀ V, Below w3.heap.size w3 V → PrMap V pm (N + 1) ∧ Off (fun k => k = pm) w V) := Lib.hid fun V hV => ⟨(hM3.pr.bel hV).le (by omega), Off.of_new (hb3.trans (hV.mono hb3.size)) _⟩
  have HM3 := Lib.hid (And.intro hM3 (And.intro hb3 htl))
  have HW := Lib.hid (And.intro hw1 (And.intro hq (And.intro hw2 (And.intro s1 (And.intro hw3 s2)))))
  have HQ := Lib.hid hq1
  have HR := Lib.hid hr
  have HAN := Lib.hid (fun V => ask_no (.pointer (some ⟨gk, 0, none⟩)) V)
  have HAY := Lib.hid (fun V => ask_yes (.pointer (some ⟨gk, 0, none⟩)) V)
  have z10 := B2.cell 0
  have z11 := B2.cell 1
  have z12 := B2.cell 2
  have z13 := B2.cell 3
  have z14 := B2.cell 4
  have z01 := B1.cell 1
  have z20 := B3.cell 0
  have z21 := B3.cell 1
  have v0 := hM3.c0
  have v1 := hM3.c1
  clear hM hM2 hM3 hb2 hb3 s1 s2 B1 B2 B3 hw1 hw2 hw3 hq hq1 hq2 hr htl
  by_cases hc0 : fn = 0
  · have E0 : Hid (((fn : Int) == 0) = true) := Lib.hid (by rw [hc0]; rfl)
    have hz : r = some (1, 1) := by rw [HR.out]; simp [hc0]
    have HZ := Lib.hid hz
    clear hz hc0
    go_enter Try.func75, Try.ntmps75
    go_upto_region 1 with fail
    (try rw [HW.out.1])
    (try rw [HW.out.2.1])
    (try rw [HW.out.2.2.1])
    (try rw [HW.out.2.2.2.1])
    (try rw [HQ.out])
    go_region
    go_upto_region 2 with fail
    (try rw [HW.out.2.2.2.2.1])
    (try rw [HW.out.2.2.2.2.2])
    have e0 := E0.out
    go_wp2_with fail
    go_region_held3 (fun V => (V.cell? ⟨gw, 0, none⟩ = some (.pointer (some ⟨gk, 0, none⟩)) ∧ V.cell? ⟨gw, 1, none⟩ = some (.int .i64 (fn : Int))) ∧ (V.cell? ⟨q, 0, none⟩ = some (.bool true) ∧ V.cell? ⟨q, 1, none⟩ = some (.int .i64 h) ∧ V.cell? ⟨q, 2, none⟩ = some (.int .i64 (t : Int))) ∧ (V.cell? ⟨q1, 1, none⟩ = some (.int .i64 a) ∧ V.cell? ⟨q1, 4, none⟩ = some (.string (str tx))) ∧ V.cell? ⟨q2, 0, none⟩ = some (.int .i64 g1) ∧ V.cell? ⟨q2, 1, none⟩ = some (.int .i64 g2))
      (first | exact HS.out _ ((Below.refl _ _).drew))
      (first | (go_at_call 39; refine (HAY.out _).mono ?_; rintro e w8 ⟨rfl, rfl⟩))
    go_wp2_with fail
    go_ret2
    exact ⟨by rw [HZ.out] <;> rfl, HD.out _ ((Below.refl _ _).drew)⟩
  · have E0 : Hid (((fn : Int) == 0) = false) := Lib.hid (by rw [beq_eq_false_iff_ne]; omega)
    have hz : r = none := by rw [HR.out]; simp [hc0]
    have HZ := Lib.hid hz
    clear hz hc0
    go_enter Try.func75, Try.ntmps75
    go_upto_region 1 with fail
    (try rw [HW.out.1])
    (try rw [HW.out.2.1])
    (try rw [HW.out.2.2.1])
    (try rw [HW.out.2.2.2.1])
    (try rw [HQ.out])
    go_region
    go_upto_region 2 with fail
    (try rw [HW.out.2.2.2.2.1])
    (try rw [HW.out.2.2.2.2.2])
    have e0 := E0.out
    go_wp2_with fail
    refine wp_region_held_drew (S := (fun V => (V.cell? ⟨gw, 0, none⟩ = some (.pointer (some ⟨gk, 0, none⟩)) ∧ V.cell? ⟨gw, 1, none⟩ = some (.int .i64 (fn : Int))) ∧ (V.cell? ⟨q, 0, none⟩ = some (.bool true) ∧ V.cell? ⟨q, 1, none⟩ = some (.int .i64 h) ∧ V.cell? ⟨q, 2, none⟩ = some (.int .i64 (t : Int))) ∧ (V.cell? ⟨q1, 1, none⟩ = some (.int .i64 a) ∧ V.cell? ⟨q1, 4, none⟩ = some (.string (str tx))) ∧ V.cell? ⟨q2, 0, none⟩ = some (.int .i64 g1) ∧ V.cell? ⟨q2, 1, none⟩ = some (.int .i64 g2))) (by kernel_rfl) (HS.out _ ((Below.refl _ _).drew)) (fun hHeld => ?_)
    refine takeY 0 (some 114) rfl rfl (by kernel_rfl) (by kernel_rfl) (by kernel_rfl) (fun _ _ _ h => h) (by rfl) (v := _) (by (intro _ hSw; (try dsimp only at hSw); go_simp; try with_reducible rfl)) hHeld ?_
    simp only [Act.put, List.setIfInBounds_toArray, List.set_cons_zero, List.set_cons_succ]
    refine takeY 1 (some 115) rfl rfl (by kernel_rfl) (by kernel_rfl) (by kernel_rfl) (fun _ _ _ h => h) (by rfl) (v := _) (by (intro _ hSw; (try dsimp only at hSw); go_simp; try with_reducible rfl)) hHeld ?_
    simp only [Act.put, List.setIfInBounds_toArray, List.set_cons_zero, List.set_cons_succ]
    refine takeY 2 (some 116) rfl rfl (by kernel_rfl) (by kernel_rfl) (by kernel_rfl) (fun _ _ _ h => h) (by rfl) (v := _) (by (intro _ hSw; (try dsimp only at hSw); go_simp; try with_reducible rfl)) hHeld ?_
    simp only [Act.put, List.setIfInBounds_toArray, List.set_cons_zero, List.set_cons_succ]
    refine takeY 3 (some 117) rfl rfl (by kernel_rfl) (by kernel_rfl) (by kernel_rfl) (fun _ _ _ h => h) (by rfl) (v := _) (by (intro _ hSw; (try dsimp only at hSw); go_simp; try with_reducible rfl)) hHeld ?_
    simp only [Act.put, List.setIfInBounds_toArray, List.set_cons_zero, List.set_cons_succ]
    refine takeY 4 (some 118) rfl rfl (by kernel_rfl) (by kernel_rfl) (by kernel_rfl) (fun _ _ _ h => h) (by rfl) (v := _) (by (intro _ hSw; (try dsimp only at hSw); go_simp; try with_reducible rfl)) hHeld ?_
    simp only [Act.put, List.setIfInBounds_toArray, List.set_cons_zero, List.set_cons_succ]
    refine takeY 5 (some 119) rfl rfl (by kernel_rfl) (by kernel_rfl) (by kernel_rfl) (fun _ _ _ h => h) (by rfl) (v := _) (by (intro _ hSw; (try dsimp only at hSw); go_simp; try with_reducible rfl)) hHeld ?_
    simp only [Act.put, List.setIfInBounds_toArray, List.set_cons_zero, List.set_cons_succ]
    refine takeY 6 (some 120) rfl rfl (by kernel_rfl) (by kernel_rfl) (by kernel_rfl) (fun _ _ _ h => h) (by rfl) (v := _) (by (intro _ hSw; (try dsimp only at hSw); go_simp; try with_reducible rfl)) hHeld ?_
    simp only [Act.put, List.setIfInBounds_toArray, List.set_cons_zero, List.set_cons_succ]
    refine takeY 7 (some 121) rfl rfl (by kernel_rfl) (by kernel_rfl) (by kernel_rfl) (fun _ _ _ h => h) (by rfl) (v := _) (by (intro _ hSw; (try dsimp only at hSw); go_simp; try with_reducible rfl)) hHeld ?_
    simp only [Act.put, List.setIfInBounds_toArray, List.set_cons_zero, List.set_cons_succ]
    refine takeY 8 (some 122) rfl rfl (by kernel_rfl) (by kernel_rfl) (by kernel_rfl) (fun _ _ _ h => h) (by rfl) (v := _) (by (intro _ hSw; (try dsimp only at hSw); go_simp; try with_reducible rfl)) hHeld ?_
    simp only [Act.put, List.setIfInBounds_toArray, List.set_cons_zero, List.set_cons_succ]
    refine wpAnyH_ready (rs := [9]) (by kernel_rfl) (by simp) ?_
    refine AllReadyH.cons rfl (fun K hK => ?_) AllReadyH.nil
    clear hHeld
    go_simp
    (go_at_call 39; refine (HAN.out _).mono ?_; rintro e w8 ⟨rfl, rfl⟩)
    exact ⟨rfl, by rw [HZ.out]; rfl, HD.out _ ((Below.refl _ _).drew)⟩
end Go.Proofs.Ytimkiifcmegfeaa
/- code: effect (written by cdeff.py). -/
namespace Go.Proofs.Ytimkiifcmegfeaa
open Go.RowKit
set_option linter.unusedVariables false
set_option linter.unusedSimpArgs false
attribute [local go_sem] Oper.semAt_some
set_option maxRecDepth 20000 in
set_option maxHeartbeats 2000000 in
theorem effect_16 (a b c h : Int) (t : Nat) (tx : List UInt8) (gw gk fn m pm N : Nat) (g1 g2 : Int) (cl : Cl) (gv : Value) (w : World) (hM : EfM w gw gk fn m pm N (g1, g2) cl gv) (ha : -4611686018427387904 ≤ a ∧ a ≤ 4611686018427387903) (htl : tx.length ≤ maxLen) (r : Option (Int × Int))
    (hr : r = some ((takesN tx : Int), 1)) :
    Calls Try.prog 75 #[.pointer (some ⟨gw, 0, none⟩), .agg #[.bool true, .int .i64 h, .int .i64 (t : Int)], .agg #[.int .u8 16, .int .i64 a, .int .i64 b, .int .i64 c, .string (str tx)]] w fun e w' => e = effE r ∧ PrMap w' pm (N + 1) ∧ Off (fun k => k = pm) w w' := by
  obtain ⟨ha1, ha2⟩ := ha
  obtain ⟨q, hq⟩ : ∃ q, w.heap.size = q := ⟨_, rfl⟩
  obtain ⟨q1, hq1⟩ : ∃ q1, q + 1 = q1 := ⟨_, rfl⟩
  obtain ⟨q2, hq2⟩ : ∃ q2, q1 + 1 = q2 := ⟨_, rfl⟩
  obtain ⟨w1, hw1⟩ : ∃ V, w.alloc (.cells #[.bool true, .int .i64 h, .int .i64 (t : Int)] 139) = V := ⟨_, rfl⟩
  obtain ⟨w2, hw2⟩ : ∃ V, w1.alloc (.cells #[.int .u8 16, .int .i64 a, .int .i64 b, .int .i64 c, .string (str tx)] 46) = V := ⟨_, rfl⟩
  obtain ⟨w3, hw3⟩ : ∃ V, (w2.alloc (.cells #[.int .i64 g1, .int .i64 g2] 124)).drew = V := ⟨_, rfl⟩
  obtain ⟨hb2, hb3, s1, s2, B1, B2, B3⟩ := ef_box 16 a b c h t (str tx) (g1, g2) w w1 w2 w3 q q1 q2 hq hq1 hq2 hw1 hw2 hw3
  have hM2 := hM.bel hb2
  have hM3 := hM.bel hb3
  obtain ⟨gg, hgv, _, _⟩ := hM.g
  subst hgv
  obtain ⟨gg2, hgv, u0, u1⟩ := hM2.g
  injection hgv with hgv
  injection hgv with hgv
  injection hgv with hgv
  subst hgv
  have c0 := hM2.c0
  have c1 := hM2.c1
  have ck1 : w2.cell? ⟨gk, 2, none⟩ = some (.slice (some ⟨gg, 0, none⟩) m m) := Blk.cell hM2.ck 2
  have hbz : Below w2.heap.size w2 (w2.alloc (.cells #[.int .i64 0, .int .i64 0] 124)) := (Below.refl _ _).alloc (Nat.le_refl _) _
  have n0 := (hbz.cell (World.block_lt_of_cell? w2 _ c0)).trans c0
  have n1 := (hbz.cell (World.block_lt_of_cell? w2 _ c1)).trans c1
  have n2 := (hbz.cell (World.block_lt_of_cell? w2 _ ck1)).trans ck1
  have n3 := (hbz.cell (World.block_lt_of_cell? w2 _ u0)).trans u0
  have n4 := (hbz.cell (World.block_lt_of_cell? w2 _ u1)).trans u1
  clear hbz
  have hfm := hM.fm.1
  have hmm := hM.fm.2
  have HS : Hid (∀ V, Below w3.heap.size w3 V → (V.cell? ⟨gw, 0, none⟩ = some (.pointer (some ⟨gk, 0, none⟩)) ∧ V.cell? ⟨gw, 1, none⟩ = some (.int .i64 (fn : Int))) ∧ (V.cell? ⟨q, 0, none⟩ = some (.bool true) ∧ V.cell? ⟨q, 1, none⟩ = some (.int .i64 h) ∧ V.cell? ⟨q, 2, none⟩ = some (.int .i64 (t : Int))) ∧ (V.cell? ⟨q1, 1, none⟩ = some (.int .i64 a) ∧ V.cell? ⟨q1, 4, none⟩ = some (.string (str tx))) ∧ V.cell? ⟨q2, 0, none⟩ = some (.int .i64 g1) ∧ V.cell? ⟨q2, 1, none⟩ = some (.int .i64 g2)) := Lib.hid fun V hV => by
    have k0 := hM3.bel hV
    have k1 := B1.below hV B1.lt
    have k2 := B2.below hV B2.lt
    have k3 := B3.below hV B3.lt
    exact ⟨⟨k0.c0, k0.c1⟩, ⟨k1.cell 0, k1.cell 1, k1.cell 2⟩, ⟨k2.cell 1, k2.cell 4⟩, k3.cell 0, k3.cell 1⟩
  have HD : Hid (∀ V, Below w3.heap.size w3 V → PrMap V pm (N + 1) ∧ Off (fun k => k = pm) w V) := Lib.hid fun V hV => ⟨(hM3.pr.bel hV).le (by omega), Off.of_new (hb3.trans (hV.mono hb3.size)) _⟩
  have HM3 := Lib.hid (And.intro hM3 (And.intro hb3 htl))
  have HW := Lib.hid (And.intro hw1 (And.intro hq (And.intro hw2 (And.intro s1 (And.intro hw3 s2)))))
  have HQ := Lib.hid hq1
  have HR := Lib.hid hr
  have HAN := Lib.hid (fun V => ask_no (.pointer (some ⟨gk, 0, none⟩)) V)
  have HAY := Lib.hid (fun V => ask_yes (.pointer (some ⟨gk, 0, none⟩)) V)
  have z10 := B2.cell 0
  have z11 := B2.cell 1
  have z12 := B2.cell 2
  have z13 := B2.cell 3
  have z14 := B2.cell 4
  have z01 := B1.cell 1
  have z20 := B3.cell 0
  have z21 := B3.cell 1
  have v0 := hM3.c0
  have v1 := hM3.c1
  clear hM hM2 hM3 hb2 hb3 s1 s2 B1 B2 B3 hw1 hw2 hw3 hq hq1 hq2 hr htl
  have HCT := Lib.hid (ctakes_any tx HM3.out.2.2 gk pm N cl _ w3.drew (Blk.below HM3.out.1.ck ((Below.refl _ _).drew) (Blk.lt HM3.out.1.ck)) (HM3.out.1.pr.bel ((Below.refl _ _).drew)) HM3.out.1.N)
  go_enter Try.func75, Try.ntmps75
  go_upto_region 1 with fail
  (try rw [HW.out.1])
  (try rw [HW.out.2.1])
  (try rw [HW.out.2.2.1])
  (try rw [HW.out.2.2.2.1])
  (try rw [HQ.out])
  go_region
  go_upto_region 2 with fail
  (try rw [HW.out.2.2.2.2.1])
  (try rw [HW.out.2.2.2.2.2])
  go_wp2_with fail
  refine wp_region_held_drew (S := (fun V => True)) (by kernel_rfl) trivial (fun hHeld0 => ?_)
  refine takeY 0 (some 100) rfl rfl (by kernel_rfl) (by kernel_rfl) (by kernel_rfl) (fun _ _ _ h => h) (by rfl) (v := _) (by (intro _ hSw; (try dsimp only at hSw); go_simp; try with_reducible rfl)) hHeld0 ?_
  simp only [Act.put, List.setIfInBounds_toArray, List.set_cons_zero, List.set_cons_succ]
  refine takeY 1 (some 101) rfl rfl (by kernel_rfl) (by kernel_rfl) (by kernel_rfl) (fun _ _ _ h => h) (by rfl) (v := _) (by (intro _ hSw; (try dsimp only at hSw); go_simp; try with_reducible rfl)) hHeld0 ?_
  simp only [Act.put, List.setIfInBounds_toArray, List.set_cons_zero, List.set_cons_succ]
  refine takeY 2 (some 102) rfl rfl (by kernel_rfl) (by kernel_rfl) (by kernel_rfl) (fun _ _ _ h => h) (by rfl) (v := _) (by (intro _ hSw; (try dsimp only at hSw); go_simp; try with_reducible rfl)) hHeld0 ?_
  simp only [Act.put, List.setIfInBounds_toArray, List.set_cons_zero, List.set_cons_succ]
  refine takeY 4 (some 104) rfl rfl (by kernel_rfl) (by kernel_rfl) (by kernel_rfl) (fun _ _ _ h => h) (by rfl) (v := _) (by (intro _ hSw; (try dsimp only at hSw); go_simp; try with_reducible rfl)) hHeld0 ?_
  simp only [Act.put, List.setIfInBounds_toArray, List.set_cons_zero, List.set_cons_succ]
  refine wpAnyH_ready (rs := [3, 5]) (by kernel_rfl) (by simp) ?_
  refine AllReadyH.cons rfl (fun K hK => ?_) ?_
  · go_simp
    refine hK.out _ _ trivial (fun hHeld1 => ?_)
    clear hK K hHeld0
    (try simp only [Act.put, List.setIfInBounds_toArray, List.set_cons_zero, List.set_cons_succ])
    refine wpAnyH_ready (rs := [5]) (by kernel_rfl) (by simp) ?_
    refine AllReadyH.cons rfl (fun K hK => ?_) AllReadyH.nil
    go_simp
    refine hK.out _ _ trivial (fun hHeld2 => ?_)
    clear hK K hHeld1
    (try simp only [Act.put, List.setIfInBounds_toArray, List.set_cons_zero, List.set_cons_succ])
    refine wpAnyH_ready (rs := [6]) (by kernel_rfl) (by simp) ?_
    refine AllReadyH.cons rfl (fun K hK => ?_) AllReadyH.nil
    go_simp
    go_wp2_with (first | (go_at_call 63; refine HCT.out.mono ?_; rintro e w8 ⟨rfl, hp8, ho8⟩))
    refine hK.out _ _ trivial (fun hHeld3 => ?_)
    clear hK K hHeld2
    (try simp only [Act.put, List.setIfInBounds_toArray, List.set_cons_zero, List.set_cons_succ])
    refine takeY 7 (some 6) rfl rfl (by kernel_rfl) (by kernel_rfl) (by kernel_rfl) (fun _ _ _ h => h) (by rfl) (v := _) (by (intro _ hSw; (try dsimp only at hSw); go_simp; try with_reducible rfl)) hHeld3 ?_
    simp only [Act.put, List.setIfInBounds_toArray, List.set_cons_zero, List.set_cons_succ]
    refine takeY 8 (some 7) rfl rfl (by kernel_rfl) (by kernel_rfl) (by kernel_rfl) (fun _ _ _ h => h) (by rfl) (v := _) (by (intro _ hSw; (try dsimp only at hSw); go_simp; try with_reducible rfl)) hHeld3 ?_
    simp only [Act.put, List.setIfInBounds_toArray, List.set_cons_zero, List.set_cons_succ]
    refine wpAnyH_done (by kernel_rfl) ?_ _
    have HE : Hid (PrMap w8 pm (N + 1) ∧ Off (fun k => k = pm) w w8) := Lib.hid ⟨hp8, (Off.of_new HM3.out.2.1 _).trans ((Off.drew _ _).trans ho8)⟩
    clear hp8 ho8
    go_wp2_with fail
    go_ret2
    exact ⟨by rw [HR.out] <;> rfl, HE.out⟩
  refine AllReadyH.cons rfl (fun K hK => ?_) AllReadyH.nil
  go_simp
  refine hK.out _ _ trivial (fun hHeld4 => ?_)
  clear hK K hHeld0
  (try simp only [Act.put, List.setIfInBounds_toArray, List.set_cons_zero, List.set_cons_succ])
  refine wpAnyH_ready (rs := [3]) (by kernel_rfl) (by simp) ?_
  refine AllReadyH.cons rfl (fun K hK => ?_) AllReadyH.nil
  go_simp
  refine hK.out _ _ trivial (fun hHeld5 => ?_)
  clear hK K hHeld4
  (try simp only [Act.put, List.setIfInBounds_toArray, List.set_cons_zero, List.set_cons_succ])
  refine wpAnyH_ready (rs := [6]) (by kernel_rfl) (by simp) ?_
  refine AllReadyH.cons rfl (fun K hK => ?_) AllReadyH.nil
  go_simp
  go_wp2_with (first | (go_at_call 63; refine HCT.out.mono ?_; rintro e w8 ⟨rfl, hp8, ho8⟩))
  refine hK.out _ _ trivial (fun hHeld6 => ?_)
  clear hK K hHeld5
  (try simp only [Act.put, List.setIfInBounds_toArray, List.set_cons_zero, List.set_cons_succ])
  refine takeY 7 (some 6) rfl rfl (by kernel_rfl) (by kernel_rfl) (by kernel_rfl) (fun _ _ _ h => h) (by rfl) (v := _) (by (intro _ hSw; (try dsimp only at hSw); go_simp; try with_reducible rfl)) hHeld6 ?_
  simp only [Act.put, List.setIfInBounds_toArray, List.set_cons_zero, List.set_cons_succ]
  refine takeY 8 (some 7) rfl rfl (by kernel_rfl) (by kernel_rfl) (by kernel_rfl) (fun _ _ _ h => h) (by rfl) (v := _) (by (intro _ hSw; (try dsimp only at hSw); go_simp; try with_reducible rfl)) hHeld6 ?_
  simp only [Act.put, List.setIfInBounds_toArray, List.set_cons_zero, List.set_cons_succ]
  refine wpAnyH_done (by kernel_rfl) ?_ _
  have HE : Hid (PrMap w8 pm (N + 1) ∧ Off (fun k => k = pm) w w8) := Lib.hid ⟨hp8, (Off.of_new HM3.out.2.1 _).trans ((Off.drew _ _).trans ho8)⟩
  clear hp8 ho8
  go_wp2_with fail
  go_ret2
  exact ⟨by rw [HR.out] <;> rfl, HE.out⟩
end Go.Proofs.Ytimkiifcmegfeaa
