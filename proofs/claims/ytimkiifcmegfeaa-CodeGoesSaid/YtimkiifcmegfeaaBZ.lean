/- Contracts, part BZ. -/
import Derived.Test.YtimkiifcmegfeaaBX
/- code: step (written by cdstep2.py). -/
namespace Go.Proofs.Ytimkiifcmegfeaa
open Go.RowKit
set_option linter.unusedVariables false
set_option linter.unusedSimpArgs false
attribute [local go_sem] Oper.semAt_some
set_option maxRecDepth 20000 in
set_option maxHeartbeats 4000000 in
theorem step_23 (P : Pl) (vw vr : Value) (W : Wk) (l : Nat) (H : Int) (m pm N : Nat) (g : Int × Int) (cl : Cl) (gv : Value) (p : Nat) (h : Int) (t : Nat) (a : Int) (bn : Nat) (hbn : bn < P.n) (c : Int) (tx : List UInt8) (w : World) (s : StM w P vw vr W l H m pm N g cl gv) (hx : W.at_[p]? = some (some (h, t))) (hH : H + 1000001 ≤ 1000000000000) (hl1 : l + 1 < 900000) (R : Option Wk)
    (hR : R = if decide (P.fn = 0) = true then (W.come (p + 1) h t).bind fun V => V.come bn (h + 1) t else none) :
    Calls Try.prog 65 #[.pointer (some ⟨P.gw, 0, none⟩), .int .i64 (p : Int), .agg #[.int .u8 23, .int .i64 a, .int .i64 (bn : Int), .int .i64 c, .string (str tx)]] w (StepPost P R pm N w) := by
  obtain ⟨hs1, hs2, hs3⟩ := s.b.ok.ht p (h, t) hx
  have hpn : p < P.n := by rw [← s.b.ok.len]; exact (List.getElem?_eq_some_iff.1 hx).1
  have hn := s.b.n
  have hh : 0 ≤ h ∧ h ≤ 1000000000000 := ⟨hs1, by have h1 : h ≤ H := hs2; omega⟩
  have ht : t < W.rows.length := hs3
  have hhH : h ≤ H := hs2
  have hh1 := hh.1
  obtain ⟨q, hq⟩ : ∃ q, w.heap.size = q := ⟨_, rfl⟩
  obtain ⟨q1, hq1⟩ : ∃ q1, q + 1 = q1 := ⟨_, rfl⟩
  obtain ⟨w1, hw1⟩ : ∃ V, w.alloc (.cells #[.int .u8 23, .int .i64 a, .int .i64 (bn : Int), .int .i64 c, .string (str tx)] 46) = V := ⟨_, rfl⟩
  obtain ⟨w2, hw2⟩ : ∃ V, w1.alloc (.cells #[.bool true, .int .i64 h, .int .i64 (t : Int)] 139) = V := ⟨_, rfl⟩
  obtain ⟨hb1, hb2, s1, bx⟩ := st_box 23 a (bn : Int) c h t (str tx) w w1 w2 q q1 hq hq1 hw1 hw2 s.b.wk
  have m1 := s.b.wk.bel hb1
  have d2 := m1.told.2.2.1
  have y0 : w1.cell? ⟨P.ga, p * 3, none⟩ = some (.bool true) := m1.place hx 0 _ rfl
  have y1 : w1.cell? ⟨P.ga, p * 3 + 1, none⟩ = some (.int .i64 h) := m1.place hx 1 _ rfl
  have y2 : w1.cell? ⟨P.ga, p * 3 + 2, none⟩ = some (.int .i64 (t : Int)) := m1.place hx 2 _ rfl
  have S2 := Lib.hid (s.bel hb2)
  obtain ⟨z0, z1, z2, z3, z4, u0, u1, u2⟩ := bx.cells
  have X2 := Lib.hid bx
  have HB2 := Lib.hid (hb2.mono s.b.big)
  have HW := Lib.hid (And.intro hw1 (And.intro hq (And.intro hw2 (And.intro s1 (And.intro hq1 hb2)))))
  have HB := Lib.hid (And.intro hpn (And.intro hh (And.intro ht hn)))
  have HR := Lib.hid hR
  have HS := Lib.hid s
  have HX := Lib.hid hx
  have c0 := S2.out.b.wk.told.1
  have c1 := S2.out.b.wk.told.2.1
  have HAN := Lib.hid (fun V => ask_no (.pointer (some ⟨P.gk, 0, none⟩)) V)
  have HAY := Lib.hid (fun V => ask_yes (.pointer (some ⟨P.gk, 0, none⟩)) V)
  clear hb1 hb2 s1 bx m1 hw1 hw2 hq hq1 hR s hx hs1 hs2 hs3
  go_enter Try.func65, Try.ntmps65
  go_upto_region 1 with fail
  (try rw [HW.out.1])
  (try rw [HW.out.2.1])
  go_upto_region 2 with fail
  (try rw [HW.out.2.2.1])
  (try rw [HW.out.2.2.2.1])
  clear d2 y0 y1 y2
  by_cases hq0 : P.fn = 0
  · have e0 : ((P.fn : Int) == 0) = true := by rw [hq0]; rfl
    go_wp2_with fail
    go_region_held3 (fun V => V.cell? ⟨P.gw, 0, none⟩ = some (.pointer (some ⟨P.gk, 0, none⟩)) ∧ V.cell? ⟨P.gw, 1, none⟩ = some (.int .i64 (P.fn : Int)))
      (first | exact (by have k0 := S2.out.bel ((Below.refl _ _).drew); exact ⟨k0.b.wk.told.1, k0.b.wk.told.2.1⟩))
      (first | (go_at_call 39; refine (HAY.out _).mono ?_; rintro e w8 ⟨rfl, rfl⟩))
    have S2b := Lib.hid (S2.out.bel ((Below.refl _ _).drew))
    have X2b := Lib.hid (X2.out.bel ((Below.refl _ _).drew))
    have HB2b := Lib.hid (HB2.out.drew)
    clear z0 z1 z2 z3 z4 u0 u1 u2 c0 c1
    obtain ⟨z0, z1, z2, z3, z4, u0, u1, u2⟩ := X2b.out.cells
    cases hc0 : W.come (p + 1) h t with
    | none =>
      have HC := Lib.hid ((S2b.out.b).come_no hc0 (by have := HB.out.1; have := HB.out.2.2.2; omega))
      have HZ : Hid (R = none) := Lib.hid (by rw [HR.out]; simp [hq0, hc0])
      go_wp2_with fail
      refine HC.out.mono ?_
      rintro e w9 ⟨rfl, hb9⟩
      exact ⟨rfl, HS.out.post ((HB2b.out).trans hb9) (by rw [HZ.out]; rfl) (fun V hV => by rw [HZ.out] at hV; cases hV)⟩
    | some V0 =>
      have HC := Lib.hid ((S2b.out.b).come_yes hc0 (by have := HB.out.1; have := HB.out.2.2.2; omega))
      go_wp2_with fail
      refine HC.out.mono ?_
      rintro e w3 ⟨rfl, hm0, ho0⟩
      obtain ⟨vw3, hm0, hg0⟩ := hm0
      have hok0 := (((S2b.out.b).ok.le (Nat.le_refl _) (show H ≤ H + 1000001 by omega)).came (p + 1) h t ⟨hh1, by omega⟩ (by exact HB.out.2.2.1) hc0)
      have S3 : Hid (StB w3 P vw3 vr V0 l (H + 1000001)) := Lib.hid ⟨hm0, hok0.1, (S2b.out.b).l, (S2b.out.b).n, (S2b.out.b).fn, ⟨by have := (S2b.out.b).h.1; omega, hH⟩⟩
      have X3 := Lib.hid ((X2b.out).goes_w ho0 hg0)
      have HB3 : Hid (Below P.B w w3) := Lib.hid ((HB2b.out).trans ((S2b.out.b).wk.below ho0))
      have HRW0 := Lib.hid hok0.2
      clear HC hm0 ho0 hg0 hok0 z0 z1 z2 z3 z4 u0 u1 u2
      obtain ⟨z0, z1, z2, z3, z4, u0, u1, u2⟩ := X3.out.cells
      cases hc1 : V0.come bn (h + 1) t with
      | none =>
        have HC := Lib.hid ((S3.out).come_no hc1 (by have := hbn; have := HB.out.2.2.2; omega))
        have HZ : Hid (R = none) := Lib.hid (by rw [HR.out]; simp [hq0, hc0, hc1])
        go_wp2_with fail
        refine HC.out.mono ?_
        rintro e w9 ⟨rfl, hb9⟩
        exact ⟨rfl, HS.out.post ((HB3.out).trans hb9) (by rw [HZ.out]; rfl) (fun V hV => by rw [HZ.out] at hV; cases hV)⟩
      | some V1 =>
        have HC := Lib.hid ((S3.out).come_yes hc1 (by have := hbn; have := HB.out.2.2.2; omega))
        go_wp2_with fail
        refine HC.out.mono ?_
        rintro e w4 ⟨rfl, hm1, ho1⟩
        have HZ : Hid (R = some V1) := Lib.hid (by rw [HR.out]; simp [hq0, hc0, hc1])
        have HE : Hid (StepPost P R pm N w (.returned (.tuple #[])) w4) := Lib.hid (HS.out.post ((HB3.out).trans ((S3.out).wk.below ho1)) (by rw [HZ.out]; rfl) (fun V hV => by rw [HZ.out] at hV; cases hV; obtain ⟨v', k1, _⟩ := hm1; exact ⟨v', _, k1⟩))
        clear HC hm1 ho1
        go_wp2_with fail
        (first | go_end0 | refine bodyPost_ret (results_none rfl _ _ _) rfl ?_)
        exact HE.out
  · have e0 : ((P.fn : Int) == 0) = false := by rw [beq_eq_false_iff_ne]; omega
    have HZ : Hid (R = none) := Lib.hid (by rw [HR.out]; simp [hq0])
    go_wp2_with fail
    refine wp_region_held_drew (S := (fun V => V.cell? ⟨P.gw, 0, none⟩ = some (.pointer (some ⟨P.gk, 0, none⟩)) ∧ V.cell? ⟨P.gw, 1, none⟩ = some (.int .i64 (P.fn : Int)))) (by kernel_rfl) (by have k0 := S2.out.bel ((Below.refl _ _).drew); exact ⟨k0.b.wk.told.1, k0.b.wk.told.2.1⟩) (fun hHeld => ?_)
    refine takeY 0 (some 182) rfl rfl (by kernel_rfl) (by kernel_rfl) (by kernel_rfl) (fun _ _ _ h => h) (by rfl) (v := _) (by (intro _ hSw; (try dsimp only at hSw); go_simp; try with_reducible rfl)) hHeld ?_
    simp only [Act.put, List.setIfInBounds_toArray, List.set_cons_zero, List.set_cons_succ]
    refine takeY 1 (some 183) rfl rfl (by kernel_rfl) (by kernel_rfl) (by kernel_rfl) (fun _ _ _ h => h) (by rfl) (v := _) (by (intro _ hSw; (try dsimp only at hSw); go_simp; try with_reducible rfl)) hHeld ?_
    simp only [Act.put, List.setIfInBounds_toArray, List.set_cons_zero, List.set_cons_succ]
    refine takeY 2 (some 184) rfl rfl (by kernel_rfl) (by kernel_rfl) (by kernel_rfl) (fun _ _ _ h => h) (by rfl) (v := _) (by (intro _ hSw; (try dsimp only at hSw); go_simp; try with_reducible rfl)) hHeld ?_
    simp only [Act.put, List.setIfInBounds_toArray, List.set_cons_zero, List.set_cons_succ]
    refine takeY 3 (some 185) rfl rfl (by kernel_rfl) (by kernel_rfl) (by kernel_rfl) (fun _ _ _ h => h) (by rfl) (v := _) (by (intro _ hSw; (try dsimp only at hSw); go_simp; try with_reducible rfl)) hHeld ?_
    simp only [Act.put, List.setIfInBounds_toArray, List.set_cons_zero, List.set_cons_succ]
    refine takeY 4 (some 186) rfl rfl (by kernel_rfl) (by kernel_rfl) (by kernel_rfl) (fun _ _ _ h => h) (by rfl) (v := _) (by (intro _ hSw; (try dsimp only at hSw); go_simp; try with_reducible rfl)) hHeld ?_
    simp only [Act.put, List.setIfInBounds_toArray, List.set_cons_zero, List.set_cons_succ]
    refine takeY 5 (some 187) rfl rfl (by kernel_rfl) (by kernel_rfl) (by kernel_rfl) (fun _ _ _ h => h) (by rfl) (v := _) (by (intro _ hSw; (try dsimp only at hSw); go_simp; try with_reducible rfl)) hHeld ?_
    simp only [Act.put, List.setIfInBounds_toArray, List.set_cons_zero, List.set_cons_succ]
    refine takeY 6 (some 188) rfl rfl (by kernel_rfl) (by kernel_rfl) (by kernel_rfl) (fun _ _ _ h => h) (by rfl) (v := _) (by (intro _ hSw; (try dsimp only at hSw); go_simp; try with_reducible rfl)) hHeld ?_
    simp only [Act.put, List.setIfInBounds_toArray, List.set_cons_zero, List.set_cons_succ]
    refine takeY 7 (some 189) rfl rfl (by kernel_rfl) (by kernel_rfl) (by kernel_rfl) (fun _ _ _ h => h) (by rfl) (v := _) (by (intro _ hSw; (try dsimp only at hSw); go_simp; try with_reducible rfl)) hHeld ?_
    simp only [Act.put, List.setIfInBounds_toArray, List.set_cons_zero, List.set_cons_succ]
    refine takeY 8 (some 190) rfl rfl (by kernel_rfl) (by kernel_rfl) (by kernel_rfl) (fun _ _ _ h => h) (by rfl) (v := _) (by (intro _ hSw; (try dsimp only at hSw); go_simp; try with_reducible rfl)) hHeld ?_
    simp only [Act.put, List.setIfInBounds_toArray, List.set_cons_zero, List.set_cons_succ]
    refine wpAnyH_ready (rs := [9]) (by kernel_rfl) (by simp) ?_
    refine AllReadyH.cons rfl (fun K hK => ?_) AllReadyH.nil
    clear hHeld
    go_simp
    (go_at_call 39; refine (HAN.out _).mono ?_; rintro e w8 ⟨rfl, rfl⟩)
    exact ⟨rfl, HS.out.post (HB2.out.drew) (by rw [HZ.out]; rfl) (fun V hV => by rw [HZ.out] at hV; cases hV)⟩
end Go.Proofs.Ytimkiifcmegfeaa
/- code: step (written by cdstep2.py). -/
namespace Go.Proofs.Ytimkiifcmegfeaa
open Go.RowKit
set_option linter.unusedVariables false
set_option linter.unusedSimpArgs false
attribute [local go_sem] Oper.semAt_some
set_option maxRecDepth 20000 in
set_option maxHeartbeats 4000000 in
theorem step_18 (P : Pl) (vw vr : Value) (W : Wk) (l : Nat) (H : Int) (m pm N : Nat) (g : Int × Int) (cl : Cl) (gv : Value) (p : Nat) (h : Int) (t : Nat) (an : Nat) (b : Int) (han : an < P.n) (c : Int) (tx : List UInt8) (w : World) (s : StM w P vw vr W l H m pm N g cl gv) (hx : W.at_[p]? = some (some (h, t))) (hH : H + 1000001 ≤ 1000000000000) (hl1 : l + 1 < 900000) (R : Option Wk)
    (hR : R = ((W.open_ t p).2.come (p + 1) h (W.open_ t p).1).bind fun V => V.come an (h + 1) t) :
    Calls Try.prog 65 #[.pointer (some ⟨P.gw, 0, none⟩), .int .i64 (p : Int), .agg #[.int .u8 18, .int .i64 (an : Int), .int .i64 b, .int .i64 c, .string (str tx)]] w (StepPost P R pm N w) := by
  obtain ⟨hs1, hs2, hs3⟩ := s.b.ok.ht p (h, t) hx
  have hpn : p < P.n := by rw [← s.b.ok.len]; exact (List.getElem?_eq_some_iff.1 hx).1
  have hn := s.b.n
  have hh : 0 ≤ h ∧ h ≤ 1000000000000 := ⟨hs1, by have h1 : h ≤ H := hs2; omega⟩
  have ht : t < W.rows.length := hs3
  have hhH : h ≤ H := hs2
  have hh1 := hh.1
  obtain ⟨q, hq⟩ : ∃ q, w.heap.size = q := ⟨_, rfl⟩
  obtain ⟨q1, hq1⟩ : ∃ q1, q + 1 = q1 := ⟨_, rfl⟩
  obtain ⟨w1, hw1⟩ : ∃ V, w.alloc (.cells #[.int .u8 18, .int .i64 (an : Int), .int .i64 b, .int .i64 c, .string (str tx)] 46) = V := ⟨_, rfl⟩
  obtain ⟨w2, hw2⟩ : ∃ V, w1.alloc (.cells #[.bool true, .int .i64 h, .int .i64 (t : Int)] 139) = V := ⟨_, rfl⟩
  obtain ⟨hb1, hb2, s1, bx⟩ := st_box 18 (an : Int) b c h t (str tx) w w1 w2 q q1 hq hq1 hw1 hw2 s.b.wk
  have m1 := s.b.wk.bel hb1
  have d2 := m1.told.2.2.1
  have y0 : w1.cell? ⟨P.ga, p * 3, none⟩ = some (.bool true) := m1.place hx 0 _ rfl
  have y1 : w1.cell? ⟨P.ga, p * 3 + 1, none⟩ = some (.int .i64 h) := m1.place hx 1 _ rfl
  have y2 : w1.cell? ⟨P.ga, p * 3 + 2, none⟩ = some (.int .i64 (t : Int)) := m1.place hx 2 _ rfl
  have S2 := Lib.hid (s.bel hb2)
  obtain ⟨z0, z1, z2, z3, z4, u0, u1, u2⟩ := bx.cells
  have X2 := Lib.hid bx
  have HB2 := Lib.hid (hb2.mono s.b.big)
  have HW := Lib.hid (And.intro hw1 (And.intro hq (And.intro hw2 (And.intro s1 (And.intro hq1 hb2)))))
  have HB := Lib.hid (And.intro hpn (And.intro hh (And.intro ht hn)))
  have HR := Lib.hid hR
  have HS := Lib.hid s
  have HX := Lib.hid hx
  have c0 := S2.out.b.wk.told.1
  have c1 := S2.out.b.wk.told.2.1
  have HAN := Lib.hid (fun V => ask_no (.pointer (some ⟨P.gk, 0, none⟩)) V)
  have HAY := Lib.hid (fun V => ask_yes (.pointer (some ⟨P.gk, 0, none⟩)) V)
  clear hb1 hb2 s1 bx m1 hw1 hw2 hq hq1 hR s hx hs1 hs2 hs3
  go_enter Try.func65, Try.ntmps65
  go_upto_region 1 with fail
  (try rw [HW.out.1])
  (try rw [HW.out.2.1])
  go_upto_region 2 with fail
  (try rw [HW.out.2.2.1])
  (try rw [HW.out.2.2.2.1])
  clear d2 y0 y1 y2
  obtain ⟨W8, hW8⟩ : ∃ V, (W.open_ t p).2 = V := ⟨_, rfl⟩
  obtain ⟨r8, hr8⟩ : ∃ r, (W.open_ t p).1 = r := ⟨_, rfl⟩
  obtain ⟨ok8, hr8l, _, _, hrl8⟩ := S2.out.b.ok.opened t p HB.out.2.2.1 HB.out.1
  have HROW := Lib.hid ((S2.out.bel ((Below.refl _ _).drew)).b.row_yes t p HB.out.2.2.1 HB.out.1)
  rw [hr8, hW8] at HROW
  rw [hW8] at ok8 hr8l hrl8
  rw [hr8] at hr8l
  have HO := Lib.hid (And.intro ok8 (And.intro hr8l hrl8))
  have HR2 : Hid (R = (W8.come (p + 1) h r8).bind fun V => V.come an (h + 1) t) := Lib.hid (by rw [HR.out, hW8, hr8])
  have HSB : Hid (∀ (V : World) (v : Value), Wkm V P vw v W8 → StB V P vw v W8 (l + 1) H) := Lib.hid fun V v k => ⟨k, HO.out.1, hl1, S2.out.b.n, S2.out.b.fn, S2.out.b.h⟩
  have HK : Hid (∀ (V : World) (v : Value), Off (WF P vw vr) w2.drew V → Grew w2.drew vr v → Bx V P vw v q q1 #[.int .u8 18, .int .i64 (an : Int), .int .i64 b, .int .i64 c, .string (str tx)] #[.bool true, .int .i64 h, .int .i64 (t : Int)]) := Lib.hid fun V v k1 k2 => (X2.out.bel ((Below.refl _ _).drew)).goes_r k1 k2
  have HBd := Lib.hid HB2.out.drew
  have HWd : Hid (∀ V, Off (WF P vw vr) w2.drew V → Below P.B w2.drew V) := Lib.hid fun V k => (S2.out.b.wk.bel ((Below.refl _ _).drew)).below k
  have HWP : Hid (IntKind.i64.wrap ((p : Int) + 1) = ((p + 1 : Nat) : Int)) := Lib.hid (IntWalk.i64_in _ ⟨by omega, by have := HB.out.1; have := HB.out.2.2.2; omega⟩)
  clear ok8 hr8l hrl8 hW8 hr8 HR
  cases hc0 : W8.come (p + 1) h r8 with
  | none =>
    have HZ : Hid (R = none) := Lib.hid (by rw [HR2.out]; simp [hc0])
    have HCM := Lib.hid (fun V v (k : StB V P vw v W8 (l + 1) H) => k.come_no hc0 (by have := HB.out.1; have := HB.out.2.2.2; omega))
    go_wp2_with fail
    refine wp_region_held_drew (S := (fun V => V.cell? ⟨q1, 1, none⟩ = some (.int .i64 h) ∧ V.cell? ⟨q1, 2, none⟩ = some (.int .i64 (t : Int)))) (by kernel_rfl) ((X2.out.bel ((Below.refl _ _).drew)).cells.2.2.2.2.2.2) (fun hHeld => ?_)
    refine takeY 0 (some 113) rfl rfl (by kernel_rfl) (by kernel_rfl) (by kernel_rfl) (fun _ _ _ h => h) (by rfl) (v := _) (by (intro _ hSw; (try dsimp only at hSw); go_simp; try with_reducible rfl)) hHeld ?_
    simp only [Act.put, List.setIfInBounds_toArray, List.set_cons_zero, List.set_cons_succ]
    refine takeY 1 (some 114) rfl rfl (by kernel_rfl) (by kernel_rfl) (by kernel_rfl) (fun _ _ _ h => h) (by rfl) (v := _) (by (intro _ hSw; (try dsimp only at hSw); go_simp; try with_reducible rfl)) hHeld ?_
    simp only [Act.put, List.setIfInBounds_toArray, List.set_cons_zero, List.set_cons_succ]
    refine takeY 2 (some 115) rfl rfl (by kernel_rfl) (by kernel_rfl) (by kernel_rfl) (fun _ _ _ h => h) (by rfl) (v := _) (by (intro _ hSw; (try dsimp only at hSw); go_simp; try with_reducible rfl)) hHeld ?_
    simp only [Act.put, List.setIfInBounds_toArray, List.set_cons_zero, List.set_cons_succ]
    refine takeY 3 (some 116) rfl rfl (by kernel_rfl) (by kernel_rfl) (by kernel_rfl) (fun _ _ _ h => h) (by rfl) (v := _) (by (intro _ hSw; (try dsimp only at hSw); go_simp; try with_reducible rfl)) hHeld ?_
    simp only [Act.put, List.setIfInBounds_toArray, List.set_cons_zero, List.set_cons_succ]
    refine takeY 4 (some 117) rfl rfl (by kernel_rfl) (by kernel_rfl) (by kernel_rfl) (fun _ _ _ h => h) (by rfl) (v := _) (by (intro _ hSw; (try dsimp only at hSw); go_simp; try with_reducible rfl)) hHeld ?_
    simp only [Act.put, List.setIfInBounds_toArray, List.set_cons_zero, List.set_cons_succ]
    refine takeY 5 (some 118) rfl rfl (by kernel_rfl) (by kernel_rfl) (by kernel_rfl) (fun _ _ _ h => h) (by rfl) (v := _) (by (intro _ hSw; (try dsimp only at hSw); go_simp; try with_reducible rfl)) hHeld ?_
    simp only [Act.put, List.setIfInBounds_toArray, List.set_cons_zero, List.set_cons_succ]
    refine takeY 6 (some 119) rfl rfl (by kernel_rfl) (by kernel_rfl) (by kernel_rfl) (fun _ _ _ h => h) (by rfl) (v := _) (by (intro _ hSw; (try dsimp only at hSw); go_simp; try with_reducible rfl)) hHeld ?_
    simp only [Act.put, List.setIfInBounds_toArray, List.set_cons_zero, List.set_cons_succ]
    refine takeY 7 (some 120) rfl rfl (by kernel_rfl) (by kernel_rfl) (by kernel_rfl) (fun _ _ _ h => h) (by rfl) (v := _) (by (intro _ hSw; (try dsimp only at hSw); go_simp; try with_reducible rfl)) hHeld ?_
    simp only [Act.put, List.setIfInBounds_toArray, List.set_cons_zero, List.set_cons_succ]
    refine takeY 8 (some 121) rfl rfl (by kernel_rfl) (by kernel_rfl) (by kernel_rfl) (fun _ _ _ h => h) (by rfl) (v := _) (by (intro _ hSw; (try dsimp only at hSw); go_simp; try with_reducible rfl)) hHeld ?_
    simp only [Act.put, List.setIfInBounds_toArray, List.set_cons_zero, List.set_cons_succ]
    refine wpAnyH_ready (rs := [9]) (by kernel_rfl) (by simp) ?_
    refine AllReadyH.cons rfl (fun K hK => ?_) AllReadyH.nil
    clear hHeld
    go_simp
    go_wp2_with ((go_at_call 74; refine HROW.out.mono ?_; rintro e w9 ⟨rfl, hm9, ho9⟩; obtain ⟨vr9, k9, g9⟩ := hm9))
    refine hK.out _ _ ((HK.out _ vr9 ho9 g9).cells.2.2.2.2.2.2) (fun hHeld => ?_)
    clear hK K
    refine wpAnyH_ready (rs := [10]) (by kernel_rfl) (by simp) ?_
    refine AllReadyH.cons rfl (fun K hK => ?_) AllReadyH.nil
    clear hHeld
    go_simp
    (go_at_call 64; rw [HWP.out]; refine (HCM.out _ _ (HSB.out _ _ k9)).mono ?_; rintro e w8 ⟨rfl, hb8⟩)
    exact ⟨rfl, HS.out.post (HBd.out.trans ((HWd.out _ ho9).trans hb8)) (by rw [HZ.out]; rfl) (fun V hV => by rw [HZ.out] at hV; cases hV)⟩
  | some V0 =>
    have HCM := Lib.hid (fun V v (k : StB V P vw v W8 (l + 1) H) => k.come_yes hc0 (by have := HB.out.1; have := HB.out.2.2.2; omega))
    go_wp2_with fail
    go_region_held3 (fun V => V.cell? ⟨q1, 1, none⟩ = some (.int .i64 h) ∧ V.cell? ⟨q1, 2, none⟩ = some (.int .i64 (t : Int)))
      (first | exact ((X2.out.bel ((Below.refl _ _).drew)).cells.2.2.2.2.2.2) | exact ((HK.out _ vr9 ho9 g9).cells.2.2.2.2.2.2) | exact (((HK.out _ vr9 ho9 g9).goes_w ho8 g8).cells.2.2.2.2.2.2))
      (first
        | (go_at_call 74; refine HROW.out.mono ?_; rintro e w9 ⟨rfl, hm9, ho9⟩; obtain ⟨vr9, k9, g9⟩ := hm9)
        | (go_at_call 64; rw [HWP.out]; refine (HCM.out _ _ (HSB.out _ _ k9)).mono ?_; rintro e w8 ⟨rfl, hm8, ho8⟩; obtain ⟨vw8, k8, g8⟩ := hm8))
    have sb9 := HSB.out _ _ k9
    have hok := ((sb9.ok.le (Nat.le_refl _) (show H ≤ H + 1000001 by omega)).came (p + 1) h r8 ⟨hh1, by omega⟩ HO.out.2.1 hc0)
    have S3 : Hid (StB w8 P vw8 vr9 V0 (l + 1) (H + 1000001)) := Lib.hid ⟨k8, hok.1, hl1, sb9.n, sb9.fn, ⟨by have := sb9.h.1; omega, hH⟩⟩
    have X3 := Lib.hid ((HK.out _ vr9 ho9 g9).goes_w ho8 g8)
    have HB3 : Hid (Below P.B w w8) := Lib.hid (HBd.out.trans ((HWd.out _ ho9).trans (sb9.wk.below ho8)))
    clear k9 ho9 g9 k8 ho8 g8 sb9 hok z0 z1 z2 z3 z4 u0 u1 u2 c0 c1
    obtain ⟨z0, z1, z2, z3, z4, u0, u1, u2⟩ := X3.out.cells
    cases hc1 : V0.come an (h + 1) t with
    | none =>
      have HC := Lib.hid ((S3.out).come_no hc1 (by have := han; have := HB.out.2.2.2; omega))
      have HZ : Hid (R = none) := Lib.hid (by rw [HR2.out]; simp [hc0, hc1])
      go_wp2_with fail
      refine HC.out.mono ?_
      rintro e w9 ⟨rfl, hb9⟩
      exact ⟨rfl, HS.out.post ((HB3.out).trans hb9) (by rw [HZ.out]; rfl) (fun V hV => by rw [HZ.out] at hV; cases hV)⟩
    | some V1 =>
      have HC := Lib.hid ((S3.out).come_yes hc1 (by have := han; have := HB.out.2.2.2; omega))
      go_wp2_with fail
      refine HC.out.mono ?_
      rintro e w4 ⟨rfl, hm1, ho1⟩
      have HZ : Hid (R = some V1) := Lib.hid (by rw [HR2.out]; simp [hc0, hc1])
      have HE : Hid (StepPost P R pm N w (.returned (.tuple #[])) w4) := Lib.hid (HS.out.post ((HB3.out).trans ((S3.out).wk.below ho1)) (by rw [HZ.out]; rfl) (fun V hV => by rw [HZ.out] at hV; cases hV; obtain ⟨v', k1, _⟩ := hm1; exact ⟨v', _, k1⟩))
      clear HC hm1 ho1
      go_wp2_with fail
      (first | go_end0 | refine bodyPost_ret (results_none rfl _ _ _) rfl ?_)
      exact HE.out
end Go.Proofs.Ytimkiifcmegfeaa
/- code: step (written by cdstep2.py). -/
namespace Go.Proofs.Ytimkiifcmegfeaa
open Go.RowKit
set_option linter.unusedVariables false
set_option linter.unusedSimpArgs false
attribute [local go_sem] Oper.semAt_some
set_option maxRecDepth 20000 in
set_option maxHeartbeats 4000000 in
theorem step_19 (P : Pl) (vw vr : Value) (W : Wk) (l : Nat) (H : Int) (m pm N : Nat) (g : Int × Int) (cl : Cl) (gv : Value) (p : Nat) (h : Int) (t : Nat) (a b : Int) (c : Int) (tx : List UInt8) (w : World) (s : StM w P vw vr W l H m pm N g cl gv) (hx : W.at_[p]? = some (some (h, t))) (hH : H + 1000001 ≤ 1000000000000) (hl1 : l + 1 < 900000) (R : Option Wk)
    (hR : R = if 0 < t ∧ h = W.ht (W.row t).2 + 1 then W.come (p + 1) h (W.row t).1 else none) :
    Calls Try.prog 65 #[.pointer (some ⟨P.gw, 0, none⟩), .int .i64 (p : Int), .agg #[.int .u8 19, .int .i64 a, .int .i64 b, .int .i64 c, .string (str tx)]] w (StepPost P R pm N w) := by
  obtain ⟨hs1, hs2, hs3⟩ := s.b.ok.ht p (h, t) hx
  have hpn : p < P.n := by rw [← s.b.ok.len]; exact (List.getElem?_eq_some_iff.1 hx).1
  have hn := s.b.n
  have hh : 0 ≤ h ∧ h ≤ 1000000000000 := ⟨hs1, by have h1 : h ≤ H := hs2; omega⟩
  have ht : t < W.rows.length := hs3
  have hhH : h ≤ H := hs2
  have hh1 := hh.1
  obtain ⟨q, hq⟩ : ∃ q, w.heap.size = q := ⟨_, rfl⟩
  obtain ⟨q1, hq1⟩ : ∃ q1, q + 1 = q1 := ⟨_, rfl⟩
  obtain ⟨w1, hw1⟩ : ∃ V, w.alloc (.cells #[.int .u8 19, .int .i64 a, .int .i64 b, .int .i64 c, .string (str tx)] 46) = V := ⟨_, rfl⟩
  obtain ⟨w2, hw2⟩ : ∃ V, w1.alloc (.cells #[.bool true, .int .i64 h, .int .i64 (t : Int)] 139) = V := ⟨_, rfl⟩
  obtain ⟨hb1, hb2, s1, bx⟩ := st_box 19 a b c h t (str tx) w w1 w2 q q1 hq hq1 hw1 hw2 s.b.wk
  have m1 := s.b.wk.bel hb1
  have d2 := m1.told.2.2.1
  have y0 : w1.cell? ⟨P.ga, p * 3, none⟩ = some (.bool true) := m1.place hx 0 _ rfl
  have y1 : w1.cell? ⟨P.ga, p * 3 + 1, none⟩ = some (.int .i64 h) := m1.place hx 1 _ rfl
  have y2 : w1.cell? ⟨P.ga, p * 3 + 2, none⟩ = some (.int .i64 (t : Int)) := m1.place hx 2 _ rfl
  have S2 := Lib.hid (s.bel hb2)
  obtain ⟨z0, z1, z2, z3, z4, u0, u1, u2⟩ := bx.cells
  have X2 := Lib.hid bx
  have HB2 := Lib.hid (hb2.mono s.b.big)
  have HW := Lib.hid (And.intro hw1 (And.intro hq (And.intro hw2 (And.intro s1 (And.intro hq1 hb2)))))
  have HB := Lib.hid (And.intro hpn (And.intro hh (And.intro ht hn)))
  have HR := Lib.hid hR
  have HS := Lib.hid s
  have HX := Lib.hid hx
  have c0 := S2.out.b.wk.told.1
  have c1 := S2.out.b.wk.told.2.1
  have HAN := Lib.hid (fun V => ask_no (.pointer (some ⟨P.gk, 0, none⟩)) V)
  have HAY := Lib.hid (fun V => ask_yes (.pointer (some ⟨P.gk, 0, none⟩)) V)
  obtain ⟨tt, htt⟩ : ∃ x, W.rows[t]? = some x := ⟨_, List.getElem?_eq_getElem ht⟩
  obtain ⟨gr, cr, hvr, _, _⟩ := s.b.wk.tri htt
  obtain ⟨t1, t2⟩ := tt
  subst hvr
  obtain ⟨rn, hrn⟩ : ∃ z, W.rows.length = z := ⟨_, rfl⟩
  have hrow : W.row t = (t1, t2) := by unfold Wk.row; rw [htt]; rfl
  have htp : t2 < P.n := (s.b.ok.row _ (List.mem_of_getElem? htt)).2
  have ht1 : t1 < W.rows.length := (s.b.ok.row _ (List.mem_of_getElem? htt)).1
  obtain ⟨xx, hxx⟩ : ∃ x, W.at_[t2]? = some x := ⟨_, List.getElem?_eq_getElem (by rw [s.b.ok.len]; exact htp)⟩
  obtain ⟨hh2, hhe⟩ : ∃ z, W.ht t2 = z := ⟨_, rfl⟩
  have hb2h := s.b.ok.hts s.b.h.1 t2
  rw [hhe] at hb2h
  have hrl1 : rn < 900000 := by rw [← hrn]; have := s.b.ok.rl.2; have := s.b.l; omega
  have htr : t < rn := by rw [← hrn]; exact ht
  have HFC : Hid (∀ V, Below w2.heap.size w2 V → (V.cell? ⟨P.gw, 0, none⟩ = some (.pointer (some ⟨P.gk, 0, none⟩)) ∧ V.cell? ⟨P.gw, 2, none⟩ = some (.slice (some ⟨P.ga, 0, none⟩) P.n P.n) ∧ V.cell? ⟨P.gw, 4, none⟩ = some (.slice (some ⟨gr, 0, none⟩) rn cr)) ∧ (V.cell? ⟨gr, t * 2, none⟩ = some (.int .i64 (t1 : Int)) ∧ V.cell? ⟨gr, t * 2 + 1, none⟩ = some (.int .i64 (t2 : Int)) ∧ V.cell? ⟨P.ga, t2 * 3 + 1, none⟩ = some (.int .i64 hh2)) ∧ V.cell? ⟨q1, 1, none⟩ = some (.int .i64 h) ∧ V.cell? ⟨q1, 2, none⟩ = some (.int .i64 (t : Int))) := Lib.hid fun V hV => by
    have k0 := (S2.out.b.bel hV).wk
    obtain ⟨g', c', e', r0, r1⟩ := k0.tri htt
    injection e' with e1 e2 e3
    injection e1 with e1
    injection e1 with e1
    subst e1
    have k1 := (X2.out.bel hV).cells
    have hc := k0.place hxx 1 _ (ht_cell W t2 xx hxx)
    rw [hhe] at hc
    exact ⟨⟨k0.told.1, k0.told.2.2.1, by rw [← hrn]; exact k0.told.2.2.2.2.1⟩, ⟨r0, r1, hc⟩, k1.2.2.2.2.2.2.1, k1.2.2.2.2.2.2.2⟩
  have HR9 : Hid (R = if 0 < t ∧ h = hh2 + 1 then W.come (p + 1) h t1 else none) := Lib.hid (by rw [hR, hrow, hhe])
  have HT1 := Lib.hid ht1
  have hwh : IntKind.i64.wrap (hh2 + 1) = hh2 + 1 := IntWalk.i64_in _ ⟨by omega, by have := s.b.h.2; omega⟩
  have HWP : Hid (IntKind.i64.wrap ((p : Int) + 1) = ((p + 1 : Nat) : Int)) := Lib.hid (IntWalk.i64_in _ ⟨by omega, by omega⟩)
  have hb2a := hb2h.1
  have hb2b : hh2 ≤ 1000000000000 := by have := s.b.h.2; omega
  have HTT := Lib.hid (And.intro htt hrn)
  clear htt hrow hxx hhe hb2h ht1 hrn
  clear hb1 hb2 s1 bx m1 hw1 hw2 hq hq1 hR s hx hs1 hs2 hs3
  go_enter Try.func65, Try.ntmps65
  go_upto_region 1 with fail
  (try rw [HW.out.1])
  (try rw [HW.out.2.1])
  go_upto_region 2 with fail
  (try rw [HW.out.2.2.1])
  (try rw [HW.out.2.2.2.1])
  clear d2 y0 y1 y2
  by_cases hq0 : 0 < t
  · have e1 : decide ((t : Int) > 0) = true := by rw [decide_eq_true_eq]; omega
    by_cases hq1 : h = hh2 + 1
    · have e2 : (h == hh2 + 1) = true := by rw [hq1]; simp
      have HQ1 := Lib.hid hq1
      clear hq1
      go_wp2_with fail
      go_region_held3 (fun V => (V.cell? ⟨P.gw, 0, none⟩ = some (.pointer (some ⟨P.gk, 0, none⟩)) ∧ V.cell? ⟨P.gw, 2, none⟩ = some (.slice (some ⟨P.ga, 0, none⟩) P.n P.n) ∧ V.cell? ⟨P.gw, 4, none⟩ = some (.slice (some ⟨gr, 0, none⟩) rn cr)) ∧ (V.cell? ⟨gr, t * 2, none⟩ = some (.int .i64 (t1 : Int)) ∧ V.cell? ⟨gr, t * 2 + 1, none⟩ = some (.int .i64 (t2 : Int)) ∧ V.cell? ⟨P.ga, t2 * 3 + 1, none⟩ = some (.int .i64 hh2)) ∧ V.cell? ⟨q1, 1, none⟩ = some (.int .i64 h) ∧ V.cell? ⟨q1, 2, none⟩ = some (.int .i64 (t : Int)))
        (first | exact (HFC.out _ ((Below.refl _ _).drew)))
        (first | (go_at_call 39; refine (HAY.out _).mono ?_; rintro e w8 ⟨rfl, rfl⟩))
      clear e2
      cases hc0 : W.come (p + 1) h t1 with
      | none =>
        have HZ : Hid (R = none) := Lib.hid (by rw [HR9.out, if_pos ⟨hq0, HQ1.out⟩]; exact hc0)
        have HCM := Lib.hid ((S2.out.b.bel ((Below.refl _ _).drew.drew)).come_no hc0 (by have := HB.out.1; have := HB.out.2.2.2; omega))
        go_wp2_with fail
        refine wp_region_held_drew (S := (fun V => (V.cell? ⟨P.gw, 0, none⟩ = some (.pointer (some ⟨P.gk, 0, none⟩)) ∧ V.cell? ⟨P.gw, 2, none⟩ = some (.slice (some ⟨P.ga, 0, none⟩) P.n P.n) ∧ V.cell? ⟨P.gw, 4, none⟩ = some (.slice (some ⟨gr, 0, none⟩) rn cr)) ∧ (V.cell? ⟨gr, t * 2, none⟩ = some (.int .i64 (t1 : Int)) ∧ V.cell? ⟨gr, t * 2 + 1, none⟩ = some (.int .i64 (t2 : Int)) ∧ V.cell? ⟨P.ga, t2 * 3 + 1, none⟩ = some (.int .i64 hh2)) ∧ V.cell? ⟨q1, 1, none⟩ = some (.int .i64 h) ∧ V.cell? ⟨q1, 2, none⟩ = some (.int .i64 (t : Int)))) (by kernel_rfl) (HFC.out _ ((Below.refl _ _).drew.drew)) (fun hHeld => ?_)
        refine takeY 0 (some 165) rfl rfl (by kernel_rfl) (by kernel_rfl) (by kernel_rfl) (fun _ _ _ h => h) (by rfl) (v := _) (by (intro _ hSw; (try dsimp only at hSw); go_simp; try with_reducible rfl)) hHeld ?_
        simp only [Act.put, List.setIfInBounds_toArray, List.set_cons_zero, List.set_cons_succ]
        refine takeY 1 (some 166) rfl rfl (by kernel_rfl) (by kernel_rfl) (by kernel_rfl) (fun _ _ _ h => h) (by rfl) (v := _) (by (intro _ hSw; (try dsimp only at hSw); go_simp; try with_reducible rfl)) hHeld ?_
        simp only [Act.put, List.setIfInBounds_toArray, List.set_cons_zero, List.set_cons_succ]
        refine takeY 2 (some 167) rfl rfl (by kernel_rfl) (by kernel_rfl) (by kernel_rfl) (fun _ _ _ h => h) (by rfl) (v := _) (by (intro _ hSw; (try dsimp only at hSw); go_simp; try with_reducible rfl)) hHeld ?_
        simp only [Act.put, List.setIfInBounds_toArray, List.set_cons_zero, List.set_cons_succ]
        refine takeY 3 (some 168) rfl rfl (by kernel_rfl) (by kernel_rfl) (by kernel_rfl) (fun _ _ _ h => h) (by rfl) (v := _) (by (intro _ hSw; (try dsimp only at hSw); go_simp; try with_reducible rfl)) hHeld ?_
        simp only [Act.put, List.setIfInBounds_toArray, List.set_cons_zero, List.set_cons_succ]
        refine takeY 4 (some 169) rfl rfl (by kernel_rfl) (by kernel_rfl) (by kernel_rfl) (fun _ _ _ h => h) (by rfl) (v := _) (by (intro _ hSw; (try dsimp only at hSw); go_simp; try with_reducible rfl)) hHeld ?_
        simp only [Act.put, List.setIfInBounds_toArray, List.set_cons_zero, List.set_cons_succ]
        refine takeY 5 (some 170) rfl rfl (by kernel_rfl) (by kernel_rfl) (by kernel_rfl) (fun _ _ _ h => h) (by rfl) (v := _) (by (intro _ hSw; (try dsimp only at hSw); go_simp; try with_reducible rfl)) hHeld ?_
        simp only [Act.put, List.setIfInBounds_toArray, List.set_cons_zero, List.set_cons_succ]
        refine takeY 6 (some 171) rfl rfl (by kernel_rfl) (by kernel_rfl) (by kernel_rfl) (fun _ _ _ h => h) (by rfl) (v := _) (by (intro _ hSw; (try dsimp only at hSw); go_simp; try with_reducible rfl)) hHeld ?_
        simp only [Act.put, List.setIfInBounds_toArray, List.set_cons_zero, List.set_cons_succ]
        refine takeY 7 (some 172) rfl rfl (by kernel_rfl) (by kernel_rfl) (by kernel_rfl) (fun _ _ _ h => h) (by rfl) (v := _) (by (intro _ hSw; (try dsimp only at hSw); go_simp; try with_reducible rfl)) hHeld ?_
        simp only [Act.put, List.setIfInBounds_toArray, List.set_cons_zero, List.set_cons_succ]
        refine takeY 8 (some 173) rfl rfl (by kernel_rfl) (by kernel_rfl) (by kernel_rfl) (fun _ _ _ h => h) (by rfl) (v := _) (by (intro _ hSw; (try dsimp only at hSw); go_simp; try with_reducible rfl)) hHeld ?_
        simp only [Act.put, List.setIfInBounds_toArray, List.set_cons_zero, List.set_cons_succ]
        refine takeY 9 (some 174) rfl rfl (by kernel_rfl) (by kernel_rfl) (by kernel_rfl) (fun _ _ _ h => h) (by rfl) (v := _) (by (intro _ hSw; (try dsimp only at hSw); go_simp; try with_reducible rfl)) hHeld ?_
        simp only [Act.put, List.setIfInBounds_toArray, List.set_cons_zero, List.set_cons_succ]
        refine takeY 10 (some 175) rfl rfl (by kernel_rfl) (by kernel_rfl) (by kernel_rfl) (fun _ _ _ h => h) (by rfl) (v := _) (by (intro _ hSw; (try dsimp only at hSw); go_simp; try with_reducible rfl)) hHeld ?_
        simp only [Act.put, List.setIfInBounds_toArray, List.set_cons_zero, List.set_cons_succ]
        refine takeY 11 (some 176) rfl rfl (by kernel_rfl) (by kernel_rfl) (by kernel_rfl) (fun _ _ _ h => h) (by rfl) (v := _) (by (intro _ hSw; (try dsimp only at hSw); go_simp; try with_reducible rfl)) hHeld ?_
        simp only [Act.put, List.setIfInBounds_toArray, List.set_cons_zero, List.set_cons_succ]
        refine takeY 12 (some 177) rfl rfl (by kernel_rfl) (by kernel_rfl) (by kernel_rfl) (fun _ _ _ h => h) (by rfl) (v := _) (by (intro _ hSw; (try dsimp only at hSw); go_simp; try with_reducible rfl)) hHeld ?_
        simp only [Act.put, List.setIfInBounds_toArray, List.set_cons_zero, List.set_cons_succ]
        refine takeY 13 (some 178) rfl rfl (by kernel_rfl) (by kernel_rfl) (by kernel_rfl) (fun _ _ _ h => h) (by rfl) (v := _) (by (intro _ hSw; (try dsimp only at hSw); go_simp; try with_reducible rfl)) hHeld ?_
        simp only [Act.put, List.setIfInBounds_toArray, List.set_cons_zero, List.set_cons_succ]
        refine wpAnyH_ready (rs := [14]) (by kernel_rfl) (by simp) ?_
        refine AllReadyH.cons rfl (fun K hK => ?_) AllReadyH.nil
        clear hHeld
        go_simp
        (go_at_call 64; (try rw [HWP.out]); refine HCM.out.mono ?_; rintro e w8 ⟨rfl, hb8⟩)
        exact ⟨rfl, HS.out.post (HB2.out.drew.drew.trans hb8) (by rw [HZ.out]; rfl) (fun V hV => by rw [HZ.out] at hV; cases hV)⟩
      | some V0 =>
        have HZ : Hid (R = some V0) := Lib.hid (by rw [HR9.out, if_pos ⟨hq0, HQ1.out⟩]; exact hc0)
        have HCM := Lib.hid ((S2.out.b.bel ((Below.refl _ _).drew.drew)).come_yes hc0 (by have := HB.out.1; have := HB.out.2.2.2; omega))
        have hrw := ((S2.out.b.ok.le (Nat.le_refl _) (show H ≤ H + 1000001 by omega)).came (p + 1) h t1 ⟨hh1, by omega⟩ HT1.out hc0).2
        have HK8 : Hid (∀ (V : World) (v' : Value), Wkm V P v' (.slice (some ⟨gr, 0, none⟩) W.rows.length cr) V0 → Grew w2.drew.drew vw v' → Off (WF P vw (.slice (some ⟨gr, 0, none⟩) W.rows.length cr)) w2.drew.drew V → (V.cell? ⟨P.gw, 4, none⟩ = some (.slice (some ⟨gr, 0, none⟩) rn cr) ∧ V.cell? ⟨gr, t * 2, none⟩ = some (.int .i64 (t1 : Int)) ∧ V.cell? ⟨q1, 1, none⟩ = some (.int .i64 h) ∧ V.cell? ⟨q1, 2, none⟩ = some (.int .i64 (t : Int)))) := Lib.hid fun V v' k1 k2 k3 => by
          obtain ⟨g', c', e', r0, r1⟩ := k1.tri (r := t) (t := (t1, t2)) (by rw [hrw]; exact HTT.out.1)
          injection e' with e1 e2 e3
          injection e1 with e1
          injection e1 with e1
          subst e1
          have k4 := ((X2.out.bel ((Below.refl _ _).drew.drew)).goes_w k3 k2).cells
          exact ⟨by rw [← HTT.out.2]; exact k1.told.2.2.2.2.1, r0, k4.2.2.2.2.2.2.1, k4.2.2.2.2.2.2.2⟩
        have HK0 : Hid (∀ V, Below w2.heap.size w2 V → (V.cell? ⟨P.gw, 4, none⟩ = some (.slice (some ⟨gr, 0, none⟩) rn cr) ∧ V.cell? ⟨gr, t * 2, none⟩ = some (.int .i64 (t1 : Int)) ∧ V.cell? ⟨q1, 1, none⟩ = some (.int .i64 h) ∧ V.cell? ⟨q1, 2, none⟩ = some (.int .i64 (t : Int)))) := Lib.hid fun V k => ⟨(HFC.out V k).1.2.2, (HFC.out V k).2.1.1, (HFC.out V k).2.2.1, (HFC.out V k).2.2.2⟩
        clear hrw
        go_wp2_with fail
        go_region_held3 (fun V => V.cell? ⟨P.gw, 4, none⟩ = some (.slice (some ⟨gr, 0, none⟩) rn cr) ∧ V.cell? ⟨gr, t * 2, none⟩ = some (.int .i64 (t1 : Int)) ∧ V.cell? ⟨q1, 1, none⟩ = some (.int .i64 h) ∧ V.cell? ⟨q1, 2, none⟩ = some (.int .i64 (t : Int)))
          (first | exact HK0.out _ ((Below.refl _ _).drew.drew) | exact HK8.out _ _ k8 g8 ho8)
          (first | (go_at_call 64; (try rw [HWP.out]); refine HCM.out.mono ?_; rintro e w8 ⟨rfl, hm8, ho8⟩; obtain ⟨vw8, k8, g8⟩ := hm8))
        have HE : Hid (StepPost P R pm N w (.returned (.tuple #[])) w8) := Lib.hid (HS.out.post (HB2.out.drew.drew.trans ((S2.out.b.bel ((Below.refl _ _).drew.drew)).wk.below ho8)) (by rw [HZ.out]; rfl) (fun V hV => by rw [HZ.out] at hV; cases hV; exact ⟨_, _, k8⟩))
        clear k8 ho8 g8
        go_wp2_with fail
        (first | go_end0 | refine bodyPost_ret (results_none rfl _ _ _) rfl ?_)
        exact HE.out
    · have e2 : (h == hh2 + 1) = false := by rw [beq_eq_false_iff_ne]; exact hq1
      have HZ : Hid (R = none) := Lib.hid (by rw [HR9.out]; simp [hq0, hq1])
      go_wp2_with fail
      refine wp_region_held_drew (S := (fun V => (V.cell? ⟨P.gw, 0, none⟩ = some (.pointer (some ⟨P.gk, 0, none⟩)) ∧ V.cell? ⟨P.gw, 2, none⟩ = some (.slice (some ⟨P.ga, 0, none⟩) P.n P.n) ∧ V.cell? ⟨P.gw, 4, none⟩ = some (.slice (some ⟨gr, 0, none⟩) rn cr)) ∧ (V.cell? ⟨gr, t * 2, none⟩ = some (.int .i64 (t1 : Int)) ∧ V.cell? ⟨gr, t * 2 + 1, none⟩ = some (.int .i64 (t2 : Int)) ∧ V.cell? ⟨P.ga, t2 * 3 + 1, none⟩ = some (.int .i64 hh2)) ∧ V.cell? ⟨q1, 1, none⟩ = some (.int .i64 h) ∧ V.cell? ⟨q1, 2, none⟩ = some (.int .i64 (t : Int)))) (by kernel_rfl) (HFC.out _ ((Below.refl _ _).drew)) (fun hHeld => ?_)
      refine takeY 0 (some 135) rfl rfl (by kernel_rfl) (by kernel_rfl) (by kernel_rfl) (fun _ _ _ h => h) (by rfl) (v := _) (by (intro _ hSw; (try dsimp only at hSw); go_simp; try with_reducible rfl)) hHeld ?_
      simp only [Act.put, List.setIfInBounds_toArray, List.set_cons_zero, List.set_cons_succ]
      refine takeY 1 (some 136) rfl rfl (by kernel_rfl) (by kernel_rfl) (by kernel_rfl) (fun _ _ _ h => h) (by rfl) (v := _) (by (intro _ hSw; (try dsimp only at hSw); go_simp; try with_reducible rfl)) hHeld ?_
      simp only [Act.put, List.setIfInBounds_toArray, List.set_cons_zero, List.set_cons_succ]
      refine takeY 2 (some 137) rfl rfl (by kernel_rfl) (by kernel_rfl) (by kernel_rfl) (fun _ _ _ h => h) (by rfl) (v := _) (by (intro _ hSw; (try dsimp only at hSw); go_simp; try with_reducible rfl)) hHeld ?_
      simp only [Act.put, List.setIfInBounds_toArray, List.set_cons_zero, List.set_cons_succ]
      refine takeY 3 (some 138) rfl rfl (by kernel_rfl) (by kernel_rfl) (by kernel_rfl) (fun _ _ _ h => h) (by rfl) (v := _) (by (intro _ hSw; (try dsimp only at hSw); go_simp; try with_reducible rfl)) hHeld ?_
      simp only [Act.put, List.setIfInBounds_toArray, List.set_cons_zero, List.set_cons_succ]
      refine takeY 4 (some 139) rfl rfl (by kernel_rfl) (by kernel_rfl) (by kernel_rfl) (fun _ _ _ h => h) (by rfl) (v := _) (by (intro _ hSw; (try dsimp only at hSw); go_simp; try with_reducible rfl)) hHeld ?_
      simp only [Act.put, List.setIfInBounds_toArray, List.set_cons_zero, List.set_cons_succ]
      refine takeY 5 (some 140) rfl rfl (by kernel_rfl) (by kernel_rfl) (by kernel_rfl) (fun _ _ _ h => h) (by rfl) (v := _) (by (intro _ hSw; (try dsimp only at hSw); go_simp; try with_reducible rfl)) hHeld ?_
      simp only [Act.put, List.setIfInBounds_toArray, List.set_cons_zero, List.set_cons_succ]
      refine takeY 6 (some 141) rfl rfl (by kernel_rfl) (by kernel_rfl) (by kernel_rfl) (fun _ _ _ h => h) (by rfl) (v := _) (by (intro _ hSw; (try dsimp only at hSw); go_simp; try with_reducible rfl)) hHeld ?_
      simp only [Act.put, List.setIfInBounds_toArray, List.set_cons_zero, List.set_cons_succ]
      refine takeY 7 (some 142) rfl rfl (by kernel_rfl) (by kernel_rfl) (by kernel_rfl) (fun _ _ _ h => h) (by rfl) (v := _) (by (intro _ hSw; (try dsimp only at hSw); go_simp; try with_reducible rfl)) hHeld ?_
      simp only [Act.put, List.setIfInBounds_toArray, List.set_cons_zero, List.set_cons_succ]
      refine takeY 8 (some 143) rfl rfl (by kernel_rfl) (by kernel_rfl) (by kernel_rfl) (fun _ _ _ h => h) (by rfl) (v := _) (by (intro _ hSw; (try dsimp only at hSw); go_simp; try with_reducible rfl)) hHeld ?_
      simp only [Act.put, List.setIfInBounds_toArray, List.set_cons_zero, List.set_cons_succ]
      refine takeY 9 (some 144) rfl rfl (by kernel_rfl) (by kernel_rfl) (by kernel_rfl) (fun _ _ _ h => h) (by rfl) (v := _) (by (intro _ hSw; (try dsimp only at hSw); go_simp; try with_reducible rfl)) hHeld ?_
      simp only [Act.put, List.setIfInBounds_toArray, List.set_cons_zero, List.set_cons_succ]
      refine takeY 10 (some 145) rfl rfl (by kernel_rfl) (by kernel_rfl) (by kernel_rfl) (fun _ _ _ h => h) (by rfl) (v := _) (by (intro _ hSw; (try dsimp only at hSw); go_simp; try with_reducible rfl)) hHeld ?_
      simp only [Act.put, List.setIfInBounds_toArray, List.set_cons_zero, List.set_cons_succ]
      refine takeY 11 (some 146) rfl rfl (by kernel_rfl) (by kernel_rfl) (by kernel_rfl) (fun _ _ _ h => h) (by rfl) (v := _) (by (intro _ hSw; (try dsimp only at hSw); go_simp; try with_reducible rfl)) hHeld ?_
      simp only [Act.put, List.setIfInBounds_toArray, List.set_cons_zero, List.set_cons_succ]
      refine takeY 12 (some 147) rfl rfl (by kernel_rfl) (by kernel_rfl) (by kernel_rfl) (fun _ _ _ h => h) (by rfl) (v := _) (by (intro _ hSw; (try dsimp only at hSw); go_simp; try with_reducible rfl)) hHeld ?_
      simp only [Act.put, List.setIfInBounds_toArray, List.set_cons_zero, List.set_cons_succ]
      refine takeY 13 (some 148) rfl rfl (by kernel_rfl) (by kernel_rfl) (by kernel_rfl) (fun _ _ _ h => h) (by rfl) (v := _) (by (intro _ hSw; (try dsimp only at hSw); go_simp; try with_reducible rfl)) hHeld ?_
      simp only [Act.put, List.setIfInBounds_toArray, List.set_cons_zero, List.set_cons_succ]
      refine takeY 14 (some 149) rfl rfl (by kernel_rfl) (by kernel_rfl) (by kernel_rfl) (fun _ _ _ h => h) (by rfl) (v := _) (by (intro _ hSw; (try dsimp only at hSw); go_simp; try with_reducible rfl)) hHeld ?_
      simp only [Act.put, List.setIfInBounds_toArray, List.set_cons_zero, List.set_cons_succ]
      refine takeY 15 (some 150) rfl rfl (by kernel_rfl) (by kernel_rfl) (by kernel_rfl) (fun _ _ _ h => h) (by rfl) (v := _) (by (intro _ hSw; (try dsimp only at hSw); go_simp; try with_reducible rfl)) hHeld ?_
      simp only [Act.put, List.setIfInBounds_toArray, List.set_cons_zero, List.set_cons_succ]
      refine takeY 16 (some 151) rfl rfl (by kernel_rfl) (by kernel_rfl) (by kernel_rfl) (fun _ _ _ h => h) (by rfl) (v := _) (by (intro _ hSw; (try dsimp only at hSw); go_simp; try with_reducible rfl)) hHeld ?_
      simp only [Act.put, List.setIfInBounds_toArray, List.set_cons_zero, List.set_cons_succ]
      refine takeY 17 (some 152) rfl rfl (by kernel_rfl) (by kernel_rfl) (by kernel_rfl) (fun _ _ _ h => h) (by rfl) (v := _) (by (intro _ hSw; (try dsimp only at hSw); go_simp; try with_reducible rfl)) hHeld ?_
      simp only [Act.put, List.setIfInBounds_toArray, List.set_cons_zero, List.set_cons_succ]
      refine takeY 18 (some 153) rfl rfl (by kernel_rfl) (by kernel_rfl) (by kernel_rfl) (fun _ _ _ h => h) (by rfl) (v := _) (by (intro _ hSw; (try dsimp only at hSw); go_simp; try with_reducible rfl)) hHeld ?_
      simp only [Act.put, List.setIfInBounds_toArray, List.set_cons_zero, List.set_cons_succ]
      refine takeY 19 (some 154) rfl rfl (by kernel_rfl) (by kernel_rfl) (by kernel_rfl) (fun _ _ _ h => h) (by rfl) (v := _) (by (intro _ hSw; (try dsimp only at hSw); go_simp; try with_reducible rfl)) hHeld ?_
      simp only [Act.put, List.setIfInBounds_toArray, List.set_cons_zero, List.set_cons_succ]
      refine takeY 20 (some 155) rfl rfl (by kernel_rfl) (by kernel_rfl) (by kernel_rfl) (fun _ _ _ h => h) (by rfl) (v := _) (by (intro _ hSw; (try dsimp only at hSw); go_simp; try with_reducible rfl)) hHeld ?_
      simp only [Act.put, List.setIfInBounds_toArray, List.set_cons_zero, List.set_cons_succ]
      refine takeY 21 (some 156) rfl rfl (by kernel_rfl) (by kernel_rfl) (by kernel_rfl) (fun _ _ _ h => h) (by rfl) (v := _) (by (intro _ hSw; (try dsimp only at hSw); go_simp; try with_reducible rfl)) hHeld ?_
      simp only [Act.put, List.setIfInBounds_toArray, List.set_cons_zero, List.set_cons_succ]
      refine takeY 22 (some 157) rfl rfl (by kernel_rfl) (by kernel_rfl) (by kernel_rfl) (fun _ _ _ h => h) (by rfl) (v := _) (by (intro _ hSw; (try dsimp only at hSw); go_simp; try with_reducible rfl)) hHeld ?_
      simp only [Act.put, List.setIfInBounds_toArray, List.set_cons_zero, List.set_cons_succ]
      refine takeY 23 (some 158) rfl rfl (by kernel_rfl) (by kernel_rfl) (by kernel_rfl) (fun _ _ _ h => h) (by rfl) (v := _) (by (intro _ hSw; (try dsimp only at hSw); go_simp; try with_reducible rfl)) hHeld ?_
      simp only [Act.put, List.setIfInBounds_toArray, List.set_cons_zero, List.set_cons_succ]
      refine takeY 24 (some 159) rfl rfl (by kernel_rfl) (by kernel_rfl) (by kernel_rfl) (fun _ _ _ h => h) (by rfl) (v := _) (by (intro _ hSw; (try dsimp only at hSw); go_simp; try with_reducible rfl)) hHeld ?_
      simp only [Act.put, List.setIfInBounds_toArray, List.set_cons_zero, List.set_cons_succ]
      refine takeY 25 (some 160) rfl rfl (by kernel_rfl) (by kernel_rfl) (by kernel_rfl) (fun _ _ _ h => h) (by rfl) (v := _) (by (intro _ hSw; (try dsimp only at hSw); go_simp; try with_reducible rfl)) hHeld ?_
      simp only [Act.put, List.setIfInBounds_toArray, List.set_cons_zero, List.set_cons_succ]
      refine takeY 26 (some 161) rfl rfl (by kernel_rfl) (by kernel_rfl) (by kernel_rfl) (fun _ _ _ h => h) (by rfl) (v := _) (by (intro _ hSw; (try dsimp only at hSw); go_simp; try with_reducible rfl)) hHeld ?_
      simp only [Act.put, List.setIfInBounds_toArray, List.set_cons_zero, List.set_cons_succ]
      refine takeY 27 (some 162) rfl rfl (by kernel_rfl) (by kernel_rfl) (by kernel_rfl) (fun _ _ _ h => h) (by rfl) (v := _) (by (intro _ hSw; (try dsimp only at hSw); go_simp; try with_reducible rfl)) hHeld ?_
      simp only [Act.put, List.setIfInBounds_toArray, List.set_cons_zero, List.set_cons_succ]
      refine takeY 28 (some 163) rfl rfl (by kernel_rfl) (by kernel_rfl) (by kernel_rfl) (fun _ _ _ h => h) (by rfl) (v := _) (by (intro _ hSw; (try dsimp only at hSw); go_simp; try with_reducible rfl)) hHeld ?_
      simp only [Act.put, List.setIfInBounds_toArray, List.set_cons_zero, List.set_cons_succ]
      refine wpAnyH_ready (rs := [29]) (by kernel_rfl) (by simp) ?_
      refine AllReadyH.cons rfl (fun K hK => ?_) AllReadyH.nil
      clear hHeld
      go_simp
      (go_at_call 39; refine (HAN.out _).mono ?_; rintro e w8 ⟨rfl, rfl⟩)
      exact ⟨rfl, HS.out.post (HB2.out.drew) (by rw [HZ.out]; rfl) (fun V hV => by rw [HZ.out] at hV; cases hV)⟩
  · have e1 : decide ((t : Int) > 0) = false := by rw [decide_eq_false_iff_not]; omega
    have HZ : Hid (R = none) := Lib.hid (by rw [HR9.out]; simp [hq0])
    go_wp2_with fail
    refine wp_region_held_drew (S := (fun V => (V.cell? ⟨P.gw, 0, none⟩ = some (.pointer (some ⟨P.gk, 0, none⟩)) ∧ V.cell? ⟨P.gw, 2, none⟩ = some (.slice (some ⟨P.ga, 0, none⟩) P.n P.n) ∧ V.cell? ⟨P.gw, 4, none⟩ = some (.slice (some ⟨gr, 0, none⟩) rn cr)) ∧ (V.cell? ⟨gr, t * 2, none⟩ = some (.int .i64 (t1 : Int)) ∧ V.cell? ⟨gr, t * 2 + 1, none⟩ = some (.int .i64 (t2 : Int)) ∧ V.cell? ⟨P.ga, t2 * 3 + 1, none⟩ = some (.int .i64 hh2)) ∧ V.cell? ⟨q1, 1, none⟩ = some (.int .i64 h) ∧ V.cell? ⟨q1, 2, none⟩ = some (.int .i64 (t : Int)))) (by kernel_rfl) (HFC.out _ ((Below.refl _ _).drew)) (fun hHeld => ?_)
    refine takeY 0 (some 135) rfl rfl (by kernel_rfl) (by kernel_rfl) (by kernel_rfl) (fun _ _ _ h => h) (by rfl) (v := _) (by (intro _ hSw; (try dsimp only at hSw); go_simp; try with_reducible rfl)) hHeld ?_
    simp only [Act.put, List.setIfInBounds_toArray, List.set_cons_zero, List.set_cons_succ]
    refine takeY 1 (some 136) rfl rfl (by kernel_rfl) (by kernel_rfl) (by kernel_rfl) (fun _ _ _ h => h) (by rfl) (v := _) (by (intro _ hSw; (try dsimp only at hSw); go_simp; try with_reducible rfl)) hHeld ?_
    simp only [Act.put, List.setIfInBounds_toArray, List.set_cons_zero, List.set_cons_succ]
    refine takeY 2 (some 137) rfl rfl (by kernel_rfl) (by kernel_rfl) (by kernel_rfl) (fun _ _ _ h => h) (by rfl) (v := _) (by (intro _ hSw; (try dsimp only at hSw); go_simp; try with_reducible rfl)) hHeld ?_
    simp only [Act.put, List.setIfInBounds_toArray, List.set_cons_zero, List.set_cons_succ]
    refine takeY 3 (some 138) rfl rfl (by kernel_rfl) (by kernel_rfl) (by kernel_rfl) (fun _ _ _ h => h) (by rfl) (v := _) (by (intro _ hSw; (try dsimp only at hSw); go_simp; try with_reducible rfl)) hHeld ?_
    simp only [Act.put, List.setIfInBounds_toArray, List.set_cons_zero, List.set_cons_succ]
    refine takeY 4 (some 139) rfl rfl (by kernel_rfl) (by kernel_rfl) (by kernel_rfl) (fun _ _ _ h => h) (by rfl) (v := _) (by (intro _ hSw; (try dsimp only at hSw); go_simp; try with_reducible rfl)) hHeld ?_
    simp only [Act.put, List.setIfInBounds_toArray, List.set_cons_zero, List.set_cons_succ]
    refine takeY 5 (some 140) rfl rfl (by kernel_rfl) (by kernel_rfl) (by kernel_rfl) (fun _ _ _ h => h) (by rfl) (v := _) (by (intro _ hSw; (try dsimp only at hSw); go_simp; try with_reducible rfl)) hHeld ?_
    simp only [Act.put, List.setIfInBounds_toArray, List.set_cons_zero, List.set_cons_succ]
    refine takeY 6 (some 141) rfl rfl (by kernel_rfl) (by kernel_rfl) (by kernel_rfl) (fun _ _ _ h => h) (by rfl) (v := _) (by (intro _ hSw; (try dsimp only at hSw); go_simp; try with_reducible rfl)) hHeld ?_
    simp only [Act.put, List.setIfInBounds_toArray, List.set_cons_zero, List.set_cons_succ]
    refine takeY 7 (some 142) rfl rfl (by kernel_rfl) (by kernel_rfl) (by kernel_rfl) (fun _ _ _ h => h) (by rfl) (v := _) (by (intro _ hSw; (try dsimp only at hSw); go_simp; try with_reducible rfl)) hHeld ?_
    simp only [Act.put, List.setIfInBounds_toArray, List.set_cons_zero, List.set_cons_succ]
    refine takeN 8 (some 143) rfl rfl (by kernel_rfl) (by kernel_rfl) (by kernel_rfl) (fun _ _ _ h => h) (by rfl) hHeld ?_
    simp only [Act.put, List.setIfInBounds_toArray, List.set_cons_zero, List.set_cons_succ]
    refine takeN 9 (some 144) rfl rfl (by kernel_rfl) (by kernel_rfl) (by kernel_rfl) (fun _ _ _ h => h) (by rfl) hHeld ?_
    simp only [Act.put, List.setIfInBounds_toArray, List.set_cons_zero, List.set_cons_succ]
    refine takeN 10 (some 145) rfl rfl (by kernel_rfl) (by kernel_rfl) (by kernel_rfl) (fun _ _ _ h => h) (by rfl) hHeld ?_
    simp only [Act.put, List.setIfInBounds_toArray, List.set_cons_zero, List.set_cons_succ]
    refine takeN 11 (some 146) rfl rfl (by kernel_rfl) (by kernel_rfl) (by kernel_rfl) (fun _ _ _ h => h) (by rfl) hHeld ?_
    simp only [Act.put, List.setIfInBounds_toArray, List.set_cons_zero, List.set_cons_succ]
    refine takeN 12 (some 147) rfl rfl (by kernel_rfl) (by kernel_rfl) (by kernel_rfl) (fun _ _ _ h => h) (by rfl) hHeld ?_
    simp only [Act.put, List.setIfInBounds_toArray, List.set_cons_zero, List.set_cons_succ]
    refine takeN 13 (some 148) rfl rfl (by kernel_rfl) (by kernel_rfl) (by kernel_rfl) (fun _ _ _ h => h) (by rfl) hHeld ?_
    simp only [Act.put, List.setIfInBounds_toArray, List.set_cons_zero, List.set_cons_succ]
    refine takeN 14 (some 149) rfl rfl (by kernel_rfl) (by kernel_rfl) (by kernel_rfl) (fun _ _ _ h => h) (by rfl) hHeld ?_
    simp only [Act.put, List.setIfInBounds_toArray, List.set_cons_zero, List.set_cons_succ]
    refine takeN 15 (some 150) rfl rfl (by kernel_rfl) (by kernel_rfl) (by kernel_rfl) (fun _ _ _ h => h) (by rfl) hHeld ?_
    simp only [Act.put, List.setIfInBounds_toArray, List.set_cons_zero, List.set_cons_succ]
    refine takeN 16 (some 151) rfl rfl (by kernel_rfl) (by kernel_rfl) (by kernel_rfl) (fun _ _ _ h => h) (by rfl) hHeld ?_
    simp only [Act.put, List.setIfInBounds_toArray, List.set_cons_zero, List.set_cons_succ]
    refine takeN 17 (some 152) rfl rfl (by kernel_rfl) (by kernel_rfl) (by kernel_rfl) (fun _ _ _ h => h) (by rfl) hHeld ?_
    simp only [Act.put, List.setIfInBounds_toArray, List.set_cons_zero, List.set_cons_succ]
    refine takeN 18 (some 153) rfl rfl (by kernel_rfl) (by kernel_rfl) (by kernel_rfl) (fun _ _ _ h => h) (by rfl) hHeld ?_
    simp only [Act.put, List.setIfInBounds_toArray, List.set_cons_zero, List.set_cons_succ]
    refine takeN 19 (some 154) rfl rfl (by kernel_rfl) (by kernel_rfl) (by kernel_rfl) (fun _ _ _ h => h) (by rfl) hHeld ?_
    simp only [Act.put, List.setIfInBounds_toArray, List.set_cons_zero, List.set_cons_succ]
    refine takeN 20 (some 155) rfl rfl (by kernel_rfl) (by kernel_rfl) (by kernel_rfl) (fun _ _ _ h => h) (by rfl) hHeld ?_
    simp only [Act.put, List.setIfInBounds_toArray, List.set_cons_zero, List.set_cons_succ]
    refine takeN 21 (some 156) rfl rfl (by kernel_rfl) (by kernel_rfl) (by kernel_rfl) (fun _ _ _ h => h) (by rfl) hHeld ?_
    simp only [Act.put, List.setIfInBounds_toArray, List.set_cons_zero, List.set_cons_succ]
    refine takeN 22 (some 157) rfl rfl (by kernel_rfl) (by kernel_rfl) (by kernel_rfl) (fun _ _ _ h => h) (by rfl) hHeld ?_
    simp only [Act.put, List.setIfInBounds_toArray, List.set_cons_zero, List.set_cons_succ]
    refine takeN 23 (some 158) rfl rfl (by kernel_rfl) (by kernel_rfl) (by kernel_rfl) (fun _ _ _ h => h) (by rfl) hHeld ?_
    simp only [Act.put, List.setIfInBounds_toArray, List.set_cons_zero, List.set_cons_succ]
    refine takeN 24 (some 159) rfl rfl (by kernel_rfl) (by kernel_rfl) (by kernel_rfl) (fun _ _ _ h => h) (by rfl) hHeld ?_
    simp only [Act.put, List.setIfInBounds_toArray, List.set_cons_zero, List.set_cons_succ]
    refine takeN 25 (some 160) rfl rfl (by kernel_rfl) (by kernel_rfl) (by kernel_rfl) (fun _ _ _ h => h) (by rfl) hHeld ?_
    simp only [Act.put, List.setIfInBounds_toArray, List.set_cons_zero, List.set_cons_succ]
    refine takeN 26 (some 161) rfl rfl (by kernel_rfl) (by kernel_rfl) (by kernel_rfl) (fun _ _ _ h => h) (by rfl) hHeld ?_
    simp only [Act.put, List.setIfInBounds_toArray, List.set_cons_zero, List.set_cons_succ]
    refine takeN 27 (some 162) rfl rfl (by kernel_rfl) (by kernel_rfl) (by kernel_rfl) (fun _ _ _ h => h) (by rfl) hHeld ?_
    simp only [Act.put, List.setIfInBounds_toArray, List.set_cons_zero, List.set_cons_succ]
    refine takeY 28 (some 163) rfl rfl (by kernel_rfl) (by kernel_rfl) (by kernel_rfl) (fun _ _ _ h => h) (by rfl) (v := _) (by (intro _ hSw; (try dsimp only at hSw); go_simp; try with_reducible rfl)) hHeld ?_
    simp only [Act.put, List.setIfInBounds_toArray, List.set_cons_zero, List.set_cons_succ]
    refine wpAnyH_ready (rs := [29]) (by kernel_rfl) (by simp) ?_
    refine AllReadyH.cons rfl (fun K hK => ?_) AllReadyH.nil
    clear hHeld
    go_simp
    (go_at_call 39; refine (HAN.out _).mono ?_; rintro e w8 ⟨rfl, rfl⟩)
    exact ⟨rfl, HS.out.post (HB2.out.drew) (by rw [HZ.out]; rfl) (fun V hV => by rw [HZ.out] at hV; cases hV)⟩
end Go.Proofs.Ytimkiifcmegfeaa
/- code: step (written by cdstep2.py). -/
namespace Go.Proofs.Ytimkiifcmegfeaa
open Go.RowKit
set_option linter.unusedVariables false
set_option linter.unusedSimpArgs false
attribute [local go_sem] Oper.semAt_some
set_option maxRecDepth 20000 in
set_option maxHeartbeats 4000000 in
theorem step_E (P : Pl) (vw vr : Value) (W : Wk) (l : Nat) (H : Int) (m pm N : Nat) (g : Int × Int) (cl : Cl) (gv : Value) (p : Nat) (h : Int) (t : Nat) (k : Nat) (hk : effOp k = true) (a b : Int) (ha : -4611686018427387904 ≤ a ∧ a ≤ 4611686018427387903) (c : Int) (tx : List UInt8) (w : World) (s : StM w P vw vr W l H m pm N g cl gv) (hx : W.at_[p]? = some (some (h, t))) (hH : H + 1000001 ≤ 1000000000000) (hl1 : l + 1 < 900000) (htl : tx.length ≤ maxLen) (hxy : ∀ x y, Wk.eff (decide (P.fn = 0)) g (h, t) ⟨k, a, b, c, tx⟩ = some (x, y) → (0 ≤ x ∧ x ≤ 1000000) ∧ 0 ≤ y ∧ y ≤ 1000000) (R : Option Wk)
    (hR : R = (Wk.eff (decide (P.fn = 0)) g (h, t) ⟨k, a, b, c, tx⟩).bind fun e => W.on (decide (P.fn = 0)) p (h, t) e.1 e.2) :
    Calls Try.prog 65 #[.pointer (some ⟨P.gw, 0, none⟩), .int .i64 (p : Int), .agg #[.int .u8 (k : Int), .int .i64 a, .int .i64 b, .int .i64 c, .string (str tx)]] w (StepPost P R pm N w) := by
  obtain ⟨hs1, hs2, hs3⟩ := s.b.ok.ht p (h, t) hx
  have hpn : p < P.n := by rw [← s.b.ok.len]; exact (List.getElem?_eq_some_iff.1 hx).1
  have hn := s.b.n
  have hh : 0 ≤ h ∧ h ≤ 1000000000000 := ⟨hs1, by have h1 : h ≤ H := hs2; omega⟩
  have ht : t < W.rows.length := hs3
  have hhH : h ≤ H := hs2
  have hh1 := hh.1
  obtain ⟨q, hq⟩ : ∃ q, w.heap.size = q := ⟨_, rfl⟩
  obtain ⟨q1, hq1⟩ : ∃ q1, q + 1 = q1 := ⟨_, rfl⟩
  obtain ⟨w1, hw1⟩ : ∃ V, w.alloc (.cells #[.int .u8 (k : Int), .int .i64 a, .int .i64 b, .int .i64 c, .string (str tx)] 46) = V := ⟨_, rfl⟩
  obtain ⟨w2, hw2⟩ : ∃ V, w1.alloc (.cells #[.bool true, .int .i64 h, .int .i64 (t : Int)] 139) = V := ⟨_, rfl⟩
  obtain ⟨hb1, hb2, s1, bx⟩ := st_box (k : Int) a b c h t (str tx) w w1 w2 q q1 hq hq1 hw1 hw2 s.b.wk
  have m1 := s.b.wk.bel hb1
  have d2 := m1.told.2.2.1
  have y0 : w1.cell? ⟨P.ga, p * 3, none⟩ = some (.bool true) := m1.place hx 0 _ rfl
  have y1 : w1.cell? ⟨P.ga, p * 3 + 1, none⟩ = some (.int .i64 h) := m1.place hx 1 _ rfl
  have y2 : w1.cell? ⟨P.ga, p * 3 + 2, none⟩ = some (.int .i64 (t : Int)) := m1.place hx 2 _ rfl
  have S2 := Lib.hid (s.bel hb2)
  obtain ⟨z0, z1, z2, z3, z4, u0, u1, u2⟩ := bx.cells
  have X2 := Lib.hid bx
  have HB2 := Lib.hid (hb2.mono s.b.big)
  have HW := Lib.hid (And.intro hw1 (And.intro hq (And.intro hw2 (And.intro s1 (And.intro hq1 hb2)))))
  have HB := Lib.hid (And.intro hpn (And.intro hh (And.intro ht hn)))
  have HR := Lib.hid hR
  have HS := Lib.hid s
  have HX := Lib.hid hx
  have c0 := S2.out.b.wk.told.1
  have c1 := S2.out.b.wk.told.2.1
  have HAN := Lib.hid (fun V => ask_no (.pointer (some ⟨P.gk, 0, none⟩)) V)
  have HAY := Lib.hid (fun V => ask_yes (.pointer (some ⟨P.gk, 0, none⟩)) V)
  have e8 : ((k : Int) == 8) = false := by
    rw [beq_eq_false_iff_ne]
    intro e
    have e9 : k = 8 := by omega
    rw [e9] at hk
    exact absurd hk (by decide)
  have e25 : ((k : Int) == 25) = false := by
    rw [beq_eq_false_iff_ne]
    intro e
    have e9 : k = 25 := by omega
    rw [e9] at hk
    exact absurd hk (by decide)
  have e17 : ((k : Int) == 17) = false := by
    rw [beq_eq_false_iff_ne]
    intro e
    have e9 : k = 17 := by omega
    rw [e9] at hk
    exact absurd hk (by decide)
  have e9 : ((k : Int) == 9) = false := by
    rw [beq_eq_false_iff_ne]
    intro e
    have e9 : k = 9 := by omega
    rw [e9] at hk
    exact absurd hk (by decide)
  have e10 : ((k : Int) == 10) = false := by
    rw [beq_eq_false_iff_ne]
    intro e
    have e9 : k = 10 := by omega
    rw [e9] at hk
    exact absurd hk (by decide)
  have e18 : ((k : Int) == 18) = false := by
    rw [beq_eq_false_iff_ne]
    intro e
    have e9 : k = 18 := by omega
    rw [e9] at hk
    exact absurd hk (by decide)
  have e19 : ((k : Int) == 19) = false := by
    rw [beq_eq_false_iff_ne]
    intro e
    have e9 : k = 19 := by omega
    rw [e9] at hk
    exact absurd hk (by decide)
  have e23 : ((k : Int) == 23) = false := by
    rw [beq_eq_false_iff_ne]
    intro e
    have e9 : k = 23 := by omega
    rw [e9] at hk
    exact absurd hk (by decide)
  have HK := Lib.hid (And.intro hk (And.intro ha (And.intro htl hxy)))
  have hB1 : P.B ≤ q := by rw [← hq]; exact s.b.big
  have HBQ := Lib.hid (And.intro hB1 (show P.B ≤ q1 by omega))
  have HWP : Hid (IntKind.i64.wrap ((p : Int) + 1) = ((p + 1 : Nat) : Int)) := Lib.hid (IntWalk.i64_in _ ⟨by omega, by omega⟩)
  clear hB1 hk ha htl hxy
  clear hb1 hb2 s1 bx m1 hw1 hw2 hq hq1 hR s hx hs1 hs2 hs3
  go_enter Try.func65, Try.ntmps65
  go_upto_region 1 with fail
  (try rw [HW.out.1])
  (try rw [HW.out.2.1])
  go_upto_region 2 with fail
  (try rw [HW.out.2.2.1])
  (try rw [HW.out.2.2.2.1])
  clear d2 y0 y1 y2
  cases hc0 : Wk.eff (decide (P.fn = 0)) g (h, t) ⟨k, a, b, c, tx⟩ with
  | none =>
    have HC := Lib.hid (S2.out.eff_no HK.out.1 HK.out.2.1 HK.out.2.2.1 hc0)
    have HZ : Hid (R = none) := Lib.hid (by rw [HR.out, hc0]; rfl)
    go_wp2_with fail
    refine HC.out.mono ?_
    rintro e w3 ⟨rfl, hp3, ho3⟩
    exact ⟨rfl, HS.out.postE HB2.out hp3 ho3 (Below.refl _ _) (by rw [HZ.out]; rfl) (fun V hV => by rw [HZ.out] at hV; cases hV)⟩
  | some xy =>
    obtain ⟨x, y⟩ := xy
    obtain ⟨⟨hx1, hx2⟩, hy1, hy2⟩ := HK.out.2.2.2 x y hc0
    have HC := Lib.hid (S2.out.eff_yes HK.out.1 HK.out.2.1 HK.out.2.2.1 hc0)
    have HRX : Hid (R = (W.take (decide (P.fn = 0)) (h, t) x).bind fun h' => W.come (p + 1) (h' + y) t) := Lib.hid (by rw [HR.out, hc0]; rfl)
    go_wp2_with fail
    refine HC.out.mono ?_
    rintro e w3 ⟨rfl, hp3, ho3⟩
    have HP3 := Lib.hid (And.intro hp3 ho3)
    have hlt : ∀ k, k = pm → k < P.B := fun k e => by rw [e]; exact HS.out.pm
    have S3 : Hid (StB w3 P vw vr W l H) := Lib.hid ⟨S2.out.b.wk.off ho3 hlt, S2.out.b.ok, S2.out.b.l, S2.out.b.n, S2.out.b.fn, S2.out.b.h⟩
    have X3 := Lib.hid (X2.out.off ho3 hlt HBQ.out)
    clear HC hp3 ho3 hlt z0 z1 z2 z3 z4 u0 u1 u2 c0 c1
    have S3d := Lib.hid (S3.out.bel ((Below.refl _ _).drew))
    have HKB : Hid (∀ V, Below w3.heap.size w3 V → V.cell? ⟨q1, 0, none⟩ = some (.bool true) ∧ V.cell? ⟨q1, 1, none⟩ = some (.int .i64 h) ∧ V.cell? ⟨q1, 2, none⟩ = some (.int .i64 (t : Int))) := Lib.hid fun V k => (X3.out.bel k).cells.2.2.2.2.2
    have HBD : Hid (∀ V, Below w3.drew.heap.size w3.drew V → Below w3.heap.size w3 V) := Lib.hid fun V k => ((Below.refl _ _).drew).trans k
    cases hc1 : W.take (decide (P.fn = 0)) (h, t) x with
    | none =>
      have HCT := Lib.hid (S3d.out.take_no hc1 HB.out.2.2.1 HB.out.2.1 ⟨hx1, hx2⟩)
      have HZ : Hid (R = none) := Lib.hid (by rw [HRX.out, hc1]; rfl)
      go_wp2_with fail
      refine wp_region_held_drew (S := (fun V => V.cell? ⟨q1, 0, none⟩ = some (.bool true) ∧ V.cell? ⟨q1, 1, none⟩ = some (.int .i64 h) ∧ V.cell? ⟨q1, 2, none⟩ = some (.int .i64 (t : Int)))) (by kernel_rfl) (HKB.out _ ((Below.refl _ _).drew)) (fun hHeld => ?_)
      refine takeY 0 (some 26) rfl rfl (by kernel_rfl) (by kernel_rfl) (by kernel_rfl) (fun _ _ _ h => h) (by rfl) (v := _) (by (intro _ hSw; (try dsimp only at hSw); go_simp; try with_reducible rfl)) hHeld ?_
      simp only [Act.put, List.setIfInBounds_toArray, List.set_cons_zero, List.set_cons_succ]
      refine takeY 1 (some 27) rfl rfl (by kernel_rfl) (by kernel_rfl) (by kernel_rfl) (fun _ _ _ h => h) (by rfl) (v := _) (by (intro _ hSw; (try dsimp only at hSw); go_simp; try with_reducible rfl)) hHeld ?_
      simp only [Act.put, List.setIfInBounds_toArray, List.set_cons_zero, List.set_cons_succ]
      refine takeY 2 (some 28) rfl rfl (by kernel_rfl) (by kernel_rfl) (by kernel_rfl) (fun _ _ _ h => h) (by rfl) (v := _) (by (intro _ hSw; (try dsimp only at hSw); go_simp; try with_reducible rfl)) hHeld ?_
      simp only [Act.put, List.setIfInBounds_toArray, List.set_cons_zero, List.set_cons_succ]
      refine takeY 3 (some 29) rfl rfl (by kernel_rfl) (by kernel_rfl) (by kernel_rfl) (fun _ _ _ h => h) (by rfl) (v := _) (by (intro _ hSw; (try dsimp only at hSw); go_simp; try with_reducible rfl)) hHeld ?_
      simp only [Act.put, List.setIfInBounds_toArray, List.set_cons_zero, List.set_cons_succ]
      refine takeY 4 (some 30) rfl rfl (by kernel_rfl) (by kernel_rfl) (by kernel_rfl) (fun _ _ _ h => h) (by rfl) (v := _) (by (intro _ hSw; (try dsimp only at hSw); go_simp; try with_reducible rfl)) hHeld ?_
      simp only [Act.put, List.setIfInBounds_toArray, List.set_cons_zero, List.set_cons_succ]
      refine takeY 5 (some 31) rfl rfl (by kernel_rfl) (by kernel_rfl) (by kernel_rfl) (fun _ _ _ h => h) (by rfl) (v := _) (by (intro _ hSw; (try dsimp only at hSw); go_simp; try with_reducible rfl)) hHeld ?_
      simp only [Act.put, List.setIfInBounds_toArray, List.set_cons_zero, List.set_cons_succ]
      refine takeY 7 (some 33) rfl rfl (by kernel_rfl) (by kernel_rfl) (by kernel_rfl) (fun _ _ _ h => h) (by rfl) (v := _) (by (intro _ hSw; (try dsimp only at hSw); go_simp; try with_reducible rfl)) hHeld ?_
      simp only [Act.put, List.setIfInBounds_toArray, List.set_cons_zero, List.set_cons_succ]
      refine takeY 9 (some 35) rfl rfl (by kernel_rfl) (by kernel_rfl) (by kernel_rfl) (fun _ _ _ h => h) (by rfl) (v := _) (by (intro _ hSw; (try dsimp only at hSw); go_simp; try with_reducible rfl)) hHeld ?_
      simp only [Act.put, List.setIfInBounds_toArray, List.set_cons_zero, List.set_cons_succ]
      refine takeY 10 (some 36) rfl rfl (by kernel_rfl) (by kernel_rfl) (by kernel_rfl) (fun _ _ _ h => h) (by rfl) (v := _) (by (intro _ hSw; (try dsimp only at hSw); go_simp; try with_reducible rfl)) hHeld ?_
      simp only [Act.put, List.setIfInBounds_toArray, List.set_cons_zero, List.set_cons_succ]
      refine wpAnyH_ready (rs := [6]) (by kernel_rfl) (by simp) ?_
      refine AllReadyH.cons rfl (fun K hK => ?_) AllReadyH.nil
      clear hHeld
      go_simp
      (go_at_call 73; refine HCT.out.mono ?_; rintro e w8 ⟨rfl, hb8⟩)
      exact ⟨rfl, HS.out.postE HB2.out HP3.out.1 HP3.out.2 (((Below.refl _ _).drew).trans (hb8.mono S3d.out.big)) (by rw [HZ.out]; rfl) (fun V hV => by rw [HZ.out] at hV; cases hV)⟩
    | some h1 =>
      obtain ⟨⟨he1, hn1⟩, hCT⟩ := S3d.out.take_yes hc1 HB.out.2.2.1 HB.out.2.1 ⟨hx1, hx2⟩
      have HCT := Lib.hid hCT
      have HWS : Hid (IntKind.i64.wrap (h1 + y) = h1 + y) := Lib.hid (IntWalk.i64_in _ ⟨by omega, by omega⟩)
      have HH1 := Lib.hid (And.intro he1 hn1)
      clear hCT he1
      cases hc2 : W.come (p + 1) (h1 + y) t with
      | none =>
        have HCM := Lib.hid (fun V (k : Below w3.drew.heap.size w3.drew V) => (S3d.out.bel k).come_no hc2 (by have := HB.out.1; have := HB.out.2.2.2; omega))
        have HZ : Hid (R = none) := Lib.hid (by rw [HRX.out, hc1]; exact hc2)
        go_wp2_with fail
        refine wp_region_held_drew (S := (fun V => V.cell? ⟨q1, 0, none⟩ = some (.bool true) ∧ V.cell? ⟨q1, 1, none⟩ = some (.int .i64 h) ∧ V.cell? ⟨q1, 2, none⟩ = some (.int .i64 (t : Int)))) (by kernel_rfl) (HKB.out _ ((Below.refl _ _).drew)) (fun hHeld => ?_)
        refine takeY 0 (some 26) rfl rfl (by kernel_rfl) (by kernel_rfl) (by kernel_rfl) (fun _ _ _ h => h) (by rfl) (v := _) (by (intro _ hSw; (try dsimp only at hSw); go_simp; try with_reducible rfl)) hHeld ?_
        simp only [Act.put, List.setIfInBounds_toArray, List.set_cons_zero, List.set_cons_succ]
        refine takeY 1 (some 27) rfl rfl (by kernel_rfl) (by kernel_rfl) (by kernel_rfl) (fun _ _ _ h => h) (by rfl) (v := _) (by (intro _ hSw; (try dsimp only at hSw); go_simp; try with_reducible rfl)) hHeld ?_
        simp only [Act.put, List.setIfInBounds_toArray, List.set_cons_zero, List.set_cons_succ]
        refine takeY 2 (some 28) rfl rfl (by kernel_rfl) (by kernel_rfl) (by kernel_rfl) (fun _ _ _ h => h) (by rfl) (v := _) (by (intro _ hSw; (try dsimp only at hSw); go_simp; try with_reducible rfl)) hHeld ?_
        simp only [Act.put, List.setIfInBounds_toArray, List.set_cons_zero, List.set_cons_succ]
        refine takeY 3 (some 29) rfl rfl (by kernel_rfl) (by kernel_rfl) (by kernel_rfl) (fun _ _ _ h => h) (by rfl) (v := _) (by (intro _ hSw; (try dsimp only at hSw); go_simp; try with_reducible rfl)) hHeld ?_
        simp only [Act.put, List.setIfInBounds_toArray, List.set_cons_zero, List.set_cons_succ]
        refine takeY 4 (some 30) rfl rfl (by kernel_rfl) (by kernel_rfl) (by kernel_rfl) (fun _ _ _ h => h) (by rfl) (v := _) (by (intro _ hSw; (try dsimp only at hSw); go_simp; try with_reducible rfl)) hHeld ?_
        simp only [Act.put, List.setIfInBounds_toArray, List.set_cons_zero, List.set_cons_succ]
        refine takeY 5 (some 31) rfl rfl (by kernel_rfl) (by kernel_rfl) (by kernel_rfl) (fun _ _ _ h => h) (by rfl) (v := _) (by (intro _ hSw; (try dsimp only at hSw); go_simp; try with_reducible rfl)) hHeld ?_
        simp only [Act.put, List.setIfInBounds_toArray, List.set_cons_zero, List.set_cons_succ]
        refine takeY 7 (some 33) rfl rfl (by kernel_rfl) (by kernel_rfl) (by kernel_rfl) (fun _ _ _ h => h) (by rfl) (v := _) (by (intro _ hSw; (try dsimp only at hSw); go_simp; try with_reducible rfl)) hHeld ?_
        simp only [Act.put, List.setIfInBounds_toArray, List.set_cons_zero, List.set_cons_succ]
        refine takeY 9 (some 35) rfl rfl (by kernel_rfl) (by kernel_rfl) (by kernel_rfl) (fun _ _ _ h => h) (by rfl) (v := _) (by (intro _ hSw; (try dsimp only at hSw); go_simp; try with_reducible rfl)) hHeld ?_
        simp only [Act.put, List.setIfInBounds_toArray, List.set_cons_zero, List.set_cons_succ]
        refine takeY 10 (some 36) rfl rfl (by kernel_rfl) (by kernel_rfl) (by kernel_rfl) (fun _ _ _ h => h) (by rfl) (v := _) (by (intro _ hSw; (try dsimp only at hSw); go_simp; try with_reducible rfl)) hHeld ?_
        simp only [Act.put, List.setIfInBounds_toArray, List.set_cons_zero, List.set_cons_succ]
        refine wpAnyH_ready (rs := [6]) (by kernel_rfl) (by simp) ?_
        refine AllReadyH.cons rfl (fun K hK => ?_) AllReadyH.nil
        clear hHeld
        go_simp
        go_wp2_with ((go_at_call 73; refine HCT.out.mono ?_; rintro e w9 ⟨rfl, hb9⟩))
        refine hK.out _ _ (HKB.out _ (HBD.out _ hb9)) (fun hHeld => ?_)
        clear hK K
        refine takeY 8 (some 34) rfl rfl (by kernel_rfl) (by kernel_rfl) (by kernel_rfl) (fun _ _ _ h => h) (by rfl) (v := _) (by (intro _ hSw; (try dsimp only at hSw); go_simp; try with_reducible rfl)) hHeld ?_
        simp only [Act.put, List.setIfInBounds_toArray, List.set_cons_zero, List.set_cons_succ]
        refine wpAnyH_ready (rs := [11]) (by kernel_rfl) (by simp) ?_
        refine AllReadyH.cons rfl (fun K hK => ?_) AllReadyH.nil
        clear hHeld
        go_simp
        (go_at_call 64; (try rw [HWP.out]); (try rw [HWS.out]); refine (HCM.out _ hb9).mono ?_; rintro e w8 ⟨rfl, hb8⟩)
        exact ⟨rfl, HS.out.postE HB2.out HP3.out.1 HP3.out.2 (((Below.refl _ _).drew).trans ((hb9.mono S3d.out.big).trans hb8)) (by rw [HZ.out]; rfl) (fun V hV => by rw [HZ.out] at hV; cases hV)⟩
      | some V0 =>
        have HCM := Lib.hid (fun V (k : Below w3.drew.heap.size w3.drew V) => (S3d.out.bel k).come_yes hc2 (by have := HB.out.1; have := HB.out.2.2.2; omega))
        have HZ : Hid (R = some V0) := Lib.hid (by rw [HRX.out, hc1]; exact hc2)
        go_wp2_with fail
        go_region_held3 (fun V => V.cell? ⟨q1, 0, none⟩ = some (.bool true) ∧ V.cell? ⟨q1, 1, none⟩ = some (.int .i64 h) ∧ V.cell? ⟨q1, 2, none⟩ = some (.int .i64 (t : Int)))
          (first | exact (HKB.out _ ((Below.refl _ _).drew)) | exact (HKB.out _ (HBD.out _ hb9)) | exact (((X3.out.bel (HBD.out _ hb9)).goes_w ho8 g8).cells.2.2.2.2.2))
          (first
            | (go_at_call 73; refine HCT.out.mono ?_; rintro e w9 ⟨rfl, hb9⟩)
            | (go_at_call 64; (try rw [HWP.out]); (try rw [HWS.out]); refine (HCM.out _ hb9).mono ?_; rintro e w8 ⟨rfl, hm8, ho8⟩; obtain ⟨vw8, k8, g8⟩ := hm8))
        have HE : Hid (StepPost P R pm N w (.returned (.tuple #[])) w8) := Lib.hid (HS.out.postE HB2.out HP3.out.1 HP3.out.2 (((Below.refl _ _).drew).trans ((hb9.mono S3d.out.big).trans ((S3d.out.bel hb9).wk.below ho8))) (by rw [HZ.out]; rfl) (fun V hV => by rw [HZ.out] at hV; cases hV; exact ⟨_, _, k8⟩))
        clear hb9 k8 g8 ho8
        go_wp2_with fail
        (first | go_end0 | refine bodyPost_ret (results_none rfl _ _ _) rfl ?_)
        exact HE.out
end Go.Proofs.Ytimkiifcmegfeaa
