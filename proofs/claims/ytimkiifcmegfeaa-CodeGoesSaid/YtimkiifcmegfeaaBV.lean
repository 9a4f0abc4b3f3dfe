/- Contracts, part BV. -/
import Derived.Test.YtimkiifcmegfeaaBP
/- code: effect (written by cdeff.py). -/
namespace Go.Proofs.Ytimkiifcmegfeaa
open Go.RowKit
set_option linter.unusedVariables false
set_option linter.unusedSimpArgs false
attribute [local go_sem] Oper.semAt_some
set_option maxRecDepth 20000 in
set_option maxHeartbeats 2000000 in
theorem effect_1 (a b c h : Int) (t : Nat) (tx : List UInt8) (gw gk fn m pm N : Nat) (g1 g2 : Int) (cl : Cl) (gv : Value) (w : World) (hM : EfM w gw gk fn m pm N (g1, g2) cl gv) (ha : -4611686018427387904 ≤ a ∧ a ≤ 4611686018427387903) (htl : tx.length ≤ maxLen) (r : Option (Int × Int))
    (hr : r = some (0, 1)) :
    Calls Try.prog 75 #[.pointer (some ⟨gw, 0, none⟩), .agg #[.bool true, .int .i64 h, .int .i64 (t : Int)], .agg #[.int .u8 1, .int .i64 a, .int .i64 b, .int .i64 c, .string (str tx)]] w fun e w' => e = effE r ∧ PrMap w' pm (N + 1) ∧ Off (fun k => k = pm) w w' := by
  obtain ⟨ha1, ha2⟩ := ha
  obtain ⟨q, hq⟩ : ∃ q, w.heap.size = q := ⟨_, rfl⟩
  obtain ⟨q1, hq1⟩ : ∃ q1, q + 1 = q1 := ⟨_, rfl⟩
  obtain ⟨q2, hq2⟩ : ∃ q2, q1 + 1 = q2 := ⟨_, rfl⟩
  obtain ⟨w1, hw1⟩ : ∃ V, w.alloc (.cells #[.bool true, .int .i64 h, .int .i64 (t : Int)] 139) = V := ⟨_, rfl⟩
  obtain ⟨w2, hw2⟩ : ∃ V, w1.alloc (.cells #[.int .u8 1, .int .i64 a, .int .i64 b, .int .i64 c, .string (str tx)] 46) = V := ⟨_, rfl⟩
  obtain ⟨w3, hw3⟩ : ∃ V, (w2.alloc (.cells #[.int .i64 g1, .int .i64 g2] 124)).drew = V := ⟨_, rfl⟩
  obtain ⟨hb2, hb3, s1, s2, B1, B2, B3⟩ := ef_box 1 a b c h t (str tx) (g1, g2) w w1 w2 w3 q q1 q2 hq hq1 hq2 hw1 hw2 hw3
  have hM2 := hM.bel hb2
  have hM3 := hM.bel hb3
  obtain ⟨gg, hgv, _, _⟩ := hM.g
  subst hgv
  obtain ⟨gg2, hgv, u0, u1⟩ := hM2.g
  injection hgv with hgv
  injection hgv with hgv
  injection hgv with hgv
  subst hgv
  have c0 := hM2.c0
  have c1 := hM2.c1
  have ck1 : w2.cell? ⟨gk, 2, none⟩ = some (.slice (some ⟨gg, 0, none⟩) m m) := Blk.cell hM2.ck 2
  have hbz : Below w2.heap.size w2 (w2.alloc (.cells #[.int .i64 0, .int .i64 0] 124)) := (Below.refl _ _).alloc (Nat.le_refl _) _
  have n0 := (hbz.cell (World.block_lt_of_cell? w2 _ c0)).trans c0
  have n1 := (hbz.cell (World.block_lt_of_cell? w2 _ c1)).trans c1
  have n2 := (hbz.cell (World.block_lt_of_cell? w2 _ ck1)).trans ck1
  have n3 := (hbz.cell (World.block_lt_of_cell? w2 _ u0)).trans u0
  have n4 := (hbz.cell (World.block_lt_of_cell? w2 _ u1)).trans u1
  clear hbz
  have hfm := hM.fm.1
  have hmm := hM.fm.2
  have HS : Hid (∀ V, Below w3.heap.size w3 V → (V.cell? ⟨gw, 0, none⟩ = some (.pointer (some ⟨gk, 0, none⟩)) ∧ V.cell? ⟨gw, 1, none⟩ = some (.int .i64 (fn : Int))) ∧ (V.cell? ⟨q, 0, none⟩ = some (.bool true) ∧ V.cell? ⟨q, 1, none⟩ = some (.int .i64 h) ∧ V.cell? ⟨q, 2, none⟩ = some (.int .i64 (t : Int))) ∧ (V.cell? ⟨q1, 1, none⟩ = some (.int .i64 a) ∧ V.cell? ⟨q1, 4, none⟩ = some (.string (str tx))) ∧ V.cell? ⟨q2, 0, none⟩ = some (.int .i64 g1) ∧ V.cell? ⟨q2, 1, none⟩ = some (.int .i64 g2)) := Lib.hid fun V hV => by
    have k0 := hM3.bel hV
    have k1 := B1.below hV B1.lt
    have k2 := B2.below hV B2.lt
    have k3 := B3.below hV B3.lt
    exact ⟨⟨k0.c0, k0.c1⟩, ⟨k1.cell 0, k1.cell 1, k1.cell 2⟩, ⟨k2.cell 1, k2.cell 4⟩, k3.cell 0, k3.cell 1⟩
  have HD : Hid (∀ V, Below w3.heap.size w3 V → PrMap V pm (N + 1) ∧ Off (fun k => k = pm) w V) := Lib.hid fun V hV => ⟨(hM3.pr.bel hV).le (by omega), Off.of_new (hb3.trans (hV.mono hb3.size)) _⟩
  have HM3 := Lib.hid (And.intro hM3 (And.intro hb3 htl))
  have HW := Lib.hid (And.intro hw1 (And.intro hq (And.intro hw2 (And.intro s1 (And.intro hw3 s2)))))
  have HQ := Lib.hid hq1
  have HR := Lib.hid hr
  have HAN := Lib.hid (fun V => ask_no (.pointer (some ⟨gk, 0, none⟩)) V)
  have HAY := Lib.hid (fun V => ask_yes (.pointer (some ⟨gk, 0, none⟩)) V)
  have z10 := B2.cell 0
  have z11 := B2.cell 1
  have z12 := B2.cell 2
  have z13 := B2.cell 3
  have z14 := B2.cell 4
  have z01 := B1.cell 1
  have z20 := B3.cell 0
  have z21 := B3.cell 1
  have v0 := hM3.c0
  have v1 := hM3.c1
  clear hM hM2 hM3 hb2 hb3 s1 s2 B1 B2 B3 hw1 hw2 hw3 hq hq1 hq2 hr htl
  go_enter Try.func75, Try.ntmps75
  go_upto_region 1 with fail
  (try rw [HW.out.1])
  (try rw [HW.out.2.1])
  (try rw [HW.out.2.2.1])
  (try rw [HW.out.2.2.2.1])
  (try rw [HQ.out])
  go_region
  go_upto_region 2 with fail
  (try rw [HW.out.2.2.2.2.1])
  (try rw [HW.out.2.2.2.2.2])
  go_wp2_with fail
  go_ret2
  exact ⟨by rw [HR.out] <;> rfl, HD.out _ (by first | exact Below.refl _ _ | exact (drewN_below _ _) | exact (Below.refl _ _).drew)⟩
set_option maxRecDepth 20000 in
set_option maxHeartbeats 2000000 in
theorem effect_2 (a b c h : Int) (t : Nat) (tx : List UInt8) (gw gk fn m pm N : Nat) (g1 g2 : Int) (cl : Cl) (gv : Value) (w : World) (hM : EfM w gw gk fn m pm N (g1, g2) cl gv) (ha : -4611686018427387904 ≤ a ∧ a ≤ 4611686018427387903) (htl : tx.length ≤ maxLen) (r : Option (Int × Int))
    (hr : r = some (0, 1)) :
    Calls Try.prog 75 #[.pointer (some ⟨gw, 0, none⟩), .agg #[.bool true, .int .i64 h, .int .i64 (t : Int)], .agg #[.int .u8 2, .int .i64 a, .int .i64 b, .int .i64 c, .string (str tx)]] w fun e w' => e = effE r ∧ PrMap w' pm (N + 1) ∧ Off (fun k => k = pm) w w' := by
  obtain ⟨ha1, ha2⟩ := ha
  obtain ⟨q, hq⟩ : ∃ q, w.heap.size = q := ⟨_, rfl⟩
  obtain ⟨q1, hq1⟩ : ∃ q1, q + 1 = q1 := ⟨_, rfl⟩
  obtain ⟨q2, hq2⟩ : ∃ q2, q1 + 1 = q2 := ⟨_, rfl⟩
  obtain ⟨w1, hw1⟩ : ∃ V, w.alloc (.cells #[.bool true, .int .i64 h, .int .i64 (t : Int)] 139) = V := ⟨_, rfl⟩
  obtain ⟨w2, hw2⟩ : ∃ V, w1.alloc (.cells #[.int .u8 2, .int .i64 a, .int .i64 b, .int .i64 c, .string (str tx)] 46) = V := ⟨_, rfl⟩
  obtain ⟨w3, hw3⟩ : ∃ V, (w2.alloc (.cells #[.int .i64 g1, .int .i64 g2] 124)).drew = V := ⟨_, rfl⟩
  obtain ⟨hb2, hb3, s1, s2, B1, B2, B3⟩ := ef_box 2 a b c h t (str tx) (g1, g2) w w1 w2 w3 q q1 q2 hq hq1 hq2 hw1 hw2 hw3
  have hM2 := hM.bel hb2
  have hM3 := hM.bel hb3
  obtain ⟨gg, hgv, _, _⟩ := hM.g
  subst hgv
  obtain ⟨gg2, hgv, u0, u1⟩ := hM2.g
  injection hgv with hgv
  injection hgv with hgv
  injection hgv with hgv
  subst hgv
  have c0 := hM2.c0
  have c1 := hM2.c1
  have ck1 : w2.cell? ⟨gk, 2, none⟩ = some (.slice (some ⟨gg, 0, none⟩) m m) := Blk.cell hM2.ck 2
  have hbz : Below w2.heap.size w2 (w2.alloc (.cells #[.int .i64 0, .int .i64 0] 124)) := (Below.refl _ _).alloc (Nat.le_refl _) _
  have n0 := (hbz.cell (World.block_lt_of_cell? w2 _ c0)).trans c0
  have n1 := (hbz.cell (World.block_lt_of_cell? w2 _ c1)).trans c1
  have n2 := (hbz.cell (World.block_lt_of_cell? w2 _ ck1)).trans ck1
  have n3 := (hbz.cell (World.block_lt_of_cell? w2 _ u0)).trans u0
  have n4 := (hbz.cell (World.block_lt_of_cell? w2 _ u1)).trans u1
  clear hbz
  have hfm := hM.fm.1
  have hmm := hM.fm.2
  have HS : Hid (∀ V, Below w3.heap.size w3 V → (V.cell? ⟨gw, 0, none⟩ = some (.pointer (some ⟨gk, 0, none⟩)) ∧ V.cell? ⟨gw, 1, none⟩ = some (.int .i64 (fn : Int))) ∧ (V.cell? ⟨q, 0, none⟩ = some (.bool true) ∧ V.cell? ⟨q, 1, none⟩ = some (.int .i64 h) ∧ V.cell? ⟨q, 2, none⟩ = some (.int .i64 (t : Int))) ∧ (V.cell? ⟨q1, 1, none⟩ = some (.int .i64 a) ∧ V.cell? ⟨q1, 4, none⟩ = some (.string (str tx))) ∧ V.cell? ⟨q2, 0, none⟩ = some (.int .i64 g1) ∧ V.cell? ⟨q2, 1, none⟩ = some (.int .i64 g2)) := Lib.hid fun V hV => by
    have k0 := hM3.bel hV
    have k1 := B1.below hV B1.lt
    have k2 := B2.below hV B2.lt
    have k3 := B3.below hV B3.lt
    exact ⟨⟨k0.c0, k0.c1⟩, ⟨k1.cell 0, k1.cell 1, k1.cell 2⟩, ⟨k2.cell 1, k2.cell 4⟩, k3.cell 0, k3.cell 1⟩
  have HD : Hid (∀ V, Below w3.heap.size w3 V → PrMap V pm (N + 1) ∧ Off (fun k => k = pm) w V) := Lib.hid fun V hV => ⟨(hM3.pr.bel hV).le (by omega), Off.of_new (hb3.trans (hV.mono hb3.size)) _⟩
  have HM3 := Lib.hid (And.intro hM3 (And.intro hb3 htl))
  have HW := Lib.hid (And.intro hw1 (And.intro hq (And.intro hw2 (And.intro s1 (And.intro hw3 s2)))))
  have HQ := Lib.hid hq1
  have HR := Lib.hid hr
  have HAN := Lib.hid (fun V => ask_no (.pointer (some ⟨gk, 0, none⟩)) V)
  have HAY := Lib.hid (fun V => ask_yes (.pointer (some ⟨gk, 0, none⟩)) V)
  have z10 := B2.cell 0
  have z11 := B2.cell 1
  have z12 := B2.cell 2
  have z13 := B2.cell 3
  have z14 := B2.cell 4
  have z01 := B1.cell 1
  have z20 := B3.cell 0
  have z21 := B3.cell 1
  have v0 := hM3.c0
  have v1 := hM3.c1
  clear hM hM2 hM3 hb2 hb3 s1 s2 B1 B2 B3 hw1 hw2 hw3 hq hq1 hq2 hr htl
  go_enter Try.func75, Try.ntmps75
  go_upto_region 1 with fail
  (try rw [HW.out.1])
  (try rw [HW.out.2.1])
  (try rw [HW.out.2.2.1])
  (try rw [HW.out.2.2.2.1])
  (try rw [HQ.out])
  go_region
  go_upto_region 2 with fail
  (try rw [HW.out.2.2.2.2.1])
  (try rw [HW.out.2.2.2.2.2])
  go_wp2_with fail
  go_ret2
  exact ⟨by rw [HR.out] <;> rfl, HD.out _ (by first | exact Below.refl _ _ | exact (drewN_below _ _) | exact (Below.refl _ _).drew)⟩
set_option maxRecDepth 20000 in
set_option maxHeartbeats 2000000 in
theorem effect_7 (a b c h : Int) (t : Nat) (tx : List UInt8) (gw gk fn m pm N : Nat) (g1 g2 : Int) (cl : Cl) (gv : Value) (w : World) (hM : EfM w gw gk fn m pm N (g1, g2) cl gv) (ha : -4611686018427387904 ≤ a ∧ a ≤ 4611686018427387903) (htl : tx.length ≤ maxLen) (r : Option (Int × Int))
    (hr : r = some (2, 1)) :
    Calls Try.prog 75 #[.pointer (some ⟨gw, 0, none⟩), .agg #[.bool true, .int .i64 h, .int .i64 (t : Int)], .agg #[.int .u8 7, .int .i64 a, .int .i64 b, .int .i64 c, .string (str tx)]] w fun e w' => e = effE r ∧ PrMap w' pm (N + 1) ∧ Off (fun k => k = pm) w w' := by
  obtain ⟨ha1, ha2⟩ := ha
  obtain ⟨q, hq⟩ : ∃ q, w.heap.size = q := ⟨_, rfl⟩
  obtain ⟨q1, hq1⟩ : ∃ q1, q + 1 = q1 := ⟨_, rfl⟩
  obtain ⟨q2, hq2⟩ : ∃ q2, q1 + 1 = q2 := ⟨_, rfl⟩
  obtain ⟨w1, hw1⟩ : ∃ V, w.alloc (.cells #[.bool true, .int .i64 h, .int .i64 (t : Int)] 139) = V := ⟨_, rfl⟩
  obtain ⟨w2, hw2⟩ : ∃ V, w1.alloc (.cells #[.int .u8 7, .int .i64 a, .int .i64 b, .int .i64 c, .string (str tx)] 46) = V := ⟨_, rfl⟩
  obtain ⟨w3, hw3⟩ : ∃ V, (w2.alloc (.cells #[.int .i64 g1, .int .i64 g2] 124)).drew = V := ⟨_, rfl⟩
  obtain ⟨hb2, hb3, s1, s2, B1, B2, B3⟩ := ef_box 7 a b c h t (str tx) (g1, g2) w w1 w2 w3 q q1 q2 hq hq1 hq2 hw1 hw2 hw3
  have hM2 := hM.bel hb2
  have hM3 := hM.bel hb3
  obtain ⟨gg, hgv, _, _⟩ := hM.g
  subst hgv
  obtain ⟨gg2, hgv, u0, u1⟩ := hM2.g
  injection hgv with hgv
  injection hgv with hgv
  injection hgv with hgv
  subst hgv
  have c0 := hM2.c0
  have c1 := hM2.c1
  have ck1 : w2.cell? ⟨gk, 2, none⟩ = some (.slice (some ⟨gg, 0, none⟩) m m) := Blk.cell hM2.ck 2
  have hbz : Below w2.heap.size w2 (w2.alloc (.cells #[.int .i64 0, .int .i64 0] 124)) := (Below.refl _ _).alloc (Nat.le_refl _) _
  have n0 := (hbz.cell (World.block_lt_of_cell? w2 _ c0)).trans c0
  have n1 := (hbz.cell (World.block_lt_of_cell? w2 _ c1)).trans c1
  have n2 := (hbz.cell (World.block_lt_of_cell? w2 _ ck1)).trans ck1
  have n3 := (hbz.cell (World.block_lt_of_cell? w2 _ u0)).trans u0
  have n4 := (hbz.cell (World.block_lt_of_cell? w2 _ u1)).trans u1
  clear hbz
  have hfm := hM.fm.1
  have hmm := hM.fm.2
  have HS : Hid (∀ V, Below w3.heap.size w3 V → (V.cell? ⟨gw, 0, none⟩ = some (.pointer (some ⟨gk, 0, none⟩)) ∧ V.cell? ⟨gw, 1, none⟩ = some (.int .i64 (fn : Int))) ∧ (V.cell? ⟨q, 0, none⟩ = some (.bool true) ∧ V.cell? ⟨q, 1, none⟩ = some (.int .i64 h) ∧ V.cell? ⟨q, 2, none⟩ = some (.int .i64 (t : Int))) ∧ (V.cell? ⟨q1, 1, none⟩ = some (.int .i64 a) ∧ V.cell? ⟨q1, 4, none⟩ = some (.string (str tx))) ∧ V.cell? ⟨q2, 0, none⟩ = some (.int .i64 g1) ∧ V.cell? ⟨q2, 1, none⟩ = some (.int .i64 g2)) := Lib.hid fun V hV => by
    have k0 := hM3.bel hV
    have k1 := B1.below hV B1.lt
    have k2 := B2.below hV B2.lt
    have k3 := B3.below hV B3.lt
    exact ⟨⟨k0.c0, k0.c1⟩, ⟨k1.cell 0, k1.cell 1, k1.cell 2⟩, ⟨k2.cell 1, k2.cell 4⟩, k3.cell 0, k3.cell 1⟩
  have HD : Hid (∀ V, Below w3.heap.size w3 V → PrMap V pm (N + 1) ∧ Off (fun k => k = pm) w V) := Lib.hid fun V hV => ⟨(hM3.pr.bel hV).le (by omega), Off.of_new (hb3.trans (hV.mono hb3.size)) _⟩
  have HM3 := Lib.hid (And.intro hM3 (And.intro hb3 htl))
  have HW := Lib.hid (And.intro hw1 (And.intro hq (And.intro hw2 (And.intro s1 (And.intro hw3 s2)))))
  have HQ := Lib.hid hq1
  have HR := Lib.hid hr
  have HAN := Lib.hid (fun V => ask_no (.pointer (some ⟨gk, 0, none⟩)) V)
  have HAY := Lib.hid (fun V => ask_yes (.pointer (some ⟨gk, 0, none⟩)) V)
  have z10 := B2.cell 0
  have z11 := B2.cell 1
  have z12 := B2.cell 2
  have z13 := B2.cell 3
  have z14 := B2.cell 4
  have z01 := B1.cell 1
  have z20 := B3.cell 0
  have z21 := B3.cell 1
  have v0 := hM3.c0
  have v1 := hM3.c1
  clear hM hM2 hM3 hb2 hb3 s1 s2 B1 B2 B3 hw1 hw2 hw3 hq hq1 hq2 hr htl
  go_enter Try.func75, Try.ntmps75
  go_upto_region 1 with fail
  (try rw [HW.out.1])
  (try rw [HW.out.2.1])
  (try rw [HW.out.2.2.1])
  (try rw [HW.out.2.2.2.1])
  (try rw [HQ.out])
  go_region
  go_upto_region 2 with fail
  (try rw [HW.out.2.2.2.2.1])
  (try rw [HW.out.2.2.2.2.2])
  go_wp2_with fail
  go_ret2
  exact ⟨by rw [HR.out] <;> rfl, HD.out _ (by first | exact Below.refl _ _ | exact (drewN_below _ _) | exact (Below.refl _ _).drew)⟩
set_option maxRecDepth 20000 in
set_option maxHeartbeats 2000000 in
theorem effect_11 (a b c h : Int) (t : Nat) (tx : List UInt8) (gw gk fn m pm N : Nat) (g1 g2 : Int) (cl : Cl) (gv : Value) (w : World) (hM : EfM w gw gk fn m pm N (g1, g2) cl gv) (ha : -4611686018427387904 ≤ a ∧ a ≤ 4611686018427387903) (htl : tx.length ≤ maxLen) (r : Option (Int × Int))
    (hr : r = some (a, 1)) :
    Calls Try.prog 75 #[.pointer (some ⟨gw, 0, none⟩), .agg #[.bool true, .int .i64 h, .int .i64 (t : Int)], .agg #[.int .u8 11, .int .i64 a, .int .i64 b, .int .i64 c, .string (str tx)]] w fun e w' => e = effE r ∧ PrMap w' pm (N + 1) ∧ Off (fun k => k = pm) w w' := by
  obtain ⟨ha1, ha2⟩ := ha
  obtain ⟨q, hq⟩ : ∃ q, w.heap.size = q := ⟨_, rfl⟩
  obtain ⟨q1, hq1⟩ : ∃ q1, q + 1 = q1 := ⟨_, rfl⟩
  obtain ⟨q2, hq2⟩ : ∃ q2, q1 + 1 = q2 := ⟨_, rfl⟩
  obtain ⟨w1, hw1⟩ : ∃ V, w.alloc (.cells #[.bool true, .int .i64 h, .int .i64 (t : Int)] 139) = V := ⟨_, rfl⟩
  obtain ⟨w2, hw2⟩ : ∃ V, w1.alloc (.cells #[.int .u8 11, .int .i64 a, .int .i64 b, .int .i64 c, .string (str tx)] 46) = V := ⟨_, rfl⟩
  obtain ⟨w3, hw3⟩ : ∃ V, (w2.alloc (.cells #[.int .i64 g1, .int .i64 g2] 124)).drew = V := ⟨_, rfl⟩
  obtain ⟨hb2, hb3, s1, s2, B1, B2, B3⟩ := ef_box 11 a b c h t (str tx) (g1, g2) w w1 w2 w3 q q1 q2 hq hq1 hq2 hw1 hw2 hw3
  have hM2 := hM.bel hb2
  have hM3 := hM.bel hb3
  obtain ⟨gg, hgv, _, _⟩ := hM.g
  subst hgv
  obtain ⟨gg2, hgv, u0, u1⟩ := hM2.g
  injection hgv with hgv
  injection hgv with hgv
  injection hgv with hgv
  subst hgv
  have c0 := hM2.c0
  have c1 := hM2.c1
  have ck1 : w2.cell? ⟨gk, 2, none⟩ = some (.slice (some ⟨gg, 0, none⟩) m m) := Blk.cell hM2.ck 2
  have hbz : Below w2.heap.size w2 (w2.alloc (.cells #[.int .i64 0, .int .i64 0] 124)) := (Below.refl _ _).alloc (Nat.le_refl _) _
  have n0 := (hbz.cell (World.block_lt_of_cell? w2 _ c0)).trans c0
  have n1 := (hbz.cell (World.block_lt_of_cell? w2 _ c1)).trans c1
  have n2 := (hbz.cell (World.block_lt_of_cell? w2 _ ck1)).trans ck1
  have n3 := (hbz.cell (World.block_lt_of_cell? w2 _ u0)).trans u0
  have n4 := (hbz.cell (World.block_lt_of_cell? w2 _ u1)).trans u1
  clear hbz
  have hfm := hM.fm.1
  have hmm := hM.fm.2
  have HS : Hid (∀ V, Below w3.heap.size w3 V → (V.cell? ⟨gw, 0, none⟩ = some (.pointer (some ⟨gk, 0, none⟩)) ∧ V.cell? ⟨gw, 1, none⟩ = some (.int .i64 (fn : Int))) ∧ (V.cell? ⟨q, 0, none⟩ = some (.bool true) ∧ V.cell? ⟨q, 1, none⟩ = some (.int .i64 h) ∧ V.cell? ⟨q, 2, none⟩ = some (.int .i64 (t : Int))) ∧ (V.cell? ⟨q1, 1, none⟩ = some (.int .i64 a) ∧ V.cell? ⟨q1, 4, none⟩ = some (.string (str tx))) ∧ V.cell? ⟨q2, 0, none⟩ = some (.int .i64 g1) ∧ V.cell? ⟨q2, 1, none⟩ = some (.int .i64 g2)) := Lib.hid fun V hV => by
    have k0 := hM3.bel hV
    have k1 := B1.below hV B1.lt
    have k2 := B2.below hV B2.lt
    have k3 := B3.below hV B3.lt
    exact ⟨⟨k0.c0, k0.c1⟩, ⟨k1.cell 0, k1.cell 1, k1.cell 2⟩, ⟨k2.cell 1, k2.cell 4⟩, k3.cell 0, k3.cell 1⟩
  have HD : Hid (∀ V, Below w3.heap.size w3 V → PrMap V pm (N + 1) ∧ Off (fun k => k = pm) w V) := Lib.hid fun V hV => ⟨(hM3.pr.bel hV).le (by omega), Off.of_new (hb3.trans (hV.mono hb3.size)) _⟩
  have HM3 := Lib.hid (And.intro hM3 (And.intro hb3 htl))
  have HW := Lib.hid (And.intro hw1 (And.intro hq (And.intro hw2 (And.intro s1 (And.intro hw3 s2)))))
  have HQ := Lib.hid hq1
  have HR := Lib.hid hr
  have HAN := Lib.hid (fun V => ask_no (.pointer (some ⟨gk, 0, none⟩)) V)
  have HAY := Lib.hid (fun V => ask_yes (.pointer (some ⟨gk, 0, none⟩)) V)
  have z10 := B2.cell 0
  have z11 := B2.cell 1
  have z12 := B2.cell 2
  have z13 := B2.cell 3
  have z14 := B2.cell 4
  have z01 := B1.cell 1
  have z20 := B3.cell 0
  have z21 := B3.cell 1
  have v0 := hM3.c0
  have v1 := hM3.c1
  clear hM hM2 hM3 hb2 hb3 s1 s2 B1 B2 B3 hw1 hw2 hw3 hq hq1 hq2 hr htl
  go_enter Try.func75, Try.ntmps75
  go_upto_region 1 with fail
  (try rw [HW.out.1])
  (try rw [HW.out.2.1])
  (try rw [HW.out.2.2.1])
  (try rw [HW.out.2.2.2.1])
  (try rw [HQ.out])
  go_region
  go_upto_region 2 with fail
  (try rw [HW.out.2.2.2.2.1])
  (try rw [HW.out.2.2.2.2.2])
  go_wp2_with fail
  go_ret2
  exact ⟨by rw [HR.out] <;> rfl, HD.out _ (by first | exact Below.refl _ _ | exact (drewN_below _ _) | exact (Below.refl _ _).drew)⟩
set_option maxRecDepth 20000 in
set_option maxHeartbeats 2000000 in
theorem effect_12 (a b c h : Int) (t : Nat) (tx : List UInt8) (gw gk fn m pm N : Nat) (g1 g2 : Int) (cl : Cl) (gv : Value) (w : World) (hM : EfM w gw gk fn m pm N (g1, g2) cl gv) (ha : -4611686018427387904 ≤ a ∧ a ≤ 4611686018427387903) (htl : tx.length ≤ maxLen) (r : Option (Int × Int))
    (hr : r = some (1, 1)) :
    Calls Try.prog 75 #[.pointer (some ⟨gw, 0, none⟩), .agg #[.bool true, .int .i64 h, .int .i64 (t : Int)], .agg #[.int .u8 12, .int .i64 a, .int .i64 b, .int .i64 c, .string (str tx)]] w fun e w' => e = effE r ∧ PrMap w' pm (N + 1) ∧ Off (fun k => k = pm) w w' := by
  obtain ⟨ha1, ha2⟩ := ha
  obtain ⟨q, hq⟩ : ∃ q, w.heap.size = q := ⟨_, rfl⟩
  obtain ⟨q1, hq1⟩ : ∃ q1, q + 1 = q1 := ⟨_, rfl⟩
  obtain ⟨q2, hq2⟩ : ∃ q2, q1 + 1 = q2 := ⟨_, rfl⟩
  obtain ⟨w1, hw1⟩ : ∃ V, w.alloc (.cells #[.bool true, .int .i64 h, .int .i64 (t : Int)] 139) = V := ⟨_, rfl⟩
  obtain ⟨w2, hw2⟩ : ∃ V, w1.alloc (.cells #[.int .u8 12, .int .i64 a, .int .i64 b, .int .i64 c, .string (str tx)] 46) = V := ⟨_, rfl⟩
  obtain ⟨w3, hw3⟩ : ∃ V, (w2.alloc (.cells #[.int .i64 g1, .int .i64 g2] 124)).drew = V := ⟨_, rfl⟩
  obtain ⟨hb2, hb3, s1, s2, B1, B2, B3⟩ := ef_box 12 a b c h t (str tx) (g1, g2) w w1 w2 w3 q q1 q2 hq hq1 hq2 hw1 hw2 hw3
  have hM2 := hM.bel hb2
  have hM3 := hM.bel hb3
  obtain ⟨gg, hgv, _, _⟩ := hM.g
  subst hgv
  obtain ⟨gg2, hgv, u0, u1⟩ := hM2.g
  injection hgv with hgv
  injection hgv with hgv
  injection hgv with hgv
  subst hgv
  have c0 := hM2.c0
  have c1 := hM2.c1
  have ck1 : w2.cell? ⟨gk, 2, none⟩ = some (.slice (some ⟨gg, 0, none⟩) m m) := Blk.cell hM2.ck 2
  have hbz : Below w2.heap.size w2 (w2.alloc (.cells #[.int .i64 0, .int .i64 0] 124)) := (Below.refl _ _).alloc (Nat.le_refl _) _
  have n0 := (hbz.cell (World.block_lt_of_cell? w2 _ c0)).trans c0
  have n1 := (hbz.cell (World.block_lt_of_cell? w2 _ c1)).trans c1
  have n2 := (hbz.cell (World.block_lt_of_cell? w2 _ ck1)).trans ck1
  have n3 := (hbz.cell (World.block_lt_of_cell? w2 _ u0)).trans u0
  have n4 := (hbz.cell (World.block_lt_of_cell? w2 _ u1)).trans u1
  clear hbz
  have hfm := hM.fm.1
  have hmm := hM.fm.2
  have HS : Hid (∀ V, Below w3.heap.size w3 V → (V.cell? ⟨gw, 0, none⟩ = some (.pointer (some ⟨gk, 0, none⟩)) ∧ V.cell? ⟨gw, 1, none⟩ = some (.int .i64 (fn : Int))) ∧ (V.cell? ⟨q, 0, none⟩ = some (.bool true) ∧ V.cell? ⟨q, 1, none⟩ = some (.int .i64 h) ∧ V.cell? ⟨q, 2, none⟩ = some (.int .i64 (t : Int))) ∧ (V.cell? ⟨q1, 1, none⟩ = some (.int .i64 a) ∧ V.cell? ⟨q1, 4, none⟩ = some (.string (str tx))) ∧ V.cell? ⟨q2, 0, none⟩ = some (.int .i64 g1) ∧ V.cell? ⟨q2, 1, none⟩ = some (.int .i64 g2)) := Lib.hid fun V hV => by
    have k0 := hM3.bel hV
    have k1 := B1.below hV B1.lt
    have k2 := B2.below hV B2.lt
    have k3 := B3.below hV B3.lt
    exact ⟨⟨k0.c0, k0.c1⟩, ⟨k1.cell 0, k1.cell 1, k1.cell 2⟩, ⟨k2.cell 1, k2.cell 4⟩, k3.cell 0, k3.cell 1⟩
  have HD : Hid (∀ V, Below w3.heap.size w3 V → PrMap V pm (N + 1) ∧ Off (fun k => k = pm) w V) := Lib.hid fun V hV => ⟨(hM3.pr.bel hV).le (by omega), Off.of_new (hb3.trans (hV.mono hb3.size)) _⟩
  have HM3 := Lib.hid (And.intro hM3 (And.intro hb3 htl))
  have HW := Lib.hid (And.intro hw1 (And.intro hq (And.intro hw2 (And.intro s1 (And.intro hw3 s2)))))
  have HQ := Lib.hid hq1
  have HR := Lib.hid hr
  have HAN := Lib.hid (fun V => ask_no (.pointer (some ⟨gk, 0, none⟩)) V)
  have HAY := Lib.hid (fun V => ask_yes (.pointer (some ⟨gk, 0, none⟩)) V)
  have z10 := B2.cell 0
  have z11 := B2.cell 1
  have z12 := B2.cell 2
  have z13 := B2.cell 3
  have z14 := B2.cell 4
  have z01 := B1.cell 1
  have z20 := B3.cell 0
  have z21 := B3.cell 1
  have v0 := hM3.c0
  have v1 := hM3.c1
  clear hM hM2 hM3 hb2 hb3 s1 s2 B1 B2 B3 hw1 hw2 hw3 hq hq1 hq2 hr htl
  go_enter Try.func75, Try.ntmps75
  go_upto_region 1 with fail
  (try rw [HW.out.1])
  (try rw [HW.out.2.1])
  (try rw [HW.out.2.2.1])
  (try rw [HW.out.2.2.2.1])
  (try rw [HQ.out])
  go_region
  go_upto_region 2 with fail
  (try rw [HW.out.2.2.2.2.1])
  (try rw [HW.out.2.2.2.2.2])
  go_wp2_with fail
  go_ret2
  exact ⟨by rw [HR.out] <;> rfl, HD.out _ (by first | exact Below.refl _ _ | exact (drewN_below _ _) | exact (Below.refl _ _).drew)⟩
set_option maxRecDepth 20000 in
set_option maxHeartbeats 2000000 in
theorem effect_14 (a b c h : Int) (t : Nat) (tx : List UInt8) (gw gk fn m pm N : Nat) (g1 g2 : Int) (cl : Cl) (gv : Value) (w : World) (hM : EfM w gw gk fn m pm N (g1, g2) cl gv) (ha : -4611686018427387904 ≤ a ∧ a ≤ 4611686018427387903) (htl : tx.length ≤ maxLen) (r : Option (Int × Int))
    (hr : r = some (1, 1)) :
    Calls Try.prog 75 #[.pointer (some ⟨gw, 0, none⟩), .agg #[.bool true, .int .i64 h, .int .i64 (t : Int)], .agg #[.int .u8 14, .int .i64 a, .int .i64 b, .int .i64 c, .string (str tx)]] w fun e w' => e = effE r ∧ PrMap w' pm (N + 1) ∧ Off (fun k => k = pm) w w' := by
  obtain ⟨ha1, ha2⟩ := ha
  obtain ⟨q, hq⟩ : ∃ q, w.heap.size = q := ⟨_, rfl⟩
  obtain ⟨q1, hq1⟩ : ∃ q1, q + 1 = q1 := ⟨_, rfl⟩
  obtain ⟨q2, hq2⟩ : ∃ q2, q1 + 1 = q2 := ⟨_, rfl⟩
  obtain ⟨w1, hw1⟩ : ∃ V, w.alloc (.cells #[.bool true, .int .i64 h, .int .i64 (t : Int)] 139) = V := ⟨_, rfl⟩
  obtain ⟨w2, hw2⟩ : ∃ V, w1.alloc (.cells #[.int .u8 14, .int .i64 a, .int .i64 b, .int .i64 c, .string (str tx)] 46) = V := ⟨_, rfl⟩
  obtain ⟨w3, hw3⟩ : ∃ V, (w2.alloc (.cells #[.int .i64 g1, .int .i64 g2] 124)).drew = V := ⟨_, rfl⟩
  obtain ⟨hb2, hb3, s1, s2, B1, B2, B3⟩ := ef_box 14 a b c h t (str tx) (g1, g2) w w1 w2 w3 q q1 q2 hq hq1 hq2 hw1 hw2 hw3
  have hM2 := hM.bel hb2
  have hM3 := hM.bel hb3
  obtain ⟨gg, hgv, _, _⟩ := hM.g
  subst hgv
  obtain ⟨gg2, hgv, u0, u1⟩ := hM2.g
  injection hgv with hgv
  injection hgv with hgv
  injection hgv with hgv
  subst hgv
  have c0 := hM2.c0
  have c1 := hM2.c1
  have ck1 : w2.cell? ⟨gk, 2, none⟩ = some (.slice (some ⟨gg, 0, none⟩) m m) := Blk.cell hM2.ck 2
  have hbz : Below w2.heap.size w2 (w2.alloc (.cells #[.int .i64 0, .int .i64 0] 124)) := (Below.refl _ _).alloc (Nat.le_refl _) _
  have n0 := (hbz.cell (World.block_lt_of_cell? w2 _ c0)).trans c0
  have n1 := (hbz.cell (World.block_lt_of_cell? w2 _ c1)).trans c1
  have n2 := (hbz.cell (World.block_lt_of_cell? w2 _ ck1)).trans ck1
  have n3 := (hbz.cell (World.block_lt_of_cell? w2 _ u0)).trans u0
  have n4 := (hbz.cell (World.block_lt_of_cell? w2 _ u1)).trans u1
  clear hbz
  have hfm := hM.fm.1
  have hmm := hM.fm.2
  have HS : Hid (∀ V, Below w3.heap.size w3 V → (V.cell? ⟨gw, 0, none⟩ = some (.pointer (some ⟨gk, 0, none⟩)) ∧ V.cell? ⟨gw, 1, none⟩ = some (.int .i64 (fn : Int))) ∧ (V.cell? ⟨q, 0, none⟩ = some (.bool true) ∧ V.cell? ⟨q, 1, none⟩ = some (.int .i64 h) ∧ V.cell? ⟨q, 2, none⟩ = some (.int .i64 (t : Int))) ∧ (V.cell? ⟨q1, 1, none⟩ = some (.int .i64 a) ∧ V.cell? ⟨q1, 4, none⟩ = some (.string (str tx))) ∧ V.cell? ⟨q2, 0, none⟩ = some (.int .i64 g1) ∧ V.cell? ⟨q2, 1, none⟩ = some (.int .i64 g2)) := Lib.hid fun V hV => by
    have k0 := hM3.bel hV
    have k1 := B1.below hV B1.lt
    have k2 := B2.below hV B2.lt
    have k3 := B3.below hV B3.lt
    exact ⟨⟨k0.c0, k0.c1⟩, ⟨k1.cell 0, k1.cell 1, k1.cell 2⟩, ⟨k2.cell 1, k2.cell 4⟩, k3.cell 0, k3.cell 1⟩
  have HD : Hid (∀ V, Below w3.heap.size w3 V → PrMap V pm (N + 1) ∧ Off (fun k => k = pm) w V) := Lib.hid fun V hV => ⟨(hM3.pr.bel hV).le (by omega), Off.of_new (hb3.trans (hV.mono hb3.size)) _⟩
  have HM3 := Lib.hid (And.intro hM3 (And.intro hb3 htl))
  have HW := Lib.hid (And.intro hw1 (And.intro hq (And.intro hw2 (And.intro s1 (And.intro hw3 s2)))))
  have HQ := Lib.hid hq1
  have HR := Lib.hid hr
  have HAN := Lib.hid (fun V => ask_no (.pointer (some ⟨gk, 0, none⟩)) V)
  have HAY := Lib.hid (fun V => ask_yes (.pointer (some ⟨gk, 0, none⟩)) V)
  have z10 := B2.cell 0
  have z11 := B2.cell 1
  have z12 := B2.cell 2
  have z13 := B2.cell 3
  have z14 := B2.cell 4
  have z01 := B1.cell 1
  have z20 := B3.cell 0
  have z21 := B3.cell 1
  have v0 := hM3.c0
  have v1 := hM3.c1
  clear hM hM2 hM3 hb2 hb3 s1 s2 B1 B2 B3 hw1 hw2 hw3 hq hq1 hq2 hr htl
  go_enter Try.func75, Try.ntmps75
  go_upto_region 1 with fail
  (try rw [HW.out.1])
  (try rw [HW.out.2.1])
  (try rw [HW.out.2.2.1])
  (try rw [HW.out.2.2.2.1])
  (try rw [HQ.out])
  go_region
  go_upto_region 2 with fail
  (try rw [HW.out.2.2.2.2.1])
  (try rw [HW.out.2.2.2.2.2])
  go_wp2_with fail
  go_ret2
  exact ⟨by rw [HR.out] <;> rfl, HD.out _ (by first | exact Below.refl _ _ | exact (drewN_below _ _) | exact (Below.refl _ _).drew)⟩
end Go.Proofs.Ytimkiifcmegfeaa
/- code: effect (written by cdeff.py). -/
namespace Go.Proofs.Ytimkiifcmegfeaa
open Go.RowKit
set_option linter.unusedVariables false
set_option linter.unusedSimpArgs false
attribute [local go_sem] Oper.semAt_some
set_option maxRecDepth 20000 in
set_option maxHeartbeats 2000000 in
theorem effect_15 (a b c h : Int) (t : Nat) (tx : List UInt8) (gw gk fn m pm N : Nat) (g1 g2 : Int) (cl : Cl) (gv : Value) (w : World) (hM : EfM w gw gk fn m pm N (g1, g2) cl gv) (ha : -4611686018427387904 ≤ a ∧ a ≤ 4611686018427387903) (htl : tx.length ≤ maxLen) (r : Option (Int × Int))
    (hr : r = some (1, 1)) :
    Calls Try.prog 75 #[.pointer (some ⟨gw, 0, none⟩), .agg #[.bool true, .int .i64 h, .int .i64 (t : Int)], .agg #[.int .u8 15, .int .i64 a, .int .i64 b, .int .i64 c, .string (str tx)]] w fun e w' => e = effE r ∧ PrMap w' pm (N + 1) ∧ Off (fun k => k = pm) w w' := by
  obtain ⟨ha1, ha2⟩ := ha
  obtain ⟨q, hq⟩ : ∃ q, w.heap.size = q := ⟨_, rfl⟩
  obtain ⟨q1, hq1⟩ : ∃ q1, q + 1 = q1 := ⟨_, rfl⟩
  obtain ⟨q2, hq2⟩ : ∃ q2, q1 + 1 = q2 := ⟨_, rfl⟩
  obtain ⟨w1, hw1⟩ : ∃ V, w.alloc (.cells #[.bool true, .int .i64 h, .int .i64 (t : Int)] 139) = V := ⟨_, rfl⟩
  obtain ⟨w2, hw2⟩ : ∃ V, w1.alloc (.cells #[.int .u8 15, .int .i64 a, .int .i64 b, .int .i64 c, .string (str tx)] 46) = V := ⟨_, rfl⟩
  obtain ⟨w3, hw3⟩ : ∃ V, (w2.alloc (.cells #[.int .i64 g1, .int .i64 g2] 124)).drew = V := ⟨_, rfl⟩
  obtain ⟨hb2, hb3, s1, s2, B1, B2, B3⟩ := ef_box 15 a b c h t (str tx) (g1, g2) w w1 w2 w3 q q1 q2 hq hq1 hq2 hw1 hw2 hw3
  have hM2 := hM.bel hb2
  have hM3 := hM.bel hb3
  obtain ⟨gg, hgv, _, _⟩ := hM.g
  subst hgv
  obtain ⟨gg2, hgv, u0, u1⟩ := hM2.g
  injection hgv with hgv
  injection hgv with hgv
  injection hgv with hgv
  subst hgv
  have c0 := hM2.c0
  have c1 := hM2.c1
  have ck1 : w2.cell? ⟨gk, 2, none⟩ = some (.slice (some ⟨gg, 0, none⟩) m m) := Blk.cell hM2.ck 2
  have hbz : Below w2.heap.size w2 (w2.alloc (.cells #[.int .i64 0, .int .i64 0] 124)) := (Below.refl _ _).alloc (Nat.le_refl _) _
  have n0 := (hbz.cell (World.block_lt_of_cell? w2 _ c0)).trans c0
  have n1 := (hbz.cell (World.block_lt_of_cell? w2 _ c1)).trans c1
  have n2 := (hbz.cell (World.block_lt_of_cell? w2 _ ck1)).trans ck1
  have n3 := (hbz.cell (World.block_lt_of_cell? w2 _ u0)).trans u0
  have n4 := (hbz.cell (World.block_lt_of_cell? w2 _ u1)).trans u1
  clear hbz
  have hfm := hM.fm.1
  have hmm := hM.fm.2
  have HS : Hid (∀ V, Below w3.heap.size w3 V → (V.cell? ⟨gw, 0, none⟩ = some (.pointer (some ⟨gk, 0, none⟩)) ∧ V.cell? ⟨gw, 1, none⟩ = some (.int .i64 (fn : Int))) ∧ (V.cell? ⟨q, 0, none⟩ = some (.bool true) ∧ V.cell? ⟨q, 1, none⟩ = some (.int .i64 h) ∧ V.cell? ⟨q, 2, none⟩ = some (.int .i64 (t : Int))) ∧ (V.cell? ⟨q1, 1, none⟩ = some (.int .i64 a) ∧ V.cell? ⟨q1, 4, none⟩ = some (.string (str tx))) ∧ V.cell? ⟨q2, 0, none⟩ = some (.int .i64 g1) ∧ V.cell? ⟨q2, 1, none⟩ = some (.int .i64 g2)) := Lib.hid fun V hV => by
    have k0 := hM3.bel hV
    have k1 := B1.below hV B1.lt
    have k2 := B2.below hV B2.lt
    have k3 := B3.below hV B3.lt
    exact ⟨⟨k0.c0, k0.c1⟩, ⟨k1.cell 0, k1.cell 1, k1.cell 2⟩, ⟨k2.cell 1, k2.cell 4⟩, k3.cell 0, k3.cell 1⟩
  have HD : Hid (∀ V, Below w3.heap.size w3 V → PrMap V pm (N + 1) ∧ Off (fun k => k = pm) w V) := Lib.hid fun V hV => ⟨(hM3.pr.bel hV).le (by omega), Off.of_new (hb3.trans (hV.mono hb3.size)) _⟩
  have HM3 := Lib.hid (And.intro hM3 (And.intro hb3 htl))
  have HW := Lib.hid (And.intro hw1 (And.intro hq (And.intro hw2 (And.intro s1 (And.intro hw3 s2)))))
  have HQ := Lib.hid hq1
  have HR := Lib.hid hr
  have HAN := Lib.hid (fun V => ask_no (.pointer (some ⟨gk, 0, none⟩)) V)
  have HAY := Lib.hid (fun V => ask_yes (.pointer (some ⟨gk, 0, none⟩)) V)
  have z10 := B2.cell 0
  have z11 := B2.cell 1
  have z12 := B2.cell 2
  have z13 := B2.cell 3
  have z14 := B2.cell 4
  have z01 := B1.cell 1
  have z20 := B3.cell 0
  have z21 := B3.cell 1
  have v0 := hM3.c0
  have v1 := hM3.c1
  clear hM hM2 hM3 hb2 hb3 s1 s2 B1 B2 B3 hw1 hw2 hw3 hq hq1 hq2 hr htl
  go_enter Try.func75, Try.ntmps75
  go_upto_region 1 with fail
  (try rw [HW.out.1])
  (try rw [HW.out.2.1])
  (try rw [HW.out.2.2.1])
  (try rw [HW.out.2.2.2.1])
  (try rw [HQ.out])
  go_region
  go_upto_region 2 with fail
  (try rw [HW.out.2.2.2.2.1])
  (try rw [HW.out.2.2.2.2.2])
  go_wp2_with fail
  go_ret2
  exact ⟨by rw [HR.out] <;> rfl, HD.out _ (by first | exact Below.refl _ _ | exact (drewN_below _ _) | exact (Below.refl _ _).drew)⟩
set_option maxRecDepth 20000 in
set_option maxHeartbeats 2000000 in
theorem effect_13 (a b c h : Int) (t : Nat) (tx : List UInt8) (gw gk fn m pm N : Nat) (g1 g2 : Int) (cl : Cl) (gv : Value) (w : World) (hM : EfM w gw gk fn m pm N (g1, g2) cl gv) (ha : -4611686018427387904 ≤ a ∧ a ≤ 4611686018427387903) (htl : tx.length ≤ maxLen) (r : Option (Int × Int))
    (hr : r = some (b, 1)) :
    Calls Try.prog 75 #[.pointer (some ⟨gw, 0, none⟩), .agg #[.bool true, .int .i64 h, .int .i64 (t : Int)], .agg #[.int .u8 13, .int .i64 a, .int .i64 b, .int .i64 c, .string (str tx)]] w fun e w' => e = effE r ∧ PrMap w' pm (N + 1) ∧ Off (fun k => k = pm) w w' := by
  obtain ⟨ha1, ha2⟩ := ha
  obtain ⟨q, hq⟩ : ∃ q, w.heap.size = q := ⟨_, rfl⟩
  obtain ⟨q1, hq1⟩ : ∃ q1, q + 1 = q1 := ⟨_, rfl⟩
  obtain ⟨q2, hq2⟩ : ∃ q2, q1 + 1 = q2 := ⟨_, rfl⟩
  obtain ⟨w1, hw1⟩ : ∃ V, w.alloc (.cells #[.bool true, .int .i64 h, .int .i64 (t : Int)] 139) = V := ⟨_, rfl⟩
  obtain ⟨w2, hw2⟩ : ∃ V, w1.alloc (.cells #[.int .u8 13, .int .i64 a, .int .i64 b, .int .i64 c, .string (str tx)] 46) = V := ⟨_, rfl⟩
  obtain ⟨w3, hw3⟩ : ∃ V, (w2.alloc (.cells #[.int .i64 g1, .int .i64 g2] 124)).drew = V := ⟨_, rfl⟩
  obtain ⟨hb2, hb3, s1, s2, B1, B2, B3⟩ := ef_box 13 a b c h t (str tx) (g1, g2) w w1 w2 w3 q q1 q2 hq hq1 hq2 hw1 hw2 hw3
  have hM2 := hM.bel hb2
  have hM3 := hM.bel hb3
  obtain ⟨gg, hgv, _, _⟩ := hM.g
  subst hgv
  obtain ⟨gg2, hgv, u0, u1⟩ := hM2.g
  injection hgv with hgv
  injection hgv with hgv
  injection hgv with hgv
  subst hgv
  have c0 := hM2.c0
  have c1 := hM2.c1
  have ck1 : w2.cell? ⟨gk, 2, none⟩ = some (.slice (some ⟨gg, 0, none⟩) m m) := Blk.cell hM2.ck 2
  have hbz : Below w2.heap.size w2 (w2.alloc (.cells #[.int .i64 0, .int .i64 0] 124)) := (Below.refl _ _).alloc (Nat.le_refl _) _
  have n0 := (hbz.cell (World.block_lt_of_cell? w2 _ c0)).trans c0
  have n1 := (hbz.cell (World.block_lt_of_cell? w2 _ c1)).trans c1
  have n2 := (hbz.cell (World.block_lt_of_cell? w2 _ ck1)).trans ck1
  have n3 := (hbz.cell (World.block_lt_of_cell? w2 _ u0)).trans u0
  have n4 := (hbz.cell (World.block_lt_of_cell? w2 _ u1)).trans u1
  clear hbz
  have hfm := hM.fm.1
  have hmm := hM.fm.2
  have HS : Hid (∀ V, Below w3.heap.size w3 V → (V.cell? ⟨gw, 0, none⟩ = some (.pointer (some ⟨gk, 0, none⟩)) ∧ V.cell? ⟨gw, 1, none⟩ = some (.int .i64 (fn : Int))) ∧ (V.cell? ⟨q, 0, none⟩ = some (.bool true) ∧ V.cell? ⟨q, 1, none⟩ = some (.int .i64 h) ∧ V.cell? ⟨q, 2, none⟩ = some (.int .i64 (t : Int))) ∧ (V.cell? ⟨q1, 1, none⟩ = some (.int .i64 a) ∧ V.cell? ⟨q1, 4, none⟩ = some (.string (str tx))) ∧ V.cell? ⟨q2, 0, none⟩ = some (.int .i64 g1) ∧ V.cell? ⟨q2, 1, none⟩ = some (.int .i64 g2)) := Lib.hid fun V hV => by
    have k0 := hM3.bel hV
    have k1 := B1.below hV B1.lt
    have k2 := B2.below hV B2.lt
    have k3 := B3.below hV B3.lt
    exact ⟨⟨k0.c0, k0.c1⟩, ⟨k1.cell 0, k1.cell 1, k1.cell 2⟩, ⟨k2.cell 1, k2.cell 4⟩, k3.cell 0, k3.cell 1⟩
  have HD : Hid (∀ V, Below w3.heap.size w3 V → PrMap V pm (N + 1) ∧ Off (fun k => k = pm) w V) := Lib.hid fun V hV => ⟨(hM3.pr.bel hV).le (by omega), Off.of_new (hb3.trans (hV.mono hb3.size)) _⟩
  have HM3 := Lib.hid (And.intro hM3 (And.intro hb3 htl))
  have HW := Lib.hid (And.intro hw1 (And.intro hq (And.intro hw2 (And.intro s1 (And.intro hw3 s2)))))
  have HQ := Lib.hid hq1
  have HR := Lib.hid hr
  have HAN := Lib.hid (fun V => ask_no (.pointer (some ⟨gk, 0, none⟩)) V)
  have HAY := Lib.hid (fun V => ask_yes (.pointer (some ⟨gk, 0, none⟩)) V)
  have z10 := B2.cell 0
  have z11 := B2.cell 1
  have z12 := B2.cell 2
  have z13 := B2.cell 3
  have z14 := B2.cell 4
  have z01 := B1.cell 1
  have z20 := B3.cell 0
  have z21 := B3.cell 1
  have v0 := hM3.c0
  have v1 := hM3.c1
  clear hM hM2 hM3 hb2 hb3 s1 s2 B1 B2 B3 hw1 hw2 hw3 hq hq1 hq2 hr htl
  go_enter Try.func75, Try.ntmps75
  go_upto_region 1 with fail
  (try rw [HW.out.1])
  (try rw [HW.out.2.1])
  (try rw [HW.out.2.2.1])
  (try rw [HW.out.2.2.2.1])
  (try rw [HQ.out])
  go_region
  go_upto_region 2 with fail
  (try rw [HW.out.2.2.2.2.1])
  (try rw [HW.out.2.2.2.2.2])
  go_wp2_with fail
  go_ret2
  exact ⟨by rw [HR.out] <;> rfl, HD.out _ (by first | exact Below.refl _ _ | exact (drewN_below _ _) | exact (Below.refl _ _).drew)⟩
set_option maxRecDepth 20000 in
set_option maxHeartbeats 2000000 in
theorem effect_22 (a b c h : Int) (t : Nat) (tx : List UInt8) (gw gk fn m pm N : Nat) (g1 g2 : Int) (cl : Cl) (gv : Value) (w : World) (hM : EfM w gw gk fn m pm N (g1, g2) cl gv) (ha : -4611686018427387904 ≤ a ∧ a ≤ 4611686018427387903) (htl : tx.length ≤ maxLen) (r : Option (Int × Int))
    (hr : r = some (b, 1)) :
    Calls Try.prog 75 #[.pointer (some ⟨gw, 0, none⟩), .agg #[.bool true, .int .i64 h, .int .i64 (t : Int)], .agg #[.int .u8 22, .int .i64 a, .int .i64 b, .int .i64 c, .string (str tx)]] w fun e w' => e = effE r ∧ PrMap w' pm (N + 1) ∧ Off (fun k => k = pm) w w' := by
  obtain ⟨ha1, ha2⟩ := ha
  obtain ⟨q, hq⟩ : ∃ q, w.heap.size = q := ⟨_, rfl⟩
  obtain ⟨q1, hq1⟩ : ∃ q1, q + 1 = q1 := ⟨_, rfl⟩
  obtain ⟨q2, hq2⟩ : ∃ q2, q1 + 1 = q2 := ⟨_, rfl⟩
  obtain ⟨w1, hw1⟩ : ∃ V, w.alloc (.cells #[.bool true, .int .i64 h, .int .i64 (t : Int)] 139) = V := ⟨_, rfl⟩
  obtain ⟨w2, hw2⟩ : ∃ V, w1.alloc (.cells #[.int .u8 22, .int .i64 a, .int .i64 b, .int .i64 c, .string (str tx)] 46) = V := ⟨_, rfl⟩
  obtain ⟨w3, hw3⟩ : ∃ V, (w2.alloc (.cells #[.int .i64 g1, .int .i64 g2] 124)).drew = V := ⟨_, rfl⟩
  obtain ⟨hb2, hb3, s1, s2, B1, B2, B3⟩ := ef_box 22 a b c h t (str tx) (g1, g2) w w1 w2 w3 q q1 q2 hq hq1 hq2 hw1 hw2 hw3
  have hM2 := hM.bel hb2
  have hM3 := hM.bel hb3
  obtain ⟨gg, hgv, _, _⟩ := hM.g
  subst hgv
  obtain ⟨gg2, hgv, u0, u1⟩ := hM2.g
  injection hgv with hgv
  injection hgv with hgv
  injection hgv with hgv
  subst hgv
  have c0 := hM2.c0
  have c1 := hM2.c1
  have ck1 : w2.cell? ⟨gk, 2, none⟩ = some (.slice (some ⟨gg, 0, none⟩) m m) := Blk.cell hM2.ck 2
  have hbz : Below w2.heap.size w2 (w2.alloc (.cells #[.int .i64 0, .int .i64 0] 124)) := (Below.refl _ _).alloc (Nat.le_refl _) _
  have n0 := (hbz.cell (World.block_lt_of_cell? w2 _ c0)).trans c0
  have n1 := (hbz.cell (World.block_lt_of_cell? w2 _ c1)).trans c1
  have n2 := (hbz.cell (World.block_lt_of_cell? w2 _ ck1)).trans ck1
  have n3 := (hbz.cell (World.block_lt_of_cell? w2 _ u0)).trans u0
  have n4 := (hbz.cell (World.block_lt_of_cell? w2 _ u1)).trans u1
  clear hbz
  have hfm := hM.fm.1
  have hmm := hM.fm.2
  have HS : Hid (∀ V, Below w3.heap.size w3 V → (V.cell? ⟨gw, 0, none⟩ = some (.pointer (some ⟨gk, 0, none⟩)) ∧ V.cell? ⟨gw, 1, none⟩ = some (.int .i64 (fn : Int))) ∧ (V.cell? ⟨q, 0, none⟩ = some (.bool true) ∧ V.cell? ⟨q, 1, none⟩ = some (.int .i64 h) ∧ V.cell? ⟨q, 2, none⟩ = some (.int .i64 (t : Int))) ∧ (V.cell? ⟨q1, 1, none⟩ = some (.int .i64 a) ∧ V.cell? ⟨q1, 4, none⟩ = some (.string (str tx))) ∧ V.cell? ⟨q2, 0, none⟩ = some (.int .i64 g1) ∧ V.cell? ⟨q2, 1, none⟩ = some (.int .i64 g2)) := Lib.hid fun V hV => by
    have k0 := hM3.bel hV
    have k1 := B1.below hV B1.lt
    have k2 := B2.below hV B2.lt
    have k3 := B3.below hV B3.lt
    exact ⟨⟨k0.c0, k0.c1⟩, ⟨k1.cell 0, k1.cell 1, k1.cell 2⟩, ⟨k2.cell 1, k2.cell 4⟩, k3.cell 0, k3.cell 1⟩
  have HD : Hid (∀ V, Below w3.heap.size w3 V → PrMap V pm (N + 1) ∧ Off (fun k => k = pm) w V) := Lib.hid fun V hV => ⟨(hM3.pr.bel hV).le (by omega), Off.of_new (hb3.trans (hV.mono hb3.size)) _⟩
  have HM3 := Lib.hid (And.intro hM3 (And.intro hb3 htl))
  have HW := Lib.hid (And.intro hw1 (And.intro hq (And.intro hw2 (And.intro s1 (And.intro hw3 s2)))))
  have HQ := Lib.hid hq1
  have HR := Lib.hid hr
  have HAN := Lib.hid (fun V => ask_no (.pointer (some ⟨gk, 0, none⟩)) V)
  have HAY := Lib.hid (fun V => ask_yes (.pointer (some ⟨gk, 0, none⟩)) V)
  have z10 := B2.cell 0
  have z11 := B2.cell 1
  have z12 := B2.cell 2
  have z13 := B2.cell 3
  have z14 := B2.cell 4
  have z01 := B1.cell 1
  have z20 := B3.cell 0
  have z21 := B3.cell 1
  have v0 := hM3.c0
  have v1 := hM3.c1
  clear hM hM2 hM3 hb2 hb3 s1 s2 B1 B2 B3 hw1 hw2 hw3 hq hq1 hq2 hr htl
  go_enter Try.func75, Try.ntmps75
  go_upto_region 1 with fail
  (try rw [HW.out.1])
  (try rw [HW.out.2.1])
  (try rw [HW.out.2.2.1])
  (try rw [HW.out.2.2.2.1])
  (try rw [HQ.out])
  go_region
  go_upto_region 2 with fail
  (try rw [HW.out.2.2.2.2.1])
  (try rw [HW.out.2.2.2.2.2])
  go_wp2_with fail
  go_ret2
  exact ⟨by rw [HR.out] <;> rfl, HD.out _ (by first | exact Below.refl _ _ | exact (drewN_below _ _) | exact (Below.refl _ _).drew)⟩
set_option maxRecDepth 20000 in
set_option maxHeartbeats 2000000 in
theorem effect_20 (a b c h : Int) (t : Nat) (tx : List UInt8) (gw gk fn m pm N : Nat) (g1 g2 : Int) (cl : Cl) (gv : Value) (w : World) (hM : EfM w gw gk fn m pm N (g1, g2) cl gv) (ha : -4611686018427387904 ≤ a ∧ a ≤ 4611686018427387903) (htl : tx.length ≤ maxLen) (r : Option (Int × Int))
    (hr : r = some (a + 1, 1)) :
    Calls Try.prog 75 #[.pointer (some ⟨gw, 0, none⟩), .agg #[.bool true, .int .i64 h, .int .i64 (t : Int)], .agg #[.int .u8 20, .int .i64 a, .int .i64 b, .int .i64 c, .string (str tx)]] w fun e w' => e = effE r ∧ PrMap w' pm (N + 1) ∧ Off (fun k => k = pm) w w' := by
  obtain ⟨ha1, ha2⟩ := ha
  obtain ⟨q, hq⟩ : ∃ q, w.heap.size = q := ⟨_, rfl⟩
  obtain ⟨q1, hq1⟩ : ∃ q1, q + 1 = q1 := ⟨_, rfl⟩
  obtain ⟨q2, hq2⟩ : ∃ q2, q1 + 1 = q2 := ⟨_, rfl⟩
  obtain ⟨w1, hw1⟩ : ∃ V, w.alloc (.cells #[.bool true, .int .i64 h, .int .i64 (t : Int)] 139) = V := ⟨_, rfl⟩
  obtain ⟨w2, hw2⟩ : ∃ V, w1.alloc (.cells #[.int .u8 20, .int .i64 a, .int .i64 b, .int .i64 c, .string (str tx)] 46) = V := ⟨_, rfl⟩
  obtain ⟨w3, hw3⟩ : ∃ V, (w2.alloc (.cells #[.int .i64 g1, .int .i64 g2] 124)).drew = V := ⟨_, rfl⟩
  obtain ⟨hb2, hb3, s1, s2, B1, B2, B3⟩ := ef_box 20 a b c h t (str tx) (g1, g2) w w1 w2 w3 q q1 q2 hq hq1 hq2 hw1 hw2 hw3
  have hM2 := hM.bel hb2
  have hM3 := hM.bel hb3
  obtain ⟨gg, hgv, _, _⟩ := hM.g
  subst hgv
  obtain ⟨gg2, hgv, u0, u1⟩ := hM2.g
  injection hgv with hgv
  injection hgv with hgv
  injection hgv with hgv
  subst hgv
  have c0 := hM2.c0
  have c1 := hM2.c1
  have ck1 : w2.cell? ⟨gk, 2, none⟩ = some (.slice (some ⟨gg, 0, none⟩) m m) := Blk.cell hM2.ck 2
  have hbz : Below w2.heap.size w2 (w2.alloc (.cells #[.int .i64 0, .int .i64 0] 124)) := (Below.refl _ _).alloc (Nat.le_refl _) _
  have n0 := (hbz.cell (World.block_lt_of_cell? w2 _ c0)).trans c0
  have n1 := (hbz.cell (World.block_lt_of_cell? w2 _ c1)).trans c1
  have n2 := (hbz.cell (World.block_lt_of_cell? w2 _ ck1)).trans ck1
  have n3 := (hbz.cell (World.block_lt_of_cell? w2 _ u0)).trans u0
  have n4 := (hbz.cell (World.block_lt_of_cell? w2 _ u1)).trans u1
  clear hbz
  have hfm := hM.fm.1
  have hmm := hM.fm.2
  have HS : Hid (∀ V, Below w3.heap.size w3 V → (V.cell? ⟨gw, 0, none⟩ = some (.pointer (some ⟨gk, 0, none⟩)) ∧ V.cell? ⟨gw, 1, none⟩ = some (.int .i64 (fn : Int))) ∧ (V.cell? ⟨q, 0, none⟩ = some (.bool true) ∧ V.cell? ⟨q, 1, none⟩ = some (.int .i64 h) ∧ V.cell? ⟨q, 2, none⟩ = some (.int .i64 (t : Int))) ∧ (V.cell? ⟨q1, 1, none⟩ = some (.int .i64 a) ∧ V.cell? ⟨q1, 4, none⟩ = some (.string (str tx))) ∧ V.cell? ⟨q2, 0, none⟩ = some (.int .i64 g1) ∧ V.cell? ⟨q2, 1, none⟩ = some (.int .i64 g2)) := Lib.hid fun V hV => by
    have k0 := hM3.bel hV
    have k1 := B1.below hV B1.lt
    have k2 := B2.below hV B2.lt
    have k3 := B3.below hV B3.lt
    exact ⟨⟨k0.c0, k0.c1⟩, ⟨k1.cell 0, k1.cell 1, k1.cell 2⟩, ⟨k2.cell 1, k2.cell 4⟩, k3.cell 0, k3.cell 1⟩
  have HD : Hid (∀ V, Below w3.heap.size w3 V → PrMap V pm (N + 1) ∧ Off (fun k => k = pm) w V) := Lib.hid fun V hV => ⟨(hM3.pr.bel hV).le (by omega), Off.of_new (hb3.trans (hV.mono hb3.size)) _⟩
  have HM3 := Lib.hid (And.intro hM3 (And.intro hb3 htl))
  have HW := Lib.hid (And.intro hw1 (And.intro hq (And.intro hw2 (And.intro s1 (And.intro hw3 s2)))))
  have HQ := Lib.hid hq1
  have HR := Lib.hid hr
  have HAN := Lib.hid (fun V => ask_no (.pointer (some ⟨gk, 0, none⟩)) V)
  have HAY := Lib.hid (fun V => ask_yes (.pointer (some ⟨gk, 0, none⟩)) V)
  have z10 := B2.cell 0
  have z11 := B2.cell 1
  have z12 := B2.cell 2
  have z13 := B2.cell 3
  have z14 := B2.cell 4
  have z01 := B1.cell 1
  have z20 := B3.cell 0
  have z21 := B3.cell 1
  have v0 := hM3.c0
  have v1 := hM3.c1
  clear hM hM2 hM3 hb2 hb3 s1 s2 B1 B2 B3 hw1 hw2 hw3 hq hq1 hq2 hr htl
  go_enter Try.func75, Try.ntmps75
  go_upto_region 1 with fail
  (try rw [HW.out.1])
  (try rw [HW.out.2.1])
  (try rw [HW.out.2.2.1])
  (try rw [HW.out.2.2.2.1])
  (try rw [HQ.out])
  go_region
  go_upto_region 2 with fail
  (try rw [HW.out.2.2.2.2.1])
  (try rw [HW.out.2.2.2.2.2])
  go_wp2_with fail
  go_ret2
  exact ⟨by rw [HR.out] <;> rfl, HD.out _ (by first | exact Below.refl _ _ | exact (drewN_below _ _) | exact (Below.refl _ _).drew)⟩
set_option maxRecDepth 20000 in
set_option maxHeartbeats 2000000 in
theorem effect_21 (a b c h : Int) (t : Nat) (tx : List UInt8) (gw gk fn m pm N : Nat) (g1 g2 : Int) (cl : Cl) (gv : Value) (w : World) (hM : EfM w gw gk fn m pm N (g1, g2) cl gv) (ha : -4611686018427387904 ≤ a ∧ a ≤ 4611686018427387903) (htl : tx.length ≤ maxLen) (r : Option (Int × Int))
    (hr : r = some (1, 0)) :
    Calls Try.prog 75 #[.pointer (some ⟨gw, 0, none⟩), .agg #[.bool true, .int .i64 h, .int .i64 (t : Int)], .agg #[.int .u8 21, .int .i64 a, .int .i64 b, .int .i64 c, .string (str tx)]] w fun e w' => e = effE r ∧ PrMap w' pm (N + 1) ∧ Off (fun k => k = pm) w w' := by
  obtain ⟨ha1, ha2⟩ := ha
  obtain ⟨q, hq⟩ : ∃ q, w.heap.size = q := ⟨_, rfl⟩
  obtain ⟨q1, hq1⟩ : ∃ q1, q + 1 = q1 := ⟨_, rfl⟩
  obtain ⟨q2, hq2⟩ : ∃ q2, q1 + 1 = q2 := ⟨_, rfl⟩
  obtain ⟨w1, hw1⟩ : ∃ V, w.alloc (.cells #[.bool true, .int .i64 h, .int .i64 (t : Int)] 139) = V := ⟨_, rfl⟩
  obtain ⟨w2, hw2⟩ : ∃ V, w1.alloc (.cells #[.int .u8 21, .int .i64 a, .int .i64 b, .int .i64 c, .string (str tx)] 46) = V := ⟨_, rfl⟩
  obtain ⟨w3, hw3⟩ : ∃ V, (w2.alloc (.cells #[.int .i64 g1, .int .i64 g2] 124)).drew = V := ⟨_, rfl⟩
  obtain ⟨hb2, hb3, s1, s2, B1, B2, B3⟩ := ef_box 21 a b c h t (str tx) (g1, g2) w w1 w2 w3 q q1 q2 hq hq1 hq2 hw1 hw2 hw3
  have hM2 := hM.bel hb2
  have hM3 := hM.bel hb3
  obtain ⟨gg, hgv, _, _⟩ := hM.g
  subst hgv
  obtain ⟨gg2, hgv, u0, u1⟩ := hM2.g
  injection hgv with hgv
  injection hgv with hgv
  injection hgv with hgv
  subst hgv
  have c0 := hM2.c0
  have c1 := hM2.c1
  have ck1 : w2.cell? ⟨gk, 2, none⟩ = some (.slice (some ⟨gg, 0, none⟩) m m) := Blk.cell hM2.ck 2
  have hbz : Below w2.heap.size w2 (w2.alloc (.cells #[.int .i64 0, .int .i64 0] 124)) := (Below.refl _ _).alloc (Nat.le_refl _) _
  have n0 := (hbz.cell (World.block_lt_of_cell? w2 _ c0)).trans c0
  have n1 := (hbz.cell (World.block_lt_of_cell? w2 _ c1)).trans c1
  have n2 := (hbz.cell (World.block_lt_of_cell? w2 _ ck1)).trans ck1
  have n3 := (hbz.cell (World.block_lt_of_cell? w2 _ u0)).trans u0
  have n4 := (hbz.cell (World.block_lt_of_cell? w2 _ u1)).trans u1
  clear hbz
  have hfm := hM.fm.1
  have hmm := hM.fm.2
  have HS : Hid (∀ V, Below w3.heap.size w3 V → (V.cell? ⟨gw, 0, none⟩ = some (.pointer (some ⟨gk, 0, none⟩)) ∧ V.cell? ⟨gw, 1, none⟩ = some (.int .i64 (fn : Int))) ∧ (V.cell? ⟨q, 0, none⟩ = some (.bool true) ∧ V.cell? ⟨q, 1, none⟩ = some (.int .i64 h) ∧ V.cell? ⟨q, 2, none⟩ = some (.int .i64 (t : Int))) ∧ (V.cell? ⟨q1, 1, none⟩ = some (.int .i64 a) ∧ V.cell? ⟨q1, 4, none⟩ = some (.string (str tx))) ∧ V.cell? ⟨q2, 0, none⟩ = some (.int .i64 g1) ∧ V.cell? ⟨q2, 1, none⟩ = some (.int .i64 g2)) := Lib.hid fun V hV => by
    have k0 := hM3.bel hV
    have k1 := B1.below hV B1.lt
    have k2 := B2.below hV B2.lt
    have k3 := B3.below hV B3.lt
    exact ⟨⟨k0.c0, k0.c1⟩, ⟨k1.cell 0, k1.cell 1, k1.cell 2⟩, ⟨k2.cell 1, k2.cell 4⟩, k3.cell 0, k3.cell 1⟩
  have HD : Hid (∀ V, Below w3.heap.size w3 V → PrMap V pm (N + 1) ∧ Off (fun k => k = pm) w V) := Lib.hid fun V hV => ⟨(hM3.pr.bel hV).le (by omega), Off.of_new (hb3.trans (hV.mono hb3.size)) _⟩
  have HM3 := Lib.hid (And.intro hM3 (And.intro hb3 htl))
  have HW := Lib.hid (And.intro hw1 (And.intro hq (And.intro hw2 (And.intro s1 (And.intro hw3 s2)))))
  have HQ := Lib.hid hq1
  have HR := Lib.hid hr
  have HAN := Lib.hid (fun V => ask_no (.pointer (some ⟨gk, 0, none⟩)) V)
  have HAY := Lib.hid (fun V => ask_yes (.pointer (some ⟨gk, 0, none⟩)) V)
  have z10 := B2.cell 0
  have z11 := B2.cell 1
  have z12 := B2.cell 2
  have z13 := B2.cell 3
  have z14 := B2.cell 4
  have z01 := B1.cell 1
  have z20 := B3.cell 0
  have z21 := B3.cell 1
  have v0 := hM3.c0
  have v1 := hM3.c1
  clear hM hM2 hM3 hb2 hb3 s1 s2 B1 B2 B3 hw1 hw2 hw3 hq hq1 hq2 hr htl
  go_enter Try.func75, Try.ntmps75
  go_upto_region 1 with fail
  (try rw [HW.out.1])
  (try rw [HW.out.2.1])
  (try rw [HW.out.2.2.1])
  (try rw [HW.out.2.2.2.1])
  (try rw [HQ.out])
  go_region
  go_upto_region 2 with fail
  (try rw [HW.out.2.2.2.2.1])
  (try rw [HW.out.2.2.2.2.2])
  go_wp2_with fail
  go_ret2
  exact ⟨by rw [HR.out] <;> rfl, HD.out _ (by first | exact Below.refl _ _ | exact (drewN_below _ _) | exact (Below.refl _ _).drew)⟩
end Go.Proofs.Ytimkiifcmegfeaa
/- code: effect (written by cdeff.py). -/
namespace Go.Proofs.Ytimkiifcmegfeaa
open Go.RowKit
set_option linter.unusedVariables false
set_option linter.unusedSimpArgs false
attribute [local go_sem] Oper.semAt_some
set_option maxRecDepth 20000 in
set_option maxHeartbeats 2000000 in
theorem effect_6 (a b c h : Int) (t : Nat) (tx : List UInt8) (gw gk fn m pm N : Nat) (g1 g2 : Int) (cl : Cl) (gv : Value) (w : World) (hM : EfM w gw gk fn m pm N (g1, g2) cl gv) (ha : -4611686018427387904 ≤ a ∧ a ≤ 4611686018427387903) (htl : tx.length ≤ maxLen) (r : Option (Int × Int))
    (hr : r = some (c, b)) :
    Calls Try.prog 75 #[.pointer (some ⟨gw, 0, none⟩), .agg #[.bool true, .int .i64 h, .int .i64 (t : Int)], .agg #[.int .u8 6, .int .i64 a, .int .i64 b, .int .i64 c, .string (str tx)]] w fun e w' => e = effE r ∧ PrMap w' pm (N + 1) ∧ Off (fun k => k = pm) w w' := by
  obtain ⟨ha1, ha2⟩ := ha
  obtain ⟨q, hq⟩ : ∃ q, w.heap.size = q := ⟨_, rfl⟩
  obtain ⟨q1, hq1⟩ : ∃ q1, q + 1 = q1 := ⟨_, rfl⟩
  obtain ⟨q2, hq2⟩ : ∃ q2, q1 + 1 = q2 := ⟨_, rfl⟩
  obtain ⟨w1, hw1⟩ : ∃ V, w.alloc (.cells #[.bool true, .int .i64 h, .int .i64 (t : Int)] 139) = V := ⟨_, rfl⟩
  obtain ⟨w2, hw2⟩ : ∃ V, w1.alloc (.cells #[.int .u8 6, .int .i64 a, .int .i64 b, .int .i64 c, .string (str tx)] 46) = V := ⟨_, rfl⟩
  obtain ⟨w3, hw3⟩ : ∃ V, (w2.alloc (.cells #[.int .i64 g1, .int .i64 g2] 124)).drew = V := ⟨_, rfl⟩
  obtain ⟨hb2, hb3, s1, s2, B1, B2, B3⟩ := ef_box 6 a b c h t (str tx) (g1, g2) w w1 w2 w3 q q1 q2 hq hq1 hq2 hw1 hw2 hw3
  have hM2 := hM.bel hb2
  have hM3 := hM.bel hb3
  obtain ⟨gg, hgv, _, _⟩ := hM.g
  subst hgv
  obtain ⟨gg2, hgv, u0, u1⟩ := hM2.g
  injection hgv with hgv
  injection hgv with hgv
  injection hgv with hgv
  subst hgv
  have c0 := hM2.c0
  have c1 := hM2.c1
  have ck1 : w2.cell? ⟨gk, 2, none⟩ = some (.slice (some ⟨gg, 0, none⟩) m m) := Blk.cell hM2.ck 2
  have hbz : Below w2.heap.size w2 (w2.alloc (.cells #[.int .i64 0, .int .i64 0] 124)) := (Below.refl _ _).alloc (Nat.le_refl _) _
  have n0 := (hbz.cell (World.block_lt_of_cell? w2 _ c0)).trans c0
  have n1 := (hbz.cell (World.block_lt_of_cell? w2 _ c1)).trans c1
  have n2 := (hbz.cell (World.block_lt_of_cell? w2 _ ck1)).trans ck1
  have n3 := (hbz.cell (World.block_lt_of_cell? w2 _ u0)).trans u0
  have n4 := (hbz.cell (World.block_lt_of_cell? w2 _ u1)).trans u1
  clear hbz
  have hfm := hM.fm.1
  have hmm := hM.fm.2
  have HS : Hid (∀ V, Below w3.heap.size w3 V → (V.cell? ⟨gw, 0, none⟩ = some (.pointer (some ⟨gk, 0, none⟩)) ∧ V.cell? ⟨gw, 1, none⟩ = some (.int .i64 (fn : Int))) ∧ (V.cell? ⟨q, 0, none⟩ = some (.bool true) ∧ V.cell? ⟨q, 1, none⟩ = some (.int .i64 h) ∧ V.cell? ⟨q, 2, none⟩ = some (.int .i64 (t : Int))) ∧ (V.cell? ⟨q1, 1, none⟩ = some (.int .i64 a) ∧ V.cell? ⟨q1, 4, none⟩ = some (.string (str tx))) ∧ V.cell? ⟨q2, 0, none⟩ = some (.int .i64 g1) ∧ V.cell? ⟨q2, 1, none⟩ = some (.int .i64 g2)) := Lib.hid fun V hV => by
    have k0 := hM3.bel hV
    have k1 := B1.below hV B1.lt
    have k2 := B2.below hV B2.lt
    have k3 := B3.below hV B3.lt
    exact ⟨⟨k0.c0, k0.c1⟩, ⟨k1.cell 0, k1.cell 1, k1.cell 2⟩, ⟨k2.cell 1, k2.cell 4⟩, k3.cell 0, k3.cell 1⟩
  have HD : Hid (∀ V, Below w3.heap.size w3 V → PrMap V pm (N + 1) ∧ Off (fun k => k = pm) w V) := Lib.hid fun V hV => ⟨(hM3.pr.bel hV).le (by omega), Off.of_new (hb3.trans (hV.mono hb3.size)) _⟩
  have HM3 := Lib.hid (And.intro hM3 (And.intro hb3 htl))
  have HW := Lib.hid (And.intro hw1 (And.intro hq (And.intro hw2 (And.intro s1 (And.intro hw3 s2)))))
  have HQ := Lib.hid hq1
  have HR := Lib.hid hr
  have HAN := Lib.hid (fun V => ask_no (.pointer (some ⟨gk, 0, none⟩)) V)
  have HAY := Lib.hid (fun V => ask_yes (.pointer (some ⟨gk, 0, none⟩)) V)
  have z10 := B2.cell 0
  have z11 := B2.cell 1
  have z12 := B2.cell 2
  have z13 := B2.cell 3
  have z14 := B2.cell 4
  have z01 := B1.cell 1
  have z20 := B3.cell 0
  have z21 := B3.cell 1
  have v0 := hM3.c0
  have v1 := hM3.c1
  clear hM hM2 hM3 hb2 hb3 s1 s2 B1 B2 B3 hw1 hw2 hw3 hq hq1 hq2 hr htl
  go_enter Try.func75, Try.ntmps75
  go_upto_region 1 with fail
  (try rw [HW.out.1])
  (try rw [HW.out.2.1])
  (try rw [HW.out.2.2.1])
  (try rw [HW.out.2.2.2.1])
  (try rw [HQ.out])
  go_region
  go_upto_region 2 with fail
  (try rw [HW.out.2.2.2.2.1])
  (try rw [HW.out.2.2.2.2.2])
  go_wp2_with fail
  go_quiet (fail)
  go_wp2_with fail
  go_ret2
  exact ⟨by rw [HR.out] <;> rfl, HD.out _ (by first | exact Below.refl _ _ | exact (drewN_below _ _) | exact (Below.refl _ _).drew)⟩
end Go.Proofs.Ytimkiifcmegfeaa
/- code: effect (written by cdeff.py). -/
namespace Go.Proofs.Ytimkiifcmegfeaa
open Go.RowKit
set_option linter.unusedVariables false
set_option linter.unusedSimpArgs false
attribute [local go_sem] Oper.semAt_some
set_option maxRecDepth 20000 in
set_option maxHeartbeats 2000000 in
theorem effect_3 (a b c h : Int) (t : Nat) (tx : List UInt8) (gw gk fn m pm N : Nat) (g1 g2 : Int) (cl : Cl) (gv : Value) (w : World) (hM : EfM w gw gk fn m pm N (g1, g2) cl gv) (ha : -4611686018427387904 ≤ a ∧ a ≤ 4611686018427387903) (htl : tx.length ≤ maxLen) (r : Option (Int × Int))
    (hr : r = if a < h then some (0, 1) else none) :
    Calls Try.prog 75 #[.pointer (some ⟨gw, 0, none⟩), .agg #[.bool true, .int .i64 h, .int .i64 (t : Int)], .agg #[.int .u8 3, .int .i64 a, .int .i64 b, .int .i64 c, .string (str tx)]] w fun e w' => e = effE r ∧ PrMap w' pm (N + 1) ∧ Off (fun k => k = pm) w w' := by
  obtain ⟨ha1, ha2⟩ := ha
  obtain ⟨q, hq⟩ : ∃ q, w.heap.size = q := ⟨_, rfl⟩
  obtain ⟨q1, hq1⟩ : ∃ q1, q + 1 = q1 := ⟨_, rfl⟩
  obtain ⟨q2, hq2⟩ : ∃ q2, q1 + 1 = q2 := ⟨_, rfl⟩
  obtain ⟨w1, hw1⟩ : ∃ V, w.alloc (.cells #[.bool true, .int .i64 h, .int .i64 (t : Int)] 139) = V := ⟨_, rfl⟩
  obtain ⟨w2, hw2⟩ : ∃ V, w1.alloc (.cells #[.int .u8 3, .int .i64 a, .int .i64 b, .int .i64 c, .string (str tx)] 46) = V := ⟨_, rfl⟩
  obtain ⟨w3, hw3⟩ : ∃ V, (w2.alloc (.cells #[.int .i64 g1, .int .i64 g2] 124)).drew = V := ⟨_, rfl⟩
  obtain ⟨hb2, hb3, s1, s2, B1, B2, B3⟩ := ef_box 3 a b c h t (str tx) (g1, g2) w w1 w2 w3 q q1 q2 hq hq1 hq2 hw1 hw2 hw3
  have hM2 := hM.bel hb2
  have hM3 := hM.bel hb3
  obtain ⟨gg, hgv, _, _⟩ := hM.g
  subst hgv
  obtain ⟨gg2, hgv, u0, u1⟩ := hM2.g
  injection hgv with hgv
  injection hgv with hgv
  injection hgv with hgv
  subst hgv
  have c0 := hM2.c0
  have c1 := hM2.c1
  have ck1 : w2.cell? ⟨gk, 2, none⟩ = some (.slice (some ⟨gg, 0, none⟩) m m) := Blk.cell hM2.ck 2
  have hbz : Below w2.heap.size w2 (w2.alloc (.cells #[.int .i64 0, .int .i64 0] 124)) := (Below.refl _ _).alloc (Nat.le_refl _) _
  have n0 := (hbz.cell (World.block_lt_of_cell? w2 _ c0)).trans c0
  have n1 := (hbz.cell (World.block_lt_of_cell? w2 _ c1)).trans c1
  have n2 := (hbz.cell (World.block_lt_of_cell? w2 _ ck1)).trans ck1
  have n3 := (hbz.cell (World.block_lt_of_cell? w2 _ u0)).trans u0
  have n4 := (hbz.cell (World.block_lt_of_cell? w2 _ u1)).trans u1
  clear hbz
  have hfm := hM.fm.1
  have hmm := hM.fm.2
  have HS : Hid (∀ V, Below w3.heap.size w3 V → (V.cell? ⟨gw, 0, none⟩ = some (.pointer (some ⟨gk, 0, none⟩)) ∧ V.cell? ⟨gw, 1, none⟩ = some (.int .i64 (fn : Int))) ∧ (V.cell? ⟨q, 0, none⟩ = some (.bool true) ∧ V.cell? ⟨q, 1, none⟩ = some (.int .i64 h) ∧ V.cell? ⟨q, 2, none⟩ = some (.int .i64 (t : Int))) ∧ (V.cell? ⟨q1, 1, none⟩ = some (.int .i64 a) ∧ V.cell? ⟨q1, 4, none⟩ = some (.string (str tx))) ∧ V.cell? ⟨q2, 0, none⟩ = some (.int .i64 g1) ∧ V.cell? ⟨q2, 1, none⟩ = some (.int .i64 g2)) := Lib.hid fun V hV => by
    have k0 := hM3.bel hV
    have k1 := B1.below hV B1.lt
    have k2 := B2.below hV B2.lt
    have k3 := B3.below hV B3.lt
    exact ⟨⟨k0.c0, k0.c1⟩, ⟨k1.cell 0, k1.cell 1, k1.cell 2⟩, ⟨k2.cell 1, k2.cell 4⟩, k3.cell 0, k3.cell 1⟩
  have HD : Hid (∀ V, Below w3.heap.size w3 V → PrMap V pm (N + 1) ∧ Off (fun k => k = pm) w V) := Lib.hid fun V hV => ⟨(hM3.pr.bel hV).le (by omega), Off.of_new (hb3.trans (hV.mono hb3.size)) _⟩
  have HM3 := Lib.hid (And.intro hM3 (And.intro hb3 htl))
  have HW := Lib.hid (And.intro hw1 (And.intro hq (And.intro hw2 (And.intro s1 (And.intro hw3 s2)))))
  have HQ := Lib.hid hq1
  have HR := Lib.hid hr
  have HAN := Lib.hid (fun V => ask_no (.pointer (some ⟨gk, 0, none⟩)) V)
  have HAY := Lib.hid (fun V => ask_yes (.pointer (some ⟨gk, 0, none⟩)) V)
  have z10 := B2.cell 0
  have z11 := B2.cell 1
  have z12 := B2.cell 2
  have z13 := B2.cell 3
  have z14 := B2.cell 4
  have z01 := B1.cell 1
  have z20 := B3.cell 0
  have z21 := B3.cell 1
  have v0 := hM3.c0
  have v1 := hM3.c1
  clear hM hM2 hM3 hb2 hb3 s1 s2 B1 B2 B3 hw1 hw2 hw3 hq hq1 hq2 hr htl
  by_cases hc0 : a < h
  · have e1 : decide (a < h) = true := decide_eq_true hc0
    have hz : r = some (0, 1) := by rw [HR.out]; simp [hc0]
    have HZ := Lib.hid hz
    clear hz hc0
    go_enter Try.func75, Try.ntmps75
    go_upto_region 1 with fail
    (try rw [HW.out.1])
    (try rw [HW.out.2.1])
    (try rw [HW.out.2.2.1])
    (try rw [HW.out.2.2.2.1])
    (try rw [HQ.out])
    go_region
    go_upto_region 2 with fail
    (try rw [HW.out.2.2.2.2.1])
    (try rw [HW.out.2.2.2.2.2])
    go_wp2_with fail
    go_region_held3 (fun V => (V.cell? ⟨gw, 0, none⟩ = some (.pointer (some ⟨gk, 0, none⟩)) ∧ V.cell? ⟨gw, 1, none⟩ = some (.int .i64 (fn : Int))) ∧ (V.cell? ⟨q, 0, none⟩ = some (.bool true) ∧ V.cell? ⟨q, 1, none⟩ = some (.int .i64 h) ∧ V.cell? ⟨q, 2, none⟩ = some (.int .i64 (t : Int))) ∧ (V.cell? ⟨q1, 1, none⟩ = some (.int .i64 a) ∧ V.cell? ⟨q1, 4, none⟩ = some (.string (str tx))) ∧ V.cell? ⟨q2, 0, none⟩ = some (.int .i64 g1) ∧ V.cell? ⟨q2, 1, none⟩ = some (.int .i64 g2))
      (first | exact HS.out _ ((Below.refl _ _).drew))
      (first | (go_at_call 39; refine (HAY.out _).mono ?_; rintro e w8 ⟨rfl, rfl⟩))
    go_wp2_with fail
    go_ret2
    exact ⟨by rw [HZ.out] <;> rfl, HD.out _ ((Below.refl _ _).drew)⟩
  · have e1 : decide (a < h) = false := decide_eq_false hc0
    have hz : r = none := by rw [HR.out]; simp [hc0]
    have HZ := Lib.hid hz
    clear hz hc0
    go_enter Try.func75, Try.ntmps75
    go_upto_region 1 with fail
    (try rw [HW.out.1])
    (try rw [HW.out.2.1])
    (try rw [HW.out.2.2.1])
    (try rw [HW.out.2.2.2.1])
    (try rw [HQ.out])
    go_region
    go_upto_region 2 with fail
    (try rw [HW.out.2.2.2.2.1])
    (try rw [HW.out.2.2.2.2.2])
    go_wp2_with fail
    refine wp_region_held_drew (S := (fun V => (V.cell? ⟨gw, 0, none⟩ = some (.pointer (some ⟨gk, 0, none⟩)) ∧ V.cell? ⟨gw, 1, none⟩ = some (.int .i64 (fn : Int))) ∧ (V.cell? ⟨q, 0, none⟩ = some (.bool true) ∧ V.cell? ⟨q, 1, none⟩ = some (.int .i64 h) ∧ V.cell? ⟨q, 2, none⟩ = some (.int .i64 (t : Int))) ∧ (V.cell? ⟨q1, 1, none⟩ = some (.int .i64 a) ∧ V.cell? ⟨q1, 4, none⟩ = some (.string (str tx))) ∧ V.cell? ⟨q2, 0, none⟩ = some (.int .i64 g1) ∧ V.cell? ⟨q2, 1, none⟩ = some (.int .i64 g2))) (by kernel_rfl) (HS.out _ ((Below.refl _ _).drew)) (fun hHeld => ?_)
    refine takeY 0 (some 26) rfl rfl (by kernel_rfl) (by kernel_rfl) (by kernel_rfl) (fun _ _ _ h => h) (by rfl) (v := _) (by (intro _ hSw; (try dsimp only at hSw); go_simp; try with_reducible rfl)) hHeld ?_
    simp only [Act.put, List.setIfInBounds_toArray, List.set_cons_zero, List.set_cons_succ]
    refine takeY 1 (some 27) rfl rfl (by kernel_rfl) (by kernel_rfl) (by kernel_rfl) (fun _ _ _ h => h) (by rfl) (v := _) (by (intro _ hSw; (try dsimp only at hSw); go_simp; try with_reducible rfl)) hHeld ?_
    simp only [Act.put, List.setIfInBounds_toArray, List.set_cons_zero, List.set_cons_succ]
    refine takeY 2 (some 28) rfl rfl (by kernel_rfl) (by kernel_rfl) (by kernel_rfl) (fun _ _ _ h => h) (by rfl) (v := _) (by (intro _ hSw; (try dsimp only at hSw); go_simp; try with_reducible rfl)) hHeld ?_
    simp only [Act.put, List.setIfInBounds_toArray, List.set_cons_zero, List.set_cons_succ]
    refine takeY 3 (some 29) rfl rfl (by kernel_rfl) (by kernel_rfl) (by kernel_rfl) (fun _ _ _ h => h) (by rfl) (v := _) (by (intro _ hSw; (try dsimp only at hSw); go_simp; try with_reducible rfl)) hHeld ?_
    simp only [Act.put, List.setIfInBounds_toArray, List.set_cons_zero, List.set_cons_succ]
    refine takeY 4 (some 30) rfl rfl (by kernel_rfl) (by kernel_rfl) (by kernel_rfl) (fun _ _ _ h => h) (by rfl) (v := _) (by (intro _ hSw; (try dsimp only at hSw); go_simp; try with_reducible rfl)) hHeld ?_
    simp only [Act.put, List.setIfInBounds_toArray, List.set_cons_zero, List.set_cons_succ]
    refine takeY 5 (some 31) rfl rfl (by kernel_rfl) (by kernel_rfl) (by kernel_rfl) (fun _ _ _ h => h) (by rfl) (v := _) (by (intro _ hSw; (try dsimp only at hSw); go_simp; try with_reducible rfl)) hHeld ?_
    simp only [Act.put, List.setIfInBounds_toArray, List.set_cons_zero, List.set_cons_succ]
    refine takeY 6 (some 32) rfl rfl (by kernel_rfl) (by kernel_rfl) (by kernel_rfl) (fun _ _ _ h => h) (by rfl) (v := _) (by (intro _ hSw; (try dsimp only at hSw); go_simp; try with_reducible rfl)) hHeld ?_
    simp only [Act.put, List.setIfInBounds_toArray, List.set_cons_zero, List.set_cons_succ]
    refine takeY 7 (some 33) rfl rfl (by kernel_rfl) (by kernel_rfl) (by kernel_rfl) (fun _ _ _ h => h) (by rfl) (v := _) (by (intro _ hSw; (try dsimp only at hSw); go_simp; try with_reducible rfl)) hHeld ?_
    simp only [Act.put, List.setIfInBounds_toArray, List.set_cons_zero, List.set_cons_succ]
    refine takeY 8 (some 34) rfl rfl (by kernel_rfl) (by kernel_rfl) (by kernel_rfl) (fun _ _ _ h => h) (by rfl) (v := _) (by (intro _ hSw; (try dsimp only at hSw); go_simp; try with_reducible rfl)) hHeld ?_
    simp only [Act.put, List.setIfInBounds_toArray, List.set_cons_zero, List.set_cons_succ]
    refine wpAnyH_ready (rs := [9]) (by kernel_rfl) (by simp) ?_
    refine AllReadyH.cons rfl (fun K hK => ?_) AllReadyH.nil
    clear hHeld
    go_simp
    (go_at_call 39; refine (HAN.out _).mono ?_; rintro e w8 ⟨rfl, rfl⟩)
    exact ⟨rfl, by rw [HZ.out]; rfl, HD.out _ ((Below.refl _ _).drew)⟩
end Go.Proofs.Ytimkiifcmegfeaa
