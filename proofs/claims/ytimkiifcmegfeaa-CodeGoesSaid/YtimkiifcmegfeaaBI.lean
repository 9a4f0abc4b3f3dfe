/- Contracts, part BI. -/
import Derived.Test.YtimkiifcmegfeaaBA
/- code: operands (written by cdop.py). -/
namespace Go.Proofs.Ytimkiifcmegfeaa
open Go.RowKit
set_option linter.unusedVariables false
set_option linter.unusedSimpArgs false
attribute [local go_sem] Oper.semAt_some
set_option maxRecDepth 20000 in
set_option maxHeartbeats 2000000 in
theorem opnd_1 (a b c : Int) (tx : List UInt8) (gk pm N : Nat) (cl : Cl) (gv : Value) (m rk n : Nat) (hm : cl.fs.length = m) (hrk : cl.rs.length = rk) (hm2 : m ≤ 1000000) (hrk2 : rk ≤ 1000000) (hn2 : n ≤ 1000000) (hc : c ≤ 9223372036854775807) (htl : tx.length ≤ maxLen) (w : World) (hk : CkB w gk cl gv pm) (hpm : PrMap w pm N) (hN : N < 1000000) (r : Bool)
    (hr : r = (wi a (-4611686018427387904) 4611686018427387903 && (decide (b = 0) && decide (c = 0) && decide (tx = [])))) :
    Calls Try.prog 41 #[.pointer (some ⟨gk, 0, none⟩), .agg #[.int .u8 1, .int .i64 a, .int .i64 b, .int .i64 c, .string (str tx)], .int .i64 (n : Int)] w fun e w' => e = (if r = true then .returned (.tuple #[]) else .panicked [wr]) ∧ PrMap w' pm (N + 1) ∧ Off (fun k => k = pm) w w' := by
  obtain ⟨q, hq⟩ : ∃ q, w.heap.size = q := ⟨_, rfl⟩
  obtain ⟨w1, hw1⟩ : ∃ W, w.alloc (.cells #[.int .u8 1, .int .i64 a, .int .i64 b, .int .i64 c, .string (str tx)] 46) = W := ⟨_, rfl⟩
  obtain ⟨q1, hq1⟩ : ∃ z, q + 1 = z := ⟨_, rfl⟩
  have b1 : Below w.heap.size w w1 := by rw [← hw1]; exact (Below.refl _ _).alloc (Nat.le_refl _) _
  have k1 := Blk.below hk b1 (Blk.lt hk)
  have c0 : w1.cell? ⟨gk, 0, none⟩ = some (.slice cl.fA m cl.fc) := by rw [← hm]; exact Blk.cell k1 0
  have c1 : w1.cell? ⟨gk, 1, none⟩ = some (.slice cl.rA rk cl.rc) := by rw [← hrk]; exact Blk.cell k1 1
  have HW := Lib.hid (And.intro hq (And.intro hw1 hq1))
  have HR := Lib.hid hr
  have HK := Lib.hid (And.intro hk (And.intro hpm hN))
  have HT := Lib.hid htl
  clear hr hq hw1 b1 hq1 k1 hk hpm hN hm hrk htl
  go_enter Try.func41, Try.ntmps41
  go_upto_region 1 with fail
  (try rw [HW.out.1])
  (try rw [HW.out.2.1])
  go_quiet (fail)
  obtain ⟨wd, hwd⟩ : ∃ W, w1.drewN nq = W := ⟨_, rfl⟩
  rw [hwd]
  obtain ⟨w2, hw2, hsz, hbd, hb2, ⟨x0, x1, x2, x3, x4⟩, B1, B2⟩ := op_box 1 a b c _ w w1 wd q q1 nq HW.out.1 HW.out.2.2 HW.out.2.1 hwd
  have y0 := B1.cell 0
  have y1 := B1.cell 1
  have y2 := B1.cell 2
  have y3 := B1.cell 3
  have y4 := B1.cell 4
  have z0 := B2.cell 0
  have z1 := B2.cell 1
  have z2 := B2.cell 2
  have z3 := B2.cell 3
  have z4 := B2.cell 4
  have f2 := B2.frozen 2
  have f3 := B2.frozen 3
  have f4 := B2.frozen 4
  have HB := Lib.hid (op_end hb2 HK.out.2.1 (show w.heap.size ≤ q1 by have := HW.out.1; have := HW.out.2.2; omega))
  have HE := Lib.hid (And.intro hw2 hsz)
  have HBB := Lib.hid (And.intro hb2 (And.intro B1 B2))
  clear hw2 hsz hbd hb2 B1 B2 hwd c0 c1
  go_upto_region 4 with fail
  rw [HE.out.1, HE.out.2]
  clear x0 x1 x2 x3 x4
  cases hu0 : wi a (-4611686018427387904) 4611686018427387903 with
  | false =>
    have HC := Lib.hid (fun W => within_no (.pointer (some ⟨gk, 0, none⟩)) a (-4611686018427387904) 4611686018427387903 hu0 W)
    have HZ : Hid ((if r = true then Ending.returned (.tuple #[]) else .panicked [wr]) = .panicked [wr]) := Lib.hid (by rw [HR.out]; simp [hu0])
    go_wp2_with fail
    refine (HC.out _).mono ?_
    rintro e w' ⟨rfl, rfl⟩
    exact ⟨rfl, HZ.out.symm, HB.out.zero⟩
  | true =>
    have HC0 := Lib.hid (fun W => within_yes (.pointer (some ⟨gk, 0, none⟩)) a (-4611686018427387904) 4611686018427387903 hu0 W)
    go_wp2_with fail
    refine (HC0.out _).mono ?_
    rintro e w' ⟨rfl, rfl⟩
    go_upto_region 50 with fail
    go_wp2_with fail
    · refine (ask_yes _ _).mono ?_
      rintro e w' ⟨rfl, rfl⟩
      have hz : r = true := by rw [HR.out, hu0]; simp_all [str_toList]
      go_wp2_with fail
      go_end0
      exact ⟨by first | rfl | (rw [hz]; rfl), HB.out.zero⟩
    all_goals
      refine (ask_no _ _).mono ?_
      rintro e w' ⟨rfl, rfl⟩
      have hz : r = false := by rw [HR.out, hu0]; simp_all [str_toList]
      exact ⟨rfl, by rw [hz]; rfl, HB.out.zero⟩
set_option maxRecDepth 20000 in
set_option maxHeartbeats 2000000 in
theorem opnd_24 (a b c : Int) (tx : List UInt8) (gk pm N : Nat) (cl : Cl) (gv : Value) (m rk n : Nat) (hm : cl.fs.length = m) (hrk : cl.rs.length = rk) (hm2 : m ≤ 1000000) (hrk2 : rk ≤ 1000000) (hn2 : n ≤ 1000000) (hc : c ≤ 9223372036854775807) (htl : tx.length ≤ maxLen) (w : World) (hk : CkB w gk cl gv pm) (hpm : PrMap w pm N) (hN : N < 1000000) (r : Bool)
    (hr : r = (wi a 0 ((rk : Int) - 1) && (decide (b = 0) && decide (c = 0) && decide (tx = [])))) :
    Calls Try.prog 41 #[.pointer (some ⟨gk, 0, none⟩), .agg #[.int .u8 24, .int .i64 a, .int .i64 b, .int .i64 c, .string (str tx)], .int .i64 (n : Int)] w fun e w' => e = (if r = true then .returned (.tuple #[]) else .panicked [wr]) ∧ PrMap w' pm (N + 1) ∧ Off (fun k => k = pm) w w' := by
  obtain ⟨q, hq⟩ : ∃ q, w.heap.size = q := ⟨_, rfl⟩
  obtain ⟨w1, hw1⟩ : ∃ W, w.alloc (.cells #[.int .u8 24, .int .i64 a, .int .i64 b, .int .i64 c, .string (str tx)] 46) = W := ⟨_, rfl⟩
  obtain ⟨q1, hq1⟩ : ∃ z, q + 1 = z := ⟨_, rfl⟩
  have b1 : Below w.heap.size w w1 := by rw [← hw1]; exact (Below.refl _ _).alloc (Nat.le_refl _) _
  have k1 := Blk.below hk b1 (Blk.lt hk)
  have c0 : w1.cell? ⟨gk, 0, none⟩ = some (.slice cl.fA m cl.fc) := by rw [← hm]; exact Blk.cell k1 0
  have c1 : w1.cell? ⟨gk, 1, none⟩ = some (.slice cl.rA rk cl.rc) := by rw [← hrk]; exact Blk.cell k1 1
  have HW := Lib.hid (And.intro hq (And.intro hw1 hq1))
  have HR := Lib.hid hr
  have HK := Lib.hid (And.intro hk (And.intro hpm hN))
  have HT := Lib.hid htl
  clear hr hq hw1 b1 hq1 k1 hk hpm hN hm hrk htl
  go_enter Try.func41, Try.ntmps41
  go_upto_region 1 with fail
  (try rw [HW.out.1])
  (try rw [HW.out.2.1])
  go_quiet (fail)
  obtain ⟨wd, hwd⟩ : ∃ W, w1.drewN nq = W := ⟨_, rfl⟩
  rw [hwd]
  obtain ⟨w2, hw2, hsz, hbd, hb2, ⟨x0, x1, x2, x3, x4⟩, B1, B2⟩ := op_box 24 a b c _ w w1 wd q q1 nq HW.out.1 HW.out.2.2 HW.out.2.1 hwd
  have y0 := B1.cell 0
  have y1 := B1.cell 1
  have y2 := B1.cell 2
  have y3 := B1.cell 3
  have y4 := B1.cell 4
  have z0 := B2.cell 0
  have z1 := B2.cell 1
  have z2 := B2.cell 2
  have z3 := B2.cell 3
  have z4 := B2.cell 4
  have f2 := B2.frozen 2
  have f3 := B2.frozen 3
  have f4 := B2.frozen 4
  have HB := Lib.hid (op_end hb2 HK.out.2.1 (show w.heap.size ≤ q1 by have := HW.out.1; have := HW.out.2.2; omega))
  have HE := Lib.hid (And.intro hw2 hsz)
  have HBB := Lib.hid (And.intro hb2 (And.intro B1 B2))
  clear hw2 hsz hbd hb2 B1 B2 hwd c0 c1
  go_upto_region 4 with fail
  rw [HE.out.1, HE.out.2]
  clear x0 x1 x2 x3 x4
  cases hu0 : wi a 0 ((rk : Int) - 1) with
  | false =>
    have HC := Lib.hid (fun W => within_no (.pointer (some ⟨gk, 0, none⟩)) a 0 ((rk : Int) - 1) hu0 W)
    have HZ : Hid ((if r = true then Ending.returned (.tuple #[]) else .panicked [wr]) = .panicked [wr]) := Lib.hid (by rw [HR.out]; simp [hu0])
    go_wp2_with fail
    refine (HC.out _).mono ?_
    rintro e w' ⟨rfl, rfl⟩
    exact ⟨rfl, HZ.out.symm, HB.out.zero⟩
  | true =>
    have HC0 := Lib.hid (fun W => within_yes (.pointer (some ⟨gk, 0, none⟩)) a 0 ((rk : Int) - 1) hu0 W)
    go_wp2_with fail
    refine (HC0.out _).mono ?_
    rintro e w' ⟨rfl, rfl⟩
    go_upto_region 50 with fail
    go_wp2_with fail
    · refine (ask_yes _ _).mono ?_
      rintro e w' ⟨rfl, rfl⟩
      have hz : r = true := by rw [HR.out, hu0]; simp_all [str_toList]
      go_wp2_with fail
      go_end0
      exact ⟨by first | rfl | (rw [hz]; rfl), HB.out.zero⟩
    all_goals
      refine (ask_no _ _).mono ?_
      rintro e w' ⟨rfl, rfl⟩
      have hz : r = false := by rw [HR.out, hu0]; simp_all [str_toList]
      exact ⟨rfl, by rw [hz]; rfl, HB.out.zero⟩
set_option maxRecDepth 20000 in
set_option maxHeartbeats 2000000 in
theorem opnd_11 (a b c : Int) (tx : List UInt8) (gk pm N : Nat) (cl : Cl) (gv : Value) (m rk n : Nat) (hm : cl.fs.length = m) (hrk : cl.rs.length = rk) (hm2 : m ≤ 1000000) (hrk2 : rk ≤ 1000000) (hn2 : n ≤ 1000000) (hc : c ≤ 9223372036854775807) (htl : tx.length ≤ maxLen) (w : World) (hk : CkB w gk cl gv pm) (hpm : PrMap w pm N) (hN : N < 1000000) (r : Bool)
    (hr : r = (wi a 2 65535 && (decide (b = 0) && decide (c = 0) && decide (tx = [])))) :
    Calls Try.prog 41 #[.pointer (some ⟨gk, 0, none⟩), .agg #[.int .u8 11, .int .i64 a, .int .i64 b, .int .i64 c, .string (str tx)], .int .i64 (n : Int)] w fun e w' => e = (if r = true then .returned (.tuple #[]) else .panicked [wr]) ∧ PrMap w' pm (N + 1) ∧ Off (fun k => k = pm) w w' := by
  obtain ⟨q, hq⟩ : ∃ q, w.heap.size = q := ⟨_, rfl⟩
  obtain ⟨w1, hw1⟩ : ∃ W, w.alloc (.cells #[.int .u8 11, .int .i64 a, .int .i64 b, .int .i64 c, .string (str tx)] 46) = W := ⟨_, rfl⟩
  obtain ⟨q1, hq1⟩ : ∃ z, q + 1 = z := ⟨_, rfl⟩
  have b1 : Below w.heap.size w w1 := by rw [← hw1]; exact (Below.refl _ _).alloc (Nat.le_refl _) _
  have k1 := Blk.below hk b1 (Blk.lt hk)
  have c0 : w1.cell? ⟨gk, 0, none⟩ = some (.slice cl.fA m cl.fc) := by rw [← hm]; exact Blk.cell k1 0
  have c1 : w1.cell? ⟨gk, 1, none⟩ = some (.slice cl.rA rk cl.rc) := by rw [← hrk]; exact Blk.cell k1 1
  have HW := Lib.hid (And.intro hq (And.intro hw1 hq1))
  have HR := Lib.hid hr
  have HK := Lib.hid (And.intro hk (And.intro hpm hN))
  have HT := Lib.hid htl
  clear hr hq hw1 b1 hq1 k1 hk hpm hN hm hrk htl
  go_enter Try.func41, Try.ntmps41
  go_upto_region 1 with fail
  (try rw [HW.out.1])
  (try rw [HW.out.2.1])
  go_quiet (fail)
  obtain ⟨wd, hwd⟩ : ∃ W, w1.drewN nq = W := ⟨_, rfl⟩
  rw [hwd]
  obtain ⟨w2, hw2, hsz, hbd, hb2, ⟨x0, x1, x2, x3, x4⟩, B1, B2⟩ := op_box 11 a b c _ w w1 wd q q1 nq HW.out.1 HW.out.2.2 HW.out.2.1 hwd
  have y0 := B1.cell 0
  have y1 := B1.cell 1
  have y2 := B1.cell 2
  have y3 := B1.cell 3
  have y4 := B1.cell 4
  have z0 := B2.cell 0
  have z1 := B2.cell 1
  have z2 := B2.cell 2
  have z3 := B2.cell 3
  have z4 := B2.cell 4
  have f2 := B2.frozen 2
  have f3 := B2.frozen 3
  have f4 := B2.frozen 4
  have HB := Lib.hid (op_end hb2 HK.out.2.1 (show w.heap.size ≤ q1 by have := HW.out.1; have := HW.out.2.2; omega))
  have HE := Lib.hid (And.intro hw2 hsz)
  have HBB := Lib.hid (And.intro hb2 (And.intro B1 B2))
  clear hw2 hsz hbd hb2 B1 B2 hwd c0 c1
  go_upto_region 4 with fail
  rw [HE.out.1, HE.out.2]
  clear x0 x1 x2 x3 x4
  cases hu0 : wi a 2 65535 with
  | false =>
    have HC := Lib.hid (fun W => within_no (.pointer (some ⟨gk, 0, none⟩)) a 2 65535 hu0 W)
    have HZ : Hid ((if r = true then Ending.returned (.tuple #[]) else .panicked [wr]) = .panicked [wr]) := Lib.hid (by rw [HR.out]; simp [hu0])
    go_wp2_with fail
    refine (HC.out _).mono ?_
    rintro e w' ⟨rfl, rfl⟩
    exact ⟨rfl, HZ.out.symm, HB.out.zero⟩
  | true =>
    have HC0 := Lib.hid (fun W => within_yes (.pointer (some ⟨gk, 0, none⟩)) a 2 65535 hu0 W)
    go_wp2_with fail
    refine (HC0.out _).mono ?_
    rintro e w' ⟨rfl, rfl⟩
    go_upto_region 50 with fail
    go_wp2_with fail
    · refine (ask_yes _ _).mono ?_
      rintro e w' ⟨rfl, rfl⟩
      have hz : r = true := by rw [HR.out, hu0]; simp_all [str_toList]
      go_wp2_with fail
      go_end0
      exact ⟨by first | rfl | (rw [hz]; rfl), HB.out.zero⟩
    all_goals
      refine (ask_no _ _).mono ?_
      rintro e w' ⟨rfl, rfl⟩
      have hz : r = false := by rw [HR.out, hu0]; simp_all [str_toList]
      exact ⟨rfl, by rw [hz]; rfl, HB.out.zero⟩
end Go.Proofs.Ytimkiifcmegfeaa
/- code: operands (written by cdop.py). -/
namespace Go.Proofs.Ytimkiifcmegfeaa
open Go.RowKit
set_option linter.unusedVariables false
set_option linter.unusedSimpArgs false
attribute [local go_sem] Oper.semAt_some
set_option maxRecDepth 20000 in
set_option maxHeartbeats 2000000 in
theorem opnd_9 (a b c : Int) (tx : List UInt8) (gk pm N : Nat) (cl : Cl) (gv : Value) (m rk n : Nat) (hm : cl.fs.length = m) (hrk : cl.rs.length = rk) (hm2 : m ≤ 1000000) (hrk2 : rk ≤ 1000000) (hn2 : n ≤ 1000000) (hc : c ≤ 9223372036854775807) (htl : tx.length ≤ maxLen) (w : World) (hk : CkB w gk cl gv pm) (hpm : PrMap w pm N) (hN : N < 1000000) (r : Bool)
    (hr : r = (wi a 0 ((n : Int) - 1) && (decide (b = 0) && decide (c = 0) && decide (tx = [])))) :
    Calls Try.prog 41 #[.pointer (some ⟨gk, 0, none⟩), .agg #[.int .u8 9, .int .i64 a, .int .i64 b, .int .i64 c, .string (str tx)], .int .i64 (n : Int)] w fun e w' => e = (if r = true then .returned (.tuple #[]) else .panicked [wr]) ∧ PrMap w' pm (N + 1) ∧ Off (fun k => k = pm) w w' := by
  obtain ⟨q, hq⟩ : ∃ q, w.heap.size = q := ⟨_, rfl⟩
  obtain ⟨w1, hw1⟩ : ∃ W, w.alloc (.cells #[.int .u8 9, .int .i64 a, .int .i64 b, .int .i64 c, .string (str tx)] 46) = W := ⟨_, rfl⟩
  obtain ⟨q1, hq1⟩ : ∃ z, q + 1 = z := ⟨_, rfl⟩
  have b1 : Below w.heap.size w w1 := by rw [← hw1]; exact (Below.refl _ _).alloc (Nat.le_refl _) _
  have k1 := Blk.below hk b1 (Blk.lt hk)
  have c0 : w1.cell? ⟨gk, 0, none⟩ = some (.slice cl.fA m cl.fc) := by rw [← hm]; exact Blk.cell k1 0
  have c1 : w1.cell? ⟨gk, 1, none⟩ = some (.slice cl.rA rk cl.rc) := by rw [← hrk]; exact Blk.cell k1 1
  have HW := Lib.hid (And.intro hq (And.intro hw1 hq1))
  have HR := Lib.hid hr
  have HK := Lib.hid (And.intro hk (And.intro hpm hN))
  have HT := Lib.hid htl
  clear hr hq hw1 b1 hq1 k1 hk hpm hN hm hrk htl
  go_enter Try.func41, Try.ntmps41
  go_upto_region 1 with fail
  (try rw [HW.out.1])
  (try rw [HW.out.2.1])
  go_quiet (fail)
  obtain ⟨wd, hwd⟩ : ∃ W, w1.drewN nq = W := ⟨_, rfl⟩
  rw [hwd]
  obtain ⟨w2, hw2, hsz, hbd, hb2, ⟨x0, x1, x2, x3, x4⟩, B1, B2⟩ := op_box 9 a b c _ w w1 wd q q1 nq HW.out.1 HW.out.2.2 HW.out.2.1 hwd
  have y0 := B1.cell 0
  have y1 := B1.cell 1
  have y2 := B1.cell 2
  have y3 := B1.cell 3
  have y4 := B1.cell 4
  have z0 := B2.cell 0
  have z1 := B2.cell 1
  have z2 := B2.cell 2
  have z3 := B2.cell 3
  have z4 := B2.cell 4
  have f2 := B2.frozen 2
  have f3 := B2.frozen 3
  have f4 := B2.frozen 4
  have HB := Lib.hid (op_end hb2 HK.out.2.1 (show w.heap.size ≤ q1 by have := HW.out.1; have := HW.out.2.2; omega))
  have HE := Lib.hid (And.intro hw2 hsz)
  have HBB := Lib.hid (And.intro hb2 (And.intro B1 B2))
  clear hw2 hsz hbd hb2 B1 B2 hwd c0 c1
  go_upto_region 4 with fail
  rw [HE.out.1, HE.out.2]
  clear x0 x1 x2 x3 x4
  cases hu0 : wi a 0 ((n : Int) - 1) with
  | false =>
    have HC := Lib.hid (fun W => within_no (.pointer (some ⟨gk, 0, none⟩)) a 0 ((n : Int) - 1) hu0 W)
    have HZ : Hid ((if r = true then Ending.returned (.tuple #[]) else .panicked [wr]) = .panicked [wr]) := Lib.hid (by rw [HR.out]; simp [hu0])
    go_wp2_with fail
    refine (HC.out _).mono ?_
    rintro e w' ⟨rfl, rfl⟩
    exact ⟨rfl, HZ.out.symm, HB.out.zero⟩
  | true =>
    have HC0 := Lib.hid (fun W => within_yes (.pointer (some ⟨gk, 0, none⟩)) a 0 ((n : Int) - 1) hu0 W)
    go_wp2_with fail
    refine (HC0.out _).mono ?_
    rintro e w' ⟨rfl, rfl⟩
    go_upto_region 50 with fail
    go_wp2_with fail
    · refine (ask_yes _ _).mono ?_
      rintro e w' ⟨rfl, rfl⟩
      have hz : r = true := by rw [HR.out, hu0]; simp_all [str_toList]
      go_wp2_with fail
      go_end0
      exact ⟨by first | rfl | (rw [hz]; rfl), HB.out.zero⟩
    all_goals
      refine (ask_no _ _).mono ?_
      rintro e w' ⟨rfl, rfl⟩
      have hz : r = false := by rw [HR.out, hu0]; simp_all [str_toList]
      exact ⟨rfl, by rw [hz]; rfl, HB.out.zero⟩
set_option maxRecDepth 20000 in
set_option maxHeartbeats 2000000 in
theorem opnd_10 (a b c : Int) (tx : List UInt8) (gk pm N : Nat) (cl : Cl) (gv : Value) (m rk n : Nat) (hm : cl.fs.length = m) (hrk : cl.rs.length = rk) (hm2 : m ≤ 1000000) (hrk2 : rk ≤ 1000000) (hn2 : n ≤ 1000000) (hc : c ≤ 9223372036854775807) (htl : tx.length ≤ maxLen) (w : World) (hk : CkB w gk cl gv pm) (hpm : PrMap w pm N) (hN : N < 1000000) (r : Bool)
    (hr : r = (wi a 0 ((n : Int) - 1) && (decide (b = 0) && decide (c = 0) && decide (tx = [])))) :
    Calls Try.prog 41 #[.pointer (some ⟨gk, 0, none⟩), .agg #[.int .u8 10, .int .i64 a, .int .i64 b, .int .i64 c, .string (str tx)], .int .i64 (n : Int)] w fun e w' => e = (if r = true then .returned (.tuple #[]) else .panicked [wr]) ∧ PrMap w' pm (N + 1) ∧ Off (fun k => k = pm) w w' := by
  obtain ⟨q, hq⟩ : ∃ q, w.heap.size = q := ⟨_, rfl⟩
  obtain ⟨w1, hw1⟩ : ∃ W, w.alloc (.cells #[.int .u8 10, .int .i64 a, .int .i64 b, .int .i64 c, .string (str tx)] 46) = W := ⟨_, rfl⟩
  obtain ⟨q1, hq1⟩ : ∃ z, q + 1 = z := ⟨_, rfl⟩
  have b1 : Below w.heap.size w w1 := by rw [← hw1]; exact (Below.refl _ _).alloc (Nat.le_refl _) _
  have k1 := Blk.below hk b1 (Blk.lt hk)
  have c0 : w1.cell? ⟨gk, 0, none⟩ = some (.slice cl.fA m cl.fc) := by rw [← hm]; exact Blk.cell k1 0
  have c1 : w1.cell? ⟨gk, 1, none⟩ = some (.slice cl.rA rk cl.rc) := by rw [← hrk]; exact Blk.cell k1 1
  have HW := Lib.hid (And.intro hq (And.intro hw1 hq1))
  have HR := Lib.hid hr
  have HK := Lib.hid (And.intro hk (And.intro hpm hN))
  have HT := Lib.hid htl
  clear hr hq hw1 b1 hq1 k1 hk hpm hN hm hrk htl
  go_enter Try.func41, Try.ntmps41
  go_upto_region 1 with fail
  (try rw [HW.out.1])
  (try rw [HW.out.2.1])
  go_quiet (fail)
  obtain ⟨wd, hwd⟩ : ∃ W, w1.drewN nq = W := ⟨_, rfl⟩
  rw [hwd]
  obtain ⟨w2, hw2, hsz, hbd, hb2, ⟨x0, x1, x2, x3, x4⟩, B1, B2⟩ := op_box 10 a b c _ w w1 wd q q1 nq HW.out.1 HW.out.2.2 HW.out.2.1 hwd
  have y0 := B1.cell 0
  have y1 := B1.cell 1
  have y2 := B1.cell 2
  have y3 := B1.cell 3
  have y4 := B1.cell 4
  have z0 := B2.cell 0
  have z1 := B2.cell 1
  have z2 := B2.cell 2
  have z3 := B2.cell 3
  have z4 := B2.cell 4
  have f2 := B2.frozen 2
  have f3 := B2.frozen 3
  have f4 := B2.frozen 4
  have HB := Lib.hid (op_end hb2 HK.out.2.1 (show w.heap.size ≤ q1 by have := HW.out.1; have := HW.out.2.2; omega))
  have HE := Lib.hid (And.intro hw2 hsz)
  have HBB := Lib.hid (And.intro hb2 (And.intro B1 B2))
  clear hw2 hsz hbd hb2 B1 B2 hwd c0 c1
  go_upto_region 4 with fail
  rw [HE.out.1, HE.out.2]
  clear x0 x1 x2 x3 x4
  cases hu0 : wi a 0 ((n : Int) - 1) with
  | false =>
    have HC := Lib.hid (fun W => within_no (.pointer (some ⟨gk, 0, none⟩)) a 0 ((n : Int) - 1) hu0 W)
    have HZ : Hid ((if r = true then Ending.returned (.tuple #[]) else .panicked [wr]) = .panicked [wr]) := Lib.hid (by rw [HR.out]; simp [hu0])
    go_wp2_with fail
    refine (HC.out _).mono ?_
    rintro e w' ⟨rfl, rfl⟩
    exact ⟨rfl, HZ.out.symm, HB.out.zero⟩
  | true =>
    have HC0 := Lib.hid (fun W => within_yes (.pointer (some ⟨gk, 0, none⟩)) a 0 ((n : Int) - 1) hu0 W)
    go_wp2_with fail
    refine (HC0.out _).mono ?_
    rintro e w' ⟨rfl, rfl⟩
    go_upto_region 50 with fail
    go_wp2_with fail
    · refine (ask_yes _ _).mono ?_
      rintro e w' ⟨rfl, rfl⟩
      have hz : r = true := by rw [HR.out, hu0]; simp_all [str_toList]
      go_wp2_with fail
      go_end0
      exact ⟨by first | rfl | (rw [hz]; rfl), HB.out.zero⟩
    all_goals
      refine (ask_no _ _).mono ?_
      rintro e w' ⟨rfl, rfl⟩
      have hz : r = false := by rw [HR.out, hu0]; simp_all [str_toList]
      exact ⟨rfl, by rw [hz]; rfl, HB.out.zero⟩
set_option maxRecDepth 20000 in
set_option maxHeartbeats 2000000 in
theorem opnd_18 (a b c : Int) (tx : List UInt8) (gk pm N : Nat) (cl : Cl) (gv : Value) (m rk n : Nat) (hm : cl.fs.length = m) (hrk : cl.rs.length = rk) (hm2 : m ≤ 1000000) (hrk2 : rk ≤ 1000000) (hn2 : n ≤ 1000000) (hc : c ≤ 9223372036854775807) (htl : tx.length ≤ maxLen) (w : World) (hk : CkB w gk cl gv pm) (hpm : PrMap w pm N) (hN : N < 1000000) (r : Bool)
    (hr : r = (wi a 0 ((n : Int) - 1) && (decide (b = 0) && decide (c = 0) && decide (tx = [])))) :
    Calls Try.prog 41 #[.pointer (some ⟨gk, 0, none⟩), .agg #[.int .u8 18, .int .i64 a, .int .i64 b, .int .i64 c, .string (str tx)], .int .i64 (n : Int)] w fun e w' => e = (if r = true then .returned (.tuple #[]) else .panicked [wr]) ∧ PrMap w' pm (N + 1) ∧ Off (fun k => k = pm) w w' := by
  obtain ⟨q, hq⟩ : ∃ q, w.heap.size = q := ⟨_, rfl⟩
  obtain ⟨w1, hw1⟩ : ∃ W, w.alloc (.cells #[.int .u8 18, .int .i64 a, .int .i64 b, .int .i64 c, .string (str tx)] 46) = W := ⟨_, rfl⟩
  obtain ⟨q1, hq1⟩ : ∃ z, q + 1 = z := ⟨_, rfl⟩
  have b1 : Below w.heap.size w w1 := by rw [← hw1]; exact (Below.refl _ _).alloc (Nat.le_refl _) _
  have k1 := Blk.below hk b1 (Blk.lt hk)
  have c0 : w1.cell? ⟨gk, 0, none⟩ = some (.slice cl.fA m cl.fc) := by rw [← hm]; exact Blk.cell k1 0
  have c1 : w1.cell? ⟨gk, 1, none⟩ = some (.slice cl.rA rk cl.rc) := by rw [← hrk]; exact Blk.cell k1 1
  have HW := Lib.hid (And.intro hq (And.intro hw1 hq1))
  have HR := Lib.hid hr
  have HK := Lib.hid (And.intro hk (And.intro hpm hN))
  have HT := Lib.hid htl
  clear hr hq hw1 b1 hq1 k1 hk hpm hN hm hrk htl
  go_enter Try.func41, Try.ntmps41
  go_upto_region 1 with fail
  (try rw [HW.out.1])
  (try rw [HW.out.2.1])
  go_quiet (fail)
  obtain ⟨wd, hwd⟩ : ∃ W, w1.drewN nq = W := ⟨_, rfl⟩
  rw [hwd]
  obtain ⟨w2, hw2, hsz, hbd, hb2, ⟨x0, x1, x2, x3, x4⟩, B1, B2⟩ := op_box 18 a b c _ w w1 wd q q1 nq HW.out.1 HW.out.2.2 HW.out.2.1 hwd
  have y0 := B1.cell 0
  have y1 := B1.cell 1
  have y2 := B1.cell 2
  have y3 := B1.cell 3
  have y4 := B1.cell 4
  have z0 := B2.cell 0
  have z1 := B2.cell 1
  have z2 := B2.cell 2
  have z3 := B2.cell 3
  have z4 := B2.cell 4
  have f2 := B2.frozen 2
  have f3 := B2.frozen 3
  have f4 := B2.frozen 4
  have HB := Lib.hid (op_end hb2 HK.out.2.1 (show w.heap.size ≤ q1 by have := HW.out.1; have := HW.out.2.2; omega))
  have HE := Lib.hid (And.intro hw2 hsz)
  have HBB := Lib.hid (And.intro hb2 (And.intro B1 B2))
  clear hw2 hsz hbd hb2 B1 B2 hwd c0 c1
  go_upto_region 4 with fail
  rw [HE.out.1, HE.out.2]
  clear x0 x1 x2 x3 x4
  cases hu0 : wi a 0 ((n : Int) - 1) with
  | false =>
    have HC := Lib.hid (fun W => within_no (.pointer (some ⟨gk, 0, none⟩)) a 0 ((n : Int) - 1) hu0 W)
    have HZ : Hid ((if r = true then Ending.returned (.tuple #[]) else .panicked [wr]) = .panicked [wr]) := Lib.hid (by rw [HR.out]; simp [hu0])
    go_wp2_with fail
    refine (HC.out _).mono ?_
    rintro e w' ⟨rfl, rfl⟩
    exact ⟨rfl, HZ.out.symm, HB.out.zero⟩
  | true =>
    have HC0 := Lib.hid (fun W => within_yes (.pointer (some ⟨gk, 0, none⟩)) a 0 ((n : Int) - 1) hu0 W)
    go_wp2_with fail
    refine (HC0.out _).mono ?_
    rintro e w' ⟨rfl, rfl⟩
    go_upto_region 50 with fail
    go_wp2_with fail
    · refine (ask_yes _ _).mono ?_
      rintro e w' ⟨rfl, rfl⟩
      have hz : r = true := by rw [HR.out, hu0]; simp_all [str_toList]
      go_wp2_with fail
      go_end0
      exact ⟨by first | rfl | (rw [hz]; rfl), HB.out.zero⟩
    all_goals
      refine (ask_no _ _).mono ?_
      rintro e w' ⟨rfl, rfl⟩
      have hz : r = false := by rw [HR.out, hu0]; simp_all [str_toList]
      exact ⟨rfl, by rw [hz]; rfl, HB.out.zero⟩
end Go.Proofs.Ytimkiifcmegfeaa
/- code: operands (written by cdop.py). -/
namespace Go.Proofs.Ytimkiifcmegfeaa
open Go.RowKit
set_option linter.unusedVariables false
set_option linter.unusedSimpArgs false
attribute [local go_sem] Oper.semAt_some
set_option maxRecDepth 20000 in
set_option maxHeartbeats 2000000 in
theorem opnd_13 (a b c : Int) (tx : List UInt8) (gk pm N : Nat) (cl : Cl) (gv : Value) (m rk n : Nat) (hm : cl.fs.length = m) (hrk : cl.rs.length = rk) (hm2 : m ≤ 1000000) (hrk2 : rk ≤ 1000000) (hn2 : n ≤ 1000000) (hc : c ≤ 9223372036854775807) (htl : tx.length ≤ maxLen) (w : World) (hk : CkB w gk cl gv pm) (hpm : PrMap w pm N) (hN : N < 1000000) (r : Bool)
    (hr : r = (wi b 0 1 && wi a 0 65535 && (decide (c = 0) && decide (tx = [])))) :
    Calls Try.prog 41 #[.pointer (some ⟨gk, 0, none⟩), .agg #[.int .u8 13, .int .i64 a, .int .i64 b, .int .i64 c, .string (str tx)], .int .i64 (n : Int)] w fun e w' => e = (if r = true then .returned (.tuple #[]) else .panicked [wr]) ∧ PrMap w' pm (N + 1) ∧ Off (fun k => k = pm) w w' := by
  obtain ⟨q, hq⟩ : ∃ q, w.heap.size = q := ⟨_, rfl⟩
  obtain ⟨w1, hw1⟩ : ∃ W, w.alloc (.cells #[.int .u8 13, .int .i64 a, .int .i64 b, .int .i64 c, .string (str tx)] 46) = W := ⟨_, rfl⟩
  obtain ⟨q1, hq1⟩ : ∃ z, q + 1 = z := ⟨_, rfl⟩
  have b1 : Below w.heap.size w w1 := by rw [← hw1]; exact (Below.refl _ _).alloc (Nat.le_refl _) _
  have k1 := Blk.below hk b1 (Blk.lt hk)
  have c0 : w1.cell? ⟨gk, 0, none⟩ = some (.slice cl.fA m cl.fc) := by rw [← hm]; exact Blk.cell k1 0
  have c1 : w1.cell? ⟨gk, 1, none⟩ = some (.slice cl.rA rk cl.rc) := by rw [← hrk]; exact Blk.cell k1 1
  have HW := Lib.hid (And.intro hq (And.intro hw1 hq1))
  have HR := Lib.hid hr
  have HK := Lib.hid (And.intro hk (And.intro hpm hN))
  have HT := Lib.hid htl
  clear hr hq hw1 b1 hq1 k1 hk hpm hN hm hrk htl
  go_enter Try.func41, Try.ntmps41
  go_upto_region 1 with fail
  (try rw [HW.out.1])
  (try rw [HW.out.2.1])
  go_quiet (fail)
  obtain ⟨wd, hwd⟩ : ∃ W, w1.drewN nq = W := ⟨_, rfl⟩
  rw [hwd]
  obtain ⟨w2, hw2, hsz, hbd, hb2, ⟨x0, x1, x2, x3, x4⟩, B1, B2⟩ := op_box 13 a b c _ w w1 wd q q1 nq HW.out.1 HW.out.2.2 HW.out.2.1 hwd
  have y0 := B1.cell 0
  have y1 := B1.cell 1
  have y2 := B1.cell 2
  have y3 := B1.cell 3
  have y4 := B1.cell 4
  have z0 := B2.cell 0
  have z1 := B2.cell 1
  have z2 := B2.cell 2
  have z3 := B2.cell 3
  have z4 := B2.cell 4
  have f2 := B2.frozen 2
  have f3 := B2.frozen 3
  have f4 := B2.frozen 4
  have HB := Lib.hid (op_end hb2 HK.out.2.1 (show w.heap.size ≤ q1 by have := HW.out.1; have := HW.out.2.2; omega))
  have HE := Lib.hid (And.intro hw2 hsz)
  have HBB := Lib.hid (And.intro hb2 (And.intro B1 B2))
  clear hw2 hsz hbd hb2 B1 B2 hwd c0 c1
  go_upto_region 4 with fail
  rw [HE.out.1, HE.out.2]
  clear x0 x1 x2 x3 x4
  cases hu0 : wi b 0 1 with
  | false =>
    have HC := Lib.hid (fun W => within_no (.pointer (some ⟨gk, 0, none⟩)) b 0 1 hu0 W)
    have HZ : Hid ((if r = true then Ending.returned (.tuple #[]) else .panicked [wr]) = .panicked [wr]) := Lib.hid (by rw [HR.out]; simp [hu0])
    go_wp2_with fail
    refine (HC.out _).mono ?_
    rintro e w' ⟨rfl, rfl⟩
    exact ⟨rfl, HZ.out.symm, HB.out.zero⟩
  | true =>
    have HC0 := Lib.hid (fun W => within_yes (.pointer (some ⟨gk, 0, none⟩)) b 0 1 hu0 W)
    go_wp2_with fail
    refine (HC0.out _).mono ?_
    rintro e w' ⟨rfl, rfl⟩
    cases hu1 : wi a 0 65535 with
    | false =>
      have HC := Lib.hid (fun W => within_no (.pointer (some ⟨gk, 0, none⟩)) a 0 65535 hu1 W)
      have HZ : Hid ((if r = true then Ending.returned (.tuple #[]) else .panicked [wr]) = .panicked [wr]) := Lib.hid (by rw [HR.out]; simp [hu0, hu1])
      go_wp2_with fail
      refine (HC.out _).mono ?_
      rintro e w' ⟨rfl, rfl⟩
      exact ⟨rfl, HZ.out.symm, HB.out.one _ _⟩
    | true =>
      have HC1 := Lib.hid (fun W => within_yes (.pointer (some ⟨gk, 0, none⟩)) a 0 65535 hu1 W)
      go_wp2_with fail
      refine (HC1.out _).mono ?_
      rintro e w' ⟨rfl, rfl⟩
      go_upto_region 50 with fail
      go_wp2_with fail
      · refine (ask_yes _ _).mono ?_
        rintro e w' ⟨rfl, rfl⟩
        have hz : r = true := by rw [HR.out, hu0, hu1]; simp_all [str_toList]
        go_wp2_with fail
        go_end0
        exact ⟨by first | rfl | (rw [hz]; rfl), HB.out.one _ _⟩
      all_goals
        refine (ask_no _ _).mono ?_
        rintro e w' ⟨rfl, rfl⟩
        have hz : r = false := by rw [HR.out, hu0, hu1]; simp_all [str_toList]
        exact ⟨rfl, by rw [hz]; rfl, HB.out.one _ _⟩
set_option maxRecDepth 20000 in
set_option maxHeartbeats 2000000 in
theorem opnd_22 (a b c : Int) (tx : List UInt8) (gk pm N : Nat) (cl : Cl) (gv : Value) (m rk n : Nat) (hm : cl.fs.length = m) (hrk : cl.rs.length = rk) (hm2 : m ≤ 1000000) (hrk2 : rk ≤ 1000000) (hn2 : n ≤ 1000000) (hc : c ≤ 9223372036854775807) (htl : tx.length ≤ maxLen) (w : World) (hk : CkB w gk cl gv pm) (hpm : PrMap w pm N) (hN : N < 1000000) (r : Bool)
    (hr : r = (wi b 0 1 && wi a 0 65535 && (decide (c = 0) && decide (tx = [])))) :
    Calls Try.prog 41 #[.pointer (some ⟨gk, 0, none⟩), .agg #[.int .u8 22, .int .i64 a, .int .i64 b, .int .i64 c, .string (str tx)], .int .i64 (n : Int)] w fun e w' => e = (if r = true then .returned (.tuple #[]) else .panicked [wr]) ∧ PrMap w' pm (N + 1) ∧ Off (fun k => k = pm) w w' := by
  obtain ⟨q, hq⟩ : ∃ q, w.heap.size = q := ⟨_, rfl⟩
  obtain ⟨w1, hw1⟩ : ∃ W, w.alloc (.cells #[.int .u8 22, .int .i64 a, .int .i64 b, .int .i64 c, .string (str tx)] 46) = W := ⟨_, rfl⟩
  obtain ⟨q1, hq1⟩ : ∃ z, q + 1 = z := ⟨_, rfl⟩
  have b1 : Below w.heap.size w w1 := by rw [← hw1]; exact (Below.refl _ _).alloc (Nat.le_refl _) _
  have k1 := Blk.below hk b1 (Blk.lt hk)
  have c0 : w1.cell? ⟨gk, 0, none⟩ = some (.slice cl.fA m cl.fc) := by rw [← hm]; exact Blk.cell k1 0
  have c1 : w1.cell? ⟨gk, 1, none⟩ = some (.slice cl.rA rk cl.rc) := by rw [← hrk]; exact Blk.cell k1 1
  have HW := Lib.hid (And.intro hq (And.intro hw1 hq1))
  have HR := Lib.hid hr
  have HK := Lib.hid (And.intro hk (And.intro hpm hN))
  have HT := Lib.hid htl
  clear hr hq hw1 b1 hq1 k1 hk hpm hN hm hrk htl
  go_enter Try.func41, Try.ntmps41
  go_upto_region 1 with fail
  (try rw [HW.out.1])
  (try rw [HW.out.2.1])
  go_quiet (fail)
  obtain ⟨wd, hwd⟩ : ∃ W, w1.drewN nq = W := ⟨_, rfl⟩
  rw [hwd]
  obtain ⟨w2, hw2, hsz, hbd, hb2, ⟨x0, x1, x2, x3, x4⟩, B1, B2⟩ := op_box 22 a b c _ w w1 wd q q1 nq HW.out.1 HW.out.2.2 HW.out.2.1 hwd
  have y0 := B1.cell 0
  have y1 := B1.cell 1
  have y2 := B1.cell 2
  have y3 := B1.cell 3
  have y4 := B1.cell 4
  have z0 := B2.cell 0
  have z1 := B2.cell 1
  have z2 := B2.cell 2
  have z3 := B2.cell 3
  have z4 := B2.cell 4
  have f2 := B2.frozen 2
  have f3 := B2.frozen 3
  have f4 := B2.frozen 4
  have HB := Lib.hid (op_end hb2 HK.out.2.1 (show w.heap.size ≤ q1 by have := HW.out.1; have := HW.out.2.2; omega))
  have HE := Lib.hid (And.intro hw2 hsz)
  have HBB := Lib.hid (And.intro hb2 (And.intro B1 B2))
  clear hw2 hsz hbd hb2 B1 B2 hwd c0 c1
  go_upto_region 4 with fail
  rw [HE.out.1, HE.out.2]
  clear x0 x1 x2 x3 x4
  cases hu0 : wi b 0 1 with
  | false =>
    have HC := Lib.hid (fun W => within_no (.pointer (some ⟨gk, 0, none⟩)) b 0 1 hu0 W)
    have HZ : Hid ((if r = true then Ending.returned (.tuple #[]) else .panicked [wr]) = .panicked [wr]) := Lib.hid (by rw [HR.out]; simp [hu0])
    go_wp2_with fail
    refine (HC.out _).mono ?_
    rintro e w' ⟨rfl, rfl⟩
    exact ⟨rfl, HZ.out.symm, HB.out.zero⟩
  | true =>
    have HC0 := Lib.hid (fun W => within_yes (.pointer (some ⟨gk, 0, none⟩)) b 0 1 hu0 W)
    go_wp2_with fail
    refine (HC0.out _).mono ?_
    rintro e w' ⟨rfl, rfl⟩
    cases hu1 : wi a 0 65535 with
    | false =>
      have HC := Lib.hid (fun W => within_no (.pointer (some ⟨gk, 0, none⟩)) a 0 65535 hu1 W)
      have HZ : Hid ((if r = true then Ending.returned (.tuple #[]) else .panicked [wr]) = .panicked [wr]) := Lib.hid (by rw [HR.out]; simp [hu0, hu1])
      go_wp2_with fail
      refine (HC.out _).mono ?_
      rintro e w' ⟨rfl, rfl⟩
      exact ⟨rfl, HZ.out.symm, HB.out.one _ _⟩
    | true =>
      have HC1 := Lib.hid (fun W => within_yes (.pointer (some ⟨gk, 0, none⟩)) a 0 65535 hu1 W)
      go_wp2_with fail
      refine (HC1.out _).mono ?_
      rintro e w' ⟨rfl, rfl⟩
      go_upto_region 50 with fail
      go_wp2_with fail
      · refine (ask_yes _ _).mono ?_
        rintro e w' ⟨rfl, rfl⟩
        have hz : r = true := by rw [HR.out, hu0, hu1]; simp_all [str_toList]
        go_wp2_with fail
        go_end0
        exact ⟨by first | rfl | (rw [hz]; rfl), HB.out.one _ _⟩
      all_goals
        refine (ask_no _ _).mono ?_
        rintro e w' ⟨rfl, rfl⟩
        have hz : r = false := by rw [HR.out, hu0, hu1]; simp_all [str_toList]
        exact ⟨rfl, by rw [hz]; rfl, HB.out.one _ _⟩
set_option maxRecDepth 20000 in
set_option maxHeartbeats 2000000 in
theorem opnd_23 (a b c : Int) (tx : List UInt8) (gk pm N : Nat) (cl : Cl) (gv : Value) (m rk n : Nat) (hm : cl.fs.length = m) (hrk : cl.rs.length = rk) (hm2 : m ≤ 1000000) (hrk2 : rk ≤ 1000000) (hn2 : n ≤ 1000000) (hc : c ≤ 9223372036854775807) (htl : tx.length ≤ maxLen) (w : World) (hk : CkB w gk cl gv pm) (hpm : PrMap w pm N) (hN : N < 1000000) (r : Bool)
    (hr : r = (wi a 0 ((rk : Int) - 1) && wi b 0 ((n : Int) - 1) && (decide (c = 0) && decide (tx = [])))) :
    Calls Try.prog 41 #[.pointer (some ⟨gk, 0, none⟩), .agg #[.int .u8 23, .int .i64 a, .int .i64 b, .int .i64 c, .string (str tx)], .int .i64 (n : Int)] w fun e w' => e = (if r = true then .returned (.tuple #[]) else .panicked [wr]) ∧ PrMap w' pm (N + 1) ∧ Off (fun k => k = pm) w w' := by
  obtain ⟨q, hq⟩ : ∃ q, w.heap.size = q := ⟨_, rfl⟩
  obtain ⟨w1, hw1⟩ : ∃ W, w.alloc (.cells #[.int .u8 23, .int .i64 a, .int .i64 b, .int .i64 c, .string (str tx)] 46) = W := ⟨_, rfl⟩
  obtain ⟨q1, hq1⟩ : ∃ z, q + 1 = z := ⟨_, rfl⟩
  have b1 : Below w.heap.size w w1 := by rw [← hw1]; exact (Below.refl _ _).alloc (Nat.le_refl _) _
  have k1 := Blk.below hk b1 (Blk.lt hk)
  have c0 : w1.cell? ⟨gk, 0, none⟩ = some (.slice cl.fA m cl.fc) := by rw [← hm]; exact Blk.cell k1 0
  have c1 : w1.cell? ⟨gk, 1, none⟩ = some (.slice cl.rA rk cl.rc) := by rw [← hrk]; exact Blk.cell k1 1
  have HW := Lib.hid (And.intro hq (And.intro hw1 hq1))
  have HR := Lib.hid hr
  have HK := Lib.hid (And.intro hk (And.intro hpm hN))
  have HT := Lib.hid htl
  clear hr hq hw1 b1 hq1 k1 hk hpm hN hm hrk htl
  go_enter Try.func41, Try.ntmps41
  go_upto_region 1 with fail
  (try rw [HW.out.1])
  (try rw [HW.out.2.1])
  go_quiet (fail)
  obtain ⟨wd, hwd⟩ : ∃ W, w1.drewN nq = W := ⟨_, rfl⟩
  rw [hwd]
  obtain ⟨w2, hw2, hsz, hbd, hb2, ⟨x0, x1, x2, x3, x4⟩, B1, B2⟩ := op_box 23 a b c _ w w1 wd q q1 nq HW.out.1 HW.out.2.2 HW.out.2.1 hwd
  have y0 := B1.cell 0
  have y1 := B1.cell 1
  have y2 := B1.cell 2
  have y3 := B1.cell 3
  have y4 := B1.cell 4
  have z0 := B2.cell 0
  have z1 := B2.cell 1
  have z2 := B2.cell 2
  have z3 := B2.cell 3
  have z4 := B2.cell 4
  have f2 := B2.frozen 2
  have f3 := B2.frozen 3
  have f4 := B2.frozen 4
  have HB := Lib.hid (op_end hb2 HK.out.2.1 (show w.heap.size ≤ q1 by have := HW.out.1; have := HW.out.2.2; omega))
  have HE := Lib.hid (And.intro hw2 hsz)
  have HBB := Lib.hid (And.intro hb2 (And.intro B1 B2))
  clear hw2 hsz hbd hb2 B1 B2 hwd c0 c1
  go_upto_region 4 with fail
  rw [HE.out.1, HE.out.2]
  clear x0 x1 x2 x3 x4
  cases hu0 : wi a 0 ((rk : Int) - 1) with
  | false =>
    have HC := Lib.hid (fun W => within_no (.pointer (some ⟨gk, 0, none⟩)) a 0 ((rk : Int) - 1) hu0 W)
    have HZ : Hid ((if r = true then Ending.returned (.tuple #[]) else .panicked [wr]) = .panicked [wr]) := Lib.hid (by rw [HR.out]; simp [hu0])
    go_wp2_with fail
    refine (HC.out _).mono ?_
    rintro e w' ⟨rfl, rfl⟩
    exact ⟨rfl, HZ.out.symm, HB.out.zero⟩
  | true =>
    have HC0 := Lib.hid (fun W => within_yes (.pointer (some ⟨gk, 0, none⟩)) a 0 ((rk : Int) - 1) hu0 W)
    go_wp2_with fail
    refine (HC0.out _).mono ?_
    rintro e w' ⟨rfl, rfl⟩
    cases hu1 : wi b 0 ((n : Int) - 1) with
    | false =>
      have HC := Lib.hid (fun W => within_no (.pointer (some ⟨gk, 0, none⟩)) b 0 ((n : Int) - 1) hu1 W)
      have HZ : Hid ((if r = true then Ending.returned (.tuple #[]) else .panicked [wr]) = .panicked [wr]) := Lib.hid (by rw [HR.out]; simp [hu0, hu1])
      go_wp2_with fail
      refine (HC.out _).mono ?_
      rintro e w' ⟨rfl, rfl⟩
      exact ⟨rfl, HZ.out.symm, HB.out.zero⟩
    | true =>
      have HC1 := Lib.hid (fun W => within_yes (.pointer (some ⟨gk, 0, none⟩)) b 0 ((n : Int) - 1) hu1 W)
      go_wp2_with fail
      refine (HC1.out _).mono ?_
      rintro e w' ⟨rfl, rfl⟩
      go_upto_region 50 with fail
      go_wp2_with fail
      · refine (ask_yes _ _).mono ?_
        rintro e w' ⟨rfl, rfl⟩
        have hz : r = true := by rw [HR.out, hu0, hu1]; simp_all [str_toList]
        go_wp2_with fail
        go_end0
        exact ⟨by first | rfl | (rw [hz]; rfl), HB.out.one _ _⟩
      all_goals
        refine (ask_no _ _).mono ?_
        rintro e w' ⟨rfl, rfl⟩
        have hz : r = false := by rw [HR.out, hu0, hu1]; simp_all [str_toList]
        exact ⟨rfl, by rw [hz]; rfl, HB.out.one _ _⟩
end Go.Proofs.Ytimkiifcmegfeaa
/- code: operands (written by cdop.py). -/
namespace Go.Proofs.Ytimkiifcmegfeaa
open Go.RowKit
set_option linter.unusedVariables false
set_option linter.unusedSimpArgs false
attribute [local go_sem] Oper.semAt_some
set_option maxRecDepth 20000 in
set_option maxHeartbeats 2000000 in
theorem opnd_3 (a b c : Int) (tx : List UInt8) (gk pm N : Nat) (cl : Cl) (gv : Value) (m rk n : Nat) (hm : cl.fs.length = m) (hrk : cl.rs.length = rk) (hm2 : m ≤ 1000000) (hrk2 : rk ≤ 1000000) (hn2 : n ≤ 1000000) (hc : c ≤ 9223372036854775807) (htl : tx.length ≤ maxLen) (w : World) (hk : CkB w gk cl gv pm) (hpm : PrMap w pm N) (hN : N < 1000000) (r : Bool)
    (hr : r = (wi a 0 65535 && (decide (b = 0) && decide (c = 0) && decide (tx = [])))) :
    Calls Try.prog 41 #[.pointer (some ⟨gk, 0, none⟩), .agg #[.int .u8 3, .int .i64 a, .int .i64 b, .int .i64 c, .string (str tx)], .int .i64 (n : Int)] w fun e w' => e = (if r = true then .returned (.tuple #[]) else .panicked [wr]) ∧ PrMap w' pm (N + 1) ∧ Off (fun k => k = pm) w w' := by
  obtain ⟨q, hq⟩ : ∃ q, w.heap.size = q := ⟨_, rfl⟩
  obtain ⟨w1, hw1⟩ : ∃ W, w.alloc (.cells #[.int .u8 3, .int .i64 a, .int .i64 b, .int .i64 c, .string (str tx)] 46) = W := ⟨_, rfl⟩
  obtain ⟨q1, hq1⟩ : ∃ z, q + 1 = z := ⟨_, rfl⟩
  have b1 : Below w.heap.size w w1 := by rw [← hw1]; exact (Below.refl _ _).alloc (Nat.le_refl _) _
  have k1 := Blk.below hk b1 (Blk.lt hk)
  have c0 : w1.cell? ⟨gk, 0, none⟩ = some (.slice cl.fA m cl.fc) := by rw [← hm]; exact Blk.cell k1 0
  have c1 : w1.cell? ⟨gk, 1, none⟩ = some (.slice cl.rA rk cl.rc) := by rw [← hrk]; exact Blk.cell k1 1
  have HW := Lib.hid (And.intro hq (And.intro hw1 hq1))
  have HR := Lib.hid hr
  have HK := Lib.hid (And.intro hk (And.intro hpm hN))
  have HT := Lib.hid htl
  clear hr hq hw1 b1 hq1 k1 hk hpm hN hm hrk htl
  go_enter Try.func41, Try.ntmps41
  go_upto_region 1 with fail
  (try rw [HW.out.1])
  (try rw [HW.out.2.1])
  go_quiet (fail)
  obtain ⟨wd, hwd⟩ : ∃ W, w1.drewN nq = W := ⟨_, rfl⟩
  rw [hwd]
  obtain ⟨w2, hw2, hsz, hbd, hb2, ⟨x0, x1, x2, x3, x4⟩, B1, B2⟩ := op_box 3 a b c _ w w1 wd q q1 nq HW.out.1 HW.out.2.2 HW.out.2.1 hwd
  have y0 := B1.cell 0
  have y1 := B1.cell 1
  have y2 := B1.cell 2
  have y3 := B1.cell 3
  have y4 := B1.cell 4
  have z0 := B2.cell 0
  have z1 := B2.cell 1
  have z2 := B2.cell 2
  have z3 := B2.cell 3
  have z4 := B2.cell 4
  have f2 := B2.frozen 2
  have f3 := B2.frozen 3
  have f4 := B2.frozen 4
  have HB := Lib.hid (op_end hb2 HK.out.2.1 (show w.heap.size ≤ q1 by have := HW.out.1; have := HW.out.2.2; omega))
  have HE := Lib.hid (And.intro hw2 hsz)
  have HBB := Lib.hid (And.intro hb2 (And.intro B1 B2))
  clear hw2 hsz hbd hb2 B1 B2 hwd c0 c1
  go_upto_region 4 with fail
  rw [HE.out.1, HE.out.2]
  clear x0 x1 x2 x3 x4
  cases hu0 : wi a 0 65535 with
  | false =>
    have HC := Lib.hid (fun W => within_no (.pointer (some ⟨gk, 0, none⟩)) a 0 65535 hu0 W)
    have HZ : Hid ((if r = true then Ending.returned (.tuple #[]) else .panicked [wr]) = .panicked [wr]) := Lib.hid (by rw [HR.out]; simp [hu0])
    go_wp2_with fail
    refine (HC.out _).mono ?_
    rintro e w' ⟨rfl, rfl⟩
    exact ⟨rfl, HZ.out.symm, HB.out.zero⟩
  | true =>
    have HC0 := Lib.hid (fun W => within_yes (.pointer (some ⟨gk, 0, none⟩)) a 0 65535 hu0 W)
    go_wp2_with fail
    refine (HC0.out _).mono ?_
    rintro e w' ⟨rfl, rfl⟩
    go_upto_region 50 with fail
    go_wp2_with fail
    · refine (ask_yes _ _).mono ?_
      rintro e w' ⟨rfl, rfl⟩
      have hz : r = true := by rw [HR.out, hu0]; simp_all [str_toList]
      go_wp2_with fail
      go_end0
      exact ⟨by first | rfl | (rw [hz]; rfl), HB.out.zero⟩
    all_goals
      refine (ask_no _ _).mono ?_
      rintro e w' ⟨rfl, rfl⟩
      have hz : r = false := by rw [HR.out, hu0]; simp_all [str_toList]
      exact ⟨rfl, by rw [hz]; rfl, HB.out.zero⟩
set_option maxRecDepth 20000 in
set_option maxHeartbeats 2000000 in
theorem opnd_4 (a b c : Int) (tx : List UInt8) (gk pm N : Nat) (cl : Cl) (gv : Value) (m rk n : Nat) (hm : cl.fs.length = m) (hrk : cl.rs.length = rk) (hm2 : m ≤ 1000000) (hrk2 : rk ≤ 1000000) (hn2 : n ≤ 1000000) (hc : c ≤ 9223372036854775807) (htl : tx.length ≤ maxLen) (w : World) (hk : CkB w gk cl gv pm) (hpm : PrMap w pm N) (hN : N < 1000000) (r : Bool)
    (hr : r = (wi a 0 65535 && (decide (b = 0) && decide (c = 0) && decide (tx = [])))) :
    Calls Try.prog 41 #[.pointer (some ⟨gk, 0, none⟩), .agg #[.int .u8 4, .int .i64 a, .int .i64 b, .int .i64 c, .string (str tx)], .int .i64 (n : Int)] w fun e w' => e = (if r = true then .returned (.tuple #[]) else .panicked [wr]) ∧ PrMap w' pm (N + 1) ∧ Off (fun k => k = pm) w w' := by
  obtain ⟨q, hq⟩ : ∃ q, w.heap.size = q := ⟨_, rfl⟩
  obtain ⟨w1, hw1⟩ : ∃ W, w.alloc (.cells #[.int .u8 4, .int .i64 a, .int .i64 b, .int .i64 c, .string (str tx)] 46) = W := ⟨_, rfl⟩
  obtain ⟨q1, hq1⟩ : ∃ z, q + 1 = z := ⟨_, rfl⟩
  have b1 : Below w.heap.size w w1 := by rw [← hw1]; exact (Below.refl _ _).alloc (Nat.le_refl _) _
  have k1 := Blk.below hk b1 (Blk.lt hk)
  have c0 : w1.cell? ⟨gk, 0, none⟩ = some (.slice cl.fA m cl.fc) := by rw [← hm]; exact Blk.cell k1 0
  have c1 : w1.cell? ⟨gk, 1, none⟩ = some (.slice cl.rA rk cl.rc) := by rw [← hrk]; exact Blk.cell k1 1
  have HW := Lib.hid (And.intro hq (And.intro hw1 hq1))
  have HR := Lib.hid hr
  have HK := Lib.hid (And.intro hk (And.intro hpm hN))
  have HT := Lib.hid htl
  clear hr hq hw1 b1 hq1 k1 hk hpm hN hm hrk htl
  go_enter Try.func41, Try.ntmps41
  go_upto_region 1 with fail
  (try rw [HW.out.1])
  (try rw [HW.out.2.1])
  go_quiet (fail)
  obtain ⟨wd, hwd⟩ : ∃ W, w1.drewN nq = W := ⟨_, rfl⟩
  rw [hwd]
  obtain ⟨w2, hw2, hsz, hbd, hb2, ⟨x0, x1, x2, x3, x4⟩, B1, B2⟩ := op_box 4 a b c _ w w1 wd q q1 nq HW.out.1 HW.out.2.2 HW.out.2.1 hwd
  have y0 := B1.cell 0
  have y1 := B1.cell 1
  have y2 := B1.cell 2
  have y3 := B1.cell 3
  have y4 := B1.cell 4
  have z0 := B2.cell 0
  have z1 := B2.cell 1
  have z2 := B2.cell 2
  have z3 := B2.cell 3
  have z4 := B2.cell 4
  have f2 := B2.frozen 2
  have f3 := B2.frozen 3
  have f4 := B2.frozen 4
  have HB := Lib.hid (op_end hb2 HK.out.2.1 (show w.heap.size ≤ q1 by have := HW.out.1; have := HW.out.2.2; omega))
  have HE := Lib.hid (And.intro hw2 hsz)
  have HBB := Lib.hid (And.intro hb2 (And.intro B1 B2))
  clear hw2 hsz hbd hb2 B1 B2 hwd c0 c1
  go_upto_region 4 with fail
  rw [HE.out.1, HE.out.2]
  clear x0 x1 x2 x3 x4
  cases hu0 : wi a 0 65535 with
  | false =>
    have HC := Lib.hid (fun W => within_no (.pointer (some ⟨gk, 0, none⟩)) a 0 65535 hu0 W)
    have HZ : Hid ((if r = true then Ending.returned (.tuple #[]) else .panicked [wr]) = .panicked [wr]) := Lib.hid (by rw [HR.out]; simp [hu0])
    go_wp2_with fail
    refine (HC.out _).mono ?_
    rintro e w' ⟨rfl, rfl⟩
    exact ⟨rfl, HZ.out.symm, HB.out.zero⟩
  | true =>
    have HC0 := Lib.hid (fun W => within_yes (.pointer (some ⟨gk, 0, none⟩)) a 0 65535 hu0 W)
    go_wp2_with fail
    refine (HC0.out _).mono ?_
    rintro e w' ⟨rfl, rfl⟩
    go_upto_region 50 with fail
    go_wp2_with fail
    · refine (ask_yes _ _).mono ?_
      rintro e w' ⟨rfl, rfl⟩
      have hz : r = true := by rw [HR.out, hu0]; simp_all [str_toList]
      go_wp2_with fail
      go_end0
      exact ⟨by first | rfl | (rw [hz]; rfl), HB.out.zero⟩
    all_goals
      refine (ask_no _ _).mono ?_
      rintro e w' ⟨rfl, rfl⟩
      have hz : r = false := by rw [HR.out, hu0]; simp_all [str_toList]
      exact ⟨rfl, by rw [hz]; rfl, HB.out.zero⟩
set_option maxRecDepth 20000 in
set_option maxHeartbeats 2000000 in
theorem opnd_5 (a b c : Int) (tx : List UInt8) (gk pm N : Nat) (cl : Cl) (gv : Value) (m rk n : Nat) (hm : cl.fs.length = m) (hrk : cl.rs.length = rk) (hm2 : m ≤ 1000000) (hrk2 : rk ≤ 1000000) (hn2 : n ≤ 1000000) (hc : c ≤ 9223372036854775807) (htl : tx.length ≤ maxLen) (w : World) (hk : CkB w gk cl gv pm) (hpm : PrMap w pm N) (hN : N < 1000000) (r : Bool)
    (hr : r = (wi a 0 65535 && (decide (b = 0) && decide (c = 0) && decide (tx = [])))) :
    Calls Try.prog 41 #[.pointer (some ⟨gk, 0, none⟩), .agg #[.int .u8 5, .int .i64 a, .int .i64 b, .int .i64 c, .string (str tx)], .int .i64 (n : Int)] w fun e w' => e = (if r = true then .returned (.tuple #[]) else .panicked [wr]) ∧ PrMap w' pm (N + 1) ∧ Off (fun k => k = pm) w w' := by
  obtain ⟨q, hq⟩ : ∃ q, w.heap.size = q := ⟨_, rfl⟩
  obtain ⟨w1, hw1⟩ : ∃ W, w.alloc (.cells #[.int .u8 5, .int .i64 a, .int .i64 b, .int .i64 c, .string (str tx)] 46) = W := ⟨_, rfl⟩
  obtain ⟨q1, hq1⟩ : ∃ z, q + 1 = z := ⟨_, rfl⟩
  have b1 : Below w.heap.size w w1 := by rw [← hw1]; exact (Below.refl _ _).alloc (Nat.le_refl _) _
  have k1 := Blk.below hk b1 (Blk.lt hk)
  have c0 : w1.cell? ⟨gk, 0, none⟩ = some (.slice cl.fA m cl.fc) := by rw [← hm]; exact Blk.cell k1 0
  have c1 : w1.cell? ⟨gk, 1, none⟩ = some (.slice cl.rA rk cl.rc) := by rw [← hrk]; exact Blk.cell k1 1
  have HW := Lib.hid (And.intro hq (And.intro hw1 hq1))
  have HR := Lib.hid hr
  have HK := Lib.hid (And.intro hk (And.intro hpm hN))
  have HT := Lib.hid htl
  clear hr hq hw1 b1 hq1 k1 hk hpm hN hm hrk htl
  go_enter Try.func41, Try.ntmps41
  go_upto_region 1 with fail
  (try rw [HW.out.1])
  (try rw [HW.out.2.1])
  go_quiet (fail)
  obtain ⟨wd, hwd⟩ : ∃ W, w1.drewN nq = W := ⟨_, rfl⟩
  rw [hwd]
  obtain ⟨w2, hw2, hsz, hbd, hb2, ⟨x0, x1, x2, x3, x4⟩, B1, B2⟩ := op_box 5 a b c _ w w1 wd q q1 nq HW.out.1 HW.out.2.2 HW.out.2.1 hwd
  have y0 := B1.cell 0
  have y1 := B1.cell 1
  have y2 := B1.cell 2
  have y3 := B1.cell 3
  have y4 := B1.cell 4
  have z0 := B2.cell 0
  have z1 := B2.cell 1
  have z2 := B2.cell 2
  have z3 := B2.cell 3
  have z4 := B2.cell 4
  have f2 := B2.frozen 2
  have f3 := B2.frozen 3
  have f4 := B2.frozen 4
  have HB := Lib.hid (op_end hb2 HK.out.2.1 (show w.heap.size ≤ q1 by have := HW.out.1; have := HW.out.2.2; omega))
  have HE := Lib.hid (And.intro hw2 hsz)
  have HBB := Lib.hid (And.intro hb2 (And.intro B1 B2))
  clear hw2 hsz hbd hb2 B1 B2 hwd c0 c1
  go_upto_region 4 with fail
  rw [HE.out.1, HE.out.2]
  clear x0 x1 x2 x3 x4
  cases hu0 : wi a 0 65535 with
  | false =>
    have HC := Lib.hid (fun W => within_no (.pointer (some ⟨gk, 0, none⟩)) a 0 65535 hu0 W)
    have HZ : Hid ((if r = true then Ending.returned (.tuple #[]) else .panicked [wr]) = .panicked [wr]) := Lib.hid (by rw [HR.out]; simp [hu0])
    go_wp2_with fail
    refine (HC.out _).mono ?_
    rintro e w' ⟨rfl, rfl⟩
    exact ⟨rfl, HZ.out.symm, HB.out.zero⟩
  | true =>
    have HC0 := Lib.hid (fun W => within_yes (.pointer (some ⟨gk, 0, none⟩)) a 0 65535 hu0 W)
    go_wp2_with fail
    refine (HC0.out _).mono ?_
    rintro e w' ⟨rfl, rfl⟩
    go_upto_region 50 with fail
    go_wp2_with fail
    · refine (ask_yes _ _).mono ?_
      rintro e w' ⟨rfl, rfl⟩
      have hz : r = true := by rw [HR.out, hu0]; simp_all [str_toList]
      go_wp2_with fail
      go_end0
      exact ⟨by first | rfl | (rw [hz]; rfl), HB.out.zero⟩
    all_goals
      refine (ask_no _ _).mono ?_
      rintro e w' ⟨rfl, rfl⟩
      have hz : r = false := by rw [HR.out, hu0]; simp_all [str_toList]
      exact ⟨rfl, by rw [hz]; rfl, HB.out.zero⟩
end Go.Proofs.Ytimkiifcmegfeaa
