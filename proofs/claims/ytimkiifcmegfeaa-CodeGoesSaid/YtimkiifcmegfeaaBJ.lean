/- Contracts, part BJ. -/
import Derived.Test.YtimkiifcmegfeaaBA
/- code: operands (written by cdop.py). -/
namespace Go.Proofs.Ytimkiifcmegfeaa
open Go.RowKit
set_option linter.unusedVariables false
set_option linter.unusedSimpArgs false
attribute [local go_sem] Oper.semAt_some
set_option maxRecDepth 20000 in
set_option maxHeartbeats 2000000 in
theorem opnd_12 (a b c : Int) (tx : List UInt8) (gk pm N : Nat) (cl : Cl) (gv : Value) (m rk n : Nat) (hm : cl.fs.length = m) (hrk : cl.rs.length = rk) (hm2 : m ≤ 1000000) (hrk2 : rk ≤ 1000000) (hn2 : n ≤ 1000000) (hc : c ≤ 9223372036854775807) (htl : tx.length ≤ maxLen) (w : World) (hk : CkB w gk cl gv pm) (hpm : PrMap w pm N) (hN : N < 1000000) (r : Bool)
    (hr : r = (wi a 0 65535 && (decide (b = 0) && decide (c = 0) && decide (tx = [])))) :
    Calls Try.prog 41 #[.pointer (some ⟨gk, 0, none⟩), .agg #[.int .u8 12, .int .i64 a, .int .i64 b, .int .i64 c, .string (str tx)], .int .i64 (n : Int)] w fun e w' => e = (if r = true then .returned (.tuple #[]) else .panicked [wr]) ∧ PrMap w' pm (N + 1) ∧ Off (fun k => k = pm) w w' := by
  obtain ⟨q, hq⟩ : ∃ q, w.heap.size = q := ⟨_, rfl⟩
  obtain ⟨w1, hw1⟩ : ∃ W, w.alloc (.cells #[.int .u8 12, .int .i64 a, .int .i64 b, .int .i64 c, .string (str tx)] 46) = W := ⟨_, rfl⟩
  obtain ⟨q1, hq1⟩ : ∃ z, q + 1 = z := ⟨_, rfl⟩
  have b1 : Below w.heap.size w w1 := by rw [← hw1]; exact (Below.refl _ _).alloc (Nat.le_refl _) _
  have k1 := Blk.below hk b1 (Blk.lt hk)
  have c0 : w1.cell? ⟨gk, 0, none⟩ = some (.slice cl.fA m cl.fc) := by rw [← hm]; exact Blk.cell k1 0
  have c1 : w1.cell? ⟨gk, 1, none⟩ = some (.slice cl.rA rk cl.rc) := by rw [← hrk]; exact Blk.cell k1 1
  have HW := Lib.hid (And.intro hq (And.intro hw1 hq1))
  have HR := Lib.hid hr
  have HK := Lib.hid (And.intro hk (And.intro hpm hN))
  have HT := Lib.hid htl
  clear hr hq hw1 b1 hq1 k1 hk hpm hN hm hrk htl
  go_enter Try.func41, Try.ntmps41
  go_upto_region 1 with fail
  (try rw [HW.out.1])
  (try rw [HW.out.2.1])
  go_quiet (fail)
  obtain ⟨wd, hwd⟩ : ∃ W, w1.drewN nq = W := ⟨_, rfl⟩
  rw [hwd]
  obtain ⟨w2, hw2, hsz, hbd, hb2, ⟨x0, x1, x2, x3, x4⟩, B1, B2⟩ := op_box 12 a b c _ w w1 wd q q1 nq HW.out.1 HW.out.2.2 HW.out.2.1 hwd
  have y0 := B1.cell 0
  have y1 := B1.cell 1
  have y2 := B1.cell 2
  have y3 := B1.cell 3
  have y4 := B1.cell 4
  have z0 := B2.cell 0
  have z1 := B2.cell 1
  have z2 := B2.cell 2
  have z3 := B2.cell 3
  have z4 := B2.cell 4
  have f2 := B2.frozen 2
  have f3 := B2.frozen 3
  have f4 := B2.frozen 4
  have HB := Lib.hid (op_end hb2 HK.out.2.1 (show w.heap.size ≤ q1 by have := HW.out.1; have := HW.out.2.2; omega))
  have HE := Lib.hid (And.intro hw2 hsz)
  have HBB := Lib.hid (And.intro hb2 (And.intro B1 B2))
  clear hw2 hsz hbd hb2 B1 B2 hwd c0 c1
  go_upto_region 4 with fail
  rw [HE.out.1, HE.out.2]
  clear x0 x1 x2 x3 x4
  cases hu0 : wi a 0 65535 with
  | false =>
    have HC := Lib.hid (fun W => within_no (.pointer (some ⟨gk, 0, none⟩)) a 0 65535 hu0 W)
    have HZ : Hid ((if r = true then Ending.returned (.tuple #[]) else .panicked [wr]) = .panicked [wr]) := Lib.hid (by rw [HR.out]; simp [hu0])
    go_wp2_with fail
    refine (HC.out _).mono ?_
    rintro e w' ⟨rfl, rfl⟩
    exact ⟨rfl, HZ.out.symm, HB.out.zero⟩
  | true =>
    have HC0 := Lib.hid (fun W => within_yes (.pointer (some ⟨gk, 0, none⟩)) a 0 65535 hu0 W)
    go_wp2_with fail
    refine (HC0.out _).mono ?_
    rintro e w' ⟨rfl, rfl⟩
    go_upto_region 50 with fail
    go_wp2_with fail
    · refine (ask_yes _ _).mono ?_
      rintro e w' ⟨rfl, rfl⟩
      have hz : r = true := by rw [HR.out, hu0]; simp_all [str_toList]
      go_wp2_with fail
      go_end0
      exact ⟨by first | rfl | (rw [hz]; rfl), HB.out.zero⟩
    all_goals
      refine (ask_no _ _).mono ?_
      rintro e w' ⟨rfl, rfl⟩
      have hz : r = false := by rw [HR.out, hu0]; simp_all [str_toList]
      exact ⟨rfl, by rw [hz]; rfl, HB.out.zero⟩
set_option maxRecDepth 20000 in
set_option maxHeartbeats 2000000 in
theorem opnd_14 (a b c : Int) (tx : List UInt8) (gk pm N : Nat) (cl : Cl) (gv : Value) (m rk n : Nat) (hm : cl.fs.length = m) (hrk : cl.rs.length = rk) (hm2 : m ≤ 1000000) (hrk2 : rk ≤ 1000000) (hn2 : n ≤ 1000000) (hc : c ≤ 9223372036854775807) (htl : tx.length ≤ maxLen) (w : World) (hk : CkB w gk cl gv pm) (hpm : PrMap w pm N) (hN : N < 1000000) (r : Bool)
    (hr : r = (wi a 0 65535 && (decide (b = 0) && decide (c = 0) && decide (tx = [])))) :
    Calls Try.prog 41 #[.pointer (some ⟨gk, 0, none⟩), .agg #[.int .u8 14, .int .i64 a, .int .i64 b, .int .i64 c, .string (str tx)], .int .i64 (n : Int)] w fun e w' => e = (if r = true then .returned (.tuple #[]) else .panicked [wr]) ∧ PrMap w' pm (N + 1) ∧ Off (fun k => k = pm) w w' := by
  obtain ⟨q, hq⟩ : ∃ q, w.heap.size = q := ⟨_, rfl⟩
  obtain ⟨w1, hw1⟩ : ∃ W, w.alloc (.cells #[.int .u8 14, .int .i64 a, .int .i64 b, .int .i64 c, .string (str tx)] 46) = W := ⟨_, rfl⟩
  obtain ⟨q1, hq1⟩ : ∃ z, q + 1 = z := ⟨_, rfl⟩
  have b1 : Below w.heap.size w w1 := by rw [← hw1]; exact (Below.refl _ _).alloc (Nat.le_refl _) _
  have k1 := Blk.below hk b1 (Blk.lt hk)
  have c0 : w1.cell? ⟨gk, 0, none⟩ = some (.slice cl.fA m cl.fc) := by rw [← hm]; exact Blk.cell k1 0
  have c1 : w1.cell? ⟨gk, 1, none⟩ = some (.slice cl.rA rk cl.rc) := by rw [← hrk]; exact Blk.cell k1 1
  have HW := Lib.hid (And.intro hq (And.intro hw1 hq1))
  have HR := Lib.hid hr
  have HK := Lib.hid (And.intro hk (And.intro hpm hN))
  have HT := Lib.hid htl
  clear hr hq hw1 b1 hq1 k1 hk hpm hN hm hrk htl
  go_enter Try.func41, Try.ntmps41
  go_upto_region 1 with fail
  (try rw [HW.out.1])
  (try rw [HW.out.2.1])
  go_quiet (fail)
  obtain ⟨wd, hwd⟩ : ∃ W, w1.drewN nq = W := ⟨_, rfl⟩
  rw [hwd]
  obtain ⟨w2, hw2, hsz, hbd, hb2, ⟨x0, x1, x2, x3, x4⟩, B1, B2⟩ := op_box 14 a b c _ w w1 wd q q1 nq HW.out.1 HW.out.2.2 HW.out.2.1 hwd
  have y0 := B1.cell 0
  have y1 := B1.cell 1
  have y2 := B1.cell 2
  have y3 := B1.cell 3
  have y4 := B1.cell 4
  have z0 := B2.cell 0
  have z1 := B2.cell 1
  have z2 := B2.cell 2
  have z3 := B2.cell 3
  have z4 := B2.cell 4
  have f2 := B2.frozen 2
  have f3 := B2.frozen 3
  have f4 := B2.frozen 4
  have HB := Lib.hid (op_end hb2 HK.out.2.1 (show w.heap.size ≤ q1 by have := HW.out.1; have := HW.out.2.2; omega))
  have HE := Lib.hid (And.intro hw2 hsz)
  have HBB := Lib.hid (And.intro hb2 (And.intro B1 B2))
  clear hw2 hsz hbd hb2 B1 B2 hwd c0 c1
  go_upto_region 4 with fail
  rw [HE.out.1, HE.out.2]
  clear x0 x1 x2 x3 x4
  cases hu0 : wi a 0 65535 with
  | false =>
    have HC := Lib.hid (fun W => within_no (.pointer (some ⟨gk, 0, none⟩)) a 0 65535 hu0 W)
    have HZ : Hid ((if r = true then Ending.returned (.tuple #[]) else .panicked [wr]) = .panicked [wr]) := Lib.hid (by rw [HR.out]; simp [hu0])
    go_wp2_with fail
    refine (HC.out _).mono ?_
    rintro e w' ⟨rfl, rfl⟩
    exact ⟨rfl, HZ.out.symm, HB.out.zero⟩
  | true =>
    have HC0 := Lib.hid (fun W => within_yes (.pointer (some ⟨gk, 0, none⟩)) a 0 65535 hu0 W)
    go_wp2_with fail
    refine (HC0.out _).mono ?_
    rintro e w' ⟨rfl, rfl⟩
    go_upto_region 50 with fail
    go_wp2_with fail
    · refine (ask_yes _ _).mono ?_
      rintro e w' ⟨rfl, rfl⟩
      have hz : r = true := by rw [HR.out, hu0]; simp_all [str_toList]
      go_wp2_with fail
      go_end0
      exact ⟨by first | rfl | (rw [hz]; rfl), HB.out.zero⟩
    all_goals
      refine (ask_no _ _).mono ?_
      rintro e w' ⟨rfl, rfl⟩
      have hz : r = false := by rw [HR.out, hu0]; simp_all [str_toList]
      exact ⟨rfl, by rw [hz]; rfl, HB.out.zero⟩
set_option maxRecDepth 20000 in
set_option maxHeartbeats 2000000 in
theorem opnd_20 (a b c : Int) (tx : List UInt8) (gk pm N : Nat) (cl : Cl) (gv : Value) (m rk n : Nat) (hm : cl.fs.length = m) (hrk : cl.rs.length = rk) (hm2 : m ≤ 1000000) (hrk2 : rk ≤ 1000000) (hn2 : n ≤ 1000000) (hc : c ≤ 9223372036854775807) (htl : tx.length ≤ maxLen) (w : World) (hk : CkB w gk cl gv pm) (hpm : PrMap w pm N) (hN : N < 1000000) (r : Bool)
    (hr : r = (wi a 0 65535 && (decide (b = 0) && decide (c = 0) && decide (tx = [])))) :
    Calls Try.prog 41 #[.pointer (some ⟨gk, 0, none⟩), .agg #[.int .u8 20, .int .i64 a, .int .i64 b, .int .i64 c, .string (str tx)], .int .i64 (n : Int)] w fun e w' => e = (if r = true then .returned (.tuple #[]) else .panicked [wr]) ∧ PrMap w' pm (N + 1) ∧ Off (fun k => k = pm) w w' := by
  obtain ⟨q, hq⟩ : ∃ q, w.heap.size = q := ⟨_, rfl⟩
  obtain ⟨w1, hw1⟩ : ∃ W, w.alloc (.cells #[.int .u8 20, .int .i64 a, .int .i64 b, .int .i64 c, .string (str tx)] 46) = W := ⟨_, rfl⟩
  obtain ⟨q1, hq1⟩ : ∃ z, q + 1 = z := ⟨_, rfl⟩
  have b1 : Below w.heap.size w w1 := by rw [← hw1]; exact (Below.refl _ _).alloc (Nat.le_refl _) _
  have k1 := Blk.below hk b1 (Blk.lt hk)
  have c0 : w1.cell? ⟨gk, 0, none⟩ = some (.slice cl.fA m cl.fc) := by rw [← hm]; exact Blk.cell k1 0
  have c1 : w1.cell? ⟨gk, 1, none⟩ = some (.slice cl.rA rk cl.rc) := by rw [← hrk]; exact Blk.cell k1 1
  have HW := Lib.hid (And.intro hq (And.intro hw1 hq1))
  have HR := Lib.hid hr
  have HK := Lib.hid (And.intro hk (And.intro hpm hN))
  have HT := Lib.hid htl
  clear hr hq hw1 b1 hq1 k1 hk hpm hN hm hrk htl
  go_enter Try.func41, Try.ntmps41
  go_upto_region 1 with fail
  (try rw [HW.out.1])
  (try rw [HW.out.2.1])
  go_quiet (fail)
  obtain ⟨wd, hwd⟩ : ∃ W, w1.drewN nq = W := ⟨_, rfl⟩
  rw [hwd]
  obtain ⟨w2, hw2, hsz, hbd, hb2, ⟨x0, x1, x2, x3, x4⟩, B1, B2⟩ := op_box 20 a b c _ w w1 wd q q1 nq HW.out.1 HW.out.2.2 HW.out.2.1 hwd
  have y0 := B1.cell 0
  have y1 := B1.cell 1
  have y2 := B1.cell 2
  have y3 := B1.cell 3
  have y4 := B1.cell 4
  have z0 := B2.cell 0
  have z1 := B2.cell 1
  have z2 := B2.cell 2
  have z3 := B2.cell 3
  have z4 := B2.cell 4
  have f2 := B2.frozen 2
  have f3 := B2.frozen 3
  have f4 := B2.frozen 4
  have HB := Lib.hid (op_end hb2 HK.out.2.1 (show w.heap.size ≤ q1 by have := HW.out.1; have := HW.out.2.2; omega))
  have HE := Lib.hid (And.intro hw2 hsz)
  have HBB := Lib.hid (And.intro hb2 (And.intro B1 B2))
  clear hw2 hsz hbd hb2 B1 B2 hwd c0 c1
  go_upto_region 4 with fail
  rw [HE.out.1, HE.out.2]
  clear x0 x1 x2 x3 x4
  cases hu0 : wi a 0 65535 with
  | false =>
    have HC := Lib.hid (fun W => within_no (.pointer (some ⟨gk, 0, none⟩)) a 0 65535 hu0 W)
    have HZ : Hid ((if r = true then Ending.returned (.tuple #[]) else .panicked [wr]) = .panicked [wr]) := Lib.hid (by rw [HR.out]; simp [hu0])
    go_wp2_with fail
    refine (HC.out _).mono ?_
    rintro e w' ⟨rfl, rfl⟩
    exact ⟨rfl, HZ.out.symm, HB.out.zero⟩
  | true =>
    have HC0 := Lib.hid (fun W => within_yes (.pointer (some ⟨gk, 0, none⟩)) a 0 65535 hu0 W)
    go_wp2_with fail
    refine (HC0.out _).mono ?_
    rintro e w' ⟨rfl, rfl⟩
    go_upto_region 50 with fail
    go_wp2_with fail
    · refine (ask_yes _ _).mono ?_
      rintro e w' ⟨rfl, rfl⟩
      have hz : r = true := by rw [HR.out, hu0]; simp_all [str_toList]
      go_wp2_with fail
      go_end0
      exact ⟨by first | rfl | (rw [hz]; rfl), HB.out.zero⟩
    all_goals
      refine (ask_no _ _).mono ?_
      rintro e w' ⟨rfl, rfl⟩
      have hz : r = false := by rw [HR.out, hu0]; simp_all [str_toList]
      exact ⟨rfl, by rw [hz]; rfl, HB.out.zero⟩
end Go.Proofs.Ytimkiifcmegfeaa
/- code: operands (written by cdop.py). -/
namespace Go.Proofs.Ytimkiifcmegfeaa
open Go.RowKit
set_option linter.unusedVariables false
set_option linter.unusedSimpArgs false
attribute [local go_sem] Oper.semAt_some
set_option maxRecDepth 20000 in
set_option maxHeartbeats 2000000 in
theorem opnd_7 (a b c : Int) (tx : List UInt8) (gk pm N : Nat) (cl : Cl) (gv : Value) (m rk n : Nat) (hm : cl.fs.length = m) (hrk : cl.rs.length = rk) (hm2 : m ≤ 1000000) (hrk2 : rk ≤ 1000000) (hn2 : n ≤ 1000000) (hc : c ≤ 9223372036854775807) (htl : tx.length ≤ maxLen) (w : World) (hk : CkB w gk cl gv pm) (hpm : PrMap w pm N) (hN : N < 1000000) (r : Bool)
    (hr : r = (decide (a = 0) && (decide (b = 0) && decide (c = 0) && decide (tx = [])))) :
    Calls Try.prog 41 #[.pointer (some ⟨gk, 0, none⟩), .agg #[.int .u8 7, .int .i64 a, .int .i64 b, .int .i64 c, .string (str tx)], .int .i64 (n : Int)] w fun e w' => e = (if r = true then .returned (.tuple #[]) else .panicked [wr]) ∧ PrMap w' pm (N + 1) ∧ Off (fun k => k = pm) w w' := by
  obtain ⟨q, hq⟩ : ∃ q, w.heap.size = q := ⟨_, rfl⟩
  obtain ⟨w1, hw1⟩ : ∃ W, w.alloc (.cells #[.int .u8 7, .int .i64 a, .int .i64 b, .int .i64 c, .string (str tx)] 46) = W := ⟨_, rfl⟩
  obtain ⟨q1, hq1⟩ : ∃ z, q + 1 = z := ⟨_, rfl⟩
  have b1 : Below w.heap.size w w1 := by rw [← hw1]; exact (Below.refl _ _).alloc (Nat.le_refl _) _
  have k1 := Blk.below hk b1 (Blk.lt hk)
  have c0 : w1.cell? ⟨gk, 0, none⟩ = some (.slice cl.fA m cl.fc) := by rw [← hm]; exact Blk.cell k1 0
  have c1 : w1.cell? ⟨gk, 1, none⟩ = some (.slice cl.rA rk cl.rc) := by rw [← hrk]; exact Blk.cell k1 1
  have HW := Lib.hid (And.intro hq (And.intro hw1 hq1))
  have HR := Lib.hid hr
  have HK := Lib.hid (And.intro hk (And.intro hpm hN))
  have HT := Lib.hid htl
  clear hr hq hw1 b1 hq1 k1 hk hpm hN hm hrk htl
  go_enter Try.func41, Try.ntmps41
  go_upto_region 1 with fail
  (try rw [HW.out.1])
  (try rw [HW.out.2.1])
  go_quiet (fail)
  obtain ⟨wd, hwd⟩ : ∃ W, w1.drewN nq = W := ⟨_, rfl⟩
  rw [hwd]
  obtain ⟨w2, hw2, hsz, hbd, hb2, ⟨x0, x1, x2, x3, x4⟩, B1, B2⟩ := op_box 7 a b c _ w w1 wd q q1 nq HW.out.1 HW.out.2.2 HW.out.2.1 hwd
  have y0 := B1.cell 0
  have y1 := B1.cell 1
  have y2 := B1.cell 2
  have y3 := B1.cell 3
  have y4 := B1.cell 4
  have z0 := B2.cell 0
  have z1 := B2.cell 1
  have z2 := B2.cell 2
  have z3 := B2.cell 3
  have z4 := B2.cell 4
  have f2 := B2.frozen 2
  have f3 := B2.frozen 3
  have f4 := B2.frozen 4
  have HB := Lib.hid (op_end hb2 HK.out.2.1 (show w.heap.size ≤ q1 by have := HW.out.1; have := HW.out.2.2; omega))
  have HE := Lib.hid (And.intro hw2 hsz)
  have HBB := Lib.hid (And.intro hb2 (And.intro B1 B2))
  clear hw2 hsz hbd hb2 B1 B2 hwd c0 c1
  go_upto_region 4 with fail
  rw [HE.out.1, HE.out.2]
  clear x0 x1 x2 x3 x4
  cases hu0 : decide (a = 0) with
  | false =>
    have HC := Lib.hid (fun W => ask_no_of (.pointer (some ⟨gk, 0, none⟩)) (decide (a = 0)) hu0 W)
    have HZ : Hid ((if r = true then Ending.returned (.tuple #[]) else .panicked [wr]) = .panicked [wr]) := Lib.hid (by rw [HR.out]; simp [hu0])
    have a0 : (a == 0) = false := by simpa using hu0
    go_wp2_with fail
    refine (HC.out _).mono ?_
    rintro e w' ⟨rfl, rfl⟩
    exact ⟨rfl, HZ.out.symm, HB.out.zero⟩
  | true =>
    have HC0 := Lib.hid (fun W => ask_yes_of (.pointer (some ⟨gk, 0, none⟩)) (decide (a = 0)) hu0 W)
    have a0 : (a == 0) = true := by simpa using hu0
    go_wp2_with fail
    refine (HC0.out _).mono ?_
    rintro e w' ⟨rfl, rfl⟩
    go_upto_region 50 with fail
    go_wp2_with fail
    · refine (ask_yes _ _).mono ?_
      rintro e w' ⟨rfl, rfl⟩
      have hz : r = true := by rw [HR.out, hu0]; simp_all [str_toList]
      go_wp2_with fail
      go_end0
      exact ⟨by first | rfl | (rw [hz]; rfl), HB.out.zero⟩
    all_goals
      refine (ask_no _ _).mono ?_
      rintro e w' ⟨rfl, rfl⟩
      have hz : r = false := by rw [HR.out, hu0]; simp_all [str_toList]
      exact ⟨rfl, by rw [hz]; rfl, HB.out.zero⟩
set_option maxRecDepth 20000 in
set_option maxHeartbeats 2000000 in
theorem opnd_8 (a b c : Int) (tx : List UInt8) (gk pm N : Nat) (cl : Cl) (gv : Value) (m rk n : Nat) (hm : cl.fs.length = m) (hrk : cl.rs.length = rk) (hm2 : m ≤ 1000000) (hrk2 : rk ≤ 1000000) (hn2 : n ≤ 1000000) (hc : c ≤ 9223372036854775807) (htl : tx.length ≤ maxLen) (w : World) (hk : CkB w gk cl gv pm) (hpm : PrMap w pm N) (hN : N < 1000000) (r : Bool)
    (hr : r = (decide (a = 0) && (decide (b = 0) && decide (c = 0) && decide (tx = [])))) :
    Calls Try.prog 41 #[.pointer (some ⟨gk, 0, none⟩), .agg #[.int .u8 8, .int .i64 a, .int .i64 b, .int .i64 c, .string (str tx)], .int .i64 (n : Int)] w fun e w' => e = (if r = true then .returned (.tuple #[]) else .panicked [wr]) ∧ PrMap w' pm (N + 1) ∧ Off (fun k => k = pm) w w' := by
  obtain ⟨q, hq⟩ : ∃ q, w.heap.size = q := ⟨_, rfl⟩
  obtain ⟨w1, hw1⟩ : ∃ W, w.alloc (.cells #[.int .u8 8, .int .i64 a, .int .i64 b, .int .i64 c, .string (str tx)] 46) = W := ⟨_, rfl⟩
  obtain ⟨q1, hq1⟩ : ∃ z, q + 1 = z := ⟨_, rfl⟩
  have b1 : Below w.heap.size w w1 := by rw [← hw1]; exact (Below.refl _ _).alloc (Nat.le_refl _) _
  have k1 := Blk.below hk b1 (Blk.lt hk)
  have c0 : w1.cell? ⟨gk, 0, none⟩ = some (.slice cl.fA m cl.fc) := by rw [← hm]; exact Blk.cell k1 0
  have c1 : w1.cell? ⟨gk, 1, none⟩ = some (.slice cl.rA rk cl.rc) := by rw [← hrk]; exact Blk.cell k1 1
  have HW := Lib.hid (And.intro hq (And.intro hw1 hq1))
  have HR := Lib.hid hr
  have HK := Lib.hid (And.intro hk (And.intro hpm hN))
  have HT := Lib.hid htl
  clear hr hq hw1 b1 hq1 k1 hk hpm hN hm hrk htl
  go_enter Try.func41, Try.ntmps41
  go_upto_region 1 with fail
  (try rw [HW.out.1])
  (try rw [HW.out.2.1])
  go_quiet (fail)
  obtain ⟨wd, hwd⟩ : ∃ W, w1.drewN nq = W := ⟨_, rfl⟩
  rw [hwd]
  obtain ⟨w2, hw2, hsz, hbd, hb2, ⟨x0, x1, x2, x3, x4⟩, B1, B2⟩ := op_box 8 a b c _ w w1 wd q q1 nq HW.out.1 HW.out.2.2 HW.out.2.1 hwd
  have y0 := B1.cell 0
  have y1 := B1.cell 1
  have y2 := B1.cell 2
  have y3 := B1.cell 3
  have y4 := B1.cell 4
  have z0 := B2.cell 0
  have z1 := B2.cell 1
  have z2 := B2.cell 2
  have z3 := B2.cell 3
  have z4 := B2.cell 4
  have f2 := B2.frozen 2
  have f3 := B2.frozen 3
  have f4 := B2.frozen 4
  have HB := Lib.hid (op_end hb2 HK.out.2.1 (show w.heap.size ≤ q1 by have := HW.out.1; have := HW.out.2.2; omega))
  have HE := Lib.hid (And.intro hw2 hsz)
  have HBB := Lib.hid (And.intro hb2 (And.intro B1 B2))
  clear hw2 hsz hbd hb2 B1 B2 hwd c0 c1
  go_upto_region 4 with fail
  rw [HE.out.1, HE.out.2]
  clear x0 x1 x2 x3 x4
  cases hu0 : decide (a = 0) with
  | false =>
    have HC := Lib.hid (fun W => ask_no_of (.pointer (some ⟨gk, 0, none⟩)) (decide (a = 0)) hu0 W)
    have HZ : Hid ((if r = true then Ending.returned (.tuple #[]) else .panicked [wr]) = .panicked [wr]) := Lib.hid (by rw [HR.out]; simp [hu0])
    have a0 : (a == 0) = false := by simpa using hu0
    go_wp2_with fail
    refine (HC.out _).mono ?_
    rintro e w' ⟨rfl, rfl⟩
    exact ⟨rfl, HZ.out.symm, HB.out.zero⟩
  | true =>
    have HC0 := Lib.hid (fun W => ask_yes_of (.pointer (some ⟨gk, 0, none⟩)) (decide (a = 0)) hu0 W)
    have a0 : (a == 0) = true := by simpa using hu0
    go_wp2_with fail
    refine (HC0.out _).mono ?_
    rintro e w' ⟨rfl, rfl⟩
    go_upto_region 50 with fail
    go_wp2_with fail
    · refine (ask_yes _ _).mono ?_
      rintro e w' ⟨rfl, rfl⟩
      have hz : r = true := by rw [HR.out, hu0]; simp_all [str_toList]
      go_wp2_with fail
      go_end0
      exact ⟨by first | rfl | (rw [hz]; rfl), HB.out.zero⟩
    all_goals
      refine (ask_no _ _).mono ?_
      rintro e w' ⟨rfl, rfl⟩
      have hz : r = false := by rw [HR.out, hu0]; simp_all [str_toList]
      exact ⟨rfl, by rw [hz]; rfl, HB.out.zero⟩
set_option maxRecDepth 20000 in
set_option maxHeartbeats 2000000 in
theorem opnd_15 (a b c : Int) (tx : List UInt8) (gk pm N : Nat) (cl : Cl) (gv : Value) (m rk n : Nat) (hm : cl.fs.length = m) (hrk : cl.rs.length = rk) (hm2 : m ≤ 1000000) (hrk2 : rk ≤ 1000000) (hn2 : n ≤ 1000000) (hc : c ≤ 9223372036854775807) (htl : tx.length ≤ maxLen) (w : World) (hk : CkB w gk cl gv pm) (hpm : PrMap w pm N) (hN : N < 1000000) (r : Bool)
    (hr : r = (decide (a = 0) && (decide (b = 0) && decide (c = 0) && decide (tx = [])))) :
    Calls Try.prog 41 #[.pointer (some ⟨gk, 0, none⟩), .agg #[.int .u8 15, .int .i64 a, .int .i64 b, .int .i64 c, .string (str tx)], .int .i64 (n : Int)] w fun e w' => e = (if r = true then .returned (.tuple #[]) else .panicked [wr]) ∧ PrMap w' pm (N + 1) ∧ Off (fun k => k = pm) w w' := by
  obtain ⟨q, hq⟩ : ∃ q, w.heap.size = q := ⟨_, rfl⟩
  obtain ⟨w1, hw1⟩ : ∃ W, w.alloc (.cells #[.int .u8 15, .int .i64 a, .int .i64 b, .int .i64 c, .string (str tx)] 46) = W := ⟨_, rfl⟩
  obtain ⟨q1, hq1⟩ : ∃ z, q + 1 = z := ⟨_, rfl⟩
  have b1 : Below w.heap.size w w1 := by rw [← hw1]; exact (Below.refl _ _).alloc (Nat.le_refl _) _
  have k1 := Blk.below hk b1 (Blk.lt hk)
  have c0 : w1.cell? ⟨gk, 0, none⟩ = some (.slice cl.fA m cl.fc) := by rw [← hm]; exact Blk.cell k1 0
  have c1 : w1.cell? ⟨gk, 1, none⟩ = some (.slice cl.rA rk cl.rc) := by rw [← hrk]; exact Blk.cell k1 1
  have HW := Lib.hid (And.intro hq (And.intro hw1 hq1))
  have HR := Lib.hid hr
  have HK := Lib.hid (And.intro hk (And.intro hpm hN))
  have HT := Lib.hid htl
  clear hr hq hw1 b1 hq1 k1 hk hpm hN hm hrk htl
  go_enter Try.func41, Try.ntmps41
  go_upto_region 1 with fail
  (try rw [HW.out.1])
  (try rw [HW.out.2.1])
  go_quiet (fail)
  obtain ⟨wd, hwd⟩ : ∃ W, w1.drewN nq = W := ⟨_, rfl⟩
  rw [hwd]
  obtain ⟨w2, hw2, hsz, hbd, hb2, ⟨x0, x1, x2, x3, x4⟩, B1, B2⟩ := op_box 15 a b c _ w w1 wd q q1 nq HW.out.1 HW.out.2.2 HW.out.2.1 hwd
  have y0 := B1.cell 0
  have y1 := B1.cell 1
  have y2 := B1.cell 2
  have y3 := B1.cell 3
  have y4 := B1.cell 4
  have z0 := B2.cell 0
  have z1 := B2.cell 1
  have z2 := B2.cell 2
  have z3 := B2.cell 3
  have z4 := B2.cell 4
  have f2 := B2.frozen 2
  have f3 := B2.frozen 3
  have f4 := B2.frozen 4
  have HB := Lib.hid (op_end hb2 HK.out.2.1 (show w.heap.size ≤ q1 by have := HW.out.1; have := HW.out.2.2; omega))
  have HE := Lib.hid (And.intro hw2 hsz)
  have HBB := Lib.hid (And.intro hb2 (And.intro B1 B2))
  clear hw2 hsz hbd hb2 B1 B2 hwd c0 c1
  go_upto_region 4 with fail
  rw [HE.out.1, HE.out.2]
  clear x0 x1 x2 x3 x4
  cases hu0 : decide (a = 0) with
  | false =>
    have HC := Lib.hid (fun W => ask_no_of (.pointer (some ⟨gk, 0, none⟩)) (decide (a = 0)) hu0 W)
    have HZ : Hid ((if r = true then Ending.returned (.tuple #[]) else .panicked [wr]) = .panicked [wr]) := Lib.hid (by rw [HR.out]; simp [hu0])
    have a0 : (a == 0) = false := by simpa using hu0
    go_wp2_with fail
    refine (HC.out _).mono ?_
    rintro e w' ⟨rfl, rfl⟩
    exact ⟨rfl, HZ.out.symm, HB.out.zero⟩
  | true =>
    have HC0 := Lib.hid (fun W => ask_yes_of (.pointer (some ⟨gk, 0, none⟩)) (decide (a = 0)) hu0 W)
    have a0 : (a == 0) = true := by simpa using hu0
    go_wp2_with fail
    refine (HC0.out _).mono ?_
    rintro e w' ⟨rfl, rfl⟩
    go_upto_region 50 with fail
    go_wp2_with fail
    · refine (ask_yes _ _).mono ?_
      rintro e w' ⟨rfl, rfl⟩
      have hz : r = true := by rw [HR.out, hu0]; simp_all [str_toList]
      go_wp2_with fail
      go_end0
      exact ⟨by first | rfl | (rw [hz]; rfl), HB.out.zero⟩
    all_goals
      refine (ask_no _ _).mono ?_
      rintro e w' ⟨rfl, rfl⟩
      have hz : r = false := by rw [HR.out, hu0]; simp_all [str_toList]
      exact ⟨rfl, by rw [hz]; rfl, HB.out.zero⟩
set_option maxRecDepth 20000 in
set_option maxHeartbeats 2000000 in
theorem opnd_17 (a b c : Int) (tx : List UInt8) (gk pm N : Nat) (cl : Cl) (gv : Value) (m rk n : Nat) (hm : cl.fs.length = m) (hrk : cl.rs.length = rk) (hm2 : m ≤ 1000000) (hrk2 : rk ≤ 1000000) (hn2 : n ≤ 1000000) (hc : c ≤ 9223372036854775807) (htl : tx.length ≤ maxLen) (w : World) (hk : CkB w gk cl gv pm) (hpm : PrMap w pm N) (hN : N < 1000000) (r : Bool)
    (hr : r = (decide (a = 0) && (decide (b = 0) && decide (c = 0) && decide (tx = [])))) :
    Calls Try.prog 41 #[.pointer (some ⟨gk, 0, none⟩), .agg #[.int .u8 17, .int .i64 a, .int .i64 b, .int .i64 c, .string (str tx)], .int .i64 (n : Int)] w fun e w' => e = (if r = true then .returned (.tuple #[]) else .panicked [wr]) ∧ PrMap w' pm (N + 1) ∧ Off (fun k => k = pm) w w' := by
  obtain ⟨q, hq⟩ : ∃ q, w.heap.size = q := ⟨_, rfl⟩
  obtain ⟨w1, hw1⟩ : ∃ W, w.alloc (.cells #[.int .u8 17, .int .i64 a, .int .i64 b, .int .i64 c, .string (str tx)] 46) = W := ⟨_, rfl⟩
  obtain ⟨q1, hq1⟩ : ∃ z, q + 1 = z := ⟨_, rfl⟩
  have b1 : Below w.heap.size w w1 := by rw [← hw1]; exact (Below.refl _ _).alloc (Nat.le_refl _) _
  have k1 := Blk.below hk b1 (Blk.lt hk)
  have c0 : w1.cell? ⟨gk, 0, none⟩ = some (.slice cl.fA m cl.fc) := by rw [← hm]; exact Blk.cell k1 0
  have c1 : w1.cell? ⟨gk, 1, none⟩ = some (.slice cl.rA rk cl.rc) := by rw [← hrk]; exact Blk.cell k1 1
  have HW := Lib.hid (And.intro hq (And.intro hw1 hq1))
  have HR := Lib.hid hr
  have HK := Lib.hid (And.intro hk (And.intro hpm hN))
  have HT := Lib.hid htl
  clear hr hq hw1 b1 hq1 k1 hk hpm hN hm hrk htl
  go_enter Try.func41, Try.ntmps41
  go_upto_region 1 with fail
  (try rw [HW.out.1])
  (try rw [HW.out.2.1])
  go_quiet (fail)
  obtain ⟨wd, hwd⟩ : ∃ W, w1.drewN nq = W := ⟨_, rfl⟩
  rw [hwd]
  obtain ⟨w2, hw2, hsz, hbd, hb2, ⟨x0, x1, x2, x3, x4⟩, B1, B2⟩ := op_box 17 a b c _ w w1 wd q q1 nq HW.out.1 HW.out.2.2 HW.out.2.1 hwd
  have y0 := B1.cell 0
  have y1 := B1.cell 1
  have y2 := B1.cell 2
  have y3 := B1.cell 3
  have y4 := B1.cell 4
  have z0 := B2.cell 0
  have z1 := B2.cell 1
  have z2 := B2.cell 2
  have z3 := B2.cell 3
  have z4 := B2.cell 4
  have f2 := B2.frozen 2
  have f3 := B2.frozen 3
  have f4 := B2.frozen 4
  have HB := Lib.hid (op_end hb2 HK.out.2.1 (show w.heap.size ≤ q1 by have := HW.out.1; have := HW.out.2.2; omega))
  have HE := Lib.hid (And.intro hw2 hsz)
  have HBB := Lib.hid (And.intro hb2 (And.intro B1 B2))
  clear hw2 hsz hbd hb2 B1 B2 hwd c0 c1
  go_upto_region 4 with fail
  rw [HE.out.1, HE.out.2]
  clear x0 x1 x2 x3 x4
  cases hu0 : decide (a = 0) with
  | false =>
    have HC := Lib.hid (fun W => ask_no_of (.pointer (some ⟨gk, 0, none⟩)) (decide (a = 0)) hu0 W)
    have HZ : Hid ((if r = true then Ending.returned (.tuple #[]) else .panicked [wr]) = .panicked [wr]) := Lib.hid (by rw [HR.out]; simp [hu0])
    have a0 : (a == 0) = false := by simpa using hu0
    go_wp2_with fail
    refine (HC.out _).mono ?_
    rintro e w' ⟨rfl, rfl⟩
    exact ⟨rfl, HZ.out.symm, HB.out.zero⟩
  | true =>
    have HC0 := Lib.hid (fun W => ask_yes_of (.pointer (some ⟨gk, 0, none⟩)) (decide (a = 0)) hu0 W)
    have a0 : (a == 0) = true := by simpa using hu0
    go_wp2_with fail
    refine (HC0.out _).mono ?_
    rintro e w' ⟨rfl, rfl⟩
    go_upto_region 50 with fail
    go_wp2_with fail
    · refine (ask_yes _ _).mono ?_
      rintro e w' ⟨rfl, rfl⟩
      have hz : r = true := by rw [HR.out, hu0]; simp_all [str_toList]
      go_wp2_with fail
      go_end0
      exact ⟨by first | rfl | (rw [hz]; rfl), HB.out.zero⟩
    all_goals
      refine (ask_no _ _).mono ?_
      rintro e w' ⟨rfl, rfl⟩
      have hz : r = false := by rw [HR.out, hu0]; simp_all [str_toList]
      exact ⟨rfl, by rw [hz]; rfl, HB.out.zero⟩
end Go.Proofs.Ytimkiifcmegfeaa
/- code: operands (written by cdop.py). -/
namespace Go.Proofs.Ytimkiifcmegfeaa
open Go.RowKit
set_option linter.unusedVariables false
set_option linter.unusedSimpArgs false
attribute [local go_sem] Oper.semAt_some
set_option maxRecDepth 20000 in
set_option maxHeartbeats 2000000 in
theorem opnd_19 (a b c : Int) (tx : List UInt8) (gk pm N : Nat) (cl : Cl) (gv : Value) (m rk n : Nat) (hm : cl.fs.length = m) (hrk : cl.rs.length = rk) (hm2 : m ≤ 1000000) (hrk2 : rk ≤ 1000000) (hn2 : n ≤ 1000000) (hc : c ≤ 9223372036854775807) (htl : tx.length ≤ maxLen) (w : World) (hk : CkB w gk cl gv pm) (hpm : PrMap w pm N) (hN : N < 1000000) (r : Bool)
    (hr : r = (decide (a = 0) && (decide (b = 0) && decide (c = 0) && decide (tx = [])))) :
    Calls Try.prog 41 #[.pointer (some ⟨gk, 0, none⟩), .agg #[.int .u8 19, .int .i64 a, .int .i64 b, .int .i64 c, .string (str tx)], .int .i64 (n : Int)] w fun e w' => e = (if r = true then .returned (.tuple #[]) else .panicked [wr]) ∧ PrMap w' pm (N + 1) ∧ Off (fun k => k = pm) w w' := by
  obtain ⟨q, hq⟩ : ∃ q, w.heap.size = q := ⟨_, rfl⟩
  obtain ⟨w1, hw1⟩ : ∃ W, w.alloc (.cells #[.int .u8 19, .int .i64 a, .int .i64 b, .int .i64 c, .string (str tx)] 46) = W := ⟨_, rfl⟩
  obtain ⟨q1, hq1⟩ : ∃ z, q + 1 = z := ⟨_, rfl⟩
  have b1 : Below w.heap.size w w1 := by rw [← hw1]; exact (Below.refl _ _).alloc (Nat.le_refl _) _
  have k1 := Blk.below hk b1 (Blk.lt hk)
  have c0 : w1.cell? ⟨gk, 0, none⟩ = some (.slice cl.fA m cl.fc) := by rw [← hm]; exact Blk.cell k1 0
  have c1 : w1.cell? ⟨gk, 1, none⟩ = some (.slice cl.rA rk cl.rc) := by rw [← hrk]; exact Blk.cell k1 1
  have HW := Lib.hid (And.intro hq (And.intro hw1 hq1))
  have HR := Lib.hid hr
  have HK := Lib.hid (And.intro hk (And.intro hpm hN))
  have HT := Lib.hid htl
  clear hr hq hw1 b1 hq1 k1 hk hpm hN hm hrk htl
  go_enter Try.func41, Try.ntmps41
  go_upto_region 1 with fail
  (try rw [HW.out.1])
  (try rw [HW.out.2.1])
  go_quiet (fail)
  obtain ⟨wd, hwd⟩ : ∃ W, w1.drewN nq = W := ⟨_, rfl⟩
  rw [hwd]
  obtain ⟨w2, hw2, hsz, hbd, hb2, ⟨x0, x1, x2, x3, x4⟩, B1, B2⟩ := op_box 19 a b c _ w w1 wd q q1 nq HW.out.1 HW.out.2.2 HW.out.2.1 hwd
  have y0 := B1.cell 0
  have y1 := B1.cell 1
  have y2 := B1.cell 2
  have y3 := B1.cell 3
  have y4 := B1.cell 4
  have z0 := B2.cell 0
  have z1 := B2.cell 1
  have z2 := B2.cell 2
  have z3 := B2.cell 3
  have z4 := B2.cell 4
  have f2 := B2.frozen 2
  have f3 := B2.frozen 3
  have f4 := B2.frozen 4
  have HB := Lib.hid (op_end hb2 HK.out.2.1 (show w.heap.size ≤ q1 by have := HW.out.1; have := HW.out.2.2; omega))
  have HE := Lib.hid (And.intro hw2 hsz)
  have HBB := Lib.hid (And.intro hb2 (And.intro B1 B2))
  clear hw2 hsz hbd hb2 B1 B2 hwd c0 c1
  go_upto_region 4 with fail
  rw [HE.out.1, HE.out.2]
  clear x0 x1 x2 x3 x4
  cases hu0 : decide (a = 0) with
  | false =>
    have HC := Lib.hid (fun W => ask_no_of (.pointer (some ⟨gk, 0, none⟩)) (decide (a = 0)) hu0 W)
    have HZ : Hid ((if r = true then Ending.returned (.tuple #[]) else .panicked [wr]) = .panicked [wr]) := Lib.hid (by rw [HR.out]; simp [hu0])
    have a0 : (a == 0) = false := by simpa using hu0
    go_wp2_with fail
    refine (HC.out _).mono ?_
    rintro e w' ⟨rfl, rfl⟩
    exact ⟨rfl, HZ.out.symm, HB.out.zero⟩
  | true =>
    have HC0 := Lib.hid (fun W => ask_yes_of (.pointer (some ⟨gk, 0, none⟩)) (decide (a = 0)) hu0 W)
    have a0 : (a == 0) = true := by simpa using hu0
    go_wp2_with fail
    refine (HC0.out _).mono ?_
    rintro e w' ⟨rfl, rfl⟩
    go_upto_region 50 with fail
    go_wp2_with fail
    · refine (ask_yes _ _).mono ?_
      rintro e w' ⟨rfl, rfl⟩
      have hz : r = true := by rw [HR.out, hu0]; simp_all [str_toList]
      go_wp2_with fail
      go_end0
      exact ⟨by first | rfl | (rw [hz]; rfl), HB.out.zero⟩
    all_goals
      refine (ask_no _ _).mono ?_
      rintro e w' ⟨rfl, rfl⟩
      have hz : r = false := by rw [HR.out, hu0]; simp_all [str_toList]
      exact ⟨rfl, by rw [hz]; rfl, HB.out.zero⟩
set_option maxRecDepth 20000 in
set_option maxHeartbeats 2000000 in
theorem opnd_21 (a b c : Int) (tx : List UInt8) (gk pm N : Nat) (cl : Cl) (gv : Value) (m rk n : Nat) (hm : cl.fs.length = m) (hrk : cl.rs.length = rk) (hm2 : m ≤ 1000000) (hrk2 : rk ≤ 1000000) (hn2 : n ≤ 1000000) (hc : c ≤ 9223372036854775807) (htl : tx.length ≤ maxLen) (w : World) (hk : CkB w gk cl gv pm) (hpm : PrMap w pm N) (hN : N < 1000000) (r : Bool)
    (hr : r = (decide (a = 0) && (decide (b = 0) && decide (c = 0) && decide (tx = [])))) :
    Calls Try.prog 41 #[.pointer (some ⟨gk, 0, none⟩), .agg #[.int .u8 21, .int .i64 a, .int .i64 b, .int .i64 c, .string (str tx)], .int .i64 (n : Int)] w fun e w' => e = (if r = true then .returned (.tuple #[]) else .panicked [wr]) ∧ PrMap w' pm (N + 1) ∧ Off (fun k => k = pm) w w' := by
  obtain ⟨q, hq⟩ : ∃ q, w.heap.size = q := ⟨_, rfl⟩
  obtain ⟨w1, hw1⟩ : ∃ W, w.alloc (.cells #[.int .u8 21, .int .i64 a, .int .i64 b, .int .i64 c, .string (str tx)] 46) = W := ⟨_, rfl⟩
  obtain ⟨q1, hq1⟩ : ∃ z, q + 1 = z := ⟨_, rfl⟩
  have b1 : Below w.heap.size w w1 := by rw [← hw1]; exact (Below.refl _ _).alloc (Nat.le_refl _) _
  have k1 := Blk.below hk b1 (Blk.lt hk)
  have c0 : w1.cell? ⟨gk, 0, none⟩ = some (.slice cl.fA m cl.fc) := by rw [← hm]; exact Blk.cell k1 0
  have c1 : w1.cell? ⟨gk, 1, none⟩ = some (.slice cl.rA rk cl.rc) := by rw [← hrk]; exact Blk.cell k1 1
  have HW := Lib.hid (And.intro hq (And.intro hw1 hq1))
  have HR := Lib.hid hr
  have HK := Lib.hid (And.intro hk (And.intro hpm hN))
  have HT := Lib.hid htl
  clear hr hq hw1 b1 hq1 k1 hk hpm hN hm hrk htl
  go_enter Try.func41, Try.ntmps41
  go_upto_region 1 with fail
  (try rw [HW.out.1])
  (try rw [HW.out.2.1])
  go_quiet (fail)
  obtain ⟨wd, hwd⟩ : ∃ W, w1.drewN nq = W := ⟨_, rfl⟩
  rw [hwd]
  obtain ⟨w2, hw2, hsz, hbd, hb2, ⟨x0, x1, x2, x3, x4⟩, B1, B2⟩ := op_box 21 a b c _ w w1 wd q q1 nq HW.out.1 HW.out.2.2 HW.out.2.1 hwd
  have y0 := B1.cell 0
  have y1 := B1.cell 1
  have y2 := B1.cell 2
  have y3 := B1.cell 3
  have y4 := B1.cell 4
  have z0 := B2.cell 0
  have z1 := B2.cell 1
  have z2 := B2.cell 2
  have z3 := B2.cell 3
  have z4 := B2.cell 4
  have f2 := B2.frozen 2
  have f3 := B2.frozen 3
  have f4 := B2.frozen 4
  have HB := Lib.hid (op_end hb2 HK.out.2.1 (show w.heap.size ≤ q1 by have := HW.out.1; have := HW.out.2.2; omega))
  have HE := Lib.hid (And.intro hw2 hsz)
  have HBB := Lib.hid (And.intro hb2 (And.intro B1 B2))
  clear hw2 hsz hbd hb2 B1 B2 hwd c0 c1
  go_upto_region 4 with fail
  rw [HE.out.1, HE.out.2]
  clear x0 x1 x2 x3 x4
  cases hu0 : decide (a = 0) with
  | false =>
    have HC := Lib.hid (fun W => ask_no_of (.pointer (some ⟨gk, 0, none⟩)) (decide (a = 0)) hu0 W)
    have HZ : Hid ((if r = true then Ending.returned (.tuple #[]) else .panicked [wr]) = .panicked [wr]) := Lib.hid (by rw [HR.out]; simp [hu0])
    have a0 : (a == 0) = false := by simpa using hu0
    go_wp2_with fail
    refine (HC.out _).mono ?_
    rintro e w' ⟨rfl, rfl⟩
    exact ⟨rfl, HZ.out.symm, HB.out.zero⟩
  | true =>
    have HC0 := Lib.hid (fun W => ask_yes_of (.pointer (some ⟨gk, 0, none⟩)) (decide (a = 0)) hu0 W)
    have a0 : (a == 0) = true := by simpa using hu0
    go_wp2_with fail
    refine (HC0.out _).mono ?_
    rintro e w' ⟨rfl, rfl⟩
    go_upto_region 50 with fail
    go_wp2_with fail
    · refine (ask_yes _ _).mono ?_
      rintro e w' ⟨rfl, rfl⟩
      have hz : r = true := by rw [HR.out, hu0]; simp_all [str_toList]
      go_wp2_with fail
      go_end0
      exact ⟨by first | rfl | (rw [hz]; rfl), HB.out.zero⟩
    all_goals
      refine (ask_no _ _).mono ?_
      rintro e w' ⟨rfl, rfl⟩
      have hz : r = false := by rw [HR.out, hu0]; simp_all [str_toList]
      exact ⟨rfl, by rw [hz]; rfl, HB.out.zero⟩
set_option maxRecDepth 20000 in
set_option maxHeartbeats 2000000 in
theorem opnd_25 (a b c : Int) (tx : List UInt8) (gk pm N : Nat) (cl : Cl) (gv : Value) (m rk n : Nat) (hm : cl.fs.length = m) (hrk : cl.rs.length = rk) (hm2 : m ≤ 1000000) (hrk2 : rk ≤ 1000000) (hn2 : n ≤ 1000000) (hc : c ≤ 9223372036854775807) (htl : tx.length ≤ maxLen) (w : World) (hk : CkB w gk cl gv pm) (hpm : PrMap w pm N) (hN : N < 1000000) (r : Bool)
    (hr : r = (decide (a = 0) && (decide (b = 0) && decide (c = 0) && decide (tx = [])))) :
    Calls Try.prog 41 #[.pointer (some ⟨gk, 0, none⟩), .agg #[.int .u8 25, .int .i64 a, .int .i64 b, .int .i64 c, .string (str tx)], .int .i64 (n : Int)] w fun e w' => e = (if r = true then .returned (.tuple #[]) else .panicked [wr]) ∧ PrMap w' pm (N + 1) ∧ Off (fun k => k = pm) w w' := by
  obtain ⟨q, hq⟩ : ∃ q, w.heap.size = q := ⟨_, rfl⟩
  obtain ⟨w1, hw1⟩ : ∃ W, w.alloc (.cells #[.int .u8 25, .int .i64 a, .int .i64 b, .int .i64 c, .string (str tx)] 46) = W := ⟨_, rfl⟩
  obtain ⟨q1, hq1⟩ : ∃ z, q + 1 = z := ⟨_, rfl⟩
  have b1 : Below w.heap.size w w1 := by rw [← hw1]; exact (Below.refl _ _).alloc (Nat.le_refl _) _
  have k1 := Blk.below hk b1 (Blk.lt hk)
  have c0 : w1.cell? ⟨gk, 0, none⟩ = some (.slice cl.fA m cl.fc) := by rw [← hm]; exact Blk.cell k1 0
  have c1 : w1.cell? ⟨gk, 1, none⟩ = some (.slice cl.rA rk cl.rc) := by rw [← hrk]; exact Blk.cell k1 1
  have HW := Lib.hid (And.intro hq (And.intro hw1 hq1))
  have HR := Lib.hid hr
  have HK := Lib.hid (And.intro hk (And.intro hpm hN))
  have HT := Lib.hid htl
  clear hr hq hw1 b1 hq1 k1 hk hpm hN hm hrk htl
  go_enter Try.func41, Try.ntmps41
  go_upto_region 1 with fail
  (try rw [HW.out.1])
  (try rw [HW.out.2.1])
  go_quiet (fail)
  obtain ⟨wd, hwd⟩ : ∃ W, w1.drewN nq = W := ⟨_, rfl⟩
  rw [hwd]
  obtain ⟨w2, hw2, hsz, hbd, hb2, ⟨x0, x1, x2, x3, x4⟩, B1, B2⟩ := op_box 25 a b c _ w w1 wd q q1 nq HW.out.1 HW.out.2.2 HW.out.2.1 hwd
  have y0 := B1.cell 0
  have y1 := B1.cell 1
  have y2 := B1.cell 2
  have y3 := B1.cell 3
  have y4 := B1.cell 4
  have z0 := B2.cell 0
  have z1 := B2.cell 1
  have z2 := B2.cell 2
  have z3 := B2.cell 3
  have z4 := B2.cell 4
  have f2 := B2.frozen 2
  have f3 := B2.frozen 3
  have f4 := B2.frozen 4
  have HB := Lib.hid (op_end hb2 HK.out.2.1 (show w.heap.size ≤ q1 by have := HW.out.1; have := HW.out.2.2; omega))
  have HE := Lib.hid (And.intro hw2 hsz)
  have HBB := Lib.hid (And.intro hb2 (And.intro B1 B2))
  clear hw2 hsz hbd hb2 B1 B2 hwd c0 c1
  go_upto_region 4 with fail
  rw [HE.out.1, HE.out.2]
  clear x0 x1 x2 x3 x4
  cases hu0 : decide (a = 0) with
  | false =>
    have HC := Lib.hid (fun W => ask_no_of (.pointer (some ⟨gk, 0, none⟩)) (decide (a = 0)) hu0 W)
    have HZ : Hid ((if r = true then Ending.returned (.tuple #[]) else .panicked [wr]) = .panicked [wr]) := Lib.hid (by rw [HR.out]; simp [hu0])
    have a0 : (a == 0) = false := by simpa using hu0
    go_wp2_with fail
    refine (HC.out _).mono ?_
    rintro e w' ⟨rfl, rfl⟩
    exact ⟨rfl, HZ.out.symm, HB.out.zero⟩
  | true =>
    have HC0 := Lib.hid (fun W => ask_yes_of (.pointer (some ⟨gk, 0, none⟩)) (decide (a = 0)) hu0 W)
    have a0 : (a == 0) = true := by simpa using hu0
    go_wp2_with fail
    refine (HC0.out _).mono ?_
    rintro e w' ⟨rfl, rfl⟩
    go_upto_region 50 with fail
    go_wp2_with fail
    · refine (ask_yes _ _).mono ?_
      rintro e w' ⟨rfl, rfl⟩
      have hz : r = true := by rw [HR.out, hu0]; simp_all [str_toList]
      go_wp2_with fail
      go_end0
      exact ⟨by first | rfl | (rw [hz]; rfl), HB.out.zero⟩
    all_goals
      refine (ask_no _ _).mono ?_
      rintro e w' ⟨rfl, rfl⟩
      have hz : r = false := by rw [HR.out, hu0]; simp_all [str_toList]
      exact ⟨rfl, by rw [hz]; rfl, HB.out.zero⟩
end Go.Proofs.Ytimkiifcmegfeaa
/- code: operands (written by cdop.py). -/
namespace Go.Proofs.Ytimkiifcmegfeaa
open Go.RowKit
set_option linter.unusedVariables false
set_option linter.unusedSimpArgs false
attribute [local go_sem] Oper.semAt_some
set_option maxRecDepth 20000 in
set_option maxHeartbeats 2000000 in
theorem opnd_6 (a b c : Int) (tx : List UInt8) (gk pm N : Nat) (cl : Cl) (gv : Value) (m rk n : Nat) (hm : cl.fs.length = m) (hrk : cl.rs.length = rk) (hm2 : m ≤ 1000000) (hrk2 : rk ≤ 1000000) (hn2 : n ≤ 1000000) (hc : c ≤ 9223372036854775807) (htl : tx.length ≤ maxLen) (w : World) (hk : CkB w gk cl gv pm) (hpm : PrMap w pm N) (hN : N < 1000000) (r : Bool)
    (hr : r = (wi a 1 ((m : Int) - 1) && wi b 1 ((m : Int) - a) && wi c 0 65535 && decide (tx = []))) :
    Calls Try.prog 41 #[.pointer (some ⟨gk, 0, none⟩), .agg #[.int .u8 6, .int .i64 a, .int .i64 b, .int .i64 c, .string (str tx)], .int .i64 (n : Int)] w fun e w' => e = (if r = true then .returned (.tuple #[]) else .panicked [wr]) ∧ PrMap w' pm (N + 1) ∧ Off (fun k => k = pm) w w' := by
  obtain ⟨q, hq⟩ : ∃ q, w.heap.size = q := ⟨_, rfl⟩
  obtain ⟨w1, hw1⟩ : ∃ W, w.alloc (.cells #[.int .u8 6, .int .i64 a, .int .i64 b, .int .i64 c, .string (str tx)] 46) = W := ⟨_, rfl⟩
  obtain ⟨q1, hq1⟩ : ∃ z, q + 1 = z := ⟨_, rfl⟩
  have b1 : Below w.heap.size w w1 := by rw [← hw1]; exact (Below.refl _ _).alloc (Nat.le_refl _) _
  have k1 := Blk.below hk b1 (Blk.lt hk)
  have c0 : w1.cell? ⟨gk, 0, none⟩ = some (.slice cl.fA m cl.fc) := by rw [← hm]; exact Blk.cell k1 0
  have c1 : w1.cell? ⟨gk, 1, none⟩ = some (.slice cl.rA rk cl.rc) := by rw [← hrk]; exact Blk.cell k1 1
  have HW := Lib.hid (And.intro hq (And.intro hw1 hq1))
  have HR := Lib.hid hr
  have HK := Lib.hid (And.intro hk (And.intro hpm hN))
  have HT := Lib.hid htl
  clear hr hq hw1 b1 hq1 k1 hk hpm hN hm hrk htl
  go_enter Try.func41, Try.ntmps41
  go_upto_region 1 with fail
  (try rw [HW.out.1])
  (try rw [HW.out.2.1])
  go_quiet (fail)
  obtain ⟨wd, hwd⟩ : ∃ W, w1.drewN nq = W := ⟨_, rfl⟩
  rw [hwd]
  obtain ⟨w2, hw2, hsz, hbd, hb2, ⟨x0, x1, x2, x3, x4⟩, B1, B2⟩ := op_box 6 a b c _ w w1 wd q q1 nq HW.out.1 HW.out.2.2 HW.out.2.1 hwd
  have y0 := B1.cell 0
  have y1 := B1.cell 1
  have y2 := B1.cell 2
  have y3 := B1.cell 3
  have y4 := B1.cell 4
  have z0 := B2.cell 0
  have z1 := B2.cell 1
  have z2 := B2.cell 2
  have z3 := B2.cell 3
  have z4 := B2.cell 4
  have f2 := B2.frozen 2
  have f3 := B2.frozen 3
  have f4 := B2.frozen 4
  have HB := Lib.hid (op_end hb2 HK.out.2.1 (show w.heap.size ≤ q1 by have := HW.out.1; have := HW.out.2.2; omega))
  have HE := Lib.hid (And.intro hw2 hsz)
  have HBB := Lib.hid (And.intro hb2 (And.intro B1 B2))
  clear hw2 hsz hbd hb2 B1 B2 hwd c0 c1
  go_upto_region 4 with fail
  rw [HE.out.1, HE.out.2]
  clear x0 x1 x2 x3 x4
  cases hu0 : wi a 1 ((m : Int) - 1) with
  | false =>
    have HC := Lib.hid (fun W => within_no (.pointer (some ⟨gk, 0, none⟩)) a 1 ((m : Int) - 1) hu0 W)
    have HZ : Hid ((if r = true then Ending.returned (.tuple #[]) else .panicked [wr]) = .panicked [wr]) := Lib.hid (by rw [HR.out]; simp [hu0])
    go_wp2_with fail
    refine (HC.out _).mono ?_
    rintro e w' ⟨rfl, rfl⟩
    exact ⟨rfl, HZ.out.symm, HB.out.zero⟩
  | true =>
    have HC0 := Lib.hid (fun W => within_yes (.pointer (some ⟨gk, 0, none⟩)) a 1 ((m : Int) - 1) hu0 W)
    go_wp2_with fail
    refine (HC0.out _).mono ?_
    rintro e w' ⟨rfl, rfl⟩
    cases hu1 : wi b 1 ((m : Int) - a) with
    | false =>
      have HC := Lib.hid (fun W => within_no (.pointer (some ⟨gk, 0, none⟩)) b 1 ((m : Int) - a) hu1 W)
      have HZ : Hid ((if r = true then Ending.returned (.tuple #[]) else .panicked [wr]) = .panicked [wr]) := Lib.hid (by rw [HR.out]; simp [hu0, hu1])
      obtain ⟨ga1, ga2⟩ := wi_true hu0
      go_wp2_with fail
      refine (HC.out _).mono ?_
      rintro e w' ⟨rfl, rfl⟩
      exact ⟨rfl, HZ.out.symm, HB.out.zero⟩
    | true =>
      have HC1 := Lib.hid (fun W => within_yes (.pointer (some ⟨gk, 0, none⟩)) b 1 ((m : Int) - a) hu1 W)
      obtain ⟨ga1, ga2⟩ := wi_true hu0
      go_wp2_with fail
      refine (HC1.out _).mono ?_
      rintro e w' ⟨rfl, rfl⟩
      cases hu2 : wi c 0 65535 with
      | false =>
        have HC := Lib.hid (fun W => within_no (.pointer (some ⟨gk, 0, none⟩)) c 0 65535 hu2 W)
        have HZ : Hid ((if r = true then Ending.returned (.tuple #[]) else .panicked [wr]) = .panicked [wr]) := Lib.hid (by rw [HR.out]; simp [hu0, hu1, hu2])
        go_wp2_with fail
        refine (HC.out _).mono ?_
        rintro e w' ⟨rfl, rfl⟩
        exact ⟨rfl, HZ.out.symm, HB.out.zero⟩
      | true =>
        have HC2 := Lib.hid (fun W => within_yes (.pointer (some ⟨gk, 0, none⟩)) c 0 65535 hu2 W)
        go_wp2_with fail
        refine (HC2.out _).mono ?_
        rintro e w' ⟨rfl, rfl⟩
        go_upto_region 50 with fail
        go_wp2_with fail
        · refine (ask_yes _ _).mono ?_
          rintro e w' ⟨rfl, rfl⟩
          have hz : r = true := by rw [HR.out, hu0, hu1, hu2]; simp_all [str_toList]
          go_wp2_with fail
          go_end0
          exact ⟨by first | rfl | (rw [hz]; rfl), HB.out.two _ _ _ _⟩
        all_goals
          refine (ask_no _ _).mono ?_
          rintro e w' ⟨rfl, rfl⟩
          have hz : r = false := by rw [HR.out, hu0, hu1, hu2]; simp_all [str_toList]
          exact ⟨rfl, by rw [hz]; rfl, HB.out.two _ _ _ _⟩
end Go.Proofs.Ytimkiifcmegfeaa
/- code: operands (written by cdop.py). -/
namespace Go.Proofs.Ytimkiifcmegfeaa
open Go.RowKit
set_option linter.unusedVariables false
set_option linter.unusedSimpArgs false
attribute [local go_sem] Oper.semAt_some
set_option maxRecDepth 20000 in
set_option maxHeartbeats 2000000 in
theorem opnd_2 (a b c : Int) (tx : List UInt8) (gk pm N : Nat) (cl : Cl) (gv : Value) (m rk n : Nat) (hm : cl.fs.length = m) (hrk : cl.rs.length = rk) (hm2 : m ≤ 1000000) (hrk2 : rk ≤ 1000000) (hn2 : n ≤ 1000000) (hc : c ≤ 9223372036854775807) (htl : tx.length ≤ maxLen) (w : World) (hk : CkB w gk cl gv pm) (hpm : PrMap w pm N) (hN : N < 1000000) (r : Bool)
    (hr : r = (decide (a = 0) && decide (tx.length ≤ 16384) && (decide (b = 0) && decide (c = 0)))) :
    Calls Try.prog 41 #[.pointer (some ⟨gk, 0, none⟩), .agg #[.int .u8 2, .int .i64 a, .int .i64 b, .int .i64 c, .string (str tx)], .int .i64 (n : Int)] w fun e w' => e = (if r = true then .returned (.tuple #[]) else .panicked [wr]) ∧ PrMap w' pm (N + 1) ∧ Off (fun k => k = pm) w w' := by
  obtain ⟨q, hq⟩ : ∃ q, w.heap.size = q := ⟨_, rfl⟩
  obtain ⟨w1, hw1⟩ : ∃ W, w.alloc (.cells #[.int .u8 2, .int .i64 a, .int .i64 b, .int .i64 c, .string (str tx)] 46) = W := ⟨_, rfl⟩
  obtain ⟨q1, hq1⟩ : ∃ z, q + 1 = z := ⟨_, rfl⟩
  have b1 : Below w.heap.size w w1 := by rw [← hw1]; exact (Below.refl _ _).alloc (Nat.le_refl _) _
  have k1 := Blk.below hk b1 (Blk.lt hk)
  have c0 : w1.cell? ⟨gk, 0, none⟩ = some (.slice cl.fA m cl.fc) := by rw [← hm]; exact Blk.cell k1 0
  have c1 : w1.cell? ⟨gk, 1, none⟩ = some (.slice cl.rA rk cl.rc) := by rw [← hrk]; exact Blk.cell k1 1
  have HW := Lib.hid (And.intro hq (And.intro hw1 hq1))
  have HR := Lib.hid hr
  have HK := Lib.hid (And.intro hk (And.intro hpm hN))
  have HT := Lib.hid htl
  clear hr hq hw1 b1 hq1 k1 hk hpm hN hm hrk htl
  go_enter Try.func41, Try.ntmps41
  go_upto_region 1 with fail
  (try rw [HW.out.1])
  (try rw [HW.out.2.1])
  go_quiet (fail)
  obtain ⟨wd, hwd⟩ : ∃ W, w1.drewN nq = W := ⟨_, rfl⟩
  rw [hwd]
  obtain ⟨w2, hw2, hsz, hbd, hb2, ⟨x0, x1, x2, x3, x4⟩, B1, B2⟩ := op_box 2 a b c _ w w1 wd q q1 nq HW.out.1 HW.out.2.2 HW.out.2.1 hwd
  have y0 := B1.cell 0
  have y1 := B1.cell 1
  have y2 := B1.cell 2
  have y3 := B1.cell 3
  have y4 := B1.cell 4
  have z0 := B2.cell 0
  have z1 := B2.cell 1
  have z2 := B2.cell 2
  have z3 := B2.cell 3
  have z4 := B2.cell 4
  have f2 := B2.frozen 2
  have f3 := B2.frozen 3
  have f4 := B2.frozen 4
  have HB := Lib.hid (op_end hb2 HK.out.2.1 (show w.heap.size ≤ q1 by have := HW.out.1; have := HW.out.2.2; omega))
  have HE := Lib.hid (And.intro hw2 hsz)
  have HBB := Lib.hid (And.intro hb2 (And.intro B1 B2))
  clear hw2 hsz hbd hb2 B1 B2 hwd c0 c1
  go_upto_region 4 with fail
  rw [HE.out.1, HE.out.2]
  clear x0 x1 x2 x3 x4
  cases hu0 : decide (a = 0) with
  | false =>
    have HC := Lib.hid (fun W => ask_no_of (.pointer (some ⟨gk, 0, none⟩)) (decide (a = 0)) hu0 W)
    have HZ : Hid ((if r = true then Ending.returned (.tuple #[]) else .panicked [wr]) = .panicked [wr]) := Lib.hid (by rw [HR.out]; simp [hu0])
    have a0 : (a == 0) = false := by simpa using hu0
    go_wp2_with fail
    refine (HC.out _).mono ?_
    rintro e w' ⟨rfl, rfl⟩
    exact ⟨rfl, HZ.out.symm, HB.out.zero⟩
  | true =>
    cases hu1 : decide (tx.length ≤ 16384) with
    | false =>
      have HC := Lib.hid (fun W => ask_no_of (.pointer (some ⟨gk, 0, none⟩)) (decide (tx.length ≤ 16384)) hu1 W)
      have HZ : Hid ((if r = true then Ending.returned (.tuple #[]) else .panicked [wr]) = .panicked [wr]) := Lib.hid (by rw [HR.out]; simp [hu0, hu1])
      have a0 : (a == 0) = true := by simpa using hu0
      have l0 : decide (((str tx).size : Int) ≤ 16384) = false := by have h := hu1; simp [str_size] at h ⊢; omega
      go_wp2_with fail
      refine (HC.out _).mono ?_
      rintro e w' ⟨rfl, rfl⟩
      exact ⟨rfl, HZ.out.symm, HB.out.zero⟩
    | true =>
      have HC1 := Lib.hid (fun W => ask_yes_of (.pointer (some ⟨gk, 0, none⟩)) (decide (tx.length ≤ 16384)) hu1 W)
      have a0 : (a == 0) = true := by simpa using hu0
      have l0 : decide (((str tx).size : Int) ≤ 16384) = true := by have h := hu1; simp [str_size] at h ⊢; omega
      go_wp2_with fail
      refine (HC1.out _).mono ?_
      rintro e w' ⟨rfl, rfl⟩
      go_upto_region 50 with fail
      go_wp2_with fail
      · refine (ask_yes _ _).mono ?_
        rintro e w' ⟨rfl, rfl⟩
        have hz : r = true := by rw [HR.out, hu0, hu1]; simp_all [str_toList]
        go_wp2_with fail
        go_end0
        exact ⟨by first | rfl | (rw [hz]; rfl), HB.out.one _ _⟩
      all_goals
        refine (ask_no _ _).mono ?_
        rintro e w' ⟨rfl, rfl⟩
        have hz : r = false := by rw [HR.out, hu0, hu1]; simp_all [str_toList]
        exact ⟨rfl, by rw [hz]; rfl, HB.out.one _ _⟩
end Go.Proofs.Ytimkiifcmegfeaa
/- code: operands (written by cdop.py). -/
namespace Go.Proofs.Ytimkiifcmegfeaa
open Go.RowKit
set_option linter.unusedVariables false
set_option linter.unusedSimpArgs false
attribute [local go_sem] Oper.semAt_some
set_option maxRecDepth 20000 in
set_option maxHeartbeats 2000000 in
theorem opnd_16 (a b c : Int) (tx : List UInt8) (gk pm N : Nat) (cl : Cl) (gv : Value) (m rk n : Nat) (hm : cl.fs.length = m) (hrk : cl.rs.length = rk) (hm2 : m ≤ 1000000) (hrk2 : rk ≤ 1000000) (hn2 : n ≤ 1000000) (hc : c ≤ 9223372036854775807) (htl : tx.length ≤ maxLen) (w : World) (hk : CkB w gk cl gv pm) (hpm : PrMap w pm N) (hN : N < 1000000) (r : Bool)
    (hr : r = (decide (a = 0) && decide (0 < takesN tx) && (decide (b = 0) && decide (c = 0)))) :
    Calls Try.prog 41 #[.pointer (some ⟨gk, 0, none⟩), .agg #[.int .u8 16, .int .i64 a, .int .i64 b, .int .i64 c, .string (str tx)], .int .i64 (n : Int)] w fun e w' => e = (if r = true then .returned (.tuple #[]) else .panicked [wr]) ∧ PrMap w' pm (N + 1) ∧ Off (fun k => k = pm) w w' := by
  obtain ⟨q, hq⟩ : ∃ q, w.heap.size = q := ⟨_, rfl⟩
  obtain ⟨w1, hw1⟩ : ∃ W, w.alloc (.cells #[.int .u8 16, .int .i64 a, .int .i64 b, .int .i64 c, .string (str tx)] 46) = W := ⟨_, rfl⟩
  obtain ⟨q1, hq1⟩ : ∃ z, q + 1 = z := ⟨_, rfl⟩
  have b1 : Below w.heap.size w w1 := by rw [← hw1]; exact (Below.refl _ _).alloc (Nat.le_refl _) _
  have k1 := Blk.below hk b1 (Blk.lt hk)
  have c0 : w1.cell? ⟨gk, 0, none⟩ = some (.slice cl.fA m cl.fc) := by rw [← hm]; exact Blk.cell k1 0
  have c1 : w1.cell? ⟨gk, 1, none⟩ = some (.slice cl.rA rk cl.rc) := by rw [← hrk]; exact Blk.cell k1 1
  have HW := Lib.hid (And.intro hq (And.intro hw1 hq1))
  have HR := Lib.hid hr
  have HK := Lib.hid (And.intro hk (And.intro hpm hN))
  have HT := Lib.hid htl
  clear hr hq hw1 b1 hq1 k1 hk hpm hN hm hrk htl
  go_enter Try.func41, Try.ntmps41
  go_upto_region 1 with fail
  (try rw [HW.out.1])
  (try rw [HW.out.2.1])
  go_quiet (fail)
  obtain ⟨wd, hwd⟩ : ∃ W, w1.drewN nq = W := ⟨_, rfl⟩
  rw [hwd]
  obtain ⟨w2, hw2, hsz, hbd, hb2, ⟨x0, x1, x2, x3, x4⟩, B1, B2⟩ := op_box 16 a b c _ w w1 wd q q1 nq HW.out.1 HW.out.2.2 HW.out.2.1 hwd
  have y0 := B1.cell 0
  have y1 := B1.cell 1
  have y2 := B1.cell 2
  have y3 := B1.cell 3
  have y4 := B1.cell 4
  have z0 := B2.cell 0
  have z1 := B2.cell 1
  have z2 := B2.cell 2
  have z3 := B2.cell 3
  have z4 := B2.cell 4
  have f2 := B2.frozen 2
  have f3 := B2.frozen 3
  have f4 := B2.frozen 4
  have HB := Lib.hid (op_end hb2 HK.out.2.1 (show w.heap.size ≤ q1 by have := HW.out.1; have := HW.out.2.2; omega))
  have HE := Lib.hid (And.intro hw2 hsz)
  have HBB := Lib.hid (And.intro hb2 (And.intro B1 B2))
  clear hw2 hsz hbd hb2 B1 B2 hwd c0 c1
  go_upto_region 4 with fail
  rw [HE.out.1, HE.out.2]
  clear x0 x1 x2 x3 x4
  cases hu0 : decide (a = 0) with
  | false =>
    have HC := Lib.hid (fun W => ask_no_of (.pointer (some ⟨gk, 0, none⟩)) (decide (a = 0)) hu0 W)
    have HZ : Hid ((if r = true then Ending.returned (.tuple #[]) else .panicked [wr]) = .panicked [wr]) := Lib.hid (by rw [HR.out]; simp [hu0])
    have a0 : (a == 0) = false := by simpa using hu0
    go_wp2_with fail
    refine (HC.out _).mono ?_
    rintro e w' ⟨rfl, rfl⟩
    exact ⟨rfl, HZ.out.symm, HB.out.zero⟩
  | true =>
    have a0 : (a == 0) = true := by simpa using hu0
    have HBk := Lib.hid (Blk.below HK.out.1 HBB.out.1 (Blk.lt HK.out.1))
    have HCT := Lib.hid (ctakes_any tx HT.out gk pm N cl gv w2 HBk.out (HK.out.2.1.bel HBB.out.1) HK.out.2.2)
    go_wp2_with fail
    refine HCT.out.mono ?_
    rintro e w3 ⟨rfl, hp3, ho3⟩
    have hlt := HK.out.2.1.lt
    have hqq := HW.out.1
    have hqq1 := HW.out.2.2
    have B1 := HBB.out.2.1.off ho3 (by show ¬ (q = pm); omega)
    have B2 := HBB.out.2.2.off ho3 (by show ¬ (q1 = pm); omega)
    have HB3 := Lib.hid (op_end3 HBB.out.1 hp3 ho3 (show w.heap.size ≤ q1 by omega) hlt)
    clear hp3 ho3 y0 y1 y2 y3 y4 z0 z1 z2 z3 z4 f2 f3 f4 hlt hqq hqq1
    have y0 := B1.cell 0
    have y1 := B1.cell 1
    have y4 := B1.cell 4
    have z0 := B2.cell 0
    have z1 := B2.cell 1
    have z2 := B2.cell 2
    have z3 := B2.cell 3
    have z4 := B2.cell 4
    have f4 := B2.frozen 4
    clear B1 B2
    cases hu1 : decide (0 < takesN tx) with
    | false =>
      have t0 : decide ((takesN tx : Int) > 0) = false := by have h := hu1; simp at h ⊢; omega
      have HC := Lib.hid (fun W => ask_no (.pointer (some ⟨gk, 0, none⟩)) W)
      have HZ : Hid ((if r = true then Ending.returned (.tuple #[]) else .panicked [wr]) = .panicked [wr]) := Lib.hid (by rw [HR.out]; simp [hu0, hu1])
      go_wp2_with fail
      refine (HC.out _).mono ?_
      rintro e w' ⟨rfl, rfl⟩
      exact ⟨rfl, HZ.out.symm, HB3.out.zero⟩
    | true =>
      have t0 : decide ((takesN tx : Int) > 0) = true := by have h := hu1; simp at h ⊢; omega
      have HC := Lib.hid (fun W => ask_yes (.pointer (some ⟨gk, 0, none⟩)) W)
      go_wp2_with fail
      refine (HC.out _).mono ?_
      rintro e w' ⟨rfl, rfl⟩
      go_upto_region 50 with fail
      go_wp2_with fail
      · refine (ask_yes _ _).mono ?_
        rintro e w' ⟨rfl, rfl⟩
        have hz : r = true := by rw [HR.out, hu0, hu1]; simp_all [str_toList]
        go_wp2_with fail
        go_end0
        exact ⟨by first | rfl | (rw [hz]; rfl), HB3.out.one _ _⟩
      all_goals
        refine (ask_no _ _).mono ?_
        rintro e w' ⟨rfl, rfl⟩
        have hz : r = false := by rw [HR.out, hu0, hu1]; simp_all [str_toList]
        exact ⟨rfl, by rw [hz]; rfl, HB3.out.one _ _⟩
end Go.Proofs.Ytimkiifcmegfeaa
/- code: operands (written by cdop.py). -/
namespace Go.Proofs.Ytimkiifcmegfeaa
open Go.RowKit
set_option linter.unusedVariables false
set_option linter.unusedSimpArgs false
attribute [local go_sem] Oper.semAt_some
set_option maxRecDepth 20000 in
set_option maxHeartbeats 2000000 in
theorem opnd_0 (k : Nat) (hkn : ∀ j : Nat, 1 ≤ j → j ≤ 25 → k ≠ j) (a b c : Int) (tx : List UInt8) (gk pm N : Nat) (cl : Cl) (gv : Value) (m rk n : Nat) (hm : cl.fs.length = m) (hrk : cl.rs.length = rk) (hm2 : m ≤ 1000000) (hrk2 : rk ≤ 1000000) (hn2 : n ≤ 1000000) (hc : c ≤ 9223372036854775807) (htl : tx.length ≤ maxLen) (w : World) (hk : CkB w gk cl gv pm) (hpm : PrMap w pm N) (hN : N < 1000000) (r : Bool)
    (hr : r = false) :
    Calls Try.prog 41 #[.pointer (some ⟨gk, 0, none⟩), .agg #[.int .u8 (k : Int), .int .i64 a, .int .i64 b, .int .i64 c, .string (str tx)], .int .i64 (n : Int)] w fun e w' => e = (if r = true then .returned (.tuple #[]) else .panicked [wr]) ∧ PrMap w' pm (N + 1) ∧ Off (fun k => k = pm) w w' := by
  obtain ⟨q, hq⟩ : ∃ q, w.heap.size = q := ⟨_, rfl⟩
  obtain ⟨w1, hw1⟩ : ∃ W, w.alloc (.cells #[.int .u8 (k : Int), .int .i64 a, .int .i64 b, .int .i64 c, .string (str tx)] 46) = W := ⟨_, rfl⟩
  obtain ⟨q1, hq1⟩ : ∃ z, q + 1 = z := ⟨_, rfl⟩
  have b1 : Below w.heap.size w w1 := by rw [← hw1]; exact (Below.refl _ _).alloc (Nat.le_refl _) _
  have k1 := Blk.below hk b1 (Blk.lt hk)
  have c0 : w1.cell? ⟨gk, 0, none⟩ = some (.slice cl.fA m cl.fc) := by rw [← hm]; exact Blk.cell k1 0
  have c1 : w1.cell? ⟨gk, 1, none⟩ = some (.slice cl.rA rk cl.rc) := by rw [← hrk]; exact Blk.cell k1 1
  have HW := Lib.hid (And.intro hq (And.intro hw1 hq1))
  have HR := Lib.hid hr
  have HK := Lib.hid (And.intro hk (And.intro hpm hN))
  have HT := Lib.hid htl
  clear hr hq hw1 b1 hq1 k1 hk hpm hN hm hrk htl
  have hkk := hkn
  have e1 : ((k : Int) == 1) = false := by rw [beq_eq_false_iff_ne]; have := hkn 1 (by omega) (by omega); omega
  have e2 : ((k : Int) == 2) = false := by rw [beq_eq_false_iff_ne]; have := hkn 2 (by omega) (by omega); omega
  have e3 : ((k : Int) == 3) = false := by rw [beq_eq_false_iff_ne]; have := hkn 3 (by omega) (by omega); omega
  have e4 : ((k : Int) == 4) = false := by rw [beq_eq_false_iff_ne]; have := hkn 4 (by omega) (by omega); omega
  have e5 : ((k : Int) == 5) = false := by rw [beq_eq_false_iff_ne]; have := hkn 5 (by omega) (by omega); omega
  have e6 : ((k : Int) == 6) = false := by rw [beq_eq_false_iff_ne]; have := hkn 6 (by omega) (by omega); omega
  have e7 : ((k : Int) == 7) = false := by rw [beq_eq_false_iff_ne]; have := hkn 7 (by omega) (by omega); omega
  have e8 : ((k : Int) == 8) = false := by rw [beq_eq_false_iff_ne]; have := hkn 8 (by omega) (by omega); omega
  have e9 : ((k : Int) == 9) = false := by rw [beq_eq_false_iff_ne]; have := hkn 9 (by omega) (by omega); omega
  have e10 : ((k : Int) == 10) = false := by rw [beq_eq_false_iff_ne]; have := hkn 10 (by omega) (by omega); omega
  have e11 : ((k : Int) == 11) = false := by rw [beq_eq_false_iff_ne]; have := hkn 11 (by omega) (by omega); omega
  have e12 : ((k : Int) == 12) = false := by rw [beq_eq_false_iff_ne]; have := hkn 12 (by omega) (by omega); omega
  have e13 : ((k : Int) == 13) = false := by rw [beq_eq_false_iff_ne]; have := hkn 13 (by omega) (by omega); omega
  have e14 : ((k : Int) == 14) = false := by rw [beq_eq_false_iff_ne]; have := hkn 14 (by omega) (by omega); omega
  have e15 : ((k : Int) == 15) = false := by rw [beq_eq_false_iff_ne]; have := hkn 15 (by omega) (by omega); omega
  have e16 : ((k : Int) == 16) = false := by rw [beq_eq_false_iff_ne]; have := hkn 16 (by omega) (by omega); omega
  have e17 : ((k : Int) == 17) = false := by rw [beq_eq_false_iff_ne]; have := hkn 17 (by omega) (by omega); omega
  have e18 : ((k : Int) == 18) = false := by rw [beq_eq_false_iff_ne]; have := hkn 18 (by omega) (by omega); omega
  have e19 : ((k : Int) == 19) = false := by rw [beq_eq_false_iff_ne]; have := hkn 19 (by omega) (by omega); omega
  have e20 : ((k : Int) == 20) = false := by rw [beq_eq_false_iff_ne]; have := hkn 20 (by omega) (by omega); omega
  have e21 : ((k : Int) == 21) = false := by rw [beq_eq_false_iff_ne]; have := hkn 21 (by omega) (by omega); omega
  have e22 : ((k : Int) == 22) = false := by rw [beq_eq_false_iff_ne]; have := hkn 22 (by omega) (by omega); omega
  have e23 : ((k : Int) == 23) = false := by rw [beq_eq_false_iff_ne]; have := hkn 23 (by omega) (by omega); omega
  have e24 : ((k : Int) == 24) = false := by rw [beq_eq_false_iff_ne]; have := hkn 24 (by omega) (by omega); omega
  have e25 : ((k : Int) == 25) = false := by rw [beq_eq_false_iff_ne]; have := hkn 25 (by omega) (by omega); omega
  clear hkk hkn
  go_enter Try.func41, Try.ntmps41
  go_upto_region 1 with fail
  (try rw [HW.out.1])
  (try rw [HW.out.2.1])
  go_quiet (fail)
  obtain ⟨wd, hwd⟩ : ∃ W, w1.drewN nq = W := ⟨_, rfl⟩
  rw [hwd]
  obtain ⟨w2, hw2, hsz, hbd, hb2, ⟨x0, x1, x2, x3, x4⟩, B1, B2⟩ := op_box (k : Int) a b c _ w w1 wd q q1 nq HW.out.1 HW.out.2.2 HW.out.2.1 hwd
  have y0 := B1.cell 0
  have y1 := B1.cell 1
  have y2 := B1.cell 2
  have y3 := B1.cell 3
  have y4 := B1.cell 4
  have z0 := B2.cell 0
  have z1 := B2.cell 1
  have z2 := B2.cell 2
  have z3 := B2.cell 3
  have z4 := B2.cell 4
  have f2 := B2.frozen 2
  have f3 := B2.frozen 3
  have f4 := B2.frozen 4
  have HB := Lib.hid (op_end hb2 HK.out.2.1 (show w.heap.size ≤ q1 by have := HW.out.1; have := HW.out.2.2; omega))
  have HE := Lib.hid (And.intro hw2 hsz)
  have HBB := Lib.hid (And.intro hb2 (And.intro B1 B2))
  clear hw2 hsz hbd hb2 B1 B2 hwd c0 c1
  go_upto_region 4 with fail
  rw [HE.out.1, HE.out.2]
  clear x0 x1 x2 x3 x4
  have HC := Lib.hid (fun W => ask_no (.pointer (some ⟨gk, 0, none⟩)) W)
  have HZ : Hid ((if r = true then Ending.returned (.tuple #[]) else .panicked [wr]) = .panicked [wr]) := Lib.hid (by rw [HR.out]; rfl)
  go_wp2_with fail
  refine (HC.out _).mono ?_
  rintro e w' ⟨rfl, rfl⟩
  exact ⟨rfl, HZ.out.symm, HB.out.zero⟩
end Go.Proofs.Ytimkiifcmegfeaa
