/- Contracts, part BY. -/
import Derived.Test.YtimkiifcmegfeaaBX
/- code: step (written by cdstep2.py). -/
namespace Go.Proofs.Ytimkiifcmegfeaa
open Go.RowKit
set_option linter.unusedVariables false
set_option linter.unusedSimpArgs false
attribute [local go_sem] Oper.semAt_some
set_option maxRecDepth 20000 in
set_option maxHeartbeats 4000000 in
theorem step_9 (P : Pl) (vw vr : Value) (W : Wk) (l : Nat) (H : Int) (m pm N : Nat) (g : Int × Int) (cl : Cl) (gv : Value) (p : Nat) (h : Int) (t : Nat) (an : Nat) (b : Int) (han : an < P.n) (c : Int) (tx : List UInt8) (w : World) (s : StM w P vw vr W l H m pm N g cl gv) (hx : W.at_[p]? = some (some (h, t))) (hH : H + 1000001 ≤ 1000000000000) (hl1 : l + 1 < 900000) (R : Option Wk)
    (hR : R = W.come an h t) :
    Calls Try.prog 65 #[.pointer (some ⟨P.gw, 0, none⟩), .int .i64 (p : Int), .agg #[.int .u8 9, .int .i64 (an : Int), .int .i64 b, .int .i64 c, .string (str tx)]] w (StepPost P R pm N w) := by
  obtain ⟨hs1, hs2, hs3⟩ := s.b.ok.ht p (h, t) hx
  have hpn : p < P.n := by rw [← s.b.ok.len]; exact (List.getElem?_eq_some_iff.1 hx).1
  have hn := s.b.n
  have hh : 0 ≤ h ∧ h ≤ 1000000000000 := ⟨hs1, by have h1 : h ≤ H := hs2; omega⟩
  have ht : t < W.rows.length := hs3
  have hhH : h ≤ H := hs2
  have hh1 := hh.1
  obtain ⟨q, hq⟩ : ∃ q, w.heap.size = q := ⟨_, rfl⟩
  obtain ⟨q1, hq1⟩ : ∃ q1, q + 1 = q1 := ⟨_, rfl⟩
  obtain ⟨w1, hw1⟩ : ∃ V, w.alloc (.cells #[.int .u8 9, .int .i64 (an : Int), .int .i64 b, .int .i64 c, .string (str tx)] 46) = V := ⟨_, rfl⟩
  obtain ⟨w2, hw2⟩ : ∃ V, w1.alloc (.cells #[.bool true, .int .i64 h, .int .i64 (t : Int)] 139) = V := ⟨_, rfl⟩
  obtain ⟨hb1, hb2, s1, bx⟩ := st_box 9 (an : Int) b c h t (str tx) w w1 w2 q q1 hq hq1 hw1 hw2 s.b.wk
  have m1 := s.b.wk.bel hb1
  have d2 := m1.told.2.2.1
  have y0 : w1.cell? ⟨P.ga, p * 3, none⟩ = some (.bool true) := m1.place hx 0 _ rfl
  have y1 : w1.cell? ⟨P.ga, p * 3 + 1, none⟩ = some (.int .i64 h) := m1.place hx 1 _ rfl
  have y2 : w1.cell? ⟨P.ga, p * 3 + 2, none⟩ = some (.int .i64 (t : Int)) := m1.place hx 2 _ rfl
  have S2 := Lib.hid (s.bel hb2)
  obtain ⟨z0, z1, z2, z3, z4, u0, u1, u2⟩ := bx.cells
  have X2 := Lib.hid bx
  have HB2 := Lib.hid (hb2.mono s.b.big)
  have HW := Lib.hid (And.intro hw1 (And.intro hq (And.intro hw2 (And.intro s1 (And.intro hq1 hb2)))))
  have HB := Lib.hid (And.intro hpn (And.intro hh (And.intro ht hn)))
  have HR := Lib.hid hR
  have HS := Lib.hid s
  have HX := Lib.hid hx
  have c0 := S2.out.b.wk.told.1
  have c1 := S2.out.b.wk.told.2.1
  have HAN := Lib.hid (fun V => ask_no (.pointer (some ⟨P.gk, 0, none⟩)) V)
  have HAY := Lib.hid (fun V => ask_yes (.pointer (some ⟨P.gk, 0, none⟩)) V)
  clear hb1 hb2 s1 bx m1 hw1 hw2 hq hq1 hR s hx hs1 hs2 hs3
  go_enter Try.func65, Try.ntmps65
  go_upto_region 1 with fail
  (try rw [HW.out.1])
  (try rw [HW.out.2.1])
  go_upto_region 2 with fail
  (try rw [HW.out.2.2.1])
  (try rw [HW.out.2.2.2.1])
  clear d2 y0 y1 y2
  cases hc0 : W.come an h t with
  | none =>
    have HC := Lib.hid ((S2.out.b).come_no hc0 (by have := han; have := HB.out.2.2.2; omega))
    have HZ : Hid (R = none) := Lib.hid (by rw [HR.out]; simp [hc0])
    go_wp2_with fail
    refine HC.out.mono ?_
    rintro e w9 ⟨rfl, hb9⟩
    exact ⟨rfl, HS.out.post ((HB2.out).trans hb9) (by rw [HZ.out]; rfl) (fun V hV => by rw [HZ.out] at hV; cases hV)⟩
  | some V0 =>
    have HC := Lib.hid ((S2.out.b).come_yes hc0 (by have := han; have := HB.out.2.2.2; omega))
    go_wp2_with fail
    refine HC.out.mono ?_
    rintro e w3 ⟨rfl, hm0, ho0⟩
    have HZ : Hid (R = some V0) := Lib.hid (by rw [HR.out]; simp [hc0])
    have HE : Hid (StepPost P R pm N w (.returned (.tuple #[])) w3) := Lib.hid (HS.out.post ((HB2.out).trans ((S2.out.b).wk.below ho0)) (by rw [HZ.out]; rfl) (fun V hV => by rw [HZ.out] at hV; cases hV; obtain ⟨v', k1, _⟩ := hm0; exact ⟨v', _, k1⟩))
    clear HC hm0 ho0
    go_wp2_with fail
    (first | go_end0 | refine bodyPost_ret (results_none rfl _ _ _) rfl ?_)
    exact HE.out
end Go.Proofs.Ytimkiifcmegfeaa
/- code: step (written by cdstep2.py). -/
namespace Go.Proofs.Ytimkiifcmegfeaa
open Go.RowKit
set_option linter.unusedVariables false
set_option linter.unusedSimpArgs false
attribute [local go_sem] Oper.semAt_some
set_option maxRecDepth 20000 in
set_option maxHeartbeats 4000000 in
theorem step_10 (P : Pl) (vw vr : Value) (W : Wk) (l : Nat) (H : Int) (m pm N : Nat) (g : Int × Int) (cl : Cl) (gv : Value) (p : Nat) (h : Int) (t : Nat) (an : Nat) (b : Int) (han : an < P.n) (c : Int) (tx : List UInt8) (w : World) (s : StM w P vw vr W l H m pm N g cl gv) (hx : W.at_[p]? = some (some (h, t))) (hH : H + 1000001 ≤ 1000000000000) (hl1 : l + 1 < 900000) (R : Option Wk)
    (hR : R = (W.take (decide (P.fn = 0)) (h, t) 1).bind fun h1 => (W.come (p + 1) h1 t).bind fun V => V.come an h1 t) :
    Calls Try.prog 65 #[.pointer (some ⟨P.gw, 0, none⟩), .int .i64 (p : Int), .agg #[.int .u8 10, .int .i64 (an : Int), .int .i64 b, .int .i64 c, .string (str tx)]] w (StepPost P R pm N w) := by
  obtain ⟨hs1, hs2, hs3⟩ := s.b.ok.ht p (h, t) hx
  have hpn : p < P.n := by rw [← s.b.ok.len]; exact (List.getElem?_eq_some_iff.1 hx).1
  have hn := s.b.n
  have hh : 0 ≤ h ∧ h ≤ 1000000000000 := ⟨hs1, by have h1 : h ≤ H := hs2; omega⟩
  have ht : t < W.rows.length := hs3
  have hhH : h ≤ H := hs2
  have hh1 := hh.1
  obtain ⟨q, hq⟩ : ∃ q, w.heap.size = q := ⟨_, rfl⟩
  obtain ⟨q1, hq1⟩ : ∃ q1, q + 1 = q1 := ⟨_, rfl⟩
  obtain ⟨w1, hw1⟩ : ∃ V, w.alloc (.cells #[.int .u8 10, .int .i64 (an : Int), .int .i64 b, .int .i64 c, .string (str tx)] 46) = V := ⟨_, rfl⟩
  obtain ⟨w2, hw2⟩ : ∃ V, w1.alloc (.cells #[.bool true, .int .i64 h, .int .i64 (t : Int)] 139) = V := ⟨_, rfl⟩
  obtain ⟨hb1, hb2, s1, bx⟩ := st_box 10 (an : Int) b c h t (str tx) w w1 w2 q q1 hq hq1 hw1 hw2 s.b.wk
  have m1 := s.b.wk.bel hb1
  have d2 := m1.told.2.2.1
  have y0 : w1.cell? ⟨P.ga, p * 3, none⟩ = some (.bool true) := m1.place hx 0 _ rfl
  have y1 : w1.cell? ⟨P.ga, p * 3 + 1, none⟩ = some (.int .i64 h) := m1.place hx 1 _ rfl
  have y2 : w1.cell? ⟨P.ga, p * 3 + 2, none⟩ = some (.int .i64 (t : Int)) := m1.place hx 2 _ rfl
  have S2 := Lib.hid (s.bel hb2)
  obtain ⟨z0, z1, z2, z3, z4, u0, u1, u2⟩ := bx.cells
  have X2 := Lib.hid bx
  have HB2 := Lib.hid (hb2.mono s.b.big)
  have HW := Lib.hid (And.intro hw1 (And.intro hq (And.intro hw2 (And.intro s1 (And.intro hq1 hb2)))))
  have HB := Lib.hid (And.intro hpn (And.intro hh (And.intro ht hn)))
  have HR := Lib.hid hR
  have HS := Lib.hid s
  have HX := Lib.hid hx
  have c0 := S2.out.b.wk.told.1
  have c1 := S2.out.b.wk.told.2.1
  have HAN := Lib.hid (fun V => ask_no (.pointer (some ⟨P.gk, 0, none⟩)) V)
  have HAY := Lib.hid (fun V => ask_yes (.pointer (some ⟨P.gk, 0, none⟩)) V)
  clear hb1 hb2 s1 bx m1 hw1 hw2 hq hq1 hR s hx hs1 hs2 hs3
  go_enter Try.func65, Try.ntmps65
  go_upto_region 1 with fail
  (try rw [HW.out.1])
  (try rw [HW.out.2.1])
  go_upto_region 2 with fail
  (try rw [HW.out.2.2.1])
  (try rw [HW.out.2.2.2.1])
  clear d2 y0 y1 y2
  cases hc0 : W.take (decide (P.fn = 0)) (h, t) 1 with
  | none =>
    have HC := Lib.hid ((S2.out.b).take_no hc0 HB.out.2.2.1 HB.out.2.1 ⟨by omega, by omega⟩)
    have HZ : Hid (R = none) := Lib.hid (by rw [HR.out]; simp [hc0])
    go_wp2_with fail
    refine HC.out.mono ?_
    rintro e w9 ⟨rfl, hb9⟩
    exact ⟨rfl, HS.out.post ((HB2.out).trans (hb9.mono (S2.out.b).big)) (by rw [HZ.out]; rfl) (fun V hV => by rw [HZ.out] at hV; cases hV)⟩
  | some h1 =>
    obtain ⟨⟨he0, hn0⟩, hC⟩ := (S2.out.b).take_yes hc0 HB.out.2.2.1 HB.out.2.1 ⟨by omega, by omega⟩
    have HC := Lib.hid hC
    clear hC
    go_wp2_with fail
    refine HC.out.mono ?_
    rintro e w3 ⟨rfl, hb0⟩
    have S3 := Lib.hid ((S2.out.b).bel hb0)
    have X3 := Lib.hid ((X2.out).bel hb0)
    have HB3 : Hid (Below P.B w w3) := Lib.hid ((HB2.out).trans (hb0.mono (S2.out.b).big))
    have HN0 := Lib.hid (And.intro he0 hn0)
    clear HC hb0 z0 z1 z2 z3 z4 u0 u1 u2 c0 c1 he0
    obtain ⟨z0, z1, z2, z3, z4, u0, u1, u2⟩ := X3.out.cells
    cases hc1 : W.come (p + 1) h1 t with
    | none =>
      have HC := Lib.hid ((S3.out).come_no hc1 (by have := HB.out.1; have := HB.out.2.2.2; omega))
      have HZ : Hid (R = none) := Lib.hid (by rw [HR.out]; simp [hc0, hc1])
      go_wp2_with fail
      refine HC.out.mono ?_
      rintro e w9 ⟨rfl, hb9⟩
      exact ⟨rfl, HS.out.post ((HB3.out).trans hb9) (by rw [HZ.out]; rfl) (fun V hV => by rw [HZ.out] at hV; cases hV)⟩
    | some V1 =>
      have HC := Lib.hid ((S3.out).come_yes hc1 (by have := HB.out.1; have := HB.out.2.2.2; omega))
      go_wp2_with fail
      refine HC.out.mono ?_
      rintro e w4 ⟨rfl, hm1, ho1⟩
      obtain ⟨vw4, hm1, hg1⟩ := hm1
      have hok1 := (((S3.out).ok.le (Nat.le_refl _) (show H ≤ H + 1000001 by omega)).came (p + 1) h1 t ⟨hn0, by have := HN0.out.1; omega⟩ (by exact HB.out.2.2.1) hc1)
      have S4 : Hid (StB w4 P vw4 vr V1 l (H + 1000001)) := Lib.hid ⟨hm1, hok1.1, (S3.out).l, (S3.out).n, (S3.out).fn, ⟨by have := (S3.out).h.1; omega, hH⟩⟩
      have X4 := Lib.hid ((X3.out).goes_w ho1 hg1)
      have HB4 : Hid (Below P.B w w4) := Lib.hid ((HB3.out).trans ((S3.out).wk.below ho1))
      have HRW1 := Lib.hid hok1.2
      clear HC hm1 ho1 hg1 hok1 z0 z1 z2 z3 z4 u0 u1 u2
      obtain ⟨z0, z1, z2, z3, z4, u0, u1, u2⟩ := X4.out.cells
      cases hc2 : V1.come an h1 t with
      | none =>
        have HC := Lib.hid ((S4.out).come_no hc2 (by have := han; have := HB.out.2.2.2; omega))
        have HZ : Hid (R = none) := Lib.hid (by rw [HR.out]; simp [hc0, hc1, hc2])
        go_wp2_with fail
        refine HC.out.mono ?_
        rintro e w9 ⟨rfl, hb9⟩
        exact ⟨rfl, HS.out.post ((HB4.out).trans hb9) (by rw [HZ.out]; rfl) (fun V hV => by rw [HZ.out] at hV; cases hV)⟩
      | some V2 =>
        have HC := Lib.hid ((S4.out).come_yes hc2 (by have := han; have := HB.out.2.2.2; omega))
        go_wp2_with fail
        refine HC.out.mono ?_
        rintro e w5 ⟨rfl, hm2, ho2⟩
        have HZ : Hid (R = some V2) := Lib.hid (by rw [HR.out]; simp [hc0, hc1, hc2])
        have HE : Hid (StepPost P R pm N w (.returned (.tuple #[])) w5) := Lib.hid (HS.out.post ((HB4.out).trans ((S4.out).wk.below ho2)) (by rw [HZ.out]; rfl) (fun V hV => by rw [HZ.out] at hV; cases hV; obtain ⟨v', k1, _⟩ := hm2; exact ⟨v', _, k1⟩))
        clear HC hm2 ho2
        go_wp2_with fail
        (first | go_end0 | refine bodyPost_ret (results_none rfl _ _ _) rfl ?_)
        exact HE.out
end Go.Proofs.Ytimkiifcmegfeaa
/- code: step (written by cdstep2.py). -/
namespace Go.Proofs.Ytimkiifcmegfeaa
open Go.RowKit
set_option linter.unusedVariables false
set_option linter.unusedSimpArgs false
attribute [local go_sem] Oper.semAt_some
set_option maxRecDepth 20000 in
set_option maxHeartbeats 4000000 in
theorem step_17 (P : Pl) (vw vr : Value) (W : Wk) (l : Nat) (H : Int) (m pm N : Nat) (g : Int × Int) (cl : Cl) (gv : Value) (p : Nat) (h : Int) (t : Nat) (a b : Int) (c : Int) (tx : List UInt8) (w : World) (s : StM w P vw vr W l H m pm N g cl gv) (hx : W.at_[p]? = some (some (h, t))) (hH : H + 1000001 ≤ 1000000000000) (hl1 : l + 1 < 900000) (R : Option Wk)
    (hR : R = (W.take (decide (P.fn = 0)) (h, t) 1).bind fun _ => some W) :
    Calls Try.prog 65 #[.pointer (some ⟨P.gw, 0, none⟩), .int .i64 (p : Int), .agg #[.int .u8 17, .int .i64 a, .int .i64 b, .int .i64 c, .string (str tx)]] w (StepPost P R pm N w) := by
  obtain ⟨hs1, hs2, hs3⟩ := s.b.ok.ht p (h, t) hx
  have hpn : p < P.n := by rw [← s.b.ok.len]; exact (List.getElem?_eq_some_iff.1 hx).1
  have hn := s.b.n
  have hh : 0 ≤ h ∧ h ≤ 1000000000000 := ⟨hs1, by have h1 : h ≤ H := hs2; omega⟩
  have ht : t < W.rows.length := hs3
  have hhH : h ≤ H := hs2
  have hh1 := hh.1
  obtain ⟨q, hq⟩ : ∃ q, w.heap.size = q := ⟨_, rfl⟩
  obtain ⟨q1, hq1⟩ : ∃ q1, q + 1 = q1 := ⟨_, rfl⟩
  obtain ⟨w1, hw1⟩ : ∃ V, w.alloc (.cells #[.int .u8 17, .int .i64 a, .int .i64 b, .int .i64 c, .string (str tx)] 46) = V := ⟨_, rfl⟩
  obtain ⟨w2, hw2⟩ : ∃ V, w1.alloc (.cells #[.bool true, .int .i64 h, .int .i64 (t : Int)] 139) = V := ⟨_, rfl⟩
  obtain ⟨hb1, hb2, s1, bx⟩ := st_box 17 a b c h t (str tx) w w1 w2 q q1 hq hq1 hw1 hw2 s.b.wk
  have m1 := s.b.wk.bel hb1
  have d2 := m1.told.2.2.1
  have y0 : w1.cell? ⟨P.ga, p * 3, none⟩ = some (.bool true) := m1.place hx 0 _ rfl
  have y1 : w1.cell? ⟨P.ga, p * 3 + 1, none⟩ = some (.int .i64 h) := m1.place hx 1 _ rfl
  have y2 : w1.cell? ⟨P.ga, p * 3 + 2, none⟩ = some (.int .i64 (t : Int)) := m1.place hx 2 _ rfl
  have S2 := Lib.hid (s.bel hb2)
  obtain ⟨z0, z1, z2, z3, z4, u0, u1, u2⟩ := bx.cells
  have X2 := Lib.hid bx
  have HB2 := Lib.hid (hb2.mono s.b.big)
  have HW := Lib.hid (And.intro hw1 (And.intro hq (And.intro hw2 (And.intro s1 (And.intro hq1 hb2)))))
  have HB := Lib.hid (And.intro hpn (And.intro hh (And.intro ht hn)))
  have HR := Lib.hid hR
  have HS := Lib.hid s
  have HX := Lib.hid hx
  have c0 := S2.out.b.wk.told.1
  have c1 := S2.out.b.wk.told.2.1
  have HAN := Lib.hid (fun V => ask_no (.pointer (some ⟨P.gk, 0, none⟩)) V)
  have HAY := Lib.hid (fun V => ask_yes (.pointer (some ⟨P.gk, 0, none⟩)) V)
  clear hb1 hb2 s1 bx m1 hw1 hw2 hq hq1 hR s hx hs1 hs2 hs3
  go_enter Try.func65, Try.ntmps65
  go_upto_region 1 with fail
  (try rw [HW.out.1])
  (try rw [HW.out.2.1])
  go_upto_region 2 with fail
  (try rw [HW.out.2.2.1])
  (try rw [HW.out.2.2.2.1])
  clear d2 y0 y1 y2
  cases hc0 : W.take (decide (P.fn = 0)) (h, t) 1 with
  | none =>
    have HC := Lib.hid ((S2.out.b).take_no hc0 HB.out.2.2.1 HB.out.2.1 ⟨by omega, by omega⟩)
    have HZ : Hid (R = none) := Lib.hid (by rw [HR.out]; simp [hc0])
    go_wp2_with fail
    refine HC.out.mono ?_
    rintro e w9 ⟨rfl, hb9⟩
    exact ⟨rfl, HS.out.post ((HB2.out).trans (hb9.mono (S2.out.b).big)) (by rw [HZ.out]; rfl) (fun V hV => by rw [HZ.out] at hV; cases hV)⟩
  | some h1 =>
    obtain ⟨⟨he0, hn0⟩, hC⟩ := (S2.out.b).take_yes hc0 HB.out.2.2.1 HB.out.2.1 ⟨by omega, by omega⟩
    have HC := Lib.hid hC
    clear hC
    go_wp2_with fail
    refine HC.out.mono ?_
    rintro e w3 ⟨rfl, hb0⟩
    have S3 := Lib.hid ((S2.out.b).bel hb0)
    have X3 := Lib.hid ((X2.out).bel hb0)
    have HB3 : Hid (Below P.B w w3) := Lib.hid ((HB2.out).trans (hb0.mono (S2.out.b).big))
    have HN0 := Lib.hid (And.intro he0 hn0)
    clear HC hb0 z0 z1 z2 z3 z4 u0 u1 u2 c0 c1 he0
    obtain ⟨z0, z1, z2, z3, z4, u0, u1, u2⟩ := X3.out.cells
    have HZ : Hid (R = some W) := Lib.hid (by rw [HR.out]; simp [hc0])
    have HE : Hid (StepPost P R pm N w (.returned (.tuple #[])) w3) := Lib.hid (HS.out.post HB3.out (by rw [HZ.out]; rfl) (fun V hV => by rw [HZ.out] at hV; cases hV; exact ⟨_, _, S3.out.wk⟩))
    go_wp2_with fail
    (first | go_end0 | refine bodyPost_ret (results_none rfl _ _ _) rfl ?_)
    exact HE.out
end Go.Proofs.Ytimkiifcmegfeaa
/- code: step (written by cdstep2.py). -/
namespace Go.Proofs.Ytimkiifcmegfeaa
open Go.RowKit
set_option linter.unusedVariables false
set_option linter.unusedSimpArgs false
attribute [local go_sem] Oper.semAt_some
set_option maxRecDepth 20000 in
set_option maxHeartbeats 4000000 in
theorem step_8 (P : Pl) (vw vr : Value) (W : Wk) (l : Nat) (H : Int) (m pm N : Nat) (g : Int × Int) (cl : Cl) (gv : Value) (p : Nat) (h : Int) (t : Nat) (a b : Int) (c : Int) (tx : List UInt8) (w : World) (s : StM w P vw vr W l H m pm N g cl gv) (hx : W.at_[p]? = some (some (h, t))) (hH : H + 1000001 ≤ 1000000000000) (hl1 : l + 1 < 900000) (R : Option Wk)
    (hR : R = if decide (P.fn = 0) = false ∧ h = 2 ∧ t = 0 then some W else none) :
    Calls Try.prog 65 #[.pointer (some ⟨P.gw, 0, none⟩), .int .i64 (p : Int), .agg #[.int .u8 8, .int .i64 a, .int .i64 b, .int .i64 c, .string (str tx)]] w (StepPost P R pm N w) := by
  obtain ⟨hs1, hs2, hs3⟩ := s.b.ok.ht p (h, t) hx
  have hpn : p < P.n := by rw [← s.b.ok.len]; exact (List.getElem?_eq_some_iff.1 hx).1
  have hn := s.b.n
  have hh : 0 ≤ h ∧ h ≤ 1000000000000 := ⟨hs1, by have h1 : h ≤ H := hs2; omega⟩
  have ht : t < W.rows.length := hs3
  have hhH : h ≤ H := hs2
  have hh1 := hh.1
  obtain ⟨q, hq⟩ : ∃ q, w.heap.size = q := ⟨_, rfl⟩
  obtain ⟨q1, hq1⟩ : ∃ q1, q + 1 = q1 := ⟨_, rfl⟩
  obtain ⟨w1, hw1⟩ : ∃ V, w.alloc (.cells #[.int .u8 8, .int .i64 a, .int .i64 b, .int .i64 c, .string (str tx)] 46) = V := ⟨_, rfl⟩
  obtain ⟨w2, hw2⟩ : ∃ V, w1.alloc (.cells #[.bool true, .int .i64 h, .int .i64 (t : Int)] 139) = V := ⟨_, rfl⟩
  obtain ⟨hb1, hb2, s1, bx⟩ := st_box 8 a b c h t (str tx) w w1 w2 q q1 hq hq1 hw1 hw2 s.b.wk
  have m1 := s.b.wk.bel hb1
  have d2 := m1.told.2.2.1
  have y0 : w1.cell? ⟨P.ga, p * 3, none⟩ = some (.bool true) := m1.place hx 0 _ rfl
  have y1 : w1.cell? ⟨P.ga, p * 3 + 1, none⟩ = some (.int .i64 h) := m1.place hx 1 _ rfl
  have y2 : w1.cell? ⟨P.ga, p * 3 + 2, none⟩ = some (.int .i64 (t : Int)) := m1.place hx 2 _ rfl
  have S2 := Lib.hid (s.bel hb2)
  obtain ⟨z0, z1, z2, z3, z4, u0, u1, u2⟩ := bx.cells
  have X2 := Lib.hid bx
  have HB2 := Lib.hid (hb2.mono s.b.big)
  have HW := Lib.hid (And.intro hw1 (And.intro hq (And.intro hw2 (And.intro s1 (And.intro hq1 hb2)))))
  have HB := Lib.hid (And.intro hpn (And.intro hh (And.intro ht hn)))
  have HR := Lib.hid hR
  have HS := Lib.hid s
  have HX := Lib.hid hx
  have c0 := S2.out.b.wk.told.1
  have c1 := S2.out.b.wk.told.2.1
  have HAN := Lib.hid (fun V => ask_no (.pointer (some ⟨P.gk, 0, none⟩)) V)
  have HAY := Lib.hid (fun V => ask_yes (.pointer (some ⟨P.gk, 0, none⟩)) V)
  clear hb1 hb2 s1 bx m1 hw1 hw2 hq hq1 hR s hx hs1 hs2 hs3
  go_enter Try.func65, Try.ntmps65
  go_upto_region 1 with fail
  (try rw [HW.out.1])
  (try rw [HW.out.2.1])
  go_upto_region 2 with fail
  (try rw [HW.out.2.2.1])
  (try rw [HW.out.2.2.2.1])
  clear d2 y0 y1 y2
  by_cases hq0 : ¬ P.fn = 0
  · have e0 : ((P.fn : Int) != 0) = true := by rw [bne_iff_ne]; omega
    by_cases hq1 : h = 2
    · have e1 : (h == 2) = true := by rw [hq1]; rfl
      by_cases hq2 : t = 0
      · have e2 : ((t : Int) == 0) = true := by rw [hq2]; rfl
        go_wp2_with fail
        go_region_held3 (fun V => (V.cell? ⟨P.gw, 0, none⟩ = some (.pointer (some ⟨P.gk, 0, none⟩)) ∧ V.cell? ⟨P.gw, 1, none⟩ = some (.int .i64 (P.fn : Int))) ∧ V.cell? ⟨q1, 1, none⟩ = some (.int .i64 h) ∧ V.cell? ⟨q1, 2, none⟩ = some (.int .i64 (t : Int)))
          (first | exact (by have k0 := S2.out.bel ((Below.refl _ _).drew); have k1 := (X2.out.bel ((Below.refl _ _).drew)).cells; exact ⟨⟨k0.b.wk.told.1, k0.b.wk.told.2.1⟩, k1.2.2.2.2.2.2.1, k1.2.2.2.2.2.2.2⟩))
          (first | (go_at_call 39; refine (HAY.out _).mono ?_; rintro e w8 ⟨rfl, rfl⟩))
        have HZ : Hid (R = some W) := Lib.hid (by rw [HR.out]; simp [hq0, hq1, hq2])
        have HE : Hid (StepPost P R pm N w (.returned (.tuple #[])) w2.drew) := Lib.hid (HS.out.post HB2.out.drew (by rw [HZ.out]; rfl) (fun V hV => by rw [HZ.out] at hV; cases hV; exact ⟨_, _, S2.out.b.wk.bel ((Below.refl _ _).drew)⟩))
        go_wp2_with fail
        (first | go_end0 | refine bodyPost_ret (results_none rfl _ _ _) rfl ?_)
        exact HE.out
      · have e2 : ((t : Int) == 0) = false := by rw [beq_eq_false_iff_ne]; omega
        have HZ : Hid (R = none) := Lib.hid (by rw [HR.out]; simp [hq0, hq1, hq2])
        go_wp2_with fail
        refine wp_region_held_drew (S := (fun V => (V.cell? ⟨P.gw, 0, none⟩ = some (.pointer (some ⟨P.gk, 0, none⟩)) ∧ V.cell? ⟨P.gw, 1, none⟩ = some (.int .i64 (P.fn : Int))) ∧ V.cell? ⟨q1, 1, none⟩ = some (.int .i64 h) ∧ V.cell? ⟨q1, 2, none⟩ = some (.int .i64 (t : Int)))) (by kernel_rfl) (by have k0 := S2.out.bel ((Below.refl _ _).drew); have k1 := (X2.out.bel ((Below.refl _ _).drew)).cells; exact ⟨⟨k0.b.wk.told.1, k0.b.wk.told.2.1⟩, k1.2.2.2.2.2.2.1, k1.2.2.2.2.2.2.2⟩) (fun hHeld => ?_)
        refine takeY 0 (some 40) rfl rfl (by kernel_rfl) (by kernel_rfl) (by kernel_rfl) (fun _ _ _ h => h) (by rfl) (v := _) (by (intro _ hSw; (try dsimp only at hSw); go_simp; try with_reducible rfl)) hHeld ?_
        simp only [Act.put, List.setIfInBounds_toArray, List.set_cons_zero, List.set_cons_succ]
        refine takeY 1 (some 41) rfl rfl (by kernel_rfl) (by kernel_rfl) (by kernel_rfl) (fun _ _ _ h => h) (by rfl) (v := _) (by (intro _ hSw; (try dsimp only at hSw); go_simp; try with_reducible rfl)) hHeld ?_
        simp only [Act.put, List.setIfInBounds_toArray, List.set_cons_zero, List.set_cons_succ]
        refine takeY 2 (some 42) rfl rfl (by kernel_rfl) (by kernel_rfl) (by kernel_rfl) (fun _ _ _ h => h) (by rfl) (v := _) (by (intro _ hSw; (try dsimp only at hSw); go_simp; try with_reducible rfl)) hHeld ?_
        simp only [Act.put, List.setIfInBounds_toArray, List.set_cons_zero, List.set_cons_succ]
        refine takeY 3 (some 43) rfl rfl (by kernel_rfl) (by kernel_rfl) (by kernel_rfl) (fun _ _ _ h => h) (by rfl) (v := _) (by (intro _ hSw; (try dsimp only at hSw); go_simp; try with_reducible rfl)) hHeld ?_
        simp only [Act.put, List.setIfInBounds_toArray, List.set_cons_zero, List.set_cons_succ]
        refine takeY 4 (some 44) rfl rfl (by kernel_rfl) (by kernel_rfl) (by kernel_rfl) (fun _ _ _ h => h) (by rfl) (v := _) (by (intro _ hSw; (try dsimp only at hSw); go_simp; try with_reducible rfl)) hHeld ?_
        simp only [Act.put, List.setIfInBounds_toArray, List.set_cons_zero, List.set_cons_succ]
        refine takeY 5 (some 45) rfl rfl (by kernel_rfl) (by kernel_rfl) (by kernel_rfl) (fun _ _ _ h => h) (by rfl) (v := _) (by (intro _ hSw; (try dsimp only at hSw); go_simp; try with_reducible rfl)) hHeld ?_
        simp only [Act.put, List.setIfInBounds_toArray, List.set_cons_zero, List.set_cons_succ]
        refine takeY 6 (some 46) rfl rfl (by kernel_rfl) (by kernel_rfl) (by kernel_rfl) (fun _ _ _ h => h) (by rfl) (v := _) (by (intro _ hSw; (try dsimp only at hSw); go_simp; try with_reducible rfl)) hHeld ?_
        simp only [Act.put, List.setIfInBounds_toArray, List.set_cons_zero, List.set_cons_succ]
        refine takeY 7 (some 47) rfl rfl (by kernel_rfl) (by kernel_rfl) (by kernel_rfl) (fun _ _ _ h => h) (by rfl) (v := _) (by (intro _ hSw; (try dsimp only at hSw); go_simp; try with_reducible rfl)) hHeld ?_
        simp only [Act.put, List.setIfInBounds_toArray, List.set_cons_zero, List.set_cons_succ]
        refine takeY 8 (some 48) rfl rfl (by kernel_rfl) (by kernel_rfl) (by kernel_rfl) (fun _ _ _ h => h) (by rfl) (v := _) (by (intro _ hSw; (try dsimp only at hSw); go_simp; try with_reducible rfl)) hHeld ?_
        simp only [Act.put, List.setIfInBounds_toArray, List.set_cons_zero, List.set_cons_succ]
        refine takeY 9 (some 49) rfl rfl (by kernel_rfl) (by kernel_rfl) (by kernel_rfl) (fun _ _ _ h => h) (by rfl) (v := _) (by (intro _ hSw; (try dsimp only at hSw); go_simp; try with_reducible rfl)) hHeld ?_
        simp only [Act.put, List.setIfInBounds_toArray, List.set_cons_zero, List.set_cons_succ]
        refine takeY 10 (some 50) rfl rfl (by kernel_rfl) (by kernel_rfl) (by kernel_rfl) (fun _ _ _ h => h) (by rfl) (v := _) (by (intro _ hSw; (try dsimp only at hSw); go_simp; try with_reducible rfl)) hHeld ?_
        simp only [Act.put, List.setIfInBounds_toArray, List.set_cons_zero, List.set_cons_succ]
        refine takeY 11 (some 51) rfl rfl (by kernel_rfl) (by kernel_rfl) (by kernel_rfl) (fun _ _ _ h => h) (by rfl) (v := _) (by (intro _ hSw; (try dsimp only at hSw); go_simp; try with_reducible rfl)) hHeld ?_
        simp only [Act.put, List.setIfInBounds_toArray, List.set_cons_zero, List.set_cons_succ]
        refine takeY 12 (some 52) rfl rfl (by kernel_rfl) (by kernel_rfl) (by kernel_rfl) (fun _ _ _ h => h) (by rfl) (v := _) (by (intro _ hSw; (try dsimp only at hSw); go_simp; try with_reducible rfl)) hHeld ?_
        simp only [Act.put, List.setIfInBounds_toArray, List.set_cons_zero, List.set_cons_succ]
        refine takeY 13 (some 53) rfl rfl (by kernel_rfl) (by kernel_rfl) (by kernel_rfl) (fun _ _ _ h => h) (by rfl) (v := _) (by (intro _ hSw; (try dsimp only at hSw); go_simp; try with_reducible rfl)) hHeld ?_
        simp only [Act.put, List.setIfInBounds_toArray, List.set_cons_zero, List.set_cons_succ]
        refine takeY 14 (some 54) rfl rfl (by kernel_rfl) (by kernel_rfl) (by kernel_rfl) (fun _ _ _ h => h) (by rfl) (v := _) (by (intro _ hSw; (try dsimp only at hSw); go_simp; try with_reducible rfl)) hHeld ?_
        simp only [Act.put, List.setIfInBounds_toArray, List.set_cons_zero, List.set_cons_succ]
        refine takeY 15 (some 55) rfl rfl (by kernel_rfl) (by kernel_rfl) (by kernel_rfl) (fun _ _ _ h => h) (by rfl) (v := _) (by (intro _ hSw; (try dsimp only at hSw); go_simp; try with_reducible rfl)) hHeld ?_
        simp only [Act.put, List.setIfInBounds_toArray, List.set_cons_zero, List.set_cons_succ]
        refine takeY 16 (some 56) rfl rfl (by kernel_rfl) (by kernel_rfl) (by kernel_rfl) (fun _ _ _ h => h) (by rfl) (v := _) (by (intro _ hSw; (try dsimp only at hSw); go_simp; try with_reducible rfl)) hHeld ?_
        simp only [Act.put, List.setIfInBounds_toArray, List.set_cons_zero, List.set_cons_succ]
        refine takeY 17 (some 57) rfl rfl (by kernel_rfl) (by kernel_rfl) (by kernel_rfl) (fun _ _ _ h => h) (by rfl) (v := _) (by (intro _ hSw; (try dsimp only at hSw); go_simp; try with_reducible rfl)) hHeld ?_
        simp only [Act.put, List.setIfInBounds_toArray, List.set_cons_zero, List.set_cons_succ]
        refine takeY 18 (some 58) rfl rfl (by kernel_rfl) (by kernel_rfl) (by kernel_rfl) (fun _ _ _ h => h) (by rfl) (v := _) (by (intro _ hSw; (try dsimp only at hSw); go_simp; try with_reducible rfl)) hHeld ?_
        simp only [Act.put, List.setIfInBounds_toArray, List.set_cons_zero, List.set_cons_succ]
        refine wpAnyH_ready (rs := [19]) (by kernel_rfl) (by simp) ?_
        refine AllReadyH.cons rfl (fun K hK => ?_) AllReadyH.nil
        clear hHeld
        go_simp
        (go_at_call 39; refine (HAN.out _).mono ?_; rintro e w8 ⟨rfl, rfl⟩)
        exact ⟨rfl, HS.out.post (HB2.out.drew) (by rw [HZ.out]; rfl) (fun V hV => by rw [HZ.out] at hV; cases hV)⟩
    · have e1 : (h == 2) = false := by rw [beq_eq_false_iff_ne]; exact hq1
      have HZ : Hid (R = none) := Lib.hid (by rw [HR.out]; simp [hq0, hq1])
      go_wp2_with fail
      refine wp_region_held_drew (S := (fun V => (V.cell? ⟨P.gw, 0, none⟩ = some (.pointer (some ⟨P.gk, 0, none⟩)) ∧ V.cell? ⟨P.gw, 1, none⟩ = some (.int .i64 (P.fn : Int))) ∧ V.cell? ⟨q1, 1, none⟩ = some (.int .i64 h) ∧ V.cell? ⟨q1, 2, none⟩ = some (.int .i64 (t : Int)))) (by kernel_rfl) (by have k0 := S2.out.bel ((Below.refl _ _).drew); have k1 := (X2.out.bel ((Below.refl _ _).drew)).cells; exact ⟨⟨k0.b.wk.told.1, k0.b.wk.told.2.1⟩, k1.2.2.2.2.2.2.1, k1.2.2.2.2.2.2.2⟩) (fun hHeld => ?_)
      refine takeY 0 (some 40) rfl rfl (by kernel_rfl) (by kernel_rfl) (by kernel_rfl) (fun _ _ _ h => h) (by rfl) (v := _) (by (intro _ hSw; (try dsimp only at hSw); go_simp; try with_reducible rfl)) hHeld ?_
      simp only [Act.put, List.setIfInBounds_toArray, List.set_cons_zero, List.set_cons_succ]
      refine takeY 1 (some 41) rfl rfl (by kernel_rfl) (by kernel_rfl) (by kernel_rfl) (fun _ _ _ h => h) (by rfl) (v := _) (by (intro _ hSw; (try dsimp only at hSw); go_simp; try with_reducible rfl)) hHeld ?_
      simp only [Act.put, List.setIfInBounds_toArray, List.set_cons_zero, List.set_cons_succ]
      refine takeY 2 (some 42) rfl rfl (by kernel_rfl) (by kernel_rfl) (by kernel_rfl) (fun _ _ _ h => h) (by rfl) (v := _) (by (intro _ hSw; (try dsimp only at hSw); go_simp; try with_reducible rfl)) hHeld ?_
      simp only [Act.put, List.setIfInBounds_toArray, List.set_cons_zero, List.set_cons_succ]
      refine takeY 3 (some 43) rfl rfl (by kernel_rfl) (by kernel_rfl) (by kernel_rfl) (fun _ _ _ h => h) (by rfl) (v := _) (by (intro _ hSw; (try dsimp only at hSw); go_simp; try with_reducible rfl)) hHeld ?_
      simp only [Act.put, List.setIfInBounds_toArray, List.set_cons_zero, List.set_cons_succ]
      refine takeY 4 (some 44) rfl rfl (by kernel_rfl) (by kernel_rfl) (by kernel_rfl) (fun _ _ _ h => h) (by rfl) (v := _) (by (intro _ hSw; (try dsimp only at hSw); go_simp; try with_reducible rfl)) hHeld ?_
      simp only [Act.put, List.setIfInBounds_toArray, List.set_cons_zero, List.set_cons_succ]
      refine takeY 5 (some 45) rfl rfl (by kernel_rfl) (by kernel_rfl) (by kernel_rfl) (fun _ _ _ h => h) (by rfl) (v := _) (by (intro _ hSw; (try dsimp only at hSw); go_simp; try with_reducible rfl)) hHeld ?_
      simp only [Act.put, List.setIfInBounds_toArray, List.set_cons_zero, List.set_cons_succ]
      refine takeY 6 (some 46) rfl rfl (by kernel_rfl) (by kernel_rfl) (by kernel_rfl) (fun _ _ _ h => h) (by rfl) (v := _) (by (intro _ hSw; (try dsimp only at hSw); go_simp; try with_reducible rfl)) hHeld ?_
      simp only [Act.put, List.setIfInBounds_toArray, List.set_cons_zero, List.set_cons_succ]
      refine takeY 7 (some 47) rfl rfl (by kernel_rfl) (by kernel_rfl) (by kernel_rfl) (fun _ _ _ h => h) (by rfl) (v := _) (by (intro _ hSw; (try dsimp only at hSw); go_simp; try with_reducible rfl)) hHeld ?_
      simp only [Act.put, List.setIfInBounds_toArray, List.set_cons_zero, List.set_cons_succ]
      refine takeY 8 (some 48) rfl rfl (by kernel_rfl) (by kernel_rfl) (by kernel_rfl) (fun _ _ _ h => h) (by rfl) (v := _) (by (intro _ hSw; (try dsimp only at hSw); go_simp; try with_reducible rfl)) hHeld ?_
      simp only [Act.put, List.setIfInBounds_toArray, List.set_cons_zero, List.set_cons_succ]
      refine takeY 9 (some 49) rfl rfl (by kernel_rfl) (by kernel_rfl) (by kernel_rfl) (fun _ _ _ h => h) (by rfl) (v := _) (by (intro _ hSw; (try dsimp only at hSw); go_simp; try with_reducible rfl)) hHeld ?_
      simp only [Act.put, List.setIfInBounds_toArray, List.set_cons_zero, List.set_cons_succ]
      refine takeY 10 (some 50) rfl rfl (by kernel_rfl) (by kernel_rfl) (by kernel_rfl) (fun _ _ _ h => h) (by rfl) (v := _) (by (intro _ hSw; (try dsimp only at hSw); go_simp; try with_reducible rfl)) hHeld ?_
      simp only [Act.put, List.setIfInBounds_toArray, List.set_cons_zero, List.set_cons_succ]
      refine takeY 11 (some 51) rfl rfl (by kernel_rfl) (by kernel_rfl) (by kernel_rfl) (fun _ _ _ h => h) (by rfl) (v := _) (by (intro _ hSw; (try dsimp only at hSw); go_simp; try with_reducible rfl)) hHeld ?_
      simp only [Act.put, List.setIfInBounds_toArray, List.set_cons_zero, List.set_cons_succ]
      refine takeY 12 (some 52) rfl rfl (by kernel_rfl) (by kernel_rfl) (by kernel_rfl) (fun _ _ _ h => h) (by rfl) (v := _) (by (intro _ hSw; (try dsimp only at hSw); go_simp; try with_reducible rfl)) hHeld ?_
      simp only [Act.put, List.setIfInBounds_toArray, List.set_cons_zero, List.set_cons_succ]
      refine takeY 13 (some 53) rfl rfl (by kernel_rfl) (by kernel_rfl) (by kernel_rfl) (fun _ _ _ h => h) (by rfl) (v := _) (by (intro _ hSw; (try dsimp only at hSw); go_simp; try with_reducible rfl)) hHeld ?_
      simp only [Act.put, List.setIfInBounds_toArray, List.set_cons_zero, List.set_cons_succ]
      refine takeY 14 (some 54) rfl rfl (by kernel_rfl) (by kernel_rfl) (by kernel_rfl) (fun _ _ _ h => h) (by rfl) (v := _) (by (intro _ hSw; (try dsimp only at hSw); go_simp; try with_reducible rfl)) hHeld ?_
      simp only [Act.put, List.setIfInBounds_toArray, List.set_cons_zero, List.set_cons_succ]
      refine takeN 15 (some 55) rfl rfl (by kernel_rfl) (by kernel_rfl) (by kernel_rfl) (fun _ _ _ h => h) (by rfl) hHeld ?_
      simp only [Act.put, List.setIfInBounds_toArray, List.set_cons_zero, List.set_cons_succ]
      refine takeN 16 (some 56) rfl rfl (by kernel_rfl) (by kernel_rfl) (by kernel_rfl) (fun _ _ _ h => h) (by rfl) hHeld ?_
      simp only [Act.put, List.setIfInBounds_toArray, List.set_cons_zero, List.set_cons_succ]
      refine takeN 17 (some 57) rfl rfl (by kernel_rfl) (by kernel_rfl) (by kernel_rfl) (fun _ _ _ h => h) (by rfl) hHeld ?_
      simp only [Act.put, List.setIfInBounds_toArray, List.set_cons_zero, List.set_cons_succ]
      refine takeY 18 (some 58) rfl rfl (by kernel_rfl) (by kernel_rfl) (by kernel_rfl) (fun _ _ _ h => h) (by rfl) (v := _) (by (intro _ hSw; (try dsimp only at hSw); go_simp; try with_reducible rfl)) hHeld ?_
      simp only [Act.put, List.setIfInBounds_toArray, List.set_cons_zero, List.set_cons_succ]
      refine wpAnyH_ready (rs := [19]) (by kernel_rfl) (by simp) ?_
      refine AllReadyH.cons rfl (fun K hK => ?_) AllReadyH.nil
      clear hHeld
      go_simp
      (go_at_call 39; refine (HAN.out _).mono ?_; rintro e w8 ⟨rfl, rfl⟩)
      exact ⟨rfl, HS.out.post (HB2.out.drew) (by rw [HZ.out]; rfl) (fun V hV => by rw [HZ.out] at hV; cases hV)⟩
  · have e0 : ((P.fn : Int) != 0) = false := by rw [Classical.not_not.1 hq0]; rfl
    have HZ : Hid (R = none) := Lib.hid (by rw [HR.out]; simp [hq0])
    go_wp2_with fail
    refine wp_region_held_drew (S := (fun V => (V.cell? ⟨P.gw, 0, none⟩ = some (.pointer (some ⟨P.gk, 0, none⟩)) ∧ V.cell? ⟨P.gw, 1, none⟩ = some (.int .i64 (P.fn : Int))) ∧ V.cell? ⟨q1, 1, none⟩ = some (.int .i64 h) ∧ V.cell? ⟨q1, 2, none⟩ = some (.int .i64 (t : Int)))) (by kernel_rfl) (by have k0 := S2.out.bel ((Below.refl _ _).drew); have k1 := (X2.out.bel ((Below.refl _ _).drew)).cells; exact ⟨⟨k0.b.wk.told.1, k0.b.wk.told.2.1⟩, k1.2.2.2.2.2.2.1, k1.2.2.2.2.2.2.2⟩) (fun hHeld => ?_)
    refine takeY 0 (some 40) rfl rfl (by kernel_rfl) (by kernel_rfl) (by kernel_rfl) (fun _ _ _ h => h) (by rfl) (v := _) (by (intro _ hSw; (try dsimp only at hSw); go_simp; try with_reducible rfl)) hHeld ?_
    simp only [Act.put, List.setIfInBounds_toArray, List.set_cons_zero, List.set_cons_succ]
    refine takeY 1 (some 41) rfl rfl (by kernel_rfl) (by kernel_rfl) (by kernel_rfl) (fun _ _ _ h => h) (by rfl) (v := _) (by (intro _ hSw; (try dsimp only at hSw); go_simp; try with_reducible rfl)) hHeld ?_
    simp only [Act.put, List.setIfInBounds_toArray, List.set_cons_zero, List.set_cons_succ]
    refine takeY 2 (some 42) rfl rfl (by kernel_rfl) (by kernel_rfl) (by kernel_rfl) (fun _ _ _ h => h) (by rfl) (v := _) (by (intro _ hSw; (try dsimp only at hSw); go_simp; try with_reducible rfl)) hHeld ?_
    simp only [Act.put, List.setIfInBounds_toArray, List.set_cons_zero, List.set_cons_succ]
    refine takeY 3 (some 43) rfl rfl (by kernel_rfl) (by kernel_rfl) (by kernel_rfl) (fun _ _ _ h => h) (by rfl) (v := _) (by (intro _ hSw; (try dsimp only at hSw); go_simp; try with_reducible rfl)) hHeld ?_
    simp only [Act.put, List.setIfInBounds_toArray, List.set_cons_zero, List.set_cons_succ]
    refine takeY 4 (some 44) rfl rfl (by kernel_rfl) (by kernel_rfl) (by kernel_rfl) (fun _ _ _ h => h) (by rfl) (v := _) (by (intro _ hSw; (try dsimp only at hSw); go_simp; try with_reducible rfl)) hHeld ?_
    simp only [Act.put, List.setIfInBounds_toArray, List.set_cons_zero, List.set_cons_succ]
    refine takeY 5 (some 45) rfl rfl (by kernel_rfl) (by kernel_rfl) (by kernel_rfl) (fun _ _ _ h => h) (by rfl) (v := _) (by (intro _ hSw; (try dsimp only at hSw); go_simp; try with_reducible rfl)) hHeld ?_
    simp only [Act.put, List.setIfInBounds_toArray, List.set_cons_zero, List.set_cons_succ]
    refine takeY 6 (some 46) rfl rfl (by kernel_rfl) (by kernel_rfl) (by kernel_rfl) (fun _ _ _ h => h) (by rfl) (v := _) (by (intro _ hSw; (try dsimp only at hSw); go_simp; try with_reducible rfl)) hHeld ?_
    simp only [Act.put, List.setIfInBounds_toArray, List.set_cons_zero, List.set_cons_succ]
    refine takeY 7 (some 47) rfl rfl (by kernel_rfl) (by kernel_rfl) (by kernel_rfl) (fun _ _ _ h => h) (by rfl) (v := _) (by (intro _ hSw; (try dsimp only at hSw); go_simp; try with_reducible rfl)) hHeld ?_
    simp only [Act.put, List.setIfInBounds_toArray, List.set_cons_zero, List.set_cons_succ]
    refine takeY 8 (some 48) rfl rfl (by kernel_rfl) (by kernel_rfl) (by kernel_rfl) (fun _ _ _ h => h) (by rfl) (v := _) (by (intro _ hSw; (try dsimp only at hSw); go_simp; try with_reducible rfl)) hHeld ?_
    simp only [Act.put, List.setIfInBounds_toArray, List.set_cons_zero, List.set_cons_succ]
    refine takeY 9 (some 49) rfl rfl (by kernel_rfl) (by kernel_rfl) (by kernel_rfl) (fun _ _ _ h => h) (by rfl) (v := _) (by (intro _ hSw; (try dsimp only at hSw); go_simp; try with_reducible rfl)) hHeld ?_
    simp only [Act.put, List.setIfInBounds_toArray, List.set_cons_zero, List.set_cons_succ]
    refine takeN 10 (some 50) rfl rfl (by kernel_rfl) (by kernel_rfl) (by kernel_rfl) (fun _ _ _ h => h) (by rfl) hHeld ?_
    simp only [Act.put, List.setIfInBounds_toArray, List.set_cons_zero, List.set_cons_succ]
    refine takeN 11 (some 51) rfl rfl (by kernel_rfl) (by kernel_rfl) (by kernel_rfl) (fun _ _ _ h => h) (by rfl) hHeld ?_
    simp only [Act.put, List.setIfInBounds_toArray, List.set_cons_zero, List.set_cons_succ]
    refine takeN 12 (some 52) rfl rfl (by kernel_rfl) (by kernel_rfl) (by kernel_rfl) (fun _ _ _ h => h) (by rfl) hHeld ?_
    simp only [Act.put, List.setIfInBounds_toArray, List.set_cons_zero, List.set_cons_succ]
    refine takeY 13 (some 53) rfl rfl (by kernel_rfl) (by kernel_rfl) (by kernel_rfl) (fun _ _ _ h => h) (by rfl) (v := _) (by (intro _ hSw; (try dsimp only at hSw); go_simp; try with_reducible rfl)) hHeld ?_
    simp only [Act.put, List.setIfInBounds_toArray, List.set_cons_zero, List.set_cons_succ]
    refine takeY 14 (some 54) rfl rfl (by kernel_rfl) (by kernel_rfl) (by kernel_rfl) (fun _ _ _ h => h) (by rfl) (v := _) (by (intro _ hSw; (try dsimp only at hSw); go_simp; try with_reducible rfl)) hHeld ?_
    simp only [Act.put, List.setIfInBounds_toArray, List.set_cons_zero, List.set_cons_succ]
    refine takeN 15 (some 55) rfl rfl (by kernel_rfl) (by kernel_rfl) (by kernel_rfl) (fun _ _ _ h => h) (by rfl) hHeld ?_
    simp only [Act.put, List.setIfInBounds_toArray, List.set_cons_zero, List.set_cons_succ]
    refine takeN 16 (some 56) rfl rfl (by kernel_rfl) (by kernel_rfl) (by kernel_rfl) (fun _ _ _ h => h) (by rfl) hHeld ?_
    simp only [Act.put, List.setIfInBounds_toArray, List.set_cons_zero, List.set_cons_succ]
    refine takeN 17 (some 57) rfl rfl (by kernel_rfl) (by kernel_rfl) (by kernel_rfl) (fun _ _ _ h => h) (by rfl) hHeld ?_
    simp only [Act.put, List.setIfInBounds_toArray, List.set_cons_zero, List.set_cons_succ]
    refine takeY 18 (some 58) rfl rfl (by kernel_rfl) (by kernel_rfl) (by kernel_rfl) (fun _ _ _ h => h) (by rfl) (v := _) (by (intro _ hSw; (try dsimp only at hSw); go_simp; try with_reducible rfl)) hHeld ?_
    simp only [Act.put, List.setIfInBounds_toArray, List.set_cons_zero, List.set_cons_succ]
    refine wpAnyH_ready (rs := [19]) (by kernel_rfl) (by simp) ?_
    refine AllReadyH.cons rfl (fun K hK => ?_) AllReadyH.nil
    clear hHeld
    go_simp
    (go_at_call 39; refine (HAN.out _).mono ?_; rintro e w8 ⟨rfl, rfl⟩)
    exact ⟨rfl, HS.out.post (HB2.out.drew) (by rw [HZ.out]; rfl) (fun V hV => by rw [HZ.out] at hV; cases hV)⟩
end Go.Proofs.Ytimkiifcmegfeaa
/- code: step (written by cdstep2.py). -/
namespace Go.Proofs.Ytimkiifcmegfeaa
open Go.RowKit
set_option linter.unusedVariables false
set_option linter.unusedSimpArgs false
attribute [local go_sem] Oper.semAt_some
set_option maxRecDepth 20000 in
set_option maxHeartbeats 4000000 in
theorem step_25 (P : Pl) (vw vr : Value) (W : Wk) (l : Nat) (H : Int) (m pm N : Nat) (g : Int × Int) (cl : Cl) (gv : Value) (p : Nat) (h : Int) (t : Nat) (a b : Int) (c : Int) (tx : List UInt8) (w : World) (s : StM w P vw vr W l H m pm N g cl gv) (hx : W.at_[p]? = some (some (h, t))) (hH : H + 1000001 ≤ 1000000000000) (hl1 : l + 1 < 900000) (R : Option Wk)
    (hR : R = if decide (P.fn = 0) = true ∧ t = 0 then some W else none) :
    Calls Try.prog 65 #[.pointer (some ⟨P.gw, 0, none⟩), .int .i64 (p : Int), .agg #[.int .u8 25, .int .i64 a, .int .i64 b, .int .i64 c, .string (str tx)]] w (StepPost P R pm N w) := by
  obtain ⟨hs1, hs2, hs3⟩ := s.b.ok.ht p (h, t) hx
  have hpn : p < P.n := by rw [← s.b.ok.len]; exact (List.getElem?_eq_some_iff.1 hx).1
  have hn := s.b.n
  have hh : 0 ≤ h ∧ h ≤ 1000000000000 := ⟨hs1, by have h1 : h ≤ H := hs2; omega⟩
  have ht : t < W.rows.length := hs3
  have hhH : h ≤ H := hs2
  have hh1 := hh.1
  obtain ⟨q, hq⟩ : ∃ q, w.heap.size = q := ⟨_, rfl⟩
  obtain ⟨q1, hq1⟩ : ∃ q1, q + 1 = q1 := ⟨_, rfl⟩
  obtain ⟨w1, hw1⟩ : ∃ V, w.alloc (.cells #[.int .u8 25, .int .i64 a, .int .i64 b, .int .i64 c, .string (str tx)] 46) = V := ⟨_, rfl⟩
  obtain ⟨w2, hw2⟩ : ∃ V, w1.alloc (.cells #[.bool true, .int .i64 h, .int .i64 (t : Int)] 139) = V := ⟨_, rfl⟩
  obtain ⟨hb1, hb2, s1, bx⟩ := st_box 25 a b c h t (str tx) w w1 w2 q q1 hq hq1 hw1 hw2 s.b.wk
  have m1 := s.b.wk.bel hb1
  have d2 := m1.told.2.2.1
  have y0 : w1.cell? ⟨P.ga, p * 3, none⟩ = some (.bool true) := m1.place hx 0 _ rfl
  have y1 : w1.cell? ⟨P.ga, p * 3 + 1, none⟩ = some (.int .i64 h) := m1.place hx 1 _ rfl
  have y2 : w1.cell? ⟨P.ga, p * 3 + 2, none⟩ = some (.int .i64 (t : Int)) := m1.place hx 2 _ rfl
  have S2 := Lib.hid (s.bel hb2)
  obtain ⟨z0, z1, z2, z3, z4, u0, u1, u2⟩ := bx.cells
  have X2 := Lib.hid bx
  have HB2 := Lib.hid (hb2.mono s.b.big)
  have HW := Lib.hid (And.intro hw1 (And.intro hq (And.intro hw2 (And.intro s1 (And.intro hq1 hb2)))))
  have HB := Lib.hid (And.intro hpn (And.intro hh (And.intro ht hn)))
  have HR := Lib.hid hR
  have HS := Lib.hid s
  have HX := Lib.hid hx
  have c0 := S2.out.b.wk.told.1
  have c1 := S2.out.b.wk.told.2.1
  have HAN := Lib.hid (fun V => ask_no (.pointer (some ⟨P.gk, 0, none⟩)) V)
  have HAY := Lib.hid (fun V => ask_yes (.pointer (some ⟨P.gk, 0, none⟩)) V)
  clear hb1 hb2 s1 bx m1 hw1 hw2 hq hq1 hR s hx hs1 hs2 hs3
  go_enter Try.func65, Try.ntmps65
  go_upto_region 1 with fail
  (try rw [HW.out.1])
  (try rw [HW.out.2.1])
  go_upto_region 2 with fail
  (try rw [HW.out.2.2.1])
  (try rw [HW.out.2.2.2.1])
  clear d2 y0 y1 y2
  by_cases hq0 : P.fn = 0
  · have e0 : ((P.fn : Int) == 0) = true := by rw [hq0]; rfl
    by_cases hq1 : t = 0
    · have e2 : ((t : Int) == 0) = true := by rw [hq1]; rfl
      go_wp2_with fail
      go_region_held3 (fun V => (V.cell? ⟨P.gw, 0, none⟩ = some (.pointer (some ⟨P.gk, 0, none⟩)) ∧ V.cell? ⟨P.gw, 1, none⟩ = some (.int .i64 (P.fn : Int))) ∧ V.cell? ⟨q1, 1, none⟩ = some (.int .i64 h) ∧ V.cell? ⟨q1, 2, none⟩ = some (.int .i64 (t : Int)))
        (first | exact (by have k0 := S2.out.bel ((Below.refl _ _).drew); have k1 := (X2.out.bel ((Below.refl _ _).drew)).cells; exact ⟨⟨k0.b.wk.told.1, k0.b.wk.told.2.1⟩, k1.2.2.2.2.2.2.1, k1.2.2.2.2.2.2.2⟩))
        (first | (go_at_call 39; refine (HAY.out _).mono ?_; rintro e w8 ⟨rfl, rfl⟩))
      have HZ : Hid (R = some W) := Lib.hid (by rw [HR.out]; simp [hq0, hq1])
      have HE : Hid (StepPost P R pm N w (.returned (.tuple #[])) w2.drew) := Lib.hid (HS.out.post HB2.out.drew (by rw [HZ.out]; rfl) (fun V hV => by rw [HZ.out] at hV; cases hV; exact ⟨_, _, S2.out.b.wk.bel ((Below.refl _ _).drew)⟩))
      go_wp2_with fail
      (first | go_end0 | refine bodyPost_ret (results_none rfl _ _ _) rfl ?_)
      exact HE.out
    · have e2 : ((t : Int) == 0) = false := by rw [beq_eq_false_iff_ne]; omega
      have HZ : Hid (R = none) := Lib.hid (by rw [HR.out]; simp [hq0, hq1])
      go_wp2_with fail
      refine wp_region_held_drew (S := (fun V => (V.cell? ⟨P.gw, 0, none⟩ = some (.pointer (some ⟨P.gk, 0, none⟩)) ∧ V.cell? ⟨P.gw, 1, none⟩ = some (.int .i64 (P.fn : Int))) ∧ V.cell? ⟨q1, 1, none⟩ = some (.int .i64 h) ∧ V.cell? ⟨q1, 2, none⟩ = some (.int .i64 (t : Int)))) (by kernel_rfl) (by have k0 := S2.out.bel ((Below.refl _ _).drew); have k1 := (X2.out.bel ((Below.refl _ _).drew)).cells; exact ⟨⟨k0.b.wk.told.1, k0.b.wk.told.2.1⟩, k1.2.2.2.2.2.2.1, k1.2.2.2.2.2.2.2⟩) (fun hHeld => ?_)
      refine takeY 0 (some 62) rfl rfl (by kernel_rfl) (by kernel_rfl) (by kernel_rfl) (fun _ _ _ h => h) (by rfl) (v := _) (by (intro _ hSw; (try dsimp only at hSw); go_simp; try with_reducible rfl)) hHeld ?_
      simp only [Act.put, List.setIfInBounds_toArray, List.set_cons_zero, List.set_cons_succ]
      refine takeY 1 (some 63) rfl rfl (by kernel_rfl) (by kernel_rfl) (by kernel_rfl) (fun _ _ _ h => h) (by rfl) (v := _) (by (intro _ hSw; (try dsimp only at hSw); go_simp; try with_reducible rfl)) hHeld ?_
      simp only [Act.put, List.setIfInBounds_toArray, List.set_cons_zero, List.set_cons_succ]
      refine takeY 2 (some 64) rfl rfl (by kernel_rfl) (by kernel_rfl) (by kernel_rfl) (fun _ _ _ h => h) (by rfl) (v := _) (by (intro _ hSw; (try dsimp only at hSw); go_simp; try with_reducible rfl)) hHeld ?_
      simp only [Act.put, List.setIfInBounds_toArray, List.set_cons_zero, List.set_cons_succ]
      refine takeY 3 (some 65) rfl rfl (by kernel_rfl) (by kernel_rfl) (by kernel_rfl) (fun _ _ _ h => h) (by rfl) (v := _) (by (intro _ hSw; (try dsimp only at hSw); go_simp; try with_reducible rfl)) hHeld ?_
      simp only [Act.put, List.setIfInBounds_toArray, List.set_cons_zero, List.set_cons_succ]
      refine takeY 4 (some 66) rfl rfl (by kernel_rfl) (by kernel_rfl) (by kernel_rfl) (fun _ _ _ h => h) (by rfl) (v := _) (by (intro _ hSw; (try dsimp only at hSw); go_simp; try with_reducible rfl)) hHeld ?_
      simp only [Act.put, List.setIfInBounds_toArray, List.set_cons_zero, List.set_cons_succ]
      refine takeY 5 (some 67) rfl rfl (by kernel_rfl) (by kernel_rfl) (by kernel_rfl) (fun _ _ _ h => h) (by rfl) (v := _) (by (intro _ hSw; (try dsimp only at hSw); go_simp; try with_reducible rfl)) hHeld ?_
      simp only [Act.put, List.setIfInBounds_toArray, List.set_cons_zero, List.set_cons_succ]
      refine takeY 6 (some 68) rfl rfl (by kernel_rfl) (by kernel_rfl) (by kernel_rfl) (fun _ _ _ h => h) (by rfl) (v := _) (by (intro _ hSw; (try dsimp only at hSw); go_simp; try with_reducible rfl)) hHeld ?_
      simp only [Act.put, List.setIfInBounds_toArray, List.set_cons_zero, List.set_cons_succ]
      refine takeY 7 (some 69) rfl rfl (by kernel_rfl) (by kernel_rfl) (by kernel_rfl) (fun _ _ _ h => h) (by rfl) (v := _) (by (intro _ hSw; (try dsimp only at hSw); go_simp; try with_reducible rfl)) hHeld ?_
      simp only [Act.put, List.setIfInBounds_toArray, List.set_cons_zero, List.set_cons_succ]
      refine takeY 8 (some 70) rfl rfl (by kernel_rfl) (by kernel_rfl) (by kernel_rfl) (fun _ _ _ h => h) (by rfl) (v := _) (by (intro _ hSw; (try dsimp only at hSw); go_simp; try with_reducible rfl)) hHeld ?_
      simp only [Act.put, List.setIfInBounds_toArray, List.set_cons_zero, List.set_cons_succ]
      refine takeY 9 (some 71) rfl rfl (by kernel_rfl) (by kernel_rfl) (by kernel_rfl) (fun _ _ _ h => h) (by rfl) (v := _) (by (intro _ hSw; (try dsimp only at hSw); go_simp; try with_reducible rfl)) hHeld ?_
      simp only [Act.put, List.setIfInBounds_toArray, List.set_cons_zero, List.set_cons_succ]
      refine takeY 10 (some 72) rfl rfl (by kernel_rfl) (by kernel_rfl) (by kernel_rfl) (fun _ _ _ h => h) (by rfl) (v := _) (by (intro _ hSw; (try dsimp only at hSw); go_simp; try with_reducible rfl)) hHeld ?_
      simp only [Act.put, List.setIfInBounds_toArray, List.set_cons_zero, List.set_cons_succ]
      refine takeY 11 (some 73) rfl rfl (by kernel_rfl) (by kernel_rfl) (by kernel_rfl) (fun _ _ _ h => h) (by rfl) (v := _) (by (intro _ hSw; (try dsimp only at hSw); go_simp; try with_reducible rfl)) hHeld ?_
      simp only [Act.put, List.setIfInBounds_toArray, List.set_cons_zero, List.set_cons_succ]
      refine takeY 12 (some 74) rfl rfl (by kernel_rfl) (by kernel_rfl) (by kernel_rfl) (fun _ _ _ h => h) (by rfl) (v := _) (by (intro _ hSw; (try dsimp only at hSw); go_simp; try with_reducible rfl)) hHeld ?_
      simp only [Act.put, List.setIfInBounds_toArray, List.set_cons_zero, List.set_cons_succ]
      refine takeY 13 (some 75) rfl rfl (by kernel_rfl) (by kernel_rfl) (by kernel_rfl) (fun _ _ _ h => h) (by rfl) (v := _) (by (intro _ hSw; (try dsimp only at hSw); go_simp; try with_reducible rfl)) hHeld ?_
      simp only [Act.put, List.setIfInBounds_toArray, List.set_cons_zero, List.set_cons_succ]
      refine wpAnyH_ready (rs := [14]) (by kernel_rfl) (by simp) ?_
      refine AllReadyH.cons rfl (fun K hK => ?_) AllReadyH.nil
      clear hHeld
      go_simp
      (go_at_call 39; refine (HAN.out _).mono ?_; rintro e w8 ⟨rfl, rfl⟩)
      exact ⟨rfl, HS.out.post (HB2.out.drew) (by rw [HZ.out]; rfl) (fun V hV => by rw [HZ.out] at hV; cases hV)⟩
  · have e0 : ((P.fn : Int) == 0) = false := by rw [beq_eq_false_iff_ne]; omega
    have HZ : Hid (R = none) := Lib.hid (by rw [HR.out]; simp [hq0])
    go_wp2_with fail
    refine wp_region_held_drew (S := (fun V => (V.cell? ⟨P.gw, 0, none⟩ = some (.pointer (some ⟨P.gk, 0, none⟩)) ∧ V.cell? ⟨P.gw, 1, none⟩ = some (.int .i64 (P.fn : Int))) ∧ V.cell? ⟨q1, 1, none⟩ = some (.int .i64 h) ∧ V.cell? ⟨q1, 2, none⟩ = some (.int .i64 (t : Int)))) (by kernel_rfl) (by have k0 := S2.out.bel ((Below.refl _ _).drew); have k1 := (X2.out.bel ((Below.refl _ _).drew)).cells; exact ⟨⟨k0.b.wk.told.1, k0.b.wk.told.2.1⟩, k1.2.2.2.2.2.2.1, k1.2.2.2.2.2.2.2⟩) (fun hHeld => ?_)
    refine takeY 0 (some 62) rfl rfl (by kernel_rfl) (by kernel_rfl) (by kernel_rfl) (fun _ _ _ h => h) (by rfl) (v := _) (by (intro _ hSw; (try dsimp only at hSw); go_simp; try with_reducible rfl)) hHeld ?_
    simp only [Act.put, List.setIfInBounds_toArray, List.set_cons_zero, List.set_cons_succ]
    refine takeY 1 (some 63) rfl rfl (by kernel_rfl) (by kernel_rfl) (by kernel_rfl) (fun _ _ _ h => h) (by rfl) (v := _) (by (intro _ hSw; (try dsimp only at hSw); go_simp; try with_reducible rfl)) hHeld ?_
    simp only [Act.put, List.setIfInBounds_toArray, List.set_cons_zero, List.set_cons_succ]
    refine takeY 2 (some 64) rfl rfl (by kernel_rfl) (by kernel_rfl) (by kernel_rfl) (fun _ _ _ h => h) (by rfl) (v := _) (by (intro _ hSw; (try dsimp only at hSw); go_simp; try with_reducible rfl)) hHeld ?_
    simp only [Act.put, List.setIfInBounds_toArray, List.set_cons_zero, List.set_cons_succ]
    refine takeY 3 (some 65) rfl rfl (by kernel_rfl) (by kernel_rfl) (by kernel_rfl) (fun _ _ _ h => h) (by rfl) (v := _) (by (intro _ hSw; (try dsimp only at hSw); go_simp; try with_reducible rfl)) hHeld ?_
    simp only [Act.put, List.setIfInBounds_toArray, List.set_cons_zero, List.set_cons_succ]
    refine takeY 4 (some 66) rfl rfl (by kernel_rfl) (by kernel_rfl) (by kernel_rfl) (fun _ _ _ h => h) (by rfl) (v := _) (by (intro _ hSw; (try dsimp only at hSw); go_simp; try with_reducible rfl)) hHeld ?_
    simp only [Act.put, List.setIfInBounds_toArray, List.set_cons_zero, List.set_cons_succ]
    refine takeY 5 (some 67) rfl rfl (by kernel_rfl) (by kernel_rfl) (by kernel_rfl) (fun _ _ _ h => h) (by rfl) (v := _) (by (intro _ hSw; (try dsimp only at hSw); go_simp; try with_reducible rfl)) hHeld ?_
    simp only [Act.put, List.setIfInBounds_toArray, List.set_cons_zero, List.set_cons_succ]
    refine takeY 6 (some 68) rfl rfl (by kernel_rfl) (by kernel_rfl) (by kernel_rfl) (fun _ _ _ h => h) (by rfl) (v := _) (by (intro _ hSw; (try dsimp only at hSw); go_simp; try with_reducible rfl)) hHeld ?_
    simp only [Act.put, List.setIfInBounds_toArray, List.set_cons_zero, List.set_cons_succ]
    refine takeY 7 (some 69) rfl rfl (by kernel_rfl) (by kernel_rfl) (by kernel_rfl) (fun _ _ _ h => h) (by rfl) (v := _) (by (intro _ hSw; (try dsimp only at hSw); go_simp; try with_reducible rfl)) hHeld ?_
    simp only [Act.put, List.setIfInBounds_toArray, List.set_cons_zero, List.set_cons_succ]
    refine takeY 8 (some 70) rfl rfl (by kernel_rfl) (by kernel_rfl) (by kernel_rfl) (fun _ _ _ h => h) (by rfl) (v := _) (by (intro _ hSw; (try dsimp only at hSw); go_simp; try with_reducible rfl)) hHeld ?_
    simp only [Act.put, List.setIfInBounds_toArray, List.set_cons_zero, List.set_cons_succ]
    refine takeY 9 (some 71) rfl rfl (by kernel_rfl) (by kernel_rfl) (by kernel_rfl) (fun _ _ _ h => h) (by rfl) (v := _) (by (intro _ hSw; (try dsimp only at hSw); go_simp; try with_reducible rfl)) hHeld ?_
    simp only [Act.put, List.setIfInBounds_toArray, List.set_cons_zero, List.set_cons_succ]
    refine takeN 10 (some 72) rfl rfl (by kernel_rfl) (by kernel_rfl) (by kernel_rfl) (fun _ _ _ h => h) (by rfl) hHeld ?_
    simp only [Act.put, List.setIfInBounds_toArray, List.set_cons_zero, List.set_cons_succ]
    refine takeN 11 (some 73) rfl rfl (by kernel_rfl) (by kernel_rfl) (by kernel_rfl) (fun _ _ _ h => h) (by rfl) hHeld ?_
    simp only [Act.put, List.setIfInBounds_toArray, List.set_cons_zero, List.set_cons_succ]
    refine takeN 12 (some 74) rfl rfl (by kernel_rfl) (by kernel_rfl) (by kernel_rfl) (fun _ _ _ h => h) (by rfl) hHeld ?_
    simp only [Act.put, List.setIfInBounds_toArray, List.set_cons_zero, List.set_cons_succ]
    refine takeY 13 (some 75) rfl rfl (by kernel_rfl) (by kernel_rfl) (by kernel_rfl) (fun _ _ _ h => h) (by rfl) (v := _) (by (intro _ hSw; (try dsimp only at hSw); go_simp; try with_reducible rfl)) hHeld ?_
    simp only [Act.put, List.setIfInBounds_toArray, List.set_cons_zero, List.set_cons_succ]
    refine wpAnyH_ready (rs := [14]) (by kernel_rfl) (by simp) ?_
    refine AllReadyH.cons rfl (fun K hK => ?_) AllReadyH.nil
    clear hHeld
    go_simp
    (go_at_call 39; refine (HAN.out _).mono ?_; rintro e w8 ⟨rfl, rfl⟩)
    exact ⟨rfl, HS.out.post (HB2.out.drew) (by rw [HZ.out]; rfl) (fun V hV => by rw [HZ.out] at hV; cases hV)⟩
end Go.Proofs.Ytimkiifcmegfeaa
