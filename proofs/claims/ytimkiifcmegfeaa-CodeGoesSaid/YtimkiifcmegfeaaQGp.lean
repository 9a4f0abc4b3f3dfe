/- Contracts. -/
import Derived.Test.YtimkiifcmegfeaaBH
/- code: the law's machine: next, a root or none (written by cdnext.py). -/
namespace Go.Proofs.Ytimkiifcmegfeaa
open Go.RowKit
set_option linter.unusedVariables false
set_option linter.unusedSimpArgs false
attribute [local go_sem] Oper.semAt_some
set_option maxRecDepth 20000 in
set_option maxHeartbeats 4000000 in
theorem next_23 (c : Mc) (s : Ms) (w wx : World) (V : Wk) (is : List Ins) (gg : Int × Int) (h : MM c s w wx) (hb : Mb c s) (hst : s.st ≤ 400) (hG : Good c V is gg) (i : Ins) (hi : is[s.a]? = some i) (hop : i.op = 23) (hI : Inv V is s) : Calls Try.prog 24 #[.pointer (some ⟨c.g, 0, none⟩)] wx fun e w' => e = .returned (.tuple #[]) ∧ NextP c V is s w w' := by
  have hae := hI.at_lt hG
  have hop9 := hG.bounds hi
  obtain ⟨fb, fo, ib, io, n, cap, hH, han, hn3, hfm⟩ := h.here hG hi
  obtain ⟨xo, xa, xq, xc, xt⟩ := i
  obtain rfl : xo = 23 := hop
  have HB3 := Lib.hid (hb.begun hst)
  have HNEW := Lib.hid (fun w1 (h1 : MM c s w w1) => Begun.new h1 ⟨23, xa, xq, xc, xt⟩)
  have HH := Lib.hid (fun V (hV : Below wx.heap.size wx V) => hH.bel hV)
  have HM := Lib.hid (fun V (hV : Below wx.heap.size wx V) => h.belx hV)
  have c0 := hH.c0
  have f0 := hH.f0
  have c2 := h.told.2.2.1
  have c4 := h.told.2.2.2.2.1
  obtain ⟨a, ha⟩ : ∃ z, s.a = z := ⟨_, rfl⟩
  obtain ⟨cf, hcf⟩ : ∃ z, c.f = z := ⟨_, rfl⟩
  obtain ⟨m, hm⟩ : ∃ z, c.cl.fs.length = z := ⟨_, rfl⟩
  obtain ⟨st, hs9⟩ : ∃ z, s.st = z := ⟨_, rfl⟩
  rw [ha] at c4 han hH HH
  rw [hcf] at c2 f0 hfm
  rw [hm] at c0 hfm
  rw [hs9] at HNEW
  have hst4 : st ≤ 400 := by rw [← hs9]; exact hst
  have HE := Lib.hid (And.intro ha (And.intro hcf (And.intro hm hs9)))
  have HG := Lib.hid hG
  have HI := Lib.hid hI
  have HIX := Lib.hid hi
  have HOP := Lib.hid hop9
  have HBB := Lib.hid (And.intro hb hst)
  have HAE := Lib.hid hae
  clear h hb hG hI hi hH ha hcf hm hs9 hop9 hst hae
  have d0 : decide ((a : Int) < 0) = false := decide_eq_false (by omega)
  have d1 : decide ((a : Int) ≥ (n : Int)) = false := decide_eq_false (by omega)
  have hfi : (cf : Int) < (m : Int) := by omega
  have hai : (a : Int) < (n : Int) := by omega
  go_enter Try.func24, Try.ntmps24
  go_upto_region 0 with fail
  go_quiet (fail)
  obtain ⟨w1, hw1⟩ : ∃ V, wx.drewN nq = V := ⟨_, rfl⟩
  rw [hw1]
  have hb1 : Below wx.heap.size wx w1 := by rw [← hw1]; exact (Off.drewN (fun _ => False) _ _).below (Nat.le_refl _) (fun k h => h.elim)
  have h1 := HM.out w1 hb1
  have hH1 := HH.out w1 hb1
  have HN1 := Lib.hid (HNEW.out w1 h1)
  have c4 : w1.cell? ⟨c.g, 4, none⟩ = some (.int .i64 (a : Int)) := by rw [← HE.out.1]; exact h1.told.2.2.2.2.1
  have a0 := hH1.a0
  have a1 := hH1.a1
  have a2 := hH1.a2
  have a3 := hH1.a3
  have a4 := hH1.a4
  obtain ⟨w2, hw2⟩ : ∃ V, w1.alloc (.cells #[.int .u8 23, .int .i64 xa, .int .i64 xq, .int .i64 xc, .string (str xt)] 46) = V := ⟨_, rfl⟩
  obtain ⟨xb, hxb⟩ : ∃ z, w1.heap.size = z := ⟨_, rfl⟩
  obtain ⟨w3, hw3⟩ : ∃ V, w2.setCell ⟨c.g, 8, none⟩ (.int .i64 ((st : Int) + 1)) = V := ⟨_, rfl⟩
  have hb2 : Below w1.heap.size w1 w2 := by rw [← hw2]; exact (Below.refl _ _).alloc (Nat.le_refl _) _
  have m2 := h1.belx hb2
  have b8 : w2.cell? ⟨c.g, 8, none⟩ = some (.int .i64 (st : Int)) := by rw [← HE.out.2.2.2]; exact m2.told.2.2.2.2.2.2.2.2.1
  have g8 := m2.blk.frozen 8
  have hbg : Begun c s ⟨23, xa, xq, xc, xt⟩ w w3 xb := by rw [← hw3, ← hw2, ← hxb]; exact HN1.out
  have HW := Lib.hid (And.intro hxb (And.intro hw2 hw3))
  have HBG := Lib.hid hbg
  have x0 : w3.cell? ⟨xb, 0, none⟩ = some (.int .u8 23) := hbg.x.cell 0
  clear h1 hH1 hb1 HN1 HNEW HH HM hw2 hxb hw3 hb2 m2 hbg c0 f0 c2
  clear hw1
  go_upto_region 4 with fail
  rw [HW.out.1, HW.out.2.1]
  go_upto_region 5 with fail
  rw [HW.out.2.2]
  clear a0 a1 a2 a3 a4 c4 b8 g8
  have hx9 : (c.f = 0 ∧ 0 ≤ xa ∧ xa < (c.cl.rs.length : Int)) ∧ (0 ≤ xq ∧ xq ≤ 3000) ∧ Inv V is { s with a := s.a + 1, st := s.st + 1 } ∧ Inv V is { s with h := s.h + 1, a := xq.toNat, st := s.st + 1 } := by
    have ho := HOP.out
    obtain ⟨r, htr, hfl, hc9⟩ := HI.out.closed HG.out HIX.out
    simp [Wk.closedAt] at hc9
    simp [opnd, wi] at ho
    have hq := HG.out; obtain ⟨f9, hf9, e9⟩ := hq.fe; have hq3 := hq.hq f9 (List.mem_of_getElem? hf9); rw [e9] at hq3; exact ⟨⟨hc9.1, by omega, by omega⟩, by omega, ⟨r, hc9.2.1, htr⟩, ⟨r, hc9.2.2, htr⟩⟩
  have x1 : w3.cell? ⟨xb, 1, none⟩ = some (.int .i64 xa) := HBG.out.x.cell 1
  have t3 := HBG.out.m.told
  obtain ⟨hh, hhh⟩ : ∃ z, s.h = z := ⟨_, rfl⟩
  obtain ⟨tv, htv⟩ : ∃ z, s.tv = z := ⟨_, rfl⟩
  have k0 := t3.1
  have k1 := t3.2.1
  have k2 : w3.cell? ⟨c.g, 2, none⟩ = some (.int .i64 (cf : Int)) := by rw [← HE.out.2.1]; exact t3.2.2.1
  have k4 : w3.cell? ⟨c.g, 4, none⟩ = some (.int .i64 (a : Int)) := by rw [← HE.out.1]; exact t3.2.2.2.2.1
  have k5 : w3.cell? ⟨c.g, 5, none⟩ = some (.int .i64 hh) := by rw [← hhh]; exact t3.2.2.2.2.2.1
  have k6 : w3.cell? ⟨c.g, 6, none⟩ = some tv := by rw [← htv]; exact t3.2.2.2.2.2.2.1
  have k9 : w3.cell? ⟨c.g, 9, none⟩ = some (.bool false) := t3.2.2.2.2.2.2.2.2.2.1
  have f9 := HBG.out.m.blk.frozen 9
  have f4 := HBG.out.m.blk.frozen 4
  have f5 := HBG.out.m.blk.frozen 5
  have f6 := HBG.out.m.blk.frozen 6
  have f10 := HBG.out.m.blk.frozen 10
  have HHH := Lib.hid hhh
  have HTV := Lib.hid htv
  clear t3
  obtain ⟨w4, hw4⟩ : ∃ V, (w3.setCell ⟨c.g, 9, none⟩ (.bool false)).drew = V := ⟨_, rfl⟩
  have h4 : MM c { s with st := s.st + 1 } w w4 := by rw [← hw4]; exact HBG.out.m.setw.belx ((Below.refl _ _).drew)
  have HW4 := Lib.hid hw4
  have H4 := Lib.hid h4
  clear hw4 h4
  have X4 : Blk w4 xb 46 #[.int .u8 23, .int .i64 xa, .int .i64 xq, .int .i64 xc, .string (str xt)] := by rw [← HW4.out]; exact (HBG.out.x.far (by show xb ≠ c.g; exact HBG.out.ne) _).drew
  have HX4 := Lib.hid X4
  have HWY := Lib.hid (way_any c _ w w4 H4.out HB3.out)
  have HX9 := Lib.hid hx9
  rw [HE.out.2.1] at hx9
  obtain ⟨rn, hrn⟩ : ∃ z, c.cl.rs.length = z := ⟨_, rfl⟩
  rw [hrn] at hx9 k1
  have hx0 := hx9.1.1
  have hx1 := hx9.1.2
  rw [hx0] at k2
  have k2 : w3.cell? ⟨c.g, 2, none⟩ = some (.int .i64 0) := k2
  have q1 : decide (xa < 0) = false := decide_eq_false (by omega)
  have q2 : decide (xa ≥ (rn : Int)) = false := decide_eq_false (by omega)
  clear hx9 hhh htv hrn X4 hx0 hx1
  go_upto_region 62 with fail
  go_region
  rw [HW4.out]
  clear k0 k1 k2 k4 k5 k6 k9 f9 f4 f5 f6 f10 x0 x1
  go_wp2_with fail
  refine HWY.out.mono ?_
  rintro e w6 ⟨v, rfl, hv, h6, hb6⟩
  have X6 := HX4.out.below hb6 HX4.out.lt
  have x2 : w6.cell? ⟨xb, 2, none⟩ = some (.int .i64 xq) := X6.cell 2
  have k4 : w6.cell? ⟨c.g, 4, none⟩ = some (.int .i64 (a : Int)) := by rw [← HE.out.1]; exact h6.told.2.2.2.2.1
  have k5 : w6.cell? ⟨c.g, 5, none⟩ = some (.int .i64 hh) := by rw [← HHH.out]; exact h6.told.2.2.2.2.2.1
  have f4 := h6.blk.frozen 4
  have f5 := h6.blk.frozen 5
  have H6 := Lib.hid h6
  have hhb : 0 ≤ hh ∧ hh ≤ 2000000 := by have h1 := HBB.out.1.h; have h2 := HBB.out.2; rw [HHH.out] at h1; omega
  clear h6 hb6 X6
  by_cases hv2 : v % 2 = 1
  · have d4 : ((v : Int) % 2 == 1) = true := by rw [beq_iff_eq]; omega
    have hdone : NextP c V is s w ((w6.setCell ⟨c.g, 5, none⟩ (.int .i64 (hh + 1))).setCell ⟨c.g, 4, none⟩ (.int .i64 xq)) := by
      have h9 := (H6.out.seth (s.h + 1)).seta xq.toNat
      have hx := HX9.out.2.1
      have hle := HBB.out.1.h
      rw [show xq = ((xq.toNat : Nat) : Int) by omega, ← HHH.out]
      exact ⟨_, h9, HBB.out.1.same HBB.out.2 rfl (by show xq.toNat ≤ 200000; omega) ⟨by show 0 ≤ s.h + 1; omega, by show s.h + 1 ≤ _; omega⟩ rfl, rfl, .inr HX9.out.2.2.2⟩
    have HD := Lib.hid hdone
    clear hdone
    go_wp2_with fail
    go_end0
    exact ⟨rfl, HD.out⟩
  · have d4 : ((v : Int) % 2 == 1) = false := by rw [beq_eq_false_iff_ne]; omega
    have hdone : NextP c V is s w (w6.setCell ⟨c.g, 4, none⟩ (.int .i64 ((a : Int) + 1))) := by
      have h9 := H6.out.seta (s.a + 1)
      rw [show ((s.a + 1 : Nat) : Int) = (a : Int) + 1 by have := HE.out.1; omega] at h9
      have hle := HBB.out.1.h
      exact ⟨_, h9, HBB.out.1.same HBB.out.2 rfl (by have := HAE.out.2; show s.a + 1 ≤ 200000; omega) ⟨hle.1, by show s.h ≤ _; omega⟩ rfl, rfl, .inr HX9.out.2.2.1⟩
    have HD := Lib.hid hdone
    have hab : a ≤ 200000 := by have := HAE.out.2; have := HE.out.1; omega
    clear hdone
    go_wp2_with fail
    go_end0
    exact ⟨rfl, HD.out⟩
end Go.Proofs.Ytimkiifcmegfeaa
