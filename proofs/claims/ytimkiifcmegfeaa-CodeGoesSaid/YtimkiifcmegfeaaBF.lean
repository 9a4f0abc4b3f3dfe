/- Contracts, part BF. -/
import Derived.Test.YtimkiifcmegfeaaBH
/- code: the law's machine: next, its end and a leap (written by cdnext.py). -/
namespace Go.Proofs.Ytimkiifcmegfeaa
open Go.RowKit
set_option linter.unusedVariables false
set_option linter.unusedSimpArgs false
attribute [local go_sem] Oper.semAt_some
set_option maxRecDepth 20000 in
set_option maxHeartbeats 4000000 in
theorem next_8 (c : Mc) (s : Ms) (w wx : World) (V : Wk) (is : List Ins) (gg : Int × Int) (h : MM c s w wx) (hb : Mb c s) (hst : s.st ≤ 400) (hG : Good c V is gg) (i : Ins) (hi : is[s.a]? = some i) (hop : i.op = 8) (hI : Inv V is s) : Calls Try.prog 24 #[.pointer (some ⟨c.g, 0, none⟩)] wx fun e w' => e = .returned (.tuple #[]) ∧ NextP c V is s w w' := by
  have hae := hI.at_lt hG
  have hop9 := hG.bounds hi
  obtain ⟨fb, fo, ib, io, n, cap, hH, han, hn3, hfm⟩ := h.here hG hi
  obtain ⟨xo, xa, xq, xc, xt⟩ := i
  obtain rfl : xo = 8 := hop
  have HB3 := Lib.hid (hb.begun hst)
  have HNEW := Lib.hid (fun w1 (h1 : MM c s w w1) => Begun.new h1 ⟨8, xa, xq, xc, xt⟩)
  have HH := Lib.hid (fun V (hV : Below wx.heap.size wx V) => hH.bel hV)
  have HM := Lib.hid (fun V (hV : Below wx.heap.size wx V) => h.belx hV)
  have c0 := hH.c0
  have f0 := hH.f0
  have c2 := h.told.2.2.1
  have c4 := h.told.2.2.2.2.1
  obtain ⟨a, ha⟩ : ∃ z, s.a = z := ⟨_, rfl⟩
  obtain ⟨cf, hcf⟩ : ∃ z, c.f = z := ⟨_, rfl⟩
  obtain ⟨m, hm⟩ : ∃ z, c.cl.fs.length = z := ⟨_, rfl⟩
  obtain ⟨st, hs9⟩ : ∃ z, s.st = z := ⟨_, rfl⟩
  rw [ha] at c4 han hH HH
  rw [hcf] at c2 f0 hfm
  rw [hm] at c0 hfm
  rw [hs9] at HNEW
  have hst4 : st ≤ 400 := by rw [← hs9]; exact hst
  have HE := Lib.hid (And.intro ha (And.intro hcf (And.intro hm hs9)))
  have HG := Lib.hid hG
  have HI := Lib.hid hI
  have HIX := Lib.hid hi
  have HOP := Lib.hid hop9
  have HBB := Lib.hid (And.intro hb hst)
  have HAE := Lib.hid hae
  clear h hb hG hI hi hH ha hcf hm hs9 hop9 hst hae
  have d0 : decide ((a : Int) < 0) = false := decide_eq_false (by omega)
  have d1 : decide ((a : Int) ≥ (n : Int)) = false := decide_eq_false (by omega)
  have hfi : (cf : Int) < (m : Int) := by omega
  have hai : (a : Int) < (n : Int) := by omega
  go_enter Try.func24, Try.ntmps24
  go_upto_region 0 with fail
  go_quiet (fail)
  obtain ⟨w1, hw1⟩ : ∃ V, wx.drewN nq = V := ⟨_, rfl⟩
  rw [hw1]
  have hb1 : Below wx.heap.size wx w1 := by rw [← hw1]; exact (Off.drewN (fun _ => False) _ _).below (Nat.le_refl _) (fun k h => h.elim)
  have h1 := HM.out w1 hb1
  have hH1 := HH.out w1 hb1
  have HN1 := Lib.hid (HNEW.out w1 h1)
  have c4 : w1.cell? ⟨c.g, 4, none⟩ = some (.int .i64 (a : Int)) := by rw [← HE.out.1]; exact h1.told.2.2.2.2.1
  have a0 := hH1.a0
  have a1 := hH1.a1
  have a2 := hH1.a2
  have a3 := hH1.a3
  have a4 := hH1.a4
  obtain ⟨w2, hw2⟩ : ∃ V, w1.alloc (.cells #[.int .u8 8, .int .i64 xa, .int .i64 xq, .int .i64 xc, .string (str xt)] 46) = V := ⟨_, rfl⟩
  obtain ⟨xb, hxb⟩ : ∃ z, w1.heap.size = z := ⟨_, rfl⟩
  obtain ⟨w3, hw3⟩ : ∃ V, w2.setCell ⟨c.g, 8, none⟩ (.int .i64 ((st : Int) + 1)) = V := ⟨_, rfl⟩
  have hb2 : Below w1.heap.size w1 w2 := by rw [← hw2]; exact (Below.refl _ _).alloc (Nat.le_refl _) _
  have m2 := h1.belx hb2
  have b8 : w2.cell? ⟨c.g, 8, none⟩ = some (.int .i64 (st : Int)) := by rw [← HE.out.2.2.2]; exact m2.told.2.2.2.2.2.2.2.2.1
  have g8 := m2.blk.frozen 8
  have hbg : Begun c s ⟨8, xa, xq, xc, xt⟩ w w3 xb := by rw [← hw3, ← hw2, ← hxb]; exact HN1.out
  have HW := Lib.hid (And.intro hxb (And.intro hw2 hw3))
  have HBG := Lib.hid hbg
  have x0 : w3.cell? ⟨xb, 0, none⟩ = some (.int .u8 8) := hbg.x.cell 0
  clear h1 hH1 hb1 HN1 HNEW HH HM hw2 hxb hw3 hb2 m2 hbg c0 f0 c2
  clear hw1
  go_upto_region 4 with fail
  rw [HW.out.1, HW.out.2.1]
  go_upto_region 5 with fail
  rw [HW.out.2.2]
  clear a0 a1 a2 a3 a4 c4 b8 g8
  have hx9 : c.f ≠ 0 ∧ s.h = 2 ∧ s.tr = [] := by
    have ho := HOP.out
    obtain ⟨r, htr, hfl, hc9⟩ := HI.out.closed HG.out HIX.out
    simp [Wk.closedAt] at hc9
    simp [opnd, wi] at ho
    obtain ⟨h1, h2, h3⟩ := hc9; rw [h3] at htr; exact ⟨h1, h2, TR.nil htr⟩
  have t3 := HBG.out.m.told
  obtain ⟨hh, hhh⟩ : ∃ z, s.h = z := ⟨_, rfl⟩
  obtain ⟨tv, htv⟩ : ∃ z, s.tv = z := ⟨_, rfl⟩
  have k0 := t3.1
  have k1 := t3.2.1
  have k2 : w3.cell? ⟨c.g, 2, none⟩ = some (.int .i64 (cf : Int)) := by rw [← HE.out.2.1]; exact t3.2.2.1
  have k4 : w3.cell? ⟨c.g, 4, none⟩ = some (.int .i64 (a : Int)) := by rw [← HE.out.1]; exact t3.2.2.2.2.1
  have k5 : w3.cell? ⟨c.g, 5, none⟩ = some (.int .i64 hh) := by rw [← hhh]; exact t3.2.2.2.2.2.1
  have k6 : w3.cell? ⟨c.g, 6, none⟩ = some tv := by rw [← htv]; exact t3.2.2.2.2.2.2.1
  have k9 : w3.cell? ⟨c.g, 9, none⟩ = some (.bool false) := t3.2.2.2.2.2.2.2.2.2.1
  have f9 := HBG.out.m.blk.frozen 9
  have f4 := HBG.out.m.blk.frozen 4
  have f5 := HBG.out.m.blk.frozen 5
  have f6 := HBG.out.m.blk.frozen 6
  have f10 := HBG.out.m.blk.frozen 10
  have HHH := Lib.hid hhh
  have HTV := Lib.hid htv
  clear t3
  have hdone : NextP c V is s w ((w3.setCell ⟨c.g, 9, none⟩ (.bool false)).setCell ⟨c.g, 10, none⟩ (.bool true)) := by
    have hle := HBB.out.1.h
    exact ⟨_, HBG.out.m.setw.setdn, HBB.out.1.same HBB.out.2 rfl (by have := HAE.out.2; show s.a ≤ 200000; omega) ⟨hle.1, by show s.h ≤ _; omega⟩ rfl, rfl, .inl rfl⟩
  have HD := Lib.hid hdone
  have k10 : w3.cell? ⟨c.g, 10, none⟩ = some (.bool s.dn) := HBG.out.m.told.2.2.2.2.2.2.2.2.2.2
  obtain ⟨A9, cp9, ev9⟩ := HBG.out.m.shape
  have ev9 : s.tv = .slice A9 s.tr.length cp9 := ev9
  rw [HE.out.2.1] at hx9
  rw [hhh] at hx9
  rw [hx9.2.1] at k5
  rw [← htv, ev9, hx9.2.2] at k6
  have k6 : w3.cell? ⟨c.g, 6, none⟩ = some (.slice A9 0 cp9) := k6
  have q0 : ((cf : Int) == 0) = false := by rw [beq_eq_false_iff_ne]; omega
  clear hdone hhh htv hx9
  go_wp2_with fail
  go_end0
  exact ⟨rfl, HD.out⟩
set_option maxRecDepth 20000 in
set_option maxHeartbeats 4000000 in
theorem next_25 (c : Mc) (s : Ms) (w wx : World) (V : Wk) (is : List Ins) (gg : Int × Int) (h : MM c s w wx) (hb : Mb c s) (hst : s.st ≤ 400) (hG : Good c V is gg) (i : Ins) (hi : is[s.a]? = some i) (hop : i.op = 25) (hI : Inv V is s) : Calls Try.prog 24 #[.pointer (some ⟨c.g, 0, none⟩)] wx fun e w' => e = .returned (.tuple #[]) ∧ NextP c V is s w w' := by
  have hae := hI.at_lt hG
  have hop9 := hG.bounds hi
  obtain ⟨fb, fo, ib, io, n, cap, hH, han, hn3, hfm⟩ := h.here hG hi
  obtain ⟨xo, xa, xq, xc, xt⟩ := i
  obtain rfl : xo = 25 := hop
  have HB3 := Lib.hid (hb.begun hst)
  have HNEW := Lib.hid (fun w1 (h1 : MM c s w w1) => Begun.new h1 ⟨25, xa, xq, xc, xt⟩)
  have HH := Lib.hid (fun V (hV : Below wx.heap.size wx V) => hH.bel hV)
  have HM := Lib.hid (fun V (hV : Below wx.heap.size wx V) => h.belx hV)
  have c0 := hH.c0
  have f0 := hH.f0
  have c2 := h.told.2.2.1
  have c4 := h.told.2.2.2.2.1
  obtain ⟨a, ha⟩ : ∃ z, s.a = z := ⟨_, rfl⟩
  obtain ⟨cf, hcf⟩ : ∃ z, c.f = z := ⟨_, rfl⟩
  obtain ⟨m, hm⟩ : ∃ z, c.cl.fs.length = z := ⟨_, rfl⟩
  obtain ⟨st, hs9⟩ : ∃ z, s.st = z := ⟨_, rfl⟩
  rw [ha] at c4 han hH HH
  rw [hcf] at c2 f0 hfm
  rw [hm] at c0 hfm
  rw [hs9] at HNEW
  have hst4 : st ≤ 400 := by rw [← hs9]; exact hst
  have HE := Lib.hid (And.intro ha (And.intro hcf (And.intro hm hs9)))
  have HG := Lib.hid hG
  have HI := Lib.hid hI
  have HIX := Lib.hid hi
  have HOP := Lib.hid hop9
  have HBB := Lib.hid (And.intro hb hst)
  have HAE := Lib.hid hae
  clear h hb hG hI hi hH ha hcf hm hs9 hop9 hst hae
  have d0 : decide ((a : Int) < 0) = false := decide_eq_false (by omega)
  have d1 : decide ((a : Int) ≥ (n : Int)) = false := decide_eq_false (by omega)
  have hfi : (cf : Int) < (m : Int) := by omega
  have hai : (a : Int) < (n : Int) := by omega
  go_enter Try.func24, Try.ntmps24
  go_upto_region 0 with fail
  go_quiet (fail)
  obtain ⟨w1, hw1⟩ : ∃ V, wx.drewN nq = V := ⟨_, rfl⟩
  rw [hw1]
  have hb1 : Below wx.heap.size wx w1 := by rw [← hw1]; exact (Off.drewN (fun _ => False) _ _).below (Nat.le_refl _) (fun k h => h.elim)
  have h1 := HM.out w1 hb1
  have hH1 := HH.out w1 hb1
  have HN1 := Lib.hid (HNEW.out w1 h1)
  have c4 : w1.cell? ⟨c.g, 4, none⟩ = some (.int .i64 (a : Int)) := by rw [← HE.out.1]; exact h1.told.2.2.2.2.1
  have a0 := hH1.a0
  have a1 := hH1.a1
  have a2 := hH1.a2
  have a3 := hH1.a3
  have a4 := hH1.a4
  obtain ⟨w2, hw2⟩ : ∃ V, w1.alloc (.cells #[.int .u8 25, .int .i64 xa, .int .i64 xq, .int .i64 xc, .string (str xt)] 46) = V := ⟨_, rfl⟩
  obtain ⟨xb, hxb⟩ : ∃ z, w1.heap.size = z := ⟨_, rfl⟩
  obtain ⟨w3, hw3⟩ : ∃ V, w2.setCell ⟨c.g, 8, none⟩ (.int .i64 ((st : Int) + 1)) = V := ⟨_, rfl⟩
  have hb2 : Below w1.heap.size w1 w2 := by rw [← hw2]; exact (Below.refl _ _).alloc (Nat.le_refl _) _
  have m2 := h1.belx hb2
  have b8 : w2.cell? ⟨c.g, 8, none⟩ = some (.int .i64 (st : Int)) := by rw [← HE.out.2.2.2]; exact m2.told.2.2.2.2.2.2.2.2.1
  have g8 := m2.blk.frozen 8
  have hbg : Begun c s ⟨25, xa, xq, xc, xt⟩ w w3 xb := by rw [← hw3, ← hw2, ← hxb]; exact HN1.out
  have HW := Lib.hid (And.intro hxb (And.intro hw2 hw3))
  have HBG := Lib.hid hbg
  have x0 : w3.cell? ⟨xb, 0, none⟩ = some (.int .u8 25) := hbg.x.cell 0
  clear h1 hH1 hb1 HN1 HNEW HH HM hw2 hxb hw3 hb2 m2 hbg c0 f0 c2
  clear hw1
  go_upto_region 4 with fail
  rw [HW.out.1, HW.out.2.1]
  go_upto_region 5 with fail
  rw [HW.out.2.2]
  clear a0 a1 a2 a3 a4 c4 b8 g8
  have hx9 : c.f = 0 ∧ s.tr = [] := by
    have ho := HOP.out
    obtain ⟨r, htr, hfl, hc9⟩ := HI.out.closed HG.out HIX.out
    simp [Wk.closedAt] at hc9
    simp [opnd, wi] at ho
    obtain ⟨h1, h3⟩ := hc9; rw [h3] at htr; exact ⟨h1, TR.nil htr⟩
  have t3 := HBG.out.m.told
  obtain ⟨hh, hhh⟩ : ∃ z, s.h = z := ⟨_, rfl⟩
  obtain ⟨tv, htv⟩ : ∃ z, s.tv = z := ⟨_, rfl⟩
  have k0 := t3.1
  have k1 := t3.2.1
  have k2 : w3.cell? ⟨c.g, 2, none⟩ = some (.int .i64 (cf : Int)) := by rw [← HE.out.2.1]; exact t3.2.2.1
  have k4 : w3.cell? ⟨c.g, 4, none⟩ = some (.int .i64 (a : Int)) := by rw [← HE.out.1]; exact t3.2.2.2.2.1
  have k5 : w3.cell? ⟨c.g, 5, none⟩ = some (.int .i64 hh) := by rw [← hhh]; exact t3.2.2.2.2.2.1
  have k6 : w3.cell? ⟨c.g, 6, none⟩ = some tv := by rw [← htv]; exact t3.2.2.2.2.2.2.1
  have k9 : w3.cell? ⟨c.g, 9, none⟩ = some (.bool false) := t3.2.2.2.2.2.2.2.2.2.1
  have f9 := HBG.out.m.blk.frozen 9
  have f4 := HBG.out.m.blk.frozen 4
  have f5 := HBG.out.m.blk.frozen 5
  have f6 := HBG.out.m.blk.frozen 6
  have f10 := HBG.out.m.blk.frozen 10
  have HHH := Lib.hid hhh
  have HTV := Lib.hid htv
  clear t3
  have hdone : NextP c V is s w ((w3.setCell ⟨c.g, 9, none⟩ (.bool false)).setCell ⟨c.g, 10, none⟩ (.bool true)) := by
    have hle := HBB.out.1.h
    exact ⟨_, HBG.out.m.setw.setdn, HBB.out.1.same HBB.out.2 rfl (by have := HAE.out.2; show s.a ≤ 200000; omega) ⟨hle.1, by show s.h ≤ _; omega⟩ rfl, rfl, .inl rfl⟩
  have HD := Lib.hid hdone
  have k10 : w3.cell? ⟨c.g, 10, none⟩ = some (.bool s.dn) := HBG.out.m.told.2.2.2.2.2.2.2.2.2.2
  obtain ⟨A9, cp9, ev9⟩ := HBG.out.m.shape
  have ev9 : s.tv = .slice A9 s.tr.length cp9 := ev9
  rw [HE.out.2.1] at hx9
  rw [← htv, ev9, hx9.2] at k6
  have k6 : w3.cell? ⟨c.g, 6, none⟩ = some (.slice A9 0 cp9) := k6
  rw [hx9.1] at k2
  have k2 : w3.cell? ⟨c.g, 2, none⟩ = some (.int .i64 0) := k2
  clear hdone hhh htv hx9
  go_wp2_with fail
  go_end0
  exact ⟨rfl, HD.out⟩
set_option maxRecDepth 20000 in
set_option maxHeartbeats 4000000 in
theorem next_9 (c : Mc) (s : Ms) (w wx : World) (V : Wk) (is : List Ins) (gg : Int × Int) (h : MM c s w wx) (hb : Mb c s) (hst : s.st ≤ 400) (hG : Good c V is gg) (i : Ins) (hi : is[s.a]? = some i) (hop : i.op = 9) (hI : Inv V is s) : Calls Try.prog 24 #[.pointer (some ⟨c.g, 0, none⟩)] wx fun e w' => e = .returned (.tuple #[]) ∧ NextP c V is s w w' := by
  have hae := hI.at_lt hG
  have hop9 := hG.bounds hi
  obtain ⟨fb, fo, ib, io, n, cap, hH, han, hn3, hfm⟩ := h.here hG hi
  obtain ⟨xo, xa, xq, xc, xt⟩ := i
  obtain rfl : xo = 9 := hop
  have HB3 := Lib.hid (hb.begun hst)
  have HNEW := Lib.hid (fun w1 (h1 : MM c s w w1) => Begun.new h1 ⟨9, xa, xq, xc, xt⟩)
  have HH := Lib.hid (fun V (hV : Below wx.heap.size wx V) => hH.bel hV)
  have HM := Lib.hid (fun V (hV : Below wx.heap.size wx V) => h.belx hV)
  have c0 := hH.c0
  have f0 := hH.f0
  have c2 := h.told.2.2.1
  have c4 := h.told.2.2.2.2.1
  obtain ⟨a, ha⟩ : ∃ z, s.a = z := ⟨_, rfl⟩
  obtain ⟨cf, hcf⟩ : ∃ z, c.f = z := ⟨_, rfl⟩
  obtain ⟨m, hm⟩ : ∃ z, c.cl.fs.length = z := ⟨_, rfl⟩
  obtain ⟨st, hs9⟩ : ∃ z, s.st = z := ⟨_, rfl⟩
  rw [ha] at c4 han hH HH
  rw [hcf] at c2 f0 hfm
  rw [hm] at c0 hfm
  rw [hs9] at HNEW
  have hst4 : st ≤ 400 := by rw [← hs9]; exact hst
  have HE := Lib.hid (And.intro ha (And.intro hcf (And.intro hm hs9)))
  have HG := Lib.hid hG
  have HI := Lib.hid hI
  have HIX := Lib.hid hi
  have HOP := Lib.hid hop9
  have HBB := Lib.hid (And.intro hb hst)
  have HAE := Lib.hid hae
  clear h hb hG hI hi hH ha hcf hm hs9 hop9 hst hae
  have d0 : decide ((a : Int) < 0) = false := decide_eq_false (by omega)
  have d1 : decide ((a : Int) ≥ (n : Int)) = false := decide_eq_false (by omega)
  have hfi : (cf : Int) < (m : Int) := by omega
  have hai : (a : Int) < (n : Int) := by omega
  go_enter Try.func24, Try.ntmps24
  go_upto_region 0 with fail
  go_quiet (fail)
  obtain ⟨w1, hw1⟩ : ∃ V, wx.drewN nq = V := ⟨_, rfl⟩
  rw [hw1]
  have hb1 : Below wx.heap.size wx w1 := by rw [← hw1]; exact (Off.drewN (fun _ => False) _ _).below (Nat.le_refl _) (fun k h => h.elim)
  have h1 := HM.out w1 hb1
  have hH1 := HH.out w1 hb1
  have HN1 := Lib.hid (HNEW.out w1 h1)
  have c4 : w1.cell? ⟨c.g, 4, none⟩ = some (.int .i64 (a : Int)) := by rw [← HE.out.1]; exact h1.told.2.2.2.2.1
  have a0 := hH1.a0
  have a1 := hH1.a1
  have a2 := hH1.a2
  have a3 := hH1.a3
  have a4 := hH1.a4
  obtain ⟨w2, hw2⟩ : ∃ V, w1.alloc (.cells #[.int .u8 9, .int .i64 xa, .int .i64 xq, .int .i64 xc, .string (str xt)] 46) = V := ⟨_, rfl⟩
  obtain ⟨xb, hxb⟩ : ∃ z, w1.heap.size = z := ⟨_, rfl⟩
  obtain ⟨w3, hw3⟩ : ∃ V, w2.setCell ⟨c.g, 8, none⟩ (.int .i64 ((st : Int) + 1)) = V := ⟨_, rfl⟩
  have hb2 : Below w1.heap.size w1 w2 := by rw [← hw2]; exact (Below.refl _ _).alloc (Nat.le_refl _) _
  have m2 := h1.belx hb2
  have b8 : w2.cell? ⟨c.g, 8, none⟩ = some (.int .i64 (st : Int)) := by rw [← HE.out.2.2.2]; exact m2.told.2.2.2.2.2.2.2.2.1
  have g8 := m2.blk.frozen 8
  have hbg : Begun c s ⟨9, xa, xq, xc, xt⟩ w w3 xb := by rw [← hw3, ← hw2, ← hxb]; exact HN1.out
  have HW := Lib.hid (And.intro hxb (And.intro hw2 hw3))
  have HBG := Lib.hid hbg
  have x0 : w3.cell? ⟨xb, 0, none⟩ = some (.int .u8 9) := hbg.x.cell 0
  clear h1 hH1 hb1 HN1 HNEW HH HM hw2 hxb hw3 hb2 m2 hbg c0 f0 c2
  clear hw1
  go_upto_region 4 with fail
  rw [HW.out.1, HW.out.2.1]
  go_upto_region 5 with fail
  rw [HW.out.2.2]
  clear a0 a1 a2 a3 a4 c4 b8 g8
  have hx9 : (0 ≤ xa ∧ xa ≤ 3000) ∧ Inv V is { s with a := xa.toNat, st := s.st + 1 } := by
    have ho := HOP.out
    obtain ⟨r, htr, hfl, hc9⟩ := HI.out.closed HG.out HIX.out
    simp [Wk.closedAt] at hc9
    simp [opnd, wi] at ho
    have hm3 := HAE.out.1; have hq := HG.out; obtain ⟨f9, hf9, e9⟩ := hq.fe; have hq3 := hq.hq f9 (List.mem_of_getElem? hf9); rw [e9] at hq3; exact ⟨by omega, r, hc9, htr⟩
  have x1 : w3.cell? ⟨xb, 1, none⟩ = some (.int .i64 xa) := HBG.out.x.cell 1
  have t3 := HBG.out.m.told
  obtain ⟨hh, hhh⟩ : ∃ z, s.h = z := ⟨_, rfl⟩
  obtain ⟨tv, htv⟩ : ∃ z, s.tv = z := ⟨_, rfl⟩
  have k0 := t3.1
  have k1 := t3.2.1
  have k2 : w3.cell? ⟨c.g, 2, none⟩ = some (.int .i64 (cf : Int)) := by rw [← HE.out.2.1]; exact t3.2.2.1
  have k4 : w3.cell? ⟨c.g, 4, none⟩ = some (.int .i64 (a : Int)) := by rw [← HE.out.1]; exact t3.2.2.2.2.1
  have k5 : w3.cell? ⟨c.g, 5, none⟩ = some (.int .i64 hh) := by rw [← hhh]; exact t3.2.2.2.2.2.1
  have k6 : w3.cell? ⟨c.g, 6, none⟩ = some tv := by rw [← htv]; exact t3.2.2.2.2.2.2.1
  have k9 : w3.cell? ⟨c.g, 9, none⟩ = some (.bool false) := t3.2.2.2.2.2.2.2.2.2.1
  have f9 := HBG.out.m.blk.frozen 9
  have f4 := HBG.out.m.blk.frozen 4
  have f5 := HBG.out.m.blk.frozen 5
  have f6 := HBG.out.m.blk.frozen 6
  have f10 := HBG.out.m.blk.frozen 10
  have HHH := Lib.hid hhh
  have HTV := Lib.hid htv
  clear t3
  have hdone : NextP c V is s w (w3.setCell ⟨c.g, 4, none⟩ (.int .i64 xa)) := by
    have hle := HBB.out.1.h
    have h9 := HBG.out.m.seta xa.toNat
    rw [show ((xa.toNat : Nat) : Int) = xa by omega] at h9
    exact ⟨_, h9, HBB.out.1.same HBB.out.2 rfl (by show xa.toNat ≤ 200000; omega) ⟨hle.1, by show s.h ≤ _; omega⟩ rfl, rfl, .inr hx9.2⟩
  have HD := Lib.hid hdone
  clear hdone hhh htv hx9
  go_wp2_with fail
  go_end0
  exact ⟨rfl, HD.out⟩
end Go.Proofs.Ytimkiifcmegfeaa
/- code: the law's machine: next, raising, and a way (written by cdnext.py). -/
namespace Go.Proofs.Ytimkiifcmegfeaa
open Go.RowKit
set_option linter.unusedVariables false
set_option linter.unusedSimpArgs false
attribute [local go_sem] Oper.semAt_some
set_option maxRecDepth 20000 in
set_option maxHeartbeats 4000000 in
theorem next_17 (c : Mc) (s : Ms) (w wx : World) (V : Wk) (is : List Ins) (gg : Int × Int) (h : MM c s w wx) (hb : Mb c s) (hst : s.st ≤ 400) (hG : Good c V is gg) (i : Ins) (hi : is[s.a]? = some i) (hop : i.op = 17) (hI : Inv V is s) : Calls Try.prog 24 #[.pointer (some ⟨c.g, 0, none⟩)] wx fun e w' => e = .returned (.tuple #[]) ∧ NextP c V is s w w' := by
  have hae := hI.at_lt hG
  have hop9 := hG.bounds hi
  obtain ⟨fb, fo, ib, io, n, cap, hH, han, hn3, hfm⟩ := h.here hG hi
  obtain ⟨xo, xa, xq, xc, xt⟩ := i
  obtain rfl : xo = 17 := hop
  have HB3 := Lib.hid (hb.begun hst)
  have HNEW := Lib.hid (fun w1 (h1 : MM c s w w1) => Begun.new h1 ⟨17, xa, xq, xc, xt⟩)
  have HH := Lib.hid (fun V (hV : Below wx.heap.size wx V) => hH.bel hV)
  have HM := Lib.hid (fun V (hV : Below wx.heap.size wx V) => h.belx hV)
  have c0 := hH.c0
  have f0 := hH.f0
  have c2 := h.told.2.2.1
  have c4 := h.told.2.2.2.2.1
  obtain ⟨a, ha⟩ : ∃ z, s.a = z := ⟨_, rfl⟩
  obtain ⟨cf, hcf⟩ : ∃ z, c.f = z := ⟨_, rfl⟩
  obtain ⟨m, hm⟩ : ∃ z, c.cl.fs.length = z := ⟨_, rfl⟩
  obtain ⟨st, hs9⟩ : ∃ z, s.st = z := ⟨_, rfl⟩
  rw [ha] at c4 han hH HH
  rw [hcf] at c2 f0 hfm
  rw [hm] at c0 hfm
  rw [hs9] at HNEW
  have hst4 : st ≤ 400 := by rw [← hs9]; exact hst
  have HE := Lib.hid (And.intro ha (And.intro hcf (And.intro hm hs9)))
  have HG := Lib.hid hG
  have HI := Lib.hid hI
  have HIX := Lib.hid hi
  have HOP := Lib.hid hop9
  have HBB := Lib.hid (And.intro hb hst)
  have HAE := Lib.hid hae
  clear h hb hG hI hi hH ha hcf hm hs9 hop9 hst hae
  have d0 : decide ((a : Int) < 0) = false := decide_eq_false (by omega)
  have d1 : decide ((a : Int) ≥ (n : Int)) = false := decide_eq_false (by omega)
  have hfi : (cf : Int) < (m : Int) := by omega
  have hai : (a : Int) < (n : Int) := by omega
  go_enter Try.func24, Try.ntmps24
  go_upto_region 0 with fail
  go_quiet (fail)
  obtain ⟨w1, hw1⟩ : ∃ V, wx.drewN nq = V := ⟨_, rfl⟩
  rw [hw1]
  have hb1 : Below wx.heap.size wx w1 := by rw [← hw1]; exact (Off.drewN (fun _ => False) _ _).below (Nat.le_refl _) (fun k h => h.elim)
  have h1 := HM.out w1 hb1
  have hH1 := HH.out w1 hb1
  have HN1 := Lib.hid (HNEW.out w1 h1)
  have c4 : w1.cell? ⟨c.g, 4, none⟩ = some (.int .i64 (a : Int)) := by rw [← HE.out.1]; exact h1.told.2.2.2.2.1
  have a0 := hH1.a0
  have a1 := hH1.a1
  have a2 := hH1.a2
  have a3 := hH1.a3
  have a4 := hH1.a4
  obtain ⟨w2, hw2⟩ : ∃ V, w1.alloc (.cells #[.int .u8 17, .int .i64 xa, .int .i64 xq, .int .i64 xc, .string (str xt)] 46) = V := ⟨_, rfl⟩
  obtain ⟨xb, hxb⟩ : ∃ z, w1.heap.size = z := ⟨_, rfl⟩
  obtain ⟨w3, hw3⟩ : ∃ V, w2.setCell ⟨c.g, 8, none⟩ (.int .i64 ((st : Int) + 1)) = V := ⟨_, rfl⟩
  have hb2 : Below w1.heap.size w1 w2 := by rw [← hw2]; exact (Below.refl _ _).alloc (Nat.le_refl _) _
  have m2 := h1.belx hb2
  have b8 : w2.cell? ⟨c.g, 8, none⟩ = some (.int .i64 (st : Int)) := by rw [← HE.out.2.2.2]; exact m2.told.2.2.2.2.2.2.2.2.1
  have g8 := m2.blk.frozen 8
  have hbg : Begun c s ⟨17, xa, xq, xc, xt⟩ w w3 xb := by rw [← hw3, ← hw2, ← hxb]; exact HN1.out
  have HW := Lib.hid (And.intro hxb (And.intro hw2 hw3))
  have HBG := Lib.hid hbg
  have x0 : w3.cell? ⟨xb, 0, none⟩ = some (.int .u8 17) := hbg.x.cell 0
  clear h1 hH1 hb1 HN1 HNEW HH HM hw2 hxb hw3 hb2 m2 hbg c0 f0 c2
  clear hw1
  go_upto_region 4 with fail
  rw [HW.out.1, HW.out.2.1]
  go_upto_region 5 with fail
  rw [HW.out.2.2]
  clear a0 a1 a2 a3 a4 c4 b8 g8
  have hx9 : leastM c.fst s.tr ≤ s.h - 1 := by
    have ho := HOP.out
    obtain ⟨r, htr, hfl, hc9⟩ := HI.out.closed HG.out HIX.out
    simp [Wk.closedAt] at hc9
    simp [opnd, wi] at ho
    rw [← hfl]; exact hc9
  have t3 := HBG.out.m.told
  obtain ⟨hh, hhh⟩ : ∃ z, s.h = z := ⟨_, rfl⟩
  obtain ⟨tv, htv⟩ : ∃ z, s.tv = z := ⟨_, rfl⟩
  have k0 := t3.1
  have k1 := t3.2.1
  have k2 : w3.cell? ⟨c.g, 2, none⟩ = some (.int .i64 (cf : Int)) := by rw [← HE.out.2.1]; exact t3.2.2.1
  have k4 : w3.cell? ⟨c.g, 4, none⟩ = some (.int .i64 (a : Int)) := by rw [← HE.out.1]; exact t3.2.2.2.2.1
  have k5 : w3.cell? ⟨c.g, 5, none⟩ = some (.int .i64 hh) := by rw [← hhh]; exact t3.2.2.2.2.2.1
  have k6 : w3.cell? ⟨c.g, 6, none⟩ = some tv := by rw [← htv]; exact t3.2.2.2.2.2.2.1
  have k9 : w3.cell? ⟨c.g, 9, none⟩ = some (.bool false) := t3.2.2.2.2.2.2.2.2.2.1
  have f9 := HBG.out.m.blk.frozen 9
  have f4 := HBG.out.m.blk.frozen 4
  have f5 := HBG.out.m.blk.frozen 5
  have f6 := HBG.out.m.blk.frozen 6
  have f10 := HBG.out.m.blk.frozen 10
  have HHH := Lib.hid hhh
  have HTV := Lib.hid htv
  clear t3
  have HON := Lib.hid (on_any c { s with st := s.st + 1 } w w3 1 0 HBG.out.m HB3.out (by omega) (by omega) hx9)
  have HRA := Lib.hid (raiseward (w := w) HG.out HBB.out.1 HBB.out.2 HI.out hx9)
  clear hhh htv hx9
  go_wp2_with fail
  refine HON.out.mono ?_
  rintro e w5 ⟨rfl, h5, _⟩
  have HR5 := Lib.hid (HRA.out w5 h5)
  clear h5
  go_wp2_with fail
  refine HR5.out.mono ?_
  rintro e w6 ⟨rfl, h6⟩
  have H6 := Lib.hid h6
  clear h6
  go_wp2_with fail
  go_end0
  exact ⟨rfl, H6.out⟩
set_option maxRecDepth 20000 in
set_option maxHeartbeats 4000000 in
theorem next_10 (c : Mc) (s : Ms) (w wx : World) (V : Wk) (is : List Ins) (gg : Int × Int) (h : MM c s w wx) (hb : Mb c s) (hst : s.st ≤ 400) (hG : Good c V is gg) (i : Ins) (hi : is[s.a]? = some i) (hop : i.op = 10) (hI : Inv V is s) : Calls Try.prog 24 #[.pointer (some ⟨c.g, 0, none⟩)] wx fun e w' => e = .returned (.tuple #[]) ∧ NextP c V is s w w' := by
  have hae := hI.at_lt hG
  have hop9 := hG.bounds hi
  obtain ⟨fb, fo, ib, io, n, cap, hH, han, hn3, hfm⟩ := h.here hG hi
  obtain ⟨xo, xa, xq, xc, xt⟩ := i
  obtain rfl : xo = 10 := hop
  have HB3 := Lib.hid (hb.begun hst)
  have HNEW := Lib.hid (fun w1 (h1 : MM c s w w1) => Begun.new h1 ⟨10, xa, xq, xc, xt⟩)
  have HH := Lib.hid (fun V (hV : Below wx.heap.size wx V) => hH.bel hV)
  have HM := Lib.hid (fun V (hV : Below wx.heap.size wx V) => h.belx hV)
  have c0 := hH.c0
  have f0 := hH.f0
  have c2 := h.told.2.2.1
  have c4 := h.told.2.2.2.2.1
  obtain ⟨a, ha⟩ : ∃ z, s.a = z := ⟨_, rfl⟩
  obtain ⟨cf, hcf⟩ : ∃ z, c.f = z := ⟨_, rfl⟩
  obtain ⟨m, hm⟩ : ∃ z, c.cl.fs.length = z := ⟨_, rfl⟩
  obtain ⟨st, hs9⟩ : ∃ z, s.st = z := ⟨_, rfl⟩
  rw [ha] at c4 han hH HH
  rw [hcf] at c2 f0 hfm
  rw [hm] at c0 hfm
  rw [hs9] at HNEW
  have hst4 : st ≤ 400 := by rw [← hs9]; exact hst
  have HE := Lib.hid (And.intro ha (And.intro hcf (And.intro hm hs9)))
  have HG := Lib.hid hG
  have HI := Lib.hid hI
  have HIX := Lib.hid hi
  have HOP := Lib.hid hop9
  have HBB := Lib.hid (And.intro hb hst)
  have HAE := Lib.hid hae
  clear h hb hG hI hi hH ha hcf hm hs9 hop9 hst hae
  have d0 : decide ((a : Int) < 0) = false := decide_eq_false (by omega)
  have d1 : decide ((a : Int) ≥ (n : Int)) = false := decide_eq_false (by omega)
  have hfi : (cf : Int) < (m : Int) := by omega
  have hai : (a : Int) < (n : Int) := by omega
  go_enter Try.func24, Try.ntmps24
  go_upto_region 0 with fail
  go_quiet (fail)
  obtain ⟨w1, hw1⟩ : ∃ V, wx.drewN nq = V := ⟨_, rfl⟩
  rw [hw1]
  have hb1 : Below wx.heap.size wx w1 := by rw [← hw1]; exact (Off.drewN (fun _ => False) _ _).below (Nat.le_refl _) (fun k h => h.elim)
  have h1 := HM.out w1 hb1
  have hH1 := HH.out w1 hb1
  have HN1 := Lib.hid (HNEW.out w1 h1)
  have c4 : w1.cell? ⟨c.g, 4, none⟩ = some (.int .i64 (a : Int)) := by rw [← HE.out.1]; exact h1.told.2.2.2.2.1
  have a0 := hH1.a0
  have a1 := hH1.a1
  have a2 := hH1.a2
  have a3 := hH1.a3
  have a4 := hH1.a4
  obtain ⟨w2, hw2⟩ : ∃ V, w1.alloc (.cells #[.int .u8 10, .int .i64 xa, .int .i64 xq, .int .i64 xc, .string (str xt)] 46) = V := ⟨_, rfl⟩
  obtain ⟨xb, hxb⟩ : ∃ z, w1.heap.size = z := ⟨_, rfl⟩
  obtain ⟨w3, hw3⟩ : ∃ V, w2.setCell ⟨c.g, 8, none⟩ (.int .i64 ((st : Int) + 1)) = V := ⟨_, rfl⟩
  have hb2 : Below w1.heap.size w1 w2 := by rw [← hw2]; exact (Below.refl _ _).alloc (Nat.le_refl _) _
  have m2 := h1.belx hb2
  have b8 : w2.cell? ⟨c.g, 8, none⟩ = some (.int .i64 (st : Int)) := by rw [← HE.out.2.2.2]; exact m2.told.2.2.2.2.2.2.2.2.1
  have g8 := m2.blk.frozen 8
  have hbg : Begun c s ⟨10, xa, xq, xc, xt⟩ w w3 xb := by rw [← hw3, ← hw2, ← hxb]; exact HN1.out
  have HW := Lib.hid (And.intro hxb (And.intro hw2 hw3))
  have HBG := Lib.hid hbg
  have x0 : w3.cell? ⟨xb, 0, none⟩ = some (.int .u8 10) := hbg.x.cell 0
  clear h1 hH1 hb1 HN1 HNEW HH HM hw2 hxb hw3 hb2 m2 hbg c0 f0 c2
  clear hw1
  go_upto_region 4 with fail
  rw [HW.out.1, HW.out.2.1]
  go_upto_region 5 with fail
  rw [HW.out.2.2]
  clear a0 a1 a2 a3 a4 c4 b8 g8
  have hx9 : (0 ≤ xa ∧ xa ≤ 3000) ∧ leastM c.fst s.tr ≤ s.h - 1 ∧ Inv V is { s with a := s.a + 1, h := s.h - 1 + 0, st := s.st + 1 } ∧ Inv V is { s with a := xa.toNat, h := s.h - 1 + 0, st := s.st + 1 } := by
    have ho := HOP.out
    obtain ⟨r, htr, hfl, hc9⟩ := HI.out.closed HG.out HIX.out
    simp [Wk.closedAt] at hc9
    simp [opnd, wi] at ho
    have hq := HG.out; obtain ⟨f9, hf9, e9⟩ := hq.fe; have hq3 := hq.hq f9 (List.mem_of_getElem? hf9); rw [e9] at hq3; rw [← hfl]; exact ⟨by omega, hc9.1, ⟨r, by show V.at_[s.a + 1]? = some (some (s.h - 1 + 0, r)); rw [Int.add_zero]; exact hc9.2.1, htr⟩, ⟨r, by show V.at_[xa.toNat]? = some (some (s.h - 1 + 0, r)); rw [Int.add_zero]; exact hc9.2.2, htr⟩⟩
  have t3 := HBG.out.m.told
  obtain ⟨hh, hhh⟩ : ∃ z, s.h = z := ⟨_, rfl⟩
  obtain ⟨tv, htv⟩ : ∃ z, s.tv = z := ⟨_, rfl⟩
  have k0 := t3.1
  have k1 := t3.2.1
  have k2 : w3.cell? ⟨c.g, 2, none⟩ = some (.int .i64 (cf : Int)) := by rw [← HE.out.2.1]; exact t3.2.2.1
  have k4 : w3.cell? ⟨c.g, 4, none⟩ = some (.int .i64 (a : Int)) := by rw [← HE.out.1]; exact t3.2.2.2.2.1
  have k5 : w3.cell? ⟨c.g, 5, none⟩ = some (.int .i64 hh) := by rw [← hhh]; exact t3.2.2.2.2.2.1
  have k6 : w3.cell? ⟨c.g, 6, none⟩ = some tv := by rw [← htv]; exact t3.2.2.2.2.2.2.1
  have k9 : w3.cell? ⟨c.g, 9, none⟩ = some (.bool false) := t3.2.2.2.2.2.2.2.2.2.1
  have f9 := HBG.out.m.blk.frozen 9
  have f4 := HBG.out.m.blk.frozen 4
  have f5 := HBG.out.m.blk.frozen 5
  have f6 := HBG.out.m.blk.frozen 6
  have f10 := HBG.out.m.blk.frozen 10
  have HHH := Lib.hid hhh
  have HTV := Lib.hid htv
  clear t3
  have HON := Lib.hid (on_any c { s with st := s.st + 1 } w w3 1 0 HBG.out.m HB3.out (by omega) (by omega) hx9.2.1)
  have HX9 := Lib.hid hx9
  clear hhh htv hx9
  go_wp2_with fail
  refine HON.out.mono ?_
  rintro e w5 ⟨rfl, h5, ho5⟩
  have hb5 : Mb c { s with st := s.st + 1, h := s.h - 1 + 0, a := s.a + 1 } := by
    have h0 := HBB.out.1.f.2
    have h1 := HBB.out.1.h
    have h2 := HBB.out.1.least
    have h3 := HX9.out.2.1
    have ha := HAE.out.2
    exact HBB.out.1.same HBB.out.2 rfl (by show s.a + 1 ≤ 200000; omega) ⟨by show 0 ≤ s.h - 1 + 0; omega, by show s.h - 1 + 0 ≤ _; omega⟩ rfl
  have X5 := HBG.out.x.off ho5 HBG.out.ne
  have HWY := Lib.hid (way_any c _ w w5 h5 hb5)
  have HX5 := Lib.hid X5
  have HB5 := Lib.hid hb5
  clear h5 hb5 X5 ho5 k0 k1 k2 k4 k5 k6 k9 f9 f4 f5 f6 f10 x0
  go_wp2_with fail
  refine HWY.out.mono ?_
  rintro e w6 ⟨v, rfl, hv, h6, hb6⟩
  have X6 := HX5.out.below hb6 HX5.out.lt
  have x1 : w6.cell? ⟨xb, 1, none⟩ = some (.int .i64 xa) := X6.cell 1
  have k4 : w6.cell? ⟨c.g, 4, none⟩ = some (.int .i64 ((s.a + 1 : Nat) : Int)) := h6.told.2.2.2.2.1
  have f4 := h6.blk.frozen 4
  have H6 := Lib.hid h6
  clear h6 hb6 X6
  by_cases hv2 : v % 2 = 1
  · have d4 : ((v : Int) % 2 == 1) = true := by rw [beq_iff_eq]; omega
    have hdone : NextP c V is s w (w6.setCell ⟨c.g, 4, none⟩ (.int .i64 xa)) := by
      have h9 := H6.out.seta xa.toNat
      have hx := HX9.out.1
      rw [show ((xa.toNat : Nat) : Int) = xa by omega] at h9
      exact ⟨_, h9, HB5.out.same' (by show xa.toNat ≤ 200000; omega) rfl rfl rfl, rfl, .inr HX9.out.2.2.2⟩
    have HD := Lib.hid hdone
    clear hdone
    go_wp2_with fail
    go_end0
    exact ⟨rfl, HD.out⟩
  · have d4 : ((v : Int) % 2 == 1) = false := by rw [beq_eq_false_iff_ne]; omega
    have hdone : NextP c V is s w w6 := ⟨_, H6.out, HB5.out, rfl, .inr HX9.out.2.2.1⟩
    have HD := Lib.hid hdone
    clear hdone
    go_wp2_with fail
    go_end0
    exact ⟨rfl, HD.out⟩
end Go.Proofs.Ytimkiifcmegfeaa
/- code: the law's machine: next, a try less (written by cdnext.py). -/
namespace Go.Proofs.Ytimkiifcmegfeaa
open Go.RowKit
set_option linter.unusedVariables false
set_option linter.unusedSimpArgs false
attribute [local go_sem] Oper.semAt_some
set_option maxRecDepth 20000 in
set_option maxHeartbeats 4000000 in
theorem next_19 (c : Mc) (s : Ms) (w wx : World) (V : Wk) (is : List Ins) (gg : Int × Int) (h : MM c s w wx) (hb : Mb c s) (hst : s.st ≤ 400) (hG : Good c V is gg) (i : Ins) (hi : is[s.a]? = some i) (hop : i.op = 19) (hI : Inv V is s) : Calls Try.prog 24 #[.pointer (some ⟨c.g, 0, none⟩)] wx fun e w' => e = .returned (.tuple #[]) ∧ NextP c V is s w w' := by
  have hae := hI.at_lt hG
  have hop9 := hG.bounds hi
  obtain ⟨fb, fo, ib, io, n, cap, hH, han, hn3, hfm⟩ := h.here hG hi
  obtain ⟨xo, xa, xq, xc, xt⟩ := i
  obtain rfl : xo = 19 := hop
  have HB3 := Lib.hid (hb.begun hst)
  have HNEW := Lib.hid (fun w1 (h1 : MM c s w w1) => Begun.new h1 ⟨19, xa, xq, xc, xt⟩)
  have HH := Lib.hid (fun V (hV : Below wx.heap.size wx V) => hH.bel hV)
  have HM := Lib.hid (fun V (hV : Below wx.heap.size wx V) => h.belx hV)
  have c0 := hH.c0
  have f0 := hH.f0
  have c2 := h.told.2.2.1
  have c4 := h.told.2.2.2.2.1
  obtain ⟨a, ha⟩ : ∃ z, s.a = z := ⟨_, rfl⟩
  obtain ⟨cf, hcf⟩ : ∃ z, c.f = z := ⟨_, rfl⟩
  obtain ⟨m, hm⟩ : ∃ z, c.cl.fs.length = z := ⟨_, rfl⟩
  obtain ⟨st, hs9⟩ : ∃ z, s.st = z := ⟨_, rfl⟩
  rw [ha] at c4 han hH HH
  rw [hcf] at c2 f0 hfm
  rw [hm] at c0 hfm
  rw [hs9] at HNEW
  have hst4 : st ≤ 400 := by rw [← hs9]; exact hst
  have HE := Lib.hid (And.intro ha (And.intro hcf (And.intro hm hs9)))
  have HG := Lib.hid hG
  have HI := Lib.hid hI
  have HIX := Lib.hid hi
  have HOP := Lib.hid hop9
  have HBB := Lib.hid (And.intro hb hst)
  have HAE := Lib.hid hae
  clear h hb hG hI hi hH ha hcf hm hs9 hop9 hst hae
  have d0 : decide ((a : Int) < 0) = false := decide_eq_false (by omega)
  have d1 : decide ((a : Int) ≥ (n : Int)) = false := decide_eq_false (by omega)
  have hfi : (cf : Int) < (m : Int) := by omega
  have hai : (a : Int) < (n : Int) := by omega
  go_enter Try.func24, Try.ntmps24
  go_upto_region 0 with fail
  go_quiet (fail)
  obtain ⟨w1, hw1⟩ : ∃ V, wx.drewN nq = V := ⟨_, rfl⟩
  rw [hw1]
  have hb1 : Below wx.heap.size wx w1 := by rw [← hw1]; exact (Off.drewN (fun _ => False) _ _).below (Nat.le_refl _) (fun k h => h.elim)
  have h1 := HM.out w1 hb1
  have hH1 := HH.out w1 hb1
  have HN1 := Lib.hid (HNEW.out w1 h1)
  have c4 : w1.cell? ⟨c.g, 4, none⟩ = some (.int .i64 (a : Int)) := by rw [← HE.out.1]; exact h1.told.2.2.2.2.1
  have a0 := hH1.a0
  have a1 := hH1.a1
  have a2 := hH1.a2
  have a3 := hH1.a3
  have a4 := hH1.a4
  obtain ⟨w2, hw2⟩ : ∃ V, w1.alloc (.cells #[.int .u8 19, .int .i64 xa, .int .i64 xq, .int .i64 xc, .string (str xt)] 46) = V := ⟨_, rfl⟩
  obtain ⟨xb, hxb⟩ : ∃ z, w1.heap.size = z := ⟨_, rfl⟩
  obtain ⟨w3, hw3⟩ : ∃ V, w2.setCell ⟨c.g, 8, none⟩ (.int .i64 ((st : Int) + 1)) = V := ⟨_, rfl⟩
  have hb2 : Below w1.heap.size w1 w2 := by rw [← hw2]; exact (Below.refl _ _).alloc (Nat.le_refl _) _
  have m2 := h1.belx hb2
  have b8 : w2.cell? ⟨c.g, 8, none⟩ = some (.int .i64 (st : Int)) := by rw [← HE.out.2.2.2]; exact m2.told.2.2.2.2.2.2.2.2.1
  have g8 := m2.blk.frozen 8
  have hbg : Begun c s ⟨19, xa, xq, xc, xt⟩ w w3 xb := by rw [← hw3, ← hw2, ← hxb]; exact HN1.out
  have HW := Lib.hid (And.intro hxb (And.intro hw2 hw3))
  have HBG := Lib.hid hbg
  have x0 : w3.cell? ⟨xb, 0, none⟩ = some (.int .u8 19) := hbg.x.cell 0
  clear h1 hH1 hb1 HN1 HNEW HH HM hw2 hxb hw3 hb2 m2 hbg c0 f0 c2
  clear hw1
  go_upto_region 4 with fail
  rw [HW.out.1, HW.out.2.1]
  go_upto_region 5 with fail
  rw [HW.out.2.2]
  clear a0 a1 a2 a3 a4 c4 b8 g8
  have hx9 : ∃ l x, s.tr = l ++ [x] ∧ s.h = x.2 + 1 ∧ ∀ tv, Inv V is ⟨s.a + 1, s.h, tv, l, s.st + 1, s.dn⟩ := by
    have ho := HOP.out
    obtain ⟨r, htr, hfl, hc9⟩ := HI.out.closed HG.out HIX.out
    simp [Wk.closedAt] at hc9
    simp [opnd, wi] at ho
    obtain ⟨h01, h02, h03⟩ := hc9
    rcases List.eq_nil_or_concat s.tr with e | ⟨l, x, e⟩
    · rw [e] at htr
      have htr : r = 0 := htr
      omega
    · rw [List.concat_eq_append] at e
      rw [e, List.reverse_append] at htr
      obtain ⟨h0, a, p, i, h1, h2, h3, h4, h5, h6⟩ := htr
      have hrow : V.row r = (a, p) := by unfold Wk.row; rw [h1]; rfl
      have hht : V.ht p = x.2 := by unfold Wk.ht; rw [h5]
      rw [hrow] at h02 h03
      rw [hht] at h02
      exact ⟨l, x, e, h02, fun tv => ⟨a, h03, h6⟩⟩
  have t3 := HBG.out.m.told
  obtain ⟨hh, hhh⟩ : ∃ z, s.h = z := ⟨_, rfl⟩
  obtain ⟨tv, htv⟩ : ∃ z, s.tv = z := ⟨_, rfl⟩
  have k0 := t3.1
  have k1 := t3.2.1
  have k2 : w3.cell? ⟨c.g, 2, none⟩ = some (.int .i64 (cf : Int)) := by rw [← HE.out.2.1]; exact t3.2.2.1
  have k4 : w3.cell? ⟨c.g, 4, none⟩ = some (.int .i64 (a : Int)) := by rw [← HE.out.1]; exact t3.2.2.2.2.1
  have k5 : w3.cell? ⟨c.g, 5, none⟩ = some (.int .i64 hh) := by rw [← hhh]; exact t3.2.2.2.2.2.1
  have k6 : w3.cell? ⟨c.g, 6, none⟩ = some tv := by rw [← htv]; exact t3.2.2.2.2.2.2.1
  have k9 : w3.cell? ⟨c.g, 9, none⟩ = some (.bool false) := t3.2.2.2.2.2.2.2.2.2.1
  have f9 := HBG.out.m.blk.frozen 9
  have f4 := HBG.out.m.blk.frozen 4
  have f5 := HBG.out.m.blk.frozen 5
  have f6 := HBG.out.m.blk.frozen 6
  have f10 := HBG.out.m.blk.frozen 10
  have HHH := Lib.hid hhh
  have HTV := Lib.hid htv
  clear t3
  obtain ⟨l, x, el, hx2, hI9⟩ := hx9
  obtain ⟨b, cp, ev, y0, y1, hbg, hcp, hcm⟩ := HBG.out.m.last el
  obtain ⟨n9, hn9⟩ : ∃ z, l.length = z := ⟨_, rfl⟩
  obtain ⟨y, hy⟩ : ∃ z, x.2 = z := ⟨_, rfl⟩
  have ev : s.tv = .slice (some ⟨b, 0, none⟩) (l.length + 1) cp := ev
  have hnb : n9 ≤ 401 := by have h1 := HBB.out.1.trn; rw [el] at h1; simp at h1; have := HBB.out.2; omega
  have hyb : 0 ≤ y ∧ y ≤ 2000000 := by have h1 := HBB.out.1.tr x (by rw [el]; simp); have := HBB.out.2; omega
  have hab : a ≤ 200000 := by have := HAE.out.2; have := HE.out.1; omega
  have hdone : ∀ W, Below w3.heap.size w3 W → NextP c V is s w ((W.setCell ⟨c.g, 6, none⟩ (.slice (some ⟨b, 0, none⟩) n9 cp)).setCell ⟨c.g, 4, none⟩ (.int .i64 ((a : Int) + 1))) := by
    intro W hW
    have h9 := ((HBG.out.m.belx hW).pop el ev hn9).seta (s.a + 1)
    rw [show ((s.a + 1 : Nat) : Int) = (a : Int) + 1 by have := HE.out.1; omega] at h9
    have hle := HBB.out.1.h
    have htn := HBB.out.1.trn
    rw [el] at htn
    simp at htn
    exact ⟨_, h9, HBB.out.1.step HBB.out.2 rfl (by have := HAE.out.2; show s.a + 1 ≤ 200000; omega) ⟨hle.1, by show s.h ≤ _; omega⟩ (by show l.length ≤ _; omega) (fun z hz => by have := HBB.out.1.tr z (by rw [el]; simp; exact .inl hz); omega), rfl, .inr (hI9 _)⟩
  have HD := Lib.hid hdone
  rw [← htv, ev, hn9] at k6
  rw [hy] at y1 hx2
  rw [← hhh, hx2] at k5
  rw [hn9] at y0 y1 hcp
  have d0 : (((n9 + 1 : Nat) : Int) == 0) = false := by rw [beq_eq_false_iff_ne]; omega
  have q0 : IntKind.i64.wrap (((n9 + 1 : Nat) : Int) - 1) = (n9 : Int) := by rw [IntWalk.i64_in _ ⟨by omega, by omega⟩]; omega
  have q1 : (n9 : Int) < ((n9 + 1 : Nat) : Int) := by omega
  have q2 : ((n9 : Int) + 1 - 1) = (n9 : Int) := by omega
  have q4 : (n9 : Int) ≤ (cp : Int) := by omega
  have q6 : IntKind.i64.wrap (n9 : Int) = (n9 : Int) := IntWalk.i64_in _ ⟨by omega, by omega⟩
  have q7 : IntKind.i64.wrap ((n9 : Int) + 1 - 1) = (n9 : Int) := by rw [IntWalk.i64_in _ ⟨by omega, by omega⟩]; omega
  have q8 : (n9 : Int) < (n9 : Int) + 1 := by omega
  have q9 : IntKind.i64.wrap (y + 1) = y + 1 := IntWalk.i64_in _ ⟨by omega, by omega⟩
  have q5 : n9 ≤ cp := by omega
  have HM4 := Lib.hid (fun W (hW : Below w3.heap.size w3 W) => HBG.out.m.belx hW)
  clear hdone hhh htv el ev hn9 hy hI9 hx2 y0
  go_upto_region 53 with fail
  go_quiet (fail)
  obtain ⟨w4, hw4⟩ : ∃ V, w3.drewN nq = V := ⟨_, rfl⟩
  have hb4 : Below w3.heap.size w3 w4 := by rw [← hw4]; exact (Off.drewN (fun _ => False) _ _).below (Nat.le_refl _) (fun k h => h.elim)
  have c6 : w4.cell? ⟨c.g, 6, none⟩ = some (.slice (some ⟨b, 0, none⟩) (n9 + 1) cp) := (hb4.cell (World.block_lt_of_cell? w3 _ k6)).trans k6
  have c4 : w4.cell? ⟨c.g, 4, none⟩ = some (.int .i64 (a : Int)) := (hb4.cell (World.block_lt_of_cell? w3 _ k4)).trans k4
  have g4 := (HM4.out w4 hb4).blk.frozen 4
  have g6 := (HM4.out w4 hb4).blk.frozen 6
  have HDW := Lib.hid (HD.out w4 hb4)
  rw [hw4]
  clear hw4 hb4 k0 k1 k2 k4 k5 k6 k9 f9 f4 f5 f6 f10 x0 y1
  go_wp2_with fail
  go_end0
  exact ⟨rfl, HDW.out⟩
end Go.Proofs.Ytimkiifcmegfeaa
