/- Contracts, part BD. -/
import Derived.Test.YtimkiifcmegfeaaBH
/- code: the law's machine: next, what goes on (written by cdnext.py). -/
namespace Go.Proofs.Ytimkiifcmegfeaa
open Go.RowKit
set_option linter.unusedVariables false
set_option linter.unusedSimpArgs false
attribute [local go_sem] Oper.semAt_some
set_option maxRecDepth 20000 in
set_option maxHeartbeats 4000000 in
theorem next_20 (c : Mc) (s : Ms) (w wx : World) (V : Wk) (is : List Ins) (gg : Int × Int) (h : MM c s w wx) (hb : Mb c s) (hst : s.st ≤ 400) (hG : Good c V is gg) (i : Ins) (hi : is[s.a]? = some i) (hop : i.op = 20) (hI : Inv V is s) : Calls Try.prog 24 #[.pointer (some ⟨c.g, 0, none⟩)] wx fun e w' => e = .returned (.tuple #[]) ∧ NextP c V is s w w' := by
  have hae := hI.at_lt hG
  have hop9 := hG.bounds hi
  obtain ⟨fb, fo, ib, io, n, cap, hH, han, hn3, hfm⟩ := h.here hG hi
  obtain ⟨xo, xa, xq, xc, xt⟩ := i
  obtain rfl : xo = 20 := hop
  have HB3 := Lib.hid (hb.begun hst)
  have HNEW := Lib.hid (fun w1 (h1 : MM c s w w1) => Begun.new h1 ⟨20, xa, xq, xc, xt⟩)
  have HH := Lib.hid (fun V (hV : Below wx.heap.size wx V) => hH.bel hV)
  have HM := Lib.hid (fun V (hV : Below wx.heap.size wx V) => h.belx hV)
  have c0 := hH.c0
  have f0 := hH.f0
  have c2 := h.told.2.2.1
  have c4 := h.told.2.2.2.2.1
  obtain ⟨a, ha⟩ : ∃ z, s.a = z := ⟨_, rfl⟩
  obtain ⟨cf, hcf⟩ : ∃ z, c.f = z := ⟨_, rfl⟩
  obtain ⟨m, hm⟩ : ∃ z, c.cl.fs.length = z := ⟨_, rfl⟩
  obtain ⟨st, hs9⟩ : ∃ z, s.st = z := ⟨_, rfl⟩
  rw [ha] at c4 han hH HH
  rw [hcf] at c2 f0 hfm
  rw [hm] at c0 hfm
  rw [hs9] at HNEW
  have hst4 : st ≤ 400 := by rw [← hs9]; exact hst
  have HE := Lib.hid (And.intro ha (And.intro hcf (And.intro hm hs9)))
  have HG := Lib.hid hG
  have HI := Lib.hid hI
  have HIX := Lib.hid hi
  have HOP := Lib.hid hop9
  have HBB := Lib.hid (And.intro hb hst)
  have HAE := Lib.hid hae
  clear h hb hG hI hi hH ha hcf hm hs9 hop9 hst hae
  have d0 : decide ((a : Int) < 0) = false := decide_eq_false (by omega)
  have d1 : decide ((a : Int) ≥ (n : Int)) = false := decide_eq_false (by omega)
  have hfi : (cf : Int) < (m : Int) := by omega
  have hai : (a : Int) < (n : Int) := by omega
  go_enter Try.func24, Try.ntmps24
  go_upto_region 0 with fail
  go_quiet (fail)
  obtain ⟨w1, hw1⟩ : ∃ V, wx.drewN nq = V := ⟨_, rfl⟩
  rw [hw1]
  have hb1 : Below wx.heap.size wx w1 := by rw [← hw1]; exact (Off.drewN (fun _ => False) _ _).below (Nat.le_refl _) (fun k h => h.elim)
  have h1 := HM.out w1 hb1
  have hH1 := HH.out w1 hb1
  have HN1 := Lib.hid (HNEW.out w1 h1)
  have c4 : w1.cell? ⟨c.g, 4, none⟩ = some (.int .i64 (a : Int)) := by rw [← HE.out.1]; exact h1.told.2.2.2.2.1
  have a0 := hH1.a0
  have a1 := hH1.a1
  have a2 := hH1.a2
  have a3 := hH1.a3
  have a4 := hH1.a4
  obtain ⟨w2, hw2⟩ : ∃ V, w1.alloc (.cells #[.int .u8 20, .int .i64 xa, .int .i64 xq, .int .i64 xc, .string (str xt)] 46) = V := ⟨_, rfl⟩
  obtain ⟨xb, hxb⟩ : ∃ z, w1.heap.size = z := ⟨_, rfl⟩
  obtain ⟨w3, hw3⟩ : ∃ V, w2.setCell ⟨c.g, 8, none⟩ (.int .i64 ((st : Int) + 1)) = V := ⟨_, rfl⟩
  have hb2 : Below w1.heap.size w1 w2 := by rw [← hw2]; exact (Below.refl _ _).alloc (Nat.le_refl _) _
  have m2 := h1.belx hb2
  have b8 : w2.cell? ⟨c.g, 8, none⟩ = some (.int .i64 (st : Int)) := by rw [← HE.out.2.2.2]; exact m2.told.2.2.2.2.2.2.2.2.1
  have g8 := m2.blk.frozen 8
  have hbg : Begun c s ⟨20, xa, xq, xc, xt⟩ w w3 xb := by rw [← hw3, ← hw2, ← hxb]; exact HN1.out
  have HW := Lib.hid (And.intro hxb (And.intro hw2 hw3))
  have HBG := Lib.hid hbg
  have x0 : w3.cell? ⟨xb, 0, none⟩ = some (.int .u8 20) := hbg.x.cell 0
  clear h1 hH1 hb1 HN1 HNEW HH HM hw2 hxb hw3 hb2 m2 hbg c0 f0 c2
  clear hw1
  go_upto_region 4 with fail
  rw [HW.out.1, HW.out.2.1]
  go_upto_region 5 with fail
  rw [HW.out.2.2]
  clear a0 a1 a2 a3 a4 c4 b8 g8
  have HON : Hid (∀ W, MM c { s with st := s.st + 1 } w W → Calls Try.prog 49 #[.pointer (some ⟨c.g, 0, none⟩), .int .i64 (xa + 1), .int .i64 1] W fun e w' => e = .returned (.tuple #[]) ∧ NextP c V is s w w') := Lib.hid (by
    have ho := HOP.out
    have hm3 := HG.out.hm
    obtain ⟨⟨t9, p9⟩, ⟨r9, he9⟩, hl9, hI9⟩ := HI.out.plain HG.out HIX.out (by refine ⟨?_, ?_, ?_, ?_, ?_, ?_⟩ <;> (show (20 : Nat) ≠ _; decide)) (by show (20 : Nat) ≠ 8; decide) (by show (20 : Nat) ≠ 25; decide)
    simp [Wk.eff] at he9
    simp [opnd, wi] at ho
    have he9 : (xa + 1) = t9 ∧ 1 = p9 := by first | exact he9 | omega | (obtain ⟨h1, h2⟩ := he9; omega)
    rw [← he9.1, ← he9.2] at hI9
    rw [← he9.1] at hl9
    exact onward HBB.out.1 HBB.out.2 HAE.out.2 (by omega) (by omega) hl9 hI9)
  have x1 : w3.cell? ⟨xb, 1, none⟩ = some (.int .i64 xa) := HBG.out.x.cell 1
  have hop2 := HOP.out
  simp [opnd, wi] at hop2
  have q0 : IntKind.i64.wrap (xa + 1) = xa + 1 := IntWalk.i64_in _ ⟨by omega, by omega⟩
  go_wp2_with fail
  refine (HON.out _ HBG.out.m).mono ?_
  rintro e w5 ⟨rfl, h5⟩
  have H5 := Lib.hid h5
  clear h5
  go_wp2_with fail
  go_end0
  exact ⟨rfl, H5.out⟩
set_option maxRecDepth 20000 in
set_option maxHeartbeats 4000000 in
theorem next_3 (c : Mc) (s : Ms) (w wx : World) (V : Wk) (is : List Ins) (gg : Int × Int) (h : MM c s w wx) (hb : Mb c s) (hst : s.st ≤ 400) (hG : Good c V is gg) (i : Ins) (hi : is[s.a]? = some i) (hop : i.op = 3) (hI : Inv V is s) : Calls Try.prog 24 #[.pointer (some ⟨c.g, 0, none⟩)] wx fun e w' => e = .returned (.tuple #[]) ∧ NextP c V is s w w' := by
  have hae := hI.at_lt hG
  have hop9 := hG.bounds hi
  obtain ⟨fb, fo, ib, io, n, cap, hH, han, hn3, hfm⟩ := h.here hG hi
  obtain ⟨xo, xa, xq, xc, xt⟩ := i
  obtain rfl : xo = 3 := hop
  have HB3 := Lib.hid (hb.begun hst)
  have HNEW := Lib.hid (fun w1 (h1 : MM c s w w1) => Begun.new h1 ⟨3, xa, xq, xc, xt⟩)
  have HH := Lib.hid (fun V (hV : Below wx.heap.size wx V) => hH.bel hV)
  have HM := Lib.hid (fun V (hV : Below wx.heap.size wx V) => h.belx hV)
  have c0 := hH.c0
  have f0 := hH.f0
  have c2 := h.told.2.2.1
  have c4 := h.told.2.2.2.2.1
  obtain ⟨a, ha⟩ : ∃ z, s.a = z := ⟨_, rfl⟩
  obtain ⟨cf, hcf⟩ : ∃ z, c.f = z := ⟨_, rfl⟩
  obtain ⟨m, hm⟩ : ∃ z, c.cl.fs.length = z := ⟨_, rfl⟩
  obtain ⟨st, hs9⟩ : ∃ z, s.st = z := ⟨_, rfl⟩
  rw [ha] at c4 han hH HH
  rw [hcf] at c2 f0 hfm
  rw [hm] at c0 hfm
  rw [hs9] at HNEW
  have hst4 : st ≤ 400 := by rw [← hs9]; exact hst
  have HE := Lib.hid (And.intro ha (And.intro hcf (And.intro hm hs9)))
  have HG := Lib.hid hG
  have HI := Lib.hid hI
  have HIX := Lib.hid hi
  have HOP := Lib.hid hop9
  have HBB := Lib.hid (And.intro hb hst)
  have HAE := Lib.hid hae
  clear h hb hG hI hi hH ha hcf hm hs9 hop9 hst hae
  have d0 : decide ((a : Int) < 0) = false := decide_eq_false (by omega)
  have d1 : decide ((a : Int) ≥ (n : Int)) = false := decide_eq_false (by omega)
  have hfi : (cf : Int) < (m : Int) := by omega
  have hai : (a : Int) < (n : Int) := by omega
  go_enter Try.func24, Try.ntmps24
  go_upto_region 0 with fail
  go_quiet (fail)
  obtain ⟨w1, hw1⟩ : ∃ V, wx.drewN nq = V := ⟨_, rfl⟩
  rw [hw1]
  have hb1 : Below wx.heap.size wx w1 := by rw [← hw1]; exact (Off.drewN (fun _ => False) _ _).below (Nat.le_refl _) (fun k h => h.elim)
  have h1 := HM.out w1 hb1
  have hH1 := HH.out w1 hb1
  have HN1 := Lib.hid (HNEW.out w1 h1)
  have c4 : w1.cell? ⟨c.g, 4, none⟩ = some (.int .i64 (a : Int)) := by rw [← HE.out.1]; exact h1.told.2.2.2.2.1
  have a0 := hH1.a0
  have a1 := hH1.a1
  have a2 := hH1.a2
  have a3 := hH1.a3
  have a4 := hH1.a4
  obtain ⟨w2, hw2⟩ : ∃ V, w1.alloc (.cells #[.int .u8 3, .int .i64 xa, .int .i64 xq, .int .i64 xc, .string (str xt)] 46) = V := ⟨_, rfl⟩
  obtain ⟨xb, hxb⟩ : ∃ z, w1.heap.size = z := ⟨_, rfl⟩
  obtain ⟨w3, hw3⟩ : ∃ V, w2.setCell ⟨c.g, 8, none⟩ (.int .i64 ((st : Int) + 1)) = V := ⟨_, rfl⟩
  have hb2 : Below w1.heap.size w1 w2 := by rw [← hw2]; exact (Below.refl _ _).alloc (Nat.le_refl _) _
  have m2 := h1.belx hb2
  have b8 : w2.cell? ⟨c.g, 8, none⟩ = some (.int .i64 (st : Int)) := by rw [← HE.out.2.2.2]; exact m2.told.2.2.2.2.2.2.2.2.1
  have g8 := m2.blk.frozen 8
  have hbg : Begun c s ⟨3, xa, xq, xc, xt⟩ w w3 xb := by rw [← hw3, ← hw2, ← hxb]; exact HN1.out
  have HW := Lib.hid (And.intro hxb (And.intro hw2 hw3))
  have HBG := Lib.hid hbg
  have x0 : w3.cell? ⟨xb, 0, none⟩ = some (.int .u8 3) := hbg.x.cell 0
  clear h1 hH1 hb1 HN1 HNEW HH HM hw2 hxb hw3 hb2 m2 hbg c0 f0 c2
  clear hw1
  go_upto_region 4 with fail
  rw [HW.out.1, HW.out.2.1]
  go_upto_region 5 with fail
  rw [HW.out.2.2]
  clear a0 a1 a2 a3 a4 c4 b8 g8
  have hx9 : xa < s.h := by
    have ho := HOP.out
    obtain ⟨⟨t9, p9⟩, ⟨r9, he9⟩, hl9, hI9⟩ := HI.out.plain HG.out HIX.out (by refine ⟨?_, ?_, ?_, ?_, ?_, ?_⟩ <;> (show (3 : Nat) ≠ _; decide)) (by show (3 : Nat) ≠ 8; decide) (by show (3 : Nat) ≠ 25; decide)
    simp [Wk.eff] at he9
    simp [opnd, wi] at ho
    exact he9.1
  have HON : Hid (∀ W, MM c { s with st := s.st + 1 } w W → Calls Try.prog 49 #[.pointer (some ⟨c.g, 0, none⟩), .int .i64 0, .int .i64 1] W fun e w' => e = .returned (.tuple #[]) ∧ NextP c V is s w w') := Lib.hid (by
    have ho := HOP.out
    have hm3 := HG.out.hm
    obtain ⟨⟨t9, p9⟩, ⟨r9, he9⟩, hl9, hI9⟩ := HI.out.plain HG.out HIX.out (by refine ⟨?_, ?_, ?_, ?_, ?_, ?_⟩ <;> (show (3 : Nat) ≠ _; decide)) (by show (3 : Nat) ≠ 8; decide) (by show (3 : Nat) ≠ 25; decide)
    simp [Wk.eff] at he9
    simp [opnd, wi] at ho
    have he9 : 0 = t9 ∧ 1 = p9 := by exact he9.2
    rw [← he9.1, ← he9.2] at hI9
    rw [← he9.1] at hl9
    exact onward HBB.out.1 HBB.out.2 HAE.out.2 (by omega) (by omega) hl9 hI9)
  have x1 : w3.cell? ⟨xb, 1, none⟩ = some (.int .i64 xa) := HBG.out.x.cell 1
  have t3 := HBG.out.m.told
  obtain ⟨hh, hhh⟩ : ∃ z, s.h = z := ⟨_, rfl⟩
  obtain ⟨tv, htv⟩ : ∃ z, s.tv = z := ⟨_, rfl⟩
  have k0 := t3.1
  have k1 := t3.2.1
  have k2 : w3.cell? ⟨c.g, 2, none⟩ = some (.int .i64 (cf : Int)) := by rw [← HE.out.2.1]; exact t3.2.2.1
  have k4 : w3.cell? ⟨c.g, 4, none⟩ = some (.int .i64 (a : Int)) := by rw [← HE.out.1]; exact t3.2.2.2.2.1
  have k5 : w3.cell? ⟨c.g, 5, none⟩ = some (.int .i64 hh) := by rw [← hhh]; exact t3.2.2.2.2.2.1
  have k6 : w3.cell? ⟨c.g, 6, none⟩ = some tv := by rw [← htv]; exact t3.2.2.2.2.2.2.1
  have k9 : w3.cell? ⟨c.g, 9, none⟩ = some (.bool false) := t3.2.2.2.2.2.2.2.2.2.1
  have f9 := HBG.out.m.blk.frozen 9
  have f4 := HBG.out.m.blk.frozen 4
  have f5 := HBG.out.m.blk.frozen 5
  have f6 := HBG.out.m.blk.frozen 6
  have f10 := HBG.out.m.blk.frozen 10
  have HHH := Lib.hid hhh
  have HTV := Lib.hid htv
  clear t3
  obtain ⟨w4, hw4⟩ : ∃ V, (w3.setCell ⟨c.g, 9, none⟩ (.bool false)).drew = V := ⟨_, rfl⟩
  have h4 : MM c { s with st := s.st + 1 } w w4 := by rw [← hw4]; exact HBG.out.m.setw.belx ((Below.refl _ _).drew)
  have HW4 := Lib.hid hw4
  have H4 := Lib.hid h4
  clear hw4 h4
  rw [hhh] at hx9
  have q0 : decide (xa ≥ hh) = false := decide_eq_false (by omega)
  clear hx9 hhh htv
  go_upto_region 11 with fail
  go_region
  rw [HW4.out]
  go_wp2_with fail
  refine (HON.out _ H4.out).mono ?_
  rintro e w5 ⟨rfl, h5⟩
  have H5 := Lib.hid h5
  clear h5
  go_wp2_with fail
  go_end0
  exact ⟨rfl, H5.out⟩
end Go.Proofs.Ytimkiifcmegfeaa
/- code: the law's machine: next, what may raise (written by cdnext.py). -/
namespace Go.Proofs.Ytimkiifcmegfeaa
open Go.RowKit
set_option linter.unusedVariables false
set_option linter.unusedSimpArgs false
attribute [local go_sem] Oper.semAt_some
set_option maxRecDepth 20000 in
set_option maxHeartbeats 4000000 in
theorem next_7 (c : Mc) (s : Ms) (w wx : World) (V : Wk) (is : List Ins) (gg : Int × Int) (h : MM c s w wx) (hb : Mb c s) (hst : s.st ≤ 400) (hG : Good c V is gg) (i : Ins) (hi : is[s.a]? = some i) (hop : i.op = 7) (hI : Inv V is s) : Calls Try.prog 24 #[.pointer (some ⟨c.g, 0, none⟩)] wx fun e w' => e = .returned (.tuple #[]) ∧ NextP c V is s w w' := by
  have hae := hI.at_lt hG
  have hop9 := hG.bounds hi
  obtain ⟨fb, fo, ib, io, n, cap, hH, han, hn3, hfm⟩ := h.here hG hi
  obtain ⟨xo, xa, xq, xc, xt⟩ := i
  obtain rfl : xo = 7 := hop
  have HB3 := Lib.hid (hb.begun hst)
  have HNEW := Lib.hid (fun w1 (h1 : MM c s w w1) => Begun.new h1 ⟨7, xa, xq, xc, xt⟩)
  have HH := Lib.hid (fun V (hV : Below wx.heap.size wx V) => hH.bel hV)
  have HM := Lib.hid (fun V (hV : Below wx.heap.size wx V) => h.belx hV)
  have c0 := hH.c0
  have f0 := hH.f0
  have c2 := h.told.2.2.1
  have c4 := h.told.2.2.2.2.1
  obtain ⟨a, ha⟩ : ∃ z, s.a = z := ⟨_, rfl⟩
  obtain ⟨cf, hcf⟩ : ∃ z, c.f = z := ⟨_, rfl⟩
  obtain ⟨m, hm⟩ : ∃ z, c.cl.fs.length = z := ⟨_, rfl⟩
  obtain ⟨st, hs9⟩ : ∃ z, s.st = z := ⟨_, rfl⟩
  rw [ha] at c4 han hH HH
  rw [hcf] at c2 f0 hfm
  rw [hm] at c0 hfm
  rw [hs9] at HNEW
  have hst4 : st ≤ 400 := by rw [← hs9]; exact hst
  have HE := Lib.hid (And.intro ha (And.intro hcf (And.intro hm hs9)))
  have HG := Lib.hid hG
  have HI := Lib.hid hI
  have HIX := Lib.hid hi
  have HOP := Lib.hid hop9
  have HBB := Lib.hid (And.intro hb hst)
  have HAE := Lib.hid hae
  clear h hb hG hI hi hH ha hcf hm hs9 hop9 hst hae
  have d0 : decide ((a : Int) < 0) = false := decide_eq_false (by omega)
  have d1 : decide ((a : Int) ≥ (n : Int)) = false := decide_eq_false (by omega)
  have hfi : (cf : Int) < (m : Int) := by omega
  have hai : (a : Int) < (n : Int) := by omega
  go_enter Try.func24, Try.ntmps24
  go_upto_region 0 with fail
  go_quiet (fail)
  obtain ⟨w1, hw1⟩ : ∃ V, wx.drewN nq = V := ⟨_, rfl⟩
  rw [hw1]
  have hb1 : Below wx.heap.size wx w1 := by rw [← hw1]; exact (Off.drewN (fun _ => False) _ _).below (Nat.le_refl _) (fun k h => h.elim)
  have h1 := HM.out w1 hb1
  have hH1 := HH.out w1 hb1
  have HN1 := Lib.hid (HNEW.out w1 h1)
  have c4 : w1.cell? ⟨c.g, 4, none⟩ = some (.int .i64 (a : Int)) := by rw [← HE.out.1]; exact h1.told.2.2.2.2.1
  have a0 := hH1.a0
  have a1 := hH1.a1
  have a2 := hH1.a2
  have a3 := hH1.a3
  have a4 := hH1.a4
  obtain ⟨w2, hw2⟩ : ∃ V, w1.alloc (.cells #[.int .u8 7, .int .i64 xa, .int .i64 xq, .int .i64 xc, .string (str xt)] 46) = V := ⟨_, rfl⟩
  obtain ⟨xb, hxb⟩ : ∃ z, w1.heap.size = z := ⟨_, rfl⟩
  obtain ⟨w3, hw3⟩ : ∃ V, w2.setCell ⟨c.g, 8, none⟩ (.int .i64 ((st : Int) + 1)) = V := ⟨_, rfl⟩
  have hb2 : Below w1.heap.size w1 w2 := by rw [← hw2]; exact (Below.refl _ _).alloc (Nat.le_refl _) _
  have m2 := h1.belx hb2
  have b8 : w2.cell? ⟨c.g, 8, none⟩ = some (.int .i64 (st : Int)) := by rw [← HE.out.2.2.2]; exact m2.told.2.2.2.2.2.2.2.2.1
  have g8 := m2.blk.frozen 8
  have hbg : Begun c s ⟨7, xa, xq, xc, xt⟩ w w3 xb := by rw [← hw3, ← hw2, ← hxb]; exact HN1.out
  have HW := Lib.hid (And.intro hxb (And.intro hw2 hw3))
  have HBG := Lib.hid hbg
  have x0 : w3.cell? ⟨xb, 0, none⟩ = some (.int .u8 7) := hbg.x.cell 0
  clear h1 hH1 hb1 HN1 HNEW HH HM hw2 hxb hw3 hb2 m2 hbg c0 f0 c2
  clear hw1
  go_upto_region 4 with fail
  rw [HW.out.1, HW.out.2.1]
  go_upto_region 5 with fail
  rw [HW.out.2.2]
  clear a0 a1 a2 a3 a4 c4 b8 g8
  have HSO : Hid (∀ W, MM c { s with st := s.st + 1 } w W → Calls Try.prog 51 #[.pointer (some ⟨c.g, 0, none⟩), .int .i64 2] W fun e w' => e = .returned (.tuple #[]) ∧ NextP c V is s w w') := Lib.hid (by
    have ho := HOP.out
    obtain ⟨⟨t9, p9⟩, ⟨r9, he9⟩, hl9, hI9⟩ := HI.out.plain HG.out HIX.out (by refine ⟨?_, ?_, ?_, ?_, ?_, ?_⟩ <;> (show (7 : Nat) ≠ _; decide)) (by show (7 : Nat) ≠ 8; decide) (by show (7 : Nat) ≠ 25; decide)
    simp [Wk.eff] at he9
    simp [opnd, wi] at ho
    have he9 : 2 = t9 ∧ 1 = p9 := by first | exact he9 | omega
    rw [← he9.1, ← he9.2] at hI9
    rw [← he9.1] at hl9
    exact someward HG.out HBB.out.1 HBB.out.2 HI.out (by omega) hl9 hI9)
  go_wp2_with fail
  refine (HSO.out _ HBG.out.m).mono ?_
  rintro e w5 ⟨rfl, h5⟩
  have H5 := Lib.hid h5
  clear h5
  go_wp2_with fail
  go_end0
  exact ⟨rfl, H5.out⟩
set_option maxRecDepth 20000 in
set_option maxHeartbeats 4000000 in
theorem next_16 (c : Mc) (s : Ms) (w wx : World) (V : Wk) (is : List Ins) (gg : Int × Int) (h : MM c s w wx) (hb : Mb c s) (hst : s.st ≤ 400) (hG : Good c V is gg) (i : Ins) (hi : is[s.a]? = some i) (hop : i.op = 16) (hI : Inv V is s) : Calls Try.prog 24 #[.pointer (some ⟨c.g, 0, none⟩)] wx fun e w' => e = .returned (.tuple #[]) ∧ NextP c V is s w w' := by
  have hae := hI.at_lt hG
  have hop9 := hG.bounds hi
  obtain ⟨fb, fo, ib, io, n, cap, hH, han, hn3, hfm⟩ := h.here hG hi
  obtain ⟨xo, xa, xq, xc, xt⟩ := i
  obtain rfl : xo = 16 := hop
  have HB3 := Lib.hid (hb.begun hst)
  have HNEW := Lib.hid (fun w1 (h1 : MM c s w w1) => Begun.new h1 ⟨16, xa, xq, xc, xt⟩)
  have HH := Lib.hid (fun V (hV : Below wx.heap.size wx V) => hH.bel hV)
  have HM := Lib.hid (fun V (hV : Below wx.heap.size wx V) => h.belx hV)
  have c0 := hH.c0
  have f0 := hH.f0
  have c2 := h.told.2.2.1
  have c4 := h.told.2.2.2.2.1
  obtain ⟨a, ha⟩ : ∃ z, s.a = z := ⟨_, rfl⟩
  obtain ⟨cf, hcf⟩ : ∃ z, c.f = z := ⟨_, rfl⟩
  obtain ⟨m, hm⟩ : ∃ z, c.cl.fs.length = z := ⟨_, rfl⟩
  obtain ⟨st, hs9⟩ : ∃ z, s.st = z := ⟨_, rfl⟩
  rw [ha] at c4 han hH HH
  rw [hcf] at c2 f0 hfm
  rw [hm] at c0 hfm
  rw [hs9] at HNEW
  have hst4 : st ≤ 400 := by rw [← hs9]; exact hst
  have HE := Lib.hid (And.intro ha (And.intro hcf (And.intro hm hs9)))
  have HG := Lib.hid hG
  have HI := Lib.hid hI
  have HIX := Lib.hid hi
  have HOP := Lib.hid hop9
  have HBB := Lib.hid (And.intro hb hst)
  have HAE := Lib.hid hae
  clear h hb hG hI hi hH ha hcf hm hs9 hop9 hst hae
  have d0 : decide ((a : Int) < 0) = false := decide_eq_false (by omega)
  have d1 : decide ((a : Int) ≥ (n : Int)) = false := decide_eq_false (by omega)
  have hfi : (cf : Int) < (m : Int) := by omega
  have hai : (a : Int) < (n : Int) := by omega
  go_enter Try.func24, Try.ntmps24
  go_upto_region 0 with fail
  go_quiet (fail)
  obtain ⟨w1, hw1⟩ : ∃ V, wx.drewN nq = V := ⟨_, rfl⟩
  rw [hw1]
  have hb1 : Below wx.heap.size wx w1 := by rw [← hw1]; exact (Off.drewN (fun _ => False) _ _).below (Nat.le_refl _) (fun k h => h.elim)
  have h1 := HM.out w1 hb1
  have hH1 := HH.out w1 hb1
  have HN1 := Lib.hid (HNEW.out w1 h1)
  have c4 : w1.cell? ⟨c.g, 4, none⟩ = some (.int .i64 (a : Int)) := by rw [← HE.out.1]; exact h1.told.2.2.2.2.1
  have a0 := hH1.a0
  have a1 := hH1.a1
  have a2 := hH1.a2
  have a3 := hH1.a3
  have a4 := hH1.a4
  obtain ⟨w2, hw2⟩ : ∃ V, w1.alloc (.cells #[.int .u8 16, .int .i64 xa, .int .i64 xq, .int .i64 xc, .string (str xt)] 46) = V := ⟨_, rfl⟩
  obtain ⟨xb, hxb⟩ : ∃ z, w1.heap.size = z := ⟨_, rfl⟩
  obtain ⟨w3, hw3⟩ : ∃ V, w2.setCell ⟨c.g, 8, none⟩ (.int .i64 ((st : Int) + 1)) = V := ⟨_, rfl⟩
  have hb2 : Below w1.heap.size w1 w2 := by rw [← hw2]; exact (Below.refl _ _).alloc (Nat.le_refl _) _
  have m2 := h1.belx hb2
  have b8 : w2.cell? ⟨c.g, 8, none⟩ = some (.int .i64 (st : Int)) := by rw [← HE.out.2.2.2]; exact m2.told.2.2.2.2.2.2.2.2.1
  have g8 := m2.blk.frozen 8
  have hbg : Begun c s ⟨16, xa, xq, xc, xt⟩ w w3 xb := by rw [← hw3, ← hw2, ← hxb]; exact HN1.out
  have HW := Lib.hid (And.intro hxb (And.intro hw2 hw3))
  have HBG := Lib.hid hbg
  have x0 : w3.cell? ⟨xb, 0, none⟩ = some (.int .u8 16) := hbg.x.cell 0
  clear h1 hH1 hb1 HN1 HNEW HH HM hw2 hxb hw3 hb2 m2 hbg c0 f0 c2
  clear hw1
  go_upto_region 4 with fail
  rw [HW.out.1, HW.out.2.1]
  go_upto_region 5 with fail
  rw [HW.out.2.2]
  clear a0 a1 a2 a3 a4 c4 b8 g8
  have HSO : Hid (∀ W, MM c { s with st := s.st + 1 } w W → Calls Try.prog 51 #[.pointer (some ⟨c.g, 0, none⟩), .int .i64 (takesN xt : Int)] W fun e w' => e = .returned (.tuple #[]) ∧ NextP c V is s w w') := Lib.hid (by
    have ho := HOP.out
    obtain ⟨⟨t9, p9⟩, ⟨r9, he9⟩, hl9, hI9⟩ := HI.out.plain HG.out HIX.out (by refine ⟨?_, ?_, ?_, ?_, ?_, ?_⟩ <;> (show (16 : Nat) ≠ _; decide)) (by show (16 : Nat) ≠ 8; decide) (by show (16 : Nat) ≠ 25; decide)
    simp [Wk.eff] at he9
    simp [opnd, wi] at ho
    have he9 : (takesN xt : Int) = t9 ∧ 1 = p9 := by first | exact he9 | omega
    rw [← he9.1, ← he9.2] at hI9
    rw [← he9.1] at hl9
    exact someward HG.out HBB.out.1 HBB.out.2 HI.out (by have := takesN_le xt; omega) hl9 hI9)
  have x4 : w3.cell? ⟨xb, 4, none⟩ = some (.string (str xt)) := HBG.out.x.cell 4
  have t3 := HBG.out.m.told
  obtain ⟨hh, hhh⟩ : ∃ z, s.h = z := ⟨_, rfl⟩
  obtain ⟨tv, htv⟩ : ∃ z, s.tv = z := ⟨_, rfl⟩
  have k0 := t3.1
  have k1 := t3.2.1
  have k2 : w3.cell? ⟨c.g, 2, none⟩ = some (.int .i64 (cf : Int)) := by rw [← HE.out.2.1]; exact t3.2.2.1
  have k4 : w3.cell? ⟨c.g, 4, none⟩ = some (.int .i64 (a : Int)) := by rw [← HE.out.1]; exact t3.2.2.2.2.1
  have k5 : w3.cell? ⟨c.g, 5, none⟩ = some (.int .i64 hh) := by rw [← hhh]; exact t3.2.2.2.2.2.1
  have k6 : w3.cell? ⟨c.g, 6, none⟩ = some tv := by rw [← htv]; exact t3.2.2.2.2.2.2.1
  have k9 : w3.cell? ⟨c.g, 9, none⟩ = some (.bool false) := t3.2.2.2.2.2.2.2.2.2.1
  have f9 := HBG.out.m.blk.frozen 9
  have f4 := HBG.out.m.blk.frozen 4
  have f5 := HBG.out.m.blk.frozen 5
  have f6 := HBG.out.m.blk.frozen 6
  have f10 := HBG.out.m.blk.frozen 10
  have HHH := Lib.hid hhh
  have HTV := Lib.hid htv
  clear t3
  have HTK := Lib.hid (rtakes_any xt w3)
  have q0 : decide (0 < takesN xt) = true := by
    have ho := HOP.out
    simp [opnd, wi] at ho
    exact decide_eq_true ho.1.2
  obtain ⟨tn, htn⟩ : ∃ z, takesN xt = z := ⟨_, rfl⟩
  rw [htn] at HSO HTK q0
  clear hhh htv
  rw [q0] at HTK
  go_upto_region 42 with fail
  go_wp2_with fail
  refine HTK.out.mono ?_
  rintro e w9 ⟨rfl, rfl⟩
  go_wp2_with fail
  refine (HSO.out _ HBG.out.m.setw).mono ?_
  rintro e w5 ⟨rfl, h5⟩
  have H5 := Lib.hid h5
  clear h5
  go_wp2_with fail
  go_end0
  exact ⟨rfl, H5.out⟩
end Go.Proofs.Ytimkiifcmegfeaa
/- code: the law's machine: next, what goes on (written by cdnext.py). -/
namespace Go.Proofs.Ytimkiifcmegfeaa
open Go.RowKit
set_option linter.unusedVariables false
set_option linter.unusedSimpArgs false
attribute [local go_sem] Oper.semAt_some
set_option maxRecDepth 20000 in
set_option maxHeartbeats 4000000 in
theorem next_24 (c : Mc) (s : Ms) (w wx : World) (V : Wk) (is : List Ins) (gg : Int × Int) (h : MM c s w wx) (hb : Mb c s) (hst : s.st ≤ 400) (hG : Good c V is gg) (i : Ins) (hi : is[s.a]? = some i) (hop : i.op = 24) (hI : Inv V is s) : Calls Try.prog 24 #[.pointer (some ⟨c.g, 0, none⟩)] wx fun e w' => e = .returned (.tuple #[]) ∧ NextP c V is s w w' := by
  have hae := hI.at_lt hG
  have hop9 := hG.bounds hi
  obtain ⟨fb, fo, ib, io, n, cap, hH, han, hn3, hfm⟩ := h.here hG hi
  obtain ⟨xo, xa, xq, xc, xt⟩ := i
  obtain rfl : xo = 24 := hop
  have HB3 := Lib.hid (hb.begun hst)
  have HNEW := Lib.hid (fun w1 (h1 : MM c s w w1) => Begun.new h1 ⟨24, xa, xq, xc, xt⟩)
  have HH := Lib.hid (fun V (hV : Below wx.heap.size wx V) => hH.bel hV)
  have HM := Lib.hid (fun V (hV : Below wx.heap.size wx V) => h.belx hV)
  have c0 := hH.c0
  have f0 := hH.f0
  have c2 := h.told.2.2.1
  have c4 := h.told.2.2.2.2.1
  obtain ⟨a, ha⟩ : ∃ z, s.a = z := ⟨_, rfl⟩
  obtain ⟨cf, hcf⟩ : ∃ z, c.f = z := ⟨_, rfl⟩
  obtain ⟨m, hm⟩ : ∃ z, c.cl.fs.length = z := ⟨_, rfl⟩
  obtain ⟨st, hs9⟩ : ∃ z, s.st = z := ⟨_, rfl⟩
  rw [ha] at c4 han hH HH
  rw [hcf] at c2 f0 hfm
  rw [hm] at c0 hfm
  rw [hs9] at HNEW
  have hst4 : st ≤ 400 := by rw [← hs9]; exact hst
  have HE := Lib.hid (And.intro ha (And.intro hcf (And.intro hm hs9)))
  have HG := Lib.hid hG
  have HI := Lib.hid hI
  have HIX := Lib.hid hi
  have HOP := Lib.hid hop9
  have HBB := Lib.hid (And.intro hb hst)
  have HAE := Lib.hid hae
  clear h hb hG hI hi hH ha hcf hm hs9 hop9 hst hae
  have d0 : decide ((a : Int) < 0) = false := decide_eq_false (by omega)
  have d1 : decide ((a : Int) ≥ (n : Int)) = false := decide_eq_false (by omega)
  have hfi : (cf : Int) < (m : Int) := by omega
  have hai : (a : Int) < (n : Int) := by omega
  go_enter Try.func24, Try.ntmps24
  go_upto_region 0 with fail
  go_quiet (fail)
  obtain ⟨w1, hw1⟩ : ∃ V, wx.drewN nq = V := ⟨_, rfl⟩
  rw [hw1]
  have hb1 : Below wx.heap.size wx w1 := by rw [← hw1]; exact (Off.drewN (fun _ => False) _ _).below (Nat.le_refl _) (fun k h => h.elim)
  have h1 := HM.out w1 hb1
  have hH1 := HH.out w1 hb1
  have HN1 := Lib.hid (HNEW.out w1 h1)
  have c4 : w1.cell? ⟨c.g, 4, none⟩ = some (.int .i64 (a : Int)) := by rw [← HE.out.1]; exact h1.told.2.2.2.2.1
  have a0 := hH1.a0
  have a1 := hH1.a1
  have a2 := hH1.a2
  have a3 := hH1.a3
  have a4 := hH1.a4
  obtain ⟨w2, hw2⟩ : ∃ V, w1.alloc (.cells #[.int .u8 24, .int .i64 xa, .int .i64 xq, .int .i64 xc, .string (str xt)] 46) = V := ⟨_, rfl⟩
  obtain ⟨xb, hxb⟩ : ∃ z, w1.heap.size = z := ⟨_, rfl⟩
  obtain ⟨w3, hw3⟩ : ∃ V, w2.setCell ⟨c.g, 8, none⟩ (.int .i64 ((st : Int) + 1)) = V := ⟨_, rfl⟩
  have hb2 : Below w1.heap.size w1 w2 := by rw [← hw2]; exact (Below.refl _ _).alloc (Nat.le_refl _) _
  have m2 := h1.belx hb2
  have b8 : w2.cell? ⟨c.g, 8, none⟩ = some (.int .i64 (st : Int)) := by rw [← HE.out.2.2.2]; exact m2.told.2.2.2.2.2.2.2.2.1
  have g8 := m2.blk.frozen 8
  have hbg : Begun c s ⟨24, xa, xq, xc, xt⟩ w w3 xb := by rw [← hw3, ← hw2, ← hxb]; exact HN1.out
  have HW := Lib.hid (And.intro hxb (And.intro hw2 hw3))
  have HBG := Lib.hid hbg
  have x0 : w3.cell? ⟨xb, 0, none⟩ = some (.int .u8 24) := hbg.x.cell 0
  clear h1 hH1 hb1 HN1 HNEW HH HM hw2 hxb hw3 hb2 m2 hbg c0 f0 c2
  clear hw1
  go_upto_region 4 with fail
  rw [HW.out.1, HW.out.2.1]
  go_upto_region 5 with fail
  rw [HW.out.2.2]
  clear a0 a1 a2 a3 a4 c4 b8 g8
  have hx9 : c.f = 0 ∧ 0 ≤ xa ∧ xa < (c.cl.rs.length : Int) := by
    have ho := HOP.out
    obtain ⟨⟨t9, p9⟩, ⟨r9, he9⟩, hl9, hI9⟩ := HI.out.plain HG.out HIX.out (by refine ⟨?_, ?_, ?_, ?_, ?_, ?_⟩ <;> (show (24 : Nat) ≠ _; decide)) (by show (24 : Nat) ≠ 8; decide) (by show (24 : Nat) ≠ 25; decide)
    simp [Wk.eff] at he9
    simp [opnd, wi] at ho
    obtain ⟨o1, _⟩ := ho; exact ⟨he9.1, by omega, by omega⟩
  have HON : Hid (∀ W, MM c { s with st := s.st + 1 } w W → Calls Try.prog 49 #[.pointer (some ⟨c.g, 0, none⟩), .int .i64 1, .int .i64 1] W fun e w' => e = .returned (.tuple #[]) ∧ NextP c V is s w w') := Lib.hid (by
    have ho := HOP.out
    have hm3 := HG.out.hm
    obtain ⟨⟨t9, p9⟩, ⟨r9, he9⟩, hl9, hI9⟩ := HI.out.plain HG.out HIX.out (by refine ⟨?_, ?_, ?_, ?_, ?_, ?_⟩ <;> (show (24 : Nat) ≠ _; decide)) (by show (24 : Nat) ≠ 8; decide) (by show (24 : Nat) ≠ 25; decide)
    simp [Wk.eff] at he9
    simp [opnd, wi] at ho
    have he9 : 1 = t9 ∧ 1 = p9 := by exact he9.2
    rw [← he9.1, ← he9.2] at hI9
    rw [← he9.1] at hl9
    exact onward HBB.out.1 HBB.out.2 HAE.out.2 (by omega) (by omega) hl9 hI9)
  have x1 : w3.cell? ⟨xb, 1, none⟩ = some (.int .i64 xa) := HBG.out.x.cell 1
  have t3 := HBG.out.m.told
  obtain ⟨hh, hhh⟩ : ∃ z, s.h = z := ⟨_, rfl⟩
  obtain ⟨tv, htv⟩ : ∃ z, s.tv = z := ⟨_, rfl⟩
  have k0 := t3.1
  have k1 := t3.2.1
  have k2 : w3.cell? ⟨c.g, 2, none⟩ = some (.int .i64 (cf : Int)) := by rw [← HE.out.2.1]; exact t3.2.2.1
  have k4 : w3.cell? ⟨c.g, 4, none⟩ = some (.int .i64 (a : Int)) := by rw [← HE.out.1]; exact t3.2.2.2.2.1
  have k5 : w3.cell? ⟨c.g, 5, none⟩ = some (.int .i64 hh) := by rw [← hhh]; exact t3.2.2.2.2.2.1
  have k6 : w3.cell? ⟨c.g, 6, none⟩ = some tv := by rw [← htv]; exact t3.2.2.2.2.2.2.1
  have k9 : w3.cell? ⟨c.g, 9, none⟩ = some (.bool false) := t3.2.2.2.2.2.2.2.2.2.1
  have f9 := HBG.out.m.blk.frozen 9
  have f4 := HBG.out.m.blk.frozen 4
  have f5 := HBG.out.m.blk.frozen 5
  have f6 := HBG.out.m.blk.frozen 6
  have f10 := HBG.out.m.blk.frozen 10
  have HHH := Lib.hid hhh
  have HTV := Lib.hid htv
  clear t3
  obtain ⟨w4, hw4⟩ : ∃ V, (w3.setCell ⟨c.g, 9, none⟩ (.bool false)).drew = V := ⟨_, rfl⟩
  have h4 : MM c { s with st := s.st + 1 } w w4 := by rw [← hw4]; exact HBG.out.m.setw.belx ((Below.refl _ _).drew)
  have HW4 := Lib.hid hw4
  have H4 := Lib.hid h4
  clear hw4 h4
  rw [HE.out.2.1] at hx9
  obtain ⟨rn, hrn⟩ : ∃ z, c.cl.rs.length = z := ⟨_, rfl⟩
  rw [hrn] at hx9 k1
  rw [hx9.1] at k2
  have k2 : w3.cell? ⟨c.g, 2, none⟩ = some (.int .i64 0) := k2
  have q1 : decide (xa < 0) = false := decide_eq_false (by omega)
  have q2 : decide (xa ≥ (rn : Int)) = false := decide_eq_false (by omega)
  clear hx9 hhh htv hrn
  go_upto_region 68 with fail
  go_region
  rw [HW4.out]
  go_wp2_with fail
  refine (HON.out _ H4.out).mono ?_
  rintro e w5 ⟨rfl, h5⟩
  have H5 := Lib.hid h5
  clear h5
  go_wp2_with fail
  go_end0
  exact ⟨rfl, H5.out⟩
end Go.Proofs.Ytimkiifcmegfeaa
