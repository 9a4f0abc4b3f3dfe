/- Contracts. -/
import Derived.Test.YtimkiifcmegfeaaBH
/- code: the law's machine: next, what goes on (written by cdnext.py). -/
namespace Go.Proofs.Ytimkiifcmegfeaa
open Go.RowKit
set_option linter.unusedVariables false
set_option linter.unusedSimpArgs false
attribute [local go_sem] Oper.semAt_some
set_option maxRecDepth 20000 in
set_option maxHeartbeats 4000000 in
theorem next_1 (c : Mc) (s : Ms) (w wx : World) (V : Wk) (is : List Ins) (gg : Int × Int) (h : MM c s w wx) (hb : Mb c s) (hst : s.st ≤ 400) (hG : Good c V is gg) (i : Ins) (hi : is[s.a]? = some i) (hop : i.op = 1) (hI : Inv V is s) : Calls Try.prog 24 #[.pointer (some ⟨c.g, 0, none⟩)] wx fun e w' => e = .returned (.tuple #[]) ∧ NextP c V is s w w' := by
  have hae := hI.at_lt hG
  have hop9 := hG.bounds hi
  obtain ⟨fb, fo, ib, io, n, cap, hH, han, hn3, hfm⟩ := h.here hG hi
  obtain ⟨xo, xa, xq, xc, xt⟩ := i
  obtain rfl : xo = 1 := hop
  have HB3 := Lib.hid (hb.begun hst)
  have HNEW := Lib.hid (fun w1 (h1 : MM c s w w1) => Begun.new h1 ⟨1, xa, xq, xc, xt⟩)
  have HH := Lib.hid (fun V (hV : Below wx.heap.size wx V) => hH.bel hV)
  have HM := Lib.hid (fun V (hV : Below wx.heap.size wx V) => h.belx hV)
  have c0 := hH.c0
  have f0 := hH.f0
  have c2 := h.told.2.2.1
  have c4 := h.told.2.2.2.2.1
  obtain ⟨a, ha⟩ : ∃ z, s.a = z := ⟨_, rfl⟩
  obtain ⟨cf, hcf⟩ : ∃ z, c.f = z := ⟨_, rfl⟩
  obtain ⟨m, hm⟩ : ∃ z, c.cl.fs.length = z := ⟨_, rfl⟩
  obtain ⟨st, hs9⟩ : ∃ z, s.st = z := ⟨_, rfl⟩
  rw [ha] at c4 han hH HH
  rw [hcf] at c2 f0 hfm
  rw [hm] at c0 hfm
  rw [hs9] at HNEW
  have hst4 : st ≤ 400 := by rw [← hs9]; exact hst
  have HE := Lib.hid (And.intro ha (And.intro hcf (And.intro hm hs9)))
  have HG := Lib.hid hG
  have HI := Lib.hid hI
  have HIX := Lib.hid hi
  have HOP := Lib.hid hop9
  have HBB := Lib.hid (And.intro hb hst)
  have HAE := Lib.hid hae
  clear h hb hG hI hi hH ha hcf hm hs9 hop9 hst hae
  have d0 : decide ((a : Int) < 0) = false := decide_eq_false (by omega)
  have d1 : decide ((a : Int) ≥ (n : Int)) = false := decide_eq_false (by omega)
  have hfi : (cf : Int) < (m : Int) := by omega
  have hai : (a : Int) < (n : Int) := by omega
  go_enter Try.func24, Try.ntmps24
  go_upto_region 0 with fail
  go_quiet (fail)
  obtain ⟨w1, hw1⟩ : ∃ V, wx.drewN nq = V := ⟨_, rfl⟩
  rw [hw1]
  have hb1 : Below wx.heap.size wx w1 := by rw [← hw1]; exact (Off.drewN (fun _ => False) _ _).below (Nat.le_refl _) (fun k h => h.elim)
  have h1 := HM.out w1 hb1
  have hH1 := HH.out w1 hb1
  have HN1 := Lib.hid (HNEW.out w1 h1)
  have c4 : w1.cell? ⟨c.g, 4, none⟩ = some (.int .i64 (a : Int)) := by rw [← HE.out.1]; exact h1.told.2.2.2.2.1
  have a0 := hH1.a0
  have a1 := hH1.a1
  have a2 := hH1.a2
  have a3 := hH1.a3
  have a4 := hH1.a4
  obtain ⟨w2, hw2⟩ : ∃ V, w1.alloc (.cells #[.int .u8 1, .int .i64 xa, .int .i64 xq, .int .i64 xc, .string (str xt)] 46) = V := ⟨_, rfl⟩
  obtain ⟨xb, hxb⟩ : ∃ z, w1.heap.size = z := ⟨_, rfl⟩
  obtain ⟨w3, hw3⟩ : ∃ V, w2.setCell ⟨c.g, 8, none⟩ (.int .i64 ((st : Int) + 1)) = V := ⟨_, rfl⟩
  have hb2 : Below w1.heap.size w1 w2 := by rw [← hw2]; exact (Below.refl _ _).alloc (Nat.le_refl _) _
  have m2 := h1.belx hb2
  have b8 : w2.cell? ⟨c.g, 8, none⟩ = some (.int .i64 (st : Int)) := by rw [← HE.out.2.2.2]; exact m2.told.2.2.2.2.2.2.2.2.1
  have g8 := m2.blk.frozen 8
  have hbg : Begun c s ⟨1, xa, xq, xc, xt⟩ w w3 xb := by rw [← hw3, ← hw2, ← hxb]; exact HN1.out
  have HW := Lib.hid (And.intro hxb (And.intro hw2 hw3))
  have HBG := Lib.hid hbg
  have x0 : w3.cell? ⟨xb, 0, none⟩ = some (.int .u8 1) := hbg.x.cell 0
  clear h1 hH1 hb1 HN1 HNEW HH HM hw2 hxb hw3 hb2 m2 hbg c0 f0 c2
  clear hw1
  go_upto_region 4 with fail
  rw [HW.out.1, HW.out.2.1]
  go_upto_region 5 with fail
  rw [HW.out.2.2]
  clear a0 a1 a2 a3 a4 c4 b8 g8
  have HON : Hid (∀ W, MM c { s with st := s.st + 1 } w W → Calls Try.prog 49 #[.pointer (some ⟨c.g, 0, none⟩), .int .i64 0, .int .i64 1] W fun e w' => e = .returned (.tuple #[]) ∧ NextP c V is s w w') := Lib.hid (by
    have ho := HOP.out
    have hm3 := HG.out.hm
    obtain ⟨⟨t9, p9⟩, ⟨r9, he9⟩, hl9, hI9⟩ := HI.out.plain HG.out HIX.out (by refine ⟨?_, ?_, ?_, ?_, ?_, ?_⟩ <;> (show (1 : Nat) ≠ _; decide)) (by show (1 : Nat) ≠ 8; decide) (by show (1 : Nat) ≠ 25; decide)
    simp [Wk.eff] at he9
    simp [opnd, wi] at ho
    have he9 : 0 = t9 ∧ 1 = p9 := by first | exact he9 | omega | (obtain ⟨h1, h2⟩ := he9; omega)
    rw [← he9.1, ← he9.2] at hI9
    rw [← he9.1] at hl9
    exact onward HBB.out.1 HBB.out.2 HAE.out.2 (by omega) (by omega) hl9 hI9)
  go_wp2_with fail
  refine (HON.out _ HBG.out.m).mono ?_
  rintro e w5 ⟨rfl, h5⟩
  have H5 := Lib.hid h5
  clear h5
  go_wp2_with fail
  go_end0
  exact ⟨rfl, H5.out⟩
set_option maxRecDepth 20000 in
set_option maxHeartbeats 4000000 in
theorem next_2 (c : Mc) (s : Ms) (w wx : World) (V : Wk) (is : List Ins) (gg : Int × Int) (h : MM c s w wx) (hb : Mb c s) (hst : s.st ≤ 400) (hG : Good c V is gg) (i : Ins) (hi : is[s.a]? = some i) (hop : i.op = 2) (hI : Inv V is s) : Calls Try.prog 24 #[.pointer (some ⟨c.g, 0, none⟩)] wx fun e w' => e = .returned (.tuple #[]) ∧ NextP c V is s w w' := by
  have hae := hI.at_lt hG
  have hop9 := hG.bounds hi
  obtain ⟨fb, fo, ib, io, n, cap, hH, han, hn3, hfm⟩ := h.here hG hi
  obtain ⟨xo, xa, xq, xc, xt⟩ := i
  obtain rfl : xo = 2 := hop
  have HB3 := Lib.hid (hb.begun hst)
  have HNEW := Lib.hid (fun w1 (h1 : MM c s w w1) => Begun.new h1 ⟨2, xa, xq, xc, xt⟩)
  have HH := Lib.hid (fun V (hV : Below wx.heap.size wx V) => hH.bel hV)
  have HM := Lib.hid (fun V (hV : Below wx.heap.size wx V) => h.belx hV)
  have c0 := hH.c0
  have f0 := hH.f0
  have c2 := h.told.2.2.1
  have c4 := h.told.2.2.2.2.1
  obtain ⟨a, ha⟩ : ∃ z, s.a = z := ⟨_, rfl⟩
  obtain ⟨cf, hcf⟩ : ∃ z, c.f = z := ⟨_, rfl⟩
  obtain ⟨m, hm⟩ : ∃ z, c.cl.fs.length = z := ⟨_, rfl⟩
  obtain ⟨st, hs9⟩ : ∃ z, s.st = z := ⟨_, rfl⟩
  rw [ha] at c4 han hH HH
  rw [hcf] at c2 f0 hfm
  rw [hm] at c0 hfm
  rw [hs9] at HNEW
  have hst4 : st ≤ 400 := by rw [← hs9]; exact hst
  have HE := Lib.hid (And.intro ha (And.intro hcf (And.intro hm hs9)))
  have HG := Lib.hid hG
  have HI := Lib.hid hI
  have HIX := Lib.hid hi
  have HOP := Lib.hid hop9
  have HBB := Lib.hid (And.intro hb hst)
  have HAE := Lib.hid hae
  clear h hb hG hI hi hH ha hcf hm hs9 hop9 hst hae
  have d0 : decide ((a : Int) < 0) = false := decide_eq_false (by omega)
  have d1 : decide ((a : Int) ≥ (n : Int)) = false := decide_eq_false (by omega)
  have hfi : (cf : Int) < (m : Int) := by omega
  have hai : (a : Int) < (n : Int) := by omega
  go_enter Try.func24, Try.ntmps24
  go_upto_region 0 with fail
  go_quiet (fail)
  obtain ⟨w1, hw1⟩ : ∃ V, wx.drewN nq = V := ⟨_, rfl⟩
  rw [hw1]
  have hb1 : Below wx.heap.size wx w1 := by rw [← hw1]; exact (Off.drewN (fun _ => False) _ _).below (Nat.le_refl _) (fun k h => h.elim)
  have h1 := HM.out w1 hb1
  have hH1 := HH.out w1 hb1
  have HN1 := Lib.hid (HNEW.out w1 h1)
  have c4 : w1.cell? ⟨c.g, 4, none⟩ = some (.int .i64 (a : Int)) := by rw [← HE.out.1]; exact h1.told.2.2.2.2.1
  have a0 := hH1.a0
  have a1 := hH1.a1
  have a2 := hH1.a2
  have a3 := hH1.a3
  have a4 := hH1.a4
  obtain ⟨w2, hw2⟩ : ∃ V, w1.alloc (.cells #[.int .u8 2, .int .i64 xa, .int .i64 xq, .int .i64 xc, .string (str xt)] 46) = V := ⟨_, rfl⟩
  obtain ⟨xb, hxb⟩ : ∃ z, w1.heap.size = z := ⟨_, rfl⟩
  obtain ⟨w3, hw3⟩ : ∃ V, w2.setCell ⟨c.g, 8, none⟩ (.int .i64 ((st : Int) + 1)) = V := ⟨_, rfl⟩
  have hb2 : Below w1.heap.size w1 w2 := by rw [← hw2]; exact (Below.refl _ _).alloc (Nat.le_refl _) _
  have m2 := h1.belx hb2
  have b8 : w2.cell? ⟨c.g, 8, none⟩ = some (.int .i64 (st : Int)) := by rw [← HE.out.2.2.2]; exact m2.told.2.2.2.2.2.2.2.2.1
  have g8 := m2.blk.frozen 8
  have hbg : Begun c s ⟨2, xa, xq, xc, xt⟩ w w3 xb := by rw [← hw3, ← hw2, ← hxb]; exact HN1.out
  have HW := Lib.hid (And.intro hxb (And.intro hw2 hw3))
  have HBG := Lib.hid hbg
  have x0 : w3.cell? ⟨xb, 0, none⟩ = some (.int .u8 2) := hbg.x.cell 0
  clear h1 hH1 hb1 HN1 HNEW HH HM hw2 hxb hw3 hb2 m2 hbg c0 f0 c2
  clear hw1
  go_upto_region 4 with fail
  rw [HW.out.1, HW.out.2.1]
  go_upto_region 5 with fail
  rw [HW.out.2.2]
  clear a0 a1 a2 a3 a4 c4 b8 g8
  have HON : Hid (∀ W, MM c { s with st := s.st + 1 } w W → Calls Try.prog 49 #[.pointer (some ⟨c.g, 0, none⟩), .int .i64 0, .int .i64 1] W fun e w' => e = .returned (.tuple #[]) ∧ NextP c V is s w w') := Lib.hid (by
    have ho := HOP.out
    have hm3 := HG.out.hm
    obtain ⟨⟨t9, p9⟩, ⟨r9, he9⟩, hl9, hI9⟩ := HI.out.plain HG.out HIX.out (by refine ⟨?_, ?_, ?_, ?_, ?_, ?_⟩ <;> (show (2 : Nat) ≠ _; decide)) (by show (2 : Nat) ≠ 8; decide) (by show (2 : Nat) ≠ 25; decide)
    simp [Wk.eff] at he9
    simp [opnd, wi] at ho
    have he9 : 0 = t9 ∧ 1 = p9 := by first | exact he9 | omega | (obtain ⟨h1, h2⟩ := he9; omega)
    rw [← he9.1, ← he9.2] at hI9
    rw [← he9.1] at hl9
    exact onward HBB.out.1 HBB.out.2 HAE.out.2 (by omega) (by omega) hl9 hI9)
  go_wp2_with fail
  refine (HON.out _ HBG.out.m).mono ?_
  rintro e w5 ⟨rfl, h5⟩
  have H5 := Lib.hid h5
  clear h5
  go_wp2_with fail
  go_end0
  exact ⟨rfl, H5.out⟩
set_option maxRecDepth 20000 in
set_option maxHeartbeats 4000000 in
theorem next_12 (c : Mc) (s : Ms) (w wx : World) (V : Wk) (is : List Ins) (gg : Int × Int) (h : MM c s w wx) (hb : Mb c s) (hst : s.st ≤ 400) (hG : Good c V is gg) (i : Ins) (hi : is[s.a]? = some i) (hop : i.op = 12) (hI : Inv V is s) : Calls Try.prog 24 #[.pointer (some ⟨c.g, 0, none⟩)] wx fun e w' => e = .returned (.tuple #[]) ∧ NextP c V is s w w' := by
  have hae := hI.at_lt hG
  have hop9 := hG.bounds hi
  obtain ⟨fb, fo, ib, io, n, cap, hH, han, hn3, hfm⟩ := h.here hG hi
  obtain ⟨xo, xa, xq, xc, xt⟩ := i
  obtain rfl : xo = 12 := hop
  have HB3 := Lib.hid (hb.begun hst)
  have HNEW := Lib.hid (fun w1 (h1 : MM c s w w1) => Begun.new h1 ⟨12, xa, xq, xc, xt⟩)
  have HH := Lib.hid (fun V (hV : Below wx.heap.size wx V) => hH.bel hV)
  have HM := Lib.hid (fun V (hV : Below wx.heap.size wx V) => h.belx hV)
  have c0 := hH.c0
  have f0 := hH.f0
  have c2 := h.told.2.2.1
  have c4 := h.told.2.2.2.2.1
  obtain ⟨a, ha⟩ : ∃ z, s.a = z := ⟨_, rfl⟩
  obtain ⟨cf, hcf⟩ : ∃ z, c.f = z := ⟨_, rfl⟩
  obtain ⟨m, hm⟩ : ∃ z, c.cl.fs.length = z := ⟨_, rfl⟩
  obtain ⟨st, hs9⟩ : ∃ z, s.st = z := ⟨_, rfl⟩
  rw [ha] at c4 han hH HH
  rw [hcf] at c2 f0 hfm
  rw [hm] at c0 hfm
  rw [hs9] at HNEW
  have hst4 : st ≤ 400 := by rw [← hs9]; exact hst
  have HE := Lib.hid (And.intro ha (And.intro hcf (And.intro hm hs9)))
  have HG := Lib.hid hG
  have HI := Lib.hid hI
  have HIX := Lib.hid hi
  have HOP := Lib.hid hop9
  have HBB := Lib.hid (And.intro hb hst)
  have HAE := Lib.hid hae
  clear h hb hG hI hi hH ha hcf hm hs9 hop9 hst hae
  have d0 : decide ((a : Int) < 0) = false := decide_eq_false (by omega)
  have d1 : decide ((a : Int) ≥ (n : Int)) = false := decide_eq_false (by omega)
  have hfi : (cf : Int) < (m : Int) := by omega
  have hai : (a : Int) < (n : Int) := by omega
  go_enter Try.func24, Try.ntmps24
  go_upto_region 0 with fail
  go_quiet (fail)
  obtain ⟨w1, hw1⟩ : ∃ V, wx.drewN nq = V := ⟨_, rfl⟩
  rw [hw1]
  have hb1 : Below wx.heap.size wx w1 := by rw [← hw1]; exact (Off.drewN (fun _ => False) _ _).below (Nat.le_refl _) (fun k h => h.elim)
  have h1 := HM.out w1 hb1
  have hH1 := HH.out w1 hb1
  have HN1 := Lib.hid (HNEW.out w1 h1)
  have c4 : w1.cell? ⟨c.g, 4, none⟩ = some (.int .i64 (a : Int)) := by rw [← HE.out.1]; exact h1.told.2.2.2.2.1
  have a0 := hH1.a0
  have a1 := hH1.a1
  have a2 := hH1.a2
  have a3 := hH1.a3
  have a4 := hH1.a4
  obtain ⟨w2, hw2⟩ : ∃ V, w1.alloc (.cells #[.int .u8 12, .int .i64 xa, .int .i64 xq, .int .i64 xc, .string (str xt)] 46) = V := ⟨_, rfl⟩
  obtain ⟨xb, hxb⟩ : ∃ z, w1.heap.size = z := ⟨_, rfl⟩
  obtain ⟨w3, hw3⟩ : ∃ V, w2.setCell ⟨c.g, 8, none⟩ (.int .i64 ((st : Int) + 1)) = V := ⟨_, rfl⟩
  have hb2 : Below w1.heap.size w1 w2 := by rw [← hw2]; exact (Below.refl _ _).alloc (Nat.le_refl _) _
  have m2 := h1.belx hb2
  have b8 : w2.cell? ⟨c.g, 8, none⟩ = some (.int .i64 (st : Int)) := by rw [← HE.out.2.2.2]; exact m2.told.2.2.2.2.2.2.2.2.1
  have g8 := m2.blk.frozen 8
  have hbg : Begun c s ⟨12, xa, xq, xc, xt⟩ w w3 xb := by rw [← hw3, ← hw2, ← hxb]; exact HN1.out
  have HW := Lib.hid (And.intro hxb (And.intro hw2 hw3))
  have HBG := Lib.hid hbg
  have x0 : w3.cell? ⟨xb, 0, none⟩ = some (.int .u8 12) := hbg.x.cell 0
  clear h1 hH1 hb1 HN1 HNEW HH HM hw2 hxb hw3 hb2 m2 hbg c0 f0 c2
  clear hw1
  go_upto_region 4 with fail
  rw [HW.out.1, HW.out.2.1]
  go_upto_region 5 with fail
  rw [HW.out.2.2]
  clear a0 a1 a2 a3 a4 c4 b8 g8
  have HON : Hid (∀ W, MM c { s with st := s.st + 1 } w W → Calls Try.prog 49 #[.pointer (some ⟨c.g, 0, none⟩), .int .i64 1, .int .i64 1] W fun e w' => e = .returned (.tuple #[]) ∧ NextP c V is s w w') := Lib.hid (by
    have ho := HOP.out
    have hm3 := HG.out.hm
    obtain ⟨⟨t9, p9⟩, ⟨r9, he9⟩, hl9, hI9⟩ := HI.out.plain HG.out HIX.out (by refine ⟨?_, ?_, ?_, ?_, ?_, ?_⟩ <;> (show (12 : Nat) ≠ _; decide)) (by show (12 : Nat) ≠ 8; decide) (by show (12 : Nat) ≠ 25; decide)
    simp [Wk.eff] at he9
    simp [opnd, wi] at ho
    have he9 : 1 = t9 ∧ 1 = p9 := by first | exact he9 | omega | (obtain ⟨h1, h2⟩ := he9; omega)
    rw [← he9.1, ← he9.2] at hI9
    rw [← he9.1] at hl9
    exact onward HBB.out.1 HBB.out.2 HAE.out.2 (by omega) (by omega) hl9 hI9)
  go_wp2_with fail
  refine (HON.out _ HBG.out.m).mono ?_
  rintro e w5 ⟨rfl, h5⟩
  have H5 := Lib.hid h5
  clear h5
  go_wp2_with fail
  go_end0
  exact ⟨rfl, H5.out⟩
set_option maxRecDepth 20000 in
set_option maxHeartbeats 4000000 in
theorem next_14 (c : Mc) (s : Ms) (w wx : World) (V : Wk) (is : List Ins) (gg : Int × Int) (h : MM c s w wx) (hb : Mb c s) (hst : s.st ≤ 400) (hG : Good c V is gg) (i : Ins) (hi : is[s.a]? = some i) (hop : i.op = 14) (hI : Inv V is s) : Calls Try.prog 24 #[.pointer (some ⟨c.g, 0, none⟩)] wx fun e w' => e = .returned (.tuple #[]) ∧ NextP c V is s w w' := by
  have hae := hI.at_lt hG
  have hop9 := hG.bounds hi
  obtain ⟨fb, fo, ib, io, n, cap, hH, han, hn3, hfm⟩ := h.here hG hi
  obtain ⟨xo, xa, xq, xc, xt⟩ := i
  obtain rfl : xo = 14 := hop
  have HB3 := Lib.hid (hb.begun hst)
  have HNEW := Lib.hid (fun w1 (h1 : MM c s w w1) => Begun.new h1 ⟨14, xa, xq, xc, xt⟩)
  have HH := Lib.hid (fun V (hV : Below wx.heap.size wx V) => hH.bel hV)
  have HM := Lib.hid (fun V (hV : Below wx.heap.size wx V) => h.belx hV)
  have c0 := hH.c0
  have f0 := hH.f0
  have c2 := h.told.2.2.1
  have c4 := h.told.2.2.2.2.1
  obtain ⟨a, ha⟩ : ∃ z, s.a = z := ⟨_, rfl⟩
  obtain ⟨cf, hcf⟩ : ∃ z, c.f = z := ⟨_, rfl⟩
  obtain ⟨m, hm⟩ : ∃ z, c.cl.fs.length = z := ⟨_, rfl⟩
  obtain ⟨st, hs9⟩ : ∃ z, s.st = z := ⟨_, rfl⟩
  rw [ha] at c4 han hH HH
  rw [hcf] at c2 f0 hfm
  rw [hm] at c0 hfm
  rw [hs9] at HNEW
  have hst4 : st ≤ 400 := by rw [← hs9]; exact hst
  have HE := Lib.hid (And.intro ha (And.intro hcf (And.intro hm hs9)))
  have HG := Lib.hid hG
  have HI := Lib.hid hI
  have HIX := Lib.hid hi
  have HOP := Lib.hid hop9
  have HBB := Lib.hid (And.intro hb hst)
  have HAE := Lib.hid hae
  clear h hb hG hI hi hH ha hcf hm hs9 hop9 hst hae
  have d0 : decide ((a : Int) < 0) = false := decide_eq_false (by omega)
  have d1 : decide ((a : Int) ≥ (n : Int)) = false := decide_eq_false (by omega)
  have hfi : (cf : Int) < (m : Int) := by omega
  have hai : (a : Int) < (n : Int) := by omega
  go_enter Try.func24, Try.ntmps24
  go_upto_region 0 with fail
  go_quiet (fail)
  obtain ⟨w1, hw1⟩ : ∃ V, wx.drewN nq = V := ⟨_, rfl⟩
  rw [hw1]
  have hb1 : Below wx.heap.size wx w1 := by rw [← hw1]; exact (Off.drewN (fun _ => False) _ _).below (Nat.le_refl _) (fun k h => h.elim)
  have h1 := HM.out w1 hb1
  have hH1 := HH.out w1 hb1
  have HN1 := Lib.hid (HNEW.out w1 h1)
  have c4 : w1.cell? ⟨c.g, 4, none⟩ = some (.int .i64 (a : Int)) := by rw [← HE.out.1]; exact h1.told.2.2.2.2.1
  have a0 := hH1.a0
  have a1 := hH1.a1
  have a2 := hH1.a2
  have a3 := hH1.a3
  have a4 := hH1.a4
  obtain ⟨w2, hw2⟩ : ∃ V, w1.alloc (.cells #[.int .u8 14, .int .i64 xa, .int .i64 xq, .int .i64 xc, .string (str xt)] 46) = V := ⟨_, rfl⟩
  obtain ⟨xb, hxb⟩ : ∃ z, w1.heap.size = z := ⟨_, rfl⟩
  obtain ⟨w3, hw3⟩ : ∃ V, w2.setCell ⟨c.g, 8, none⟩ (.int .i64 ((st : Int) + 1)) = V := ⟨_, rfl⟩
  have hb2 : Below w1.heap.size w1 w2 := by rw [← hw2]; exact (Below.refl _ _).alloc (Nat.le_refl _) _
  have m2 := h1.belx hb2
  have b8 : w2.cell? ⟨c.g, 8, none⟩ = some (.int .i64 (st : Int)) := by rw [← HE.out.2.2.2]; exact m2.told.2.2.2.2.2.2.2.2.1
  have g8 := m2.blk.frozen 8
  have hbg : Begun c s ⟨14, xa, xq, xc, xt⟩ w w3 xb := by rw [← hw3, ← hw2, ← hxb]; exact HN1.out
  have HW := Lib.hid (And.intro hxb (And.intro hw2 hw3))
  have HBG := Lib.hid hbg
  have x0 : w3.cell? ⟨xb, 0, none⟩ = some (.int .u8 14) := hbg.x.cell 0
  clear h1 hH1 hb1 HN1 HNEW HH HM hw2 hxb hw3 hb2 m2 hbg c0 f0 c2
  clear hw1
  go_upto_region 4 with fail
  rw [HW.out.1, HW.out.2.1]
  go_upto_region 5 with fail
  rw [HW.out.2.2]
  clear a0 a1 a2 a3 a4 c4 b8 g8
  have HON : Hid (∀ W, MM c { s with st := s.st + 1 } w W → Calls Try.prog 49 #[.pointer (some ⟨c.g, 0, none⟩), .int .i64 1, .int .i64 1] W fun e w' => e = .returned (.tuple #[]) ∧ NextP c V is s w w') := Lib.hid (by
    have ho := HOP.out
    have hm3 := HG.out.hm
    obtain ⟨⟨t9, p9⟩, ⟨r9, he9⟩, hl9, hI9⟩ := HI.out.plain HG.out HIX.out (by refine ⟨?_, ?_, ?_, ?_, ?_, ?_⟩ <;> (show (14 : Nat) ≠ _; decide)) (by show (14 : Nat) ≠ 8; decide) (by show (14 : Nat) ≠ 25; decide)
    simp [Wk.eff] at he9
    simp [opnd, wi] at ho
    have he9 : 1 = t9 ∧ 1 = p9 := by first | exact he9 | omega | (obtain ⟨h1, h2⟩ := he9; omega)
    rw [← he9.1, ← he9.2] at hI9
    rw [← he9.1] at hl9
    exact onward HBB.out.1 HBB.out.2 HAE.out.2 (by omega) (by omega) hl9 hI9)
  go_wp2_with fail
  refine (HON.out _ HBG.out.m).mono ?_
  rintro e w5 ⟨rfl, h5⟩
  have H5 := Lib.hid h5
  clear h5
  go_wp2_with fail
  go_end0
  exact ⟨rfl, H5.out⟩
set_option maxRecDepth 20000 in
set_option maxHeartbeats 4000000 in
theorem next_15 (c : Mc) (s : Ms) (w wx : World) (V : Wk) (is : List Ins) (gg : Int × Int) (h : MM c s w wx) (hb : Mb c s) (hst : s.st ≤ 400) (hG : Good c V is gg) (i : Ins) (hi : is[s.a]? = some i) (hop : i.op = 15) (hI : Inv V is s) : Calls Try.prog 24 #[.pointer (some ⟨c.g, 0, none⟩)] wx fun e w' => e = .returned (.tuple #[]) ∧ NextP c V is s w w' := by
  have hae := hI.at_lt hG
  have hop9 := hG.bounds hi
  obtain ⟨fb, fo, ib, io, n, cap, hH, han, hn3, hfm⟩ := h.here hG hi
  obtain ⟨xo, xa, xq, xc, xt⟩ := i
  obtain rfl : xo = 15 := hop
  have HB3 := Lib.hid (hb.begun hst)
  have HNEW := Lib.hid (fun w1 (h1 : MM c s w w1) => Begun.new h1 ⟨15, xa, xq, xc, xt⟩)
  have HH := Lib.hid (fun V (hV : Below wx.heap.size wx V) => hH.bel hV)
  have HM := Lib.hid (fun V (hV : Below wx.heap.size wx V) => h.belx hV)
  have c0 := hH.c0
  have f0 := hH.f0
  have c2 := h.told.2.2.1
  have c4 := h.told.2.2.2.2.1
  obtain ⟨a, ha⟩ : ∃ z, s.a = z := ⟨_, rfl⟩
  obtain ⟨cf, hcf⟩ : ∃ z, c.f = z := ⟨_, rfl⟩
  obtain ⟨m, hm⟩ : ∃ z, c.cl.fs.length = z := ⟨_, rfl⟩
  obtain ⟨st, hs9⟩ : ∃ z, s.st = z := ⟨_, rfl⟩
  rw [ha] at c4 han hH HH
  rw [hcf] at c2 f0 hfm
  rw [hm] at c0 hfm
  rw [hs9] at HNEW
  have hst4 : st ≤ 400 := by rw [← hs9]; exact hst
  have HE := Lib.hid (And.intro ha (And.intro hcf (And.intro hm hs9)))
  have HG := Lib.hid hG
  have HI := Lib.hid hI
  have HIX := Lib.hid hi
  have HOP := Lib.hid hop9
  have HBB := Lib.hid (And.intro hb hst)
  have HAE := Lib.hid hae
  clear h hb hG hI hi hH ha hcf hm hs9 hop9 hst hae
  have d0 : decide ((a : Int) < 0) = false := decide_eq_false (by omega)
  have d1 : decide ((a : Int) ≥ (n : Int)) = false := decide_eq_false (by omega)
  have hfi : (cf : Int) < (m : Int) := by omega
  have hai : (a : Int) < (n : Int) := by omega
  go_enter Try.func24, Try.ntmps24
  go_upto_region 0 with fail
  go_quiet (fail)
  obtain ⟨w1, hw1⟩ : ∃ V, wx.drewN nq = V := ⟨_, rfl⟩
  rw [hw1]
  have hb1 : Below wx.heap.size wx w1 := by rw [← hw1]; exact (Off.drewN (fun _ => False) _ _).below (Nat.le_refl _) (fun k h => h.elim)
  have h1 := HM.out w1 hb1
  have hH1 := HH.out w1 hb1
  have HN1 := Lib.hid (HNEW.out w1 h1)
  have c4 : w1.cell? ⟨c.g, 4, none⟩ = some (.int .i64 (a : Int)) := by rw [← HE.out.1]; exact h1.told.2.2.2.2.1
  have a0 := hH1.a0
  have a1 := hH1.a1
  have a2 := hH1.a2
  have a3 := hH1.a3
  have a4 := hH1.a4
  obtain ⟨w2, hw2⟩ : ∃ V, w1.alloc (.cells #[.int .u8 15, .int .i64 xa, .int .i64 xq, .int .i64 xc, .string (str xt)] 46) = V := ⟨_, rfl⟩
  obtain ⟨xb, hxb⟩ : ∃ z, w1.heap.size = z := ⟨_, rfl⟩
  obtain ⟨w3, hw3⟩ : ∃ V, w2.setCell ⟨c.g, 8, none⟩ (.int .i64 ((st : Int) + 1)) = V := ⟨_, rfl⟩
  have hb2 : Below w1.heap.size w1 w2 := by rw [← hw2]; exact (Below.refl _ _).alloc (Nat.le_refl _) _
  have m2 := h1.belx hb2
  have b8 : w2.cell? ⟨c.g, 8, none⟩ = some (.int .i64 (st : Int)) := by rw [← HE.out.2.2.2]; exact m2.told.2.2.2.2.2.2.2.2.1
  have g8 := m2.blk.frozen 8
  have hbg : Begun c s ⟨15, xa, xq, xc, xt⟩ w w3 xb := by rw [← hw3, ← hw2, ← hxb]; exact HN1.out
  have HW := Lib.hid (And.intro hxb (And.intro hw2 hw3))
  have HBG := Lib.hid hbg
  have x0 : w3.cell? ⟨xb, 0, none⟩ = some (.int .u8 15) := hbg.x.cell 0
  clear h1 hH1 hb1 HN1 HNEW HH HM hw2 hxb hw3 hb2 m2 hbg c0 f0 c2
  clear hw1
  go_upto_region 4 with fail
  rw [HW.out.1, HW.out.2.1]
  go_upto_region 5 with fail
  rw [HW.out.2.2]
  clear a0 a1 a2 a3 a4 c4 b8 g8
  have HON : Hid (∀ W, MM c { s with st := s.st + 1 } w W → Calls Try.prog 49 #[.pointer (some ⟨c.g, 0, none⟩), .int .i64 1, .int .i64 1] W fun e w' => e = .returned (.tuple #[]) ∧ NextP c V is s w w') := Lib.hid (by
    have ho := HOP.out
    have hm3 := HG.out.hm
    obtain ⟨⟨t9, p9⟩, ⟨r9, he9⟩, hl9, hI9⟩ := HI.out.plain HG.out HIX.out (by refine ⟨?_, ?_, ?_, ?_, ?_, ?_⟩ <;> (show (15 : Nat) ≠ _; decide)) (by show (15 : Nat) ≠ 8; decide) (by show (15 : Nat) ≠ 25; decide)
    simp [Wk.eff] at he9
    simp [opnd, wi] at ho
    have he9 : 1 = t9 ∧ 1 = p9 := by first | exact he9 | omega | (obtain ⟨h1, h2⟩ := he9; omega)
    rw [← he9.1, ← he9.2] at hI9
    rw [← he9.1] at hl9
    exact onward HBB.out.1 HBB.out.2 HAE.out.2 (by omega) (by omega) hl9 hI9)
  go_wp2_with fail
  refine (HON.out _ HBG.out.m).mono ?_
  rintro e w5 ⟨rfl, h5⟩
  have H5 := Lib.hid h5
  clear h5
  go_wp2_with fail
  go_end0
  exact ⟨rfl, H5.out⟩
set_option maxRecDepth 20000 in
set_option maxHeartbeats 4000000 in
theorem next_13 (c : Mc) (s : Ms) (w wx : World) (V : Wk) (is : List Ins) (gg : Int × Int) (h : MM c s w wx) (hb : Mb c s) (hst : s.st ≤ 400) (hG : Good c V is gg) (i : Ins) (hi : is[s.a]? = some i) (hop : i.op = 13) (hI : Inv V is s) : Calls Try.prog 24 #[.pointer (some ⟨c.g, 0, none⟩)] wx fun e w' => e = .returned (.tuple #[]) ∧ NextP c V is s w w' := by
  have hae := hI.at_lt hG
  have hop9 := hG.bounds hi
  obtain ⟨fb, fo, ib, io, n, cap, hH, han, hn3, hfm⟩ := h.here hG hi
  obtain ⟨xo, xa, xq, xc, xt⟩ := i
  obtain rfl : xo = 13 := hop
  have HB3 := Lib.hid (hb.begun hst)
  have HNEW := Lib.hid (fun w1 (h1 : MM c s w w1) => Begun.new h1 ⟨13, xa, xq, xc, xt⟩)
  have HH := Lib.hid (fun V (hV : Below wx.heap.size wx V) => hH.bel hV)
  have HM := Lib.hid (fun V (hV : Below wx.heap.size wx V) => h.belx hV)
  have c0 := hH.c0
  have f0 := hH.f0
  have c2 := h.told.2.2.1
  have c4 := h.told.2.2.2.2.1
  obtain ⟨a, ha⟩ : ∃ z, s.a = z := ⟨_, rfl⟩
  obtain ⟨cf, hcf⟩ : ∃ z, c.f = z := ⟨_, rfl⟩
  obtain ⟨m, hm⟩ : ∃ z, c.cl.fs.length = z := ⟨_, rfl⟩
  obtain ⟨st, hs9⟩ : ∃ z, s.st = z := ⟨_, rfl⟩
  rw [ha] at c4 han hH HH
  rw [hcf] at c2 f0 hfm
  rw [hm] at c0 hfm
  rw [hs9] at HNEW
  have hst4 : st ≤ 400 := by rw [← hs9]; exact hst
  have HE := Lib.hid (And.intro ha (And.intro hcf (And.intro hm hs9)))
  have HG := Lib.hid hG
  have HI := Lib.hid hI
  have HIX := Lib.hid hi
  have HOP := Lib.hid hop9
  have HBB := Lib.hid (And.intro hb hst)
  have HAE := Lib.hid hae
  clear h hb hG hI hi hH ha hcf hm hs9 hop9 hst hae
  have d0 : decide ((a : Int) < 0) = false := decide_eq_false (by omega)
  have d1 : decide ((a : Int) ≥ (n : Int)) = false := decide_eq_false (by omega)
  have hfi : (cf : Int) < (m : Int) := by omega
  have hai : (a : Int) < (n : Int) := by omega
  go_enter Try.func24, Try.ntmps24
  go_upto_region 0 with fail
  go_quiet (fail)
  obtain ⟨w1, hw1⟩ : ∃ V, wx.drewN nq = V := ⟨_, rfl⟩
  rw [hw1]
  have hb1 : Below wx.heap.size wx w1 := by rw [← hw1]; exact (Off.drewN (fun _ => False) _ _).below (Nat.le_refl _) (fun k h => h.elim)
  have h1 := HM.out w1 hb1
  have hH1 := HH.out w1 hb1
  have HN1 := Lib.hid (HNEW.out w1 h1)
  have c4 : w1.cell? ⟨c.g, 4, none⟩ = some (.int .i64 (a : Int)) := by rw [← HE.out.1]; exact h1.told.2.2.2.2.1
  have a0 := hH1.a0
  have a1 := hH1.a1
  have a2 := hH1.a2
  have a3 := hH1.a3
  have a4 := hH1.a4
  obtain ⟨w2, hw2⟩ : ∃ V, w1.alloc (.cells #[.int .u8 13, .int .i64 xa, .int .i64 xq, .int .i64 xc, .string (str xt)] 46) = V := ⟨_, rfl⟩
  obtain ⟨xb, hxb⟩ : ∃ z, w1.heap.size = z := ⟨_, rfl⟩
  obtain ⟨w3, hw3⟩ : ∃ V, w2.setCell ⟨c.g, 8, none⟩ (.int .i64 ((st : Int) + 1)) = V := ⟨_, rfl⟩
  have hb2 : Below w1.heap.size w1 w2 := by rw [← hw2]; exact (Below.refl _ _).alloc (Nat.le_refl _) _
  have m2 := h1.belx hb2
  have b8 : w2.cell? ⟨c.g, 8, none⟩ = some (.int .i64 (st : Int)) := by rw [← HE.out.2.2.2]; exact m2.told.2.2.2.2.2.2.2.2.1
  have g8 := m2.blk.frozen 8
  have hbg : Begun c s ⟨13, xa, xq, xc, xt⟩ w w3 xb := by rw [← hw3, ← hw2, ← hxb]; exact HN1.out
  have HW := Lib.hid (And.intro hxb (And.intro hw2 hw3))
  have HBG := Lib.hid hbg
  have x0 : w3.cell? ⟨xb, 0, none⟩ = some (.int .u8 13) := hbg.x.cell 0
  clear h1 hH1 hb1 HN1 HNEW HH HM hw2 hxb hw3 hb2 m2 hbg c0 f0 c2
  clear hw1
  go_upto_region 4 with fail
  rw [HW.out.1, HW.out.2.1]
  go_upto_region 5 with fail
  rw [HW.out.2.2]
  clear a0 a1 a2 a3 a4 c4 b8 g8
  have HON : Hid (∀ W, MM c { s with st := s.st + 1 } w W → Calls Try.prog 49 #[.pointer (some ⟨c.g, 0, none⟩), .int .i64 xq, .int .i64 1] W fun e w' => e = .returned (.tuple #[]) ∧ NextP c V is s w w') := Lib.hid (by
    have ho := HOP.out
    have hm3 := HG.out.hm
    obtain ⟨⟨t9, p9⟩, ⟨r9, he9⟩, hl9, hI9⟩ := HI.out.plain HG.out HIX.out (by refine ⟨?_, ?_, ?_, ?_, ?_, ?_⟩ <;> (show (13 : Nat) ≠ _; decide)) (by show (13 : Nat) ≠ 8; decide) (by show (13 : Nat) ≠ 25; decide)
    simp [Wk.eff] at he9
    simp [opnd, wi] at ho
    have he9 : xq = t9 ∧ 1 = p9 := by first | exact he9 | omega | (obtain ⟨h1, h2⟩ := he9; omega)
    rw [← he9.1, ← he9.2] at hI9
    rw [← he9.1] at hl9
    exact onward HBB.out.1 HBB.out.2 HAE.out.2 (by omega) (by omega) hl9 hI9)
  have x2 : w3.cell? ⟨xb, 2, none⟩ = some (.int .i64 xq) := HBG.out.x.cell 2
  go_wp2_with fail
  refine (HON.out _ HBG.out.m).mono ?_
  rintro e w5 ⟨rfl, h5⟩
  have H5 := Lib.hid h5
  clear h5
  go_wp2_with fail
  go_end0
  exact ⟨rfl, H5.out⟩
set_option maxRecDepth 20000 in
set_option maxHeartbeats 4000000 in
theorem next_22 (c : Mc) (s : Ms) (w wx : World) (V : Wk) (is : List Ins) (gg : Int × Int) (h : MM c s w wx) (hb : Mb c s) (hst : s.st ≤ 400) (hG : Good c V is gg) (i : Ins) (hi : is[s.a]? = some i) (hop : i.op = 22) (hI : Inv V is s) : Calls Try.prog 24 #[.pointer (some ⟨c.g, 0, none⟩)] wx fun e w' => e = .returned (.tuple #[]) ∧ NextP c V is s w w' := by
  have hae := hI.at_lt hG
  have hop9 := hG.bounds hi
  obtain ⟨fb, fo, ib, io, n, cap, hH, han, hn3, hfm⟩ := h.here hG hi
  obtain ⟨xo, xa, xq, xc, xt⟩ := i
  obtain rfl : xo = 22 := hop
  have HB3 := Lib.hid (hb.begun hst)
  have HNEW := Lib.hid (fun w1 (h1 : MM c s w w1) => Begun.new h1 ⟨22, xa, xq, xc, xt⟩)
  have HH := Lib.hid (fun V (hV : Below wx.heap.size wx V) => hH.bel hV)
  have HM := Lib.hid (fun V (hV : Below wx.heap.size wx V) => h.belx hV)
  have c0 := hH.c0
  have f0 := hH.f0
  have c2 := h.told.2.2.1
  have c4 := h.told.2.2.2.2.1
  obtain ⟨a, ha⟩ : ∃ z, s.a = z := ⟨_, rfl⟩
  obtain ⟨cf, hcf⟩ : ∃ z, c.f = z := ⟨_, rfl⟩
  obtain ⟨m, hm⟩ : ∃ z, c.cl.fs.length = z := ⟨_, rfl⟩
  obtain ⟨st, hs9⟩ : ∃ z, s.st = z := ⟨_, rfl⟩
  rw [ha] at c4 han hH HH
  rw [hcf] at c2 f0 hfm
  rw [hm] at c0 hfm
  rw [hs9] at HNEW
  have hst4 : st ≤ 400 := by rw [← hs9]; exact hst
  have HE := Lib.hid (And.intro ha (And.intro hcf (And.intro hm hs9)))
  have HG := Lib.hid hG
  have HI := Lib.hid hI
  have HIX := Lib.hid hi
  have HOP := Lib.hid hop9
  have HBB := Lib.hid (And.intro hb hst)
  have HAE := Lib.hid hae
  clear h hb hG hI hi hH ha hcf hm hs9 hop9 hst hae
  have d0 : decide ((a : Int) < 0) = false := decide_eq_false (by omega)
  have d1 : decide ((a : Int) ≥ (n : Int)) = false := decide_eq_false (by omega)
  have hfi : (cf : Int) < (m : Int) := by omega
  have hai : (a : Int) < (n : Int) := by omega
  go_enter Try.func24, Try.ntmps24
  go_upto_region 0 with fail
  go_quiet (fail)
  obtain ⟨w1, hw1⟩ : ∃ V, wx.drewN nq = V := ⟨_, rfl⟩
  rw [hw1]
  have hb1 : Below wx.heap.size wx w1 := by rw [← hw1]; exact (Off.drewN (fun _ => False) _ _).below (Nat.le_refl _) (fun k h => h.elim)
  have h1 := HM.out w1 hb1
  have hH1 := HH.out w1 hb1
  have HN1 := Lib.hid (HNEW.out w1 h1)
  have c4 : w1.cell? ⟨c.g, 4, none⟩ = some (.int .i64 (a : Int)) := by rw [← HE.out.1]; exact h1.told.2.2.2.2.1
  have a0 := hH1.a0
  have a1 := hH1.a1
  have a2 := hH1.a2
  have a3 := hH1.a3
  have a4 := hH1.a4
  obtain ⟨w2, hw2⟩ : ∃ V, w1.alloc (.cells #[.int .u8 22, .int .i64 xa, .int .i64 xq, .int .i64 xc, .string (str xt)] 46) = V := ⟨_, rfl⟩
  obtain ⟨xb, hxb⟩ : ∃ z, w1.heap.size = z := ⟨_, rfl⟩
  obtain ⟨w3, hw3⟩ : ∃ V, w2.setCell ⟨c.g, 8, none⟩ (.int .i64 ((st : Int) + 1)) = V := ⟨_, rfl⟩
  have hb2 : Below w1.heap.size w1 w2 := by rw [← hw2]; exact (Below.refl _ _).alloc (Nat.le_refl _) _
  have m2 := h1.belx hb2
  have b8 : w2.cell? ⟨c.g, 8, none⟩ = some (.int .i64 (st : Int)) := by rw [← HE.out.2.2.2]; exact m2.told.2.2.2.2.2.2.2.2.1
  have g8 := m2.blk.frozen 8
  have hbg : Begun c s ⟨22, xa, xq, xc, xt⟩ w w3 xb := by rw [← hw3, ← hw2, ← hxb]; exact HN1.out
  have HW := Lib.hid (And.intro hxb (And.intro hw2 hw3))
  have HBG := Lib.hid hbg
  have x0 : w3.cell? ⟨xb, 0, none⟩ = some (.int .u8 22) := hbg.x.cell 0
  clear h1 hH1 hb1 HN1 HNEW HH HM hw2 hxb hw3 hb2 m2 hbg c0 f0 c2
  clear hw1
  go_upto_region 4 with fail
  rw [HW.out.1, HW.out.2.1]
  go_upto_region 5 with fail
  rw [HW.out.2.2]
  clear a0 a1 a2 a3 a4 c4 b8 g8
  have HON : Hid (∀ W, MM c { s with st := s.st + 1 } w W → Calls Try.prog 49 #[.pointer (some ⟨c.g, 0, none⟩), .int .i64 xq, .int .i64 1] W fun e w' => e = .returned (.tuple #[]) ∧ NextP c V is s w w') := Lib.hid (by
    have ho := HOP.out
    have hm3 := HG.out.hm
    obtain ⟨⟨t9, p9⟩, ⟨r9, he9⟩, hl9, hI9⟩ := HI.out.plain HG.out HIX.out (by refine ⟨?_, ?_, ?_, ?_, ?_, ?_⟩ <;> (show (22 : Nat) ≠ _; decide)) (by show (22 : Nat) ≠ 8; decide) (by show (22 : Nat) ≠ 25; decide)
    simp [Wk.eff] at he9
    simp [opnd, wi] at ho
    have he9 : xq = t9 ∧ 1 = p9 := by first | exact he9 | omega | (obtain ⟨h1, h2⟩ := he9; omega)
    rw [← he9.1, ← he9.2] at hI9
    rw [← he9.1] at hl9
    exact onward HBB.out.1 HBB.out.2 HAE.out.2 (by omega) (by omega) hl9 hI9)
  have x2 : w3.cell? ⟨xb, 2, none⟩ = some (.int .i64 xq) := HBG.out.x.cell 2
  go_wp2_with fail
  refine (HON.out _ HBG.out.m).mono ?_
  rintro e w5 ⟨rfl, h5⟩
  have H5 := Lib.hid h5
  clear h5
  go_wp2_with fail
  go_end0
  exact ⟨rfl, H5.out⟩
set_option maxRecDepth 20000 in
set_option maxHeartbeats 4000000 in
theorem next_11 (c : Mc) (s : Ms) (w wx : World) (V : Wk) (is : List Ins) (gg : Int × Int) (h : MM c s w wx) (hb : Mb c s) (hst : s.st ≤ 400) (hG : Good c V is gg) (i : Ins) (hi : is[s.a]? = some i) (hop : i.op = 11) (hI : Inv V is s) : Calls Try.prog 24 #[.pointer (some ⟨c.g, 0, none⟩)] wx fun e w' => e = .returned (.tuple #[]) ∧ NextP c V is s w w' := by
  have hae := hI.at_lt hG
  have hop9 := hG.bounds hi
  obtain ⟨fb, fo, ib, io, n, cap, hH, han, hn3, hfm⟩ := h.here hG hi
  obtain ⟨xo, xa, xq, xc, xt⟩ := i
  obtain rfl : xo = 11 := hop
  have HB3 := Lib.hid (hb.begun hst)
  have HNEW := Lib.hid (fun w1 (h1 : MM c s w w1) => Begun.new h1 ⟨11, xa, xq, xc, xt⟩)
  have HH := Lib.hid (fun V (hV : Below wx.heap.size wx V) => hH.bel hV)
  have HM := Lib.hid (fun V (hV : Below wx.heap.size wx V) => h.belx hV)
  have c0 := hH.c0
  have f0 := hH.f0
  have c2 := h.told.2.2.1
  have c4 := h.told.2.2.2.2.1
  obtain ⟨a, ha⟩ : ∃ z, s.a = z := ⟨_, rfl⟩
  obtain ⟨cf, hcf⟩ : ∃ z, c.f = z := ⟨_, rfl⟩
  obtain ⟨m, hm⟩ : ∃ z, c.cl.fs.length = z := ⟨_, rfl⟩
  obtain ⟨st, hs9⟩ : ∃ z, s.st = z := ⟨_, rfl⟩
  rw [ha] at c4 han hH HH
  rw [hcf] at c2 f0 hfm
  rw [hm] at c0 hfm
  rw [hs9] at HNEW
  have hst4 : st ≤ 400 := by rw [← hs9]; exact hst
  have HE := Lib.hid (And.intro ha (And.intro hcf (And.intro hm hs9)))
  have HG := Lib.hid hG
  have HI := Lib.hid hI
  have HIX := Lib.hid hi
  have HOP := Lib.hid hop9
  have HBB := Lib.hid (And.intro hb hst)
  have HAE := Lib.hid hae
  clear h hb hG hI hi hH ha hcf hm hs9 hop9 hst hae
  have d0 : decide ((a : Int) < 0) = false := decide_eq_false (by omega)
  have d1 : decide ((a : Int) ≥ (n : Int)) = false := decide_eq_false (by omega)
  have hfi : (cf : Int) < (m : Int) := by omega
  have hai : (a : Int) < (n : Int) := by omega
  go_enter Try.func24, Try.ntmps24
  go_upto_region 0 with fail
  go_quiet (fail)
  obtain ⟨w1, hw1⟩ : ∃ V, wx.drewN nq = V := ⟨_, rfl⟩
  rw [hw1]
  have hb1 : Below wx.heap.size wx w1 := by rw [← hw1]; exact (Off.drewN (fun _ => False) _ _).below (Nat.le_refl _) (fun k h => h.elim)
  have h1 := HM.out w1 hb1
  have hH1 := HH.out w1 hb1
  have HN1 := Lib.hid (HNEW.out w1 h1)
  have c4 : w1.cell? ⟨c.g, 4, none⟩ = some (.int .i64 (a : Int)) := by rw [← HE.out.1]; exact h1.told.2.2.2.2.1
  have a0 := hH1.a0
  have a1 := hH1.a1
  have a2 := hH1.a2
  have a3 := hH1.a3
  have a4 := hH1.a4
  obtain ⟨w2, hw2⟩ : ∃ V, w1.alloc (.cells #[.int .u8 11, .int .i64 xa, .int .i64 xq, .int .i64 xc, .string (str xt)] 46) = V := ⟨_, rfl⟩
  obtain ⟨xb, hxb⟩ : ∃ z, w1.heap.size = z := ⟨_, rfl⟩
  obtain ⟨w3, hw3⟩ : ∃ V, w2.setCell ⟨c.g, 8, none⟩ (.int .i64 ((st : Int) + 1)) = V := ⟨_, rfl⟩
  have hb2 : Below w1.heap.size w1 w2 := by rw [← hw2]; exact (Below.refl _ _).alloc (Nat.le_refl _) _
  have m2 := h1.belx hb2
  have b8 : w2.cell? ⟨c.g, 8, none⟩ = some (.int .i64 (st : Int)) := by rw [← HE.out.2.2.2]; exact m2.told.2.2.2.2.2.2.2.2.1
  have g8 := m2.blk.frozen 8
  have hbg : Begun c s ⟨11, xa, xq, xc, xt⟩ w w3 xb := by rw [← hw3, ← hw2, ← hxb]; exact HN1.out
  have HW := Lib.hid (And.intro hxb (And.intro hw2 hw3))
  have HBG := Lib.hid hbg
  have x0 : w3.cell? ⟨xb, 0, none⟩ = some (.int .u8 11) := hbg.x.cell 0
  clear h1 hH1 hb1 HN1 HNEW HH HM hw2 hxb hw3 hb2 m2 hbg c0 f0 c2
  clear hw1
  go_upto_region 4 with fail
  rw [HW.out.1, HW.out.2.1]
  go_upto_region 5 with fail
  rw [HW.out.2.2]
  clear a0 a1 a2 a3 a4 c4 b8 g8
  have HON : Hid (∀ W, MM c { s with st := s.st + 1 } w W → Calls Try.prog 49 #[.pointer (some ⟨c.g, 0, none⟩), .int .i64 xa, .int .i64 1] W fun e w' => e = .returned (.tuple #[]) ∧ NextP c V is s w w') := Lib.hid (by
    have ho := HOP.out
    have hm3 := HG.out.hm
    obtain ⟨⟨t9, p9⟩, ⟨r9, he9⟩, hl9, hI9⟩ := HI.out.plain HG.out HIX.out (by refine ⟨?_, ?_, ?_, ?_, ?_, ?_⟩ <;> (show (11 : Nat) ≠ _; decide)) (by show (11 : Nat) ≠ 8; decide) (by show (11 : Nat) ≠ 25; decide)
    simp [Wk.eff] at he9
    simp [opnd, wi] at ho
    have he9 : xa = t9 ∧ 1 = p9 := by first | exact he9 | omega | (obtain ⟨h1, h2⟩ := he9; omega)
    rw [← he9.1, ← he9.2] at hI9
    rw [← he9.1] at hl9
    exact onward HBB.out.1 HBB.out.2 HAE.out.2 (by omega) (by omega) hl9 hI9)
  have x1 : w3.cell? ⟨xb, 1, none⟩ = some (.int .i64 xa) := HBG.out.x.cell 1
  go_wp2_with fail
  refine (HON.out _ HBG.out.m).mono ?_
  rintro e w5 ⟨rfl, h5⟩
  have H5 := Lib.hid h5
  clear h5
  go_wp2_with fail
  go_end0
  exact ⟨rfl, H5.out⟩
set_option maxRecDepth 20000 in
set_option maxHeartbeats 4000000 in
theorem next_21 (c : Mc) (s : Ms) (w wx : World) (V : Wk) (is : List Ins) (gg : Int × Int) (h : MM c s w wx) (hb : Mb c s) (hst : s.st ≤ 400) (hG : Good c V is gg) (i : Ins) (hi : is[s.a]? = some i) (hop : i.op = 21) (hI : Inv V is s) : Calls Try.prog 24 #[.pointer (some ⟨c.g, 0, none⟩)] wx fun e w' => e = .returned (.tuple #[]) ∧ NextP c V is s w w' := by
  have hae := hI.at_lt hG
  have hop9 := hG.bounds hi
  obtain ⟨fb, fo, ib, io, n, cap, hH, han, hn3, hfm⟩ := h.here hG hi
  obtain ⟨xo, xa, xq, xc, xt⟩ := i
  obtain rfl : xo = 21 := hop
  have HB3 := Lib.hid (hb.begun hst)
  have HNEW := Lib.hid (fun w1 (h1 : MM c s w w1) => Begun.new h1 ⟨21, xa, xq, xc, xt⟩)
  have HH := Lib.hid (fun V (hV : Below wx.heap.size wx V) => hH.bel hV)
  have HM := Lib.hid (fun V (hV : Below wx.heap.size wx V) => h.belx hV)
  have c0 := hH.c0
  have f0 := hH.f0
  have c2 := h.told.2.2.1
  have c4 := h.told.2.2.2.2.1
  obtain ⟨a, ha⟩ : ∃ z, s.a = z := ⟨_, rfl⟩
  obtain ⟨cf, hcf⟩ : ∃ z, c.f = z := ⟨_, rfl⟩
  obtain ⟨m, hm⟩ : ∃ z, c.cl.fs.length = z := ⟨_, rfl⟩
  obtain ⟨st, hs9⟩ : ∃ z, s.st = z := ⟨_, rfl⟩
  rw [ha] at c4 han hH HH
  rw [hcf] at c2 f0 hfm
  rw [hm] at c0 hfm
  rw [hs9] at HNEW
  have hst4 : st ≤ 400 := by rw [← hs9]; exact hst
  have HE := Lib.hid (And.intro ha (And.intro hcf (And.intro hm hs9)))
  have HG := Lib.hid hG
  have HI := Lib.hid hI
  have HIX := Lib.hid hi
  have HOP := Lib.hid hop9
  have HBB := Lib.hid (And.intro hb hst)
  have HAE := Lib.hid hae
  clear h hb hG hI hi hH ha hcf hm hs9 hop9 hst hae
  have d0 : decide ((a : Int) < 0) = false := decide_eq_false (by omega)
  have d1 : decide ((a : Int) ≥ (n : Int)) = false := decide_eq_false (by omega)
  have hfi : (cf : Int) < (m : Int) := by omega
  have hai : (a : Int) < (n : Int) := by omega
  go_enter Try.func24, Try.ntmps24
  go_upto_region 0 with fail
  go_quiet (fail)
  obtain ⟨w1, hw1⟩ : ∃ V, wx.drewN nq = V := ⟨_, rfl⟩
  rw [hw1]
  have hb1 : Below wx.heap.size wx w1 := by rw [← hw1]; exact (Off.drewN (fun _ => False) _ _).below (Nat.le_refl _) (fun k h => h.elim)
  have h1 := HM.out w1 hb1
  have hH1 := HH.out w1 hb1
  have HN1 := Lib.hid (HNEW.out w1 h1)
  have c4 : w1.cell? ⟨c.g, 4, none⟩ = some (.int .i64 (a : Int)) := by rw [← HE.out.1]; exact h1.told.2.2.2.2.1
  have a0 := hH1.a0
  have a1 := hH1.a1
  have a2 := hH1.a2
  have a3 := hH1.a3
  have a4 := hH1.a4
  obtain ⟨w2, hw2⟩ : ∃ V, w1.alloc (.cells #[.int .u8 21, .int .i64 xa, .int .i64 xq, .int .i64 xc, .string (str xt)] 46) = V := ⟨_, rfl⟩
  obtain ⟨xb, hxb⟩ : ∃ z, w1.heap.size = z := ⟨_, rfl⟩
  obtain ⟨w3, hw3⟩ : ∃ V, w2.setCell ⟨c.g, 8, none⟩ (.int .i64 ((st : Int) + 1)) = V := ⟨_, rfl⟩
  have hb2 : Below w1.heap.size w1 w2 := by rw [← hw2]; exact (Below.refl _ _).alloc (Nat.le_refl _) _
  have m2 := h1.belx hb2
  have b8 : w2.cell? ⟨c.g, 8, none⟩ = some (.int .i64 (st : Int)) := by rw [← HE.out.2.2.2]; exact m2.told.2.2.2.2.2.2.2.2.1
  have g8 := m2.blk.frozen 8
  have hbg : Begun c s ⟨21, xa, xq, xc, xt⟩ w w3 xb := by rw [← hw3, ← hw2, ← hxb]; exact HN1.out
  have HW := Lib.hid (And.intro hxb (And.intro hw2 hw3))
  have HBG := Lib.hid hbg
  have x0 : w3.cell? ⟨xb, 0, none⟩ = some (.int .u8 21) := hbg.x.cell 0
  clear h1 hH1 hb1 HN1 HNEW HH HM hw2 hxb hw3 hb2 m2 hbg c0 f0 c2
  clear hw1
  go_upto_region 4 with fail
  rw [HW.out.1, HW.out.2.1]
  go_upto_region 5 with fail
  rw [HW.out.2.2]
  clear a0 a1 a2 a3 a4 c4 b8 g8
  have HON : Hid (∀ W, MM c { s with st := s.st + 1 } w W → Calls Try.prog 49 #[.pointer (some ⟨c.g, 0, none⟩), .int .i64 1, .int .i64 0] W fun e w' => e = .returned (.tuple #[]) ∧ NextP c V is s w w') := Lib.hid (by
    have ho := HOP.out
    have hm3 := HG.out.hm
    obtain ⟨⟨t9, p9⟩, ⟨r9, he9⟩, hl9, hI9⟩ := HI.out.plain HG.out HIX.out (by refine ⟨?_, ?_, ?_, ?_, ?_, ?_⟩ <;> (show (21 : Nat) ≠ _; decide)) (by show (21 : Nat) ≠ 8; decide) (by show (21 : Nat) ≠ 25; decide)
    simp [Wk.eff] at he9
    simp [opnd, wi] at ho
    have he9 : 1 = t9 ∧ 0 = p9 := by first | exact he9 | omega | (obtain ⟨h1, h2⟩ := he9; omega)
    rw [← he9.1, ← he9.2] at hI9
    rw [← he9.1] at hl9
    exact onward HBB.out.1 HBB.out.2 HAE.out.2 (by omega) (by omega) hl9 hI9)
  go_wp2_with fail
  refine (HON.out _ HBG.out.m).mono ?_
  rintro e w5 ⟨rfl, h5⟩
  have H5 := Lib.hid h5
  clear h5
  go_wp2_with fail
  go_end0
  exact ⟨rfl, H5.out⟩
set_option maxRecDepth 20000 in
set_option maxHeartbeats 4000000 in
theorem next_6 (c : Mc) (s : Ms) (w wx : World) (V : Wk) (is : List Ins) (gg : Int × Int) (h : MM c s w wx) (hb : Mb c s) (hst : s.st ≤ 400) (hG : Good c V is gg) (i : Ins) (hi : is[s.a]? = some i) (hop : i.op = 6) (hI : Inv V is s) : Calls Try.prog 24 #[.pointer (some ⟨c.g, 0, none⟩)] wx fun e w' => e = .returned (.tuple #[]) ∧ NextP c V is s w w' := by
  have hae := hI.at_lt hG
  have hop9 := hG.bounds hi
  obtain ⟨fb, fo, ib, io, n, cap, hH, han, hn3, hfm⟩ := h.here hG hi
  obtain ⟨xo, xa, xq, xc, xt⟩ := i
  obtain rfl : xo = 6 := hop
  have HB3 := Lib.hid (hb.begun hst)
  have HNEW := Lib.hid (fun w1 (h1 : MM c s w w1) => Begun.new h1 ⟨6, xa, xq, xc, xt⟩)
  have HH := Lib.hid (fun V (hV : Below wx.heap.size wx V) => hH.bel hV)
  have HM := Lib.hid (fun V (hV : Below wx.heap.size wx V) => h.belx hV)
  have c0 := hH.c0
  have f0 := hH.f0
  have c2 := h.told.2.2.1
  have c4 := h.told.2.2.2.2.1
  obtain ⟨a, ha⟩ : ∃ z, s.a = z := ⟨_, rfl⟩
  obtain ⟨cf, hcf⟩ : ∃ z, c.f = z := ⟨_, rfl⟩
  obtain ⟨m, hm⟩ : ∃ z, c.cl.fs.length = z := ⟨_, rfl⟩
  obtain ⟨st, hs9⟩ : ∃ z, s.st = z := ⟨_, rfl⟩
  rw [ha] at c4 han hH HH
  rw [hcf] at c2 f0 hfm
  rw [hm] at c0 hfm
  rw [hs9] at HNEW
  have hst4 : st ≤ 400 := by rw [← hs9]; exact hst
  have HE := Lib.hid (And.intro ha (And.intro hcf (And.intro hm hs9)))
  have HG := Lib.hid hG
  have HI := Lib.hid hI
  have HIX := Lib.hid hi
  have HOP := Lib.hid hop9
  have HBB := Lib.hid (And.intro hb hst)
  have HAE := Lib.hid hae
  clear h hb hG hI hi hH ha hcf hm hs9 hop9 hst hae
  have d0 : decide ((a : Int) < 0) = false := decide_eq_false (by omega)
  have d1 : decide ((a : Int) ≥ (n : Int)) = false := decide_eq_false (by omega)
  have hfi : (cf : Int) < (m : Int) := by omega
  have hai : (a : Int) < (n : Int) := by omega
  go_enter Try.func24, Try.ntmps24
  go_upto_region 0 with fail
  go_quiet (fail)
  obtain ⟨w1, hw1⟩ : ∃ V, wx.drewN nq = V := ⟨_, rfl⟩
  rw [hw1]
  have hb1 : Below wx.heap.size wx w1 := by rw [← hw1]; exact (Off.drewN (fun _ => False) _ _).below (Nat.le_refl _) (fun k h => h.elim)
  have h1 := HM.out w1 hb1
  have hH1 := HH.out w1 hb1
  have HN1 := Lib.hid (HNEW.out w1 h1)
  have c4 : w1.cell? ⟨c.g, 4, none⟩ = some (.int .i64 (a : Int)) := by rw [← HE.out.1]; exact h1.told.2.2.2.2.1
  have a0 := hH1.a0
  have a1 := hH1.a1
  have a2 := hH1.a2
  have a3 := hH1.a3
  have a4 := hH1.a4
  obtain ⟨w2, hw2⟩ : ∃ V, w1.alloc (.cells #[.int .u8 6, .int .i64 xa, .int .i64 xq, .int .i64 xc, .string (str xt)] 46) = V := ⟨_, rfl⟩
  obtain ⟨xb, hxb⟩ : ∃ z, w1.heap.size = z := ⟨_, rfl⟩
  obtain ⟨w3, hw3⟩ : ∃ V, w2.setCell ⟨c.g, 8, none⟩ (.int .i64 ((st : Int) + 1)) = V := ⟨_, rfl⟩
  have hb2 : Below w1.heap.size w1 w2 := by rw [← hw2]; exact (Below.refl _ _).alloc (Nat.le_refl _) _
  have m2 := h1.belx hb2
  have b8 : w2.cell? ⟨c.g, 8, none⟩ = some (.int .i64 (st : Int)) := by rw [← HE.out.2.2.2]; exact m2.told.2.2.2.2.2.2.2.2.1
  have g8 := m2.blk.frozen 8
  have hbg : Begun c s ⟨6, xa, xq, xc, xt⟩ w w3 xb := by rw [← hw3, ← hw2, ← hxb]; exact HN1.out
  have HW := Lib.hid (And.intro hxb (And.intro hw2 hw3))
  have HBG := Lib.hid hbg
  have x0 : w3.cell? ⟨xb, 0, none⟩ = some (.int .u8 6) := hbg.x.cell 0
  clear h1 hH1 hb1 HN1 HNEW HH HM hw2 hxb hw3 hb2 m2 hbg c0 f0 c2
  clear hw1
  go_upto_region 4 with fail
  rw [HW.out.1, HW.out.2.1]
  go_upto_region 5 with fail
  rw [HW.out.2.2]
  clear a0 a1 a2 a3 a4 c4 b8 g8
  have HON : Hid (∀ W, MM c { s with st := s.st + 1 } w W → Calls Try.prog 49 #[.pointer (some ⟨c.g, 0, none⟩), .int .i64 xc, .int .i64 xq] W fun e w' => e = .returned (.tuple #[]) ∧ NextP c V is s w w') := Lib.hid (by
    have ho := HOP.out
    have hm3 := HG.out.hm
    obtain ⟨⟨t9, p9⟩, ⟨r9, he9⟩, hl9, hI9⟩ := HI.out.plain HG.out HIX.out (by refine ⟨?_, ?_, ?_, ?_, ?_, ?_⟩ <;> (show (6 : Nat) ≠ _; decide)) (by show (6 : Nat) ≠ 8; decide) (by show (6 : Nat) ≠ 25; decide)
    simp [Wk.eff] at he9
    simp [opnd, wi] at ho
    have he9 : xc = t9 ∧ xq = p9 := by first | exact he9 | omega | (obtain ⟨h1, h2⟩ := he9; omega)
    rw [← he9.1, ← he9.2] at hI9
    rw [← he9.1] at hl9
    exact onward HBB.out.1 HBB.out.2 HAE.out.2 (by omega) (by omega) hl9 hI9)
  have x3 : w3.cell? ⟨xb, 3, none⟩ = some (.int .i64 xc) := HBG.out.x.cell 3
  have x2 : w3.cell? ⟨xb, 2, none⟩ = some (.int .i64 xq) := HBG.out.x.cell 2
  go_wp2_with fail
  refine (HON.out _ HBG.out.m).mono ?_
  rintro e w5 ⟨rfl, h5⟩
  have H5 := Lib.hid h5
  clear h5
  go_wp2_with fail
  go_end0
  exact ⟨rfl, H5.out⟩
end Go.Proofs.Ytimkiifcmegfeaa
