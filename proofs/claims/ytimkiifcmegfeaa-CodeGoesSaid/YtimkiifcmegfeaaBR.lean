/- Contracts, part BR. -/
import Derived.Test.YtimkiifcmegfeaaBH
/- code: the law's machine: a try more (written by cdnext.py). -/
namespace Go.Proofs.Ytimkiifcmegfeaa
open Go.RowKit
set_option linter.unusedVariables false
set_option linter.unusedSimpArgs false
attribute [local go_sem] Oper.semAt_some
theorem infoTr : (Try.prog.info? 109).map (fun i => (i.zero, i.size, i.bytes)) = some (some (.agg #[.int .i64 0, .int .i64 0]), 2, 16) := by kernel_rfl
/-- A try is put at the end of a row. -/
theorem push_tr {w : World} {B : Nat} {vr : Value} {rows : List (Nat × Int)} (h : w.ownsRow B 109 2 vr rows.length (trl rows)) (hB : B ≤ w.heap.size) (x : Nat × Int) (g : Nat) (h0 : w.cell? ⟨g, 0, none⟩ = some (.int .i64 (x.1 : Int))) (h1 : w.cell? ⟨g, 1, none⟩ = some (.int .i64 x.2)) (hl : rows.length < 1000000) :
    ∃ v' w', (Builtin.append_ #[51, 51] 51 #[vr, .slice (some ⟨g, 0, none⟩) 1 1]).run Try.prog w = .ok v' w' ∧ w'.ownsRow B 109 2 v' (rows ++ [x]).length (trl (rows ++ [x])) ∧ w.grownBy w' vr.ownBlock ∧ (v'.ownBlock = vr.ownBlock ∨ v'.ownBlock = some w.heap.size) := by
  obtain ⟨i0, hi, hz0, hz1, hz2⟩ := info_parts infoTr
  have hcell : ∀ (j : Nat) (u : Value), [Value.int .i64 (x.1 : Int), Value.int .i64 x.2][j]? = some u → w.cell? ((⟨g, 0, none⟩ : Addr).add j) = some u := fun j u hj => by
    have e2 : (⟨g, 0, none⟩ : Addr).add j = ⟨g, 0 + j, none⟩ := by unfold Addr.add; split <;> simp_all
    rw [e2, Nat.zero_add]
    rcases j with _ | j
    · cases hj; exact h0
    · rcases j with _ | j
      · cases hj; exact h1
      · simp at hj
  obtain ⟨v', w', hrun, h2, h3, _, h5⟩ := run_append_own_at (P := Try.prog) w B 51 51 109 i0 (.agg #[.int .i64 0, .int .i64 0]) 2 16 Try.underlying51 hi hz0 hz1 hz2 rfl (by decide) vr rows.length _ h ⟨g, 0, none⟩ 1 1 [.int .i64 (x.1 : Int), .int .i64 x.2] (by simp) hcell
    (fun u hu => by rcases List.mem_cons.1 hu with rfl | hu; rfl; rw [List.mem_singleton.1 hu]; rfl) (by unfold maxLen; omega) (by omega) hB
  exact ⟨v', w', hrun, by rw [List.length_append, List.length_singleton, trl_app]; exact h2, h3, h5⟩
theorem MM.push {c : Mc} {s : Ms} {w wa w' : World} {v' : Value} {x : Nat × Int} (h : MM c s w wa) (hown : w'.ownsRow (c.g + 1) 109 2 v' (s.tr ++ [x]).length (trl (s.tr ++ [x]))) (hgr : wa.grownBy w' s.tv.ownBlock) : MM c { s with tr := s.tr ++ [x], tv := v' } w (w'.setCell ⟨c.g, 6, none⟩ v') := by
  have hlt := h.lt
  have hne : s.tv.ownBlock ≠ some c.g := fun e => by have := (h.own.lt _ e).1; omega
  have ho : Off (fun k => k = c.g ∨ s.tv.ownBlock = some k) wa (w'.setCell ⟨c.g, 6, none⟩ v') := ((Off.of_grown hgr).mono fun k _ hk => .inr hk).trans ((Off.setc w' c.g 6 v').mono fun k _ hk => .inl hk)
  have hin : ∀ b, b < w.heap.size → ¬ (b = c.g ∨ s.tv.ownBlock = some b) := fun b hb e => by
    rcases e with e | e
    · omega
    · have := (h.own.lt _ e).1; omega
  refine ⟨by simpa [mcells] using Blk.set_ (h.blk.grown hgr hne.symm) 6 v', own_same hown fun k hk => (Off.setc w' c.g 6 v').block k (hown.lt k hk).2 (by have := (hown.lt k hk).1; omega), h.cl.off ho hin, h.by_.same ho.size (fun p e hlt2 => ho.block _ hlt2 (hin _ (h.wA p e))), h.wA, h.lt, h.bel.trans (ho.below h.bel.size fun k e => ?_)⟩
  rcases e with e | e
  · omega
  · have := (h.own.lt _ e).1; omega
end Go.Proofs.Ytimkiifcmegfeaa
/- code: the law's machine: next, a try more (written by cdnext.py). -/
namespace Go.Proofs.Ytimkiifcmegfeaa
open Go.RowKit
set_option linter.unusedVariables false
set_option linter.unusedSimpArgs false
attribute [local go_sem] Oper.semAt_some
set_option maxRecDepth 20000 in
set_option maxHeartbeats 4000000 in
theorem next_18 (c : Mc) (s : Ms) (w wx : World) (V : Wk) (is : List Ins) (gg : Int × Int) (h : MM c s w wx) (hb : Mb c s) (hst : s.st ≤ 400) (hG : Good c V is gg) (i : Ins) (hi : is[s.a]? = some i) (hop : i.op = 18) (hI : Inv V is s) : Calls Try.prog 24 #[.pointer (some ⟨c.g, 0, none⟩)] wx fun e w' => e = .returned (.tuple #[]) ∧ NextP c V is s w w' := by
  have hae := hI.at_lt hG
  have hop9 := hG.bounds hi
  obtain ⟨fb, fo, ib, io, n, cap, hH, han, hn3, hfm⟩ := h.here hG hi
  obtain ⟨xo, xa, xq, xc, xt⟩ := i
  obtain rfl : xo = 18 := hop
  have HB3 := Lib.hid (hb.begun hst)
  have HNEW := Lib.hid (fun w1 (h1 : MM c s w w1) => Begun.new h1 ⟨18, xa, xq, xc, xt⟩)
  have HH := Lib.hid (fun V (hV : Below wx.heap.size wx V) => hH.bel hV)
  have HM := Lib.hid (fun V (hV : Below wx.heap.size wx V) => h.belx hV)
  have c0 := hH.c0
  have f0 := hH.f0
  have c2 := h.told.2.2.1
  have c4 := h.told.2.2.2.2.1
  obtain ⟨a, ha⟩ : ∃ z, s.a = z := ⟨_, rfl⟩
  obtain ⟨cf, hcf⟩ : ∃ z, c.f = z := ⟨_, rfl⟩
  obtain ⟨m, hm⟩ : ∃ z, c.cl.fs.length = z := ⟨_, rfl⟩
  obtain ⟨st, hs9⟩ : ∃ z, s.st = z := ⟨_, rfl⟩
  rw [ha] at c4 han hH HH
  rw [hcf] at c2 f0 hfm
  rw [hm] at c0 hfm
  rw [hs9] at HNEW
  have hst4 : st ≤ 400 := by rw [← hs9]; exact hst
  have HE := Lib.hid (And.intro ha (And.intro hcf (And.intro hm hs9)))
  have HG := Lib.hid hG
  have HI := Lib.hid hI
  have HIX := Lib.hid hi
  have HOP := Lib.hid hop9
  have HBB := Lib.hid (And.intro hb hst)
  have HAE := Lib.hid hae
  clear h hb hG hI hi hH ha hcf hm hs9 hop9 hst hae
  have d0 : decide ((a : Int) < 0) = false := decide_eq_false (by omega)
  have d1 : decide ((a : Int) ≥ (n : Int)) = false := decide_eq_false (by omega)
  have hfi : (cf : Int) < (m : Int) := by omega
  have hai : (a : Int) < (n : Int) := by omega
  go_enter Try.func24, Try.ntmps24
  go_upto_region 0 with fail
  go_quiet (fail)
  obtain ⟨w1, hw1⟩ : ∃ V, wx.drewN nq = V := ⟨_, rfl⟩
  rw [hw1]
  have hb1 : Below wx.heap.size wx w1 := by rw [← hw1]; exact (Off.drewN (fun _ => False) _ _).below (Nat.le_refl _) (fun k h => h.elim)
  have h1 := HM.out w1 hb1
  have hH1 := HH.out w1 hb1
  have HN1 := Lib.hid (HNEW.out w1 h1)
  have c4 : w1.cell? ⟨c.g, 4, none⟩ = some (.int .i64 (a : Int)) := by rw [← HE.out.1]; exact h1.told.2.2.2.2.1
  have a0 := hH1.a0
  have a1 := hH1.a1
  have a2 := hH1.a2
  have a3 := hH1.a3
  have a4 := hH1.a4
  obtain ⟨w2, hw2⟩ : ∃ V, w1.alloc (.cells #[.int .u8 18, .int .i64 xa, .int .i64 xq, .int .i64 xc, .string (str xt)] 46) = V := ⟨_, rfl⟩
  obtain ⟨xb, hxb⟩ : ∃ z, w1.heap.size = z := ⟨_, rfl⟩
  obtain ⟨w3, hw3⟩ : ∃ V, w2.setCell ⟨c.g, 8, none⟩ (.int .i64 ((st : Int) + 1)) = V := ⟨_, rfl⟩
  have hb2 : Below w1.heap.size w1 w2 := by rw [← hw2]; exact (Below.refl _ _).alloc (Nat.le_refl _) _
  have m2 := h1.belx hb2
  have b8 : w2.cell? ⟨c.g, 8, none⟩ = some (.int .i64 (st : Int)) := by rw [← HE.out.2.2.2]; exact m2.told.2.2.2.2.2.2.2.2.1
  have g8 := m2.blk.frozen 8
  have hbg : Begun c s ⟨18, xa, xq, xc, xt⟩ w w3 xb := by rw [← hw3, ← hw2, ← hxb]; exact HN1.out
  have HW := Lib.hid (And.intro hxb (And.intro hw2 hw3))
  have HBG := Lib.hid hbg
  have x0 : w3.cell? ⟨xb, 0, none⟩ = some (.int .u8 18) := hbg.x.cell 0
  clear h1 hH1 hb1 HN1 HNEW HH HM hw2 hxb hw3 hb2 m2 hbg c0 f0 c2
  clear hw1
  go_upto_region 4 with fail
  rw [HW.out.1, HW.out.2.1]
  go_upto_region 5 with fail
  rw [HW.out.2.2]
  clear a0 a1 a2 a3 a4 c4 b8 g8
  have hx9 : (0 ≤ xa ∧ xa ≤ 3000) ∧ ∀ tv, Inv V is ⟨s.a + 1, s.h, tv, s.tr ++ [(xa.toNat, s.h)], s.st + 1, s.dn⟩ := by
    have ho := HOP.out
    obtain ⟨r, hat, htr⟩ := HI.out
    have hc9 := HG.out.closed.c _ _ _ hat HIX.out
    simp [Wk.closedAt] at hc9
    simp [opnd, wi] at ho
    have hq := HG.out
    obtain ⟨f9, hf9, e9⟩ := hq.fe
    have hq3 := hq.hq f9 (List.mem_of_getElem? hf9)
    rw [e9] at hq3
    obtain ⟨r', h0, h1, h2, h3⟩ := hc9
    exact ⟨by omega, fun tv => ⟨r', h2, by rw [List.reverse_append]; exact ⟨h0, r, s.a, _, h1, HIX.out, rfl, rfl, hat, htr⟩⟩⟩
  have x1 : w3.cell? ⟨xb, 1, none⟩ = some (.int .i64 xa) := HBG.out.x.cell 1
  have t3 := HBG.out.m.told
  obtain ⟨hh, hhh⟩ : ∃ z, s.h = z := ⟨_, rfl⟩
  obtain ⟨tv, htv⟩ : ∃ z, s.tv = z := ⟨_, rfl⟩
  have k0 := t3.1
  have k1 := t3.2.1
  have k2 : w3.cell? ⟨c.g, 2, none⟩ = some (.int .i64 (cf : Int)) := by rw [← HE.out.2.1]; exact t3.2.2.1
  have k4 : w3.cell? ⟨c.g, 4, none⟩ = some (.int .i64 (a : Int)) := by rw [← HE.out.1]; exact t3.2.2.2.2.1
  have k5 : w3.cell? ⟨c.g, 5, none⟩ = some (.int .i64 hh) := by rw [← hhh]; exact t3.2.2.2.2.2.1
  have k6 : w3.cell? ⟨c.g, 6, none⟩ = some tv := by rw [← htv]; exact t3.2.2.2.2.2.2.1
  have k9 : w3.cell? ⟨c.g, 9, none⟩ = some (.bool false) := t3.2.2.2.2.2.2.2.2.2.1
  have f9 := HBG.out.m.blk.frozen 9
  have f4 := HBG.out.m.blk.frozen 4
  have f5 := HBG.out.m.blk.frozen 5
  have f6 := HBG.out.m.blk.frozen 6
  have f10 := HBG.out.m.blk.frozen 10
  have HHH := Lib.hid hhh
  have HTV := Lib.hid htv
  clear t3
  obtain ⟨g9, hg9⟩ : ∃ z, w3.heap.size = z := ⟨_, rfl⟩
  obtain ⟨wa, hwa⟩ : ∃ V, (w3.alloc (.cells #[.int .i64 xa, .int .i64 hh] 109)).drew = V := ⟨_, rfl⟩
  have hba : Below w3.heap.size w3 wa := by rw [← hwa]; exact ((Below.refl _ _).alloc (Nat.le_refl _) _).drew
  have hsa : wa.heap.size = g9 + 1 := by rw [← hwa, ← hg9]; simp
  have Ba : Blk wa g9 109 #[.int .i64 xa, .int .i64 hh] := by rw [← hwa, ← hg9]; exact (Blk.new _ _ _).drew
  have hma := HBG.out.m.belx hba
  have htl : s.tr.length ≤ 400 := by have h1 := HBB.out.1.trn; have := HBB.out.2; omega
  obtain ⟨v', w5, hrun, hown, hgr, hob⟩ := push_tr hma.own (by have := hma.blk.lt; omega) (xa.toNat, hh) g9 (by have := Ba.cell 0; rw [show (((xa.toNat, hh) : Nat × Int).1 : Int) = xa by show ((xa.toNat : Nat) : Int) = xa; omega]; exact this) (Ba.cell 1) (by show s.tr.length < 1000000; omega)
  obtain ⟨A', cp', hv'⟩ := shape_n hown
  obtain ⟨n9, hn9⟩ : ∃ z, (s.tr ++ [(xa.toNat, hh)]).length = z := ⟨_, rfl⟩
  have hn9' : (({ s with st := s.st + 1 } : Ms).tr ++ [(xa.toNat, hh)]).length = n9 := hn9
  have hp := hma.push hown hgr
  have hrun : (Builtin.append_ #[51, 51] 51 #[tv, .slice (some ⟨g9, 0, none⟩) 1 1]).run Try.prog wa = .ok v' w5 := by rw [← htv]; exact hrun
  have hgr : wa.grownBy w5 s.tv.ownBlock := hgr
  have hne : some c.g ≠ s.tv.ownBlock := fun e => by have := (hma.own.lt _ e.symm).1; omega
  have B5 : Blk w5 c.g 53 (mcells c { s with st := s.st + 1 }) := hma.blk.grown hgr hne
  obtain ⟨w6, hw6⟩ : ∃ V, w5.setCell ⟨c.g, 6, none⟩ v' = V := ⟨_, rfl⟩
  rw [hw6] at hp
  rw [hn9'] at hv'
  have hab : a ≤ 200000 := by have := HAE.out.2; have := HE.out.1; omega
  have hdone : NextP c V is s w (w6.setCell ⟨c.g, 4, none⟩ (.int .i64 ((a : Int) + 1))) := by
    have h9 := hp.seta (s.a + 1)
    rw [show ((s.a + 1 : Nat) : Int) = (a : Int) + 1 by have := HE.out.1; omega] at h9
    have hle := HBB.out.1.h
    have htn := HBB.out.1.trn
    refine ⟨_, h9, HBB.out.1.step HBB.out.2 rfl (by have := HAE.out.2; show s.a + 1 ≤ 200000; omega) ⟨hle.1, by show s.h ≤ _; omega⟩ (by show (s.tr ++ [(xa.toNat, hh)]).length ≤ _; simp; omega) (fun z hz => ?_), rfl, .inr ?_⟩
    · rcases List.mem_append.1 hz with hz | hz
      · have := HBB.out.1.tr z hz; omega
      · rw [List.mem_singleton.1 hz]; show xa.toNat ≤ 100000 ∧ 0 ≤ hh ∧ hh ≤ _; omega
    · have := hx9.2 v'
      rw [hhh] at this
      show Inv V is ⟨s.a + 1, s.h, v', s.tr ++ [(xa.toNat, hh)], s.st + 1, s.dn⟩
      rw [hhh]
      exact this
  have HD := Lib.hid hdone
  have HRUN := Lib.hid hrun
  have HW6 := Lib.hid hw6
  have z6 : w5.cell? ⟨c.g, 6, none⟩ = some tv := by rw [← htv]; exact B5.cell 6
  have u6 := B5.frozen 6
  have z4 : w6.cell? ⟨c.g, 4, none⟩ = some (.int .i64 (a : Int)) := by rw [← HE.out.1]; exact hp.told.2.2.2.2.1
  have u4 := hp.blk.frozen 4
  have HV := Lib.hid hv'
  have HG9 := Lib.hid hg9
  have m6 := (hba.cell (World.block_lt_of_cell? w3 _ k6)).trans k6
  have m5 := (hba.cell (World.block_lt_of_cell? w3 _ k5)).trans k5
  have m4 := (hba.cell (World.block_lt_of_cell? w3 _ k4)).trans k4
  have mx1 := (hba.cell (World.block_lt_of_cell? w3 _ x1)).trans x1
  have HWA := Lib.hid hwa
  clear hdone hrun hown hgr hob hp hne B5 hma Ba hsa hba hn9 hn9' hx9 hhh htv hw6 htl
  subst hv'
  subst hwa
  go_upto_region 49 with fail
  (try rw [HG9.out])
  go_region_law (refine step_app rfl (.tmp 236) (.tmp 244) 51 rfl _ _ _ _ (by simp [Act.eval]) (by simp [Act.eval, HG9.out]) HRUN.out ?_)
  all_goals
    (try rw [HW6.out])
    go_wp2_with fail
    go_end0
    exact ⟨rfl, HD.out⟩
end Go.Proofs.Ytimkiifcmegfeaa
