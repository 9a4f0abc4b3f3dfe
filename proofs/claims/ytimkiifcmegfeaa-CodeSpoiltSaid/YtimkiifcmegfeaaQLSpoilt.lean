/- The law, walked. -/
import Derived.Test.YtimkiifcmegfeaaQSp
/- code: CodeSpoilt. -/
namespace Go.Proofs.Ytimkiifcmegfeaa
open Go.RowKit
set_option linter.unusedVariables false
set_option linter.unusedSimpArgs false
attribute [local go_sem] Oper.semAt_some
set_option maxRecDepth 20000 in
set_option maxHeartbeats 4000000 in
theorem spoilt_law (F T H : Nat) (o : Int) (hF : F < 256) (hT : T < 256) (hH : H < 256) (ho : -9223372036854775808 ≤ o ∧ o < 9223372036854775808) (w : World) :
    Calls Try.prog 8 #[.agg #[.int .u8 (F : Int), .int .u8 (T : Int), .int .u8 (H : Int), .int .i64 o]] w fun e w' => e = .returned (.bool true) ∧ Below w.heap.size w w' := by
  obtain ⟨f, hf⟩ : ∃ f, F % 2 = f := ⟨_, rfl⟩
  have hf2 : f < 2 := by omega
  have iF : (F : Int) % 2 = (f : Int) := by omega
  have iF2 : (F : Int).tmod 2 = (f : Int) := by rw [← hf]; rfl
  have HF := Lib.hid (And.intro iF iF2)
  obtain ⟨w0, hw0⟩ : ∃ V, w.alloc (.cells #[.int .u8 (F : Int), .int .u8 (T : Int), .int .u8 (H : Int), .int .i64 o] 56) = V := ⟨_, rfl⟩
  have S0 : Blk w0 w.heap.size 56 #[.int .u8 (F : Int), .int .u8 (T : Int), .int .u8 (H : Int), .int .i64 o] := by rw [← hw0]; exact Blk.new _ _ _
  have b0 : Below w.heap.size w w0 := by rw [← hw0]; exact (Below.refl _ _).alloc (Nat.le_refl _) _
  have h1 := small_any w0
  rw [← hw0] at h1
  have H1 := Lib.hid h1
  have HS := Lib.hid (And.intro S0 b0)
  have HW0 := Lib.hid hw0
  clear hf iF iF2 hw0 S0 b0 h1
  go_enter Try.func8, Try.ntmps8
  go_wp2_with fail
  refine H1.out.mono ?_
  rw [HW0.out]
  rintro e w1 ⟨g1, rfl, hg1, hm1, hb1⟩
  have hC := hm1.check rfl ok_smA rfl ok_smB (rs_nil _ _) ⟨Nat.le_refl _, by decide⟩ (e0 := 0) (by rw [show (⟨[smA, smB], []⟩ : Cd) = smC from rfl, sm_ok]; rfl)
  have HC := Lib.hid hC
  have HB1 := Lib.hid (And.intro (HS.out.1.below hb1 HS.out.1.lt) (HS.out.2.trans (hb1.mono HS.out.2.size)))
  clear hC hb1 hm1 hg1 H1 HS HW0
  go_wp2_with fail
  refine HC.out.mono ?_
  rintro e w2 ⟨rfl, hb2⟩
  have HB2 := Lib.hid (And.intro (HB1.out.1.below hb2 HB1.out.1.lt) (HB1.out.2.trans (hb2.mono HB1.out.2.size)))
  have H2 := Lib.hid (small_any w2)
  clear hb2 HC HB1
  go_wp2_with fail
  refine H2.out.mono ?_
  rintro e w3 ⟨g, rfl, hg, hm, hb3⟩
  obtain ⟨w4, hw4⟩ : ∃ V, w3.alloc (.cells #[.slice (some ⟨g + 1 + 1, 0, none⟩) 2 2, .slice none 0 0] 25) = V := ⟨_, rfl⟩
  obtain ⟨cb, hcb⟩ : ∃ z, w3.heap.size = z := ⟨_, rfl⟩
  have hb4 : Below w3.heap.size w3 w4 := by rw [← hw4]; exact (Below.refl _ _).alloc (Nat.le_refl _) _
  have C4 : Blk w4 cb 25 #[.slice (some ⟨g + 1 + 1, 0, none⟩) 2 2, .slice none 0 0] := by rw [← hw4, ← hcb]; exact Blk.new _ _ _
  have S4 := (HB2.out.1.below hb3 HB2.out.1.lt).below hb4 (HB2.out.1.below hb3 HB2.out.1.lt).lt
  have hb24 := hb3.trans (hb4.mono hb3.size)
  have HB4 := Lib.hid (HB2.out.2.trans (hb24.mono HB2.out.2.size))
  have hm4 := hm.bel hb4
  have HG := Lib.hid (show w.heap.size < g ∧ g + 1 + 1 < cb from ⟨Nat.lt_of_lt_of_le HB2.out.1.lt hg, by rw [← hcb]; exact hm.r.lt⟩)
  have HM4 := Lib.hid (And.intro S4 (And.intro C4 hm4))
  have HW4 := Lib.hid (And.intro hcb hw4)
  have s0 := S4.cell 0
  have s1 := S4.cell 1
  have s2 := S4.cell 2
  have s3 := S4.cell 3
  have c0 := C4.cell 0
  have c1 := C4.cell 1
  clear hb3 hb4 hb24 hm hg S4 C4 hm4 H2 HB2 hcb hw4
  go_upto_region 4 with fail
  rw [HW4.out.1, HW4.out.2]
  go_upto_region 5 with fail
  rw [HF.out.1]
  obtain ⟨l, hl⟩ : ∃ z, (if f = 0 then smA else smB) = z := ⟨_, rfl⟩
  obtain ⟨gf, hgf⟩ : ∃ z, g + f = z := ⟨_, rfl⟩
  obtain ⟨n, hn⟩ : ∃ z, l.length = z := ⟨_, rfl⟩
  have hL : [smA, smB][f]? = some l ∧ Blk w4 gf 46 (icl l).toArray ∧ w4.cell? ⟨g + 1 + 1, f, none⟩ = some (.slice (some ⟨gf, 0, none⟩) n n) ∧ 0 < n ∧ n < 10 := by
    subst hl hgf hn
    rcases (show f = 0 ∨ f = 1 by omega) with rfl | rfl
    · exact ⟨rfl, HM4.out.2.2.a, HM4.out.2.2.r.cell 0, by decide, by decide⟩
    · exact ⟨rfl, HM4.out.2.2.b, HM4.out.2.2.r.cell 1, by decide, by decide⟩
  have r0 := hL.2.2.1
  have hn0 := hL.2.2.2.1
  have hn10 := hL.2.2.2.2
  obtain ⟨k, hk⟩ : ∃ k, T % n = k := ⟨_, rfl⟩
  have hkn : k < n := by rw [← hk]; exact Nat.mod_lt _ hn0
  have hmod : (T : Int) % (n : Int) = (k : Int) := by rw [← hk]; rfl
  have hmod2 : (T : Int).tmod (n : Int) = (k : Int) := by rw [← hk]; rfl
  have hwT : IntKind.i64.wrap (T : Int) = (T : Int) := IntWalk.i64_in _ ⟨by omega, by omega⟩
  have hnz : (n : Int) ≠ 0 := by omega
  have hnz2 : ((n : Int) == 0) = false := by rw [beq_eq_false_iff_ne]; exact hnz
  have hfi : (f : Int) < 2 := by omega
  have HL := Lib.hid (And.intro hl (And.intro hgf (And.intro hn hL)))
  clear hl hgf hn hL hk
  go_quiet (fail)
  obtain ⟨w5, hw5⟩ : ∃ V, w4.drewN nq = V := ⟨_, rfl⟩
  rw [hw5]
  obtain ⟨⟨iop, ia, ib', ic, itx⟩, hi⟩ : ∃ i, l[k]? = some i := ⟨l[k]'(by rw [HL.out.2.2.1]; exact hkn), List.getElem?_eq_getElem _⟩
  have HM5 : Hid (Blk w5 w.heap.size 56 #[.int .u8 (F : Int), .int .u8 (T : Int), .int .u8 (H : Int), .int .i64 o] ∧ Blk w5 cb 25 #[.slice (some ⟨g + 1 + 1, 0, none⟩) 2 2, .slice none 0 0] ∧ Sml w5 g smA smB ∧ Blk w5 gf 46 (icl l).toArray) := Lib.hid (by
    rw [← hw5]
    exact ⟨HM4.out.1, HM4.out.2.1, ⟨HM4.out.2.2.a, HM4.out.2.2.b, HM4.out.2.2.r⟩, HL.out.2.2.2.2.1⟩)
  have hb5 : Below w.heap.size w w5 := by
    rw [← hw5]
    exact HB4.out.trans ((Off.drewN (fun _ => False) _ _).below HB4.out.size (fun k h => h.elim))
  have hcl : ∀ (j : Nat) (v : Value), (Ins.cells ⟨iop, ia, ib', ic, itx⟩)[j]? = some v → w5.cell? ⟨gf, k * 5 + j, none⟩ = some v := fun j v hj => by
    rw [HM5.out.2.2.2.cell, List.getElem?_toArray]
    exact icl_get l k _ j v hi hj
  have q0 : w5.cell? ⟨gf, k * 5, none⟩ = some (.int .u8 (iop : Int)) := hcl 0 _ rfl
  have q1 : w5.cell? ⟨gf, k * 5 + 1, none⟩ = some (.int .i64 ia) := hcl 1 _ rfl
  have q2 : w5.cell? ⟨gf, k * 5 + 2, none⟩ = some (.int .i64 ib') := hcl 2 _ rfl
  have q3 : w5.cell? ⟨gf, k * 5 + 3, none⟩ = some (.int .i64 ic) := hcl 3 _ rfl
  have q4 : w5.cell? ⟨gf, k * 5 + 4, none⟩ = some (.string (str itx)) := hcl 4 _ rfl
  have r5 : w5.cell? ⟨g + 1 + 1, f, none⟩ = some (.slice (some ⟨gf, 0, none⟩) n n) := by rw [← hw5]; exact r0
  have s2 := HM5.out.1.cell 2
  have c0 := HM5.out.2.1.cell 0
  have c1 := HM5.out.2.1.cell 1
  obtain ⟨w6, hw6⟩ : ∃ V, w5.alloc (.cells #[.int .u8 (iop : Int), .int .i64 ia, .int .i64 ib', .int .i64 ic, .string (str itx)] 46) = V := ⟨_, rfl⟩
  obtain ⟨xb, hxb⟩ : ∃ z, w5.heap.size = z := ⟨_, rfl⟩
  have hb6 : Below w5.heap.size w5 w6 := by rw [← hw6]; exact (Below.refl _ _).alloc (Nat.le_refl _) _
  have X6 : Blk w6 xb 46 (Ins.cells ⟨iop, ia, ib', ic, itx⟩).toArray := by rw [← hw6, ← hxb]; exact Blk.new _ _ _
  have HX6 := Lib.hid X6
  have HB6 := Lib.hid (hb5.trans (hb6.mono hb5.size))
  have HM6 := Lib.hid (And.intro (HM5.out.1.below hb6 HM5.out.1.lt) (And.intro (HM5.out.2.1.below hb6 HM5.out.2.1.lt) (And.intro (HM5.out.2.2.1.bel hb6) (HM5.out.2.2.2.below hb6 HM5.out.2.2.2.lt))))
  have HG6 := Lib.hid (show w.heap.size < g ∧ g + 1 + 1 < cb ∧ cb < xb ∧ gf < xb from ⟨HG.out.1, HG.out.2, by rw [← hxb]; exact HM5.out.2.1.lt, by rw [← hxb]; exact HM5.out.2.2.2.lt⟩)
  have HW6 := Lib.hid (And.intro hxb hw6)
  have HI := Lib.hid hi
  have HKN := Lib.hid hkn
  clear hb5 hb6 X6 hw5 hw6 hxb hi hcl hmod hmod2 hwT hnz hnz2 hn10 HM5 HM4 HB4 HG r0
  go_upto_region 7 with fail
  rw [HW6.out.1, HW6.out.2]
  obtain ⟨v, hv⟩ : ∃ v, H % 7 = v := ⟨_, rfl⟩
  have iH : (H : Int) % 7 = (v : Int) := by omega
  have hv7 : v < 7 := by omega
  have IH := Lib.hid iH
  clear iH hv
  have HOK : Hid (okI ⟨iop, ia, ib', ic, itx⟩ ∧ Ins.ok ⟨iop, ia, ib', ic, itx⟩) := Lib.hid (by
    have h1 := HL.out.1
    have h2 := List.mem_of_getElem? HI.out
    split at h1
    · rw [← h1] at h2; exact ⟨.inl h2, ok_smA _ h2⟩
    · rw [← h1] at h2; exact ⟨.inr h2, ok_smB _ h2⟩)
  have HLL : Hid ((if f = 0 then smA else smB) = l ∧ g + f = gf ∧ k < l.length ∧ l.length = n) := Lib.hid ⟨HL.out.1, HL.out.2.1, by rw [HL.out.2.2.1]; exact HKN.out, HL.out.2.2.1⟩
  have HWK := Lib.hid (fun V => works_any V)
  have s1 : w6.cell? ⟨w.heap.size, 1, none⟩ = some (.int .u8 (T : Int)) := HM6.out.1.cell 1
  have s2 : w6.cell? ⟨w.heap.size, 2, none⟩ = some (.int .u8 (H : Int)) := HM6.out.1.cell 2
  have s3 : w6.cell? ⟨w.heap.size, 3, none⟩ = some (.int .i64 o) := HM6.out.1.cell 3
  have c0 : w6.cell? ⟨cb, 0, none⟩ = some (.slice (some ⟨g + 1 + 1, 0, none⟩) 2 2) := HM6.out.2.1.cell 0
  have c1 : w6.cell? ⟨cb, 1, none⟩ = some (.slice none 0 0) := HM6.out.2.1.cell 1
  have x0 : w6.cell? ⟨xb, 0, none⟩ = some (.int .u8 (iop : Int)) := HX6.out.cell 0
  have x1 : w6.cell? ⟨xb, 1, none⟩ = some (.int .i64 ia) := HX6.out.cell 1
  have x2 : w6.cell? ⟨xb, 2, none⟩ = some (.int .i64 ib') := HX6.out.cell 2
  have x3 : w6.cell? ⟨xb, 3, none⟩ = some (.int .i64 ic) := HX6.out.cell 3
  have x4 : w6.cell? ⟨xb, 4, none⟩ = some (.string (str itx)) := HX6.out.cell 4
  have z0 := HX6.out.frozen 0
  have z1 := HX6.out.frozen 1
  have z2 := HX6.out.frozen 2
  have z3 := HX6.out.frozen 3
  have z4 := HX6.out.frozen 4
  clear q0 q1 q2 q3 q4 r5
  go_upto_region 9 with fail
  rw [IH.out]
  rcases (show v = 0 ∨ v = 1 ∨ v = 2 ∨ v = 3 ∨ v = 4 ∨ v = 5 ∨ v = 6 by omega) with rfl | rfl | rfl | rfl | rfl | rfl | rfl
  case inr.inl =>
    obtain ⟨w7, hw7⟩ : ∃ V, w6.setCell ⟨xb, 4, none⟩ (.string ⟨#[120]⟩) = V := ⟨_, rfl⟩
    have HW7 := Lib.hid hw7
    have hG := HG6.out
    have HM7 : Hid (Blk w7 cb 25 #[.slice (some ⟨g + 1 + 1, 0, none⟩) 2 2, .slice none 0 0] ∧ Sml w7 g smA smB ∧ Blk w7 xb 46 (Ins.cells ⟨iop, ia, ib', ic, [120]⟩).toArray ∧ Blk w7 gf 46 (icl l).toArray ∧ Blk w7 w.heap.size 56 #[.int .u8 (F : Int), .int .u8 (T : Int), .int .u8 (H : Int), .int .i64 o]) := Lib.hid (by
      rw [← hw7]
      exact ⟨(HM6.out.2.1).far (by show cb ≠ xb; omega) _, ⟨(HM6.out.2.2.1.a).far (by show g ≠ xb; omega) _, (HM6.out.2.2.1.b).far (by show g + 1 ≠ xb; omega) _, (HM6.out.2.2.1.r).far (by show g + 1 + 1 ≠ xb; omega) _⟩, HX6.out.set_ 4 _, (HM6.out.2.2.2).far (by show gf ≠ xb; omega) _, (HM6.out.1).far (by show w.heap.size ≠ xb; omega) _⟩)
    have HB7 : Hid (Below w.heap.size w w7) := Lib.hid (by rw [← hw7]; exact below_set HB6.out _ _ _ (by omega))
    clear hG hw7
    go_upto_region 34 with fail
    (try rw [HW7.out])
    clear s1 s2 s3 c0 c1 x0 x1 x2 x3 x4 z0 z1 z2 z3 z4
    have c0 := HM7.out.1.cell 0
    have c1 := HM7.out.1.cell 1
    have r7 : w7.cell? ⟨g + 1 + 1, f, none⟩ = some (.slice (some ⟨gf, 0, none⟩) n n) := by
      have h1 := HLL.out
      rcases (show f = 0 ∨ f = 1 by omega) with e | e
      · obtain rfl := e
        have e1 := h1.1
        rw [if_pos rfl] at e1
        rw [← h1.2.2.2, ← h1.2.1, ← e1]
        exact HM7.out.2.1.r.cell 0
      · obtain rfl := e
        have e1 := h1.1
        rw [if_neg (by decide)] at e1
        rw [← h1.2.2.2, ← h1.2.1, ← e1]
        exact HM7.out.2.1.r.cell 1
    have y0 : w7.cell? ⟨xb, 0, none⟩ = some (.int .u8 (iop : Int)) := HM7.out.2.2.1.cell 0
    have y1 : w7.cell? ⟨xb, 1, none⟩ = some (.int .i64 ia) := HM7.out.2.2.1.cell 1
    have y2 : w7.cell? ⟨xb, 2, none⟩ = some (.int .i64 ib') := HM7.out.2.2.1.cell 2
    have y3 : w7.cell? ⟨xb, 3, none⟩ = some (.int .i64 ic) := HM7.out.2.2.1.cell 3
    have y4 : w7.cell? ⟨xb, 4, none⟩ = some (.string ⟨#[120]⟩) := HM7.out.2.2.1.cell 4
    have f0 := HM7.out.2.2.2.1.frozen (k * 5)
    have f1 := HM7.out.2.2.2.1.frozen (k * 5 + 1)
    have f2 := HM7.out.2.2.2.1.frozen (k * 5 + 2)
    have f3 := HM7.out.2.2.2.1.frozen (k * 5 + 3)
    have f4 := HM7.out.2.2.2.1.frozen (k * 5 + 4)
    have hcl : ∀ (j : Nat) (v : Value), (Ins.cells ⟨iop, ia, ib', ic, itx⟩)[j]? = some v → w7.cell? ⟨gf, k * 5 + j, none⟩ = some v := fun j v hj => by
      rw [HM7.out.2.2.2.1.cell, List.getElem?_toArray]
      exact icl_get l k _ j v HI.out hj
    have q0 : w7.cell? ⟨gf, k * 5, none⟩ = some (.int .u8 (iop : Int)) := hcl 0 _ rfl
    have q1 : w7.cell? ⟨gf, k * 5 + 1, none⟩ = some (.int .i64 ia) := hcl 1 _ rfl
    have q2 : w7.cell? ⟨gf, k * 5 + 2, none⟩ = some (.int .i64 ib') := hcl 2 _ rfl
    have q3 : w7.cell? ⟨gf, k * 5 + 3, none⟩ = some (.int .i64 ic) := hcl 3 _ rfl
    have q4 : w7.cell? ⟨gf, k * 5 + 4, none⟩ = some (.string (str itx)) := hcl 4 _ rfl
    clear hcl
    have hkn := HKN.out
    go_region
    obtain ⟨W, hW⟩ : ∃ V, (((((w7.setCell ⟨gf, k * 5, none⟩ (.int .u8 (iop : Int))).setCell ⟨gf, k * 5 + 1, none⟩ (.int .i64 ia)).setCell ⟨gf, k * 5 + 2, none⟩ (.int .i64 ib')).setCell ⟨gf, k * 5 + 3, none⟩ (.int .i64 ic)).setCell ⟨gf, k * 5 + 4, none⟩ (.string ⟨#[120]⟩)).drew = V := ⟨_, rfl⟩
    have hK := spoilt_check (x := ⟨iop, ia, ib', ic, [120]⟩) HM7.out.2.1 hf2 HLL.out.1 HLL.out.2.1 HLL.out.2.2.1 ⟨HOK.out.2.op, HOK.out.2.a, HOK.out.2.b, HOK.out.2.c, by show (1 : Nat) ≤ maxLen; decide⟩ (bad_text 2 0 _ HOK.out.1) hW
    have C9 := Blk.far5 HM7.out.1 (by have h1 := HG6.out; have h2 := HLL.out.2.1; show cb ≠ gf; omega) hW
    have hb9 := below5 HB7.out (by have h1 := HG6.out; have h2 := HLL.out.2.1; show w.heap.size ≤ gf; omega) hW
    have c0 := C9.cell 0
    have c1 := C9.cell 1
    have HK := Lib.hid hK
    have HB9 := Lib.hid hb9
    clear hK C9 hb9 q0 q1 q2 q3 q4 y0 y1 y2 y3 y4 f0 f1 f2 f3 f4 r7
    rw [hW]
    clear hW
    go_wp2_with fail
    refine HK.out.mono ?_
    rintro e w10 ⟨rfl, hb10⟩
    have HB10 := Lib.hid (HB9.out.trans (hb10.mono HB9.out.size))
    clear hb10 HK HB9
    go_wp2_with fail
    refine (HWK.out _).mono ?_
    rintro e w11 ⟨rfl, hb11⟩
    have HB11 := Lib.hid (HB10.out.trans (hb11.mono HB10.out.size))
    clear hb11
    go_wp2_with fail
    go_ret
    exact ⟨rfl, HB11.out⟩
  case inr.inr.inr.inr.inr.inr =>
    obtain ⟨w7, hw7⟩ : ∃ V, ((((w6.setCell ⟨xb, 0, none⟩ (.int .u8 16)).setCell ⟨xb, 1, none⟩ (.int .i64 0)).setCell ⟨xb, 2, none⟩ (.int .i64 0)).setCell ⟨xb, 3, none⟩ (.int .i64 0)).setCell ⟨xb, 4, none⟩ (.string ⟨#[110, 111, 98, 111, 100, 121]⟩) = V := ⟨_, rfl⟩
    have HW7 := Lib.hid hw7
    have hG := HG6.out
    have HM7 : Hid (Blk w7 cb 25 #[.slice (some ⟨g + 1 + 1, 0, none⟩) 2 2, .slice none 0 0] ∧ Sml w7 g smA smB ∧ Blk w7 xb 46 (Ins.cells ⟨16, 0, 0, 0, [110, 111, 98, 111, 100, 121]⟩).toArray ∧ Blk w7 gf 46 (icl l).toArray ∧ Blk w7 w.heap.size 56 #[.int .u8 (F : Int), .int .u8 (T : Int), .int .u8 (H : Int), .int .i64 o]) := Lib.hid (by
      rw [← hw7]
      exact ⟨(((((HM6.out.2.1).far (by show cb ≠ xb; omega) _).far (by show cb ≠ xb; omega) _).far (by show cb ≠ xb; omega) _).far (by show cb ≠ xb; omega) _).far (by show cb ≠ xb; omega) _, ⟨(((((HM6.out.2.2.1.a).far (by show g ≠ xb; omega) _).far (by show g ≠ xb; omega) _).far (by show g ≠ xb; omega) _).far (by show g ≠ xb; omega) _).far (by show g ≠ xb; omega) _, (((((HM6.out.2.2.1.b).far (by show g + 1 ≠ xb; omega) _).far (by show g + 1 ≠ xb; omega) _).far (by show g + 1 ≠ xb; omega) _).far (by show g + 1 ≠ xb; omega) _).far (by show g + 1 ≠ xb; omega) _, (((((HM6.out.2.2.1.r).far (by show g + 1 + 1 ≠ xb; omega) _).far (by show g + 1 + 1 ≠ xb; omega) _).far (by show g + 1 + 1 ≠ xb; omega) _).far (by show g + 1 + 1 ≠ xb; omega) _).far (by show g + 1 + 1 ≠ xb; omega) _⟩, ((((HX6.out.set_ 0 _).set_ 1 _).set_ 2 _).set_ 3 _).set_ 4 _, (((((HM6.out.2.2.2).far (by show gf ≠ xb; omega) _).far (by show gf ≠ xb; omega) _).far (by show gf ≠ xb; omega) _).far (by show gf ≠ xb; omega) _).far (by show gf ≠ xb; omega) _, (((((HM6.out.1).far (by show w.heap.size ≠ xb; omega) _).far (by show w.heap.size ≠ xb; omega) _).far (by show w.heap.size ≠ xb; omega) _).far (by show w.heap.size ≠ xb; omega) _).far (by show w.heap.size ≠ xb; omega) _⟩)
    have HB7 : Hid (Below w.heap.size w w7) := Lib.hid (by rw [← hw7]; exact below_set (below_set (below_set (below_set (below_set HB6.out _ _ _ (by omega)) _ _ _ (by omega)) _ _ _ (by omega)) _ _ _ (by omega)) _ _ _ (by omega))
    clear hG hw7
    go_upto_region 34 with fail
    (try rw [HW7.out])
    clear s1 s2 s3 c0 c1 x0 x1 x2 x3 x4 z0 z1 z2 z3 z4
    have c0 := HM7.out.1.cell 0
    have c1 := HM7.out.1.cell 1
    have r7 : w7.cell? ⟨g + 1 + 1, f, none⟩ = some (.slice (some ⟨gf, 0, none⟩) n n) := by
      have h1 := HLL.out
      rcases (show f = 0 ∨ f = 1 by omega) with e | e
      · obtain rfl := e
        have e1 := h1.1
        rw [if_pos rfl] at e1
        rw [← h1.2.2.2, ← h1.2.1, ← e1]
        exact HM7.out.2.1.r.cell 0
      · obtain rfl := e
        have e1 := h1.1
        rw [if_neg (by decide)] at e1
        rw [← h1.2.2.2, ← h1.2.1, ← e1]
        exact HM7.out.2.1.r.cell 1
    have y0 : w7.cell? ⟨xb, 0, none⟩ = some (.int .u8 16) := HM7.out.2.2.1.cell 0
    have y1 : w7.cell? ⟨xb, 1, none⟩ = some (.int .i64 0) := HM7.out.2.2.1.cell 1
    have y2 : w7.cell? ⟨xb, 2, none⟩ = some (.int .i64 0) := HM7.out.2.2.1.cell 2
    have y3 : w7.cell? ⟨xb, 3, none⟩ = some (.int .i64 0) := HM7.out.2.2.1.cell 3
    have y4 : w7.cell? ⟨xb, 4, none⟩ = some (.string ⟨#[110, 111, 98, 111, 100, 121]⟩) := HM7.out.2.2.1.cell 4
    have f0 := HM7.out.2.2.2.1.frozen (k * 5)
    have f1 := HM7.out.2.2.2.1.frozen (k * 5 + 1)
    have f2 := HM7.out.2.2.2.1.frozen (k * 5 + 2)
    have f3 := HM7.out.2.2.2.1.frozen (k * 5 + 3)
    have f4 := HM7.out.2.2.2.1.frozen (k * 5 + 4)
    have hcl : ∀ (j : Nat) (v : Value), (Ins.cells ⟨iop, ia, ib', ic, itx⟩)[j]? = some v → w7.cell? ⟨gf, k * 5 + j, none⟩ = some v := fun j v hj => by
      rw [HM7.out.2.2.2.1.cell, List.getElem?_toArray]
      exact icl_get l k _ j v HI.out hj
    have q0 : w7.cell? ⟨gf, k * 5, none⟩ = some (.int .u8 (iop : Int)) := hcl 0 _ rfl
    have q1 : w7.cell? ⟨gf, k * 5 + 1, none⟩ = some (.int .i64 ia) := hcl 1 _ rfl
    have q2 : w7.cell? ⟨gf, k * 5 + 2, none⟩ = some (.int .i64 ib') := hcl 2 _ rfl
    have q3 : w7.cell? ⟨gf, k * 5 + 3, none⟩ = some (.int .i64 ic) := hcl 3 _ rfl
    have q4 : w7.cell? ⟨gf, k * 5 + 4, none⟩ = some (.string (str itx)) := hcl 4 _ rfl
    clear hcl
    have hkn := HKN.out
    go_region
    obtain ⟨W, hW⟩ : ∃ V, (((((w7.setCell ⟨gf, k * 5, none⟩ (.int .u8 16)).setCell ⟨gf, k * 5 + 1, none⟩ (.int .i64 0)).setCell ⟨gf, k * 5 + 2, none⟩ (.int .i64 0)).setCell ⟨gf, k * 5 + 3, none⟩ (.int .i64 0)).setCell ⟨gf, k * 5 + 4, none⟩ (.string ⟨#[110, 111, 98, 111, 100, 121]⟩)).drew = V := ⟨_, rfl⟩
    have hK := spoilt_check (x := ⟨16, 0, 0, 0, [110, 111, 98, 111, 100, 121]⟩) HM7.out.2.1 hf2 HLL.out.1 HLL.out.2.1 HLL.out.2.2.1 ⟨by decide, by decide, by decide, by decide, by decide⟩ bad_prim hW
    have C9 := Blk.far5 HM7.out.1 (by have h1 := HG6.out; have h2 := HLL.out.2.1; show cb ≠ gf; omega) hW
    have hb9 := below5 HB7.out (by have h1 := HG6.out; have h2 := HLL.out.2.1; show w.heap.size ≤ gf; omega) hW
    have c0 := C9.cell 0
    have c1 := C9.cell 1
    have HK := Lib.hid hK
    have HB9 := Lib.hid hb9
    clear hK C9 hb9 q0 q1 q2 q3 q4 y0 y1 y2 y3 y4 f0 f1 f2 f3 f4 r7
    rw [hW]
    clear hW
    go_wp2_with fail
    refine HK.out.mono ?_
    rintro e w10 ⟨rfl, hb10⟩
    have HB10 := Lib.hid (HB9.out.trans (hb10.mono HB9.out.size))
    clear hb10 HK HB9
    go_wp2_with fail
    refine (HWK.out _).mono ?_
    rintro e w11 ⟨rfl, hb11⟩
    have HB11 := Lib.hid (HB10.out.trans (hb11.mono HB10.out.size))
    clear hb11
    go_wp2_with fail
    go_ret
    exact ⟨rfl, HB11.out⟩
  case inr.inr.inl =>
    obtain ⟨w7, hw7⟩ : ∃ V, w6.setCell ⟨xb, 2, none⟩ (.int .i64 o) = V := ⟨_, rfl⟩
    have HW7 := Lib.hid hw7
    have hG := HG6.out
    have HM7 : Hid (Blk w7 cb 25 #[.slice (some ⟨g + 1 + 1, 0, none⟩) 2 2, .slice none 0 0] ∧ Sml w7 g smA smB ∧ Blk w7 xb 46 (Ins.cells ⟨iop, ia, o, ic, itx⟩).toArray ∧ Blk w7 gf 46 (icl l).toArray ∧ Blk w7 w.heap.size 56 #[.int .u8 (F : Int), .int .u8 (T : Int), .int .u8 (H : Int), .int .i64 o]) := Lib.hid (by
      rw [← hw7]
      exact ⟨(HM6.out.2.1).far (by show cb ≠ xb; omega) _, ⟨(HM6.out.2.2.1.a).far (by show g ≠ xb; omega) _, (HM6.out.2.2.1.b).far (by show g + 1 ≠ xb; omega) _, (HM6.out.2.2.1.r).far (by show g + 1 + 1 ≠ xb; omega) _⟩, HX6.out.set_ 2 _, (HM6.out.2.2.2).far (by show gf ≠ xb; omega) _, (HM6.out.1).far (by show w.heap.size ≠ xb; omega) _⟩)
    have HB7 : Hid (Below w.heap.size w w7) := Lib.hid (by rw [← hw7]; exact below_set HB6.out _ _ _ (by omega))
    clear hG hw7
    go_upto_region 15 with fail
    rw [HW7.out]
    have s3 : w7.cell? ⟨w.heap.size, 3, none⟩ = some (.int .i64 o) := HM7.out.2.2.2.2.cell 3
    have x0 : w7.cell? ⟨xb, 0, none⟩ = some (.int .u8 (iop : Int)) := HM7.out.2.2.1.cell 0
    by_cases ho0 : o = 0
    · have d0 : (o == 0) = true := by rw [beq_iff_eq]; exact ho0
      clear ho0
      go_wp2_with fail
      refine (HWK.out _).mono ?_
      rintro e w11 ⟨rfl, hb11⟩
      have HB11 := Lib.hid (HB7.out.trans (hb11.mono HB7.out.size))
      clear hb11
      go_wp2_with fail
      go_ret
      exact ⟨rfl, HB11.out⟩
    · have d0 : (o == 0) = false := by rw [beq_eq_false_iff_ne]; exact ho0
      by_cases h6 : iop = 6
      · have d6 : ((iop : Int) == 6) = true := by rw [beq_iff_eq]; omega
        clear h6 ho0
        go_wp2_with fail
        refine (HWK.out _).mono ?_
        rintro e w11 ⟨rfl, hb11⟩
        have HB11 := Lib.hid (HB7.out.trans (hb11.mono HB7.out.size))
        clear hb11
        go_wp2_with fail
        go_ret
        exact ⟨rfl, HB11.out⟩
      · have d6 : ((iop : Int) == 6) = false := by rw [beq_eq_false_iff_ne]; omega
        have HN6 := Lib.hid (And.intro h6 ho0)
        clear h6 ho0
        go_upto_region 34 with fail
        (try rw [HW7.out])
        clear s1 s2 s3 c0 c1 x0 x1 x2 x3 x4 z0 z1 z2 z3 z4
        have c0 := HM7.out.1.cell 0
        have c1 := HM7.out.1.cell 1
        have r7 : w7.cell? ⟨g + 1 + 1, f, none⟩ = some (.slice (some ⟨gf, 0, none⟩) n n) := by
          have h1 := HLL.out
          rcases (show f = 0 ∨ f = 1 by omega) with e | e
          · obtain rfl := e
            have e1 := h1.1
            rw [if_pos rfl] at e1
            rw [← h1.2.2.2, ← h1.2.1, ← e1]
            exact HM7.out.2.1.r.cell 0
          · obtain rfl := e
            have e1 := h1.1
            rw [if_neg (by decide)] at e1
            rw [← h1.2.2.2, ← h1.2.1, ← e1]
            exact HM7.out.2.1.r.cell 1
        have y0 : w7.cell? ⟨xb, 0, none⟩ = some (.int .u8 (iop : Int)) := HM7.out.2.2.1.cell 0
        have y1 : w7.cell? ⟨xb, 1, none⟩ = some (.int .i64 ia) := HM7.out.2.2.1.cell 1
        have y2 : w7.cell? ⟨xb, 2, none⟩ = some (.int .i64 o) := HM7.out.2.2.1.cell 2
        have y3 : w7.cell? ⟨xb, 3, none⟩ = some (.int .i64 ic) := HM7.out.2.2.1.cell 3
        have y4 : w7.cell? ⟨xb, 4, none⟩ = some (.string (str itx)) := HM7.out.2.2.1.cell 4
        have f0 := HM7.out.2.2.2.1.frozen (k * 5)
        have f1 := HM7.out.2.2.2.1.frozen (k * 5 + 1)
        have f2 := HM7.out.2.2.2.1.frozen (k * 5 + 2)
        have f3 := HM7.out.2.2.2.1.frozen (k * 5 + 3)
        have f4 := HM7.out.2.2.2.1.frozen (k * 5 + 4)
        have hcl : ∀ (j : Nat) (v : Value), (Ins.cells ⟨iop, ia, ib', ic, itx⟩)[j]? = some v → w7.cell? ⟨gf, k * 5 + j, none⟩ = some v := fun j v hj => by
          rw [HM7.out.2.2.2.1.cell, List.getElem?_toArray]
          exact icl_get l k _ j v HI.out hj
        have q0 : w7.cell? ⟨gf, k * 5, none⟩ = some (.int .u8 (iop : Int)) := hcl 0 _ rfl
        have q1 : w7.cell? ⟨gf, k * 5 + 1, none⟩ = some (.int .i64 ia) := hcl 1 _ rfl
        have q2 : w7.cell? ⟨gf, k * 5 + 2, none⟩ = some (.int .i64 ib') := hcl 2 _ rfl
        have q3 : w7.cell? ⟨gf, k * 5 + 3, none⟩ = some (.int .i64 ic) := hcl 3 _ rfl
        have q4 : w7.cell? ⟨gf, k * 5 + 4, none⟩ = some (.string (str itx)) := hcl 4 _ rfl
        clear hcl
        have hkn := HKN.out
        go_region
        obtain ⟨W, hW⟩ : ∃ V, (((((w7.setCell ⟨gf, k * 5, none⟩ (.int .u8 (iop : Int))).setCell ⟨gf, k * 5 + 1, none⟩ (.int .i64 ia)).setCell ⟨gf, k * 5 + 2, none⟩ (.int .i64 o)).setCell ⟨gf, k * 5 + 3, none⟩ (.int .i64 ic)).setCell ⟨gf, k * 5 + 4, none⟩ (.string (str itx))).drew = V := ⟨_, rfl⟩
        have hK := spoilt_check (x := ⟨iop, ia, o, ic, itx⟩) HM7.out.2.1 hf2 HLL.out.1 HLL.out.2.1 HLL.out.2.2.1 ⟨HOK.out.2.op, HOK.out.2.a, ho, HOK.out.2.c, HOK.out.2.tx⟩ (bad_b 2 0 _ HOK.out.1 HN6.out.1 o HN6.out.2) hW
        have C9 := Blk.far5 HM7.out.1 (by have h1 := HG6.out; have h2 := HLL.out.2.1; show cb ≠ gf; omega) hW
        have hb9 := below5 HB7.out (by have h1 := HG6.out; have h2 := HLL.out.2.1; show w.heap.size ≤ gf; omega) hW
        have c0 := C9.cell 0
        have c1 := C9.cell 1
        have HK := Lib.hid hK
        have HB9 := Lib.hid hb9
        clear hK C9 hb9 q0 q1 q2 q3 q4 y0 y1 y2 y3 y4 f0 f1 f2 f3 f4 r7
        rw [hW]
        clear hW
        go_wp2_with fail
        refine HK.out.mono ?_
        rintro e w10 ⟨rfl, hb10⟩
        have HB10 := Lib.hid (HB9.out.trans (hb10.mono HB9.out.size))
        clear hb10 HK HB9
        go_wp2_with fail
        refine (HWK.out _).mono ?_
        rintro e w11 ⟨rfl, hb11⟩
        have HB11 := Lib.hid (HB10.out.trans (hb11.mono HB10.out.size))
        clear hb11
        go_wp2_with fail
        go_ret
        exact ⟨rfl, HB11.out⟩
  case inr.inr.inr.inl =>
    obtain ⟨w7, hw7⟩ : ∃ V, w6.setCell ⟨xb, 3, none⟩ (.int .i64 o) = V := ⟨_, rfl⟩
    have HW7 := Lib.hid hw7
    have hG := HG6.out
    have HM7 : Hid (Blk w7 cb 25 #[.slice (some ⟨g + 1 + 1, 0, none⟩) 2 2, .slice none 0 0] ∧ Sml w7 g smA smB ∧ Blk w7 xb 46 (Ins.cells ⟨iop, ia, ib', o, itx⟩).toArray ∧ Blk w7 gf 46 (icl l).toArray ∧ Blk w7 w.heap.size 56 #[.int .u8 (F : Int), .int .u8 (T : Int), .int .u8 (H : Int), .int .i64 o]) := Lib.hid (by
      rw [← hw7]
      exact ⟨(HM6.out.2.1).far (by show cb ≠ xb; omega) _, ⟨(HM6.out.2.2.1.a).far (by show g ≠ xb; omega) _, (HM6.out.2.2.1.b).far (by show g + 1 ≠ xb; omega) _, (HM6.out.2.2.1.r).far (by show g + 1 + 1 ≠ xb; omega) _⟩, HX6.out.set_ 3 _, (HM6.out.2.2.2).far (by show gf ≠ xb; omega) _, (HM6.out.1).far (by show w.heap.size ≠ xb; omega) _⟩)
    have HB7 : Hid (Below w.heap.size w w7) := Lib.hid (by rw [← hw7]; exact below_set HB6.out _ _ _ (by omega))
    clear hG hw7
    go_upto_region 19 with fail
    rw [HW7.out]
    have s3 : w7.cell? ⟨w.heap.size, 3, none⟩ = some (.int .i64 o) := HM7.out.2.2.2.2.cell 3
    have x0 : w7.cell? ⟨xb, 0, none⟩ = some (.int .u8 (iop : Int)) := HM7.out.2.2.1.cell 0
    by_cases ho0 : o = 0
    · have d0 : (o == 0) = true := by rw [beq_iff_eq]; exact ho0
      clear ho0
      go_wp2_with fail
      refine (HWK.out _).mono ?_
      rintro e w11 ⟨rfl, hb11⟩
      have HB11 := Lib.hid (HB7.out.trans (hb11.mono HB7.out.size))
      clear hb11
      go_wp2_with fail
      go_ret
      exact ⟨rfl, HB11.out⟩
    · have d0 : (o == 0) = false := by rw [beq_eq_false_iff_ne]; exact ho0
      by_cases h6 : iop = 6
      · have d6 : ((iop : Int) == 6) = true := by rw [beq_iff_eq]; omega
        clear h6 ho0
        go_wp2_with fail
        refine (HWK.out _).mono ?_
        rintro e w11 ⟨rfl, hb11⟩
        have HB11 := Lib.hid (HB7.out.trans (hb11.mono HB7.out.size))
        clear hb11
        go_wp2_with fail
        go_ret
        exact ⟨rfl, HB11.out⟩
      · have d6 : ((iop : Int) == 6) = false := by rw [beq_eq_false_iff_ne]; omega
        have HN6 := Lib.hid (And.intro h6 ho0)
        clear h6 ho0
        go_upto_region 34 with fail
        (try rw [HW7.out])
        clear s1 s2 s3 c0 c1 x0 x1 x2 x3 x4 z0 z1 z2 z3 z4
        have c0 := HM7.out.1.cell 0
        have c1 := HM7.out.1.cell 1
        have r7 : w7.cell? ⟨g + 1 + 1, f, none⟩ = some (.slice (some ⟨gf, 0, none⟩) n n) := by
          have h1 := HLL.out
          rcases (show f = 0 ∨ f = 1 by omega) with e | e
          · obtain rfl := e
            have e1 := h1.1
            rw [if_pos rfl] at e1
            rw [← h1.2.2.2, ← h1.2.1, ← e1]
            exact HM7.out.2.1.r.cell 0
          · obtain rfl := e
            have e1 := h1.1
            rw [if_neg (by decide)] at e1
            rw [← h1.2.2.2, ← h1.2.1, ← e1]
            exact HM7.out.2.1.r.cell 1
        have y0 : w7.cell? ⟨xb, 0, none⟩ = some (.int .u8 (iop : Int)) := HM7.out.2.2.1.cell 0
        have y1 : w7.cell? ⟨xb, 1, none⟩ = some (.int .i64 ia) := HM7.out.2.2.1.cell 1
        have y2 : w7.cell? ⟨xb, 2, none⟩ = some (.int .i64 ib') := HM7.out.2.2.1.cell 2
        have y3 : w7.cell? ⟨xb, 3, none⟩ = some (.int .i64 o) := HM7.out.2.2.1.cell 3
        have y4 : w7.cell? ⟨xb, 4, none⟩ = some (.string (str itx)) := HM7.out.2.2.1.cell 4
        have f0 := HM7.out.2.2.2.1.frozen (k * 5)
        have f1 := HM7.out.2.2.2.1.frozen (k * 5 + 1)
        have f2 := HM7.out.2.2.2.1.frozen (k * 5 + 2)
        have f3 := HM7.out.2.2.2.1.frozen (k * 5 + 3)
        have f4 := HM7.out.2.2.2.1.frozen (k * 5 + 4)
        have hcl : ∀ (j : Nat) (v : Value), (Ins.cells ⟨iop, ia, ib', ic, itx⟩)[j]? = some v → w7.cell? ⟨gf, k * 5 + j, none⟩ = some v := fun j v hj => by
          rw [HM7.out.2.2.2.1.cell, List.getElem?_toArray]
          exact icl_get l k _ j v HI.out hj
        have q0 : w7.cell? ⟨gf, k * 5, none⟩ = some (.int .u8 (iop : Int)) := hcl 0 _ rfl
        have q1 : w7.cell? ⟨gf, k * 5 + 1, none⟩ = some (.int .i64 ia) := hcl 1 _ rfl
        have q2 : w7.cell? ⟨gf, k * 5 + 2, none⟩ = some (.int .i64 ib') := hcl 2 _ rfl
        have q3 : w7.cell? ⟨gf, k * 5 + 3, none⟩ = some (.int .i64 ic) := hcl 3 _ rfl
        have q4 : w7.cell? ⟨gf, k * 5 + 4, none⟩ = some (.string (str itx)) := hcl 4 _ rfl
        clear hcl
        have hkn := HKN.out
        go_region
        obtain ⟨W, hW⟩ : ∃ V, (((((w7.setCell ⟨gf, k * 5, none⟩ (.int .u8 (iop : Int))).setCell ⟨gf, k * 5 + 1, none⟩ (.int .i64 ia)).setCell ⟨gf, k * 5 + 2, none⟩ (.int .i64 ib')).setCell ⟨gf, k * 5 + 3, none⟩ (.int .i64 o)).setCell ⟨gf, k * 5 + 4, none⟩ (.string (str itx))).drew = V := ⟨_, rfl⟩
        have hK := spoilt_check (x := ⟨iop, ia, ib', o, itx⟩) HM7.out.2.1 hf2 HLL.out.1 HLL.out.2.1 HLL.out.2.2.1 ⟨HOK.out.2.op, HOK.out.2.a, HOK.out.2.b, ho, HOK.out.2.tx⟩ (bad_c 2 0 _ HOK.out.1 HN6.out.1 o HN6.out.2) hW
        have C9 := Blk.far5 HM7.out.1 (by have h1 := HG6.out; have h2 := HLL.out.2.1; show cb ≠ gf; omega) hW
        have hb9 := below5 HB7.out (by have h1 := HG6.out; have h2 := HLL.out.2.1; show w.heap.size ≤ gf; omega) hW
        have c0 := C9.cell 0
        have c1 := C9.cell 1
        have HK := Lib.hid hK
        have HB9 := Lib.hid hb9
        clear hK C9 hb9 q0 q1 q2 q3 q4 y0 y1 y2 y3 y4 f0 f1 f2 f3 f4 r7
        rw [hW]
        clear hW
        go_wp2_with fail
        refine HK.out.mono ?_
        rintro e w10 ⟨rfl, hb10⟩
        have HB10 := Lib.hid (HB9.out.trans (hb10.mono HB9.out.size))
        clear hb10 HK HB9
        go_wp2_with fail
        refine (HWK.out _).mono ?_
        rintro e w11 ⟨rfl, hb11⟩
        have HB11 := Lib.hid (HB10.out.trans (hb11.mono HB10.out.size))
        clear hb11
        go_wp2_with fail
        go_ret
        exact ⟨rfl, HB11.out⟩
  case inl =>
    obtain ⟨w8, hw8⟩ : ∃ V, w6.alloc (.cells #[.int .u8 0, .int .u8 26, .int .u8 255] 5) = V := ⟨_, rfl⟩
    have hb8 : Below w6.heap.size w6 w8 := by rw [← hw8]; exact (Below.refl _ _).alloc (Nat.le_refl _) _
    have Z8 : Blk w8 w6.heap.size 5 #[.int .u8 0, .int .u8 26, .int .u8 255] := by rw [← hw8]; exact Blk.new _ _ _
    have HM8 := Lib.hid (And.intro (HM6.out.1.below hb8 HM6.out.1.lt) (And.intro (HM6.out.2.1.below hb8 HM6.out.2.1.lt) (And.intro (HM6.out.2.2.1.bel hb8) (And.intro (HM6.out.2.2.2.below hb8 HM6.out.2.2.2.lt) (HX6.out.below hb8 HX6.out.lt)))))
    have HB8 := Lib.hid (HB6.out.trans (hb8.mono HB6.out.size))
    obtain ⟨bo, hbo, hbad⟩ : ∃ bo : Nat, (#[Value.int .u8 0, .int .u8 26, .int .u8 255] : Array Value)[T % 3]? = some (.int .u8 (bo : Int)) ∧ bo ∈ badOps := by
      rcases (show T % 3 = 0 ∨ T % 3 = 1 ∨ T % 3 = 2 by omega) with e | e | e
      · exact ⟨0, by rw [e]; rfl, by decide⟩
      · exact ⟨26, by rw [e]; rfl, by decide⟩
      · exact ⟨255, by rw [e]; rfl, by decide⟩
    have hzb : w8.cell? ⟨w6.heap.size, T % 3, none⟩ = some (.int .u8 (bo : Int)) := (Z8.cell (T % 3)).trans hbo
    have ht3 : ((T : Int) % 3).toNat = T % 3 := by omega
    have ht30 : 0 ≤ (T : Int) % 3 := by omega
    have ht33 : (T : Int) % 3 < 3 := by omega
    clear s1 x0 z0
    have s1 : w8.cell? ⟨w.heap.size, 1, none⟩ = some (.int .u8 (T : Int)) := HM8.out.1.cell 1
    have x0 : w8.cell? ⟨xb, 0, none⟩ = some (.int .u8 (iop : Int)) := HM8.out.2.2.2.2.cell 0
    have z0 := HM8.out.2.2.2.2.frozen 0
    have HBO := Lib.hid hbad
    clear hb8 Z8 hbo hbad
    obtain ⟨w7, hw7⟩ : ∃ V, w8.setCell ⟨xb, 0, none⟩ (.int .u8 (bo : Int)) = V := ⟨_, rfl⟩
    have HW7 := Lib.hid hw7
    have hG := HG6.out
    have HM7 : Hid (Blk w7 cb 25 #[.slice (some ⟨g + 1 + 1, 0, none⟩) 2 2, .slice none 0 0] ∧ Sml w7 g smA smB ∧ Blk w7 xb 46 (Ins.cells ⟨bo, ia, ib', ic, itx⟩).toArray ∧ Blk w7 gf 46 (icl l).toArray ∧ Blk w7 w.heap.size 56 #[.int .u8 (F : Int), .int .u8 (T : Int), .int .u8 (H : Int), .int .i64 o]) := Lib.hid (by
      rw [← hw7]
      exact ⟨HM8.out.2.1.far (by show cb ≠ xb; omega) _, ⟨HM8.out.2.2.1.a.far (by show g ≠ xb; omega) _, HM8.out.2.2.1.b.far (by show g + 1 ≠ xb; omega) _, HM8.out.2.2.1.r.far (by show g + 1 + 1 ≠ xb; omega) _⟩, HM8.out.2.2.2.2.set_ 0 _, HM8.out.2.2.2.1.far (by show gf ≠ xb; omega) _, HM8.out.1.far (by show w.heap.size ≠ xb; omega) _⟩)
    have HB7 : Hid (Below w.heap.size w w7) := Lib.hid (by rw [← hw7]; exact below_set HB8.out _ _ _ (by omega))
    clear hG hw7
    go_upto_region 34 with fail
    (try rw [HW7.out])
    clear s1 s2 s3 c0 c1 x0 x1 x2 x3 x4 z0 z1 z2 z3 z4
    have c0 := HM7.out.1.cell 0
    have c1 := HM7.out.1.cell 1
    have r7 : w7.cell? ⟨g + 1 + 1, f, none⟩ = some (.slice (some ⟨gf, 0, none⟩) n n) := by
      have h1 := HLL.out
      rcases (show f = 0 ∨ f = 1 by omega) with e | e
      · obtain rfl := e
        have e1 := h1.1
        rw [if_pos rfl] at e1
        rw [← h1.2.2.2, ← h1.2.1, ← e1]
        exact HM7.out.2.1.r.cell 0
      · obtain rfl := e
        have e1 := h1.1
        rw [if_neg (by decide)] at e1
        rw [← h1.2.2.2, ← h1.2.1, ← e1]
        exact HM7.out.2.1.r.cell 1
    have y0 : w7.cell? ⟨xb, 0, none⟩ = some (.int .u8 (bo : Int)) := HM7.out.2.2.1.cell 0
    have y1 : w7.cell? ⟨xb, 1, none⟩ = some (.int .i64 ia) := HM7.out.2.2.1.cell 1
    have y2 : w7.cell? ⟨xb, 2, none⟩ = some (.int .i64 ib') := HM7.out.2.2.1.cell 2
    have y3 : w7.cell? ⟨xb, 3, none⟩ = some (.int .i64 ic) := HM7.out.2.2.1.cell 3
    have y4 : w7.cell? ⟨xb, 4, none⟩ = some (.string (str itx)) := HM7.out.2.2.1.cell 4
    have f0 := HM7.out.2.2.2.1.frozen (k * 5)
    have f1 := HM7.out.2.2.2.1.frozen (k * 5 + 1)
    have f2 := HM7.out.2.2.2.1.frozen (k * 5 + 2)
    have f3 := HM7.out.2.2.2.1.frozen (k * 5 + 3)
    have f4 := HM7.out.2.2.2.1.frozen (k * 5 + 4)
    have hcl : ∀ (j : Nat) (v : Value), (Ins.cells ⟨iop, ia, ib', ic, itx⟩)[j]? = some v → w7.cell? ⟨gf, k * 5 + j, none⟩ = some v := fun j v hj => by
      rw [HM7.out.2.2.2.1.cell, List.getElem?_toArray]
      exact icl_get l k _ j v HI.out hj
    have q0 : w7.cell? ⟨gf, k * 5, none⟩ = some (.int .u8 (iop : Int)) := hcl 0 _ rfl
    have q1 : w7.cell? ⟨gf, k * 5 + 1, none⟩ = some (.int .i64 ia) := hcl 1 _ rfl
    have q2 : w7.cell? ⟨gf, k * 5 + 2, none⟩ = some (.int .i64 ib') := hcl 2 _ rfl
    have q3 : w7.cell? ⟨gf, k * 5 + 3, none⟩ = some (.int .i64 ic) := hcl 3 _ rfl
    have q4 : w7.cell? ⟨gf, k * 5 + 4, none⟩ = some (.string (str itx)) := hcl 4 _ rfl
    clear hcl
    have hkn := HKN.out
    go_region
    obtain ⟨W, hW⟩ : ∃ V, (((((w7.setCell ⟨gf, k * 5, none⟩ (.int .u8 (bo : Int))).setCell ⟨gf, k * 5 + 1, none⟩ (.int .i64 ia)).setCell ⟨gf, k * 5 + 2, none⟩ (.int .i64 ib')).setCell ⟨gf, k * 5 + 3, none⟩ (.int .i64 ic)).setCell ⟨gf, k * 5 + 4, none⟩ (.string (str itx))).drew = V := ⟨_, rfl⟩
    have hK := spoilt_check (x := ⟨bo, ia, ib', ic, itx⟩) HM7.out.2.1 hf2 HLL.out.1 HLL.out.2.1 HLL.out.2.2.1 ⟨by show bo < 256; have h9 := HBO.out; simp only [badOps, List.mem_cons, List.not_mem_nil, or_false] at h9; omega, HOK.out.2.a, HOK.out.2.b, HOK.out.2.c, HOK.out.2.tx⟩ (bad_op (i := ⟨iop, ia, ib', ic, itx⟩) HBO.out) hW
    have C9 := Blk.far5 HM7.out.1 (by have h1 := HG6.out; have h2 := HLL.out.2.1; show cb ≠ gf; omega) hW
    have hb9 := below5 HB7.out (by have h1 := HG6.out; have h2 := HLL.out.2.1; show w.heap.size ≤ gf; omega) hW
    have c0 := C9.cell 0
    have c1 := C9.cell 1
    have HK := Lib.hid hK
    have HB9 := Lib.hid hb9
    clear hK C9 hb9 q0 q1 q2 q3 q4 y0 y1 y2 y3 y4 f0 f1 f2 f3 f4 r7
    rw [hW]
    clear hW
    go_wp2_with fail
    refine HK.out.mono ?_
    rintro e w10 ⟨rfl, hb10⟩
    have HB10 := Lib.hid (HB9.out.trans (hb10.mono HB9.out.size))
    clear hb10 HK HB9
    go_wp2_with fail
    refine (HWK.out _).mono ?_
    rintro e w11 ⟨rfl, hb11⟩
    have HB11 := Lib.hid (HB10.out.trans (hb11.mono HB10.out.size))
    clear hb11
    go_wp2_with fail
    go_ret
    exact ⟨rfl, HB11.out⟩
  case inr.inr.inr.inr.inl =>
    obtain ⟨w8, hw8⟩ : ∃ V, w6.alloc (.cells #[.int .u8 3, .int .i64 0, .int .i64 0, .int .i64 0, .string ⟨#[]⟩, .int .u8 8, .int .i64 0, .int .i64 0, .int .i64 0, .string ⟨#[]⟩] 46) = V := ⟨_, rfl⟩
    obtain ⟨w9, hw9⟩ : ∃ V, w8.alloc (.cells #[.slice (some ⟨w6.heap.size, 0, none⟩) 2 2] 44) = V := ⟨_, rfl⟩
    have hb8 : Below w6.heap.size w6 w8 := by rw [← hw8]; exact (Below.refl _ _).alloc (Nat.le_refl _) _
    have hb9 : Below w8.heap.size w8 w9 := by rw [← hw9]; exact (Below.refl _ _).alloc (Nat.le_refl _) _
    have hb69 := hb8.trans (hb9.mono hb8.size)
    have T8 : Blk w8 w6.heap.size 46 (icl thr).toArray := by rw [← hw8]; exact Blk.new _ _ _
    have T9 := T8.below hb9 T8.lt
    have F9 : Blk w9 w8.heap.size 44 #[fval ⟨some ⟨w6.heap.size, 0, none⟩, 2, thr⟩] := by rw [← hw9]; exact Blk.new _ _ _
    have hm9 := HM6.out.2.2.1.bel hb69
    have C9 := HM6.out.2.1.below hb69 HM6.out.2.1.lt
    have hG := HG6.out
    have o9 : w9.ownsRow (g + 1 + 1) 44 1 (.slice (some ⟨g + 1 + 1, 0, none⟩) 2 2) [(⟨some ⟨g, 0, none⟩, 9, smA⟩ : Fe), ⟨some ⟨g + 1, 0, none⟩, 4, smB⟩].length ([(⟨some ⟨g, 0, none⟩, 9, smA⟩ : Fe), ⟨some ⟨g + 1, 0, none⟩, 4, smB⟩].map fval) := ⟨rfl, .inr ⟨g + 1 + 1, 2, _, rfl, Nat.le_refl _, hm9.r, Nat.le_refl _, by decide, rfl, rfl⟩⟩
    obtain ⟨v', w10, hrun, hown, hgr, hob⟩ := push_fe o9 (Nat.le_of_lt hm9.r.lt) ⟨some ⟨w6.heap.size, 0, none⟩, 2, thr⟩ w8.heap.size F9 (by show (2 : Nat) < 100000000; decide)
    obtain ⟨A', c', rfl⟩ := shape_n hown
    have hown : w10.ownsRow (g + 1 + 1) 44 1 (.slice A' 3 c') 3 ([(⟨some ⟨g, 0, none⟩, 9, smA⟩ : Fe), ⟨some ⟨g + 1, 0, none⟩, 4, smB⟩, ⟨some ⟨w6.heap.size, 0, none⟩, 2, thr⟩].map fval) := hown
    have hrun : (Builtin.append_ #[22, 22] 22 #[.slice (some ⟨g + 1 + 1, 0, none⟩) 2 2, .slice (some ⟨w8.heap.size, 0, none⟩) 1 1]).run Try.prog w9 = .ok (.slice A' 3 c') w10 := hrun
    have hlt : g + 1 + 1 < w9.heap.size ∧ cb < w9.heap.size ∧ w6.heap.size < w9.heap.size ∧ xb < w6.heap.size := ⟨hm9.r.lt, C9.lt, T9.lt, HX6.out.lt⟩
    have hA10 : Blk w10 g 46 (icl smA).toArray := hm9.a.grown hgr (by show some g ≠ some (g + 1 + 1); intro e; injection e; omega)
    have hB10 : Blk w10 (g + 1) 46 (icl smB).toArray := hm9.b.grown hgr (by show some (g + 1) ≠ some (g + 1 + 1); intro e; injection e; omega)
    have hT10 : Blk w10 w6.heap.size 46 (icl thr).toArray := T9.grown hgr (by show some w6.heap.size ≠ some (g + 1 + 1); intro e; injection e; omega)
    have hC10 : Blk w10 cb 25 #[.slice (some ⟨g + 1 + 1, 0, none⟩) 2 2, .slice none 0 0] := C9.grown hgr (by show some cb ≠ some (g + 1 + 1); intro e; injection e; omega)
    obtain ⟨gq, rfl, hq1, hq2, hq3, hq4, hq5⟩ := own_cap' hown rfl (by decide)
    have hqc : gq ≠ cb := by
      rcases hob with e | e
      · have e : some gq = some (g + 1 + 1) := e
        injection e with e; omega
      · have e : some gq = some w9.heap.size := e
        injection e with e; omega
    have hqa : gq ≠ g ∧ gq ≠ g + 1 ∧ gq ≠ w6.heap.size := by
      rcases hob with e | e
      · have e : some gq = some (g + 1 + 1) := e
        injection e with e; omega
      · have e : some gq = some w9.heap.size := e
        injection e with e; omega
    have hbA : Below w.heap.size w w10 := (HB6.out.trans (hb69.mono HB6.out.size)).grown hgr (by have := HB6.out.size; have := hb69.size; omega) (fun k e => by have e : some (g + 1 + 1) = some k := e; injection e with e; omega)
    obtain ⟨w11, hw11⟩ : ∃ V, w10.setCell ⟨cb, 0, none⟩ (.slice (some ⟨gq, 0, none⟩) 3 c') = V := ⟨_, rfl⟩
    have hA11 : Blk w11 g 46 (icl smA).toArray := by rw [← hw11]; exact hA10.far (by show g ≠ cb; omega) _
    have hB11 : Blk w11 (g + 1) 46 (icl smB).toArray := by rw [← hw11]; exact hB10.far (by show g + 1 ≠ cb; omega) _
    have hT11 : Blk w11 w6.heap.size 46 (icl thr).toArray := by rw [← hw11]; exact hT10.far (by show w6.heap.size ≠ cb; omega) _
    have hC11 : Blk w11 cb 25 #[.slice (some ⟨gq, 0, none⟩) 3 c', .slice none 0 0] := by rw [← hw11]; exact hC10.set_ 0 _
    have hown11 : w11.ownsRow (g + 1 + 1) 44 1 (.slice (some ⟨gq, 0, none⟩) 3 c') 3 ([(⟨some ⟨g, 0, none⟩, 9, smA⟩ : Fe), ⟨some ⟨g + 1, 0, none⟩, 4, smB⟩, ⟨some ⟨w6.heap.size, 0, none⟩, 2, thr⟩].map fval) := by rw [← hw11]; exact own_far hown cb 0 _ (by show some gq ≠ some cb; intro e; injection e; omega)
    have hbB : Below w.heap.size w w11 := by rw [← hw11]; exact below_set hbA _ _ _ (by omega)
    have I1 : Fe.In (fun b => b < w11.heap.size) w11 ⟨some ⟨g, 0, none⟩, 9, smA⟩ := ⟨by show (9 : Nat) ≤ 9; decide, by show (9 : Nat) ≤ maxLen; decide, ⟨row_blk hA11 hA11.lt fun m x j v hx hj => icl_get smA m x j v hx hj, ok_smA⟩⟩
    have I2 : Fe.In (fun b => b < w11.heap.size) w11 ⟨some ⟨g + 1, 0, none⟩, 4, smB⟩ := ⟨by show (4 : Nat) ≤ 4; decide, by show (4 : Nat) ≤ maxLen; decide, ⟨row_blk hB11 hB11.lt fun m x j v hx hj => icl_get smB m x j v hx hj, ok_smB⟩⟩
    have I3 : Fe.In (fun b => b < w11.heap.size) w11 ⟨some ⟨w6.heap.size, 0, none⟩, 2, thr⟩ := ⟨by show (2 : Nat) ≤ 2; decide, by show (2 : Nat) ≤ maxLen; decide, ⟨row_blk hT11 hT11.lt fun m x j v hx hj => icl_get thr m x j v hx hj, ok_thr⟩⟩
    have hK := check_any ⟨[⟨some ⟨g, 0, none⟩, 9, smA⟩, ⟨some ⟨g + 1, 0, none⟩, 4, smB⟩, ⟨some ⟨w6.heap.size, 0, none⟩, 2, thr⟩], some ⟨gq, 0, none⟩, c', [], none, 0⟩ w11 ⟨fs_own hown11 rfl (fun x hx => by
        simp only [List.mem_cons, List.not_mem_nil, or_false] at hx
        rcases hx with rfl | rfl | rfl
        · exact I1
        · exact I2
        · exact I3), rs_nil _ _, ⟨hq3, hq4⟩, ⟨Nat.le_refl _, Nat.zero_le _⟩⟩ (show (3 : Nat) ≤ 1000000 by decide) (show (0 : Nat) ≤ 1000000 by decide) (show 9 + (4 + (2 + 0)) ≤ 400000 by decide)
    rw [show Cl.cd ⟨[⟨some ⟨g, 0, none⟩, 9, smA⟩, ⟨some ⟨g + 1, 0, none⟩, 4, smB⟩, ⟨some ⟨w6.heap.size, 0, none⟩, 2, thr⟩], some ⟨gq, 0, none⟩, c', [], none, 0⟩ = ⟨[smA, smB, [⟨3, 0, 0, 0, []⟩, ⟨8, 0, 0, 0, []⟩]], []⟩ from rfl, sm_third, if_neg (by decide)] at hK
    have hK : Calls Try.prog 20 #[.agg #[.slice (some ⟨gq, 0, none⟩) 3 c', .slice none 0 0]] w11 fun e w' => e = .returned (.int .i64 17) ∧ Below w11.heap.size w11 w' := hK
    have HK := Lib.hid hK
    have HR := Lib.hid hrun
    have H11 := Lib.hid (And.intro hA11 (And.intro hB11 (And.intro hC11 (And.intro hown11 (And.intro hbB (And.intro hqa hqc))))))
    have HW := Lib.hid (And.intro hw8 (And.intro hw9 hw11))
    have HQ := Lib.hid (And.intro hq1 (And.intro hq3 (And.intro hq4 hq5)))
    have HGG := Lib.hid hG
    have c9 : w9.cell? ⟨cb, 0, none⟩ = some (.slice (some ⟨g + 1 + 1, 0, none⟩) 2 2) := C9.cell 0
    have c10 : w10.cell? ⟨cb, 0, none⟩ = some (.slice (some ⟨g + 1 + 1, 0, none⟩) 2 2) := hC10.cell 0
    have e10 := hC10.frozen 0
    have c11 : w11.cell? ⟨cb, 0, none⟩ = some (.slice (some ⟨gq, 0, none⟩) 3 c') := hC11.cell 0
    have c12 : w11.cell? ⟨cb, 1, none⟩ = some (.slice none 0 0) := hC11.cell 1
    clear hK hrun hown hgr hob hown11 I1 I2 I3 hA11 hB11 hT11 hC11 hA10 hB10 hT10 hC10 hbA hbB hw11 hlt o9 C9 hm9 F9 T9 T8 hb69 hb9 hb8 hq1 hq2 hq3 hq4 hq5 hqc hqa hG
    go_upto_region 22 with fail
    have hrun := HR.out
    go_upto_region 23 with (at_builtin; refine wpList_app rfl _ _ 22 rfl _ _ _ _ rfl rfl hrun ?_)
    clear hrun c9
    rw [HW.out.2.2]
    clear c10 e10 hw8 hw9
    go_wp2_with fail
    refine HK.out.mono ?_
    rintro e w12 ⟨rfl, hb12⟩
    have hA12 := H11.out.1.below hb12 H11.out.1.lt
    have hB12 := H11.out.2.1.below hb12 H11.out.2.1.lt
    have hC12 := H11.out.2.2.1.below hb12 H11.out.2.2.1.lt
    have ho12 := own_below H11.out.2.2.2.1 hb12
    have hbC : Below w.heap.size w w12 := H11.out.2.2.2.2.1.trans (hb12.mono H11.out.2.2.2.2.1.size)
    have hqa := H11.out.2.2.2.2.2.1
    have hqc := H11.out.2.2.2.2.2.2
    have hG := HGG.out
    obtain ⟨w13, hw13⟩ : ∃ V, w12.setCell ⟨cb, 0, none⟩ (.slice (some ⟨gq, 0, none⟩) 2 c') = V := ⟨_, rfl⟩
    have hA13 : Blk w13 g 46 (icl smA).toArray := by rw [← hw13]; exact hA12.far (by show g ≠ cb; omega) _
    have hB13 : Blk w13 (g + 1) 46 (icl smB).toArray := by rw [← hw13]; exact hB12.far (by show g + 1 ≠ cb; omega) _
    have hC13 : Blk w13 cb 25 #[.slice (some ⟨gq, 0, none⟩) 2 c', .slice none 0 0] := by rw [← hw13]; exact hC12.set_ 0 _
    have ho13 : w13.ownsRow (g + 1 + 1) 44 1 (.slice (some ⟨gq, 0, none⟩) 3 c') 3 ([(⟨some ⟨g, 0, none⟩, 9, smA⟩ : Fe), ⟨some ⟨g + 1, 0, none⟩, 4, smB⟩, ⟨some ⟨w6.heap.size, 0, none⟩, 2, thr⟩].map fval) := by rw [← hw13]; exact own_far ho12 cb 0 _ (by show some gq ≠ some cb; intro e; injection e; omega)
    have hbD : Below w.heap.size w w13 := by rw [← hw13]; exact below_set hbC _ _ _ (by omega)
    obtain ⟨w14, hw14⟩ : ∃ V, (w13.alloc (.cells #[.int .u8 6, .int .i64 1, .int .i64 1, .int .i64 0, .string ⟨#[]⟩] 46)).drew = V := ⟨_, rfl⟩
    have hb14 : Below w13.heap.size w13 w14 := by rw [← hw14]; exact ((Below.refl _ _).alloc (Nat.le_refl _) _).drew
    have hG14 : Blk w14 w13.heap.size 46 grp.cells.toArray := by rw [← hw14]; exact (Blk.new _ _ _).drew
    have hA14 := hA13.below hb14 hA13.lt
    have hB14 := hB13.below hb14 hB13.lt
    have hC14 := hC13.below hb14 hC13.lt
    have ho14 := own_below ho13 hb14
    have o14 : w14.ownsRow g 46 5 (.slice (some ⟨g, 0, none⟩) 9 9) smA.length (icl smA) := ⟨rfl, .inr ⟨g, 9, _, rfl, Nat.le_refl _, hA14, Nat.le_refl _, by decide, rfl, rfl⟩⟩
    obtain ⟨v', w15, hrun, hown, hgr, hob⟩ := push_ins o14 (Nat.le_of_lt hA14.lt) grp w13.heap.size hG14 (by decide)
    obtain ⟨A2, c2, rfl⟩ := shape_n hown
    have hown : w15.ownsRow g 46 5 (.slice A2 10 c2) 10 (icl (smA ++ [grp])) := hown
    have hrun : (Builtin.append_ #[44, 44] 44 #[.slice (some ⟨g, 0, none⟩) 9 9, .slice (some ⟨w13.heap.size, 0, none⟩) 1 1]).run Try.prog w14 = .ok (.slice A2 10 c2) w15 := hrun
    obtain ⟨g2, rfl, hp1, hp2, hp3, hp4, hp5⟩ := own_cap' hown rfl (by decide)
    have hq14 : gq < w14.heap.size := ((ho14).lt gq rfl).2
    have hpq : g2 ≠ gq := by
      rcases hob with e | e
      · have e : some g2 = some g := e
        injection e with e; omega
      · have e : some g2 = some w14.heap.size := e
        injection e with e; omega
    have hB15 : Blk w15 (g + 1) 46 (icl smB).toArray := hB14.grown hgr (by show some (g + 1) ≠ some g; intro e; injection e; omega)
    have hC15 : Blk w15 cb 25 #[.slice (some ⟨gq, 0, none⟩) 2 c', .slice none 0 0] := hC14.grown hgr (by show some cb ≠ some g; intro e; injection e; omega)
    have hq0 : w14.cell? ⟨gq, 0, none⟩ = some (.slice (some ⟨g, 0, none⟩) 9 9) := own_cell ho14 (j := 0) rfl
    have hq1 : w14.cell? ⟨gq, 1, none⟩ = some (.slice (some ⟨g + 1, 0, none⟩) 4 4) := own_cell ho14 (j := 1) rfl
    have hqb : w15.heap[gq]? = w14.heap[gq]? := hgr.block gq hq14 (by show some gq ≠ some g; intro e; injection e; omega)
    have hq0' : w15.cell? ⟨gq, 0, none⟩ = some (.slice (some ⟨g, 0, none⟩) 9 9) := (World.cell?_of_block (a := ⟨gq, 0, none⟩) hqb).trans hq0
    have hq1' : w15.cell? ⟨gq, 1, none⟩ = some (.slice (some ⟨g + 1, 0, none⟩) 4 4) := (World.cell?_of_block (a := ⟨gq, 1, none⟩) hqb).trans hq1
    have hqf : w15.frozen? ⟨gq, 0, none⟩ = false := (World.frozen?_of_block (a := ⟨gq, 0, none⟩) hqb).trans (own_thaw ho14 _ rfl 0)
    have hbE : Below w.heap.size w w15 := (hbD.trans (hb14.mono hbD.size)).grown hgr (by have := hbD.size; have := hb14.size; omega) (fun k e => by have e : some g = some k := e; injection e with e; omega)
    obtain ⟨w16, hw16⟩ : ∃ V, w15.setCell ⟨gq, 0, none⟩ (.slice (some ⟨g2, 0, none⟩) 10 c2) = V := ⟨_, rfl⟩
    have hB16 : Blk w16 (g + 1) 46 (icl smB).toArray := by rw [← hw16]; exact hB15.far (by show g + 1 ≠ gq; omega) _
    have hC16 : Blk w16 cb 25 #[.slice (some ⟨gq, 0, none⟩) 2 c', .slice none 0 0] := by rw [← hw16]; exact hC15.far (by show cb ≠ gq; omega) _
    have ho16 : w16.ownsRow g 46 5 (.slice (some ⟨g2, 0, none⟩) 10 c2) 10 (icl (smA ++ [grp])) := by rw [← hw16]; exact own_far hown gq 0 _ (by show some g2 ≠ some gq; intro e; injection e; omega)
    have hq16 : w16.cell? ⟨gq, 0, none⟩ = some (.slice (some ⟨g2, 0, none⟩) 10 c2) := by rw [← hw16]; exact World.cell?_setCell_same _ _ _ hq0'
    have hq17 : w16.cell? ⟨gq, 1, none⟩ = some (.slice (some ⟨g + 1, 0, none⟩) 4 4) := by rw [← hw16]; exact (World.cell?_setCell_other _ _ _ _ (by simp)).trans hq1'
    have hbF : Below w.heap.size w w16 := by rw [← hw16]; exact below_set hbE _ _ _ (by have := HQ.out.1; omega)
    have hgl : gq < w16.heap.size := World.block_lt_of_cell? _ _ hq16
    have hK := check_any ⟨[⟨some ⟨g2, 0, none⟩, c2, smA ++ [grp]⟩, ⟨some ⟨g + 1, 0, none⟩, 4, smB⟩], some ⟨gq, 0, none⟩, c', [], none, 0⟩ w16 ⟨⟨fun r a ha => by
        rcases r with _ | _ | r
        · obtain rfl : (⟨some ⟨g2, 0, none⟩, c2, smA ++ [grp]⟩ : Fe) = a := by simpa using ha
          refine ⟨gq, 0, rfl, hgl, hgl, fun j v hj => ?_⟩
          rcases j with _ | j
          · obtain rfl : Value.slice (some ⟨g2, 0, none⟩) 10 c2 = v := by simpa [Fe.cells, smA] using hj
            exact hq16
          · simp [Fe.cells] at hj
        · obtain rfl : (⟨some ⟨g + 1, 0, none⟩, 4, smB⟩ : Fe) = a := by simpa using ha
          refine ⟨gq, 0, rfl, hgl, hgl, fun j v hj => ?_⟩
          rcases j with _ | j
          · obtain rfl : Value.slice (some ⟨g + 1, 0, none⟩) 4 4 = v := by simpa [Fe.cells, smB] using hj
            exact hq17
          · simp [Fe.cells] at hj
        · simp at ha, fun x hx => by
        simp only [List.mem_cons, List.not_mem_nil, or_false] at hx
        rcases hx with rfl | rfl
        · exact ⟨by show (10 : Nat) ≤ c2; exact hp3, by show c2 ≤ maxLen; exact hp4, ⟨(row_own (cl := Ins.cells) ho16 rfl (fun _ => rfl) (fun m x j u hx hj => icl_get _ m x j u hx hj)).mono fun b hlt _ => hlt, fun i hi => by
            rcases List.mem_append.1 hi with hi | hi
            · exact ok_smA i hi
            · rw [List.mem_singleton.1 hi]; exact ⟨by decide, by decide, by decide, by decide, by decide⟩⟩⟩
        · exact ⟨by show (4 : Nat) ≤ 4; decide, by show (4 : Nat) ≤ maxLen; decide, ⟨row_blk hB16 hB16.lt fun m x j v hx hj => icl_get smB m x j v hx hj, ok_smB⟩⟩⟩, rs_nil _ _, ⟨by show (2 : Nat) ≤ c'; have := HQ.out.2.1; omega, HQ.out.2.2.1⟩, ⟨Nat.le_refl _, Nat.zero_le _⟩⟩ (show (2 : Nat) ≤ 1000000 by decide) (show (0 : Nat) ≤ 1000000 by decide) (show 10 + (4 + 0) ≤ 400000 by decide)
    rw [show Cl.cd ⟨[⟨some ⟨g2, 0, none⟩, c2, smA ++ [grp]⟩, ⟨some ⟨g + 1, 0, none⟩, 4, smB⟩], some ⟨gq, 0, none⟩, c', [], none, 0⟩ = ⟨[smA ++ [⟨6, 1, 1, 0, []⟩], smB], []⟩ from rfl, sm_twice, if_neg (by decide)] at hK
    have hK : Calls Try.prog 20 #[.agg #[.slice (some ⟨gq, 0, none⟩) 2 c', .slice none 0 0]] w16 fun e w' => e = .returned (.int .i64 17) ∧ Below w16.heap.size w16 w' := hK
    have HK2 := Lib.hid hK
    have HRUN := Lib.hid hrun
    have HBF := Lib.hid hbF
    have HW13 := Lib.hid hw13
    have HW16 := Lib.hid hw16
    clear c11 c12
    have c12 : w12.cell? ⟨cb, 0, none⟩ = some (.slice (some ⟨gq, 0, none⟩) 3 c') := hC12.cell 0
    have e12 := hC12.frozen 0
    have c13 : w13.cell? ⟨cb, 0, none⟩ = some (.slice (some ⟨gq, 0, none⟩) 2 c') := hC13.cell 0
    have q13 : w13.cell? ⟨gq, 0, none⟩ = some (.slice (some ⟨g, 0, none⟩) 9 9) := own_cell ho13 (j := 0) rfl
    have c14 : w14.cell? ⟨cb, 0, none⟩ = some (.slice (some ⟨gq, 0, none⟩) 2 c') := hC14.cell 0
    have c16 : w16.cell? ⟨cb, 0, none⟩ = some (.slice (some ⟨gq, 0, none⟩) 2 c') := hC16.cell 0
    have c17 : w16.cell? ⟨cb, 1, none⟩ = some (.slice none 0 0) := hC16.cell 1
    have c15 : w15.cell? ⟨cb, 0, none⟩ = some (.slice (some ⟨gq, 0, none⟩) 2 c') := hC15.cell 0
    have hc3 : 3 ≤ c' := HQ.out.2.1
    have hc2 : 2 ≤ c' := by omega
    clear hK hrun hbF hq16 hq17 hgl ho16 hC16 hB16 hbE hqb hq1 hq1' hC15 hB15 hpq hq14 hp1 hp2 hp3 hp4 hp5 hown hgr hob o14 ho14 hC14 hB14 hA14 hG14 hb14 hbD ho13 hC13 hB13 hA13 hw13 hw16 hqa hqc hG hbC ho12 hC12 hB12 hA12 hb12 HK
    go_upto_region 26 with fail
    rw [HW13.out]
    clear c12 e12
    subst hw14
    go_region_law (refine step_app rfl (.tmp 100) (.tmp 102) 44 rfl _ _ _ _ (by simp [Act.eval]) (by simp [Act.eval]) HRUN.out ?_)
    all_goals
      (try rw [HW16.out])
      clear hq0' hqf c15
      go_wp2_with fail
      refine HK2.out.mono ?_
      rintro e w17 ⟨rfl, hb17⟩
      have HB17 := Lib.hid (HBF.out.trans (hb17.mono HBF.out.size))
      clear hb17
      go_wp2_with fail
      refine (HWK.out _).mono ?_
      rintro e w18 ⟨rfl, hb18⟩
      have HB18 := Lib.hid (HB17.out.trans (hb18.mono HB17.out.size))
      clear hb18
      go_wp2_with fail
      go_ret
      exact ⟨rfl, HB18.out⟩
  case inr.inr.inr.inr.inr.inl =>
    obtain ⟨rt, hrt⟩ : ∃ z, w6.heap.size = z := ⟨_, rfl⟩
    obtain ⟨w8, hw8⟩ : ∃ V, w6.alloc (.cells #[.string ⟨#[114]⟩, .string ⟨#[105, 110, 116]⟩, .string ⟨#[115]⟩, .string ⟨#[105, 110, 116]⟩] 48) = V := ⟨_, rfl⟩
    have hb8 : Below w6.heap.size w6 w8 := by rw [← hw8]; exact (Below.refl _ _).alloc (Nat.le_refl _) _
    have Z8 : Blk w8 rt 48 (rtl rsT).toArray := by rw [← hw8, ← hrt]; exact Blk.new _ _ _
    have C8 := HM6.out.2.1.below hb8 HM6.out.2.1.lt
    have hm8 := HM6.out.2.2.1.bel hb8
    have hcr : cb < rt ∧ g + 1 + 1 < rt := ⟨by rw [← hrt]; exact HM6.out.2.1.lt, by rw [← hrt]; exact HM6.out.2.2.1.r.lt⟩
    have hG := HG6.out
    obtain ⟨w9, hw9⟩ : ∃ V, w8.setCell ⟨cb, 1, none⟩ (.slice (some ⟨rt, 0, none⟩) 2 2) = V := ⟨_, rfl⟩
    have C9 : Blk w9 cb 25 #[.slice (some ⟨g + 1 + 1, 0, none⟩) 2 2, .slice (some ⟨rt, 0, none⟩) 2 2] := by rw [← hw9]; exact C8.set_ 1 _
    have hm9 : Sml w9 g smA smB := by rw [← hw9]; exact ⟨hm8.a.far (by show g ≠ cb; omega) _, hm8.b.far (by show g + 1 ≠ cb; omega) _, hm8.r.far (by show g + 1 + 1 ≠ cb; omega) _⟩
    have Z9 : Blk w9 rt 48 (rtl rsT).toArray := by rw [← hw9]; exact Z8.far (by show rt ≠ cb; omega) _
    have hb9 : Below w.heap.size w w9 := by rw [← hw9]; exact below_set (HB6.out.trans (hb8.mono HB6.out.size)) _ _ _ (by omega)
    have hr9 : RsAt (fun b => b < w9.heap.size) w9 (some ⟨rt, 0, none⟩) rsT := ⟨row_blk Z9 Z9.lt fun m x j v hx hj => rtl_get rsT m x j v hx hj, fun r hr => by
      simp only [rsT, List.mem_cons, List.not_mem_nil, or_false] at hr
      rcases hr with rfl | rfl <;> exact ⟨by decide, by decide⟩⟩
    have hK := hm9.check rfl ok_smA rfl ok_smB hr9 (rc := 2) ⟨by decide, by decide⟩ (e0 := 0) (by rw [sm_two]; rfl)
    have HK := Lib.hid hK
    have HM9 := Lib.hid (And.intro C9 (And.intro hm9 (And.intro Z9 hb9)))
    have HW9 := Lib.hid (And.intro hrt (And.intro hw8 hw9))
    have HG9 := Lib.hid (And.intro hcr hG)
    have c0 : w9.cell? ⟨cb, 0, none⟩ = some (.slice (some ⟨g + 1 + 1, 0, none⟩) 2 2) := C9.cell 0
    have c1 : w9.cell? ⟨cb, 1, none⟩ = some (.slice (some ⟨rt, 0, none⟩) 2 2) := C9.cell 1
    have c8 : w8.cell? ⟨cb, 1, none⟩ = some (.slice none 0 0) := C8.cell 1
    have e8 := C8.frozen 1
    clear hK hr9 C9 hm9 Z9 hb9 C8 hm8 Z8 hb8 hrt hw9 hcr hG
    go_upto_region 30 with fail
    rw [HW9.out.1, HW9.out.2.2]
    clear hw8 c8 e8
    go_wp2_with fail
    refine HK.out.mono ?_
    rintro e w10 ⟨rfl, hb10⟩
    obtain ⟨w11, hw11⟩ : ∃ V, w10.setCell ⟨rt, 2, none⟩ (.string ⟨#[114]⟩) = V := ⟨_, rfl⟩
    have C10 := HM9.out.1.below hb10 HM9.out.1.lt
    have m10 := HM9.out.2.1.bel hb10
    have Z10 := HM9.out.2.2.1.below hb10 HM9.out.2.2.1.lt
    have hG := HG9.out
    have C11 : Blk w11 cb 25 #[.slice (some ⟨g + 1 + 1, 0, none⟩) 2 2, .slice (some ⟨rt, 0, none⟩) 2 2] := by rw [← hw11]; exact C10.far (by show cb ≠ rt; omega) _
    have hm11 : Sml w11 g smA smB := by rw [← hw11]; exact ⟨m10.a.far (by show g ≠ rt; omega) _, m10.b.far (by show g + 1 ≠ rt; omega) _, m10.r.far (by show g + 1 + 1 ≠ rt; omega) _⟩
    have Z11 : Blk w11 rt 48 (rtl rsR).toArray := by rw [← hw11]; exact Z10.set_ 2 _
    have hb11 : Below w.heap.size w w11 := by rw [← hw11]; exact below_set (HM9.out.2.2.2.trans (hb10.mono HM9.out.2.2.2.size)) _ _ _ (by omega)
    have hr11 : RsAt (fun b => b < w11.heap.size) w11 (some ⟨rt, 0, none⟩) rsR := ⟨row_blk Z11 Z11.lt fun m x j v hx hj => rtl_get rsR m x j v hx hj, fun r hr => by
      simp only [rsR, List.mem_cons, List.not_mem_nil, or_false] at hr
      rcases hr with rfl | rfl <;> exact ⟨by decide, by decide⟩⟩
    have hK := hm11.check rfl ok_smA rfl ok_smB hr11 (rc := 2) ⟨by decide, by decide⟩ (e0 := 17) (by rw [sm_same]; rfl)
    have HK2 := Lib.hid hK
    have HB11 := Lib.hid hb11
    have HW11 := Lib.hid hw11
    clear c0 c1
    have c0 : w10.cell? ⟨cb, 0, none⟩ = some (.slice (some ⟨g + 1 + 1, 0, none⟩) 2 2) := C10.cell 0
    have c1 : w10.cell? ⟨cb, 1, none⟩ = some (.slice (some ⟨rt, 0, none⟩) 2 2) := C10.cell 1
    have d2 : w10.cell? ⟨rt, 2, none⟩ = some (.string (str [115])) := Z10.cell 2
    have e2 := Z10.frozen 2
    have c4 : w11.cell? ⟨cb, 0, none⟩ = some (.slice (some ⟨g + 1 + 1, 0, none⟩) 2 2) := C11.cell 0
    have c5 : w11.cell? ⟨cb, 1, none⟩ = some (.slice (some ⟨rt, 0, none⟩) 2 2) := C11.cell 1
    clear hK hr11 C11 hm11 Z11 hb11 C10 m10 Z10 hG hw11 hb10 HK
    go_upto_region 33 with fail
    rw [HW11.out]
    clear c0 c1 d2 e2
    go_wp2_with fail
    refine HK2.out.mono ?_
    rintro e w12 ⟨rfl, hb12⟩
    have HB12 := Lib.hid (HB11.out.trans (hb12.mono HB11.out.size))
    clear hb12 HK2 HB11
    go_wp2_with fail
    refine (HWK.out _).mono ?_
    rintro e w13 ⟨rfl, hb13⟩
    have HB13 := Lib.hid (HB12.out.trans (hb13.mono HB12.out.size))
    clear hb13
    go_wp2_with fail
    go_ret
    exact ⟨rfl, HB13.out⟩
end Go.Proofs.Ytimkiifcmegfeaa
