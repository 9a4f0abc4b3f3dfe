/- heap: the document's heap: SetWord, Alloc, Fill. -/
import Derived.Test.YtclkkfffecmjnaaWa
import Derived.Test.YtclkkfffecmjnaaTake
import Derived.Deep.RegionHeld3
import Derived.Test.YtclkkfffecmjnaaAm
namespace Go.Proofs.Ytclkkfffecmjnaa
open Go.RowKit
set_option linter.unusedVariables false
set_option linter.unusedSimpArgs false
attribute [local go_sem] Oper.semAt_some
theorem RM.drew {w : World} {r q c lim : Nat} {R : Nat → Lab} {T : List Tg} (h : RM w r q c R lim T) : RM w.drew r q c R lim T := h.keep (Nat.le_refl _) fun _ _ => rfl
theorem word_yes {H : HS} {k i : Int} {z1 : Wd} (h : wordF H k i = (z1, true)) : ∃ x j, H.obj k = some x ∧ i = ((j : Nat) : Int) ∧ x.o.ws[j]? = some z1 := by
  unfold wordF at h
  cases hx : H.obj k with
  | none => rw [hx] at h; cases h
  | some x =>
    rw [hx] at h
    dsimp only at h
    split at h
    · cases h
    · refine ⟨x, i.toNat, rfl, by omega, ?_⟩
      cases hz : x.o.ws[i.toNat]? with
      | none => rw [hz] at h; cases h
      | some z => rw [hz] at h; cases h; rfl
theorem word_no {H : HS} {k i : Int} {z1 z : Wd} (h : wordF H k i = (z1, false)) : setF H k i z = (H, false) := by
  unfold wordF at h
  unfold setF
  cases hx : H.obj k with
  | none => rfl
  | some x =>
    rw [hx] at h
    dsimp only at h ⊢
    split at h
    · next e => rw [if_pos (.inr (.inl e))]
    · have e2 : (x.o.ws.length : Int) ≤ i := by
        cases hz : x.o.ws[i.toNat]? with
        | none => have := List.getElem?_eq_none_iff.1 hz; omega
        | some z => rw [hz] at h; cases h
      rw [if_pos (.inr (.inr (.inl e2)))]
section
variable {w w' : World} {r t : Nat} {R : Nat → Lab} {H : HS}
set_option maxRecDepth 20000 in
set_option maxHeartbeats 4000000 in
theorem rset_any (h : RX w r R H) (hok : H.Ok t) (k i : Int) (z : Wd) (hz : z.ok) :
    Calls Try.prog 50 #[.pointer (some ⟨r, 0, none⟩), .int .i64 k, .int .i64 i, .agg #[.int .u8 (z.k : Int), .int .i64 z.n]] w fun e w' => e = .returned (.bool (setF H k i z).2) ∧ Stp w w' r R (setF H k i z).1 := by
  have hb : Below w.heap.size w (w.alloc (.cells #[.int .u8 (z.k : Int), .int .i64 z.n] 37)) := (Below.refl _ _).alloc (Nat.le_refl _) _
  have hB := Blk.new w 37 #[.int .u8 (z.k : Int), .int .i64 z.n]
  have hX0 := h.below hb
  have HW := rword_any hX0 hok k i
  obtain ⟨⟨z1, is⟩, hzv⟩ : ∃ p, wordF H k i = p := ⟨_, rfl⟩
  rw [hzv] at HW
  replace HW := Lib.hid HW
  have HB := Lib.hid (And.intro hb hB)
  have HX := Lib.hid h
  have hRlt := h.lt
  have HOK := Lib.hid hok
  have HZ := Lib.hid hz
  clear hb hB hX0 hz
  cases is with
  | false =>
    rw [word_no hzv]
    clear h hzv hRlt hok
    go_enter Try.func50, Try.ntmps50
    go_wp2_with fail
    refine HW.out.mono ?_
    rintro e w1 ⟨rfl, hb1⟩
    go_upto_region 2 with fail
    obtain ⟨w2, hw2⟩ : ∃ w2, w1.alloc (.cells #[.int .u8 (z1.k : Int), .int .i64 z1.n] 37) = w2 := ⟨_, rfl⟩
    have hb2 : Below w1.heap.size w1 w2 := by rw [← hw2]; exact (Below.refl _ w1).alloc (Nat.le_refl _) _
    have hbw1 := HB.out.1.trans (hb1.mono HB.out.1.size)
    have hbw2 := hbw1.trans (hb2.mono hbw1.size)
    have hB2 := (HB.out.2.below hb1 HB.out.2.lt).below hb2 (Nat.lt_of_lt_of_le HB.out.2.lt hb1.size)
    have b0 := hB2.cell 0
    have b1 := hB2.cell 1
    simp only [List.getElem?_toArray, List.getElem?_cons_zero, List.getElem?_cons_succ] at b0 b1
    rw [hw2]
    have HBW := Lib.hid (And.intro hbw2 hB2)
    clear hw2 hb1 hb2 hbw1 hB2 hbw2 HW
    go_wp2_with fail
    go_ret
    exact ⟨rfl, Stp.of_below HX.out HBW.out.1⟩
  | true =>
    obtain ⟨x, j, hx, rfl, hzj⟩ := word_yes hzv
    have hjl : j < x.o.ws.length := (List.getElem?_eq_some_iff.1 hzj).1
    have e : setF H k (j : Int) z = if setsO x.o = false ∨ Hp.wordOk z = false then (H, false) else (setH H x j z, true) := by
      unfold setF
      rw [hx]
      dsimp only
      rw [Int.toNat_natCast]
      by_cases h1 : setsO x.o = false ∨ Hp.wordOk z = false
      · rw [if_pos h1, if_pos (by rcases h1 with h1 | h1 <;> simp [h1])]
      · rw [if_neg h1, if_neg (by rintro (h2 | h2 | h2 | h2) <;> first | exact h1 (.inl h2) | exact h1 (.inr h2) | omega)]
    rw [e]
    clear e hzv
    by_cases hwk : Hp.wordOk z = false
    · rw [if_pos (.inr hwk)]
      have hk1 : z.k ≠ 1 ∧ z.k ≠ 2 := by
        unfold Hp.wordOk at hwk
        simp at hwk
        exact hwk
      have d1 : ((z.k : Int) != 1) = true := by simp; omega
      have d2 : ((z.k : Int) != 2) = true := by simp; omega
      clear h hRlt hok hx hjl hzj hwk hk1
      go_enter Try.func50, Try.ntmps50
      go_wp2_with fail
      refine HW.out.mono ?_
      rintro e w1 ⟨rfl, hb1⟩
      go_upto_region 2 with fail
      obtain ⟨w2, hw2⟩ : ∃ w2, w1.alloc (.cells #[.int .u8 (z1.k : Int), .int .i64 z1.n] 37) = w2 := ⟨_, rfl⟩
      have hb2 : Below w1.heap.size w1 w2 := by rw [← hw2]; exact (Below.refl _ w1).alloc (Nat.le_refl _) _
      have hbw1 := HB.out.1.trans (hb1.mono HB.out.1.size)
      have hbw2 := hbw1.trans (hb2.mono hbw1.size)
      have hB2 := (HB.out.2.below hb1 HB.out.2.lt).below hb2 (Nat.lt_of_lt_of_le HB.out.2.lt hb1.size)
      have b0 := hB2.cell 0
      have b1 := hB2.cell 1
      simp only [List.getElem?_toArray, List.getElem?_cons_zero, List.getElem?_cons_succ] at b0 b1
      rw [hw2]
      have HBW := Lib.hid (And.intro hbw2 hB2)
      clear hw2 hb1 hb2 hbw1 hB2 hbw2 HW
      go_wp2_with fail
      go_ret
      exact ⟨rfl, Stp.of_below HX.out HBW.out.1⟩
    have hk1 : z.k = 1 ∨ z.k = 2 := by
      unfold Hp.wordOk at hwk
      simp at hwk
      omega
    obtain ⟨zd, hzd⟩ : ∃ zd, ((z.k : Int) != 1) = zd := ⟨_, rfl⟩
    have hzd2 : zd = true → ((z.k : Int) != 2) = false := fun e => by
      rw [← hzd] at e
      simp at e ⊢
      omega
    clear hwk
    have hHX := HX.out
    by_cases hso : setsO x.o = false
    · rw [if_pos (.inl hso)]
      have hk3 : x.o.k ≠ 3 ∧ x.o.k ≠ 4 := by
        unfold setsO at hso
        simp at hso
        exact hso
      have d3 : ((x.o.k : Int) != 3) = true := by simp; omega
      have d4 : ((x.o.k : Int) != 4) = true := by simp; omega
      have HXX := Lib.hid hx
      clear h hRlt hok hx hjl hzj hso hk3 hk1 hHX
      have HZ2 := Lib.hid hzd2
      clear hzd2
      cases zd with
      | false =>
        clear HZ2
        go_enter Try.func50, Try.ntmps50
        go_wp2_with fail
        refine HW.out.mono ?_
        rintro e w1 ⟨rfl, hb1⟩
        go_upto_region 2 with fail
        obtain ⟨w2, hw2⟩ : ∃ w2, w1.alloc (.cells #[.int .u8 (z1.k : Int), .int .i64 z1.n] 37) = w2 := ⟨_, rfl⟩
        have hb2 : Below w1.heap.size w1 w2 := by rw [← hw2]; exact (Below.refl _ w1).alloc (Nat.le_refl _) _
        have hbw1 := HB.out.1.trans (hb1.mono HB.out.1.size)
        have hbw2 := hbw1.trans (hb2.mono hbw1.size)
        have hB2 := (HB.out.2.below hb1 HB.out.2.lt).below hb2 (Nat.lt_of_lt_of_le HB.out.2.lt hb1.size)
        have b0 := hB2.cell 0
        have b1 := hB2.cell 1
        simp only [List.getElem?_toArray, List.getElem?_cons_zero, List.getElem?_cons_succ] at b0 b1
        rw [hw2]
        have HBW := Lib.hid (And.intro hbw2 hB2)
        clear hw2 hb1 hb2 hbw1 hB2 hbw2 HW
        have HX2 := HX.out.below HBW.out.1
        obtain ⟨kn, n, q, c, T, y, rfl, hxk, hlt, hnc, hTn, hm, hs, hy, s1, s2, s3, s4⟩ := HX2.at_ HOK.out HXX.out
        obtain ⟨c0, c1, cf⟩ := hm.told
        obtain ⟨q0, _⟩ := hm.row.told hy
        have qf := hm.row.frozen
        rw [hTn] at c1
        rw [s1] at q0
        clear hm hs hy s1 s2 s3 s4 hxk hnc hTn HX2
        go_wp2_with fail
        go_ret
        exact ⟨rfl, Stp.of_below HX.out HBW.out.1⟩
      | true =>
        have d2 := HZ2.out rfl
        clear HZ2
        go_enter Try.func50, Try.ntmps50
        go_wp2_with fail
        refine HW.out.mono ?_
        rintro e w1 ⟨rfl, hb1⟩
        go_upto_region 2 with fail
        obtain ⟨w2, hw2⟩ : ∃ w2, w1.alloc (.cells #[.int .u8 (z1.k : Int), .int .i64 z1.n] 37) = w2 := ⟨_, rfl⟩
        have hb2 : Below w1.heap.size w1 w2 := by rw [← hw2]; exact (Below.refl _ w1).alloc (Nat.le_refl _) _
        have hbw1 := HB.out.1.trans (hb1.mono HB.out.1.size)
        have hbw2 := hbw1.trans (hb2.mono hbw1.size)
        have hB2 := (HB.out.2.below hb1 HB.out.2.lt).below hb2 (Nat.lt_of_lt_of_le HB.out.2.lt hb1.size)
        have b0 := hB2.cell 0
        have b1 := hB2.cell 1
        simp only [List.getElem?_toArray, List.getElem?_cons_zero, List.getElem?_cons_succ] at b0 b1
        rw [hw2]
        have HBW := Lib.hid (And.intro hbw2 hB2)
        clear hw2 hb1 hb2 hbw1 hB2 hbw2 HW
        have HX2 := HX.out.below HBW.out.1
        obtain ⟨kn, n, q, c, T, y, rfl, hxk, hlt, hnc, hTn, hm, hs, hy, s1, s2, s3, s4⟩ := HX2.at_ HOK.out HXX.out
        obtain ⟨c0, c1, cf⟩ := hm.told
        obtain ⟨q0, _⟩ := hm.row.told hy
        have qf := hm.row.frozen
        rw [hTn] at c1
        rw [s1] at q0
        clear hm hs hy s1 s2 s3 s4 hxk hnc hTn HX2
        go_wp2_with fail
        go_ret
        exact ⟨rfl, Stp.of_below HX.out HBW.out.1⟩
    · rw [if_neg (by rintro (h1 | h1); exact hso h1; unfold Hp.wordOk at h1; simp at h1; omega)]
      have hk3 : x.o.k = 3 ∨ x.o.k = 4 := by
        unfold setsO at hso
        simp at hso
        omega
      obtain ⟨kd, hkd⟩ : ∃ kd, ((x.o.k : Int) != 3) = kd := ⟨_, rfl⟩
      have hkd2 : kd = true → ((x.o.k : Int) != 4) = false := fun e => by
        rw [← hkd] at e
        simp at e ⊢
        omega
      have HXX := Lib.hid (And.intro hx (And.intro hjl hzj))
      have HZ2 := Lib.hid hzd2
      have HK2 := Lib.hid hkd2
      clear h hRlt hok hx hjl hzj hso hk3 hk1 hHX hzd2 hkd2
      cases zd with
      | false =>
        clear HZ2
        go_enter Try.func50, Try.ntmps50
        go_wp2_with fail
        refine HW.out.mono ?_
        rintro e w1 ⟨rfl, hb1⟩
        go_upto_region 2 with fail
        obtain ⟨w2, hw2⟩ : ∃ w2, w1.alloc (.cells #[.int .u8 (z1.k : Int), .int .i64 z1.n] 37) = w2 := ⟨_, rfl⟩
        have hb2 : Below w1.heap.size w1 w2 := by rw [← hw2]; exact (Below.refl _ w1).alloc (Nat.le_refl _) _
        have hbw1 := HB.out.1.trans (hb1.mono HB.out.1.size)
        have hbw2 := hbw1.trans (hb2.mono hbw1.size)
        have hB2 := (HB.out.2.below hb1 HB.out.2.lt).below hb2 (Nat.lt_of_lt_of_le HB.out.2.lt hb1.size)
        have b0 := hB2.cell 0
        have b1 := hB2.cell 1
        simp only [List.getElem?_toArray, List.getElem?_cons_zero, List.getElem?_cons_succ] at b0 b1
        rw [hw2]
        have HBW := Lib.hid (And.intro hbw2 hB2)
        clear hw2 hb1 hb2 hbw1 hB2 hbw2 HW
        have HX2 := HX.out.below HBW.out.1
        obtain ⟨kn, n, q, c, T, y, rfl, hxk, hlt, hnc, hTn, hm, hs, hy, s1, s2, s3, s4⟩ := HX2.at_ HOK.out HXX.out.1
        obtain ⟨c0, c1, cf⟩ := hm.told
        obtain ⟨q0, _⟩ := hm.row.told hy
        have qf := hm.row.frozen
        rw [hTn] at c1
        rw [s1] at q0
        obtain ⟨_, _, q2, _⟩ := hm.row.told hy
        obtain ⟨hw5, hwl⟩ := hm.words kn y hy
        rw [s1] at hw5 q2
        obtain ⟨p, zq, hA, hzq, _, _, _, z0, z1', pf⟩ := hw5.at_ (i := j) HXX.out.2.1
        rw [hA] at q2
        obtain ⟨l, hl⟩ : ∃ l, x.o.ws.length = l := ⟨_, rfl⟩
        rw [hl] at q2
        have hjl : j < l := by rw [← hl]; exact HXX.out.2.1
        have HL := Lib.hid hl
        have HM2 := Lib.hid (And.intro hm (And.intro hs (And.intro hy (And.intro hxk (And.intro hnc (And.intro hTn (And.intro s1 (And.intro s2 (And.intro s3 (And.intro s4 hA))))))))))
        clear hm hs hy s1 s2 s3 s4 hxk hnc hTn HX2 hA hzq hw5 hwl hl
        cases kd with
        | false =>
          clear HK2
          go_upto_region 7 with fail
          have hm3 : RM ((w2.setCell ⟨p, j * 2, none⟩ (.int .u8 (z.k : Int))).setCell ⟨p, j * 2 + 1, none⟩ (.int .i64 z.n)).drew r q c R H.limit (T.set kn { y with o := { y.o with ws := y.o.ws.set j z } }) := (HM2.out.1.word HM2.out.2.2.1 HM2.out.2.2.2.2.2.2.2.2.2.2 (i := j) z HZ.out).drew
          obtain ⟨w4, hw4⟩ : ∃ w4, ((w2.setCell ⟨p, j * 2, none⟩ (.int .u8 (z.k : Int))).setCell ⟨p, j * 2 + 1, none⟩ (.int .i64 z.n)).drew = w4 := ⟨_, rfl⟩
          rw [hw4] at hm3
          have hRp : R p = .wd kn := (HM2.out.1.words kn y HM2.out.2.2.1).2 _ HM2.out.2.2.2.2.2.2.2.2.2.2
          have ho4 : Off (fun b => b = p) w2 w4 := by rw [← hw4]; exact (offS (Off.setc _ _ _ _) _ _ _ rfl).trans (Off.drew _ _)
          have hy3 : (T.set kn { y with o := { y.o with ws := y.o.ws.set j z } })[kn]? = some { y with o := { y.o with ws := y.o.ws.set j z } } := List.getElem?_set_self (by rw [HM2.out.2.2.2.2.2.1]; exact hlt)
          obtain ⟨_, d1, _⟩ := hm3.told
          obtain ⟨_, _, d2', _, _, d5, d6⟩ := hm3.row.told hy3
          have df := hm3.row.frozen
          rw [List.length_set, HM2.out.2.2.2.2.2.1] at d1
          dsimp only at d2' d5 d6
          rw [HM2.out.2.2.2.2.2.2.2.2.1] at d5
          rw [HM2.out.2.2.2.2.2.2.2.2.2.2, List.length_set, HM2.out.2.2.2.2.2.2.1, HL.out] at d2'
          have hwp : ¬ w.heap.size = p := fun e => by have h1 := HX.out.lt p (by rw [hRp]; intro e; cases e); omega
          have hB4 := HBW.out.2.off ho4 hwp
          have hS4 : w4.cell? ⟨r, 1, none⟩ = some (.slice (some ⟨q, 0, none⟩) n c) ∧ w4.cell? ⟨q, kn * 7 + 2, none⟩ = some (.slice (some ⟨p, 0, none⟩) l y.c) ∧ w4.cell? ⟨w.heap.size, 0, none⟩ = some (.int .u8 (z.k : Int)) ∧ w4.cell? ⟨w.heap.size, 1, none⟩ = some (.int .i64 z.n) := ⟨d1, d2', hB4.cell 0, hB4.cell 1⟩
          have hS2 : w2.cell? ⟨r, 1, none⟩ = some (.slice (some ⟨q, 0, none⟩) n c) ∧ w2.cell? ⟨q, kn * 7 + 2, none⟩ = some (.slice (some ⟨p, 0, none⟩) l y.c) ∧ w2.cell? ⟨w.heap.size, 0, none⟩ = some (.int .u8 (z.k : Int)) ∧ w2.cell? ⟨w.heap.size, 1, none⟩ = some (.int .i64 z.n) := ⟨c1, q2, b0, b1⟩
          obtain ⟨v, hv⟩ : ∃ v, (H.oidOf (kn : Int)).getD 0 = v := ⟨_, rfl⟩
          rw [hv] at d5
          obtain ⟨bd, hbd⟩ : ∃ bd, decide (0 < v) = bd := ⟨_, rfl⟩
          have hbd2 : bd = (H.oidOf (kn : Int)).isSome := by
            rw [← hbd, ← hv]
            cases ho : H.oidOf (kn : Int) with
            | none => rfl
            | some v' => have := oid_pos HOK.out ho; show decide (0 < v') = true; simp; omega
          have hm5 := hm3.put (x' := { y with o := { y.o with ws := y.o.ws.set j z }, dirty := bd }) (j := 6) (v := .bool bd) hy3 (by omega) rfl rfl rfl rfl
          rw [List.set_set] at hm5
          replace hm5 := hm5.drew
          have hs5 : Says (setH H x j z) (T.set kn { y with o := { y.o with ws := y.o.ws.set j z }, dirty := bd }) := HM2.out.2.1.upd (H' := setH H x j z) (x' := { y with o := { y.o with ws := y.o.ws.set j z }, dirty := bd }) HOK.out HXX.out.1 (y := ⟨x.h, { x.o with ws := x.o.ws.set j z }, (H.oidOf x.h).isSome⟩) rfl rfl rfl (fun j _ => rfl) (by show ({ y.o with ws := y.o.ws.set j z } : Ob) = _; rw [HM2.out.2.2.2.2.2.2.1]) HM2.out.2.2.2.2.2.2.2.1 HM2.out.2.2.2.2.2.2.2.2.1 (by show bd = (H.oidOf (x.h : Int)).isSome; rw [hbd2, HM2.out.2.2.2.1])
          obtain ⟨w5, hw5⟩ : ∃ w5, (w4.setCell ⟨q, kn * 7 + 6, none⟩ (.bool bd)).drew = w5 := ⟨_, rfl⟩
          rw [hw5] at hm5
          have hx5 : (setH H x j z).limit = H.limit := rfl
          have HF : Hid (Stp w w5 r R (setH H x j z)) := Lib.hid (Stp.after HBW.out.1 HX.out.lt (Stp.of_rm (w := w2) (H' := setH H x j z) hm5 hs5 (((ho4.mono fun b _ e => by have e : b = p := e; rw [e, hRp]; intro e; cases e)).trans (by rw [← hw5]; exact ((Off.setc _ _ _ _).mono fun b _ e => by rw [show b = q from e, HM2.out.1.rq]; intro e; cases e).trans (Off.drew _ _)))))
          obtain ⟨d51, d52⟩ : w5.cell? ⟨r, 1, none⟩ = some (.slice (some ⟨q, 0, none⟩) n c) ∧ w5.cell? ⟨q, kn * 7 + 5, none⟩ = some (.int .i64 (v : Int)) := by
            have hy5 : (T.set kn { y with o := { y.o with ws := y.o.ws.set j z }, dirty := bd })[kn]? = some { y with o := { y.o with ws := y.o.ws.set j z }, dirty := bd } := List.getElem?_set_self (by rw [HM2.out.2.2.2.2.2.1]; exact hlt)
            have g1 := hm5.told.2.1
            rw [List.length_set, HM2.out.2.2.2.2.2.1] at g1
            have g5 := (hm5.row.told hy5).2.2.2.2.2.1
            dsimp only at g5
            rw [HM2.out.2.2.2.2.2.2.2.2.1, hv] at g5
            exact ⟨g1, g5⟩
          have HK := Lib.hid (And.intro hS4 (And.intro (And.intro d1 d5) (And.intro d51 d52)))
          clear hm3 hRp hy3 d1 d2' hwp hB4 hm5 hs5 ho4 hv hbd2 hS4 d51 d52 hx5 HM2
          refine wp_region_held_drew (S := (fun W => W.cell? ⟨r, 1, none⟩ = some (.slice (some ⟨q, 0, none⟩) n c) ∧ W.cell? ⟨q, kn * 7 + 2, none⟩ = some (.slice (some ⟨p, 0, none⟩) l y.c) ∧ W.cell? ⟨w.heap.size, 0, none⟩ = some (.int .u8 (z.k : Int)) ∧ W.cell? ⟨w.heap.size, 1, none⟩ = some (.int .i64 z.n))) (by kernel_rfl) hS2 (fun hHeld => ?_)
          refine takeY 0 (some 46) rfl rfl (by kernel_rfl) (by kernel_rfl) (by kernel_rfl) (fun _ _ _ h => h) (by rfl) (v := _) (by (intro _ hSw; (try dsimp only at hSw); go_simp; try with_reducible rfl)) hHeld ?_
          simp only [Act.put, List.setIfInBounds_toArray, List.set_cons_zero, List.set_cons_succ]
          refine takeY 1 (some 47) rfl rfl (by kernel_rfl) (by kernel_rfl) (by kernel_rfl) (fun _ _ _ h => h) (by rfl) (v := _) (by (intro _ hSw; (try dsimp only at hSw); go_simp; try with_reducible rfl)) hHeld ?_
          simp only [Act.put, List.setIfInBounds_toArray, List.set_cons_zero, List.set_cons_succ]
          refine takeY 2 (some 48) rfl rfl (by kernel_rfl) (by kernel_rfl) (by kernel_rfl) (fun _ _ _ h => h) (by rfl) (v := _) (by (intro _ hSw; (try dsimp only at hSw); go_simp; try with_reducible rfl)) hHeld ?_
          simp only [Act.put, List.setIfInBounds_toArray, List.set_cons_zero, List.set_cons_succ]
          refine takeY 3 (some 49) rfl rfl (by kernel_rfl) (by kernel_rfl) (by kernel_rfl) (fun _ _ _ h => h) (by rfl) (v := _) (by (intro _ hSw; (try dsimp only at hSw); go_simp; try with_reducible rfl)) hHeld ?_
          simp only [Act.put, List.setIfInBounds_toArray, List.set_cons_zero, List.set_cons_succ]
          refine takeY 4 (some 50) rfl rfl (by kernel_rfl) (by kernel_rfl) (by kernel_rfl) (fun _ _ _ h => h) (by rfl) (v := _) (by (intro _ hSw; (try dsimp only at hSw); go_simp; try with_reducible rfl)) hHeld ?_
          simp only [Act.put, List.setIfInBounds_toArray, List.set_cons_zero, List.set_cons_succ]
          refine takeY 5 (some 51) rfl rfl (by kernel_rfl) (by kernel_rfl) (by kernel_rfl) (fun _ _ _ h => h) (by rfl) (v := _) (by (intro _ hSw; (try dsimp only at hSw); go_simp; try with_reducible rfl)) hHeld ?_
          simp only [Act.put, List.setIfInBounds_toArray, List.set_cons_zero, List.set_cons_succ]
          refine takeY 6 (some 52) rfl rfl (by kernel_rfl) (by kernel_rfl) (by kernel_rfl) (fun _ _ _ h => h) (by rfl) (v := _) (by (intro _ hSw; (try dsimp only at hSw); go_simp; try with_reducible rfl)) hHeld ?_
          simp only [Act.put, List.setIfInBounds_toArray, List.set_cons_zero, List.set_cons_succ]
          refine takeY 7 (some 53) rfl rfl (by kernel_rfl) (by kernel_rfl) (by kernel_rfl) (fun _ _ _ h => h) (by rfl) (v := _) (by (intro _ hSw; (try dsimp only at hSw); go_simp; try with_reducible rfl)) hHeld ?_
          simp only [Act.put, List.setIfInBounds_toArray, List.set_cons_zero, List.set_cons_succ]
          refine takeY 8 (some 54) rfl rfl (by kernel_rfl) (by kernel_rfl) (by kernel_rfl) (fun _ _ _ h => h) (by rfl) (v := _) (by (intro _ hSw; (try dsimp only at hSw); go_simp; try with_reducible rfl)) hHeld ?_
          simp only [Act.put, List.setIfInBounds_toArray, List.set_cons_zero, List.set_cons_succ]
          refine takeY 9 (some 55) rfl rfl (by kernel_rfl) (by kernel_rfl) (by kernel_rfl) (fun _ _ _ h => h) (by rfl) (v := _) (by (intro _ hSw; (try dsimp only at hSw); go_simp; try with_reducible rfl)) hHeld ?_
          simp only [Act.put, List.setIfInBounds_toArray, List.set_cons_zero, List.set_cons_succ]
          refine takeY 10 (some 56) rfl rfl (by kernel_rfl) (by kernel_rfl) (by kernel_rfl) (fun _ _ _ h => h) (by rfl) (v := _) (by (intro _ hSw; (try dsimp only at hSw); go_simp; try with_reducible rfl)) hHeld ?_
          simp only [Act.put, List.setIfInBounds_toArray, List.set_cons_zero, List.set_cons_succ]
          refine takeY 11 (some 57) rfl rfl (by kernel_rfl) (by kernel_rfl) (by kernel_rfl) (fun _ _ _ h => h) (by rfl) (v := _) (by (intro _ hSw; (try dsimp only at hSw); go_simp; try with_reducible rfl)) hHeld ?_
          simp only [Act.put, List.setIfInBounds_toArray, List.set_cons_zero, List.set_cons_succ]
          refine wpAnyH_ready (rs := [12]) (by kernel_rfl) (by simp) ?_
          refine AllReadyH.cons rfl (fun K hK => ?_) AllReadyH.nil
          go_simp
          (try rw [hw4])
          refine hK.out _ _ HK.out.1 (fun hHeld => ?_)
          clear hK K
          refine wpAnyH_done (by kernel_rfl) ?_ _
          clear hHeld
          clear hS2 b0 b1 c0 c1 cf q0 q2 z0 z1' pf hw4 qf
          go_upto_region 8 with fail
          refine wp_region_held_drew (S := (fun W => W.cell? ⟨r, 1, none⟩ = some (.slice (some ⟨q, 0, none⟩) n c) ∧ W.cell? ⟨q, kn * 7 + 5, none⟩ = some (.int .i64 (v : Int)))) (by kernel_rfl) HK.out.2.1 (fun hHeld => ?_)
          refine takeY 0 (some 58) rfl rfl (by kernel_rfl) (by kernel_rfl) (by kernel_rfl) (fun _ _ _ h => h) (by rfl) (v := _) (by (intro _ hSw; (try dsimp only at hSw); go_simp; try with_reducible rfl)) hHeld ?_
          simp only [Act.put, List.setIfInBounds_toArray, List.set_cons_zero, List.set_cons_succ]
          refine takeY 1 (some 59) rfl rfl (by kernel_rfl) (by kernel_rfl) (by kernel_rfl) (fun _ _ _ h => h) (by rfl) (v := _) (by (intro _ hSw; (try dsimp only at hSw); go_simp; try with_reducible rfl)) hHeld ?_
          simp only [Act.put, List.setIfInBounds_toArray, List.set_cons_zero, List.set_cons_succ]
          refine takeY 2 (some 60) rfl rfl (by kernel_rfl) (by kernel_rfl) (by kernel_rfl) (fun _ _ _ h => h) (by rfl) (v := _) (by (intro _ hSw; (try dsimp only at hSw); go_simp; try with_reducible rfl)) hHeld ?_
          simp only [Act.put, List.setIfInBounds_toArray, List.set_cons_zero, List.set_cons_succ]
          refine takeY 3 (some 61) rfl rfl (by kernel_rfl) (by kernel_rfl) (by kernel_rfl) (fun _ _ _ h => h) (by rfl) (v := _) (by (intro _ hSw; (try dsimp only at hSw); go_simp; try with_reducible rfl)) hHeld ?_
          simp only [Act.put, List.setIfInBounds_toArray, List.set_cons_zero, List.set_cons_succ]
          refine takeY 4 (some 62) rfl rfl (by kernel_rfl) (by kernel_rfl) (by kernel_rfl) (fun _ _ _ h => h) (by rfl) (v := _) (by (intro _ hSw; (try dsimp only at hSw); go_simp; try with_reducible rfl)) hHeld ?_
          simp only [Act.put, List.setIfInBounds_toArray, List.set_cons_zero, List.set_cons_succ]
          refine takeY 5 (some 63) rfl rfl (by kernel_rfl) (by kernel_rfl) (by kernel_rfl) (fun _ _ _ h => h) (by rfl) (v := _) (by (intro _ hSw; (try dsimp only at hSw); go_simp; try with_reducible rfl)) hHeld ?_
          simp only [Act.put, List.setIfInBounds_toArray, List.set_cons_zero, List.set_cons_succ]
          refine takeY 6 (some 64) rfl rfl (by kernel_rfl) (by kernel_rfl) (by kernel_rfl) (fun _ _ _ h => h) (by rfl) (v := _) (by (intro _ hSw; (try dsimp only at hSw); go_simp; try with_reducible rfl)) hHeld ?_
          simp only [Act.put, List.setIfInBounds_toArray, List.set_cons_zero, List.set_cons_succ]
          refine takeY 7 (some 65) rfl rfl (by kernel_rfl) (by kernel_rfl) (by kernel_rfl) (fun _ _ _ h => h) (by rfl) (v := _) (by (intro _ hSw; (try dsimp only at hSw); go_simp; try with_reducible rfl)) hHeld ?_
          simp only [Act.put, List.setIfInBounds_toArray, List.set_cons_zero, List.set_cons_succ]
          refine takeY 8 (some 66) rfl rfl (by kernel_rfl) (by kernel_rfl) (by kernel_rfl) (fun _ _ _ h => h) (by rfl) (v := _) (by (intro _ hSw; (try dsimp only at hSw); go_simp; try with_reducible rfl)) hHeld ?_
          simp only [Act.put, List.setIfInBounds_toArray, List.set_cons_zero, List.set_cons_succ]
          refine takeY 9 (some 67) rfl rfl (by kernel_rfl) (by kernel_rfl) (by kernel_rfl) (fun _ _ _ h => h) (by rfl) (v := _) (by (intro _ hSw; (try dsimp only at hSw); go_simp; try with_reducible rfl)) hHeld ?_
          simp only [Act.put, List.setIfInBounds_toArray, List.set_cons_zero, List.set_cons_succ]
          refine takeY 10 (some 68) rfl rfl (by kernel_rfl) (by kernel_rfl) (by kernel_rfl) (fun _ _ _ h => h) (by rfl) (v := _) (by (intro _ hSw; (try dsimp only at hSw); go_simp; try with_reducible rfl)) hHeld ?_
          simp only [Act.put, List.setIfInBounds_toArray, List.set_cons_zero, List.set_cons_succ]
          refine takeY 11 (some 69) rfl rfl (by kernel_rfl) (by kernel_rfl) (by kernel_rfl) (fun _ _ _ h => h) (by rfl) (v := _) (by (intro _ hSw; (try dsimp only at hSw); go_simp; try with_reducible rfl)) hHeld ?_
          simp only [Act.put, List.setIfInBounds_toArray, List.set_cons_zero, List.set_cons_succ]
          refine takeY 12 (some 70) rfl rfl (by kernel_rfl) (by kernel_rfl) (by kernel_rfl) (fun _ _ _ h => h) (by rfl) (v := _) (by (intro _ hSw; (try dsimp only at hSw); go_simp; try with_reducible rfl)) hHeld ?_
          simp only [Act.put, List.setIfInBounds_toArray, List.set_cons_zero, List.set_cons_succ]
          refine takeY 13 (some 71) rfl rfl (by kernel_rfl) (by kernel_rfl) (by kernel_rfl) (fun _ _ _ h => h) (by rfl) (v := _) (by (intro _ hSw; (try dsimp only at hSw); go_simp; try with_reducible rfl)) hHeld ?_
          simp only [Act.put, List.setIfInBounds_toArray, List.set_cons_zero, List.set_cons_succ]
          refine takeY 14 (some 72) rfl rfl (by kernel_rfl) (by kernel_rfl) (by kernel_rfl) (fun _ _ _ h => h) (by rfl) (v := _) (by (intro _ hSw; (try dsimp only at hSw); go_simp; try with_reducible rfl)) hHeld ?_
          simp only [Act.put, List.setIfInBounds_toArray, List.set_cons_zero, List.set_cons_succ]
          refine takeY 15 (some 73) rfl rfl (by kernel_rfl) (by kernel_rfl) (by kernel_rfl) (fun _ _ _ h => h) (by rfl) (v := _) (by (intro _ hSw; (try dsimp only at hSw); go_simp; try with_reducible rfl)) hHeld ?_
          simp only [Act.put, List.setIfInBounds_toArray, List.set_cons_zero, List.set_cons_succ]
          refine wpAnyH_ready (rs := [16]) (by kernel_rfl) (by simp) ?_
          refine AllReadyH.cons rfl (fun K hK => ?_) AllReadyH.nil
          go_simp
          (try rw [hw5])
          refine hK.out _ _ HK.out.2.2 (fun hHeld => ?_)
          clear hK K
          refine wpAnyH_done (by kernel_rfl) ?_ _
          clear hHeld
          clear d5 d6 df hw5
          go_wp2_with fail
          go_ret
          exact ⟨rfl, HF.out⟩
        | true =>
          have d4 := HK2.out rfl
          clear HK2
          go_upto_region 7 with fail
          have hm3 : RM ((w2.setCell ⟨p, j * 2, none⟩ (.int .u8 (z.k : Int))).setCell ⟨p, j * 2 + 1, none⟩ (.int .i64 z.n)).drew r q c R H.limit (T.set kn { y with o := { y.o with ws := y.o.ws.set j z } }) := (HM2.out.1.word HM2.out.2.2.1 HM2.out.2.2.2.2.2.2.2.2.2.2 (i := j) z HZ.out).drew
          obtain ⟨w4, hw4⟩ : ∃ w4, ((w2.setCell ⟨p, j * 2, none⟩ (.int .u8 (z.k : Int))).setCell ⟨p, j * 2 + 1, none⟩ (.int .i64 z.n)).drew = w4 := ⟨_, rfl⟩
          rw [hw4] at hm3
          have hRp : R p = .wd kn := (HM2.out.1.words kn y HM2.out.2.2.1).2 _ HM2.out.2.2.2.2.2.2.2.2.2.2
          have ho4 : Off (fun b => b = p) w2 w4 := by rw [← hw4]; exact (offS (Off.setc _ _ _ _) _ _ _ rfl).trans (Off.drew _ _)
          have hy3 : (T.set kn { y with o := { y.o with ws := y.o.ws.set j z } })[kn]? = some { y with o := { y.o with ws := y.o.ws.set j z } } := List.getElem?_set_self (by rw [HM2.out.2.2.2.2.2.1]; exact hlt)
          obtain ⟨_, d1, _⟩ := hm3.told
          obtain ⟨_, _, d2', _, _, d5, d6⟩ := hm3.row.told hy3
          have df := hm3.row.frozen
          rw [List.length_set, HM2.out.2.2.2.2.2.1] at d1
          dsimp only at d2' d5 d6
          rw [HM2.out.2.2.2.2.2.2.2.2.1] at d5
          rw [HM2.out.2.2.2.2.2.2.2.2.2.2, List.length_set, HM2.out.2.2.2.2.2.2.1, HL.out] at d2'
          have hwp : ¬ w.heap.size = p := fun e => by have h1 := HX.out.lt p (by rw [hRp]; intro e; cases e); omega
          have hB4 := HBW.out.2.off ho4 hwp
          have hS4 : w4.cell? ⟨r, 1, none⟩ = some (.slice (some ⟨q, 0, none⟩) n c) ∧ w4.cell? ⟨q, kn * 7 + 2, none⟩ = some (.slice (some ⟨p, 0, none⟩) l y.c) ∧ w4.cell? ⟨w.heap.size, 0, none⟩ = some (.int .u8 (z.k : Int)) ∧ w4.cell? ⟨w.heap.size, 1, none⟩ = some (.int .i64 z.n) := ⟨d1, d2', hB4.cell 0, hB4.cell 1⟩
          have hS2 : w2.cell? ⟨r, 1, none⟩ = some (.slice (some ⟨q, 0, none⟩) n c) ∧ w2.cell? ⟨q, kn * 7 + 2, none⟩ = some (.slice (some ⟨p, 0, none⟩) l y.c) ∧ w2.cell? ⟨w.heap.size, 0, none⟩ = some (.int .u8 (z.k : Int)) ∧ w2.cell? ⟨w.heap.size, 1, none⟩ = some (.int .i64 z.n) := ⟨c1, q2, b0, b1⟩
          obtain ⟨v, hv⟩ : ∃ v, (H.oidOf (kn : Int)).getD 0 = v := ⟨_, rfl⟩
          rw [hv] at d5
          obtain ⟨bd, hbd⟩ : ∃ bd, decide (0 < v) = bd := ⟨_, rfl⟩
          have hbd2 : bd = (H.oidOf (kn : Int)).isSome := by
            rw [← hbd, ← hv]
            cases ho : H.oidOf (kn : Int) with
            | none => rfl
            | some v' => have := oid_pos HOK.out ho; show decide (0 < v') = true; simp; omega
          have hm5 := hm3.put (x' := { y with o := { y.o with ws := y.o.ws.set j z }, dirty := bd }) (j := 6) (v := .bool bd) hy3 (by omega) rfl rfl rfl rfl
          rw [List.set_set] at hm5
          replace hm5 := hm5.drew
          have hs5 : Says (setH H x j z) (T.set kn { y with o := { y.o with ws := y.o.ws.set j z }, dirty := bd }) := HM2.out.2.1.upd (H' := setH H x j z) (x' := { y with o := { y.o with ws := y.o.ws.set j z }, dirty := bd }) HOK.out HXX.out.1 (y := ⟨x.h, { x.o with ws := x.o.ws.set j z }, (H.oidOf x.h).isSome⟩) rfl rfl rfl (fun j _ => rfl) (by show ({ y.o with ws := y.o.ws.set j z } : Ob) = _; rw [HM2.out.2.2.2.2.2.2.1]) HM2.out.2.2.2.2.2.2.2.1 HM2.out.2.2.2.2.2.2.2.2.1 (by show bd = (H.oidOf (x.h : Int)).isSome; rw [hbd2, HM2.out.2.2.2.1])
          obtain ⟨w5, hw5⟩ : ∃ w5, (w4.setCell ⟨q, kn * 7 + 6, none⟩ (.bool bd)).drew = w5 := ⟨_, rfl⟩
          rw [hw5] at hm5
          have hx5 : (setH H x j z).limit = H.limit := rfl
          have HF : Hid (Stp w w5 r R (setH H x j z)) := Lib.hid (Stp.after HBW.out.1 HX.out.lt (Stp.of_rm (w := w2) (H' := setH H x j z) hm5 hs5 (((ho4.mono fun b _ e => by have e : b = p := e; rw [e, hRp]; intro e; cases e)).trans (by rw [← hw5]; exact ((Off.setc _ _ _ _).mono fun b _ e => by rw [show b = q from e, HM2.out.1.rq]; intro e; cases e).trans (Off.drew _ _)))))
          obtain ⟨d51, d52⟩ : w5.cell? ⟨r, 1, none⟩ = some (.slice (some ⟨q, 0, none⟩) n c) ∧ w5.cell? ⟨q, kn * 7 + 5, none⟩ = some (.int .i64 (v : Int)) := by
            have hy5 : (T.set kn { y with o := { y.o with ws := y.o.ws.set j z }, dirty := bd })[kn]? = some { y with o := { y.o with ws := y.o.ws.set j z }, dirty := bd } := List.getElem?_set_self (by rw [HM2.out.2.2.2.2.2.1]; exact hlt)
            have g1 := hm5.told.2.1
            rw [List.length_set, HM2.out.2.2.2.2.2.1] at g1
            have g5 := (hm5.row.told hy5).2.2.2.2.2.1
            dsimp only at g5
            rw [HM2.out.2.2.2.2.2.2.2.2.1, hv] at g5
            exact ⟨g1, g5⟩
          have HK := Lib.hid (And.intro hS4 (And.intro (And.intro d1 d5) (And.intro d51 d52)))
          clear hm3 hRp hy3 d1 d2' hwp hB4 hm5 hs5 ho4 hv hbd2 hS4 d51 d52 hx5 HM2
          refine wp_region_held_drew (S := (fun W => W.cell? ⟨r, 1, none⟩ = some (.slice (some ⟨q, 0, none⟩) n c) ∧ W.cell? ⟨q, kn * 7 + 2, none⟩ = some (.slice (some ⟨p, 0, none⟩) l y.c) ∧ W.cell? ⟨w.heap.size, 0, none⟩ = some (.int .u8 (z.k : Int)) ∧ W.cell? ⟨w.heap.size, 1, none⟩ = some (.int .i64 z.n))) (by kernel_rfl) hS2 (fun hHeld => ?_)
          refine takeY 0 (some 46) rfl rfl (by kernel_rfl) (by kernel_rfl) (by kernel_rfl) (fun _ _ _ h => h) (by rfl) (v := _) (by (intro _ hSw; (try dsimp only at hSw); go_simp; try with_reducible rfl)) hHeld ?_
          simp only [Act.put, List.setIfInBounds_toArray, List.set_cons_zero, List.set_cons_succ]
          refine takeY 1 (some 47) rfl rfl (by kernel_rfl) (by kernel_rfl) (by kernel_rfl) (fun _ _ _ h => h) (by rfl) (v := _) (by (intro _ hSw; (try dsimp only at hSw); go_simp; try with_reducible rfl)) hHeld ?_
          simp only [Act.put, List.setIfInBounds_toArray, List.set_cons_zero, List.set_cons_succ]
          refine takeY 2 (some 48) rfl rfl (by kernel_rfl) (by kernel_rfl) (by kernel_rfl) (fun _ _ _ h => h) (by rfl) (v := _) (by (intro _ hSw; (try dsimp only at hSw); go_simp; try with_reducible rfl)) hHeld ?_
          simp only [Act.put, List.setIfInBounds_toArray, List.set_cons_zero, List.set_cons_succ]
          refine takeY 3 (some 49) rfl rfl (by kernel_rfl) (by kernel_rfl) (by kernel_rfl) (fun _ _ _ h => h) (by rfl) (v := _) (by (intro _ hSw; (try dsimp only at hSw); go_simp; try with_reducible rfl)) hHeld ?_
          simp only [Act.put, List.setIfInBounds_toArray, List.set_cons_zero, List.set_cons_succ]
          refine takeY 4 (some 50) rfl rfl (by kernel_rfl) (by kernel_rfl) (by kernel_rfl) (fun _ _ _ h => h) (by rfl) (v := _) (by (intro _ hSw; (try dsimp only at hSw); go_simp; try with_reducible rfl)) hHeld ?_
          simp only [Act.put, List.setIfInBounds_toArray, List.set_cons_zero, List.set_cons_succ]
          refine takeY 5 (some 51) rfl rfl (by kernel_rfl) (by kernel_rfl) (by kernel_rfl) (fun _ _ _ h => h) (by rfl) (v := _) (by (intro _ hSw; (try dsimp only at hSw); go_simp; try with_reducible rfl)) hHeld ?_
          simp only [Act.put, List.setIfInBounds_toArray, List.set_cons_zero, List.set_cons_succ]
          refine takeY 6 (some 52) rfl rfl (by kernel_rfl) (by kernel_rfl) (by kernel_rfl) (fun _ _ _ h => h) (by rfl) (v := _) (by (intro _ hSw; (try dsimp only at hSw); go_simp; try with_reducible rfl)) hHeld ?_
          simp only [Act.put, List.setIfInBounds_toArray, List.set_cons_zero, List.set_cons_succ]
          refine takeY 7 (some 53) rfl rfl (by kernel_rfl) (by kernel_rfl) (by kernel_rfl) (fun _ _ _ h => h) (by rfl) (v := _) (by (intro _ hSw; (try dsimp only at hSw); go_simp; try with_reducible rfl)) hHeld ?_
          simp only [Act.put, List.setIfInBounds_toArray, List.set_cons_zero, List.set_cons_succ]
          refine takeY 8 (some 54) rfl rfl (by kernel_rfl) (by kernel_rfl) (by kernel_rfl) (fun _ _ _ h => h) (by rfl) (v := _) (by (intro _ hSw; (try dsimp only at hSw); go_simp; try with_reducible rfl)) hHeld ?_
          simp only [Act.put, List.setIfInBounds_toArray, List.set_cons_zero, List.set_cons_succ]
          refine takeY 9 (some 55) rfl rfl (by kernel_rfl) (by kernel_rfl) (by kernel_rfl) (fun _ _ _ h => h) (by rfl) (v := _) (by (intro _ hSw; (try dsimp only at hSw); go_simp; try with_reducible rfl)) hHeld ?_
          simp only [Act.put, List.setIfInBounds_toArray, List.set_cons_zero, List.set_cons_succ]
          refine takeY 10 (some 56) rfl rfl (by kernel_rfl) (by kernel_rfl) (by kernel_rfl) (fun _ _ _ h => h) (by rfl) (v := _) (by (intro _ hSw; (try dsimp only at hSw); go_simp; try with_reducible rfl)) hHeld ?_
          simp only [Act.put, List.setIfInBounds_toArray, List.set_cons_zero, List.set_cons_succ]
          refine takeY 11 (some 57) rfl rfl (by kernel_rfl) (by kernel_rfl) (by kernel_rfl) (fun _ _ _ h => h) (by rfl) (v := _) (by (intro _ hSw; (try dsimp only at hSw); go_simp; try with_reducible rfl)) hHeld ?_
          simp only [Act.put, List.setIfInBounds_toArray, List.set_cons_zero, List.set_cons_succ]
          refine wpAnyH_ready (rs := [12]) (by kernel_rfl) (by simp) ?_
          refine AllReadyH.cons rfl (fun K hK => ?_) AllReadyH.nil
          go_simp
          (try rw [hw4])
          refine hK.out _ _ HK.out.1 (fun hHeld => ?_)
          clear hK K
          refine wpAnyH_done (by kernel_rfl) ?_ _
          clear hHeld
          clear hS2 b0 b1 c0 c1 cf q0 q2 z0 z1' pf hw4 qf
          go_upto_region 8 with fail
          refine wp_region_held_drew (S := (fun W => W.cell? ⟨r, 1, none⟩ = some (.slice (some ⟨q, 0, none⟩) n c) ∧ W.cell? ⟨q, kn * 7 + 5, none⟩ = some (.int .i64 (v : Int)))) (by kernel_rfl) HK.out.2.1 (fun hHeld => ?_)
          refine takeY 0 (some 58) rfl rfl (by kernel_rfl) (by kernel_rfl) (by kernel_rfl) (fun _ _ _ h => h) (by rfl) (v := _) (by (intro _ hSw; (try dsimp only at hSw); go_simp; try with_reducible rfl)) hHeld ?_
          simp only [Act.put, List.setIfInBounds_toArray, List.set_cons_zero, List.set_cons_succ]
          refine takeY 1 (some 59) rfl rfl (by kernel_rfl) (by kernel_rfl) (by kernel_rfl) (fun _ _ _ h => h) (by rfl) (v := _) (by (intro _ hSw; (try dsimp only at hSw); go_simp; try with_reducible rfl)) hHeld ?_
          simp only [Act.put, List.setIfInBounds_toArray, List.set_cons_zero, List.set_cons_succ]
          refine takeY 2 (some 60) rfl rfl (by kernel_rfl) (by kernel_rfl) (by kernel_rfl) (fun _ _ _ h => h) (by rfl) (v := _) (by (intro _ hSw; (try dsimp only at hSw); go_simp; try with_reducible rfl)) hHeld ?_
          simp only [Act.put, List.setIfInBounds_toArray, List.set_cons_zero, List.set_cons_succ]
          refine takeY 3 (some 61) rfl rfl (by kernel_rfl) (by kernel_rfl) (by kernel_rfl) (fun _ _ _ h => h) (by rfl) (v := _) (by (intro _ hSw; (try dsimp only at hSw); go_simp; try with_reducible rfl)) hHeld ?_
          simp only [Act.put, List.setIfInBounds_toArray, List.set_cons_zero, List.set_cons_succ]
          refine takeY 4 (some 62) rfl rfl (by kernel_rfl) (by kernel_rfl) (by kernel_rfl) (fun _ _ _ h => h) (by rfl) (v := _) (by (intro _ hSw; (try dsimp only at hSw); go_simp; try with_reducible rfl)) hHeld ?_
          simp only [Act.put, List.setIfInBounds_toArray, List.set_cons_zero, List.set_cons_succ]
          refine takeY 5 (some 63) rfl rfl (by kernel_rfl) (by kernel_rfl) (by kernel_rfl) (fun _ _ _ h => h) (by rfl) (v := _) (by (intro _ hSw; (try dsimp only at hSw); go_simp; try with_reducible rfl)) hHeld ?_
          simp only [Act.put, List.setIfInBounds_toArray, List.set_cons_zero, List.set_cons_succ]
          refine takeY 6 (some 64) rfl rfl (by kernel_rfl) (by kernel_rfl) (by kernel_rfl) (fun _ _ _ h => h) (by rfl) (v := _) (by (intro _ hSw; (try dsimp only at hSw); go_simp; try with_reducible rfl)) hHeld ?_
          simp only [Act.put, List.setIfInBounds_toArray, List.set_cons_zero, List.set_cons_succ]
          refine takeY 7 (some 65) rfl rfl (by kernel_rfl) (by kernel_rfl) (by kernel_rfl) (fun _ _ _ h => h) (by rfl) (v := _) (by (intro _ hSw; (try dsimp only at hSw); go_simp; try with_reducible rfl)) hHeld ?_
          simp only [Act.put, List.setIfInBounds_toArray, List.set_cons_zero, List.set_cons_succ]
          refine takeY 8 (some 66) rfl rfl (by kernel_rfl) (by kernel_rfl) (by kernel_rfl) (fun _ _ _ h => h) (by rfl) (v := _) (by (intro _ hSw; (try dsimp only at hSw); go_simp; try with_reducible rfl)) hHeld ?_
          simp only [Act.put, List.setIfInBounds_toArray, List.set_cons_zero, List.set_cons_succ]
          refine takeY 9 (some 67) rfl rfl (by kernel_rfl) (by kernel_rfl) (by kernel_rfl) (fun _ _ _ h => h) (by rfl) (v := _) (by (intro _ hSw; (try dsimp only at hSw); go_simp; try with_reducible rfl)) hHeld ?_
          simp only [Act.put, List.setIfInBounds_toArray, List.set_cons_zero, List.set_cons_succ]
          refine takeY 10 (some 68) rfl rfl (by kernel_rfl) (by kernel_rfl) (by kernel_rfl) (fun _ _ _ h => h) (by rfl) (v := _) (by (intro _ hSw; (try dsimp only at hSw); go_simp; try with_reducible rfl)) hHeld ?_
          simp only [Act.put, List.setIfInBounds_toArray, List.set_cons_zero, List.set_cons_succ]
          refine takeY 11 (some 69) rfl rfl (by kernel_rfl) (by kernel_rfl) (by kernel_rfl) (fun _ _ _ h => h) (by rfl) (v := _) (by (intro _ hSw; (try dsimp only at hSw); go_simp; try with_reducible rfl)) hHeld ?_
          simp only [Act.put, List.setIfInBounds_toArray, List.set_cons_zero, List.set_cons_succ]
          refine takeY 12 (some 70) rfl rfl (by kernel_rfl) (by kernel_rfl) (by kernel_rfl) (fun _ _ _ h => h) (by rfl) (v := _) (by (intro _ hSw; (try dsimp only at hSw); go_simp; try with_reducible rfl)) hHeld ?_
          simp only [Act.put, List.setIfInBounds_toArray, List.set_cons_zero, List.set_cons_succ]
          refine takeY 13 (some 71) rfl rfl (by kernel_rfl) (by kernel_rfl) (by kernel_rfl) (fun _ _ _ h => h) (by rfl) (v := _) (by (intro _ hSw; (try dsimp only at hSw); go_simp; try with_reducible rfl)) hHeld ?_
          simp only [Act.put, List.setIfInBounds_toArray, List.set_cons_zero, List.set_cons_succ]
          refine takeY 14 (some 72) rfl rfl (by kernel_rfl) (by kernel_rfl) (by kernel_rfl) (fun _ _ _ h => h) (by rfl) (v := _) (by (intro _ hSw; (try dsimp only at hSw); go_simp; try with_reducible rfl)) hHeld ?_
          simp only [Act.put, List.setIfInBounds_toArray, List.set_cons_zero, List.set_cons_succ]
          refine takeY 15 (some 73) rfl rfl (by kernel_rfl) (by kernel_rfl) (by kernel_rfl) (fun _ _ _ h => h) (by rfl) (v := _) (by (intro _ hSw; (try dsimp only at hSw); go_simp; try with_reducible rfl)) hHeld ?_
          simp only [Act.put, List.setIfInBounds_toArray, List.set_cons_zero, List.set_cons_succ]
          refine wpAnyH_ready (rs := [16]) (by kernel_rfl) (by simp) ?_
          refine AllReadyH.cons rfl (fun K hK => ?_) AllReadyH.nil
          go_simp
          (try rw [hw5])
          refine hK.out _ _ HK.out.2.2 (fun hHeld => ?_)
          clear hK K
          refine wpAnyH_done (by kernel_rfl) ?_ _
          clear hHeld
          clear d5 d6 df hw5
          go_wp2_with fail
          go_ret
          exact ⟨rfl, HF.out⟩
      | true =>
        have d2 := HZ2.out rfl
        clear HZ2
        go_enter Try.func50, Try.ntmps50
        go_wp2_with fail
        refine HW.out.mono ?_
        rintro e w1 ⟨rfl, hb1⟩
        go_upto_region 2 with fail
        obtain ⟨w2, hw2⟩ : ∃ w2, w1.alloc (.cells #[.int .u8 (z1.k : Int), .int .i64 z1.n] 37) = w2 := ⟨_, rfl⟩
        have hb2 : Below w1.heap.size w1 w2 := by rw [← hw2]; exact (Below.refl _ w1).alloc (Nat.le_refl _) _
        have hbw1 := HB.out.1.trans (hb1.mono HB.out.1.size)
        have hbw2 := hbw1.trans (hb2.mono hbw1.size)
        have hB2 := (HB.out.2.below hb1 HB.out.2.lt).below hb2 (Nat.lt_of_lt_of_le HB.out.2.lt hb1.size)
        have b0 := hB2.cell 0
        have b1 := hB2.cell 1
        simp only [List.getElem?_toArray, List.getElem?_cons_zero, List.getElem?_cons_succ] at b0 b1
        rw [hw2]
        have HBW := Lib.hid (And.intro hbw2 hB2)
        clear hw2 hb1 hb2 hbw1 hB2 hbw2 HW
        have HX2 := HX.out.below HBW.out.1
        obtain ⟨kn, n, q, c, T, y, rfl, hxk, hlt, hnc, hTn, hm, hs, hy, s1, s2, s3, s4⟩ := HX2.at_ HOK.out HXX.out.1
        obtain ⟨c0, c1, cf⟩ := hm.told
        obtain ⟨q0, _⟩ := hm.row.told hy
        have qf := hm.row.frozen
        rw [hTn] at c1
        rw [s1] at q0
        obtain ⟨_, _, q2, _⟩ := hm.row.told hy
        obtain ⟨hw5, hwl⟩ := hm.words kn y hy
        rw [s1] at hw5 q2
        obtain ⟨p, zq, hA, hzq, _, _, _, z0, z1', pf⟩ := hw5.at_ (i := j) HXX.out.2.1
        rw [hA] at q2
        obtain ⟨l, hl⟩ : ∃ l, x.o.ws.length = l := ⟨_, rfl⟩
        rw [hl] at q2
        have hjl : j < l := by rw [← hl]; exact HXX.out.2.1
        have HL := Lib.hid hl
        have HM2 := Lib.hid (And.intro hm (And.intro hs (And.intro hy (And.intro hxk (And.intro hnc (And.intro hTn (And.intro s1 (And.intro s2 (And.intro s3 (And.intro s4 hA))))))))))
        clear hm hs hy s1 s2 s3 s4 hxk hnc hTn HX2 hA hzq hw5 hwl hl
        cases kd with
        | false =>
          clear HK2
          go_upto_region 7 with fail
          have hm3 : RM ((w2.setCell ⟨p, j * 2, none⟩ (.int .u8 (z.k : Int))).setCell ⟨p, j * 2 + 1, none⟩ (.int .i64 z.n)).drew r q c R H.limit (T.set kn { y with o := { y.o with ws := y.o.ws.set j z } }) := (HM2.out.1.word HM2.out.2.2.1 HM2.out.2.2.2.2.2.2.2.2.2.2 (i := j) z HZ.out).drew
          obtain ⟨w4, hw4⟩ : ∃ w4, ((w2.setCell ⟨p, j * 2, none⟩ (.int .u8 (z.k : Int))).setCell ⟨p, j * 2 + 1, none⟩ (.int .i64 z.n)).drew = w4 := ⟨_, rfl⟩
          rw [hw4] at hm3
          have hRp : R p = .wd kn := (HM2.out.1.words kn y HM2.out.2.2.1).2 _ HM2.out.2.2.2.2.2.2.2.2.2.2
          have ho4 : Off (fun b => b = p) w2 w4 := by rw [← hw4]; exact (offS (Off.setc _ _ _ _) _ _ _ rfl).trans (Off.drew _ _)
          have hy3 : (T.set kn { y with o := { y.o with ws := y.o.ws.set j z } })[kn]? = some { y with o := { y.o with ws := y.o.ws.set j z } } := List.getElem?_set_self (by rw [HM2.out.2.2.2.2.2.1]; exact hlt)
          obtain ⟨_, d1, _⟩ := hm3.told
          obtain ⟨_, _, d2', _, _, d5, d6⟩ := hm3.row.told hy3
          have df := hm3.row.frozen
          rw [List.length_set, HM2.out.2.2.2.2.2.1] at d1
          dsimp only at d2' d5 d6
          rw [HM2.out.2.2.2.2.2.2.2.2.1] at d5
          rw [HM2.out.2.2.2.2.2.2.2.2.2.2, List.length_set, HM2.out.2.2.2.2.2.2.1, HL.out] at d2'
          have hwp : ¬ w.heap.size = p := fun e => by have h1 := HX.out.lt p (by rw [hRp]; intro e; cases e); omega
          have hB4 := HBW.out.2.off ho4 hwp
          have hS4 : w4.cell? ⟨r, 1, none⟩ = some (.slice (some ⟨q, 0, none⟩) n c) ∧ w4.cell? ⟨q, kn * 7 + 2, none⟩ = some (.slice (some ⟨p, 0, none⟩) l y.c) ∧ w4.cell? ⟨w.heap.size, 0, none⟩ = some (.int .u8 (z.k : Int)) ∧ w4.cell? ⟨w.heap.size, 1, none⟩ = some (.int .i64 z.n) := ⟨d1, d2', hB4.cell 0, hB4.cell 1⟩
          have hS2 : w2.cell? ⟨r, 1, none⟩ = some (.slice (some ⟨q, 0, none⟩) n c) ∧ w2.cell? ⟨q, kn * 7 + 2, none⟩ = some (.slice (some ⟨p, 0, none⟩) l y.c) ∧ w2.cell? ⟨w.heap.size, 0, none⟩ = some (.int .u8 (z.k : Int)) ∧ w2.cell? ⟨w.heap.size, 1, none⟩ = some (.int .i64 z.n) := ⟨c1, q2, b0, b1⟩
          obtain ⟨v, hv⟩ : ∃ v, (H.oidOf (kn : Int)).getD 0 = v := ⟨_, rfl⟩
          rw [hv] at d5
          obtain ⟨bd, hbd⟩ : ∃ bd, decide (0 < v) = bd := ⟨_, rfl⟩
          have hbd2 : bd = (H.oidOf (kn : Int)).isSome := by
            rw [← hbd, ← hv]
            cases ho : H.oidOf (kn : Int) with
            | none => rfl
            | some v' => have := oid_pos HOK.out ho; show decide (0 < v') = true; simp; omega
          have hm5 := hm3.put (x' := { y with o := { y.o with ws := y.o.ws.set j z }, dirty := bd }) (j := 6) (v := .bool bd) hy3 (by omega) rfl rfl rfl rfl
          rw [List.set_set] at hm5
          replace hm5 := hm5.drew
          have hs5 : Says (setH H x j z) (T.set kn { y with o := { y.o with ws := y.o.ws.set j z }, dirty := bd }) := HM2.out.2.1.upd (H' := setH H x j z) (x' := { y with o := { y.o with ws := y.o.ws.set j z }, dirty := bd }) HOK.out HXX.out.1 (y := ⟨x.h, { x.o with ws := x.o.ws.set j z }, (H.oidOf x.h).isSome⟩) rfl rfl rfl (fun j _ => rfl) (by show ({ y.o with ws := y.o.ws.set j z } : Ob) = _; rw [HM2.out.2.2.2.2.2.2.1]) HM2.out.2.2.2.2.2.2.2.1 HM2.out.2.2.2.2.2.2.2.2.1 (by show bd = (H.oidOf (x.h : Int)).isSome; rw [hbd2, HM2.out.2.2.2.1])
          obtain ⟨w5, hw5⟩ : ∃ w5, (w4.setCell ⟨q, kn * 7 + 6, none⟩ (.bool bd)).drew = w5 := ⟨_, rfl⟩
          rw [hw5] at hm5
          have hx5 : (setH H x j z).limit = H.limit := rfl
          have HF : Hid (Stp w w5 r R (setH H x j z)) := Lib.hid (Stp.after HBW.out.1 HX.out.lt (Stp.of_rm (w := w2) (H' := setH H x j z) hm5 hs5 (((ho4.mono fun b _ e => by have e : b = p := e; rw [e, hRp]; intro e; cases e)).trans (by rw [← hw5]; exact ((Off.setc _ _ _ _).mono fun b _ e => by rw [show b = q from e, HM2.out.1.rq]; intro e; cases e).trans (Off.drew _ _)))))
          obtain ⟨d51, d52⟩ : w5.cell? ⟨r, 1, none⟩ = some (.slice (some ⟨q, 0, none⟩) n c) ∧ w5.cell? ⟨q, kn * 7 + 5, none⟩ = some (.int .i64 (v : Int)) := by
            have hy5 : (T.set kn { y with o := { y.o with ws := y.o.ws.set j z }, dirty := bd })[kn]? = some { y with o := { y.o with ws := y.o.ws.set j z }, dirty := bd } := List.getElem?_set_self (by rw [HM2.out.2.2.2.2.2.1]; exact hlt)
            have g1 := hm5.told.2.1
            rw [List.length_set, HM2.out.2.2.2.2.2.1] at g1
            have g5 := (hm5.row.told hy5).2.2.2.2.2.1
            dsimp only at g5
            rw [HM2.out.2.2.2.2.2.2.2.2.1, hv] at g5
            exact ⟨g1, g5⟩
          have HK := Lib.hid (And.intro hS4 (And.intro (And.intro d1 d5) (And.intro d51 d52)))
          clear hm3 hRp hy3 d1 d2' hwp hB4 hm5 hs5 ho4 hv hbd2 hS4 d51 d52 hx5 HM2
          refine wp_region_held_drew (S := (fun W => W.cell? ⟨r, 1, none⟩ = some (.slice (some ⟨q, 0, none⟩) n c) ∧ W.cell? ⟨q, kn * 7 + 2, none⟩ = some (.slice (some ⟨p, 0, none⟩) l y.c) ∧ W.cell? ⟨w.heap.size, 0, none⟩ = some (.int .u8 (z.k : Int)) ∧ W.cell? ⟨w.heap.size, 1, none⟩ = some (.int .i64 z.n))) (by kernel_rfl) hS2 (fun hHeld => ?_)
          refine takeY 0 (some 46) rfl rfl (by kernel_rfl) (by kernel_rfl) (by kernel_rfl) (fun _ _ _ h => h) (by rfl) (v := _) (by (intro _ hSw; (try dsimp only at hSw); go_simp; try with_reducible rfl)) hHeld ?_
          simp only [Act.put, List.setIfInBounds_toArray, List.set_cons_zero, List.set_cons_succ]
          refine takeY 1 (some 47) rfl rfl (by kernel_rfl) (by kernel_rfl) (by kernel_rfl) (fun _ _ _ h => h) (by rfl) (v := _) (by (intro _ hSw; (try dsimp only at hSw); go_simp; try with_reducible rfl)) hHeld ?_
          simp only [Act.put, List.setIfInBounds_toArray, List.set_cons_zero, List.set_cons_succ]
          refine takeY 2 (some 48) rfl rfl (by kernel_rfl) (by kernel_rfl) (by kernel_rfl) (fun _ _ _ h => h) (by rfl) (v := _) (by (intro _ hSw; (try dsimp only at hSw); go_simp; try with_reducible rfl)) hHeld ?_
          simp only [Act.put, List.setIfInBounds_toArray, List.set_cons_zero, List.set_cons_succ]
          refine takeY 3 (some 49) rfl rfl (by kernel_rfl) (by kernel_rfl) (by kernel_rfl) (fun _ _ _ h => h) (by rfl) (v := _) (by (intro _ hSw; (try dsimp only at hSw); go_simp; try with_reducible rfl)) hHeld ?_
          simp only [Act.put, List.setIfInBounds_toArray, List.set_cons_zero, List.set_cons_succ]
          refine takeY 4 (some 50) rfl rfl (by kernel_rfl) (by kernel_rfl) (by kernel_rfl) (fun _ _ _ h => h) (by rfl) (v := _) (by (intro _ hSw; (try dsimp only at hSw); go_simp; try with_reducible rfl)) hHeld ?_
          simp only [Act.put, List.setIfInBounds_toArray, List.set_cons_zero, List.set_cons_succ]
          refine takeY 5 (some 51) rfl rfl (by kernel_rfl) (by kernel_rfl) (by kernel_rfl) (fun _ _ _ h => h) (by rfl) (v := _) (by (intro _ hSw; (try dsimp only at hSw); go_simp; try with_reducible rfl)) hHeld ?_
          simp only [Act.put, List.setIfInBounds_toArray, List.set_cons_zero, List.set_cons_succ]
          refine takeY 6 (some 52) rfl rfl (by kernel_rfl) (by kernel_rfl) (by kernel_rfl) (fun _ _ _ h => h) (by rfl) (v := _) (by (intro _ hSw; (try dsimp only at hSw); go_simp; try with_reducible rfl)) hHeld ?_
          simp only [Act.put, List.setIfInBounds_toArray, List.set_cons_zero, List.set_cons_succ]
          refine takeY 7 (some 53) rfl rfl (by kernel_rfl) (by kernel_rfl) (by kernel_rfl) (fun _ _ _ h => h) (by rfl) (v := _) (by (intro _ hSw; (try dsimp only at hSw); go_simp; try with_reducible rfl)) hHeld ?_
          simp only [Act.put, List.setIfInBounds_toArray, List.set_cons_zero, List.set_cons_succ]
          refine takeY 8 (some 54) rfl rfl (by kernel_rfl) (by kernel_rfl) (by kernel_rfl) (fun _ _ _ h => h) (by rfl) (v := _) (by (intro _ hSw; (try dsimp only at hSw); go_simp; try with_reducible rfl)) hHeld ?_
          simp only [Act.put, List.setIfInBounds_toArray, List.set_cons_zero, List.set_cons_succ]
          refine takeY 9 (some 55) rfl rfl (by kernel_rfl) (by kernel_rfl) (by kernel_rfl) (fun _ _ _ h => h) (by rfl) (v := _) (by (intro _ hSw; (try dsimp only at hSw); go_simp; try with_reducible rfl)) hHeld ?_
          simp only [Act.put, List.setIfInBounds_toArray, List.set_cons_zero, List.set_cons_succ]
          refine takeY 10 (some 56) rfl rfl (by kernel_rfl) (by kernel_rfl) (by kernel_rfl) (fun _ _ _ h => h) (by rfl) (v := _) (by (intro _ hSw; (try dsimp only at hSw); go_simp; try with_reducible rfl)) hHeld ?_
          simp only [Act.put, List.setIfInBounds_toArray, List.set_cons_zero, List.set_cons_succ]
          refine takeY 11 (some 57) rfl rfl (by kernel_rfl) (by kernel_rfl) (by kernel_rfl) (fun _ _ _ h => h) (by rfl) (v := _) (by (intro _ hSw; (try dsimp only at hSw); go_simp; try with_reducible rfl)) hHeld ?_
          simp only [Act.put, List.setIfInBounds_toArray, List.set_cons_zero, List.set_cons_succ]
          refine wpAnyH_ready (rs := [12]) (by kernel_rfl) (by simp) ?_
          refine AllReadyH.cons rfl (fun K hK => ?_) AllReadyH.nil
          go_simp
          (try rw [hw4])
          refine hK.out _ _ HK.out.1 (fun hHeld => ?_)
          clear hK K
          refine wpAnyH_done (by kernel_rfl) ?_ _
          clear hHeld
          clear hS2 b0 b1 c0 c1 cf q0 q2 z0 z1' pf hw4 qf
          go_upto_region 8 with fail
          refine wp_region_held_drew (S := (fun W => W.cell? ⟨r, 1, none⟩ = some (.slice (some ⟨q, 0, none⟩) n c) ∧ W.cell? ⟨q, kn * 7 + 5, none⟩ = some (.int .i64 (v : Int)))) (by kernel_rfl) HK.out.2.1 (fun hHeld => ?_)
          refine takeY 0 (some 58) rfl rfl (by kernel_rfl) (by kernel_rfl) (by kernel_rfl) (fun _ _ _ h => h) (by rfl) (v := _) (by (intro _ hSw; (try dsimp only at hSw); go_simp; try with_reducible rfl)) hHeld ?_
          simp only [Act.put, List.setIfInBounds_toArray, List.set_cons_zero, List.set_cons_succ]
          refine takeY 1 (some 59) rfl rfl (by kernel_rfl) (by kernel_rfl) (by kernel_rfl) (fun _ _ _ h => h) (by rfl) (v := _) (by (intro _ hSw; (try dsimp only at hSw); go_simp; try with_reducible rfl)) hHeld ?_
          simp only [Act.put, List.setIfInBounds_toArray, List.set_cons_zero, List.set_cons_succ]
          refine takeY 2 (some 60) rfl rfl (by kernel_rfl) (by kernel_rfl) (by kernel_rfl) (fun _ _ _ h => h) (by rfl) (v := _) (by (intro _ hSw; (try dsimp only at hSw); go_simp; try with_reducible rfl)) hHeld ?_
          simp only [Act.put, List.setIfInBounds_toArray, List.set_cons_zero, List.set_cons_succ]
          refine takeY 3 (some 61) rfl rfl (by kernel_rfl) (by kernel_rfl) (by kernel_rfl) (fun _ _ _ h => h) (by rfl) (v := _) (by (intro _ hSw; (try dsimp only at hSw); go_simp; try with_reducible rfl)) hHeld ?_
          simp only [Act.put, List.setIfInBounds_toArray, List.set_cons_zero, List.set_cons_succ]
          refine takeY 4 (some 62) rfl rfl (by kernel_rfl) (by kernel_rfl) (by kernel_rfl) (fun _ _ _ h => h) (by rfl) (v := _) (by (intro _ hSw; (try dsimp only at hSw); go_simp; try with_reducible rfl)) hHeld ?_
          simp only [Act.put, List.setIfInBounds_toArray, List.set_cons_zero, List.set_cons_succ]
          refine takeY 5 (some 63) rfl rfl (by kernel_rfl) (by kernel_rfl) (by kernel_rfl) (fun _ _ _ h => h) (by rfl) (v := _) (by (intro _ hSw; (try dsimp only at hSw); go_simp; try with_reducible rfl)) hHeld ?_
          simp only [Act.put, List.setIfInBounds_toArray, List.set_cons_zero, List.set_cons_succ]
          refine takeY 6 (some 64) rfl rfl (by kernel_rfl) (by kernel_rfl) (by kernel_rfl) (fun _ _ _ h => h) (by rfl) (v := _) (by (intro _ hSw; (try dsimp only at hSw); go_simp; try with_reducible rfl)) hHeld ?_
          simp only [Act.put, List.setIfInBounds_toArray, List.set_cons_zero, List.set_cons_succ]
          refine takeY 7 (some 65) rfl rfl (by kernel_rfl) (by kernel_rfl) (by kernel_rfl) (fun _ _ _ h => h) (by rfl) (v := _) (by (intro _ hSw; (try dsimp only at hSw); go_simp; try with_reducible rfl)) hHeld ?_
          simp only [Act.put, List.setIfInBounds_toArray, List.set_cons_zero, List.set_cons_succ]
          refine takeY 8 (some 66) rfl rfl (by kernel_rfl) (by kernel_rfl) (by kernel_rfl) (fun _ _ _ h => h) (by rfl) (v := _) (by (intro _ hSw; (try dsimp only at hSw); go_simp; try with_reducible rfl)) hHeld ?_
          simp only [Act.put, List.setIfInBounds_toArray, List.set_cons_zero, List.set_cons_succ]
          refine takeY 9 (some 67) rfl rfl (by kernel_rfl) (by kernel_rfl) (by kernel_rfl) (fun _ _ _ h => h) (by rfl) (v := _) (by (intro _ hSw; (try dsimp only at hSw); go_simp; try with_reducible rfl)) hHeld ?_
          simp only [Act.put, List.setIfInBounds_toArray, List.set_cons_zero, List.set_cons_succ]
          refine takeY 10 (some 68) rfl rfl (by kernel_rfl) (by kernel_rfl) (by kernel_rfl) (fun _ _ _ h => h) (by rfl) (v := _) (by (intro _ hSw; (try dsimp only at hSw); go_simp; try with_reducible rfl)) hHeld ?_
          simp only [Act.put, List.setIfInBounds_toArray, List.set_cons_zero, List.set_cons_succ]
          refine takeY 11 (some 69) rfl rfl (by kernel_rfl) (by kernel_rfl) (by kernel_rfl) (fun _ _ _ h => h) (by rfl) (v := _) (by (intro _ hSw; (try dsimp only at hSw); go_simp; try with_reducible rfl)) hHeld ?_
          simp only [Act.put, List.setIfInBounds_toArray, List.set_cons_zero, List.set_cons_succ]
          refine takeY 12 (some 70) rfl rfl (by kernel_rfl) (by kernel_rfl) (by kernel_rfl) (fun _ _ _ h => h) (by rfl) (v := _) (by (intro _ hSw; (try dsimp only at hSw); go_simp; try with_reducible rfl)) hHeld ?_
          simp only [Act.put, List.setIfInBounds_toArray, List.set_cons_zero, List.set_cons_succ]
          refine takeY 13 (some 71) rfl rfl (by kernel_rfl) (by kernel_rfl) (by kernel_rfl) (fun _ _ _ h => h) (by rfl) (v := _) (by (intro _ hSw; (try dsimp only at hSw); go_simp; try with_reducible rfl)) hHeld ?_
          simp only [Act.put, List.setIfInBounds_toArray, List.set_cons_zero, List.set_cons_succ]
          refine takeY 14 (some 72) rfl rfl (by kernel_rfl) (by kernel_rfl) (by kernel_rfl) (fun _ _ _ h => h) (by rfl) (v := _) (by (intro _ hSw; (try dsimp only at hSw); go_simp; try with_reducible rfl)) hHeld ?_
          simp only [Act.put, List.setIfInBounds_toArray, List.set_cons_zero, List.set_cons_succ]
          refine takeY 15 (some 73) rfl rfl (by kernel_rfl) (by kernel_rfl) (by kernel_rfl) (fun _ _ _ h => h) (by rfl) (v := _) (by (intro _ hSw; (try dsimp only at hSw); go_simp; try with_reducible rfl)) hHeld ?_
          simp only [Act.put, List.setIfInBounds_toArray, List.set_cons_zero, List.set_cons_succ]
          refine wpAnyH_ready (rs := [16]) (by kernel_rfl) (by simp) ?_
          refine AllReadyH.cons rfl (fun K hK => ?_) AllReadyH.nil
          go_simp
          (try rw [hw5])
          refine hK.out _ _ HK.out.2.2 (fun hHeld => ?_)
          clear hK K
          refine wpAnyH_done (by kernel_rfl) ?_ _
          clear hHeld
          clear d5 d6 df hw5
          go_wp2_with fail
          go_ret
          exact ⟨rfl, HF.out⟩
        | true =>
          have d4 := HK2.out rfl
          clear HK2
          go_upto_region 7 with fail
          have hm3 : RM ((w2.setCell ⟨p, j * 2, none⟩ (.int .u8 (z.k : Int))).setCell ⟨p, j * 2 + 1, none⟩ (.int .i64 z.n)).drew r q c R H.limit (T.set kn { y with o := { y.o with ws := y.o.ws.set j z } }) := (HM2.out.1.word HM2.out.2.2.1 HM2.out.2.2.2.2.2.2.2.2.2.2 (i := j) z HZ.out).drew
          obtain ⟨w4, hw4⟩ : ∃ w4, ((w2.setCell ⟨p, j * 2, none⟩ (.int .u8 (z.k : Int))).setCell ⟨p, j * 2 + 1, none⟩ (.int .i64 z.n)).drew = w4 := ⟨_, rfl⟩
          rw [hw4] at hm3
          have hRp : R p = .wd kn := (HM2.out.1.words kn y HM2.out.2.2.1).2 _ HM2.out.2.2.2.2.2.2.2.2.2.2
          have ho4 : Off (fun b => b = p) w2 w4 := by rw [← hw4]; exact (offS (Off.setc _ _ _ _) _ _ _ rfl).trans (Off.drew _ _)
          have hy3 : (T.set kn { y with o := { y.o with ws := y.o.ws.set j z } })[kn]? = some { y with o := { y.o with ws := y.o.ws.set j z } } := List.getElem?_set_self (by rw [HM2.out.2.2.2.2.2.1]; exact hlt)
          obtain ⟨_, d1, _⟩ := hm3.told
          obtain ⟨_, _, d2', _, _, d5, d6⟩ := hm3.row.told hy3
          have df := hm3.row.frozen
          rw [List.length_set, HM2.out.2.2.2.2.2.1] at d1
          dsimp only at d2' d5 d6
          rw [HM2.out.2.2.2.2.2.2.2.2.1] at d5
          rw [HM2.out.2.2.2.2.2.2.2.2.2.2, List.length_set, HM2.out.2.2.2.2.2.2.1, HL.out] at d2'
          have hwp : ¬ w.heap.size = p := fun e => by have h1 := HX.out.lt p (by rw [hRp]; intro e; cases e); omega
          have hB4 := HBW.out.2.off ho4 hwp
          have hS4 : w4.cell? ⟨r, 1, none⟩ = some (.slice (some ⟨q, 0, none⟩) n c) ∧ w4.cell? ⟨q, kn * 7 + 2, none⟩ = some (.slice (some ⟨p, 0, none⟩) l y.c) ∧ w4.cell? ⟨w.heap.size, 0, none⟩ = some (.int .u8 (z.k : Int)) ∧ w4.cell? ⟨w.heap.size, 1, none⟩ = some (.int .i64 z.n) := ⟨d1, d2', hB4.cell 0, hB4.cell 1⟩
          have hS2 : w2.cell? ⟨r, 1, none⟩ = some (.slice (some ⟨q, 0, none⟩) n c) ∧ w2.cell? ⟨q, kn * 7 + 2, none⟩ = some (.slice (some ⟨p, 0, none⟩) l y.c) ∧ w2.cell? ⟨w.heap.size, 0, none⟩ = some (.int .u8 (z.k : Int)) ∧ w2.cell? ⟨w.heap.size, 1, none⟩ = some (.int .i64 z.n) := ⟨c1, q2, b0, b1⟩
          obtain ⟨v, hv⟩ : ∃ v, (H.oidOf (kn : Int)).getD 0 = v := ⟨_, rfl⟩
          rw [hv] at d5
          obtain ⟨bd, hbd⟩ : ∃ bd, decide (0 < v) = bd := ⟨_, rfl⟩
          have hbd2 : bd = (H.oidOf (kn : Int)).isSome := by
            rw [← hbd, ← hv]
            cases ho : H.oidOf (kn : Int) with
            | none => rfl
            | some v' => have := oid_pos HOK.out ho; show decide (0 < v') = true; simp; omega
          have hm5 := hm3.put (x' := { y with o := { y.o with ws := y.o.ws.set j z }, dirty := bd }) (j := 6) (v := .bool bd) hy3 (by omega) rfl rfl rfl rfl
          rw [List.set_set] at hm5
          replace hm5 := hm5.drew
          have hs5 : Says (setH H x j z) (T.set kn { y with o := { y.o with ws := y.o.ws.set j z }, dirty := bd }) := HM2.out.2.1.upd (H' := setH H x j z) (x' := { y with o := { y.o with ws := y.o.ws.set j z }, dirty := bd }) HOK.out HXX.out.1 (y := ⟨x.h, { x.o with ws := x.o.ws.set j z }, (H.oidOf x.h).isSome⟩) rfl rfl rfl (fun j _ => rfl) (by show ({ y.o with ws := y.o.ws.set j z } : Ob) = _; rw [HM2.out.2.2.2.2.2.2.1]) HM2.out.2.2.2.2.2.2.2.1 HM2.out.2.2.2.2.2.2.2.2.1 (by show bd = (H.oidOf (x.h : Int)).isSome; rw [hbd2, HM2.out.2.2.2.1])
          obtain ⟨w5, hw5⟩ : ∃ w5, (w4.setCell ⟨q, kn * 7 + 6, none⟩ (.bool bd)).drew = w5 := ⟨_, rfl⟩
          rw [hw5] at hm5
          have hx5 : (setH H x j z).limit = H.limit := rfl
          have HF : Hid (Stp w w5 r R (setH H x j z)) := Lib.hid (Stp.after HBW.out.1 HX.out.lt (Stp.of_rm (w := w2) (H' := setH H x j z) hm5 hs5 (((ho4.mono fun b _ e => by have e : b = p := e; rw [e, hRp]; intro e; cases e)).trans (by rw [← hw5]; exact ((Off.setc _ _ _ _).mono fun b _ e => by rw [show b = q from e, HM2.out.1.rq]; intro e; cases e).trans (Off.drew _ _)))))
          obtain ⟨d51, d52⟩ : w5.cell? ⟨r, 1, none⟩ = some (.slice (some ⟨q, 0, none⟩) n c) ∧ w5.cell? ⟨q, kn * 7 + 5, none⟩ = some (.int .i64 (v : Int)) := by
            have hy5 : (T.set kn { y with o := { y.o with ws := y.o.ws.set j z }, dirty := bd })[kn]? = some { y with o := { y.o with ws := y.o.ws.set j z }, dirty := bd } := List.getElem?_set_self (by rw [HM2.out.2.2.2.2.2.1]; exact hlt)
            have g1 := hm5.told.2.1
            rw [List.length_set, HM2.out.2.2.2.2.2.1] at g1
            have g5 := (hm5.row.told hy5).2.2.2.2.2.1
            dsimp only at g5
            rw [HM2.out.2.2.2.2.2.2.2.2.1, hv] at g5
            exact ⟨g1, g5⟩
          have HK := Lib.hid (And.intro hS4 (And.intro (And.intro d1 d5) (And.intro d51 d52)))
          clear hm3 hRp hy3 d1 d2' hwp hB4 hm5 hs5 ho4 hv hbd2 hS4 d51 d52 hx5 HM2
          refine wp_region_held_drew (S := (fun W => W.cell? ⟨r, 1, none⟩ = some (.slice (some ⟨q, 0, none⟩) n c) ∧ W.cell? ⟨q, kn * 7 + 2, none⟩ = some (.slice (some ⟨p, 0, none⟩) l y.c) ∧ W.cell? ⟨w.heap.size, 0, none⟩ = some (.int .u8 (z.k : Int)) ∧ W.cell? ⟨w.heap.size, 1, none⟩ = some (.int .i64 z.n))) (by kernel_rfl) hS2 (fun hHeld => ?_)
          refine takeY 0 (some 46) rfl rfl (by kernel_rfl) (by kernel_rfl) (by kernel_rfl) (fun _ _ _ h => h) (by rfl) (v := _) (by (intro _ hSw; (try dsimp only at hSw); go_simp; try with_reducible rfl)) hHeld ?_
          simp only [Act.put, List.setIfInBounds_toArray, List.set_cons_zero, List.set_cons_succ]
          refine takeY 1 (some 47) rfl rfl (by kernel_rfl) (by kernel_rfl) (by kernel_rfl) (fun _ _ _ h => h) (by rfl) (v := _) (by (intro _ hSw; (try dsimp only at hSw); go_simp; try with_reducible rfl)) hHeld ?_
          simp only [Act.put, List.setIfInBounds_toArray, List.set_cons_zero, List.set_cons_succ]
          refine takeY 2 (some 48) rfl rfl (by kernel_rfl) (by kernel_rfl) (by kernel_rfl) (fun _ _ _ h => h) (by rfl) (v := _) (by (intro _ hSw; (try dsimp only at hSw); go_simp; try with_reducible rfl)) hHeld ?_
          simp only [Act.put, List.setIfInBounds_toArray, List.set_cons_zero, List.set_cons_succ]
          refine takeY 3 (some 49) rfl rfl (by kernel_rfl) (by kernel_rfl) (by kernel_rfl) (fun _ _ _ h => h) (by rfl) (v := _) (by (intro _ hSw; (try dsimp only at hSw); go_simp; try with_reducible rfl)) hHeld ?_
          simp only [Act.put, List.setIfInBounds_toArray, List.set_cons_zero, List.set_cons_succ]
          refine takeY 4 (some 50) rfl rfl (by kernel_rfl) (by kernel_rfl) (by kernel_rfl) (fun _ _ _ h => h) (by rfl) (v := _) (by (intro _ hSw; (try dsimp only at hSw); go_simp; try with_reducible rfl)) hHeld ?_
          simp only [Act.put, List.setIfInBounds_toArray, List.set_cons_zero, List.set_cons_succ]
          refine takeY 5 (some 51) rfl rfl (by kernel_rfl) (by kernel_rfl) (by kernel_rfl) (fun _ _ _ h => h) (by rfl) (v := _) (by (intro _ hSw; (try dsimp only at hSw); go_simp; try with_reducible rfl)) hHeld ?_
          simp only [Act.put, List.setIfInBounds_toArray, List.set_cons_zero, List.set_cons_succ]
          refine takeY 6 (some 52) rfl rfl (by kernel_rfl) (by kernel_rfl) (by kernel_rfl) (fun _ _ _ h => h) (by rfl) (v := _) (by (intro _ hSw; (try dsimp only at hSw); go_simp; try with_reducible rfl)) hHeld ?_
          simp only [Act.put, List.setIfInBounds_toArray, List.set_cons_zero, List.set_cons_succ]
          refine takeY 7 (some 53) rfl rfl (by kernel_rfl) (by kernel_rfl) (by kernel_rfl) (fun _ _ _ h => h) (by rfl) (v := _) (by (intro _ hSw; (try dsimp only at hSw); go_simp; try with_reducible rfl)) hHeld ?_
          simp only [Act.put, List.setIfInBounds_toArray, List.set_cons_zero, List.set_cons_succ]
          refine takeY 8 (some 54) rfl rfl (by kernel_rfl) (by kernel_rfl) (by kernel_rfl) (fun _ _ _ h => h) (by rfl) (v := _) (by (intro _ hSw; (try dsimp only at hSw); go_simp; try with_reducible rfl)) hHeld ?_
          simp only [Act.put, List.setIfInBounds_toArray, List.set_cons_zero, List.set_cons_succ]
          refine takeY 9 (some 55) rfl rfl (by kernel_rfl) (by kernel_rfl) (by kernel_rfl) (fun _ _ _ h => h) (by rfl) (v := _) (by (intro _ hSw; (try dsimp only at hSw); go_simp; try with_reducible rfl)) hHeld ?_
          simp only [Act.put, List.setIfInBounds_toArray, List.set_cons_zero, List.set_cons_succ]
          refine takeY 10 (some 56) rfl rfl (by kernel_rfl) (by kernel_rfl) (by kernel_rfl) (fun _ _ _ h => h) (by rfl) (v := _) (by (intro _ hSw; (try dsimp only at hSw); go_simp; try with_reducible rfl)) hHeld ?_
          simp only [Act.put, List.setIfInBounds_toArray, List.set_cons_zero, List.set_cons_succ]
          refine takeY 11 (some 57) rfl rfl (by kernel_rfl) (by kernel_rfl) (by kernel_rfl) (fun _ _ _ h => h) (by rfl) (v := _) (by (intro _ hSw; (try dsimp only at hSw); go_simp; try with_reducible rfl)) hHeld ?_
          simp only [Act.put, List.setIfInBounds_toArray, List.set_cons_zero, List.set_cons_succ]
          refine wpAnyH_ready (rs := [12]) (by kernel_rfl) (by simp) ?_
          refine AllReadyH.cons rfl (fun K hK => ?_) AllReadyH.nil
          go_simp
          (try rw [hw4])
          refine hK.out _ _ HK.out.1 (fun hHeld => ?_)
          clear hK K
          refine wpAnyH_done (by kernel_rfl) ?_ _
          clear hHeld
          clear hS2 b0 b1 c0 c1 cf q0 q2 z0 z1' pf hw4 qf
          go_upto_region 8 with fail
          refine wp_region_held_drew (S := (fun W => W.cell? ⟨r, 1, none⟩ = some (.slice (some ⟨q, 0, none⟩) n c) ∧ W.cell? ⟨q, kn * 7 + 5, none⟩ = some (.int .i64 (v : Int)))) (by kernel_rfl) HK.out.2.1 (fun hHeld => ?_)
          refine takeY 0 (some 58) rfl rfl (by kernel_rfl) (by kernel_rfl) (by kernel_rfl) (fun _ _ _ h => h) (by rfl) (v := _) (by (intro _ hSw; (try dsimp only at hSw); go_simp; try with_reducible rfl)) hHeld ?_
          simp only [Act.put, List.setIfInBounds_toArray, List.set_cons_zero, List.set_cons_succ]
          refine takeY 1 (some 59) rfl rfl (by kernel_rfl) (by kernel_rfl) (by kernel_rfl) (fun _ _ _ h => h) (by rfl) (v := _) (by (intro _ hSw; (try dsimp only at hSw); go_simp; try with_reducible rfl)) hHeld ?_
          simp only [Act.put, List.setIfInBounds_toArray, List.set_cons_zero, List.set_cons_succ]
          refine takeY 2 (some 60) rfl rfl (by kernel_rfl) (by kernel_rfl) (by kernel_rfl) (fun _ _ _ h => h) (by rfl) (v := _) (by (intro _ hSw; (try dsimp only at hSw); go_simp; try with_reducible rfl)) hHeld ?_
          simp only [Act.put, List.setIfInBounds_toArray, List.set_cons_zero, List.set_cons_succ]
          refine takeY 3 (some 61) rfl rfl (by kernel_rfl) (by kernel_rfl) (by kernel_rfl) (fun _ _ _ h => h) (by rfl) (v := _) (by (intro _ hSw; (try dsimp only at hSw); go_simp; try with_reducible rfl)) hHeld ?_
          simp only [Act.put, List.setIfInBounds_toArray, List.set_cons_zero, List.set_cons_succ]
          refine takeY 4 (some 62) rfl rfl (by kernel_rfl) (by kernel_rfl) (by kernel_rfl) (fun _ _ _ h => h) (by rfl) (v := _) (by (intro _ hSw; (try dsimp only at hSw); go_simp; try with_reducible rfl)) hHeld ?_
          simp only [Act.put, List.setIfInBounds_toArray, List.set_cons_zero, List.set_cons_succ]
          refine takeY 5 (some 63) rfl rfl (by kernel_rfl) (by kernel_rfl) (by kernel_rfl) (fun _ _ _ h => h) (by rfl) (v := _) (by (intro _ hSw; (try dsimp only at hSw); go_simp; try with_reducible rfl)) hHeld ?_
          simp only [Act.put, List.setIfInBounds_toArray, List.set_cons_zero, List.set_cons_succ]
          refine takeY 6 (some 64) rfl rfl (by kernel_rfl) (by kernel_rfl) (by kernel_rfl) (fun _ _ _ h => h) (by rfl) (v := _) (by (intro _ hSw; (try dsimp only at hSw); go_simp; try with_reducible rfl)) hHeld ?_
          simp only [Act.put, List.setIfInBounds_toArray, List.set_cons_zero, List.set_cons_succ]
          refine takeY 7 (some 65) rfl rfl (by kernel_rfl) (by kernel_rfl) (by kernel_rfl) (fun _ _ _ h => h) (by rfl) (v := _) (by (intro _ hSw; (try dsimp only at hSw); go_simp; try with_reducible rfl)) hHeld ?_
          simp only [Act.put, List.setIfInBounds_toArray, List.set_cons_zero, List.set_cons_succ]
          refine takeY 8 (some 66) rfl rfl (by kernel_rfl) (by kernel_rfl) (by kernel_rfl) (fun _ _ _ h => h) (by rfl) (v := _) (by (intro _ hSw; (try dsimp only at hSw); go_simp; try with_reducible rfl)) hHeld ?_
          simp only [Act.put, List.setIfInBounds_toArray, List.set_cons_zero, List.set_cons_succ]
          refine takeY 9 (some 67) rfl rfl (by kernel_rfl) (by kernel_rfl) (by kernel_rfl) (fun _ _ _ h => h) (by rfl) (v := _) (by (intro _ hSw; (try dsimp only at hSw); go_simp; try with_reducible rfl)) hHeld ?_
          simp only [Act.put, List.setIfInBounds_toArray, List.set_cons_zero, List.set_cons_succ]
          refine takeY 10 (some 68) rfl rfl (by kernel_rfl) (by kernel_rfl) (by kernel_rfl) (fun _ _ _ h => h) (by rfl) (v := _) (by (intro _ hSw; (try dsimp only at hSw); go_simp; try with_reducible rfl)) hHeld ?_
          simp only [Act.put, List.setIfInBounds_toArray, List.set_cons_zero, List.set_cons_succ]
          refine takeY 11 (some 69) rfl rfl (by kernel_rfl) (by kernel_rfl) (by kernel_rfl) (fun _ _ _ h => h) (by rfl) (v := _) (by (intro _ hSw; (try dsimp only at hSw); go_simp; try with_reducible rfl)) hHeld ?_
          simp only [Act.put, List.setIfInBounds_toArray, List.set_cons_zero, List.set_cons_succ]
          refine takeY 12 (some 70) rfl rfl (by kernel_rfl) (by kernel_rfl) (by kernel_rfl) (fun _ _ _ h => h) (by rfl) (v := _) (by (intro _ hSw; (try dsimp only at hSw); go_simp; try with_reducible rfl)) hHeld ?_
          simp only [Act.put, List.setIfInBounds_toArray, List.set_cons_zero, List.set_cons_succ]
          refine takeY 13 (some 71) rfl rfl (by kernel_rfl) (by kernel_rfl) (by kernel_rfl) (fun _ _ _ h => h) (by rfl) (v := _) (by (intro _ hSw; (try dsimp only at hSw); go_simp; try with_reducible rfl)) hHeld ?_
          simp only [Act.put, List.setIfInBounds_toArray, List.set_cons_zero, List.set_cons_succ]
          refine takeY 14 (some 72) rfl rfl (by kernel_rfl) (by kernel_rfl) (by kernel_rfl) (fun _ _ _ h => h) (by rfl) (v := _) (by (intro _ hSw; (try dsimp only at hSw); go_simp; try with_reducible rfl)) hHeld ?_
          simp only [Act.put, List.setIfInBounds_toArray, List.set_cons_zero, List.set_cons_succ]
          refine takeY 15 (some 73) rfl rfl (by kernel_rfl) (by kernel_rfl) (by kernel_rfl) (fun _ _ _ h => h) (by rfl) (v := _) (by (intro _ hSw; (try dsimp only at hSw); go_simp; try with_reducible rfl)) hHeld ?_
          simp only [Act.put, List.setIfInBounds_toArray, List.set_cons_zero, List.set_cons_succ]
          refine wpAnyH_ready (rs := [16]) (by kernel_rfl) (by simp) ?_
          refine AllReadyH.cons rfl (fun K hK => ?_) AllReadyH.nil
          go_simp
          (try rw [hw5])
          refine hK.out _ _ HK.out.2.2 (fun hHeld => ?_)
          clear hK K
          refine wpAnyH_done (by kernel_rfl) ?_ _
          clear hHeld
          clear d5 d6 df hw5
          go_wp2_with fail
          go_ret
          exact ⟨rfl, HF.out⟩

end
end Go.Proofs.Ytclkkfffecmjnaa
namespace Go.Proofs.Ytclkkfffecmjnaa
open Go.RowKit
set_option linter.unusedVariables false
set_option linter.unusedSimpArgs false
attribute [local go_sem] Oper.semAt_some
theorem step_app {P : Program} {ops : Array Oper} {o : Oper} {a : Act} {w : World} {K : Act → World → Prop} {Q : Exit → Act → World → Prop} {E : Prop} (hg : o.guard = none) (s x : Operand) (t : TypeId)
    (hop : o.op = Op.call { callee := Callee.builtin Builtin.append, args := #[s, x], argTypes := #[t, t] }) (v xv v' : Value) (w' : World) (hs : a.eval s = v) (hx : a.eval x = xv)
    (hrun : (Builtin.append_ #[t, t] o.type #[v, xv]).run P w = .ok v' w') (hK : K (a.put o.dst v') w') : if Region.wanted o (yielded ops a.tmps) = true then Oper.wp P o a w K Q else E := by
  rw [if_pos (show Region.wanted o (yielded ops a.tmps) = true by simp [Region.wanted, hg])]
  unfold Oper.wp execOp
  simp only [hop, resolve, invoke, builtin, Sem.run_bind, Sem.run_pure, Result.andThen_ok, List.map_toArray, List.map_cons, List.map_nil, hs, hx, hrun]
  exact hK
section
variable {w w' : World} {r t : Nat} {R : Nat → Lab} {H : HS}
set_option maxRecDepth 20000 in
set_option maxHeartbeats 8000000 in
theorem ralloc_any (h : RX w r R H) (hok : H.Ok t) (hcn : H.count ≤ 100000) (o : Ob) (A : Option Addr) (c : Nat) (ho : OArg w o A) :
    Calls Try.prog 47 #[.pointer (some ⟨r, 0, none⟩), obv o A c] w fun e w' => e = .returned (.tuple #[.int .i64 ((allocF H o).2.1 : Int), .int .i64 ((allocF H o).2.2 : Int)]) ∧ Stp w w' r R (allocF H o).1 := by
  have hb := (Below.refl w.heap.size w).alloc (Nat.le_refl _) (obc o A c)
  have hB := Blk.new w 35 #[.int .u8 (o.k : Int), .int .i64 o.tag, .slice A o.ws.length c, .string (str o.t)]
  have H1 := refmay_any o A c _ (ho.below hb)
  obtain ⟨sz, hsz⟩ : ∃ s, Hp.sizeO o = s := ⟨_, rfl⟩
  have hszb : 1 ≤ sz ∧ sz ≤ 200000 := by
    rw [← hsz]
    have := ho.small
    refine ⟨Hp.sizeO_pos o, ?_⟩
    unfold Hp.sizeO
    have h1 := this.1
    have h2 := this.2.1
    split <;> omega
  have hroom := hok.room
  have HSZ0 := fun W => rsize_any o A c W ho.small
  obtain ⟨lim, hlim⟩ : ∃ s, H.limit = s := ⟨_, rfl⟩
  obtain ⟨us, hus⟩ : ∃ s, H.used = s := ⟨_, rfl⟩
  obtain ⟨ol, hol⟩ : ∃ s, o.ws.length = s := ⟨_, rfl⟩
  have hub : us ≤ lim ∧ 1 ≤ lim ∧ lim ≤ 16777216 := by rw [← hus, ← hlim]; exact hroom
  rw [hsz, hol] at HSZ0
  have HSZ := Lib.hid HSZ0
  have HN := Lib.hid (And.intro hsz (And.intro hlim (And.intro hus hol)))
  have HOK := Lib.hid (And.intro hok hcn)
  clear HSZ0 hroom
  obtain ⟨m, hmm⟩ : ∃ m, Hp.mayO o = m := ⟨_, rfl⟩
  rw [hmm] at H1
  have hrs : obv o A c = .agg #[.int .u8 (o.k : Int), .int .i64 o.tag, .slice A ol c, .string (str o.t)] := by rw [← hol]
  have hrs2 : obc o A c = .cells #[.int .u8 (o.k : Int), .int .i64 o.tag, .slice A ol c, .string (str o.t)] 35 := by rw [← hol]
  rw [hrs2] at hb H1
  rw [hol] at hB H1
  rw [hrs]
  replace H1 := Lib.hid H1
  have HX := Lib.hid h
  have HB := Lib.hid (And.intro hb (And.intro hB ho))
  have HMM := Lib.hid hmm
  have hszw : (w.alloc (.cells #[.int .u8 (o.k : Int), .int .i64 o.tag, .slice A ol c, .string (str o.t)] 35)).heap.size = w.heap.size + 1 := by simp
  have HSW := Lib.hid hszw
  obtain ⟨b8, hb8⟩ : ∃ b, ((o.k : Int) == 8) = b := ⟨_, rfl⟩
  clear hb hB ho h hok hcn hsz hlim hus hol hmm hrs hrs2 hszw
  obtain ⟨AF, hAF⟩ : ∃ AF, allocF H o = AF := ⟨_, rfl⟩
  rw [hAF]
  have HAF := Lib.hid hAF
  clear hAF
  go_enter Try.func47, Try.ntmps47
  go_wp2_with fail
  refine H1.out.mono ?_
  rintro e w1 ⟨rfl, hb1⟩
  obtain ⟨hb, hB, ho⟩ := HB.out
  have hbw1 := hb.trans (hb1.mono hb.size)
  have hB1 := hB.below hb1 hB.lt
  have b0 := hB1.cell 0
  have b1 := hB1.cell 1
  have b2 := hB1.cell 2
  have b3 := hB1.cell 3
  simp only [List.getElem?_toArray, List.getElem?_cons_zero, List.getElem?_cons_succ] at b0 b1 b2 b3
  have HC0 := copyobj_any o A c w1 ho.small.1 (ho.words.below hbw1)
  rw [HN.out.2.2.2] at HC0
  have HC := Lib.hid HC0
  have HB1 := Lib.hid (And.intro hbw1 hB1)
  have hs1 := hb1.size
  rw [HSW.out] at hs1
  clear hb hB ho hb1 hbw1 hB1 HC0 H1
  cases m with
  | false =>
    have e : allocF H o = (H, 0, 1) := by unfold allocF; rw [if_pos HMM.out]
    have HE := Lib.hid (HAF.out.symm.trans e)
    clear e
    go_wp2_with fail
    go_ret2
    rw [HE.out]
    exact ⟨rfl, Stp.of_below HX.out HB1.out.1⟩
  | true =>
    have HMAY2 : Hid (Hp.mayO o = true) := HMM
    go_wp2_with fail
    refine HC.out.mono ?_
    rintro e w2 ⟨v, A', c', rfl, hv, hb2⟩
    obtain ⟨rfl, hrow⟩ := hv
    go_upto_region 4 with fail
    rw [HN.out.2.2.2]
    obtain ⟨x0, hx0⟩ : ∃ x0, w2.heap.size = x0 := ⟨_, rfl⟩
    obtain ⟨w3, hw3⟩ : ∃ w3, w2.alloc (.cells #[.int .u8 (o.k : Int), .int .i64 o.tag, .slice A' ol c', .string (str o.t), .bool true, .int .i64 0, .bool false] 86) = w3 := ⟨_, rfl⟩
    have hB3 : Blk w3 x0 86 (tgC ⟨o, true, 0, false, A', c'⟩).toArray := by
      rw [← hw3, ← HN.out.2.2.2, ← hx0]
      exact Blk.new w2 _ _
    have hb3 : Below w2.heap.size w2 w3 := by
      rw [← hw3]
      exact (Below.refl _ w2).alloc (Nat.le_refl _) _
    rw [hw3, hx0]
    have hb12 := hb2.trans (hb3.mono hb2.size)
    have hbw3 := HB1.out.1.trans (hb12.mono HB1.out.1.size)
    have hO3 := HB1.out.2.below hb12 HB1.out.2.lt
    have hrow3 := hrow.below hb3
    have hX3 := HX.out.below hbw3
    have HX0 : Hid (w.heap.size < x0) := Lib.hid (by have := hb2.size; omega)
    have HXA : Hid (∀ p : Addr, A' = some p → p.block ≠ x0) := Lib.hid fun p hp e => by have := (hrow.blk p hp).2.2.2; omega
    have HSZW : Hid (w.heap.size ≤ w1.heap.size + 3) := Lib.hid (by omega)
    have b0 := hO3.cell 0
    have b1 := hO3.cell 1
    have b2 := hO3.cell 2
    have b3 := hO3.cell 3
    simp only [List.getElem?_toArray, List.getElem?_cons_zero, List.getElem?_cons_succ] at b0 b1 b2 b3
    have HB3 := Lib.hid hB3
    have HO3 := Lib.hid hO3
    have HROW3 := Lib.hid hrow3
    have HX3 := Lib.hid hX3
    have HBW3 := Lib.hid hbw3
    clear hb2 hb3 hrow hw3 hx0 hB3 hO3 hrow3 hX3 hbw3 hb12 HC
    cases b8 with
    | false =>
      have h8 : ¬ o.k = 8 := by simp at hb8; omega
      have HMAY : Hid (¬ Hp.mayO o = false ∧ ¬ (o.k = 8 ∧ (H.ofOid o.tag).isSome = true)) := Lib.hid ⟨by rw [HMM.out]; simp, fun e => h8 e.1⟩
      have HOID : Hid (((0 : Nat) : Int) = if o.k = 8 then o.tag else 0) := Lib.hid (by rw [if_neg h8]; rfl)
      have HB4 := HB3
      have HO4 := HO3
      have HROW4 := HROW3
      have HX4 := HX3
      have HBW4 := HBW3
      clear h8
      go_upto_region 9 with fail
      have hS0 : w3.cell? ⟨w.heap.size, 0, none⟩ = some (.int .u8 (o.k : Int)) ∧ w3.cell? ⟨w.heap.size, 1, none⟩ = some (.int .i64 o.tag) ∧ w3.cell? ⟨w.heap.size, 2, none⟩ = some (.slice A ol c) ∧ w3.cell? ⟨w.heap.size, 3, none⟩ = some (.string (str o.t)) ∧ w3.cell? ⟨r, 0, none⟩ = some (.int .i64 (lim : Int)) := by
        have h4 := HX4.out
        obtain ⟨q, cq, T, hm, _⟩ := h4
        have := hm.told.1
        rw [HN.out.2.1] at this
        exact ⟨HO4.out.cell 0, HO4.out.cell 1, HO4.out.cell 2, HO4.out.cell 3, this⟩
      have HU : Hid (Calls Try.prog 19 #[.pointer (some ⟨r, 0, none⟩)] w3.drew fun e w' => e = .returned (.int .i64 (us : Int)) ∧ Below w3.heap.size w3 w') := Lib.hid (by
        have h5 := rused_rx (HX4.out.keep (w' := w3.drew) (Nat.le_refl _) fun _ _ => rfl) HOK.out.1 HOK.out.2
        rw [HN.out.2.2.1] at h5
        refine h5.mono ?_
        rintro e w' ⟨rfl, hb⟩
        exact ⟨rfl, (Below.refl _ w3).drew.trans hb⟩)
      by_cases hfull : lim - us < sz
      · have hd : decide ((us : Int) + (sz : Int) > (lim : Int)) = true := by simp; omega
        have hd2 : decide ((lim : Int) < (us : Int) + (sz : Int)) = true := by simp; omega
        have hd3 : decide ((lim : Int) < IntKind.i64.wrap ((us : Int) + (sz : Int))) = true := by rw [IntWalk.i64_in _ (by omega)]; exact hd2
        refine wp_region_held_drew (S := (fun W => W.cell? ⟨w.heap.size, 0, none⟩ = some (.int .u8 (o.k : Int)) ∧ W.cell? ⟨w.heap.size, 1, none⟩ = some (.int .i64 o.tag) ∧ W.cell? ⟨w.heap.size, 2, none⟩ = some (.slice A ol c) ∧ W.cell? ⟨w.heap.size, 3, none⟩ = some (.string (str o.t)) ∧ W.cell? ⟨r, 0, none⟩ = some (.int .i64 (lim : Int)))) (by kernel_rfl) hS0 (fun hHeld => ?_)
        refine takeY 0 (some 29) rfl rfl (by kernel_rfl) (by kernel_rfl) (by kernel_rfl) (fun _ _ _ h => h) (by rfl) (v := _) (by (intro _ hSw; (try dsimp only at hSw); go_simp; try with_reducible rfl)) hHeld ?_
        simp only [Act.put, List.setIfInBounds_toArray, List.set_cons_zero, List.set_cons_succ]
        refine takeY 5 (some 34) rfl rfl (by kernel_rfl) (by kernel_rfl) (by kernel_rfl) (fun _ _ _ h => h) (by rfl) (v := _) (by (intro _ hSw; (try dsimp only at hSw); go_simp; try with_reducible rfl)) hHeld ?_
        simp only [Act.put, List.setIfInBounds_toArray, List.set_cons_zero, List.set_cons_succ]
        refine takeY 2 (some 31) rfl rfl (by kernel_rfl) (by kernel_rfl) (by kernel_rfl) (fun _ _ _ h => h) (by rfl) (v := _) (by (intro _ hSw; (try dsimp only at hSw); go_simp; try with_reducible rfl)) hHeld ?_
        simp only [Act.put, List.setIfInBounds_toArray, List.set_cons_zero, List.set_cons_succ]
        refine takeY 6 (some 35) rfl rfl (by kernel_rfl) (by kernel_rfl) (by kernel_rfl) (fun _ _ _ h => h) (by rfl) (v := _) (by (intro _ hSw; (try dsimp only at hSw); go_simp; try with_reducible rfl)) hHeld ?_
        simp only [Act.put, List.setIfInBounds_toArray, List.set_cons_zero, List.set_cons_succ]
        refine takeY 7 (some 36) rfl rfl (by kernel_rfl) (by kernel_rfl) (by kernel_rfl) (fun _ _ _ h => h) (by rfl) (v := _) (by (intro _ hSw; (try dsimp only at hSw); go_simp; try with_reducible rfl)) hHeld ?_
        simp only [Act.put, List.setIfInBounds_toArray, List.set_cons_zero, List.set_cons_succ]
        refine takeY 8 (some 37) rfl rfl (by kernel_rfl) (by kernel_rfl) (by kernel_rfl) (fun _ _ _ h => h) (by rfl) (v := _) (by (intro _ hSw; (try dsimp only at hSw); go_simp; try with_reducible rfl)) hHeld ?_
        simp only [Act.put, List.setIfInBounds_toArray, List.set_cons_zero, List.set_cons_succ]
        refine wpAnyH_ready (rs := [1]) (by kernel_rfl) (by simp) ?_
        refine AllReadyH.cons rfl (fun K hK => ?_) AllReadyH.nil
        clear hHeld
        go_simp
        go_wp2_with (go_at_call 19; refine Calls.mono HU.out ?_; rintro e w5 ⟨rfl, hb5⟩; have HB5 : Hid (Below w3.heap.size w3 w5) := Lib.hid hb5; clear hb5)
        refine hK.out _ _ ⟨(HB5.out.cell (World.block_lt_of_cell? _ _ (hS0.1))).trans hS0.1, (HB5.out.cell (World.block_lt_of_cell? _ _ (hS0.2.1))).trans hS0.2.1, (HB5.out.cell (World.block_lt_of_cell? _ _ (hS0.2.2.1))).trans hS0.2.2.1, (HB5.out.cell (World.block_lt_of_cell? _ _ (hS0.2.2.2.1))).trans hS0.2.2.2.1, (HB5.out.cell (World.block_lt_of_cell? _ _ (hS0.2.2.2.2))).trans hS0.2.2.2.2⟩ (fun hHeld => ?_)
        clear hK K
        refine wpAnyH_ready (rs := [3]) (by kernel_rfl) (by simp) ?_
        refine AllReadyH.cons rfl (fun K hK => ?_) AllReadyH.nil
        clear hHeld
        go_simp
        go_wp2_with (go_at_call 58; refine Calls.mono (HSZ.out w5) ?_; rintro e w6 ⟨rfl, hb6⟩; have HB6 : Hid (Below w3.heap.size w3 w6) := Lib.hid (HB5.out.trans (hb6.mono HB5.out.size)); clear hb6)
        refine hK.out _ _ ⟨(HB6.out.cell (World.block_lt_of_cell? _ _ (hS0.1))).trans hS0.1, (HB6.out.cell (World.block_lt_of_cell? _ _ (hS0.2.1))).trans hS0.2.1, (HB6.out.cell (World.block_lt_of_cell? _ _ (hS0.2.2.1))).trans hS0.2.2.1, (HB6.out.cell (World.block_lt_of_cell? _ _ (hS0.2.2.2.1))).trans hS0.2.2.2.1, (HB6.out.cell (World.block_lt_of_cell? _ _ (hS0.2.2.2.2))).trans hS0.2.2.2.2⟩ (fun hHeld => ?_)
        clear hK K
        refine takeY 4 (some 33) rfl rfl (by kernel_rfl) (by kernel_rfl) (by kernel_rfl) (fun _ _ _ h => h) (by rfl) (v := _) (by (intro _ hSw; (try dsimp only at hSw); go_simp; try with_reducible rfl)) hHeld ?_
        simp only [Act.put, List.setIfInBounds_toArray, List.set_cons_zero, List.set_cons_succ]
        refine takeY 9 (some 38) rfl rfl (by kernel_rfl) (by kernel_rfl) (by kernel_rfl) (fun _ _ _ h => h) (by rfl) (v := _) (by (intro _ hSw; (try dsimp only at hSw); go_simp; try with_reducible rfl)) hHeld ?_
        simp only [Act.put, List.setIfInBounds_toArray, List.set_cons_zero, List.set_cons_succ]
        refine wpAnyH_done (by kernel_rfl) ?_ _
        clear hHeld hS0
        go_wp2_with fail
        go_ret2
        have e : allocF H o = (H, 0, 6) := by unfold allocF; rw [if_neg HMAY.out.1, if_neg HMAY.out.2, if_pos (by rw [HN.out.1, HN.out.2.1, HN.out.2.2.1]; exact hfull)]
        rw [← HAF.out, e]
        exact ⟨rfl, Stp.of_below HX.out (HBW4.out.trans (HB6.out.mono HBW4.out.size))⟩
      · have hd : decide ((us : Int) + (sz : Int) > (lim : Int)) = false := by simp; omega
        have hd2 : decide ((lim : Int) < (us : Int) + (sz : Int)) = false := by simp; omega
        have hd3 : decide ((lim : Int) < IntKind.i64.wrap ((us : Int) + (sz : Int))) = false := by rw [IntWalk.i64_in _ (by omega)]; exact hd2
        refine wp_region_held_drew (S := (fun W => W.cell? ⟨w.heap.size, 0, none⟩ = some (.int .u8 (o.k : Int)) ∧ W.cell? ⟨w.heap.size, 1, none⟩ = some (.int .i64 o.tag) ∧ W.cell? ⟨w.heap.size, 2, none⟩ = some (.slice A ol c) ∧ W.cell? ⟨w.heap.size, 3, none⟩ = some (.string (str o.t)) ∧ W.cell? ⟨r, 0, none⟩ = some (.int .i64 (lim : Int)))) (by kernel_rfl) hS0 (fun hHeld => ?_)
        refine takeY 0 (some 29) rfl rfl (by kernel_rfl) (by kernel_rfl) (by kernel_rfl) (fun _ _ _ h => h) (by rfl) (v := _) (by (intro _ hSw; (try dsimp only at hSw); go_simp; try with_reducible rfl)) hHeld ?_
        simp only [Act.put, List.setIfInBounds_toArray, List.set_cons_zero, List.set_cons_succ]
        refine takeY 5 (some 34) rfl rfl (by kernel_rfl) (by kernel_rfl) (by kernel_rfl) (fun _ _ _ h => h) (by rfl) (v := _) (by (intro _ hSw; (try dsimp only at hSw); go_simp; try with_reducible rfl)) hHeld ?_
        simp only [Act.put, List.setIfInBounds_toArray, List.set_cons_zero, List.set_cons_succ]
        refine takeY 2 (some 31) rfl rfl (by kernel_rfl) (by kernel_rfl) (by kernel_rfl) (fun _ _ _ h => h) (by rfl) (v := _) (by (intro _ hSw; (try dsimp only at hSw); go_simp; try with_reducible rfl)) hHeld ?_
        simp only [Act.put, List.setIfInBounds_toArray, List.set_cons_zero, List.set_cons_succ]
        refine takeY 6 (some 35) rfl rfl (by kernel_rfl) (by kernel_rfl) (by kernel_rfl) (fun _ _ _ h => h) (by rfl) (v := _) (by (intro _ hSw; (try dsimp only at hSw); go_simp; try with_reducible rfl)) hHeld ?_
        simp only [Act.put, List.setIfInBounds_toArray, List.set_cons_zero, List.set_cons_succ]
        refine takeY 7 (some 36) rfl rfl (by kernel_rfl) (by kernel_rfl) (by kernel_rfl) (fun _ _ _ h => h) (by rfl) (v := _) (by (intro _ hSw; (try dsimp only at hSw); go_simp; try with_reducible rfl)) hHeld ?_
        simp only [Act.put, List.setIfInBounds_toArray, List.set_cons_zero, List.set_cons_succ]
        refine takeY 8 (some 37) rfl rfl (by kernel_rfl) (by kernel_rfl) (by kernel_rfl) (fun _ _ _ h => h) (by rfl) (v := _) (by (intro _ hSw; (try dsimp only at hSw); go_simp; try with_reducible rfl)) hHeld ?_
        simp only [Act.put, List.setIfInBounds_toArray, List.set_cons_zero, List.set_cons_succ]
        refine wpAnyH_ready (rs := [1]) (by kernel_rfl) (by simp) ?_
        refine AllReadyH.cons rfl (fun K hK => ?_) AllReadyH.nil
        clear hHeld
        go_simp
        go_wp2_with (go_at_call 19; refine Calls.mono HU.out ?_; rintro e w5 ⟨rfl, hb5⟩; have HB5 : Hid (Below w3.heap.size w3 w5) := Lib.hid hb5; clear hb5)
        refine hK.out _ _ ⟨(HB5.out.cell (World.block_lt_of_cell? _ _ (hS0.1))).trans hS0.1, (HB5.out.cell (World.block_lt_of_cell? _ _ (hS0.2.1))).trans hS0.2.1, (HB5.out.cell (World.block_lt_of_cell? _ _ (hS0.2.2.1))).trans hS0.2.2.1, (HB5.out.cell (World.block_lt_of_cell? _ _ (hS0.2.2.2.1))).trans hS0.2.2.2.1, (HB5.out.cell (World.block_lt_of_cell? _ _ (hS0.2.2.2.2))).trans hS0.2.2.2.2⟩ (fun hHeld => ?_)
        clear hK K
        refine wpAnyH_ready (rs := [3]) (by kernel_rfl) (by simp) ?_
        refine AllReadyH.cons rfl (fun K hK => ?_) AllReadyH.nil
        clear hHeld
        go_simp
        go_wp2_with (go_at_call 58; refine Calls.mono (HSZ.out w5) ?_; rintro e w6 ⟨rfl, hb6⟩; have HB6 : Hid (Below w3.heap.size w3 w6) := Lib.hid (HB5.out.trans (hb6.mono HB5.out.size)); clear hb6)
        refine hK.out _ _ ⟨(HB6.out.cell (World.block_lt_of_cell? _ _ (hS0.1))).trans hS0.1, (HB6.out.cell (World.block_lt_of_cell? _ _ (hS0.2.1))).trans hS0.2.1, (HB6.out.cell (World.block_lt_of_cell? _ _ (hS0.2.2.1))).trans hS0.2.2.1, (HB6.out.cell (World.block_lt_of_cell? _ _ (hS0.2.2.2.1))).trans hS0.2.2.2.1, (HB6.out.cell (World.block_lt_of_cell? _ _ (hS0.2.2.2.2))).trans hS0.2.2.2.2⟩ (fun hHeld => ?_)
        clear hK K
        refine takeY 4 (some 33) rfl rfl (by kernel_rfl) (by kernel_rfl) (by kernel_rfl) (fun _ _ _ h => h) (by rfl) (v := _) (by (intro _ hSw; (try dsimp only at hSw); go_simp; try with_reducible rfl)) hHeld ?_
        simp only [Act.put, List.setIfInBounds_toArray, List.set_cons_zero, List.set_cons_succ]
        refine takeY 9 (some 38) rfl rfl (by kernel_rfl) (by kernel_rfl) (by kernel_rfl) (fun _ _ _ h => h) (by rfl) (v := _) (by (intro _ hSw; (try dsimp only at hSw); go_simp; try with_reducible rfl)) hHeld ?_
        simp only [Act.put, List.setIfInBounds_toArray, List.set_cons_zero, List.set_cons_succ]
        refine wpAnyH_done (by kernel_rfl) ?_ _
        clear hHeld hS0
        have e : allocF H o = (allocH H o, H.count + 1, 0) := by unfold allocF; rw [if_neg HMAY.out.1, if_neg HMAY.out.2, if_neg (by rw [HN.out.1, HN.out.2.1, HN.out.2.2.1]; exact hfull)]
        have HE := Lib.hid (HAF.out.symm.trans e)
        clear e
        have h6 := HX4.out.below HB6.out
        have hB6 := HB4.out.below HB6.out HB4.out.lt
        have hrow6 := HROW4.out.below HB6.out
        have hbw6 := HBW4.out.trans (HB6.out.mono HBW4.out.size)
        have hs6 := HB6.out.size
        obtain ⟨q, cq, T, hm6, hsT⟩ := h6
        obtain ⟨n, hn⟩ : ∃ n, T.length = n := ⟨_, rfl⟩
        obtain ⟨XS, hXS⟩ : ∃ XS, (⟨o, true, 0, false, A', c'⟩ : Tg) = XS := ⟨_, rfl⟩
        have hRA : ∀ p : Addr, A' = some p → R p.block = .no := fun p hp => by
          cases hr : R p.block with
          | no => rfl
          | _ =>
            have h1 := HX.out.lt p.block (by rw [hr]; intro e; cases e)
            have h2 := (HROW4.out.blk p hp).2.2.1
            have h3 := HSZW.out
            omega
        have hm7 : RM (w6.alloc (.cells #[.int .u8 (o.k : Int), .int .i64 o.tag, .slice A' ol c', .string (str o.t), .bool true, .int .i64 0, .bool false] 86)).drew r q cq R H.limit T := (hm6.below ((Below.refl _ _).alloc (Nat.le_refl _) _)).drew
        have hb7 : Below w6.heap.size w6 (w6.alloc (.cells #[.int .u8 (o.k : Int), .int .i64 o.tag, .slice A' ol c', .string (str o.t), .bool true, .int .i64 0, .bool false] 86)).drew := ((Below.refl _ w6).alloc (Nat.le_refl _) _).drew
        have hrow7 := hrow6.below hb7
        have hB7 := Blk.new w6 86 #[.int .u8 (o.k : Int), .int .i64 o.tag, .slice A' ol c', .string (str o.t), .bool true, .int .i64 0, .bool false]
        obtain ⟨q', c2, w8, hrun, ho8, hr8, hmk, hq', hq8⟩ := hm7.add ⟨o, true, 0, false, A', c'⟩ (hrow7.mono (Nat.zero_le _)) hRA w6.heap.size (fun j v hj => by
          refine (hB7.cell j).trans ?_
          unfold tgC at hj
          dsimp only at hj
          rw [HN.out.2.2.2] at hj
          simpa using hj) (by rw [hsT.len]; have := HOK.out.2; omega)
        rw [hn] at hrun hmk
        have hbase : ∀ b, R b ≠ .no → b < w.heap.size := HX.out.lt
        have hz7 : ((w6.alloc (.cells #[.int .u8 (o.k : Int), .int .i64 o.tag, .slice A' ol c', .string (str o.t), .bool true, .int .i64 0, .bool false] 86)).drew).heap.size = w6.heap.size + 1 := by show (w6.alloc _).heap.size = _; rw [World.size_alloc]
        have hfin := hmk (fun b => if b = q' then .mp 0 else addR R n A' b) (fun b hb => by
          by_cases e : b = q'
          · rw [if_pos e]
            rcases hq' with h1 | h1
            · rw [e, h1, hm6.rq]
            · exfalso
              have := hbase b hb
              have h2 := hbw6.size
              rw [hz7] at h1
              omega
          · rw [if_neg e]
            exact addR_same (B := w.heap.size) (fun p hp => by have h2 := (HROW4.out.blk p hp).2.2.1; have h3 := HSZW.out; omega) hbase b hb) (fun p hp => by
          rw [if_neg, addR_at hp]
          intro e
          rcases hq' with h1 | h1
          · have h2 := hRA p hp
            rw [e, h1, hm6.rq] at h2
            cases h2
          · have h2 := (hrow6.blk p hp).2.2.2
            rw [hz7] at h1
            omega) (if_pos rfl) (fun b hb => by
          by_cases e : b = q'
          · rw [e]; exact hq8
          · rw [if_neg e] at hb
            have h9 := ho8.size
            rw [hz7] at h9
            rcases addR_or hb with h1 | ⟨p, hp, rfl⟩
            · have := hbase b h1
              have h2 := hbw6.size
              omega
            · have h2 := (hrow6.blk p hp).2.2.2
              omega)
        have hsf := hsT.add HOK.out.1 HMAY2.out (x' := ⟨o, true, 0, false, A', c'⟩) rfl rfl HOID.out rfl
        have hst : Stp w (w8.setCell ⟨r, 1, none⟩ (.slice (some ⟨q', 0, none⟩) (n + 1) c2)) r R (allocH H o) := by
          refine ⟨_, ⟨q', c2, _, hfin, hsf⟩, ?_, fun b hb => ?_⟩
          · refine (((Off.of_new hbw6 _).trans (Off.of_below hb7 _ fun k h1 h2 => ?_)).trans (ho8.mono fun b _ e => ?_)).trans ((Off.setc _ _ _ _).mono fun b _ e => ?_)
            · omega
            · have e : b = q := e
              rw [e, hm6.rq]; intro e; cases e
            · have e : b = r := e
              rw [e, hm6.rg]; intro e; cases e
          · have h2 := hbw6.size
            by_cases e : b = q'
            · rcases hq' with h1 | h1
              · exact .inl (by rw [e, h1, hm6.rq]; intro e; cases e)
              · exact .inr (by rw [hz7] at h1; omega)
            · rw [if_neg e] at hb
              rcases addR_or hb with h1 | ⟨p, hp, rfl⟩
              · exact .inl h1
              · have h2 := (HROW4.out.blk p hp).2.2.1
                have h3 := HSZW.out
                exact .inr (by omega)
        have hnc : n = H.count + 1 := by rw [← hn]; exact hsT.len
        obtain ⟨c0, c1, cf⟩ := hm6.told
        rw [hn] at c1
        have k1 : w6.drew.cell? ⟨r, 1, none⟩ = some (.slice (some ⟨q, 0, none⟩) n cq) := c1
        have k2 := hm7.told.2.1
        rw [hn] at k2
        have k5 : (w6.alloc (.cells #[.int .u8 (o.k : Int), .int .i64 o.tag, .slice A' ol c', .string (str o.t), .bool true, .int .i64 0, .bool false] 86)).cell? ⟨r, 1, none⟩ = some (.slice (some ⟨q, 0, none⟩) n cq) := k2
        have hrl : r < w.heap.size := hbase r (by rw [hm6.rg]; intro e; cases e)
        have hrq : r ≠ q := fun e => by have := hm6.rg; rw [e, hm6.rq] at this; cases this
        have hh8 := (hm7.head.off ho8 hrq)
        have k3 := hh8.cell 1
        simp only [List.getElem?_toArray, List.getElem?_cons_zero, List.getElem?_cons_succ] at k3
        rw [hn] at k3
        have k4 := hh8.frozen
        have hSx : w6.cell? ⟨x0, 0, none⟩ = some (.int .u8 (o.k : Int)) ∧ w6.cell? ⟨x0, 1, none⟩ = some (.int .i64 o.tag) ∧ w6.cell? ⟨x0, 2, none⟩ = some (.slice A' ol c') ∧ w6.cell? ⟨x0, 3, none⟩ = some (.string (str o.t)) ∧ w6.cell? ⟨x0, 4, none⟩ = some (.bool true) ∧ w6.cell? ⟨x0, 5, none⟩ = some (.int .i64 0) ∧ w6.cell? ⟨x0, 6, none⟩ = some (.bool false) := by
          have h2 := hB6.cell 2
          unfold tgC at h2
          dsimp only at h2
          rw [HN.out.2.2.2] at h2
          exact ⟨hB6.cell 0, hB6.cell 1, h2, hB6.cell 3, hB6.cell 4, hB6.cell 5, hB6.cell 6⟩
        have hx0q : x0 ≠ q := fun e => by
          have h1 := hbase q (by rw [hm6.rq]; intro e; cases e)
          have h2 := HX0.out
          omega
        have hx0r : x0 ≠ r := fun e => by have h2 := HX0.out; omega
        have hSx7 : Off (fun b => b = q) w6 w8 := (Off.of_below hb7 _ fun k h1 h2 => by omega).trans ho8
        have hB8 := hB6.off hSx7 hx0q
        have hB9 := hB8.far (p := ⟨r, 1, none⟩) hx0r (.slice (some ⟨q', 0, none⟩) (n + 1) c2)
        have HRUN := Lib.hid hrun
        have HST := Lib.hid hst
        have hcb := HOK.out.2
        have HNC := Lib.hid hnc
        have hnb : n ≤ 100001 := by omega
        have HB7 := Lib.hid (And.intro hb7 (And.intro hB8 (And.intro hB9 hSx)))
        have hlen9 : (w8.setCell ⟨r, 1, none⟩ (.slice (some ⟨q', 0, none⟩) (n + 1) c2)).cell? ⟨r, 1, none⟩ = some (.slice (some ⟨q', 0, none⟩) (n + 1) c2) := World.cell?_setCell_same _ _ _ k3
        have HL9 := Lib.hid hlen9
        clear hrun hst hsf hfin hmk hm7 hrow7 hB7 ho8 hq' hq8 hr8 hz7 hRA hB6 hrow6 hsT hn hXS hh8 hSx7 hB8 hB9 hb7 hm6 hbw6 hlen9 hbase hcb hnc hSx
        go_upto_region 11 with fail
        refine wp_region_held_drew (S := (fun W => W.cell? ⟨x0, 0, none⟩ = some (.int .u8 (o.k : Int)) ∧ W.cell? ⟨x0, 1, none⟩ = some (.int .i64 o.tag) ∧ W.cell? ⟨x0, 2, none⟩ = some (.slice A' ol c') ∧ W.cell? ⟨x0, 3, none⟩ = some (.string (str o.t)) ∧ W.cell? ⟨x0, 4, none⟩ = some (.bool true) ∧ W.cell? ⟨x0, 5, none⟩ = some (.int .i64 0) ∧ W.cell? ⟨x0, 6, none⟩ = some (.bool false))) (by kernel_rfl) HB7.out.2.2.2 (fun hHeld => ?_)
        refine takeY 0 (some 39) rfl rfl (by kernel_rfl) (by kernel_rfl) (by kernel_rfl) (fun _ _ _ h => h) (by rfl) (v := _) (by (intro _ hSw; (try dsimp only at hSw); go_simp; try with_reducible rfl)) hHeld ?_
        simp only [Act.put, List.setIfInBounds_toArray, List.set_cons_zero, List.set_cons_succ]
        refine takeY 1 (some 40) rfl rfl (by kernel_rfl) (by kernel_rfl) (by kernel_rfl) (fun _ _ _ h => h) (by rfl) (v := _) (by (intro _ hSw; (try dsimp only at hSw); go_simp; try with_reducible rfl)) hHeld ?_
        simp only [Act.put, List.setIfInBounds_toArray, List.set_cons_zero, List.set_cons_succ]
        refine takeY 2 (some 41) rfl rfl (by kernel_rfl) (by kernel_rfl) (by kernel_rfl) (fun _ _ _ h => h) (by rfl) (v := _) (by (intro _ hSw; (try dsimp only at hSw); go_simp; try with_reducible rfl)) hHeld ?_
        simp only [Act.put, List.setIfInBounds_toArray, List.set_cons_zero, List.set_cons_succ]
        refine takeY 3 (some 42) rfl rfl (by kernel_rfl) (by kernel_rfl) (by kernel_rfl) (fun _ _ _ h => h) (by rfl) (v := _) (by (intro _ hSw; (try dsimp only at hSw); go_simp; try with_reducible rfl)) hHeld ?_
        simp only [Act.put, List.setIfInBounds_toArray, List.set_cons_zero, List.set_cons_succ]
        refine takeY 5 (some 44) rfl rfl (by kernel_rfl) (by kernel_rfl) (by kernel_rfl) (fun _ _ _ h => h) (by rfl) (v := _) (by (intro _ hSw; (try dsimp only at hSw); go_simp; try with_reducible rfl)) hHeld ?_
        simp only [Act.put, List.setIfInBounds_toArray, List.set_cons_zero, List.set_cons_succ]
        refine wpAnyH_ready (rs := [4, 6]) (by kernel_rfl) (by simp) ?_
        refine AllReadyH.cons rfl (fun K hK => ?_) (AllReadyH.cons rfl (fun K hK => ?_) AllReadyH.nil)
        · go_simp
          refine hK.out _ _ hHeld (fun hHeld => ?_)
          clear hK K
          refine wpAnyH_ready (rs := [6]) (by kernel_rfl) (by simp) ?_
          refine AllReadyH.cons rfl (fun K hK => ?_) AllReadyH.nil
          go_simp
          refine hK.out _ _ ⟨(HB7.out.1.cell (World.block_lt_of_cell? _ _ (HB7.out.2.2.2.1))).trans HB7.out.2.2.2.1, (HB7.out.1.cell (World.block_lt_of_cell? _ _ (HB7.out.2.2.2.2.1))).trans HB7.out.2.2.2.2.1, (HB7.out.1.cell (World.block_lt_of_cell? _ _ (HB7.out.2.2.2.2.2.1))).trans HB7.out.2.2.2.2.2.1, (HB7.out.1.cell (World.block_lt_of_cell? _ _ (HB7.out.2.2.2.2.2.2.1))).trans HB7.out.2.2.2.2.2.2.1, (HB7.out.1.cell (World.block_lt_of_cell? _ _ (HB7.out.2.2.2.2.2.2.2.1))).trans HB7.out.2.2.2.2.2.2.2.1, (HB7.out.1.cell (World.block_lt_of_cell? _ _ (HB7.out.2.2.2.2.2.2.2.2.1))).trans HB7.out.2.2.2.2.2.2.2.2.1, (HB7.out.1.cell (World.block_lt_of_cell? _ _ (HB7.out.2.2.2.2.2.2.2.2.2))).trans HB7.out.2.2.2.2.2.2.2.2.2⟩ (fun hHeld => ?_)
          clear hK K
          refine wpAnyH_ready (rs := [7]) (by kernel_rfl) (by simp) ?_
          refine AllReadyH.cons rfl (fun K hK => ?_) AllReadyH.nil
          clear hHeld
          refine step_app rfl (.tmp 43) (.tmp 45) 81 rfl _ _ _ _ (by simp [Act.eval]) (by simp [Act.eval]) HRUN.out ?_
          simp only [Act.put, List.setIfInBounds_toArray]
          refine hK.out _ _ ⟨(HB7.out.2.1.cell 0), (HB7.out.2.1.cell 1), (by have h2 := HB7.out.2.1.cell 2; unfold tgC at h2; dsimp only at h2; rw [HN.out.2.2.2] at h2; exact h2), (HB7.out.2.1.cell 3), (HB7.out.2.1.cell 4), (HB7.out.2.1.cell 5), (HB7.out.2.1.cell 6)⟩ (fun hHeld => ?_)
          clear hK K
          refine takeY 8 (some 47) rfl rfl (by kernel_rfl) (by kernel_rfl) (by kernel_rfl) (fun _ _ _ h => h) (by rfl) (v := _) (by (intro _ hSw; (try dsimp only at hSw); go_simp; try with_reducible rfl)) hHeld ?_
          simp only [Act.put, List.setIfInBounds_toArray, List.set_cons_zero, List.set_cons_succ]
          refine takeY 9 (some 48) rfl rfl (by kernel_rfl) (by kernel_rfl) (by kernel_rfl) (fun _ _ _ h => h) (by rfl) (v := _) (by (intro _ hSw; (try dsimp only at hSw); go_simp; try with_reducible rfl)) hHeld ?_
          simp only [Act.put, List.setIfInBounds_toArray, List.set_cons_zero, List.set_cons_succ]
          refine wpAnyH_ready (rs := [10]) (by kernel_rfl) (by simp) ?_
          refine AllReadyH.cons rfl (fun K hK => ?_) AllReadyH.nil
          go_simp
          refine hK.out _ _ ⟨(HB7.out.2.2.1.cell 0), (HB7.out.2.2.1.cell 1), (by have h2 := HB7.out.2.2.1.cell 2; unfold tgC at h2; dsimp only at h2; rw [HN.out.2.2.2] at h2; exact h2), (HB7.out.2.2.1.cell 3), (HB7.out.2.2.1.cell 4), (HB7.out.2.2.1.cell 5), (HB7.out.2.2.1.cell 6)⟩ (fun hHeld => ?_)
          clear hK K
          refine wpAnyH_done (by kernel_rfl) ?_ _
          obtain ⟨w9, hw9⟩ : ∃ w9, w8.setCell ⟨r, 1, none⟩ (.slice (some ⟨q', 0, none⟩) (n + 1) c2) = w9 := ⟨_, rfl⟩
          have c9 := HL9.out
          rw [hw9] at HST c9 ⊢
          clear hHeld k1 k2 k5 k3 k4 hw9 HL9
          go_wp2_with fail
          go_ret2
          rw [HE.out]
          refine ⟨?_, HST.out⟩
          rw [HNC.out]
          go_num
        · go_simp
          refine hK.out _ _ ⟨(HB7.out.1.cell (World.block_lt_of_cell? _ _ (HB7.out.2.2.2.1))).trans HB7.out.2.2.2.1, (HB7.out.1.cell (World.block_lt_of_cell? _ _ (HB7.out.2.2.2.2.1))).trans HB7.out.2.2.2.2.1, (HB7.out.1.cell (World.block_lt_of_cell? _ _ (HB7.out.2.2.2.2.2.1))).trans HB7.out.2.2.2.2.2.1, (HB7.out.1.cell (World.block_lt_of_cell? _ _ (HB7.out.2.2.2.2.2.2.1))).trans HB7.out.2.2.2.2.2.2.1, (HB7.out.1.cell (World.block_lt_of_cell? _ _ (HB7.out.2.2.2.2.2.2.2.1))).trans HB7.out.2.2.2.2.2.2.2.1, (HB7.out.1.cell (World.block_lt_of_cell? _ _ (HB7.out.2.2.2.2.2.2.2.2.1))).trans HB7.out.2.2.2.2.2.2.2.2.1, (HB7.out.1.cell (World.block_lt_of_cell? _ _ (HB7.out.2.2.2.2.2.2.2.2.2))).trans HB7.out.2.2.2.2.2.2.2.2.2⟩ (fun hHeld => ?_)
          clear hK K
          refine wpAnyH_ready (rs := [4]) (by kernel_rfl) (by simp) ?_
          refine AllReadyH.cons rfl (fun K hK => ?_) AllReadyH.nil
          go_simp
          refine hK.out _ _ hHeld (fun hHeld => ?_)
          clear hK K
          refine wpAnyH_ready (rs := [7]) (by kernel_rfl) (by simp) ?_
          refine AllReadyH.cons rfl (fun K hK => ?_) AllReadyH.nil
          clear hHeld
          refine step_app rfl (.tmp 43) (.tmp 45) 81 rfl _ _ _ _ (by simp [Act.eval]) (by simp [Act.eval]) HRUN.out ?_
          simp only [Act.put, List.setIfInBounds_toArray]
          refine hK.out _ _ ⟨(HB7.out.2.1.cell 0), (HB7.out.2.1.cell 1), (by have h2 := HB7.out.2.1.cell 2; unfold tgC at h2; dsimp only at h2; rw [HN.out.2.2.2] at h2; exact h2), (HB7.out.2.1.cell 3), (HB7.out.2.1.cell 4), (HB7.out.2.1.cell 5), (HB7.out.2.1.cell 6)⟩ (fun hHeld => ?_)
          clear hK K
          refine takeY 8 (some 47) rfl rfl (by kernel_rfl) (by kernel_rfl) (by kernel_rfl) (fun _ _ _ h => h) (by rfl) (v := _) (by (intro _ hSw; (try dsimp only at hSw); go_simp; try with_reducible rfl)) hHeld ?_
          simp only [Act.put, List.setIfInBounds_toArray, List.set_cons_zero, List.set_cons_succ]
          refine takeY 9 (some 48) rfl rfl (by kernel_rfl) (by kernel_rfl) (by kernel_rfl) (fun _ _ _ h => h) (by rfl) (v := _) (by (intro _ hSw; (try dsimp only at hSw); go_simp; try with_reducible rfl)) hHeld ?_
          simp only [Act.put, List.setIfInBounds_toArray, List.set_cons_zero, List.set_cons_succ]
          refine wpAnyH_ready (rs := [10]) (by kernel_rfl) (by simp) ?_
          refine AllReadyH.cons rfl (fun K hK => ?_) AllReadyH.nil
          go_simp
          refine hK.out _ _ ⟨(HB7.out.2.2.1.cell 0), (HB7.out.2.2.1.cell 1), (by have h2 := HB7.out.2.2.1.cell 2; unfold tgC at h2; dsimp only at h2; rw [HN.out.2.2.2] at h2; exact h2), (HB7.out.2.2.1.cell 3), (HB7.out.2.2.1.cell 4), (HB7.out.2.2.1.cell 5), (HB7.out.2.2.1.cell 6)⟩ (fun hHeld => ?_)
          clear hK K
          refine wpAnyH_done (by kernel_rfl) ?_ _
          obtain ⟨w9, hw9⟩ : ∃ w9, w8.setCell ⟨r, 1, none⟩ (.slice (some ⟨q', 0, none⟩) (n + 1) c2) = w9 := ⟨_, rfl⟩
          have c9 := HL9.out
          rw [hw9] at HST c9 ⊢
          clear hHeld k1 k2 k5 k3 k4 hw9 HL9
          go_wp2_with fail
          go_ret2
          rw [HE.out]
          refine ⟨?_, HST.out⟩
          rw [HNC.out]
          go_num
    | true =>
      have h8 : o.k = 8 := by simp at hb8; omega
      have hof := rof_rx HX3.out HOK.out.1 HOK.out.2 o.tag
      cases hfo : H.ofOid o.tag with
      | some v =>
        have e : allocF H o = (H, 0, 3) := by unfold allocF; rw [if_neg (by rw [HMM.out]; simp), if_pos ⟨h8, by rw [hfo]; rfl⟩]
        have HE := Lib.hid (HAF.out.symm.trans e)
        rw [hfo, Option.isSome_some, Option.getD_some] at hof
        replace hof := Lib.hid hof
        clear e hfo h8
        go_wp2_with fail
        refine hof.out.mono ?_
        rintro e w4 ⟨rfl, rfl⟩
        go_wp2_with fail
        go_ret2
        rw [HE.out]
        exact ⟨rfl, Stp.of_below HX.out HBW3.out⟩
      | none =>
        rw [hfo, Option.isSome_none, Option.getD_none] at hof
        replace hof := Lib.hid hof
        obtain ⟨ht1, _, _⟩ := may8 HMM.out h8
        obtain ⟨on, hon⟩ : ∃ on : Nat, o.tag = on := ⟨o.tag.toNat, by omega⟩
        have HMAY : Hid (¬ Hp.mayO o = false ∧ ¬ (o.k = 8 ∧ (H.ofOid o.tag).isSome = true)) := Lib.hid ⟨by rw [HMM.out]; simp, fun e => by rw [hfo] at e; cases e.2⟩
        have HOID : Hid (((on : Nat) : Int) = if o.k = 8 then o.tag else 0) := Lib.hid (by rw [if_pos h8]; exact hon.symm)
        have HON := Lib.hid hon
        have hxf := HB3.out.frozen
        have hx5 : w3.cell? ⟨x0, 5, none⟩ = some (.int .i64 0) := HB3.out.cell 5
        clear h8 hfo hon ht1
        go_wp2_with fail
        refine hof.out.mono ?_
        rintro e w4 ⟨rfl, rfl⟩
        go_upto_region 9 with fail
        obtain ⟨w4, hw4⟩ : ∃ w4, w3.setCell ⟨x0, 5, none⟩ (.int .i64 o.tag) = w4 := ⟨_, rfl⟩
        have ho4 : Off (fun b => b = x0) w3 w4 := by rw [← hw4]; exact Off.setc _ _ _ _
        have hx0l := HB3.out.lt
        have HB4 : Hid (Blk w4 x0 86 (tgC ⟨o, true, on, false, A', c'⟩).toArray) := Lib.hid (by
          have h9 := HB3.out.set_ 5 (.int .i64 o.tag)
          have e : Value.int .i64 o.tag = .int .i64 (on : Int) := by rw [HON.out]
          rw [hw4, e] at h9
          exact h9)
        have HO4 := Lib.hid (HO3.out.off ho4 (fun e => by have h2 := HX0.out; have e : w.heap.size = x0 := e; omega))
        have HX4 := Lib.hid (HX3.out.keep ho4.size fun b hb => ho4.block b (HX3.out.lt b hb) fun e => by have h2 := HX0.out; have h3 := HX.out.lt b hb; have e : b = x0 := e; omega)
        have HROW4 := Lib.hid (HROW3.out.same ho4.size fun p e => ho4.block _ (HROW3.out.blk p e).2.2.2 fun e' => HXA.out p e e')
        have HBW4 := Lib.hid (HBW3.out.trans (ho4.below HBW3.out.size fun k e => by have h2 := HX0.out; have e : k = x0 := e; omega))
        rw [hw4]
        clear hw4 ho4 hof hx5 hxf b0 b1 b2 b3 hx0l
        have hS0 : w4.cell? ⟨w.heap.size, 0, none⟩ = some (.int .u8 (o.k : Int)) ∧ w4.cell? ⟨w.heap.size, 1, none⟩ = some (.int .i64 o.tag) ∧ w4.cell? ⟨w.heap.size, 2, none⟩ = some (.slice A ol c) ∧ w4.cell? ⟨w.heap.size, 3, none⟩ = some (.string (str o.t)) ∧ w4.cell? ⟨r, 0, none⟩ = some (.int .i64 (lim : Int)) := by
          have h4 := HX4.out
          obtain ⟨q, cq, T, hm, _⟩ := h4
          have := hm.told.1
          rw [HN.out.2.1] at this
          exact ⟨HO4.out.cell 0, HO4.out.cell 1, HO4.out.cell 2, HO4.out.cell 3, this⟩
        have HU : Hid (Calls Try.prog 19 #[.pointer (some ⟨r, 0, none⟩)] w4.drew fun e w' => e = .returned (.int .i64 (us : Int)) ∧ Below w4.heap.size w4 w') := Lib.hid (by
          have h5 := rused_rx (HX4.out.keep (w' := w4.drew) (Nat.le_refl _) fun _ _ => rfl) HOK.out.1 HOK.out.2
          rw [HN.out.2.2.1] at h5
          refine h5.mono ?_
          rintro e w' ⟨rfl, hb⟩
          exact ⟨rfl, (Below.refl _ w4).drew.trans hb⟩)
        by_cases hfull : lim - us < sz
        · have hd : decide ((us : Int) + (sz : Int) > (lim : Int)) = true := by simp; omega
          have hd2 : decide ((lim : Int) < (us : Int) + (sz : Int)) = true := by simp; omega
          have hd3 : decide ((lim : Int) < IntKind.i64.wrap ((us : Int) + (sz : Int))) = true := by rw [IntWalk.i64_in _ (by omega)]; exact hd2
          refine wp_region_held_drew (S := (fun W => W.cell? ⟨w.heap.size, 0, none⟩ = some (.int .u8 (o.k : Int)) ∧ W.cell? ⟨w.heap.size, 1, none⟩ = some (.int .i64 o.tag) ∧ W.cell? ⟨w.heap.size, 2, none⟩ = some (.slice A ol c) ∧ W.cell? ⟨w.heap.size, 3, none⟩ = some (.string (str o.t)) ∧ W.cell? ⟨r, 0, none⟩ = some (.int .i64 (lim : Int)))) (by kernel_rfl) hS0 (fun hHeld => ?_)
          refine takeY 0 (some 29) rfl rfl (by kernel_rfl) (by kernel_rfl) (by kernel_rfl) (fun _ _ _ h => h) (by rfl) (v := _) (by (intro _ hSw; (try dsimp only at hSw); go_simp; try with_reducible rfl)) hHeld ?_
          simp only [Act.put, List.setIfInBounds_toArray, List.set_cons_zero, List.set_cons_succ]
          refine takeY 5 (some 34) rfl rfl (by kernel_rfl) (by kernel_rfl) (by kernel_rfl) (fun _ _ _ h => h) (by rfl) (v := _) (by (intro _ hSw; (try dsimp only at hSw); go_simp; try with_reducible rfl)) hHeld ?_
          simp only [Act.put, List.setIfInBounds_toArray, List.set_cons_zero, List.set_cons_succ]
          refine takeY 2 (some 31) rfl rfl (by kernel_rfl) (by kernel_rfl) (by kernel_rfl) (fun _ _ _ h => h) (by rfl) (v := _) (by (intro _ hSw; (try dsimp only at hSw); go_simp; try with_reducible rfl)) hHeld ?_
          simp only [Act.put, List.setIfInBounds_toArray, List.set_cons_zero, List.set_cons_succ]
          refine takeY 6 (some 35) rfl rfl (by kernel_rfl) (by kernel_rfl) (by kernel_rfl) (fun _ _ _ h => h) (by rfl) (v := _) (by (intro _ hSw; (try dsimp only at hSw); go_simp; try with_reducible rfl)) hHeld ?_
          simp only [Act.put, List.setIfInBounds_toArray, List.set_cons_zero, List.set_cons_succ]
          refine takeY 7 (some 36) rfl rfl (by kernel_rfl) (by kernel_rfl) (by kernel_rfl) (fun _ _ _ h => h) (by rfl) (v := _) (by (intro _ hSw; (try dsimp only at hSw); go_simp; try with_reducible rfl)) hHeld ?_
          simp only [Act.put, List.setIfInBounds_toArray, List.set_cons_zero, List.set_cons_succ]
          refine takeY 8 (some 37) rfl rfl (by kernel_rfl) (by kernel_rfl) (by kernel_rfl) (fun _ _ _ h => h) (by rfl) (v := _) (by (intro _ hSw; (try dsimp only at hSw); go_simp; try with_reducible rfl)) hHeld ?_
          simp only [Act.put, List.setIfInBounds_toArray, List.set_cons_zero, List.set_cons_succ]
          refine wpAnyH_ready (rs := [1]) (by kernel_rfl) (by simp) ?_
          refine AllReadyH.cons rfl (fun K hK => ?_) AllReadyH.nil
          clear hHeld
          go_simp
          go_wp2_with (go_at_call 19; refine Calls.mono HU.out ?_; rintro e w5 ⟨rfl, hb5⟩; have HB5 : Hid (Below w4.heap.size w4 w5) := Lib.hid hb5; clear hb5)
          refine hK.out _ _ ⟨(HB5.out.cell (World.block_lt_of_cell? _ _ (hS0.1))).trans hS0.1, (HB5.out.cell (World.block_lt_of_cell? _ _ (hS0.2.1))).trans hS0.2.1, (HB5.out.cell (World.block_lt_of_cell? _ _ (hS0.2.2.1))).trans hS0.2.2.1, (HB5.out.cell (World.block_lt_of_cell? _ _ (hS0.2.2.2.1))).trans hS0.2.2.2.1, (HB5.out.cell (World.block_lt_of_cell? _ _ (hS0.2.2.2.2))).trans hS0.2.2.2.2⟩ (fun hHeld => ?_)
          clear hK K
          refine wpAnyH_ready (rs := [3]) (by kernel_rfl) (by simp) ?_
          refine AllReadyH.cons rfl (fun K hK => ?_) AllReadyH.nil
          clear hHeld
          go_simp
          go_wp2_with (go_at_call 58; refine Calls.mono (HSZ.out w5) ?_; rintro e w6 ⟨rfl, hb6⟩; have HB6 : Hid (Below w4.heap.size w4 w6) := Lib.hid (HB5.out.trans (hb6.mono HB5.out.size)); clear hb6)
          refine hK.out _ _ ⟨(HB6.out.cell (World.block_lt_of_cell? _ _ (hS0.1))).trans hS0.1, (HB6.out.cell (World.block_lt_of_cell? _ _ (hS0.2.1))).trans hS0.2.1, (HB6.out.cell (World.block_lt_of_cell? _ _ (hS0.2.2.1))).trans hS0.2.2.1, (HB6.out.cell (World.block_lt_of_cell? _ _ (hS0.2.2.2.1))).trans hS0.2.2.2.1, (HB6.out.cell (World.block_lt_of_cell? _ _ (hS0.2.2.2.2))).trans hS0.2.2.2.2⟩ (fun hHeld => ?_)
          clear hK K
          refine takeY 4 (some 33) rfl rfl (by kernel_rfl) (by kernel_rfl) (by kernel_rfl) (fun _ _ _ h => h) (by rfl) (v := _) (by (intro _ hSw; (try dsimp only at hSw); go_simp; try with_reducible rfl)) hHeld ?_
          simp only [Act.put, List.setIfInBounds_toArray, List.set_cons_zero, List.set_cons_succ]
          refine takeY 9 (some 38) rfl rfl (by kernel_rfl) (by kernel_rfl) (by kernel_rfl) (fun _ _ _ h => h) (by rfl) (v := _) (by (intro _ hSw; (try dsimp only at hSw); go_simp; try with_reducible rfl)) hHeld ?_
          simp only [Act.put, List.setIfInBounds_toArray, List.set_cons_zero, List.set_cons_succ]
          refine wpAnyH_done (by kernel_rfl) ?_ _
          clear hHeld hS0
          go_wp2_with fail
          go_ret2
          have e : allocF H o = (H, 0, 6) := by unfold allocF; rw [if_neg HMAY.out.1, if_neg HMAY.out.2, if_pos (by rw [HN.out.1, HN.out.2.1, HN.out.2.2.1]; exact hfull)]
          rw [← HAF.out, e]
          exact ⟨rfl, Stp.of_below HX.out (HBW4.out.trans (HB6.out.mono HBW4.out.size))⟩
        · have hd : decide ((us : Int) + (sz : Int) > (lim : Int)) = false := by simp; omega
          have hd2 : decide ((lim : Int) < (us : Int) + (sz : Int)) = false := by simp; omega
          have hd3 : decide ((lim : Int) < IntKind.i64.wrap ((us : Int) + (sz : Int))) = false := by rw [IntWalk.i64_in _ (by omega)]; exact hd2
          refine wp_region_held_drew (S := (fun W => W.cell? ⟨w.heap.size, 0, none⟩ = some (.int .u8 (o.k : Int)) ∧ W.cell? ⟨w.heap.size, 1, none⟩ = some (.int .i64 o.tag) ∧ W.cell? ⟨w.heap.size, 2, none⟩ = some (.slice A ol c) ∧ W.cell? ⟨w.heap.size, 3, none⟩ = some (.string (str o.t)) ∧ W.cell? ⟨r, 0, none⟩ = some (.int .i64 (lim : Int)))) (by kernel_rfl) hS0 (fun hHeld => ?_)
          refine takeY 0 (some 29) rfl rfl (by kernel_rfl) (by kernel_rfl) (by kernel_rfl) (fun _ _ _ h => h) (by rfl) (v := _) (by (intro _ hSw; (try dsimp only at hSw); go_simp; try with_reducible rfl)) hHeld ?_
          simp only [Act.put, List.setIfInBounds_toArray, List.set_cons_zero, List.set_cons_succ]
          refine takeY 5 (some 34) rfl rfl (by kernel_rfl) (by kernel_rfl) (by kernel_rfl) (fun _ _ _ h => h) (by rfl) (v := _) (by (intro _ hSw; (try dsimp only at hSw); go_simp; try with_reducible rfl)) hHeld ?_
          simp only [Act.put, List.setIfInBounds_toArray, List.set_cons_zero, List.set_cons_succ]
          refine takeY 2 (some 31) rfl rfl (by kernel_rfl) (by kernel_rfl) (by kernel_rfl) (fun _ _ _ h => h) (by rfl) (v := _) (by (intro _ hSw; (try dsimp only at hSw); go_simp; try with_reducible rfl)) hHeld ?_
          simp only [Act.put, List.setIfInBounds_toArray, List.set_cons_zero, List.set_cons_succ]
          refine takeY 6 (some 35) rfl rfl (by kernel_rfl) (by kernel_rfl) (by kernel_rfl) (fun _ _ _ h => h) (by rfl) (v := _) (by (intro _ hSw; (try dsimp only at hSw); go_simp; try with_reducible rfl)) hHeld ?_
          simp only [Act.put, List.setIfInBounds_toArray, List.set_cons_zero, List.set_cons_succ]
          refine takeY 7 (some 36) rfl rfl (by kernel_rfl) (by kernel_rfl) (by kernel_rfl) (fun _ _ _ h => h) (by rfl) (v := _) (by (intro _ hSw; (try dsimp only at hSw); go_simp; try with_reducible rfl)) hHeld ?_
          simp only [Act.put, List.setIfInBounds_toArray, List.set_cons_zero, List.set_cons_succ]
          refine takeY 8 (some 37) rfl rfl (by kernel_rfl) (by kernel_rfl) (by kernel_rfl) (fun _ _ _ h => h) (by rfl) (v := _) (by (intro _ hSw; (try dsimp only at hSw); go_simp; try with_reducible rfl)) hHeld ?_
          simp only [Act.put, List.setIfInBounds_toArray, List.set_cons_zero, List.set_cons_succ]
          refine wpAnyH_ready (rs := [1]) (by kernel_rfl) (by simp) ?_
          refine AllReadyH.cons rfl (fun K hK => ?_) AllReadyH.nil
          clear hHeld
          go_simp
          go_wp2_with (go_at_call 19; refine Calls.mono HU.out ?_; rintro e w5 ⟨rfl, hb5⟩; have HB5 : Hid (Below w4.heap.size w4 w5) := Lib.hid hb5; clear hb5)
          refine hK.out _ _ ⟨(HB5.out.cell (World.block_lt_of_cell? _ _ (hS0.1))).trans hS0.1, (HB5.out.cell (World.block_lt_of_cell? _ _ (hS0.2.1))).trans hS0.2.1, (HB5.out.cell (World.block_lt_of_cell? _ _ (hS0.2.2.1))).trans hS0.2.2.1, (HB5.out.cell (World.block_lt_of_cell? _ _ (hS0.2.2.2.1))).trans hS0.2.2.2.1, (HB5.out.cell (World.block_lt_of_cell? _ _ (hS0.2.2.2.2))).trans hS0.2.2.2.2⟩ (fun hHeld => ?_)
          clear hK K
          refine wpAnyH_ready (rs := [3]) (by kernel_rfl) (by simp) ?_
          refine AllReadyH.cons rfl (fun K hK => ?_) AllReadyH.nil
          clear hHeld
          go_simp
          go_wp2_with (go_at_call 58; refine Calls.mono (HSZ.out w5) ?_; rintro e w6 ⟨rfl, hb6⟩; have HB6 : Hid (Below w4.heap.size w4 w6) := Lib.hid (HB5.out.trans (hb6.mono HB5.out.size)); clear hb6)
          refine hK.out _ _ ⟨(HB6.out.cell (World.block_lt_of_cell? _ _ (hS0.1))).trans hS0.1, (HB6.out.cell (World.block_lt_of_cell? _ _ (hS0.2.1))).trans hS0.2.1, (HB6.out.cell (World.block_lt_of_cell? _ _ (hS0.2.2.1))).trans hS0.2.2.1, (HB6.out.cell (World.block_lt_of_cell? _ _ (hS0.2.2.2.1))).trans hS0.2.2.2.1, (HB6.out.cell (World.block_lt_of_cell? _ _ (hS0.2.2.2.2))).trans hS0.2.2.2.2⟩ (fun hHeld => ?_)
          clear hK K
          refine takeY 4 (some 33) rfl rfl (by kernel_rfl) (by kernel_rfl) (by kernel_rfl) (fun _ _ _ h => h) (by rfl) (v := _) (by (intro _ hSw; (try dsimp only at hSw); go_simp; try with_reducible rfl)) hHeld ?_
          simp only [Act.put, List.setIfInBounds_toArray, List.set_cons_zero, List.set_cons_succ]
          refine takeY 9 (some 38) rfl rfl (by kernel_rfl) (by kernel_rfl) (by kernel_rfl) (fun _ _ _ h => h) (by rfl) (v := _) (by (intro _ hSw; (try dsimp only at hSw); go_simp; try with_reducible rfl)) hHeld ?_
          simp only [Act.put, List.setIfInBounds_toArray, List.set_cons_zero, List.set_cons_succ]
          refine wpAnyH_done (by kernel_rfl) ?_ _
          clear hHeld hS0
          have e : allocF H o = (allocH H o, H.count + 1, 0) := by unfold allocF; rw [if_neg HMAY.out.1, if_neg HMAY.out.2, if_neg (by rw [HN.out.1, HN.out.2.1, HN.out.2.2.1]; exact hfull)]
          have HE := Lib.hid (HAF.out.symm.trans e)
          clear e
          have h6 := HX4.out.below HB6.out
          have hB6 := HB4.out.below HB6.out HB4.out.lt
          have hrow6 := HROW4.out.below HB6.out
          have hbw6 := HBW4.out.trans (HB6.out.mono HBW4.out.size)
          have hs6 := HB6.out.size
          obtain ⟨q, cq, T, hm6, hsT⟩ := h6
          obtain ⟨n, hn⟩ : ∃ n, T.length = n := ⟨_, rfl⟩
          obtain ⟨XS, hXS⟩ : ∃ XS, (⟨o, true, on, false, A', c'⟩ : Tg) = XS := ⟨_, rfl⟩
          have hRA : ∀ p : Addr, A' = some p → R p.block = .no := fun p hp => by
            cases hr : R p.block with
            | no => rfl
            | _ =>
              have h1 := HX.out.lt p.block (by rw [hr]; intro e; cases e)
              have h2 := (HROW4.out.blk p hp).2.2.1
              have h3 := HSZW.out
              omega
          have hm7 : RM (w6.alloc (.cells #[.int .u8 (o.k : Int), .int .i64 o.tag, .slice A' ol c', .string (str o.t), .bool true, .int .i64 (on : Int), .bool false] 86)).drew r q cq R H.limit T := (hm6.below ((Below.refl _ _).alloc (Nat.le_refl _) _)).drew
          have hb7 : Below w6.heap.size w6 (w6.alloc (.cells #[.int .u8 (o.k : Int), .int .i64 o.tag, .slice A' ol c', .string (str o.t), .bool true, .int .i64 (on : Int), .bool false] 86)).drew := ((Below.refl _ w6).alloc (Nat.le_refl _) _).drew
          have hrow7 := hrow6.below hb7
          have hB7 := Blk.new w6 86 #[.int .u8 (o.k : Int), .int .i64 o.tag, .slice A' ol c', .string (str o.t), .bool true, .int .i64 (on : Int), .bool false]
          obtain ⟨q', c2, w8, hrun, ho8, hr8, hmk, hq', hq8⟩ := hm7.add ⟨o, true, on, false, A', c'⟩ (hrow7.mono (Nat.zero_le _)) hRA w6.heap.size (fun j v hj => by
            refine (hB7.cell j).trans ?_
            unfold tgC at hj
            dsimp only at hj
            rw [HN.out.2.2.2] at hj
            simpa using hj) (by rw [hsT.len]; have := HOK.out.2; omega)
          rw [hn] at hrun hmk
          have hbase : ∀ b, R b ≠ .no → b < w.heap.size := HX.out.lt
          have hz7 : ((w6.alloc (.cells #[.int .u8 (o.k : Int), .int .i64 o.tag, .slice A' ol c', .string (str o.t), .bool true, .int .i64 (on : Int), .bool false] 86)).drew).heap.size = w6.heap.size + 1 := by show (w6.alloc _).heap.size = _; rw [World.size_alloc]
          have hfin := hmk (fun b => if b = q' then .mp 0 else addR R n A' b) (fun b hb => by
            by_cases e : b = q'
            · rw [if_pos e]
              rcases hq' with h1 | h1
              · rw [e, h1, hm6.rq]
              · exfalso
                have := hbase b hb
                have h2 := hbw6.size
                rw [hz7] at h1
                omega
            · rw [if_neg e]
              exact addR_same (B := w.heap.size) (fun p hp => by have h2 := (HROW4.out.blk p hp).2.2.1; have h3 := HSZW.out; omega) hbase b hb) (fun p hp => by
            rw [if_neg, addR_at hp]
            intro e
            rcases hq' with h1 | h1
            · have h2 := hRA p hp
              rw [e, h1, hm6.rq] at h2
              cases h2
            · have h2 := (hrow6.blk p hp).2.2.2
              rw [hz7] at h1
              omega) (if_pos rfl) (fun b hb => by
            by_cases e : b = q'
            · rw [e]; exact hq8
            · rw [if_neg e] at hb
              have h9 := ho8.size
              rw [hz7] at h9
              rcases addR_or hb with h1 | ⟨p, hp, rfl⟩
              · have := hbase b h1
                have h2 := hbw6.size
                omega
              · have h2 := (hrow6.blk p hp).2.2.2
                omega)
          have hsf := hsT.add HOK.out.1 HMAY2.out (x' := ⟨o, true, on, false, A', c'⟩) rfl rfl HOID.out rfl
          have hst : Stp w (w8.setCell ⟨r, 1, none⟩ (.slice (some ⟨q', 0, none⟩) (n + 1) c2)) r R (allocH H o) := by
            refine ⟨_, ⟨q', c2, _, hfin, hsf⟩, ?_, fun b hb => ?_⟩
            · refine (((Off.of_new hbw6 _).trans (Off.of_below hb7 _ fun k h1 h2 => ?_)).trans (ho8.mono fun b _ e => ?_)).trans ((Off.setc _ _ _ _).mono fun b _ e => ?_)
              · omega
              · have e : b = q := e
                rw [e, hm6.rq]; intro e; cases e
              · have e : b = r := e
                rw [e, hm6.rg]; intro e; cases e
            · have h2 := hbw6.size
              by_cases e : b = q'
              · rcases hq' with h1 | h1
                · exact .inl (by rw [e, h1, hm6.rq]; intro e; cases e)
                · exact .inr (by rw [hz7] at h1; omega)
              · rw [if_neg e] at hb
                rcases addR_or hb with h1 | ⟨p, hp, rfl⟩
                · exact .inl h1
                · have h2 := (HROW4.out.blk p hp).2.2.1
                  have h3 := HSZW.out
                  exact .inr (by omega)
          have hnc : n = H.count + 1 := by rw [← hn]; exact hsT.len
          obtain ⟨c0, c1, cf⟩ := hm6.told
          rw [hn] at c1
          have k1 : w6.drew.cell? ⟨r, 1, none⟩ = some (.slice (some ⟨q, 0, none⟩) n cq) := c1
          have k2 := hm7.told.2.1
          rw [hn] at k2
          have k5 : (w6.alloc (.cells #[.int .u8 (o.k : Int), .int .i64 o.tag, .slice A' ol c', .string (str o.t), .bool true, .int .i64 (on : Int), .bool false] 86)).cell? ⟨r, 1, none⟩ = some (.slice (some ⟨q, 0, none⟩) n cq) := k2
          have hrl : r < w.heap.size := hbase r (by rw [hm6.rg]; intro e; cases e)
          have hrq : r ≠ q := fun e => by have := hm6.rg; rw [e, hm6.rq] at this; cases this
          have hh8 := (hm7.head.off ho8 hrq)
          have k3 := hh8.cell 1
          simp only [List.getElem?_toArray, List.getElem?_cons_zero, List.getElem?_cons_succ] at k3
          rw [hn] at k3
          have k4 := hh8.frozen
          have hSx : w6.cell? ⟨x0, 0, none⟩ = some (.int .u8 (o.k : Int)) ∧ w6.cell? ⟨x0, 1, none⟩ = some (.int .i64 o.tag) ∧ w6.cell? ⟨x0, 2, none⟩ = some (.slice A' ol c') ∧ w6.cell? ⟨x0, 3, none⟩ = some (.string (str o.t)) ∧ w6.cell? ⟨x0, 4, none⟩ = some (.bool true) ∧ w6.cell? ⟨x0, 5, none⟩ = some (.int .i64 (on : Int)) ∧ w6.cell? ⟨x0, 6, none⟩ = some (.bool false) := by
            have h2 := hB6.cell 2
            unfold tgC at h2
            dsimp only at h2
            rw [HN.out.2.2.2] at h2
            exact ⟨hB6.cell 0, hB6.cell 1, h2, hB6.cell 3, hB6.cell 4, hB6.cell 5, hB6.cell 6⟩
          have hx0q : x0 ≠ q := fun e => by
            have h1 := hbase q (by rw [hm6.rq]; intro e; cases e)
            have h2 := HX0.out
            omega
          have hx0r : x0 ≠ r := fun e => by have h2 := HX0.out; omega
          have hSx7 : Off (fun b => b = q) w6 w8 := (Off.of_below hb7 _ fun k h1 h2 => by omega).trans ho8
          have hB8 := hB6.off hSx7 hx0q
          have hB9 := hB8.far (p := ⟨r, 1, none⟩) hx0r (.slice (some ⟨q', 0, none⟩) (n + 1) c2)
          have HRUN := Lib.hid hrun
          have HST := Lib.hid hst
          have hcb := HOK.out.2
          have HNC := Lib.hid hnc
          have hnb : n ≤ 100001 := by omega
          have HB7 := Lib.hid (And.intro hb7 (And.intro hB8 (And.intro hB9 hSx)))
          have hlen9 : (w8.setCell ⟨r, 1, none⟩ (.slice (some ⟨q', 0, none⟩) (n + 1) c2)).cell? ⟨r, 1, none⟩ = some (.slice (some ⟨q', 0, none⟩) (n + 1) c2) := World.cell?_setCell_same _ _ _ k3
          have HL9 := Lib.hid hlen9
          clear hrun hst hsf hfin hmk hm7 hrow7 hB7 ho8 hq' hq8 hr8 hz7 hRA hB6 hrow6 hsT hn hXS hh8 hSx7 hB8 hB9 hb7 hm6 hbw6 hlen9 hbase hcb hnc hSx
          go_upto_region 11 with fail
          refine wp_region_held_drew (S := (fun W => W.cell? ⟨x0, 0, none⟩ = some (.int .u8 (o.k : Int)) ∧ W.cell? ⟨x0, 1, none⟩ = some (.int .i64 o.tag) ∧ W.cell? ⟨x0, 2, none⟩ = some (.slice A' ol c') ∧ W.cell? ⟨x0, 3, none⟩ = some (.string (str o.t)) ∧ W.cell? ⟨x0, 4, none⟩ = some (.bool true) ∧ W.cell? ⟨x0, 5, none⟩ = some (.int .i64 (on : Int)) ∧ W.cell? ⟨x0, 6, none⟩ = some (.bool false))) (by kernel_rfl) HB7.out.2.2.2 (fun hHeld => ?_)
          refine takeY 0 (some 39) rfl rfl (by kernel_rfl) (by kernel_rfl) (by kernel_rfl) (fun _ _ _ h => h) (by rfl) (v := _) (by (intro _ hSw; (try dsimp only at hSw); go_simp; try with_reducible rfl)) hHeld ?_
          simp only [Act.put, List.setIfInBounds_toArray, List.set_cons_zero, List.set_cons_succ]
          refine takeY 1 (some 40) rfl rfl (by kernel_rfl) (by kernel_rfl) (by kernel_rfl) (fun _ _ _ h => h) (by rfl) (v := _) (by (intro _ hSw; (try dsimp only at hSw); go_simp; try with_reducible rfl)) hHeld ?_
          simp only [Act.put, List.setIfInBounds_toArray, List.set_cons_zero, List.set_cons_succ]
          refine takeY 2 (some 41) rfl rfl (by kernel_rfl) (by kernel_rfl) (by kernel_rfl) (fun _ _ _ h => h) (by rfl) (v := _) (by (intro _ hSw; (try dsimp only at hSw); go_simp; try with_reducible rfl)) hHeld ?_
          simp only [Act.put, List.setIfInBounds_toArray, List.set_cons_zero, List.set_cons_succ]
          refine takeY 3 (some 42) rfl rfl (by kernel_rfl) (by kernel_rfl) (by kernel_rfl) (fun _ _ _ h => h) (by rfl) (v := _) (by (intro _ hSw; (try dsimp only at hSw); go_simp; try with_reducible rfl)) hHeld ?_
          simp only [Act.put, List.setIfInBounds_toArray, List.set_cons_zero, List.set_cons_succ]
          refine takeY 5 (some 44) rfl rfl (by kernel_rfl) (by kernel_rfl) (by kernel_rfl) (fun _ _ _ h => h) (by rfl) (v := _) (by (intro _ hSw; (try dsimp only at hSw); go_simp; try with_reducible rfl)) hHeld ?_
          simp only [Act.put, List.setIfInBounds_toArray, List.set_cons_zero, List.set_cons_succ]
          refine wpAnyH_ready (rs := [4, 6]) (by kernel_rfl) (by simp) ?_
          refine AllReadyH.cons rfl (fun K hK => ?_) (AllReadyH.cons rfl (fun K hK => ?_) AllReadyH.nil)
          · go_simp
            refine hK.out _ _ hHeld (fun hHeld => ?_)
            clear hK K
            refine wpAnyH_ready (rs := [6]) (by kernel_rfl) (by simp) ?_
            refine AllReadyH.cons rfl (fun K hK => ?_) AllReadyH.nil
            go_simp
            refine hK.out _ _ ⟨(HB7.out.1.cell (World.block_lt_of_cell? _ _ (HB7.out.2.2.2.1))).trans HB7.out.2.2.2.1, (HB7.out.1.cell (World.block_lt_of_cell? _ _ (HB7.out.2.2.2.2.1))).trans HB7.out.2.2.2.2.1, (HB7.out.1.cell (World.block_lt_of_cell? _ _ (HB7.out.2.2.2.2.2.1))).trans HB7.out.2.2.2.2.2.1, (HB7.out.1.cell (World.block_lt_of_cell? _ _ (HB7.out.2.2.2.2.2.2.1))).trans HB7.out.2.2.2.2.2.2.1, (HB7.out.1.cell (World.block_lt_of_cell? _ _ (HB7.out.2.2.2.2.2.2.2.1))).trans HB7.out.2.2.2.2.2.2.2.1, (HB7.out.1.cell (World.block_lt_of_cell? _ _ (HB7.out.2.2.2.2.2.2.2.2.1))).trans HB7.out.2.2.2.2.2.2.2.2.1, (HB7.out.1.cell (World.block_lt_of_cell? _ _ (HB7.out.2.2.2.2.2.2.2.2.2))).trans HB7.out.2.2.2.2.2.2.2.2.2⟩ (fun hHeld => ?_)
            clear hK K
            refine wpAnyH_ready (rs := [7]) (by kernel_rfl) (by simp) ?_
            refine AllReadyH.cons rfl (fun K hK => ?_) AllReadyH.nil
            clear hHeld
            refine step_app rfl (.tmp 43) (.tmp 45) 81 rfl _ _ _ _ (by simp [Act.eval]) (by simp [Act.eval]) HRUN.out ?_
            simp only [Act.put, List.setIfInBounds_toArray]
            refine hK.out _ _ ⟨(HB7.out.2.1.cell 0), (HB7.out.2.1.cell 1), (by have h2 := HB7.out.2.1.cell 2; unfold tgC at h2; dsimp only at h2; rw [HN.out.2.2.2] at h2; exact h2), (HB7.out.2.1.cell 3), (HB7.out.2.1.cell 4), (HB7.out.2.1.cell 5), (HB7.out.2.1.cell 6)⟩ (fun hHeld => ?_)
            clear hK K
            refine takeY 8 (some 47) rfl rfl (by kernel_rfl) (by kernel_rfl) (by kernel_rfl) (fun _ _ _ h => h) (by rfl) (v := _) (by (intro _ hSw; (try dsimp only at hSw); go_simp; try with_reducible rfl)) hHeld ?_
            simp only [Act.put, List.setIfInBounds_toArray, List.set_cons_zero, List.set_cons_succ]
            refine takeY 9 (some 48) rfl rfl (by kernel_rfl) (by kernel_rfl) (by kernel_rfl) (fun _ _ _ h => h) (by rfl) (v := _) (by (intro _ hSw; (try dsimp only at hSw); go_simp; try with_reducible rfl)) hHeld ?_
            simp only [Act.put, List.setIfInBounds_toArray, List.set_cons_zero, List.set_cons_succ]
            refine wpAnyH_ready (rs := [10]) (by kernel_rfl) (by simp) ?_
            refine AllReadyH.cons rfl (fun K hK => ?_) AllReadyH.nil
            go_simp
            refine hK.out _ _ ⟨(HB7.out.2.2.1.cell 0), (HB7.out.2.2.1.cell 1), (by have h2 := HB7.out.2.2.1.cell 2; unfold tgC at h2; dsimp only at h2; rw [HN.out.2.2.2] at h2; exact h2), (HB7.out.2.2.1.cell 3), (HB7.out.2.2.1.cell 4), (HB7.out.2.2.1.cell 5), (HB7.out.2.2.1.cell 6)⟩ (fun hHeld => ?_)
            clear hK K
            refine wpAnyH_done (by kernel_rfl) ?_ _
            obtain ⟨w9, hw9⟩ : ∃ w9, w8.setCell ⟨r, 1, none⟩ (.slice (some ⟨q', 0, none⟩) (n + 1) c2) = w9 := ⟨_, rfl⟩
            have c9 := HL9.out
            rw [hw9] at HST c9 ⊢
            clear hHeld k1 k2 k5 k3 k4 hw9 HL9
            go_wp2_with fail
            go_ret2
            rw [HE.out]
            refine ⟨?_, HST.out⟩
            rw [HNC.out]
            go_num
          · go_simp
            refine hK.out _ _ ⟨(HB7.out.1.cell (World.block_lt_of_cell? _ _ (HB7.out.2.2.2.1))).trans HB7.out.2.2.2.1, (HB7.out.1.cell (World.block_lt_of_cell? _ _ (HB7.out.2.2.2.2.1))).trans HB7.out.2.2.2.2.1, (HB7.out.1.cell (World.block_lt_of_cell? _ _ (HB7.out.2.2.2.2.2.1))).trans HB7.out.2.2.2.2.2.1, (HB7.out.1.cell (World.block_lt_of_cell? _ _ (HB7.out.2.2.2.2.2.2.1))).trans HB7.out.2.2.2.2.2.2.1, (HB7.out.1.cell (World.block_lt_of_cell? _ _ (HB7.out.2.2.2.2.2.2.2.1))).trans HB7.out.2.2.2.2.2.2.2.1, (HB7.out.1.cell (World.block_lt_of_cell? _ _ (HB7.out.2.2.2.2.2.2.2.2.1))).trans HB7.out.2.2.2.2.2.2.2.2.1, (HB7.out.1.cell (World.block_lt_of_cell? _ _ (HB7.out.2.2.2.2.2.2.2.2.2))).trans HB7.out.2.2.2.2.2.2.2.2.2⟩ (fun hHeld => ?_)
            clear hK K
            refine wpAnyH_ready (rs := [4]) (by kernel_rfl) (by simp) ?_
            refine AllReadyH.cons rfl (fun K hK => ?_) AllReadyH.nil
            go_simp
            refine hK.out _ _ hHeld (fun hHeld => ?_)
            clear hK K
            refine wpAnyH_ready (rs := [7]) (by kernel_rfl) (by simp) ?_
            refine AllReadyH.cons rfl (fun K hK => ?_) AllReadyH.nil
            clear hHeld
            refine step_app rfl (.tmp 43) (.tmp 45) 81 rfl _ _ _ _ (by simp [Act.eval]) (by simp [Act.eval]) HRUN.out ?_
            simp only [Act.put, List.setIfInBounds_toArray]
            refine hK.out _ _ ⟨(HB7.out.2.1.cell 0), (HB7.out.2.1.cell 1), (by have h2 := HB7.out.2.1.cell 2; unfold tgC at h2; dsimp only at h2; rw [HN.out.2.2.2] at h2; exact h2), (HB7.out.2.1.cell 3), (HB7.out.2.1.cell 4), (HB7.out.2.1.cell 5), (HB7.out.2.1.cell 6)⟩ (fun hHeld => ?_)
            clear hK K
            refine takeY 8 (some 47) rfl rfl (by kernel_rfl) (by kernel_rfl) (by kernel_rfl) (fun _ _ _ h => h) (by rfl) (v := _) (by (intro _ hSw; (try dsimp only at hSw); go_simp; try with_reducible rfl)) hHeld ?_
            simp only [Act.put, List.setIfInBounds_toArray, List.set_cons_zero, List.set_cons_succ]
            refine takeY 9 (some 48) rfl rfl (by kernel_rfl) (by kernel_rfl) (by kernel_rfl) (fun _ _ _ h => h) (by rfl) (v := _) (by (intro _ hSw; (try dsimp only at hSw); go_simp; try with_reducible rfl)) hHeld ?_
            simp only [Act.put, List.setIfInBounds_toArray, List.set_cons_zero, List.set_cons_succ]
            refine wpAnyH_ready (rs := [10]) (by kernel_rfl) (by simp) ?_
            refine AllReadyH.cons rfl (fun K hK => ?_) AllReadyH.nil
            go_simp
            refine hK.out _ _ ⟨(HB7.out.2.2.1.cell 0), (HB7.out.2.2.1.cell 1), (by have h2 := HB7.out.2.2.1.cell 2; unfold tgC at h2; dsimp only at h2; rw [HN.out.2.2.2] at h2; exact h2), (HB7.out.2.2.1.cell 3), (HB7.out.2.2.1.cell 4), (HB7.out.2.2.1.cell 5), (HB7.out.2.2.1.cell 6)⟩ (fun hHeld => ?_)
            clear hK K
            refine wpAnyH_done (by kernel_rfl) ?_ _
            obtain ⟨w9, hw9⟩ : ∃ w9, w8.setCell ⟨r, 1, none⟩ (.slice (some ⟨q', 0, none⟩) (n + 1) c2) = w9 := ⟨_, rfl⟩
            have c9 := HL9.out
            rw [hw9] at HST c9 ⊢
            clear hHeld k1 k2 k5 k3 k4 hw9 HL9
            go_wp2_with fail
            go_ret2
            rw [HE.out]
            refine ⟨?_, HST.out⟩
            rw [HNC.out]
            go_num
end
end Go.Proofs.Ytclkkfffecmjnaa
namespace Go.Proofs.Ytclkkfffecmjnaa
open Go.RowKit
set_option linter.unusedVariables false
set_option linter.unusedSimpArgs false
attribute [local go_sem] Oper.semAt_some
section
variable {w w' : World} {r t : Nat} {R : Nat → Lab} {H : HS}
theorem used_pos (hok : H.Ok t) {x : Ho} (hxl : x ∈ H.L) : 1 ≤ H.used := by
  have h9 := hok.sum
  have h10 : Hp.sizeO x.o ≤ Hp.total H.L := by
    clear h9
    generalize H.L = L at hxl
    induction L with
    | nil => cases hxl
    | cons a L ih =>
      unfold Hp.total at ih ⊢
      simp only [List.map_cons, List.sum_cons]
      rcases List.mem_cons.1 hxl with e | hxl
      · rw [e]; omega
      · have := ih hxl; omega
  have := Hp.sizeO_pos x.o
  omega
set_option maxRecDepth 20000 in
set_option maxHeartbeats 8000000 in
theorem rfill_any (h : RX w r R H) (hok : H.Ok t) (hcn : H.count ≤ 100000) (k : Int) (o : Ob) (A : Option Addr) (c : Nat) (ho : OArg w o A) :
    Calls Try.prog 55 #[.pointer (some ⟨r, 0, none⟩), .int .i64 k, obv o A c] w fun e w' => e = .returned (.int .i64 ((fillF H k o).2 : Int)) ∧ Stp w w' r R (fillF H k o).1 := by
  have hb := (Below.refl w.heap.size w).alloc (Nat.le_refl _) (obc o A c)
  have hB := Blk.new w 35 #[.int .u8 (o.k : Int), .int .i64 o.tag, .slice A o.ws.length c, .string (str o.t)]
  have H2 := refmay_any o A c _ (ho.below hb)
  obtain ⟨sz, hsz⟩ : ∃ s, Hp.sizeO o = s := ⟨_, rfl⟩
  have hszb : 1 ≤ sz ∧ sz ≤ 200000 := by
    rw [← hsz]
    have := ho.small
    refine ⟨Hp.sizeO_pos o, ?_⟩
    unfold Hp.sizeO
    have h1 := this.1
    have h2 := this.2.1
    split <;> omega
  have hroom := hok.room
  have HSZ0 := fun W => rsize_any o A c W ho.small
  obtain ⟨lim, hlim⟩ : ∃ s, H.limit = s := ⟨_, rfl⟩
  obtain ⟨us, hus⟩ : ∃ s, H.used = s := ⟨_, rfl⟩
  obtain ⟨ol, hol⟩ : ∃ s, o.ws.length = s := ⟨_, rfl⟩
  have hub : us ≤ lim ∧ 1 ≤ lim ∧ lim ≤ 16777216 := by rw [← hus, ← hlim]; exact hroom
  rw [hsz, hol] at HSZ0
  have HSZ := Lib.hid HSZ0
  have HN := Lib.hid (And.intro hsz (And.intro hlim (And.intro hus hol)))
  have HOK := Lib.hid (And.intro hok hcn)
  clear HSZ0 hroom
  obtain ⟨m, hmm⟩ : ∃ m, Hp.mayO o = m := ⟨_, rfl⟩
  rw [hmm] at H2
  have hrs : obv o A c = .agg #[.int .u8 (o.k : Int), .int .i64 o.tag, .slice A ol c, .string (str o.t)] := by rw [← hol]
  have hrs2 : obc o A c = .cells #[.int .u8 (o.k : Int), .int .i64 o.tag, .slice A ol c, .string (str o.t)] 35 := by rw [← hol]
  rw [hrs2] at hb H2
  rw [hol] at hB H2
  rw [hrs]
  have hX0 := h.below hb
  have H1 := rhas_rx hX0 hok k
  replace H2 := Lib.hid H2
  have HX := Lib.hid h
  have HB := Lib.hid (And.intro hb (And.intro hB ho))
  have HMM := Lib.hid hmm
  have hszw : (w.alloc (.cells #[.int .u8 (o.k : Int), .int .i64 o.tag, .slice A ol c, .string (str o.t)] 35)).heap.size = w.heap.size + 1 := by simp
  have HSW := Lib.hid hszw
  unfold fillF
  cases hx : H.obj k with
  | none =>
    rw [hx, Option.isSome_none] at H1
    dsimp only
    replace H1 := Lib.hid H1
    clear hb hB ho h hok hcn hsz hlim hus hol hmm hrs hrs2 hszw hX0 hx
    go_enter Try.func55, Try.ntmps55
    go_wp2_with fail
    refine H1.out.mono ?_
    rintro e w1 ⟨rfl, rfl⟩
    go_wp2_with fail
    go_ret
    exact ⟨rfl, Stp.of_below HX.out HB.out.1⟩
  | some x =>
    rw [hx, Option.isSome_some] at H1
    dsimp only
    replace H1 := Lib.hid H1
    obtain ⟨kn, n, q, cq, T, y, rfl, hxk, hlt, hnc, hTn, hm, hs, hy, s1, s2, s3, s4⟩ := hX0.at_ hok hx
    obtain ⟨c0, c1, cf⟩ := hm.told
    obtain ⟨q0, _⟩ := hm.row.told hy
    rw [hTn] at c1
    rw [s1] at q0
    have HXX := Lib.hid hx
    have HM0 := Lib.hid (And.intro hm (And.intro hs (And.intro hy (And.intro hTn (And.intro s1 (And.intro s2 (And.intro s3 (And.intro s4 (And.intro hxk hnc)))))))))
    clear hb hB ho h hok hcn hsz hlim hus hol hrs hrs2 hszw hX0 hx hm hs hy s1 s2 s3 s4 hTn hxk hnc
    by_cases h8 : x.o.k ≠ 8
    · rw [if_pos h8]
      have d8 : ((x.o.k : Int) != 8) = true := by simp; omega
      clear hmm h8
      go_enter Try.func55, Try.ntmps55
      go_wp2_with fail
      refine H1.out.mono ?_
      rintro e w1 ⟨rfl, rfl⟩
      go_wp2_with fail
      go_ret
      exact ⟨rfl, Stp.of_below HX.out HB.out.1⟩
    rw [if_neg h8]
    have h8' : x.o.k = 8 := by omega
    rw [h8'] at q0
    have HX8 := Lib.hid h8'
    clear h8 h8'
    cases m with
    | false =>
      have e : fillB o = false := by unfold fillB; rw [HMM.out]; rfl
      rw [if_pos e]
      clear e hmm
      go_enter Try.func55, Try.ntmps55
      go_wp2_with fail
      refine H1.out.mono ?_
      rintro e w1 ⟨rfl, rfl⟩
      go_wp2_with (go_at_call 39; refine Calls.mono H2.out ?_; rintro e w5 ⟨rfl, hb5⟩)
      go_ret
      exact ⟨rfl, Stp.of_below HX.out (HB.out.1.trans (hb5.mono HB.out.1.size))⟩
    | true =>
      clear hmm
      by_cases e6 : o.k = 6
      · have d6 : ((o.k : Int) == 6) = true := by rw [e6]; rfl
        have e : fillB o = false := by unfold fillB; simp [e6]
        rw [if_pos e]
        clear e e6
        go_enter Try.func55, Try.ntmps55
        go_wp2_with fail
        refine H1.out.mono ?_
        rintro e w1 ⟨rfl, rfl⟩
        go_wp2_with (go_at_call 39; refine Calls.mono H2.out ?_; rintro e w5 ⟨rfl, hb5⟩
                     have b0 := (HB.out.2.1.below hb5 HB.out.2.1.lt).cell 0
                     simp only [List.getElem?_toArray, List.getElem?_cons_zero] at b0)
        go_ret
        exact ⟨rfl, Stp.of_below HX.out (HB.out.1.trans (hb5.mono HB.out.1.size))⟩
      by_cases e7 : o.k = 7
      · have d6 : ((o.k : Int) == 6) = false := by simp; omega
        have d7 : ((o.k : Int) == 7) = true := by rw [e7]; rfl
        have e : fillB o = false := by unfold fillB; simp [e7]
        rw [if_pos e]
        clear e e7 e6
        go_enter Try.func55, Try.ntmps55
        go_wp2_with fail
        refine H1.out.mono ?_
        rintro e w1 ⟨rfl, rfl⟩
        go_wp2_with (go_at_call 39; refine Calls.mono H2.out ?_; rintro e w5 ⟨rfl, hb5⟩
                     have b0 := (HB.out.2.1.below hb5 HB.out.2.1.lt).cell 0
                     simp only [List.getElem?_toArray, List.getElem?_cons_zero] at b0)
        go_ret
        exact ⟨rfl, Stp.of_below HX.out (HB.out.1.trans (hb5.mono HB.out.1.size))⟩
      by_cases e8 : o.k = 8
      · have d6 : ((o.k : Int) == 6) = false := by simp; omega
        have d7 : ((o.k : Int) == 7) = false := by simp; omega
        have d8 : ((o.k : Int) == 8) = true := by rw [e8]; rfl
        have e : fillB o = false := by unfold fillB; simp [e8]
        rw [if_pos e]
        clear e e8 e7 e6
        go_enter Try.func55, Try.ntmps55
        go_wp2_with fail
        refine H1.out.mono ?_
        rintro e w1 ⟨rfl, rfl⟩
        go_wp2_with (go_at_call 39; refine Calls.mono H2.out ?_; rintro e w5 ⟨rfl, hb5⟩
                     have b0 := (HB.out.2.1.below hb5 HB.out.2.1.lt).cell 0
                     simp only [List.getElem?_toArray, List.getElem?_cons_zero] at b0)
        go_ret
        exact ⟨rfl, Stp.of_below HX.out (HB.out.1.trans (hb5.mono HB.out.1.size))⟩
      have d6 : ((o.k : Int) == 6) = false := by simp; omega
      have d7 : ((o.k : Int) == 7) = false := by simp; omega
      have d8 : ((o.k : Int) == 8) = false := by simp; omega
      have hfb : ¬ fillB o = false := by unfold fillB; rw [HMM.out]; simp [e6, e7, e8]
      rw [if_neg hfb]
      obtain ⟨FF, hFF⟩ : ∃ FF, (if H.limit - (H.used - 1) < Hp.sizeO o then (H, 6) else (fillH H x o, 0)) = FF := ⟨_, rfl⟩
      rw [hFF]
      have HFF := Lib.hid hFF
      have hus1 : 1 ≤ us := by rw [← HN.out.2.2.1]; exact used_pos HOK.out.1 (HS.obj_some HXX.out).1
      clear e6 e7 e8 hfb hFF
      go_enter Try.func55, Try.ntmps55
      go_wp2_with fail
      refine H1.out.mono ?_
      rintro e w1 ⟨rfl, rfl⟩
      go_upto_region 5 with fail
      go_wp2_with fail
      refine H2.out.mono ?_
      rintro e w2 ⟨rfl, hb2⟩
      obtain ⟨hb, hB, ho⟩ := HB.out
      have hbw2 := hb.trans (hb2.mono hb.size)
      have hB2 := hB.below hb2 hB.lt
      have hX2 := HX.out.below hbw2
      have hW2 := ho.words.below hbw2
      have b0 := hB2.cell 0
      have b1 := hB2.cell 1
      have b2 := hB2.cell 2
      have b3 := hB2.cell 3
      simp only [List.getElem?_toArray, List.getElem?_cons_zero, List.getElem?_cons_succ] at b0 b1 b2 b3
      have HO4 := Lib.hid hB2
      have HX4 := Lib.hid hX2
      have HBW4 := Lib.hid hbw2
      have HW2 := Lib.hid (And.intro hW2 ho.small)
      have hwsz := hb2.size
      rw [HSW.out] at hwsz
      have HSZW := Lib.hid hwsz
      clear hb hB ho hb2 hbw2 hB2 hX2 hW2 hwsz H1 H2 c0 c1 cf q0
      go_upto_region 7 with fail
      have hS0 : w2.cell? ⟨w.heap.size, 0, none⟩ = some (.int .u8 (o.k : Int)) ∧ w2.cell? ⟨w.heap.size, 1, none⟩ = some (.int .i64 o.tag) ∧ w2.cell? ⟨w.heap.size, 2, none⟩ = some (.slice A ol c) ∧ w2.cell? ⟨w.heap.size, 3, none⟩ = some (.string (str o.t)) ∧ w2.cell? ⟨r, 0, none⟩ = some (.int .i64 (lim : Int)) := by
        have h4 := HX4.out
        obtain ⟨q, cq, T, hm, _⟩ := h4
        have := hm.told.1
        rw [HN.out.2.1] at this
        exact ⟨HO4.out.cell 0, HO4.out.cell 1, HO4.out.cell 2, HO4.out.cell 3, this⟩
      have HU : Hid (Calls Try.prog 19 #[.pointer (some ⟨r, 0, none⟩)] w2.drew fun e w' => e = .returned (.int .i64 (us : Int)) ∧ Below w2.heap.size w2 w') := Lib.hid (by
        have h5 := rused_rx (HX4.out.keep (w' := w2.drew) (Nat.le_refl _) fun _ _ => rfl) HOK.out.1 HOK.out.2
        rw [HN.out.2.2.1] at h5
        refine h5.mono ?_
        rintro e w' ⟨rfl, hb⟩
        exact ⟨rfl, (Below.refl _ w2).drew.trans hb⟩)
      by_cases hfull : lim - (us - 1) < sz
      · have hd : decide ((us : Int) - 1 + (sz : Int) > (lim : Int)) = true := by simp; omega
        have hd2 : decide ((lim : Int) < (us : Int) - 1 + (sz : Int)) = true := by simp; omega
        have hd3 : decide ((lim : Int) < IntKind.i64.wrap (IntKind.i64.wrap ((us : Int) - 1) + (sz : Int))) = true := by rw [IntWalk.i64_in ((us : Int) - 1) (by omega), IntWalk.i64_in _ (by omega)]; exact hd2
        refine wp_region_held_drew (S := (fun W => W.cell? ⟨w.heap.size, 0, none⟩ = some (.int .u8 (o.k : Int)) ∧ W.cell? ⟨w.heap.size, 1, none⟩ = some (.int .i64 o.tag) ∧ W.cell? ⟨w.heap.size, 2, none⟩ = some (.slice A ol c) ∧ W.cell? ⟨w.heap.size, 3, none⟩ = some (.string (str o.t)) ∧ W.cell? ⟨r, 0, none⟩ = some (.int .i64 (lim : Int)))) (by kernel_rfl) hS0 (fun hHeld => ?_)
        refine takeY 0 (some 39) rfl rfl (by kernel_rfl) (by kernel_rfl) (by kernel_rfl) (fun _ _ _ h => h) (by rfl) (v := _) (by (intro _ hSw; (try dsimp only at hSw); go_simp; try with_reducible rfl)) hHeld ?_
        simp only [Act.put, List.setIfInBounds_toArray, List.set_cons_zero, List.set_cons_succ]
        refine takeY 6 (some 45) rfl rfl (by kernel_rfl) (by kernel_rfl) (by kernel_rfl) (fun _ _ _ h => h) (by rfl) (v := _) (by (intro _ hSw; (try dsimp only at hSw); go_simp; try with_reducible rfl)) hHeld ?_
        simp only [Act.put, List.setIfInBounds_toArray, List.set_cons_zero, List.set_cons_succ]
        refine takeY 3 (some 42) rfl rfl (by kernel_rfl) (by kernel_rfl) (by kernel_rfl) (fun _ _ _ h => h) (by rfl) (v := _) (by (intro _ hSw; (try dsimp only at hSw); go_simp; try with_reducible rfl)) hHeld ?_
        simp only [Act.put, List.setIfInBounds_toArray, List.set_cons_zero, List.set_cons_succ]
        refine takeY 7 (some 46) rfl rfl (by kernel_rfl) (by kernel_rfl) (by kernel_rfl) (fun _ _ _ h => h) (by rfl) (v := _) (by (intro _ hSw; (try dsimp only at hSw); go_simp; try with_reducible rfl)) hHeld ?_
        simp only [Act.put, List.setIfInBounds_toArray, List.set_cons_zero, List.set_cons_succ]
        refine takeY 8 (some 47) rfl rfl (by kernel_rfl) (by kernel_rfl) (by kernel_rfl) (fun _ _ _ h => h) (by rfl) (v := _) (by (intro _ hSw; (try dsimp only at hSw); go_simp; try with_reducible rfl)) hHeld ?_
        simp only [Act.put, List.setIfInBounds_toArray, List.set_cons_zero, List.set_cons_succ]
        refine takeY 9 (some 48) rfl rfl (by kernel_rfl) (by kernel_rfl) (by kernel_rfl) (fun _ _ _ h => h) (by rfl) (v := _) (by (intro _ hSw; (try dsimp only at hSw); go_simp; try with_reducible rfl)) hHeld ?_
        simp only [Act.put, List.setIfInBounds_toArray, List.set_cons_zero, List.set_cons_succ]
        refine wpAnyH_ready (rs := [1]) (by kernel_rfl) (by simp) ?_
        refine AllReadyH.cons rfl (fun K hK => ?_) AllReadyH.nil
        clear hHeld
        go_simp
        go_wp2_with (go_at_call 19; refine Calls.mono HU.out ?_; rintro e w5 ⟨rfl, hb5⟩; have HB5 : Hid (Below w2.heap.size w2 w5) := Lib.hid hb5; clear hb5)
        refine hK.out _ _ ⟨(HB5.out.cell (World.block_lt_of_cell? _ _ (hS0.1))).trans hS0.1, (HB5.out.cell (World.block_lt_of_cell? _ _ (hS0.2.1))).trans hS0.2.1, (HB5.out.cell (World.block_lt_of_cell? _ _ (hS0.2.2.1))).trans hS0.2.2.1, (HB5.out.cell (World.block_lt_of_cell? _ _ (hS0.2.2.2.1))).trans hS0.2.2.2.1, (HB5.out.cell (World.block_lt_of_cell? _ _ (hS0.2.2.2.2))).trans hS0.2.2.2.2⟩ (fun hHeld => ?_)
        clear hK K
        refine takeY 2 (some 41) rfl rfl (by kernel_rfl) (by kernel_rfl) (by kernel_rfl) (fun _ _ _ h => h) (by rfl) (v := _) (by (intro _ hSw; (try dsimp only at hSw); go_simp; try with_reducible rfl)) hHeld ?_
        simp only [Act.put, List.setIfInBounds_toArray, List.set_cons_zero, List.set_cons_succ]
        refine wpAnyH_ready (rs := [4]) (by kernel_rfl) (by simp) ?_
        refine AllReadyH.cons rfl (fun K hK => ?_) AllReadyH.nil
        clear hHeld
        go_simp
        go_wp2_with (go_at_call 58; refine Calls.mono (HSZ.out w5) ?_; rintro e w6 ⟨rfl, hb6⟩; have HB6 : Hid (Below w2.heap.size w2 w6) := Lib.hid (HB5.out.trans (hb6.mono HB5.out.size)); clear hb6)
        refine hK.out _ _ ⟨(HB6.out.cell (World.block_lt_of_cell? _ _ (hS0.1))).trans hS0.1, (HB6.out.cell (World.block_lt_of_cell? _ _ (hS0.2.1))).trans hS0.2.1, (HB6.out.cell (World.block_lt_of_cell? _ _ (hS0.2.2.1))).trans hS0.2.2.1, (HB6.out.cell (World.block_lt_of_cell? _ _ (hS0.2.2.2.1))).trans hS0.2.2.2.1, (HB6.out.cell (World.block_lt_of_cell? _ _ (hS0.2.2.2.2))).trans hS0.2.2.2.2⟩ (fun hHeld => ?_)
        clear hK K
        refine takeY 5 (some 44) rfl rfl (by kernel_rfl) (by kernel_rfl) (by kernel_rfl) (fun _ _ _ h => h) (by rfl) (v := _) (by (intro _ hSw; (try dsimp only at hSw); go_simp; try with_reducible rfl)) hHeld ?_
        simp only [Act.put, List.setIfInBounds_toArray, List.set_cons_zero, List.set_cons_succ]
        refine takeY 10 (some 49) rfl rfl (by kernel_rfl) (by kernel_rfl) (by kernel_rfl) (fun _ _ _ h => h) (by rfl) (v := _) (by (intro _ hSw; (try dsimp only at hSw); go_simp; try with_reducible rfl)) hHeld ?_
        simp only [Act.put, List.setIfInBounds_toArray, List.set_cons_zero, List.set_cons_succ]
        refine wpAnyH_done (by kernel_rfl) ?_ _
        clear hHeld hS0
        go_wp2_with fail
        go_ret
        have eF : FF = (H, 6) := by rw [← HFF.out, if_pos (by rw [HN.out.1, HN.out.2.1, HN.out.2.2.1]; exact hfull)]
        rw [eF]
        exact ⟨rfl, Stp.of_below HX.out (HBW4.out.trans (HB6.out.mono HBW4.out.size))⟩
      · have hd : decide ((us : Int) - 1 + (sz : Int) > (lim : Int)) = false := by simp; omega
        have hd2 : decide ((lim : Int) < (us : Int) - 1 + (sz : Int)) = false := by simp; omega
        have hd3 : decide ((lim : Int) < IntKind.i64.wrap (IntKind.i64.wrap ((us : Int) - 1) + (sz : Int))) = false := by rw [IntWalk.i64_in ((us : Int) - 1) (by omega), IntWalk.i64_in _ (by omega)]; exact hd2
        refine wp_region_held_drew (S := (fun W => W.cell? ⟨w.heap.size, 0, none⟩ = some (.int .u8 (o.k : Int)) ∧ W.cell? ⟨w.heap.size, 1, none⟩ = some (.int .i64 o.tag) ∧ W.cell? ⟨w.heap.size, 2, none⟩ = some (.slice A ol c) ∧ W.cell? ⟨w.heap.size, 3, none⟩ = some (.string (str o.t)) ∧ W.cell? ⟨r, 0, none⟩ = some (.int .i64 (lim : Int)))) (by kernel_rfl) hS0 (fun hHeld => ?_)
        refine takeY 0 (some 39) rfl rfl (by kernel_rfl) (by kernel_rfl) (by kernel_rfl) (fun _ _ _ h => h) (by rfl) (v := _) (by (intro _ hSw; (try dsimp only at hSw); go_simp; try with_reducible rfl)) hHeld ?_
        simp only [Act.put, List.setIfInBounds_toArray, List.set_cons_zero, List.set_cons_succ]
        refine takeY 6 (some 45) rfl rfl (by kernel_rfl) (by kernel_rfl) (by kernel_rfl) (fun _ _ _ h => h) (by rfl) (v := _) (by (intro _ hSw; (try dsimp only at hSw); go_simp; try with_reducible rfl)) hHeld ?_
        simp only [Act.put, List.setIfInBounds_toArray, List.set_cons_zero, List.set_cons_succ]
        refine takeY 3 (some 42) rfl rfl (by kernel_rfl) (by kernel_rfl) (by kernel_rfl) (fun _ _ _ h => h) (by rfl) (v := _) (by (intro _ hSw; (try dsimp only at hSw); go_simp; try with_reducible rfl)) hHeld ?_
        simp only [Act.put, List.setIfInBounds_toArray, List.set_cons_zero, List.set_cons_succ]
        refine takeY 7 (some 46) rfl rfl (by kernel_rfl) (by kernel_rfl) (by kernel_rfl) (fun _ _ _ h => h) (by rfl) (v := _) (by (intro _ hSw; (try dsimp only at hSw); go_simp; try with_reducible rfl)) hHeld ?_
        simp only [Act.put, List.setIfInBounds_toArray, List.set_cons_zero, List.set_cons_succ]
        refine takeY 8 (some 47) rfl rfl (by kernel_rfl) (by kernel_rfl) (by kernel_rfl) (fun _ _ _ h => h) (by rfl) (v := _) (by (intro _ hSw; (try dsimp only at hSw); go_simp; try with_reducible rfl)) hHeld ?_
        simp only [Act.put, List.setIfInBounds_toArray, List.set_cons_zero, List.set_cons_succ]
        refine takeY 9 (some 48) rfl rfl (by kernel_rfl) (by kernel_rfl) (by kernel_rfl) (fun _ _ _ h => h) (by rfl) (v := _) (by (intro _ hSw; (try dsimp only at hSw); go_simp; try with_reducible rfl)) hHeld ?_
        simp only [Act.put, List.setIfInBounds_toArray, List.set_cons_zero, List.set_cons_succ]
        refine wpAnyH_ready (rs := [1]) (by kernel_rfl) (by simp) ?_
        refine AllReadyH.cons rfl (fun K hK => ?_) AllReadyH.nil
        clear hHeld
        go_simp
        go_wp2_with (go_at_call 19; refine Calls.mono HU.out ?_; rintro e w5 ⟨rfl, hb5⟩; have HB5 : Hid (Below w2.heap.size w2 w5) := Lib.hid hb5; clear hb5)
        refine hK.out _ _ ⟨(HB5.out.cell (World.block_lt_of_cell? _ _ (hS0.1))).trans hS0.1, (HB5.out.cell (World.block_lt_of_cell? _ _ (hS0.2.1))).trans hS0.2.1, (HB5.out.cell (World.block_lt_of_cell? _ _ (hS0.2.2.1))).trans hS0.2.2.1, (HB5.out.cell (World.block_lt_of_cell? _ _ (hS0.2.2.2.1))).trans hS0.2.2.2.1, (HB5.out.cell (World.block_lt_of_cell? _ _ (hS0.2.2.2.2))).trans hS0.2.2.2.2⟩ (fun hHeld => ?_)
        clear hK K
        refine takeY 2 (some 41) rfl rfl (by kernel_rfl) (by kernel_rfl) (by kernel_rfl) (fun _ _ _ h => h) (by rfl) (v := _) (by (intro _ hSw; (try dsimp only at hSw); go_simp; try with_reducible rfl)) hHeld ?_
        simp only [Act.put, List.setIfInBounds_toArray, List.set_cons_zero, List.set_cons_succ]
        refine wpAnyH_ready (rs := [4]) (by kernel_rfl) (by simp) ?_
        refine AllReadyH.cons rfl (fun K hK => ?_) AllReadyH.nil
        clear hHeld
        go_simp
        go_wp2_with (go_at_call 58; refine Calls.mono (HSZ.out w5) ?_; rintro e w6 ⟨rfl, hb6⟩; have HB6 : Hid (Below w2.heap.size w2 w6) := Lib.hid (HB5.out.trans (hb6.mono HB5.out.size)); clear hb6)
        refine hK.out _ _ ⟨(HB6.out.cell (World.block_lt_of_cell? _ _ (hS0.1))).trans hS0.1, (HB6.out.cell (World.block_lt_of_cell? _ _ (hS0.2.1))).trans hS0.2.1, (HB6.out.cell (World.block_lt_of_cell? _ _ (hS0.2.2.1))).trans hS0.2.2.1, (HB6.out.cell (World.block_lt_of_cell? _ _ (hS0.2.2.2.1))).trans hS0.2.2.2.1, (HB6.out.cell (World.block_lt_of_cell? _ _ (hS0.2.2.2.2))).trans hS0.2.2.2.2⟩ (fun hHeld => ?_)
        clear hK K
        refine takeY 5 (some 44) rfl rfl (by kernel_rfl) (by kernel_rfl) (by kernel_rfl) (fun _ _ _ h => h) (by rfl) (v := _) (by (intro _ hSw; (try dsimp only at hSw); go_simp; try with_reducible rfl)) hHeld ?_
        simp only [Act.put, List.setIfInBounds_toArray, List.set_cons_zero, List.set_cons_succ]
        refine takeY 10 (some 49) rfl rfl (by kernel_rfl) (by kernel_rfl) (by kernel_rfl) (fun _ _ _ h => h) (by rfl) (v := _) (by (intro _ hSw; (try dsimp only at hSw); go_simp; try with_reducible rfl)) hHeld ?_
        simp only [Act.put, List.setIfInBounds_toArray, List.set_cons_zero, List.set_cons_succ]
        refine wpAnyH_done (by kernel_rfl) ?_ _
        clear hHeld hS0
        have eF : FF = (fillH H x o, 0) := by rw [← HFF.out, if_neg (by rw [HN.out.1, HN.out.2.1, HN.out.2.2.1]; exact hfull)]
        have HEF := Lib.hid eF
        clear eF
        have hbw6 := HBW4.out.trans (HB6.out.mono HBW4.out.size)
        obtain ⟨kn2, n2, q, cq, T, y, hkn2, hxk, hlt2, hnc, hTn, hm, hs, hy, s1, s2, s3, s4⟩ := (HX.out.below hbw6).at_ HOK.out.1 HXX.out
        obtain rfl : kn2 = kn := by omega
        obtain ⟨c0, c1, cf⟩ := hm.told
        rw [hTn] at c1
        have hO6 := HO4.out.below HB6.out HO4.out.lt
        have hS6 : w6.cell? ⟨w.heap.size, 0, none⟩ = some (.int .u8 (o.k : Int)) ∧ w6.cell? ⟨w.heap.size, 1, none⟩ = some (.int .i64 o.tag) ∧ w6.cell? ⟨w.heap.size, 2, none⟩ = some (.slice A ol c) ∧ w6.cell? ⟨w.heap.size, 3, none⟩ = some (.string (str o.t)) ∧ w6.cell? ⟨r, 1, none⟩ = some (.slice (some ⟨q, 0, none⟩) n2 cq) := by
          exact ⟨hO6.cell 0, hO6.cell 1, hO6.cell 2, hO6.cell 3, c1⟩
        have HC0 := copyobj_any o A c w6.drew HW2.out.2.1 ((HW2.out.1.below HB6.out).below (Below.refl _ w6).drew)
        rw [HN.out.2.2.2] at HC0
        have HC := Lib.hid HC0
        have HM6 := Lib.hid (And.intro hm (And.intro hs (And.intro hy (And.intro hTn (And.intro s1 (And.intro s2 (And.intro s3 (And.intro s4 (And.intro hxk hbw6)))))))))
        have hlt : kn2 < n2 := hlt2
        clear HC0 hO6 hm hs hy s1 s2 s3 s4 hTn hxk hbw6 hnc c0 c1 cf hkn2
        go_upto_region 9 with fail
        refine wp_region_held_drew (S := (fun W => W.cell? ⟨w.heap.size, 0, none⟩ = some (.int .u8 (o.k : Int)) ∧ W.cell? ⟨w.heap.size, 1, none⟩ = some (.int .i64 o.tag) ∧ W.cell? ⟨w.heap.size, 2, none⟩ = some (.slice A ol c) ∧ W.cell? ⟨w.heap.size, 3, none⟩ = some (.string (str o.t)) ∧ W.cell? ⟨r, 1, none⟩ = some (.slice (some ⟨q, 0, none⟩) n2 cq))) (by kernel_rfl) hS6 (fun hHeld => ?_)
        refine takeY 0 (some 50) rfl rfl (by kernel_rfl) (by kernel_rfl) (by kernel_rfl) (fun _ _ _ h => h) (by rfl) (v := _) (by (intro _ hSw; (try dsimp only at hSw); go_simp; try with_reducible rfl)) hHeld ?_
        simp only [Act.put, List.setIfInBounds_toArray, List.set_cons_zero, List.set_cons_succ]
        refine takeY 1 (some 51) rfl rfl (by kernel_rfl) (by kernel_rfl) (by kernel_rfl) (fun _ _ _ h => h) (by rfl) (v := _) (by (intro _ hSw; (try dsimp only at hSw); go_simp; try with_reducible rfl)) hHeld ?_
        simp only [Act.put, List.setIfInBounds_toArray, List.set_cons_zero, List.set_cons_succ]
        refine takeY 2 (some 52) rfl rfl (by kernel_rfl) (by kernel_rfl) (by kernel_rfl) (fun _ _ _ h => h) (by rfl) (v := _) (by (intro _ hSw; (try dsimp only at hSw); go_simp; try with_reducible rfl)) hHeld ?_
        simp only [Act.put, List.setIfInBounds_toArray, List.set_cons_zero, List.set_cons_succ]
        refine takeY 3 (some 53) rfl rfl (by kernel_rfl) (by kernel_rfl) (by kernel_rfl) (fun _ _ _ h => h) (by rfl) (v := _) (by (intro _ hSw; (try dsimp only at hSw); go_simp; try with_reducible rfl)) hHeld ?_
        simp only [Act.put, List.setIfInBounds_toArray, List.set_cons_zero, List.set_cons_succ]
        refine takeY 4 (some 54) rfl rfl (by kernel_rfl) (by kernel_rfl) (by kernel_rfl) (fun _ _ _ h => h) (by rfl) (v := _) (by (intro _ hSw; (try dsimp only at hSw); go_simp; try with_reducible rfl)) hHeld ?_
        simp only [Act.put, List.setIfInBounds_toArray, List.set_cons_zero, List.set_cons_succ]
        refine takeY 5 (some 55) rfl rfl (by kernel_rfl) (by kernel_rfl) (by kernel_rfl) (fun _ _ _ h => h) (by rfl) (v := _) (by (intro _ hSw; (try dsimp only at hSw); go_simp; try with_reducible rfl)) hHeld ?_
        simp only [Act.put, List.setIfInBounds_toArray, List.set_cons_zero, List.set_cons_succ]
        refine wpAnyH_ready (rs := [6]) (by kernel_rfl) (by simp) ?_
        refine AllReadyH.cons rfl (fun K hK => ?_) AllReadyH.nil
        clear hHeld
        go_simp
        go_wp2_with (go_at_call 38; refine Calls.mono HC.out ?_; rintro e w7 ⟨v, A', c', rfl, hv, hb7⟩; obtain ⟨rfl, hrow⟩ := hv; rw [HN.out.2.2.2]; have HB7 : Hid (Below w6.heap.size w6 w7) := Lib.hid ((Below.refl _ w6).drew.trans hb7); have HROW : Hid (WRow (w6.heap.size + 3) w7 A' o.ws.length c' o.ws) := Lib.hid hrow; clear hb7 hrow; have hm7 := HM6.out.1.below HB7.out; obtain ⟨p0, p1, p2, p3, _⟩ := hm7.row.told HM6.out.2.2.1; have pf := hm7.row.frozen; have HM7 := Lib.hid hm7; clear hm7)
        refine hK.out _ _ ⟨(HB7.out.cell (World.block_lt_of_cell? _ _ (hS6.1))).trans hS6.1, (HB7.out.cell (World.block_lt_of_cell? _ _ (hS6.2.1))).trans hS6.2.1, (HB7.out.cell (World.block_lt_of_cell? _ _ (hS6.2.2.1))).trans hS6.2.2.1, (HB7.out.cell (World.block_lt_of_cell? _ _ (hS6.2.2.2.1))).trans hS6.2.2.2.1, (HB7.out.cell (World.block_lt_of_cell? _ _ (hS6.2.2.2.2))).trans hS6.2.2.2.2⟩ (fun hHeld => ?_)
        clear hK K
        have hRA : ∀ p : Addr, A' = some p → R p.block = .no := fun p hp => by
          cases hr : R p.block with
          | no => rfl
          | _ =>
            have h1 := HX.out.lt p.block (by rw [hr]; intro e; cases e)
            have h2 := (HROW.out.blk p hp).2.2.1
            have h3 := HM6.out.2.2.2.2.2.2.2.2.2.size
            omega
        have hm8 := HM7.out.fill (o := o) (A := A') (c' := c') HM6.out.2.2.1 (HROW.out.mono (Nat.zero_le _)) hRA
        obtain ⟨w8, hw8⟩ : ∃ w8, (((w7.setCell ⟨q, kn2 * 7, none⟩ (.int .u8 (o.k : Int))).setCell ⟨q, kn2 * 7 + 1, none⟩ (.int .i64 o.tag)).setCell ⟨q, kn2 * 7 + 2, none⟩ (.slice A' ol c')).setCell ⟨q, kn2 * 7 + 3, none⟩ (.string (str o.t)) = w8 := ⟨_, rfl⟩
        rw [HN.out.2.2.2, hw8] at hm8
        have ho8 : Off (fun b => b = q) w7 w8 := by rw [← hw8]; exact offS (offS (offS (Off.setc _ _ _ _) _ _ _ rfl) _ _ _ rfl) _ _ _ rfl
        have hs8 : Says (fillH H x o) (T.set kn2 { y with o := o, A := A', c := c' }) := HM6.out.2.1.upd (H' := fillH H x o) (x' := { y with o := o, A := A', c := c' }) HOK.out.1 HXX.out (y := ⟨x.h, o, x.dirty⟩) rfl rfl rfl (fun j _ => rfl) rfl HM6.out.2.2.2.2.2.1 HM6.out.2.2.2.2.2.2.1 HM6.out.2.2.2.2.2.2.2.1
        have hst : Stp w w8 r R (fillH H x o) := by
          have hbw7 := HM6.out.2.2.2.2.2.2.2.2.2.trans (HB7.out.mono HM6.out.2.2.2.2.2.2.2.2.2.size)
          refine ⟨_, ⟨q, cq, _, hm8, hs8⟩, (Off.of_new hbw7 _).trans (ho8.mono fun b _ e => by have e : b = q := e; rw [e, HM6.out.1.rq]; intro e; cases e), fun b hb => ?_⟩
          rcases addR_or hb with h1 | ⟨p, hp, rfl⟩
          · exact .inl h1
          · have h2 := (HROW.out.blk p hp).2.2.1
            have h3 := HM6.out.2.2.2.2.2.2.2.2.2.size
            exact .inr (by omega)
        have hqw : ¬ w.heap.size = q := fun e => by have h1 := HX.out.lt q (by rw [HM6.out.1.rq]; intro e; cases e); omega
        have hO9 := ((HO4.out.below HB6.out HO4.out.lt).below HB7.out (Nat.lt_of_lt_of_le HO4.out.lt HB6.out.size)).off ho8 hqw
        have hO92 := hO9.cell 2
        simp only [List.getElem?_toArray, List.getElem?_cons_zero, List.getElem?_cons_succ] at hO92
        have hc19 := hm8.told.2.1
        rw [List.length_set, HM6.out.2.2.2.1] at hc19
        have HST := Lib.hid hst
        have HK := Lib.hid (And.intro hO9 (And.intro hO92 hc19))
        clear hm8 ho8 hs8 hst hRA hqw hO9 hO92 hc19
        refine takeY 7 (some 57) rfl rfl (by kernel_rfl) (by kernel_rfl) (by kernel_rfl) (fun _ _ _ h => h) (by rfl) (v := _) (by (intro _ hSw; (try dsimp only at hSw); go_simp; try with_reducible rfl)) hHeld ?_
        simp only [Act.put, List.setIfInBounds_toArray, List.set_cons_zero, List.set_cons_succ]
        refine takeY 8 (some 58) rfl rfl (by kernel_rfl) (by kernel_rfl) (by kernel_rfl) (fun _ _ _ h => h) (by rfl) (v := _) (by (intro _ hSw; (try dsimp only at hSw); go_simp; try with_reducible rfl)) hHeld ?_
        simp only [Act.put, List.setIfInBounds_toArray, List.set_cons_zero, List.set_cons_succ]
        refine wpAnyH_ready (rs := [9]) (by kernel_rfl) (by simp) ?_
        refine AllReadyH.cons rfl (fun K hK => ?_) AllReadyH.nil
        go_simp
        (try rw [hw8])
        refine hK.out _ _ ⟨HK.out.1.cell 0, HK.out.1.cell 1, HK.out.2.1, HK.out.1.cell 3, HK.out.2.2⟩ (fun hHeld => ?_)
        clear hK K
        refine wpAnyH_done (by kernel_rfl) ?_ _
        clear hHeld p0 p1 p2 p3 pf hw8
        go_wp2_with fail
        go_ret
        rw [HEF.out]
        exact ⟨rfl, HST.out⟩
end
end Go.Proofs.Ytclkkfffecmjnaa
