/- cover: takes. -/
import Derived.Test.YtigaondgopahgaaVt
namespace Go.Proofs.Ytigaondgopahgaa
open Go.RowKit Ty
set_option linter.unusedVariables false
set_option linter.unusedSimpArgs false
attribute [local go_sem] Oper.semAt_some
def Vl.val (v : Vl) (A : Option Addr) (c : Nat) : Value := .agg #[.string (str v.nm), .int .i64 v.n, .slice A v.ks.length c]
theorem takesL_take : ∀ {ps : List Ty} {vs : List Vl} {i : Nat} {p : Ty} {v : Vl}, ps[i]? = some p → vs[i]? = some v → takesL (ps.take (i + 1)) (vs.take (i + 1)) = (takesL (ps.take i) (vs.take i) && takes p v)
  | p :: ps, v :: vs, 0, q, u, h, k => by
    simp at h k
    subst h; subst k
    simp only [List.take_zero, List.take_succ_cons]
    rw [takesL_cons, takesL_nil, Bool.and_true]
    exact (Bool.true_and _).symm
  | p :: ps, v :: vs, i + 1, q, u, h, k => by
    rw [List.take_succ_cons, List.take_succ_cons, List.take_succ_cons, List.take_succ_cons, takesL_cons, takesL_cons, takesL_take (by simpa using h) (by simpa using k), Bool.and_assoc]
  | [], _, _, _, _, h, _ => by simp at h
  | _ :: _, [], _, _, _, _, k => by simp at k
theorem takesL_stop : ∀ {ps : List Ty} {vs : List Vl} {i : Nat} {p : Ty} {v : Vl}, ps[i]? = some p → vs[i]? = some v → takes p v = false → takesL ps vs = false
  | p :: ps, v :: vs, 0, q, u, h, k, e => by
    simp at h k
    subst h; subst k
    rw [takesL_cons, e, Bool.false_and]
  | p :: ps, v :: vs, i + 1, q, u, h, k, e => by
    rw [takesL_cons, takesL_stop (i := i) (by simpa using h) (by simpa using k) e, Bool.and_false]
  | [], _, _, _, _, h, _, _ => by simp at h
  | _ :: _, [], _, _, _, _, k, _ => by simp at k
set_option maxRecDepth 100000 in
set_option maxHeartbeats 8000000 in
theorem takes_any : ∀ (t : Ty) (A : Option Addr) (c : Nat) (v : Vl) (B : Option Addr) (d : Nat) (w : World), Te.in_ Everywhere w ⟨t, A, c⟩ → Ve.in_ Everywhere w ⟨v, B, d⟩ →
    Calls Try.prog 15 #[t.val A c, v.val B d] w fun e w' => e = .returned (.bool (takes t v)) ∧ Below w.heap.size w w' := Ty.ind fun k nm n ks ih A c v B d w hT hV => by
  obtain ⟨vnm, vi, us⟩ := v
  obtain ⟨hA, hok, hlc, hcm⟩ := hT
  have hcm : c ≤ maxLen := hcm
  obtain ⟨hB, hok2, hld, hdm⟩ := hV
  have hdm : d ≤ maxLen := hdm
  have hA : Ty.At Everywhere w A ks := hA
  have hB : Vl.At Everywhere w B us := hB
  have hlc : ks.length ≤ c := hlc
  have hld : us.length ≤ d := hld
  have hte := takes_eq (.node k nm n ks) (.node vnm vi us)
  change takes (.node k nm n ks) (.node vnm vi us) = (if k = 1 ∨ k = 2 then true else if k = 3 then (vnm.isEmpty && decide (n = vi)) else if k = 6 then (decide (nm = vnm) && (decide (ks.length = us.length) && takesL ks us)) else if k = 5 then (decide (ks.length = us.length) && takesL ks us) else false) at hte
  show Calls Try.prog 15 #[.agg #[.int .u8 (k : Int), .string (str nm), .int .i64 n, .slice A ks.length c], .agg #[.string (str vnm), .int .i64 vi, .slice B us.length d]] w fun e w' => e = .returned (.bool (takes (.node k nm n ks) (.node vnm vi us))) ∧ Below w.heap.size w w'
  obtain ⟨kl, hkl⟩ : ∃ kl, ks.length = kl := ⟨_, rfl⟩
  obtain ⟨ul, hul⟩ : ∃ ul, us.length = ul := ⟨_, rfl⟩
  rw [hkl] at hlc
  rw [hul] at hld
  rw [hkl, hul] at hte
  rw [hkl, hul]
  obtain ⟨tv, htv⟩ : ∃ tv, takes (.node k nm n ks) (.node vnm vi us) = tv := ⟨_, rfl⟩
  rw [htv]
  rw [htv] at hte
  have hmx : kl ≤ 9223372036854775807 := by unfold maxLen at hcm; omega
  obtain ⟨w1, hw1⟩ : ∃ W, w.alloc (.cells #[.int .u8 (k : Int), .string (str nm), .int .i64 n, .slice A kl c] 40) = W := ⟨_, rfl⟩
  have hb1 : Below w.heap.size w w1 := by rw [← hw1]; exact (Below.refl _ _).alloc (Nat.le_refl _) _
  have hB1 : Blk w1 w.heap.size 40 #[.int .u8 (k : Int), .string (str nm), .int .i64 n, .slice A kl c] := by rw [← hw1]; exact Blk.new _ _ _
  obtain ⟨q1, hq1⟩ : ∃ q, w.heap.size = q := ⟨_, rfl⟩
  rw [hq1] at hB1
  obtain ⟨w2, hw2⟩ : ∃ W, w1.alloc (.cells #[.string (str vnm), .int .i64 vi, .slice B ul d] 36) = W := ⟨_, rfl⟩
  have hb2 : Below w1.heap.size w1 w2 := by rw [← hw2]; exact (Below.refl _ _).alloc (Nat.le_refl _) _
  have hB2 : Blk w2 w1.heap.size 36 #[.string (str vnm), .int .i64 vi, .slice B ul d] := by rw [← hw2]; exact Blk.new _ _ _
  have hq2 : w1.heap.size = q1 + 1 := by rw [← hw1, ← hq1]; simp
  rw [hq2] at hB2
  have hb02 : Below w.heap.size w w2 := hb1.trans (hb2.mono hb1.size)
  have hB12 := hB1.below hb2 hB1.lt
  have HW := Lib.hid (And.intro hw1 (And.intro hq1 (And.intro hw2 hq2)))
  have HX : Hid (ks.length = kl ∧ us.length = ul ∧ (∀ W, Below w.heap.size w W → Ty.At Everywhere W A ks ∧ Vl.At Everywhere W B us) ∧ (∀ p ∈ ks, ∀ (A : Option Addr) (c : Nat) (v : Vl) (B : Option Addr) (d : Nat) (w : World), Te.in_ Everywhere w ⟨p, A, c⟩ → Ve.in_ Everywhere w ⟨v, B, d⟩ →
    Calls Try.prog 15 #[p.val A c, v.val B d] w fun e w' => e = .returned (.bool (takes p v)) ∧ Below w.heap.size w w') ∧ Below w.heap.size w w2) := Lib.hid ⟨hkl, hul, fun W hW => ⟨hA.bel hW, hB.bel hW⟩, ih, hb02⟩
  have HE := Lib.hid hte
  have hcells : ∀ W, Below w2.heap.size w2 W → (W.cell? ⟨q1, 0, none⟩ = some (.int .u8 (k : Int)) ∧ W.cell? ⟨q1, 1, none⟩ = some (.string (str nm)) ∧ W.cell? ⟨q1, 2, none⟩ = some (.int .i64 n) ∧ W.cell? ⟨q1, 3, none⟩ = some (.slice A kl c)) ∧ (W.cell? ⟨(q1 + 1), 0, none⟩ = some (.string (str vnm)) ∧ W.cell? ⟨(q1 + 1), 1, none⟩ = some (.int .i64 vi) ∧ W.cell? ⟨(q1 + 1), 2, none⟩ = some (.slice B ul d)) := fun W hW => by
    have h1 := hB12.below hW hB12.lt
    have h2 := hB2.below hW hB2.lt
    exact ⟨⟨h1.cell 0, h1.cell 1, h1.cell 2, h1.cell 3⟩, h2.cell 0, h2.cell 1, h2.cell 2⟩
  obtain ⟨⟨r0, r1, r2, r3⟩, s0, s1, s2⟩ := hcells w2 (Below.refl _ _)
  have HC := Lib.hid hcells
  have hok1 := hok.1
  clear hb1 hB1 hb2 hB2 hb02 hB12 hw1 hq1 hw2 hq2 hkl hul hA hB hok hok2 ih hcells hte htv
  have hk256 : k < 256 := hok1
  clear hok1
  go_enter Try.func15, Try.ntmps15
  go_upto_region 1 with fail
  (try rw [HW.out.1])
  (try rw [HW.out.2.1])
  (try rw [HW.out.2.2.1])
  (try rw [HW.out.2.2.2])
  clear HW
  by_cases h1 : k = 1 ∨ k = 2
  · have HV : Hid (tv = true) := Lib.hid (by rw [HE.out, if_pos h1])
    have HB := Lib.hid HX.out.2.2.2.2
    rcases h1 with h1 | h1
    · have e1 : ((k : Int) == 1) = true := by rw [h1]; rfl
      clear HE HX HC h1
      go_wp2_with fail
      go_ret
      exact ⟨by rw [HV.out] <;> rfl, HB.out⟩
    · have e1 : ((k : Int) == 1) = false := by rw [h1]; rfl
      have e2 : ((k : Int) == 2) = true := by rw [h1]; rfl
      clear HE HX HC h1
      go_wp2_with fail
      go_ret
      exact ⟨by rw [HV.out] <;> rfl, HB.out⟩
  · have n1 : ((k : Int) == 1) = false := by rw [beq_eq_false_iff_ne]; omega
    have n2 : ((k : Int) == 2) = false := by rw [beq_eq_false_iff_ne]; omega
    by_cases h3 : k = 3
    · have e3 : ((k : Int) == 3) = true := by rw [h3]; rfl
      have HV : Hid (tv = (vnm.isEmpty && decide (n = vi))) := Lib.hid (by rw [HE.out, if_neg h1, if_pos h3])
      have HB := Lib.hid HX.out.2.2.2.2
      clear HE HX HC h3 h1
      cases vnm with
      | cons x xs =>
        have hx : (str (x :: xs)).toList.isEmpty = false := by rw [str_toList]; rfl
        go_wp2_with fail
        go_ret
        exact ⟨by rw [HV.out] <;> rfl, HB.out⟩
      | nil =>
        have hx : (str []).toList.isEmpty = true := by rw [str_toList]; rfl
        by_cases hv : n = vi
        · have hq : (n == vi) = true := by rw [beq_iff_eq]; exact hv
          have HW : Hid (tv = true) := Lib.hid (by rw [HV.out, decide_eq_true hv]; rfl)
          clear hv
          go_wp2_with fail
          go_ret
          exact ⟨by rw [HW.out] <;> rfl, HB.out⟩
        · have hq : (n == vi) = false := by rw [beq_eq_false_iff_ne]; exact hv
          have HW : Hid (tv = false) := Lib.hid (by rw [HV.out, decide_eq_false hv]; rfl)
          clear hv
          go_wp2_with fail
          go_ret
          exact ⟨by rw [HW.out] <;> rfl, HB.out⟩
    · have n3 : ((k : Int) == 3) = false := by rw [beq_eq_false_iff_ne]; omega
      by_cases h56 : k = 5 ∨ k = 6
      · by_cases hnm : k = 6 ∧ nm ≠ vnm
        · have e6 : ((k : Int) == 6) = true := by rw [hnm.1]; rfl
          have hx : ((str nm).toList == (str vnm).toList) = false := by rw [str_toList, str_toList, beq_eq_false_iff_ne]; exact hnm.2
          have HV : Hid (tv = false) := Lib.hid (by rw [HE.out, if_neg h1, if_neg h3, if_pos hnm.1, decide_eq_false hnm.2]; rfl)
          have HB := Lib.hid HX.out.2.2.2.2
          clear HE HX HC h3 h1 h56 hnm
          go_wp2_with fail
          go_ret
          exact ⟨by rw [HV.out] <;> rfl, HB.out⟩
        · by_cases h6 : k = 6
          · have hnm : nm = vnm := Classical.byContradiction fun h => hnm ⟨h6, h⟩
            have e6 : ((k : Int) == 6) = true := by rw [h6]; rfl
            have hx : ((str nm).toList == (str vnm).toList) = true := by rw [str_toList, str_toList, hnm]; exact beq_self_eq_true _
            by_cases hkl : kl = ul
            · have hne : (((kl : Int)) == (ul : Int)) = true := by rw [hkl]; exact beq_self_eq_true _
              have HV : Hid (tv = takesL ks us) := Lib.hid (by rw [HE.out, if_neg h1, if_neg h3]; rw [if_pos h6, decide_eq_true hnm, Bool.true_and]; rw [decide_eq_true hkl]; rfl)
              have hul : ul = kl := hkl.symm
              have HU := Lib.hid hul
              clear hkl hul HE h1 h3 h6 hnm h56
              go_upto_region 14 with fail
              go_wp2_with fail
              go_loopw [5] (fun iv wr => ∃ (i : Nat), i ≤ kl ∧ iv = .int .i64 (i : Int) ∧ Hid (takesL (ks.take i) (us.take i) = true ∧ Below w2.heap.size w2 wr)) (fun iv _ => kl - (intOf iv).toNat)
              case atStart => exact ⟨0, Nat.zero_le _, rfl, Lib.hid ⟨by rw [List.take_zero, takesL_nil], Below.refl _ _⟩⟩
              case round =>
                obtain ⟨i, hi, rfl, hI⟩ := hrel
                obtain ⟨⟨r0, r1, r2, r3⟩, s0, s1, s2⟩ := HC.out wr hI.out.2
                by_cases hli : i < kl
                · have hd : decide ((i : Int) < (kl : Int)) = true := by simpa using hli
                  obtain ⟨p, hp⟩ : ∃ p, ks[i]? = some p := ⟨_, List.getElem?_eq_getElem (by rw [HX.out.1]; exact hli)⟩
                  obtain ⟨v, hv⟩ : ∃ v, us[i]? = some v := ⟨_, List.getElem?_eq_getElem (by rw [HX.out.2.1, HU.out]; exact hli)⟩
                  have hbw : Below w.heap.size w wr := HX.out.2.2.2.2.trans (hI.out.2.mono HX.out.2.2.2.2.size)
                  obtain ⟨hAr, hBr⟩ := HX.out.2.2.1 wr hbw
                  obtain ⟨b, off, A', c', rfl, _, hbl, z0, z1, z2, z3, hok, hlc, hcm, hAt⟩ := hAr.get hp
                  obtain ⟨b2, off2, B', d', rfl, _, hbl2, y0, y1, y2, hok2, hld, hdm, hBt⟩ := hBr.get hv
                  obtain ⟨pl, hpl⟩ : ∃ pl, p.ks.length = pl := ⟨_, rfl⟩
                  obtain ⟨vl, hvl⟩ : ∃ vl, v.ks.length = vl := ⟨_, rfl⟩
                  rw [hpl] at z3
                  rw [hvl] at y2
                  have hiu : i < ul := by rw [HU.out]; exact hli
                  have HQ := HX.out.2.2.2.1 p (List.mem_of_getElem? hp) A' c' v B' d' wr.drew ⟨hAt.bel (Below.refl _ wr).drew, hok, hlc, hcm⟩ ⟨hBt.bel (Below.refl _ wr).drew, hok2, hld, hdm⟩
                  unfold Ty.val Vl.val at HQ
                  rw [hpl, hvl] at HQ
                  replace HQ := Lib.hid HQ
                  obtain ⟨tq, htq⟩ : ∃ tq, takes p v = tq := ⟨_, rfl⟩
                  rw [htq] at HQ
                  have HP := Lib.hid (And.intro hp (And.intro hv (And.intro htq hbw)))
                  have HCC : Hid (∀ W, Below wr.heap.size wr W → (W.cell? ⟨q1, 3, none⟩ = some (.slice (some ⟨b, off, none⟩) kl c) ∧ W.cell? ⟨q1 + 1, 2, none⟩ = some (.slice (some ⟨b2, off2, none⟩) ul d)) ∧ (W.cell? ⟨b, off + i * 4, none⟩ = some (.int .u8 (p.k : Int)) ∧ W.cell? ⟨b, off + i * 4 + 1, none⟩ = some (.string (str p.nm)) ∧ W.cell? ⟨b, off + i * 4 + 2, none⟩ = some (.int .i64 p.n) ∧ W.cell? ⟨b, off + i * 4 + 3, none⟩ = some (.slice A' pl c')) ∧ W.cell? ⟨b2, off2 + i * 3, none⟩ = some (.string (str v.nm)) ∧ W.cell? ⟨b2, off2 + i * 3 + 1, none⟩ = some (.int .i64 v.n) ∧ W.cell? ⟨b2, off2 + i * 3 + 2, none⟩ = some (.slice B' vl d')) := Lib.hid fun W hW => by
                    obtain ⟨⟨_, _, _, r3'⟩, _, _, s2'⟩ := HC.out W (hI.out.2.trans (hW.mono hI.out.2.size))
                    exact ⟨⟨r3', s2'⟩, ⟨(hW.cell (p := ⟨b, _, none⟩) hbl).trans z0, (hW.cell (p := ⟨b, _, none⟩) hbl).trans z1, (hW.cell (p := ⟨b, _, none⟩) hbl).trans z2, (hW.cell (p := ⟨b, _, none⟩) hbl).trans z3⟩, (hW.cell (p := ⟨b2, _, none⟩) hbl2).trans y0, (hW.cell (p := ⟨b2, _, none⟩) hbl2).trans y1, (hW.cell (p := ⟨b2, _, none⟩) hbl2).trans y2⟩
                  clear r0 r1 r2 s0 s1 z0 z1 z2 z3 y0 y1 y2 hok hlc hcm hAt hok2 hld hdm hBt hAr hBr hbw hp hv htq hpl hvl hbl hbl2
                  go_upto_region 17 with fail
                  go_cut [66] from 48 to 66 (fun s wx => s = .bool (!tq) ∧ Hid (Below wr.heap.size wr wx))
                  case first =>
                    go_region_held3 (fun W => (W.cell? ⟨q1, 3, none⟩ = some (.slice (some ⟨b, off, none⟩) kl c) ∧ W.cell? ⟨q1 + 1, 2, none⟩ = some (.slice (some ⟨b2, off2, none⟩) ul d)) ∧ (W.cell? ⟨b, off + i * 4, none⟩ = some (.int .u8 (p.k : Int)) ∧ W.cell? ⟨b, off + i * 4 + 1, none⟩ = some (.string (str p.nm)) ∧ W.cell? ⟨b, off + i * 4 + 2, none⟩ = some (.int .i64 p.n) ∧ W.cell? ⟨b, off + i * 4 + 3, none⟩ = some (.slice A' pl c')) ∧ W.cell? ⟨b2, off2 + i * 3, none⟩ = some (.string (str v.nm)) ∧ W.cell? ⟨b2, off2 + i * 3 + 1, none⟩ = some (.int .i64 v.n) ∧ W.cell? ⟨b2, off2 + i * 3 + 2, none⟩ = some (.slice B' vl d'))
                      (first | exact HCC.out _ (Below.refl _ wr).drew | exact HCC.out _ hw7)
                      (first | (go_at_call 15; refine Calls.mono HQ.out ?_; rintro e w7 ⟨rfl, hb7⟩; have hw7 : Below wr.heap.size wr w7 := (Below.refl _ wr).drew.trans hb7))
                    all_goals
                      have HW := Lib.hid hw7
                      clear hb7 hw7
                      go_wp2_with fail
                      go_meet
                      exact ⟨rfl, HW⟩
                  case rest =>
                    obtain ⟨rfl, hcb⟩ := hcut
                    obtain ⟨w8, rfl⟩ : ∃ v, v = wc := ⟨_, rfl⟩
                    clear r3 s2 HQ HCC
                    cases tq with
                    | false =>
                      have HF : Hid (tv = false) := Lib.hid (by rw [HV.out]; exact takesL_stop HP.out.1 HP.out.2.1 HP.out.2.2.1)
                      have HB : Hid (Below w.heap.size w w8) := Lib.hid (HP.out.2.2.2.trans (hcb.out.mono HP.out.2.2.2.size))
                      clear hcb
                      go_wp2_with fail
                      go_ret
                      exact ⟨by rw [HF.out] <;> rfl, HB.out⟩
                    | true =>
                      have HN : Hid (takesL (ks.take (i + 1)) (us.take (i + 1)) = true ∧ Below w2.heap.size w2 w8) := Lib.hid ⟨by rw [takesL_take HP.out.1 HP.out.2.1, hI.out.1, HP.out.2.2.1]; rfl, hI.out.2.trans (hcb.out.mono hI.out.2.size)⟩
                      clear hcb
                      go_wp2_with fail
                      go_roundw
                      case rel => exact ⟨i + 1, by omega, by go_num, HN⟩
                      case measure => simp [intOf]; omega
                · obtain rfl : i = kl := by omega
                  have hd : decide ((i : Int) < (i : Int)) = false := by simp
                  have HF : Hid (tv = true) := Lib.hid (by
                    have := hI.out.1
                    rw [List.take_of_length_le (by rw [HX.out.1]; exact Nat.le_refl _), List.take_of_length_le (by rw [HX.out.2.1, HU.out]; exact Nat.le_refl _)] at this
                    rw [HV.out, this])
                  have HB : Hid (Below w.heap.size w wr) := Lib.hid (HX.out.2.2.2.2.trans (hI.out.2.mono HX.out.2.2.2.2.size))
                  go_wp2_with fail
                  go_ret
                  exact ⟨by rw [HF.out] <;> rfl, HB.out⟩
            · have hne : (((kl : Int)) == (ul : Int)) = false := by rw [beq_eq_false_iff_ne]; omega
              have HV : Hid (tv = false) := Lib.hid (by rw [HE.out, if_neg h1, if_neg h3]; rw [if_pos h6, decide_eq_true hnm, Bool.true_and]; rw [decide_eq_false hkl]; rfl)
              have HB := Lib.hid HX.out.2.2.2.2
              clear HE HX HC h3 h1 hkl h6 hnm h56
              go_wp2_with fail
              go_ret
              exact ⟨by rw [HV.out] <;> rfl, HB.out⟩
          · have h5 : k = 5 := by omega
            have e5 : ((k : Int) == 5) = true := by rw [h5]; rfl
            have n6 : ((k : Int) == 6) = false := by rw [h5]; rfl
            by_cases hkl : kl = ul
            · have hne : (((kl : Int)) == (ul : Int)) = true := by rw [hkl]; exact beq_self_eq_true _
              have HV : Hid (tv = takesL ks us) := Lib.hid (by rw [HE.out, if_neg h1, if_neg h3]; rw [if_neg h6, if_pos h5]; rw [decide_eq_true hkl]; rfl)
              have hul : ul = kl := hkl.symm
              have HU := Lib.hid hul
              clear hkl hul HE h1 h3 h5 h6 h56 hnm
              go_upto_region 14 with fail
              go_wp2_with fail
              go_loopw [5] (fun iv wr => ∃ (i : Nat), i ≤ kl ∧ iv = .int .i64 (i : Int) ∧ Hid (takesL (ks.take i) (us.take i) = true ∧ Below w2.heap.size w2 wr)) (fun iv _ => kl - (intOf iv).toNat)
              case atStart => exact ⟨0, Nat.zero_le _, rfl, Lib.hid ⟨by rw [List.take_zero, takesL_nil], Below.refl _ _⟩⟩
              case round =>
                obtain ⟨i, hi, rfl, hI⟩ := hrel
                obtain ⟨⟨r0, r1, r2, r3⟩, s0, s1, s2⟩ := HC.out wr hI.out.2
                by_cases hli : i < kl
                · have hd : decide ((i : Int) < (kl : Int)) = true := by simpa using hli
                  obtain ⟨p, hp⟩ : ∃ p, ks[i]? = some p := ⟨_, List.getElem?_eq_getElem (by rw [HX.out.1]; exact hli)⟩
                  obtain ⟨v, hv⟩ : ∃ v, us[i]? = some v := ⟨_, List.getElem?_eq_getElem (by rw [HX.out.2.1, HU.out]; exact hli)⟩
                  have hbw : Below w.heap.size w wr := HX.out.2.2.2.2.trans (hI.out.2.mono HX.out.2.2.2.2.size)
                  obtain ⟨hAr, hBr⟩ := HX.out.2.2.1 wr hbw
                  obtain ⟨b, off, A', c', rfl, _, hbl, z0, z1, z2, z3, hok, hlc, hcm, hAt⟩ := hAr.get hp
                  obtain ⟨b2, off2, B', d', rfl, _, hbl2, y0, y1, y2, hok2, hld, hdm, hBt⟩ := hBr.get hv
                  obtain ⟨pl, hpl⟩ : ∃ pl, p.ks.length = pl := ⟨_, rfl⟩
                  obtain ⟨vl, hvl⟩ : ∃ vl, v.ks.length = vl := ⟨_, rfl⟩
                  rw [hpl] at z3
                  rw [hvl] at y2
                  have hiu : i < ul := by rw [HU.out]; exact hli
                  have HQ := HX.out.2.2.2.1 p (List.mem_of_getElem? hp) A' c' v B' d' wr.drew ⟨hAt.bel (Below.refl _ wr).drew, hok, hlc, hcm⟩ ⟨hBt.bel (Below.refl _ wr).drew, hok2, hld, hdm⟩
                  unfold Ty.val Vl.val at HQ
                  rw [hpl, hvl] at HQ
                  replace HQ := Lib.hid HQ
                  obtain ⟨tq, htq⟩ : ∃ tq, takes p v = tq := ⟨_, rfl⟩
                  rw [htq] at HQ
                  have HP := Lib.hid (And.intro hp (And.intro hv (And.intro htq hbw)))
                  have HCC : Hid (∀ W, Below wr.heap.size wr W → (W.cell? ⟨q1, 3, none⟩ = some (.slice (some ⟨b, off, none⟩) kl c) ∧ W.cell? ⟨q1 + 1, 2, none⟩ = some (.slice (some ⟨b2, off2, none⟩) ul d)) ∧ (W.cell? ⟨b, off + i * 4, none⟩ = some (.int .u8 (p.k : Int)) ∧ W.cell? ⟨b, off + i * 4 + 1, none⟩ = some (.string (str p.nm)) ∧ W.cell? ⟨b, off + i * 4 + 2, none⟩ = some (.int .i64 p.n) ∧ W.cell? ⟨b, off + i * 4 + 3, none⟩ = some (.slice A' pl c')) ∧ W.cell? ⟨b2, off2 + i * 3, none⟩ = some (.string (str v.nm)) ∧ W.cell? ⟨b2, off2 + i * 3 + 1, none⟩ = some (.int .i64 v.n) ∧ W.cell? ⟨b2, off2 + i * 3 + 2, none⟩ = some (.slice B' vl d')) := Lib.hid fun W hW => by
                    obtain ⟨⟨_, _, _, r3'⟩, _, _, s2'⟩ := HC.out W (hI.out.2.trans (hW.mono hI.out.2.size))
                    exact ⟨⟨r3', s2'⟩, ⟨(hW.cell (p := ⟨b, _, none⟩) hbl).trans z0, (hW.cell (p := ⟨b, _, none⟩) hbl).trans z1, (hW.cell (p := ⟨b, _, none⟩) hbl).trans z2, (hW.cell (p := ⟨b, _, none⟩) hbl).trans z3⟩, (hW.cell (p := ⟨b2, _, none⟩) hbl2).trans y0, (hW.cell (p := ⟨b2, _, none⟩) hbl2).trans y1, (hW.cell (p := ⟨b2, _, none⟩) hbl2).trans y2⟩
                  clear r0 r1 r2 s0 s1 z0 z1 z2 z3 y0 y1 y2 hok hlc hcm hAt hok2 hld hdm hBt hAr hBr hbw hp hv htq hpl hvl hbl hbl2
                  go_upto_region 17 with fail
                  go_cut [66] from 48 to 66 (fun s wx => s = .bool (!tq) ∧ Hid (Below wr.heap.size wr wx))
                  case first =>
                    go_region_held3 (fun W => (W.cell? ⟨q1, 3, none⟩ = some (.slice (some ⟨b, off, none⟩) kl c) ∧ W.cell? ⟨q1 + 1, 2, none⟩ = some (.slice (some ⟨b2, off2, none⟩) ul d)) ∧ (W.cell? ⟨b, off + i * 4, none⟩ = some (.int .u8 (p.k : Int)) ∧ W.cell? ⟨b, off + i * 4 + 1, none⟩ = some (.string (str p.nm)) ∧ W.cell? ⟨b, off + i * 4 + 2, none⟩ = some (.int .i64 p.n) ∧ W.cell? ⟨b, off + i * 4 + 3, none⟩ = some (.slice A' pl c')) ∧ W.cell? ⟨b2, off2 + i * 3, none⟩ = some (.string (str v.nm)) ∧ W.cell? ⟨b2, off2 + i * 3 + 1, none⟩ = some (.int .i64 v.n) ∧ W.cell? ⟨b2, off2 + i * 3 + 2, none⟩ = some (.slice B' vl d'))
                      (first | exact HCC.out _ (Below.refl _ wr).drew | exact HCC.out _ hw7)
                      (first | (go_at_call 15; refine Calls.mono HQ.out ?_; rintro e w7 ⟨rfl, hb7⟩; have hw7 : Below wr.heap.size wr w7 := (Below.refl _ wr).drew.trans hb7))
                    all_goals
                      have HW := Lib.hid hw7
                      clear hb7 hw7
                      go_wp2_with fail
                      go_meet
                      exact ⟨rfl, HW⟩
                  case rest =>
                    obtain ⟨rfl, hcb⟩ := hcut
                    obtain ⟨w8, rfl⟩ : ∃ v, v = wc := ⟨_, rfl⟩
                    clear r3 s2 HQ HCC
                    cases tq with
                    | false =>
                      have HF : Hid (tv = false) := Lib.hid (by rw [HV.out]; exact takesL_stop HP.out.1 HP.out.2.1 HP.out.2.2.1)
                      have HB : Hid (Below w.heap.size w w8) := Lib.hid (HP.out.2.2.2.trans (hcb.out.mono HP.out.2.2.2.size))
                      clear hcb
                      go_wp2_with fail
                      go_ret
                      exact ⟨by rw [HF.out] <;> rfl, HB.out⟩
                    | true =>
                      have HN : Hid (takesL (ks.take (i + 1)) (us.take (i + 1)) = true ∧ Below w2.heap.size w2 w8) := Lib.hid ⟨by rw [takesL_take HP.out.1 HP.out.2.1, hI.out.1, HP.out.2.2.1]; rfl, hI.out.2.trans (hcb.out.mono hI.out.2.size)⟩
                      clear hcb
                      go_wp2_with fail
                      go_roundw
                      case rel => exact ⟨i + 1, by omega, by go_num, HN⟩
                      case measure => simp [intOf]; omega
                · obtain rfl : i = kl := by omega
                  have hd : decide ((i : Int) < (i : Int)) = false := by simp
                  have HF : Hid (tv = true) := Lib.hid (by
                    have := hI.out.1
                    rw [List.take_of_length_le (by rw [HX.out.1]; exact Nat.le_refl _), List.take_of_length_le (by rw [HX.out.2.1, HU.out]; exact Nat.le_refl _)] at this
                    rw [HV.out, this])
                  have HB : Hid (Below w.heap.size w wr) := Lib.hid (HX.out.2.2.2.2.trans (hI.out.2.mono HX.out.2.2.2.2.size))
                  go_wp2_with fail
                  go_ret
                  exact ⟨by rw [HF.out] <;> rfl, HB.out⟩
            · have hne : (((kl : Int)) == (ul : Int)) = false := by rw [beq_eq_false_iff_ne]; omega
              have HV : Hid (tv = false) := Lib.hid (by rw [HE.out, if_neg h1, if_neg h3]; rw [if_neg h6, if_pos h5]; rw [decide_eq_false hkl]; rfl)
              have HB := Lib.hid HX.out.2.2.2.2
              clear HE HX HC h3 h1 hkl h5 h6 h56 hnm
              go_wp2_with fail
              go_ret
              exact ⟨by rw [HV.out] <;> rfl, HB.out⟩
      · have n5 : ((k : Int) == 5) = false := by rw [beq_eq_false_iff_ne]; omega
        have n6 : ((k : Int) == 6) = false := by rw [beq_eq_false_iff_ne]; omega
        have HV : Hid (tv = false) := Lib.hid (by rw [HE.out, if_neg h1, if_neg h3, if_neg (by omega), if_neg (by omega)])
        have HB := Lib.hid HX.out.2.2.2.2
        clear HE HX HC h3 h1 h56
        go_wp2_with fail
        go_ret
        exact ⟨by rw [HV.out] <;> rfl, HB.out⟩
end Go.Proofs.Ytigaondgopahgaa
