/- cover: heads. -/
import Derived.Test.YtigaondgopahgaaHd
namespace Go.Proofs.Ytigaondgopahgaa
open Go.RowKit
set_option linter.unusedVariables false
set_option linter.unusedSimpArgs false
attribute [local go_sem] Oper.semAt_some
/-- Between the rounds of heads. -/
structure HsI (w wr : World) (ps : List Ty) (i : Nat) (lv : Value) (hs : List Head) : Prop where
  bel : Below w.heap.size w wr
  own : HdO w.heap.size wr lv hs
  is : heads (ps.take i) = hs
theorem mem_snoc {h x : Head} {hs : List Head} {j : Nat} (hx : hs[j]? = some x) : decide (h ∈ hs.take (j + 1)) = (decide (h ∈ hs.take j) || decide (x = h)) := by
  rw [List.take_add_one, hx, Bool.eq_iff_iff]
  simp
  constructor
  · rintro (a | a)
    · exact .inl a
    · exact .inr a.symm
  · rintro (a | a)
    · exact .inl a
    · exact .inr a.symm
set_option maxRecDepth 20000 in
set_option maxHeartbeats 8000000 in
theorem heads_any {F : Nat → Prop} (ps : List Ty) (A : Option Addr) (c : Nat) (w : World) (hA : Ty.At F w A ps) (hc : ps.length ≤ c) (hm : c ≤ maxLen) (hpl : ps.length ≤ 100000) :
    Calls Try.prog 27 #[.slice A ps.length c] w fun e w' => ∃ A' c', e = .returned (.slice A' (heads ps).length c') ∧ (heads ps).length ≤ c' ∧ c' ≤ maxLen ∧ HAt w' A' (heads ps) ∧ Below w.heap.size w w' := by
  obtain ⟨n, hn⟩ : ∃ n, ps.length = n := ⟨_, rfl⟩
  rw [hn] at hc hpl ⊢
  have hmx : n ≤ 9223372036854775807 := by omega
  have HK := Lib.hid (And.intro hn hA)
  have HS : Hid (HsI w w ps 0 (.slice none 0 0) []) := Lib.hid ⟨Below.refl _ _, HdO.nil _ _, by rw [List.take_zero]; rfl⟩
  clear hn hA hc hm
  go_enter Try.func27, Try.ntmps27
  go_wp2_with fail
  go_loopw [3, 12] (fun lv iv wr => ∃ (i : Nat) (hs : List Head) (Al : Option Addr) (cl : Nat), i ≤ n ∧ iv = .int .i64 (i : Int) ∧ lv = .slice Al hs.length cl ∧ Hid (HsI w wr ps i (.slice Al hs.length cl) hs)) (fun _ iv _ => n - (intOf iv).toNat)
  case atStart => exact ⟨0, [], none, 0, Nat.zero_le _, rfl, rfl, HS⟩
  case round =>
    clear HS
    obtain ⟨i, hs, Al, cl, hi, rfl, rfl, hX⟩ := hrel
    obtain ⟨wo, rfl⟩ : ∃ wo : World, wo = wr := ⟨_, rfl⟩
    obtain ⟨hl, hhl⟩ : ∃ hl, hs.length = hl := ⟨_, rfl⟩
    rw [hhl] at hX ⊢
    by_cases hli : i < n
    · have hd : decide ((i : Int) < (n : Int)) = true := by simpa using hli
      obtain ⟨t, ht⟩ : ∃ t, ps[i]? = some t := ⟨_, List.getElem?_eq_getElem (by rw [HK.out.1]; exact hli)⟩
      obtain ⟨b, off, A', c', rfl, _, hbl, z0, z1, z2, z3, hok, hlc, hcm, hAt⟩ := (HK.out.2.off (Off.of_new hX.out.bel (fun _ => False)) (fun _ _ h => h)).get ht
      have hsn := heads_snoc (ps.take i) t
      rw [show ps.take i ++ [t] = ps.take (i + 1) by rw [List.take_add_one, ht]; rfl, hX.out.is] at hsn
      obtain ⟨tl, htl⟩ : ∃ tl, t.ks.length = tl := ⟨_, rfl⟩
      obtain ⟨w6, hw6⟩ : ∃ w6, wo.alloc (.cells #[.int .u8 (t.k : Int), .string (str t.nm), .int .i64 t.n, .slice A' tl c'] 40) = w6 := ⟨_, rfl⟩
      have hb6 : Below wo.heap.size wo w6 := by rw [← hw6]; exact (Below.refl _ _).alloc (Nat.le_refl _) _
      have hB6 : Blk w6 wo.heap.size 40 #[.int .u8 (t.k : Int), .string (str t.nm), .int .i64 t.n, .slice A' tl c'] := by rw [← hw6]; exact Blk.new _ _ _
      have y0 := hB6.cell 0
      have y1 := hB6.cell 1
      have y2 := hB6.cell 2
      have y3 := hB6.cell 3
      simp only [List.getElem?_toArray, List.getElem?_cons_zero, List.getElem?_cons_succ] at y0 y1 y2 y3
      rw [htl] at z3
      have HC := isWild_any t A' c' w6
      unfold Ty.val at HC
      rw [htl] at HC
      obtain ⟨wl, hwl⟩ : ∃ wl, t.wild = wl := ⟨_, rfl⟩
      rw [hwl] at HC hsn
      replace HC := Lib.hid HC
      have HB6 := Lib.hid (And.intro hb6 hB6)
      have HT := Lib.hid (And.intro ht hsn)
      have HTL := Lib.hid htl
      clear ht hsn hAt hlc hcm htl hb6 hB6 hbl hwl hok
      go_upto_region 5 with fail
      (try rw [hw6])
      clear hw6 z0 z1 z2 z3
      go_wp2_with fail
      refine HC.out.mono ?_
      rintro e w7 ⟨rfl, hb7⟩
      have hB7 := HB6.out.2.below hb7 HB6.out.2.lt
      have HX7 : Hid (Below wo.heap.size wo w7) := Lib.hid (HB6.out.1.trans (hb7.mono HB6.out.1.size))
      clear hb7 HC y0 y1 y2 y3
      cases wl with
      | true =>
        have HN : Hid (HsI w w7 ps (i + 1) (.slice Al hl cl) hs) := Lib.hid ⟨hX.out.bel.trans (HX7.out.mono hX.out.bel.size), hX.out.own.below HX7.out, by rw [HT.out.2]; rfl⟩
        clear hB7 HT
        go_wp2_with fail
        go_roundw
        case rel => exact ⟨i + 1, hs, Al, cl, by omega, by go_num, by rw [hhl], by rw [hhl]; exact HN⟩
        case measure => simp [intOf]; omega
      | false =>
        have q0 := hB7.cell 0
        have q1 := hB7.cell 1
        have q2 := hB7.cell 2
        have q3 := hB7.cell 3
        simp only [List.getElem?_toArray, List.getElem?_cons_zero, List.getElem?_cons_succ] at q0 q1 q2 q3
        have HD := headOf_any t A' c' w7
        unfold Ty.val at HD
        rw [HTL.out] at HD
        obtain ⟨⟨k, nm, m, mn⟩, hh⟩ : ∃ h, t.head = h := ⟨_, rfl⟩
        rw [hh] at HD
        have HTT := HT.out.2
        rw [hh] at HTT
        unfold Head.val at HD
        dsimp only at HD
        replace HD := Lib.hid HD
        clear hh HT hB7
        replace HTT := Lib.hid HTT
        go_wp2_with fail
        refine HD.out.mono ?_
        rintro e w8 ⟨rfl, hb8⟩
        obtain ⟨w9, hw9⟩ : ∃ w9, w8.alloc (.cells #[.int .u8 (k : Int), .string (str nm), .int .i64 m, .int .i64 (mn : Int)] 65) = w9 := ⟨_, rfl⟩
        have hb9 : Below w8.heap.size w8 w9 := by rw [← hw9]; exact (Below.refl _ _).alloc (Nat.le_refl _) _
        have hB9 : Blk w9 w8.heap.size 65 #[.int .u8 (k : Int), .string (str nm), .int .i64 m, .int .i64 (mn : Int)] := by rw [← hw9]; exact Blk.new _ _ _
        have HX9 : Hid (Below wo.heap.size wo w9 ∧ Blk w9 w8.heap.size 65 #[.int .u8 (k : Int), .string (str nm), .int .i64 m, .int .i64 (mn : Int)]) := Lib.hid ⟨HX7.out.trans ((hb8.trans (hb9.mono hb8.size)).mono HX7.out.size), hB9⟩
        clear hb8 hb9 hB9 HD q0 q1 q2 q3 HX7
        have hhm : hl ≤ 9223372036854775807 := by
          have h1 := heads_len (ps.take i)
          rw [hX.out.is, hhl, List.length_take] at h1
          omega
        have HSH : Hid (HAt wo Al hs) := Lib.hid (by
          obtain ⟨A2, c2, e2, _, _, h2⟩ := hX.out.own.shape
          injection e2 with e3 e4 e5
          rw [e3]; exact h2)
        go_upto_region 7 with fail
        (try rw [hw9])
        clear hw9
        go_wp2_with fail
        go_loopw [7, 22] (fun hv jv wx => ∃ j : Nat, j ≤ hl ∧ jv = .int .i64 (j : Int) ∧ hv = .bool (decide ((⟨k, nm, m, mn⟩ : Head) ∈ hs.take j)) ∧ Hid (Below wo.heap.size wo wx ∧ Blk wx w8.heap.size 65 #[.int .u8 (k : Int), .string (str nm), .int .i64 m, .int .i64 (mn : Int)])) (fun _ jv _ => hl - (intOf jv).toNat)
        case atStart => exact ⟨0, Nat.zero_le _, rfl, by rw [List.take_zero]; rfl, HX9⟩
        case round =>
          clear HX9
          obtain ⟨j, hj, rfl, rfl, hY⟩ := hrel
          obtain ⟨bh, hbh⟩ : ∃ bh, decide ((⟨k, nm, m, mn⟩ : Head) ∈ hs.take j) = bh := ⟨_, rfl⟩
          rw [hbh]
          by_cases hlj : j < hl
          · have hdj : decide ((j : Int) < (hl : Int)) = true := by simpa using hlj
            obtain ⟨x, hx⟩ : ∃ x, hs[j]? = some x := ⟨_, List.getElem?_eq_getElem (by rw [hhl]; exact hlj)⟩
            obtain ⟨bx, ox, rfl, hbxl, x0, x1, x2, x3⟩ := (HSH.out.bel hY.out.1) j x hx
            have hms := mem_snoc (h := (⟨k, nm, m, mn⟩ : Head)) hx
            rw [hbh] at hms
            obtain ⟨w10, hw10⟩ : ∃ w10, wr.alloc (.cells #[.int .u8 (x.k : Int), .string (str x.nm), .int .i64 x.n, .int .i64 (x.many : Int)] 65) = w10 := ⟨_, rfl⟩
            have hb10 : Below wr.heap.size wr w10 := by rw [← hw10]; exact (Below.refl _ _).alloc (Nat.le_refl _) _
            have hB10 : Blk w10 wr.heap.size 65 #[.int .u8 (x.k : Int), .string (str x.nm), .int .i64 x.n, .int .i64 (x.many : Int)] := by rw [← hw10]; exact Blk.new _ _ _
            have hH10 := hY.out.2.below hb10 hY.out.2.lt
            have p0 := hB10.cell 0
            have p1 := hB10.cell 1
            have p2 := hB10.cell 2
            have p3 := hB10.cell 3
            have g0 := hH10.cell 0
            have g1 := hH10.cell 1
            have g2 := hH10.cell 2
            have g3 := hH10.cell 3
            simp only [List.getElem?_toArray, List.getElem?_cons_zero, List.getElem?_cons_succ] at p0 p1 p2 p3 g0 g1 g2 g3
            have HN : Hid (Below wo.heap.size wo w10 ∧ Blk w10 w8.heap.size 65 #[.int .u8 (k : Int), .string (str nm), .int .i64 m, .int .i64 (mn : Int)]) := Lib.hid ⟨hY.out.1.trans (hb10.mono hY.out.1.size), hH10⟩
            rw [head_dec] at hms
            have HMS := Lib.hid hms
            clear hms hbh hx hB10 hH10 hb10 hY hbxl
            cases bh with
            | true =>
              clear p0 p1 p2 p3 g0 g1 g2 g3
              go_upto_region 10 with fail
              (try rw [hw10])
              clear hw10 x0 x1 x2 x3
              go_wp2_with fail
              go_roundw
              case rel => exact ⟨j + 1, by omega, by go_num, by rw [HMS.out]; rfl, HN⟩
              case measure => simp [intOf]; omega
            | false =>
              go_upto_region 10 with fail
              (try rw [hw10])
              clear hw10 x0 x1 x2 x3
              go_wp2_with fail
              all_goals
                go_roundw
                case rel => exact ⟨j + 1, by omega, by go_num, by rw [HMS.out]; simp [*], HN⟩
                case measure => simp [intOf]; omega
          · obtain rfl : j = hl := by omega
            have hdj : decide ((j : Int) < (j : Int)) = false := by simp
            rw [List.take_of_length_le (by omega)] at hbh
            cases bh with
            | true =>
              have HN : Hid (HsI w wr ps (i + 1) (.slice Al j cl) hs) := Lib.hid ⟨hX.out.bel.trans (hY.out.1.mono hX.out.bel.size), hX.out.own.below hY.out.1, by
                rw [HTT.out]
                simp only [Bool.false_eq_true, if_false]
                rw [if_pos (of_decide_eq_true hbh)]⟩
              clear hX HTT hbh hY
              go_wp2_with fail
              go_roundw
              case rel => exact ⟨i + 1, hs, Al, cl, by omega, by go_num, by rw [hhl], by rw [hhl]; exact HN⟩
              case measure => simp [intOf]; omega
            | false =>
              obtain ⟨w11, hw11⟩ : ∃ w11, wr.alloc (.cells #[.int .u8 (k : Int), .string (str nm), .int .i64 m, .int .i64 (mn : Int)] 65) = w11 := ⟨_, rfl⟩
              have hb11 : Below wr.heap.size wr w11 := by rw [← hw11]; exact (Below.refl _ _).alloc (Nat.le_refl _) _
              have hB11 : Blk w11 wr.heap.size 65 #[.int .u8 (k : Int), .string (str nm), .int .i64 m, .int .i64 (mn : Int)] := by rw [← hw11]; exact Blk.new _ _ _
              have hwb := hX.out.bel.trans ((hY.out.1.trans (hb11.mono hY.out.1.size)).mono hX.out.bel.size)
              have hh1 := heads_len (ps.take i)
              rw [hX.out.is, hhl, List.length_take] at hh1
              have hO := (hX.out.own.below hY.out.1).below hb11
              obtain ⟨v', w12, hrun, hO2, hgr⟩ := hO.push hwb.size ⟨k, nm, m, mn⟩ wr.heap.size hB11 (by omega)
              obtain ⟨A3, c3, rfl, hc3, hm3, hA3⟩ := hO2.shape
              have g0 := hY.out.2.cell 0
              have g1 := hY.out.2.cell 1
              have g2 := hY.out.2.cell 2
              have g3 := hY.out.2.cell 3
              simp only [List.getElem?_toArray, List.getElem?_cons_zero, List.getElem?_cons_succ] at g0 g1 g2 g3
              rw [List.length_append, List.length_singleton, hhl] at hrun hO2
              have HN : Hid (HsI w w12 ps (i + 1) (.slice A3 (j + 1) c3) (hs ++ [⟨k, nm, m, mn⟩])) := Lib.hid ⟨hwb.trans (hO.bel hgr (Nat.le_refl _) hwb.size), hO2, by
                rw [HTT.out]
                simp only [Bool.false_eq_true, if_false]
                rw [if_neg (of_decide_eq_false hbh)]⟩
              clear hX HTT hbh hY hb11 hB11 hwb hh1 hO hO2 hgr hc3 hm3 hA3
              have HW := Lib.hid hw11
              clear hw11
              have HR := Lib.hid hrun
              clear hrun
              go_upto_region 13 with fail
              have hw11 := HW.out
              have hrun := HR.out
              go_wp2_with (at_builtin; refine wpList_app rfl _ _ 67 rfl _ _ _ _ rfl rfl hrun ?_)
              go_roundw
              case rel => exact ⟨i + 1, hs ++ [⟨k, nm, m, mn⟩], A3, c3, by omega, by go_num, by rw [List.length_append, List.length_singleton, hhl], by rw [List.length_append, List.length_singleton, hhl]; exact HN⟩
              case measure => simp [intOf]; omega
    · obtain rfl : i = n := by omega
      have hd : decide ((i : Int) < (i : Int)) = false := by simp
      have HV : Hid ((heads ps) = hs ∧ Below w.heap.size w wo ∧ HdO w.heap.size wo (.slice Al hl cl) hs) := Lib.hid ⟨by
        have := hX.out.is
        rwa [List.take_of_length_le (by rw [HK.out.1]; omega)] at this, hX.out.bel, hX.out.own⟩
      clear hX
      go_wp2_with fail
      go_ret
      obtain ⟨A2, c2, e2, h1, h2, h3⟩ := HV.out.2.2.shape
      injection e2 with e3 e4 e5
      rw [HV.out.1, hhl]
      exact ⟨Al, cl, rfl, by omega, by omega, e3 ▸ h3, HV.out.2.1⟩
end Go.Proofs.Ytigaondgopahgaa
