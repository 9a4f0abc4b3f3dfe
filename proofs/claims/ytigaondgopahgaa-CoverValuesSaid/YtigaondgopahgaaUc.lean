/- cover: useful of a wild one, of one of the heads. -/
import Derived.Test.YtigaondgopahgaaUa
namespace Go.Proofs.Ytigaondgopahgaa
open Go.RowKit Ty
set_option linter.unusedVariables false
set_option linter.unusedSimpArgs false
attribute [local go_sem] Oper.semAt_some
set_option maxRecDepth 20000 in
set_option maxHeartbeats 8000000 in
theorem use_whole {l : List Inf} {b1 b2 en mm : Nat} (ih : UseOk l b1 b2 en mm) (hof : ∀ s, (ofOf l s).length ≤ maxLen) (r0 : List Ty) (rs : List (List Ty)) (p : Ty) (q : List Ty) (A : Option Addr) (n c : Nat) (B : Option Addr) (nq cq : Nat) (w : World) (hmm : mm ≤ 50000)
    (hwt : wtss (r0 :: rs) + wts (p :: q) + (p :: q).length ≤ mm + 1) (hR : RAt w A n c (r0 :: rs)) (hQ : PAt Everywhere w B nq cq (p :: q)) (hlen : ∀ r ∈ r0 :: rs, r.length = (p :: q).length) (hS : Ask Everywhere w b1 b2 en l) (hn : n ≤ 1000) (hw : p.wild = true) (hwh : wholeOf l (heads ((r0 :: rs).filterMap List.head?)) = true) :
    Calls Try.prog 23 #[.agg #[.map (some b1), .map (some b2)], .slice A n c, .slice B nq cq] w fun e w' => e = .returned (.bool (useful l (r0 :: rs) (p :: q))) ∧ Below w.heap.size w w' := by
  rw [useful_whole l hw q r0 rs hwh]
  obtain ⟨rows, hrows⟩ : ∃ rows, r0 :: rs = rows := ⟨_, rfl⟩
  rw [hrows] at hwt hR hlen hwh ⊢
  have hn0 : (((n : Nat) : Int) == 0) = false := by have := hR.len; rw [← hrows] at this; simp at this ⊢; omega
  have hq0 : (((nq : Nat) : Int) == 0) = false := by have := hQ.len; simp at this ⊢; omega
  have hnq1 : 0 < nq := by have := hQ.len; simp at this; omega
  have hnq2 : (1 : Int) ≤ (nq : Int) := by omega
  have hnqc : (nq : Int) ≤ (cq : Int) := by have := hQ.le; omega
  have hcqm : cq ≤ 9223372036854775807 := by have := hQ.cap; unfold maxLen at this; omega
  have hnq : nq ≤ 100000 := by have := hQ.len; simp at this hwt; omega
  have hwd := wt_wild hw
  rw [wts, List.length_cons] at hwt
  have hne : ∀ r ∈ rows, ∃ x y, r = x :: y := fun r hr => by
    have := hlen r hr
    cases r with
    | nil => simp at this
    | cons x y => exact ⟨x, y, rfl⟩
  obtain ⟨w0, hw0⟩ : ∃ w0, w.alloc (.cells #[.map (some b1), .map (some b2)] 57) = w0 := ⟨_, rfl⟩
  have hb0 : Below w.heap.size w w0 := by rw [← hw0]; exact (Below.refl _ _).alloc (Nat.le_refl _) _
  have hB0 : Blk w0 w.heap.size 57 #[.map (some b1), .map (some b2)] := by rw [← hw0]; exact Blk.new _ _ _
  obtain ⟨b, off, A', c', rfl, _, hbl, z0, z1, z2, z3, hok, hlc, hcm, hAt⟩ := (hQ.bel hb0).at_.get (r := 0) (t := p) rfl
  simp only [Nat.zero_mul, Nat.add_zero] at z0 z1 z2 z3
  obtain ⟨tl, htl⟩ : ∃ tl, p.ks.length = tl := ⟨_, rfl⟩
  rw [htl] at z3
  have HC := isWild_any p A' c' w0
  unfold Ty.val at HC
  rw [htl, hw] at HC
  replace HC := Lib.hid HC
  have HA := Lib.hid (And.intro (hR.bel hb0) (And.intro (hQ.bel hb0) (And.intro (hS.bel hb0) (And.intro hB0 hb0))))
  have hnmx : n ≤ 9223372036854775807 := by omega
  have HM := Lib.hid (And.intro hwt (And.intro hlen (And.intro hne (And.intro hwh (And.intro ih (And.intro hof (And.intro hw hwd)))))))
  have HQL : Hid ((p :: q).length = nq) := Lib.hid hQ.len
  clear hwt hR hQ hlen hS hne hb0 hB0 hbl hok hlc hcm hAt htl hrows ih hw hwh hof hwd
  go_enter Try.func23, Try.ntmps23
  go_upto_region 1 with fail
  (try rw [hw0])
  clear hw0
  go_wp2_with fail
  refine HC.out.mono ?_
  rintro e w1 ⟨rfl, hb1⟩
  have HB1 := Lib.hid hb1
  clear z0 z1 z2 z3 HC hb1
  go_wp2_with fail
  go_loopw [8, 52] (fun lv iv wr => ∃ (i : Nat) (es : List Te) (Al : Option Addr) (cl : Nat), i ≤ n ∧ iv = .int .i64 (i : Int) ∧ lv = .slice Al es.length cl ∧ Hid (CoI w1 wr rows i (.slice Al es.length cl) es)) (fun _ iv _ => n - (intOf iv).toNat)
  case atStart => exact ⟨0, [], none, 0, Nat.zero_le _, rfl, rfl, Lib.hid ⟨Below.refl _ _, PtO.nil _ _ _, by rw [List.take_zero]; rfl⟩⟩
  case round =>
    obtain ⟨i, es, Al, cl, hi, rfl, rfl, hX⟩ := hrel
    obtain ⟨wo, rfl⟩ : ∃ wo : World, wo = wr := ⟨_, rfl⟩
    obtain ⟨hl, hhl⟩ : ∃ hl, es.length = hl := ⟨_, rfl⟩
    rw [hhl] at hX ⊢
    by_cases hli : i < n
    · have hd : decide ((i : Int) < (n : Int)) = true := by simpa using hli
      obtain ⟨row, hrow⟩ : ∃ t, rows[i]? = some t := ⟨_, List.getElem?_eq_getElem (by rw [HA.out.1.len]; exact hli)⟩
      obtain ⟨x, y, hxy⟩ := HM.out.2.2.1 row (List.mem_of_getElem? hrow)
      obtain ⟨br, ofr, Ar, cr, rfl, hbr, x0, hPr⟩ := (HA.out.1.bel HB1.out).at_ i row hrow
      obtain ⟨bx, ofx, Ax, cx, rfl, _, hbx, y0, y1, y2, y3, hxok, hxl, hxc, hxA⟩ := hPr.at_.get (r := 0) (t := x) (by rw [hxy]; rfl)
      simp only [Nat.zero_mul, Nat.add_zero] at y0 y1 y2 y3
      obtain ⟨xl, hxtl⟩ : ∃ xl, x.ks.length = xl := ⟨_, rfl⟩
      rw [hxtl] at y3
      obtain ⟨rl, hrl⟩ : ∃ rl, row.length = rl := ⟨_, rfl⟩
      have hrl0 : 0 < rl := by rw [← hrl, hxy]; simp
      rw [hrl] at x0
      have x0' : wo.cell? ⟨br, ofr + i, none⟩ = _ := (hX.out.bel.cell (p := ⟨br, _, none⟩) hbr).trans x0
      have y0' : wo.cell? ⟨bx, ofx, none⟩ = _ := (hX.out.bel.cell (p := ⟨bx, _, none⟩) hbx).trans y0
      have y1' : wo.cell? ⟨bx, ofx + 1, none⟩ = _ := (hX.out.bel.cell (p := ⟨bx, _, none⟩) hbx).trans y1
      have y2' : wo.cell? ⟨bx, ofx + 2, none⟩ = _ := (hX.out.bel.cell (p := ⟨bx, _, none⟩) hbx).trans y2
      have y3' : wo.cell? ⟨bx, ofx + 3, none⟩ = _ := (hX.out.bel.cell (p := ⟨bx, _, none⟩) hbx).trans y3
      obtain ⟨w6, hw6⟩ : ∃ w6, wo.alloc (.cells #[.int .u8 (x.k : Int), .string (str x.nm), .int .i64 x.n, .slice Ax xl cx] 40) = w6 := ⟨_, rfl⟩
      have hb6 : Below wo.heap.size wo w6 := by rw [← hw6]; exact (Below.refl _ _).alloc (Nat.le_refl _) _
      have hB6 : Blk w6 wo.heap.size 40 #[.int .u8 (x.k : Int), .string (str x.nm), .int .i64 x.n, .slice Ax xl cx] := by rw [← hw6]; exact Blk.new _ _ _
      obtain ⟨A3, c3, w7, hrun, hN⟩ := hX.out.next hrow hxy hPr (by rw [HA.out.1.len]; exact hn) hb6 hB6 hxtl hxA hxl hxc hxok
      have HN := Lib.hid hN
      rw [hhl] at hrun HN
      have HR := Lib.hid hrun
      have HW := Lib.hid hw6
      clear hX hrow hxy hbr x0 hPr hbx y0 y1 y2 y3 hxok hxl hxc hxA hxtl hrl hw6 hb6 hB6 hrun hN
      go_upto_region 11 with fail
      clear x0'
      have hw6 := HW.out
      have hrun := HR.out
      go_wp2_with (at_builtin; refine wpList_app rfl _ _ 22 rfl _ _ _ _ rfl rfl hrun ?_)
      go_roundw
      case rel => exact ⟨i + 1, es ++ [⟨x, Ax, cx⟩], A3, c3, by omega, by go_num, by rw [List.length_append, List.length_singleton, hhl], by rw [List.length_append, List.length_singleton, hhl]; exact HN⟩
      case measure => simp [intOf]; omega
    · obtain rfl : i = n := by omega
      have hd : decide ((i : Int) < (i : Int)) = false := by simp
      obtain ⟨A2, c2, e2, hP2⟩ := hX.out.own.shape
      injection e2 with e3 e4 e5
      have hcol : es.map Te.t = rows.filterMap List.head? := by
        have := hX.out.is
        rwa [List.take_of_length_le (by rw [HA.out.1.len]; omega)] at this
      rw [hcol, hhl, ← e3, ← e5] at hP2
      have hcl : (rows.filterMap List.head?).length = hl := hP2.len
      have hcl2 : hl ≤ 100000 := by rw [← hcl]; have := fm_len List.head? rows; have := HA.out.1.len; omega
      have hHC := heads_any (rows.filterMap List.head?) Al cl wo hP2.at_ (by rw [hcl]; exact hP2.le) hP2.cap (by rw [hcl]; exact hcl2)
      rw [hcl] at hHC
      replace hHC := Lib.hid hHC
      have HOKS : Hid (∀ h ∈ heads (rows.filterMap List.head?), h.nm.length ≤ maxLen) := Lib.hid fun h hh => by
        obtain ⟨x, hx, _, rfl⟩ := heads_mem hh
        exact head_nm (hP2.at_.ok_mem hx)
      have HBo : Hid (Below w0.heap.size w0 wo) := Lib.hid (HB1.out.trans (hX.out.bel.mono HB1.out.size))
      clear hX hP2 e3 e4 e5 hcol hcl hcl2 hhl HB1
      go_wp2_with fail
      refine hHC.out.mono ?_
      rintro e w2 ⟨A3, c3, rfl, hl3, hm3, hH3, hb2⟩
      have HB2 : Hid (Below w0.heap.size w0 w2) := Lib.hid (HBo.out.trans (hb2.mono HBo.out.size))
      obtain ⟨hs, hhs⟩ : ∃ hs, heads (rows.filterMap List.head?) = hs := ⟨_, rfl⟩
      rw [hhs] at hl3 hH3 HOKS ⊢
      have hWC := whole_any (l := l) (F := Everywhere) (b1 := b1) (b2 := b2) (en := en) hs A3 c3 w2 hH3 hl3 hm3 HOKS.out HM.out.2.2.2.2.2.1 (HA.out.2.2.1.bel HB2.out)
      have hwh := HM.out.2.2.2.1
      rw [hhs] at hwh
      rw [hwh] at hWC
      obtain ⟨hn3, hhn3⟩ : ∃ hn3, hs.length = hn3 := ⟨_, rfl⟩
      rw [hhn3] at hWC hl3 ⊢
      replace hWC := Lib.hid hWC
      have hX2 := HA.out.2.2.2.1.below HB2.out HA.out.2.2.2.1.lt
      have x0 := hX2.cell 0
      have x1 := hX2.cell 1
      simp only [List.getElem?_toArray, List.getElem?_cons_zero, List.getElem?_cons_succ] at x0 x1
      have HH3 := Lib.hid (And.intro hH3 (And.intro hhs hhn3))
      have hn3m : hn3 ≤ 9223372036854775807 := by unfold maxLen at hm3; omega
      clear hHC HBo hb2 hX2 hH3 hl3 hm3 hhs hhn3 hwh HOKS
      go_wp2_with fail
      refine hWC.out.mono ?_
      rintro e w4 ⟨rfl, hb4⟩
      have HB4 : Hid (Below w0.heap.size w0 w4) := Lib.hid (HB2.out.trans (hb4.mono HB2.out.size))
      have HB24 := Lib.hid hb4
      clear hWC hb4 x0 x1 HB2
      have HXW : Hid (Below w.heap.size w w4) := Lib.hid (HA.out.2.2.2.2.trans (HB4.out.mono HA.out.2.2.2.2.size))
      go_wp2_with fail
      go_loopw [77] (fun iv wr => ∃ j : Nat, j ≤ hn3 ∧ iv = .int .i64 (j : Int) ∧ Hid (Below w4.heap.size w4 wr ∧ ∀ (r : Nat) (h : Head), r < j → hs[r]? = some h → useful l (rows.filterMap (opened h)) (List.replicate h.many any ++ q) = false)) (fun iv _ => hn3 - (intOf iv).toNat)
      case atStart => exact ⟨0, Nat.zero_le _, rfl, Lib.hid ⟨Below.refl _ _, fun r h hr => absurd hr (Nat.not_lt_zero r)⟩⟩
      case round =>
        obtain ⟨j, hj, rfl, hY⟩ := hrel
        by_cases hlj : j < hn3
        · have hdj : decide ((j : Int) < (hn3 : Int)) = true := by simpa using hlj
          obtain ⟨h, hh⟩ : ∃ h, hs[j]? = some h := ⟨_, List.getElem?_eq_getElem (by rw [HH3.out.2.2]; exact hlj)⟩
          obtain ⟨bh, oh, e3, hbh, y0, y1, y2, y3⟩ := (HH3.out.1.bel (HB24.out.trans (hY.out.1.mono HB24.out.size))) j h hh
          subst e3
          have hmem : h ∈ heads (rows.filterMap List.head?) := by rw [HH3.out.2.1]; exact List.mem_of_getElem? hh
          have hwl := wtss_opened_lt hmem
          have hwt := HM.out.1
          have hmn : h.many ≤ 100000 := by omega
          obtain ⟨nrows, hnr⟩ : ∃ nrows, rows.filterMap (opened h) = nrows := ⟨_, rfl⟩
          obtain ⟨nq2, hnq2⟩ : ∃ nq2, List.replicate h.many any ++ q = nq2 := ⟨_, rfl⟩
          have hopq : opened h (p :: q) = some nq2 := by rw [opened_cons, HM.out.2.2.2.2.2.2.1, ← hnq2]; rfl
          have hUW : wtss nrows + wts nq2 + nq2.length ≤ mm := by
            rw [← hnr, ← hnq2, wts_append, wts_any, List.length_append, List.length_replicate]
            have := HM.out.2.2.2.2.2.2.2
            omega
          have hUL : ∀ r ∈ nrows, r.length = nq2.length := fun r hr => by
            rw [← hnr] at hr
            obtain ⟨r1, h1, h2⟩ := List.mem_filterMap.1 hr
            have h3 := opened_len h2
            have h4 := HM.out.2.1 r1 h1
            rw [List.length_cons] at h4
            rw [← hnq2, List.length_append, List.length_replicate]
            omega
          have hnrl : nrows.length ≤ 1000 := by have h1 := fm_len (opened h) rows; rw [hnr] at h1; have := HA.out.1.len; omega
          have hbase : Below w0.heap.size w0 wr := HB4.out.trans (hY.out.1.mono HB4.out.size)
          have HIJ := Lib.hid (And.intro hh (And.intro hmem (And.intro hopq (And.intro hUW (And.intro hUL (And.intro hnrl (And.intro hbase (And.intro hnr (And.intro hnq2 hmn)))))))))
          clear hh hmem hopq hUW hUL hnrl hbase hwl hwt hnq2 hbh
          obtain ⟨k, nm, m, mn⟩ := h
          dsimp only at y0 y1 y2 y3
          obtain ⟨w5, hw5⟩ : ∃ w5, wr.alloc (.cells #[.int .u8 (k : Int), .string (str nm), .int .i64 m, .int .i64 (mn : Int)] 65) = w5 := ⟨_, rfl⟩
          have hb5 : Below wr.heap.size wr w5 := by rw [← hw5]; exact (Below.refl _ _).alloc (Nat.le_refl _) _
          have hB5 : Blk w5 wr.heap.size 65 #[.int .u8 (k : Int), .string (str nm), .int .i64 m, .int .i64 (mn : Int)] := by rw [← hw5]; exact Blk.new _ _ _
          have v0 := hB5.cell 0
          have v1 := hB5.cell 1
          have v2 := hB5.cell 2
          have v3 := hB5.cell 3
          simp only [List.getElem?_toArray, List.getElem?_cons_zero, List.getElem?_cons_succ] at v0 v1 v2 v3
          have HB5 : Hid (Below w0.heap.size w0 w5) := Lib.hid (HIJ.out.2.2.2.2.2.2.1.trans (hb5.mono HIJ.out.2.2.2.2.2.2.1.size))
          have HB45 : Hid (Below w4.heap.size w4 w5) := Lib.hid (hY.out.1.trans (hb5.mono hY.out.1.size))
          have HC := Lib.hid (mkopened_any k nm m mn w5)
          clear hb5 hB5
          go_upto_region 19 with fail
          (try rw [hw5])
          clear hw5 y0 y1 y2 y3
          go_wp2_with fail
          refine HC.out.mono ?_
          rintro e w6 ⟨rfl, hO6, hb6⟩
          have HB6 : Hid (Below w0.heap.size w0 w6) := Lib.hid (HB5.out.trans (hb6.mono HB5.out.size))
          have HB46 : Hid (Below w4.heap.size w4 w6) := Lib.hid (HB45.out.trans (hb6.mono HB45.out.size))
          have HO := Lib.hid hO6
          have HC2 := Lib.hid (opened_keep ⟨k, nm, m, mn⟩ p q (some ⟨b, off, none⟩) nq cq w5.heap.size w6 (HA.out.2.1.bel HB6.out) hO6 hnq HIJ.out.2.2.2.2.2.2.2.2.2)
          clear hO6 hb6 HC HB5 HB45 v0 v1 v2 v3
          have hEn : ∀ (args : Array Value) (w : World), (callFunc 33 args).run Try.prog w = .ok (.enter 33 args) w := ent_opened1
          go_wp2_with fail
          refine HC2.out.mono ?_
          rintro e w7 ⟨hb7, hh⟩
          clear HC2
          obtain ⟨A2, c2, rfl, hP7⟩ : ∃ A2 c2, e = .returned (.tuple #[.slice A2 nq2.length c2, .bool true]) ∧ PAt Everywhere w7 A2 nq2.length c2 nq2 := by
            rcases hh with ⟨r, A2, c2, h1, h2, h3⟩ | ⟨h1, _⟩
            · rw [HIJ.out.2.2.1] at h1
              cases h1
              exact ⟨A2, c2, h2, h3.mono fun _ _ => trivial⟩
            · rw [HIJ.out.2.2.1] at h1; cases h1
          clear hh
          have HB7 : Hid (Below w0.heap.size w0 w7) := Lib.hid (HB6.out.trans (hb7.mono HB6.out.size))
          have HB47 : Hid (Below w4.heap.size w4 w7) := Lib.hid (HB46.out.trans (hb7.mono HB46.out.size))
          have HO7 : Hid (Blk w7 w5.heap.size 65 #[.int .u8 (k : Int), .string (str nm), .int .i64 m, .int .i64 (mn : Int)]) := Lib.hid (HO.out.below hb7 HO.out.lt)
          have HP := pick_any 33 ent_opened1 #[.pointer (some ⟨w5.heap.size, 0, none⟩)] (opened ⟨k, nm, m, mn⟩) (fun W => Blk W w5.heap.size 65 #[.int .u8 (k : Int), .string (str nm), .int .i64 m, .int .i64 (mn : Int)]) (fun _ _ h hb => h.below hb h.lt) rows (fun F row A3 c3 w5' hrow hJ hA3 => by
            obtain ⟨x, y, rfl⟩ := HM.out.2.2.1 row hrow
            exact opened_keep ⟨k, nm, m, mn⟩ x y A3 _ c3 w5.heap.size w5' hA3 hJ (by have := HM.out.2.1 _ hrow; rw [this, HQL.out]; exact hnq) HIJ.out.2.2.2.2.2.2.2.2.2) A i c w7.drew ((HA.out.1.bel HB7.out).bel (Below.refl _ w7).drew) (HO7.out.drew) (by omega)
          rw [hnr] at HP
          obtain ⟨rl, hrl⟩ : ∃ rl, nrows.length = rl := ⟨_, rfl⟩
          rw [hrl] at HP
          replace HP := Lib.hid HP
          obtain ⟨ql, hql⟩ : ∃ ql, nq2.length = ql := ⟨_, rfl⟩
          obtain ⟨uv, huv⟩ : ∃ uv, useful l nrows nq2 = uv := ⟨_, rfl⟩
          have HU : Hid (∀ (W : World) (A5 : Option Addr) (c5 : Nat), Below w7.heap.size w7 W → RAt W A5 rl c5 nrows → Calls Try.prog 23 #[.agg #[.map (some b1), .map (some b2)], .slice A5 rl c5, .slice A2 ql c2] W fun e w' => e = .returned (.bool uv) ∧ Below W.heap.size W w') := Lib.hid fun W A5 c5 hW hR5 => by
            rw [← huv]
            exact HM.out.2.2.2.2.1 nrows nq2 A5 rl c5 A2 ql c2 W HIJ.out.2.2.2.1 hR5 (by rw [← hql]; exact hP7.bel hW) HIJ.out.2.2.2.2.1 ((HA.out.2.2.1.bel HB7.out).bel hW) (by have := HIJ.out.2.2.2.2.2.1; omega)
          have hXB := HA.out.2.2.2.1.below HB7.out HA.out.2.2.2.1.lt
          have HX : Hid (∀ W, Below w7.heap.size w7 W → W.cell? ⟨w.heap.size, 0, none⟩ = some (.map (some b1)) ∧ W.cell? ⟨w.heap.size, 1, none⟩ = some (.map (some b2))) := Lib.hid fun W hW => ⟨(hXB.below hW hXB.lt).cell 0, (hXB.below hW hXB.lt).cell 1⟩
          have HUV : Hid (useful l (rows.filterMap (opened ⟨k, nm, m, mn⟩)) (List.replicate mn any ++ q) = uv) := Lib.hid (by have := HIJ.out.2.2.2.2.2.2.2.2.1; rw [hnr, this]; exact huv)
          rw [hql]
          clear hP7 hql hrl hXB HB6 HB46 HO HB7 HO7 hb7 hnr huv
          go_upto_region 21 with fail
          go_region_held3 (fun W => W.cell? ⟨w.heap.size, 0, none⟩ = some (.map (some b1)) ∧ W.cell? ⟨w.heap.size, 1, none⟩ = some (.map (some b2)))
            (first | exact HX.out _ (Below.refl _ w7).drew | exact HX.out _ hw8 | exact HX.out _ hw9)
            (first
              | (go_at_call 30; refine Calls.mono HP.out ?_; rintro e w8 ⟨A5, c5, rfl, hR5, hb8⟩; have hw8 : Below w7.heap.size w7 w8 := (Below.refl _ w7).drew.trans hb8)
              | (go_at_call 23; refine Calls.mono (HU.out _ A5 c5 hw8 hR5) ?_; rintro e w9 ⟨rfl, hb9⟩; have hw9 : Below w7.heap.size w7 w9 := hw8.trans (hb9.mono hw8.size)))
          all_goals
            have HW := Lib.hid (HB47.out.trans (hw9.mono HB47.out.size))
            clear hb8 hb9 hw8 hw9 hR5
            cases uv with
            | true =>
              have HV : Hid (((heads (rows.filterMap List.head?)).any fun h => useful l (rows.filterMap (opened h)) (List.replicate h.many any ++ q)) = true) := Lib.hid (List.any_eq_true.2 ⟨_, HIJ.out.2.1, HUV.out⟩)
              clear hY
              go_wp2_with fail
              go_ret
              exact ⟨congrArg (fun b => Ending.returned (Value.bool b)) HV.out.symm, HXW.out.trans (HW.out.mono HXW.out.size)⟩
            | false =>
              have HN : Hid (Below w4.heap.size w4 w9 ∧ ∀ (r : Nat) (h : Head), r < j + 1 → hs[r]? = some h → useful l (rows.filterMap (opened h)) (List.replicate h.many any ++ q) = false) := Lib.hid ⟨HW.out, fun r h hr hh2 => by
                by_cases e : r = j
                · subst e; rw [HIJ.out.1] at hh2; cases hh2; exact HUV.out
                · exact hY.out.2 r h (by omega) hh2⟩
              clear hY
              go_wp2_with fail
              go_roundw
              case rel => exact ⟨j + 1, by omega, by go_num, HN⟩
              case measure => simp [intOf]; omega
        · obtain rfl : j = hn3 := by omega
          have hdj : decide ((j : Int) < (j : Int)) = false := by simp
          have HV : Hid (((heads (rows.filterMap List.head?)).any fun h => useful l (rows.filterMap (opened h)) (List.replicate h.many any ++ q)) = false ∧ Below w.heap.size w wr) := Lib.hid ⟨by
            rw [List.any_eq_false]
            intro h hm
            rw [HH3.out.2.1] at hm
            obtain ⟨r, hr⟩ := List.getElem?_of_mem hm
            have := hY.out.2 r h (by have := (List.getElem?_eq_some_iff.1 hr).1; have := HH3.out.2.2; omega) hr
            rw [this]; simp, HXW.out.trans (hY.out.1.mono HXW.out.size)⟩
          clear hY
          go_wp2_with fail
          go_ret
          exact ⟨congrArg (fun b => Ending.returned (Value.bool b)) HV.out.1.symm, HV.out.2⟩
end Go.Proofs.Ytigaondgopahgaa
