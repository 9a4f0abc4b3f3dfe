/- DiskImages, walked. -/
import Derived.Test.YtdohfkblmadejaaIi
namespace Go.Proofs.Ytdohfkblmadejaa
open Go.RowKit Dsk

/-- The row that is turned. -/
structure InR (wd wr : World) (g n i h L : Nat) : Prop where
  rows : RowsW wr g n
  c : wr.cell? ⟨g, i, none⟩ = some (.slice (some ⟨h, 0, none⟩) L L)
  mt : Mut wr h L
  gt : g < h
  bel : Below wd.heap.size wd wr
  le : wd.heap.size ≤ g
theorem InR.set_ {wd wr : World} {g n i h L : Nat} (x : InR wd wr g n i h L) (q : Nat) (c : UInt8) : InR wd ((wr.setCell ⟨h, q, none⟩ (bv c)).drew) g n i h L := by
  have hgt := x.gt
  have hle := x.le
  have hr := x.rows.set_ h q hgt c
  have hb := Below.refl (wr.setCell ⟨h, q, none⟩ (bv c)).heap.size (wr.setCell ⟨h, q, none⟩ (bv c))
  refine ⟨hr.below hb.drew, ?_, (x.mt.set_ q c).same (Nat.le_refl _) rfl, hgt, (x.bel.setCell (p := ⟨h, q, none⟩) (by show wd.heap.size ≤ h; omega) _).drew, hle⟩
  exact (World.cell?_of_block (a := ⟨g, i, none⟩) (Below.heap_setCell _ ⟨h, q, none⟩ _ _ (by show g ≠ h; omega))).trans x.c

theorem Pair.ok {w wr : World} {g r : Nat} {D : DS} (h : Pair w wr g r D) : D.Ok := by obtain ⟨F, _, h2, _⟩ := h.ex; exact h2.ok
theorem Pair.imageW {w wr : World} {g r : Nat} {D : DS} (h : Pair w wr g r D) :
    Calls Try.prog 19 #[.pointer (some ⟨g, 0, none⟩)] wr fun e w' => e = .returned (.slice (some ⟨wr.heap.size, 0, none⟩) D.S.length D.S.length) ∧ (Secs w' (fun j => wr.heap.size < j ∧ j < w'.heap.size) wr.heap.size D.S ∧ RowsW w' wr.heap.size D.S.length) ∧ Below wr.heap.size wr w' := by
  obtain ⟨F, h1, _⟩ := h.ex
  exact h1.imageW
/-- What the reference's disk has: its cell, and what an image that says the same is held against. -/
theorem Pair.held {w wr : World} {g r : Nat} {D : DS} (h : Pair w wr g r D) : ∃ gs c, (∀ W : World, Below wr.heap.size wr W → W.cell? ⟨r, 0, none⟩ = some (.slice (some ⟨gs, 0, none⟩) D.S.length c)) ∧
    ∀ (E' : Nat → Prop) (gi : Nat) (W : World), Below wr.heap.size wr W → Secs W E' gi D.S → Calls Try.prog 18 #[.slice (some ⟨gi, 0, none⟩) D.S.length D.S.length, .slice (some ⟨gs, 0, none⟩) D.S.length c] W fun e w' => e = .returned (.bool true) ∧ Below W.heap.size W w' := by
  obtain ⟨F, _, hRef, _⟩ := h.ex
  have hok := hRef.ok
  obtain ⟨E, gs, c, pv, hk, _⟩ := hRef
  refine ⟨gs, c, fun W hW => (hW.cell (p := ⟨r, 0, none⟩) hk.head.lt).trans hk.hd.c0, fun E' gi W hW hS => ?_⟩
  have hln : ∀ b ∈ D.S, b.length ≤ 4503599627370496 := fun b hb => by rcases hok.sec b hb with rfl | h <;> simp_all
  have h := same_any (some ⟨gi, 0, none⟩) (some ⟨gs, 0, none⟩) D.S.length D.S.length D.S.length c D.S D.S W rfl rfl hS.img (hk.secs.img.below hW) (by have := hok.hi; omega) hln hln
  rw [decide_eq_true (rfl : D.S = D.S)] at h
  exact h

set_option maxRecDepth 20000 in
set_option maxHeartbeats 8000000 in
theorem images_walk (n cap len1 cap1 len2 cap2 : Nat) (I A B : Option Addr) (rows : List (List UInt8)) (ls ms : List St) (w : World) (hn : 16 ≤ n ∧ n ≤ 64) (hrl : rows.length = n) (hfit : fitB rows = true) (hI : Img w I rows)
    (hlen1 : ls.length = len1) (hA : Steps w A ls) (hv1 : vastB ls = false) (hlen2 : ms.length = len2) (hB : Steps w B ms) (hv2 : vastB ms = false) :
    Calls Try.prog 4 #[.slice I n cap, .slice A len1 cap1, .slice B len2 cap2] w fun e W' => e = .returned (.bool true) ∧ Below w.heap.size w W' := by
  have h0 := vast_any A len1 cap1 ls w hlen1 hA
  rw [hv1] at h0
  have H0 := Lib.hid h0
  have h1 := vast_any B len2 cap2 ms w hlen2 hB
  rw [hv2] at h1
  have H1 := Lib.hid h1
  obtain ⟨hl120, hsm⟩ := vastB_no hv1
  rw [hlen1] at hl120
  obtain ⟨hm120, hsm2⟩ := vastB_no hv2
  rw [hlen2] at hm120
  have HSM := Lib.hid hsm
  have HSM2 := Lib.hid hsm2
  have HI := Lib.hid hI
  have HN := Lib.hid hrl
  have HA := Lib.hid hA
  have HBS := Lib.hid hB
  have HL1 := Lib.hid hlen1
  have HL2 := Lib.hid hlen2
  have HFIT := Lib.hid hfit
  have HNN := Lib.hid hn
  have hall : ∀ b ∈ rows, b.length ≤ 256 := fun b hb => by
    have := List.all_eq_true.1 hfit b hb
    rcases Bool.or_eq_true_iff.1 this with h | h
    · have := of_decide_eq_true h; omega
    · have := of_decide_eq_true h; omega
  have HALL := Lib.hid hall
  have hn64 : n ≤ 64 := hn.2
  have d1 : decide ((64 : Int) < (n : Int)) = false := by simp; omega
  clear hI hrl h0 h1 hlen1 hA hv1 hlen2 hB hv2 hsm hsm2 hfit hn hall
  go_enter Try.func4, Try.ntmps4
  go_wp2_with fail
  refine H0.out.mono ?_
  rintro e w' ⟨rfl, rfl⟩
  go_wp2_with fail
  refine H1.out.mono ?_
  rintro e w' ⟨rfl, rfl⟩
  go_wp2_with fail
  go_loopw [7] (fun i wr => ∃ k : Nat, k ≤ n ∧ i = .int .i64 (k : Int) ∧ Hid (w = wr)) (fun i _ => n - (intOf i).toNat)
  case atStart => exact ⟨0, Nat.zero_le _, rfl, Lib.hid rfl⟩
  case round =>
    obtain ⟨k, hk, rfl, hw⟩ := hrel
    obtain rfl := hw.out
    clear hw
    by_cases hlt : k < n
    · have hd : decide ((k : Int) < (n : Int)) = true := by simpa using hlt
      obtain ⟨bs, hbs⟩ : ∃ bs, rows[k]? = some bs := ⟨_, List.getElem?_eq_getElem (by rw [HN.out]; exact hlt)⟩
      obtain ⟨b, off, v, rfl, hblt, hc, A2, c2, rfl, hl2, hm2, hby, _⟩ := HI.out k bs hbs
      have hL := HALL.out bs (List.mem_of_getElem? hbs)
      generalize bs.length = L at *
      have d5 : decide ((1024 : Int) < (L : Int)) = false := by simp; omega
      clear hbs hby hl2 hm2 hblt hL
      go_wp2_with fail
      go_roundw
      case rel => exact ⟨k + 1, by omega, by go_num, Lib.hid trivial⟩
      case measure => simp [intOf]; omega
    · obtain rfl : n = k := by omega
      have hd : decide ((n : Int) < (n : Int)) = false := by simp
      have H2 := Lib.hid (cimg_any I n cap rows w HN.out (by omega) HI.out)
      go_wp2_with fail
      refine H2.out.mono ?_
      rintro e w1 ⟨sv, rfl, hap⟩
      obtain ⟨sA, sc, hsv, _, _, himg⟩ := hap.own.img
      rw [HN.out] at hsv
      subst hsv
      have HB1 := Lib.hid hap.bel
      have HIM := Lib.hid himg
      have H3 := Lib.hid (load_yes sA n sc rows w1 HN.out ⟨HNN.out.1, by omega⟩ himg HFIT.out)
      clear hap himg H2
      go_wp2_with fail
      refine H3.out.mono ?_
      rintro e w2 ⟨g, rfl, hD2, hb2⟩
      have H4 := Lib.hid (rload_yes I n cap rows w2 HN.out ⟨HNN.out.1, by omega⟩ (HI.out.below (HB1.out.trans (hb2.mono HB1.out.size))) HFIT.out)
      have HD2 := Lib.hid hD2
      have HB2 := Lib.hid hb2
      clear hD2 hb2 H3
      go_wp2_with fail
      refine H4.out.mono ?_
      rintro e w3 ⟨r, rfl, hR3, hb3⟩
      have hP3 := Pair.begin HD2.out HB2.out hR3 hb3
      have HAL : Hid (∀ W : World, Below w1.heap.size w1 W → Calls Try.prog 18 #[.slice sA n sc, .slice I n cap] W fun e w' => e = .returned (.bool true) ∧ Below W.heap.size W w') := Lib.hid (fun W hW => by
        have h5 := same_any sA I n n sc cap rows rows W HN.out HN.out (HIM.out.below hW) (HI.out.below (HB1.out.trans (hW.mono HB1.out.size))) (by omega) (fun b hb => by have := HALL.out b hb; omega) (fun b hb => by have := HALL.out b hb; omega)
        rw [decide_eq_true (rfl : rows = rows)] at h5
        exact h5)
      have H5 := Lib.hid (HAL.out w3 hP3.bel)
      have HP3 := Lib.hid hP3
      clear hR3 hb3 hP3 H4 HD2 HB2
      go_wp2_with fail
      refine H5.out.mono ?_
      rintro e w4 ⟨rfl, hb4⟩
      have HINV : Hid (PInv w1 w4 g r 0) := Lib.hid ⟨_, HP3.out.below hb4, Nat.le_refl _, Nat.le_refl _⟩
      clear hb4 H5 HP3
      go_wp2_with fail
      go_loopw [13] (fun i wr => ∃ j : Nat, j ≤ len1 ∧ i = .int .i64 (j : Int) ∧ Hid (PInv w1 wr g r j)) (fun i _ => len1 - (intOf i).toNat)
      case atStart => exact ⟨0, Nat.zero_le _, rfl, HINV⟩
      case round =>
        obtain ⟨j, hj, rfl, hI⟩ := hrel
        clear HINV
        obtain ⟨D, hP, hst, hpl⟩ := hI.out
        have HB := Lib.hid hP.bel
        by_cases hlt : j < len1
        · have hd : decide ((j : Int) < (len1 : Int)) = true := by simpa using hlt
          obtain ⟨st, hsj⟩ : ∃ st, ls[j]? = some st := ⟨_, List.getElem?_eq_getElem (by rw [HL1.out]; exact hlt)⟩
          have hsmall := HSM.out st (List.mem_of_getElem? hsj)
          obtain ⟨b, off, v0, v1, v2, v3, rfl, hblt, c0, c1, c2, c3, hs4⟩ := HA.out.below HB1.out j st hsj
          have HC : Hid (C4 w1 b (off + j * 4) v0 v1 v2 v3) := Lib.hid ⟨c0, c1, c2, c3⟩
          obtain ⟨c0, c1, c2, c3⟩ := HC.out.below HB.out
          have HP := Lib.hid hP
          have HBD : Hid (D.steps ≤ j ∧ D.P.length ≤ j) := Lib.hid ⟨hst, hpl⟩
          have hds := do_steps D st
          have hsv : Hid (v0 = .int .i64 st.kind ∧ v1 = .int .i64 st.s ∧ (∃ A c, v2 = .slice A st.B.length c) ∧ ∃ A c, v3 = .slice A st.K.length c) := Lib.hid ⟨hs4.kind.1, hs4.s.1, (by obtain ⟨A, c, e, _⟩ := hs4.B; exact ⟨A, c, e⟩), (by obtain ⟨A, c, e, _⟩ := hs4.K; exact ⟨A, c, e⟩)⟩
          have hp9 : D.P.length < 1000000 ∧ D.steps < 1000000000 := by omega
          by_cases hq : st.kind = 0 ∧ readE D st.s = 0
          · have H4 := Lib.hid (hP.some_ v0 v1 v2 v3 st hs4 hq.1 hq.2)
            have hm4 := fun (w' : World) (F : Nat → Prop) (hr : Ref w' F r D) => hr.meant_yes v0 v1 v2 v3 st hs4 hq.1 hp9.1 hq.2
            have HM4 := Lib.hid hm4
            obtain ⟨rfl, rfl, ⟨A2, x2, rfl⟩, ⟨A3, x3, rfl⟩⟩ := hsv.out
            clear hsv hm4 hs4 hP hI hsj hst hpl hds hq hblt
            go_wp2_with fail
            refine H4.out.mono ?_
            rintro e w4 ⟨bb, rfl, hbb, hB4, hl4, F, hR4, hF4, hFw⟩
            have HR4 := Lib.hid hR4
            have HF4 := Lib.hid hF4
            have HFW := Lib.hid hFw
            obtain ⟨d0, d1, d2, d3⟩ := HC.out.below hR4.bel
            have H5 := Lib.hid (HM4.out w4 F hF4)
            clear hbb hB4 hl4 hR4 hF4 hFw H4 HM4
            generalize readS D st.s.toNat = ws at *
            go_wp2_with fail
            refine H5.out.mono ?_
            rintro e w5 ⟨cb, cc, rfl, hcb, hRw5, hw5⟩
            have HINV : Hid (PInv w1 w5 g r (j + 1)) := Lib.hid ⟨D, ⟨⟨F, (HR4.out.below hw5).less (fun k hk => .inl hk), HF4.out.below hw5, fun k hk => (HFW.out k hk).1⟩⟩, by have := HBD.out; omega, by have := HBD.out; omega⟩
            clear hRw5 hw5 H5 HR4 HF4 c0 c1 c2 c3 d0 d1 d2 d3 HC hcb
            go_wp2_with fail
            go_roundw
            case rel => exact ⟨j + 1, by omega, by go_num, HINV⟩
            case measure => simp [intOf]; omega
          · have H4 := Lib.hid (hP.none_ v0 v1 v2 v3 st hs4 hsmall.1 hsmall.2 hp9.1 hp9.2 hq)
            have HDS : Hid ((doD D st).steps ≤ j + 1 ∧ (doD D st).P.length ≤ j + 1) := Lib.hid (by omega)
            obtain ⟨rfl, rfl, ⟨A2, x2, rfl⟩, ⟨A3, x3, rfl⟩⟩ := hsv.out
            clear hsv hs4 hP hI hsj hst hpl hds hq hblt hp9
            generalize doD D st = DN at *
            generalize doE D st = ee at *
            go_wp2_with fail
            refine H4.out.mono ?_
            rintro e w4 ⟨rfl, hb4, h5⟩
            obtain ⟨d0, d1, d2, d3⟩ := HC.out.below hb4
            have H5 := Lib.hid h5
            clear hb4 h5 H4
            go_wp2_with fail
            refine H5.out.mono ?_
            rintro e w5 ⟨rfl, hP5⟩
            have HINV : Hid (PInv w1 w5 g r (j + 1)) := Lib.hid ⟨DN, hP5, HDS.out.1, HDS.out.2⟩
            clear hP5 H5 c0 c1 c2 c3 d0 d1 d2 d3 HC
            go_wp2_with fail
            go_roundw
            case rel => exact ⟨j + 1, by omega, by go_num, HINV⟩
            case measure => simp [intOf]; omega
        · obtain rfl : len1 = j := by omega
          have hd : decide ((len1 : Int) < (len1 : Int)) = false := by simp
          obtain ⟨wa, rfl⟩ : ∃ wa, wa = wr := ⟨wr, rfl⟩
          have H6 := Lib.hid (hP.copyD (by omega))
          have HPD := Lib.hid hP
          have HD0 : Hid (D.steps ≤ len1 ∧ D.P.length ≤ len1) := Lib.hid ⟨hst, hpl⟩
          clear hP hI hst hpl
          go_wp2_with fail
          refine H6.out.mono ?_
          rintro e wb ⟨c, rfl, hbb, h7⟩
          have H7 := Lib.hid h7
          clear hbb h7 H6
          go_wp2_with fail
          refine H7.out.mono ?_
          rintro e wc ⟨q, rfl, hPc, hbc⟩
          have HINV : Hid (PInv wa wc c q (len1 + 0)) := Lib.hid ⟨_, hPc, HD0.out.1, HD0.out.2⟩
          clear hPc hbc H7
          go_wp2_with fail
          go_loopw [16, 17, 18, 19, 20] (fun i x1 x2 x3 x4 wx => ∃ j : Nat, j ≤ len2 ∧ i = .int .i64 (j : Int) ∧ Hid (PInv wa wx c q (len1 + j))) (fun i _ _ _ _ _ => len2 - (intOf i).toNat)
          case atStart => exact ⟨0, Nat.zero_le _, rfl, HINV⟩
          case round =>
            obtain ⟨j, hj, rfl, hI⟩ := hrel
            clear HINV
            obtain ⟨D2, hP, hst, hpl⟩ := hI.out
            have HB2 := Lib.hid hP.bel
            by_cases hlt : j < len2
            · have hd : decide ((j : Int) < (len2 : Int)) = true := by simpa using hlt
              obtain ⟨st, hsj⟩ : ∃ st, ms[j]? = some st := ⟨_, List.getElem?_eq_getElem (by rw [HL2.out]; exact hlt)⟩
              have hsmall := HSM2.out st (List.mem_of_getElem? hsj)
              obtain ⟨b, off, v0, v1, v2, v3, rfl, hblt, c0, c1, c2, c3, hs4⟩ := HBS.out.below (HB1.out.trans (HB.out.mono HB1.out.size)) j st hsj
              have HC : Hid (C4 wa b (off + j * 4) v0 v1 v2 v3) := Lib.hid ⟨c0, c1, c2, c3⟩
              obtain ⟨c0, c1, c2, c3⟩ := HC.out.below HB2.out
              have HBD : Hid (D2.steps ≤ len1 + j ∧ D2.P.length ≤ len1 + j) := Lib.hid ⟨hst, hpl⟩
              have hds := do_steps D2 st
              have hsv : Hid (v0 = .int .i64 st.kind ∧ v1 = .int .i64 st.s ∧ (∃ A c, v2 = .slice A st.B.length c) ∧ ∃ A c, v3 = .slice A st.K.length c) := Lib.hid ⟨hs4.kind.1, hs4.s.1, (by obtain ⟨A, c, e, _⟩ := hs4.B; exact ⟨A, c, e⟩), (by obtain ⟨A, c, e, _⟩ := hs4.K; exact ⟨A, c, e⟩)⟩
              have hp9 : D2.P.length < 1000000 ∧ D2.steps < 1000000000 := by omega
              by_cases hq : st.kind = 0 ∧ readE D2 st.s = 0
              · have H4 := Lib.hid (hP.some_ v0 v1 v2 v3 st hs4 hq.1 hq.2)
                have hm4 := fun (w' : World) (F : Nat → Prop) (hr : Ref w' F q D2) => hr.meant_yes v0 v1 v2 v3 st hs4 hq.1 hp9.1 hq.2
                have HM4 := Lib.hid hm4
                obtain ⟨rfl, rfl, ⟨A2, x2, rfl⟩, ⟨A3, x3, rfl⟩⟩ := hsv.out
                clear hsv hm4 hs4 hP hI hsj hst hpl hds hq hblt
                go_wp2_with fail
                refine H4.out.mono ?_
                rintro e w4 ⟨bb, rfl, hbb, hB4, hl4, F, hR4, hF4, hFw⟩
                have HR4 := Lib.hid hR4
                have HF4 := Lib.hid hF4
                have HFW := Lib.hid hFw
                have HB4 := Lib.hid hB4
                have HL4 := Lib.hid hl4
                obtain ⟨d0, d1, d2, d3⟩ := HC.out.below hR4.bel
                have H5 := Lib.hid (HM4.out w4 F hF4)
                clear hbb hB4 hl4 hR4 hF4 hFw H4 HM4
                generalize readS D2 st.s.toNat = ws at *
                go_wp2_with fail
                refine H5.out.mono ?_
                rintro e w5 ⟨cb, cc, rfl, hcb, hRw5, hw5⟩
                have hcc := hRw5.le
                have hcm := hRw5.max
                unfold maxLen at hcm
                have hB5 := HB4.out.below hw5 HB4.out.lt
                have h6 := eq_any (some ⟨bb, 0, none⟩) (some ⟨cb, 0, none⟩) 256 256 256 cc ws ws w5 HL4.out HL4.out (Bytes.row hB5) hRw5.bytes (by decide) (by omega)
                rw [decide_eq_true (rfl : ws = ws)] at h6
                have H6 := Lib.hid h6
                have HPP : Hid (Pair wa w5 c q D2) := Lib.hid ⟨⟨F, (HR4.out.below hw5).less (fun k hk => .inl hk), HF4.out.below hw5, fun k hk => (HFW.out k hk).1⟩⟩
                clear h6 hB5 hRw5 hw5 H5 HB4 HR4 HF4 hcb c0 c1 c2 c3 d0 d1 d2 d3 HC
                go_wp2_with fail
                refine H6.out.mono ?_
                rintro e w6 ⟨rfl, hw6⟩
                have hP6 := HPP.out.below hw6
                have H7 := Lib.hid hP6.alike_
                have HP6 := Lib.hid hP6
                clear hw6 hP6 H6 HPP
                go_wp2_with fail
                refine H7.out.mono ?_
                rintro e w7 ⟨rfl, hw7⟩
                have hP7 := HP6.out.below hw7
                have H8 := Lib.hid (HPD.out.below hP7.bel).alike_
                have HP7 := Lib.hid hP7
                clear hw7 hP7 H7 HP6
                go_wp2_with fail
                refine H8.out.mono ?_
                rintro e w8 ⟨rfl, hw8⟩
                have HINV : Hid (PInv wa w8 c q (len1 + (j + 1))) := Lib.hid ⟨D2, HP7.out.below hw8, by have := HBD.out; omega, by have := HBD.out; omega⟩
                clear hw8 H8 HP7
                go_wp2_with fail
                go_roundw
                case rel => exact ⟨j + 1, by omega, by go_num, HINV⟩
                case measure => simp [intOf]; omega
              · have H4 := Lib.hid (hP.none_ v0 v1 v2 v3 st hs4 hsmall.1 hsmall.2 hp9.1 hp9.2 hq)
                have HDS : Hid ((doD D2 st).steps ≤ len1 + (j + 1) ∧ (doD D2 st).P.length ≤ len1 + (j + 1)) := Lib.hid (by omega)
                obtain ⟨rfl, rfl, ⟨A2, x2, rfl⟩, ⟨A3, x3, rfl⟩⟩ := hsv.out
                clear hsv hs4 hP hI hsj hst hpl hds hq hblt hp9
                generalize doD D2 st = DN at *
                generalize doE D2 st = ee at *
                have hee : (ee != ee) = false := by simp
                go_wp2_with fail
                refine H4.out.mono ?_
                rintro e w4 ⟨rfl, hb4, h5⟩
                obtain ⟨d0, d1, d2, d3⟩ := HC.out.below hb4
                have H5 := Lib.hid h5
                clear hb4 h5 H4
                go_wp2_with fail
                refine H5.out.mono ?_
                rintro e w5 ⟨rfl, hP5⟩
                have h6 := eq_any none none 0 0 0 0 [] [] w5 rfl rfl (Bytes.nil _ _) (Bytes.nil _ _) (by decide) (by decide)
                rw [decide_eq_true (rfl : ([] : List UInt8) = [])] at h6
                have H6 := Lib.hid h6
                have HPP := Lib.hid hP5
                clear h6 hP5 H5 c0 c1 c2 c3 d0 d1 d2 d3 HC
                go_wp2_with fail
                refine H6.out.mono ?_
                rintro e w6 ⟨rfl, hw6⟩
                have hP6 := HPP.out.below hw6
                have H7 := Lib.hid hP6.alike_
                have HP6 := Lib.hid hP6
                clear hw6 hP6 H6 HPP
                go_wp2_with fail
                refine H7.out.mono ?_
                rintro e w7 ⟨rfl, hw7⟩
                have hP7 := HP6.out.below hw7
                have H8 := Lib.hid (HPD.out.below hP7.bel).alike_
                have HP7 := Lib.hid hP7
                clear hw7 hP7 H7 HP6
                go_wp2_with fail
                refine H8.out.mono ?_
                rintro e w8 ⟨rfl, hw8⟩
                have HINV : Hid (PInv wa w8 c q (len1 + (j + 1))) := Lib.hid ⟨DN, HP7.out.below hw8, HDS.out.1, HDS.out.2⟩
                clear hw8 H8 HP7
                go_wp2_with fail
                go_roundw
                case rel => exact ⟨j + 1, by omega, by go_num, HINV⟩
                case measure => simp [intOf]; omega
            · obtain rfl : len2 = j := by omega
              have hd : decide ((len2 : Int) < (len2 : Int)) = false := by simp
              have hPD := HPD.out.below hP.bel
              have h7 := hPD.imageW
              obtain ⟨gs, cs, hcd, hsd⟩ := hPD.held
              obtain ⟨gs2, cs2, hcq, hsq⟩ := hP.held
              have H7 := Lib.hid h7
              have HCD := Lib.hid hcd
              have HSD := Lib.hid hsd
              have HCQ := Lib.hid hcq
              have HSQ := Lib.hid hsq
              have HPC := Lib.hid hP
              have HPD2 := Lib.hid hPD
              have hnn := hPD.ok.hi
              have HIMC : Hid (∀ W : World, Below wr.heap.size wr W → Calls Try.prog 19 #[.pointer (some ⟨c, 0, none⟩)] W fun e w' => e = .returned (.slice (some ⟨W.heap.size, 0, none⟩) D2.S.length D2.S.length) ∧ (Secs w' (fun j => W.heap.size < j ∧ j < w'.heap.size) W.heap.size D2.S ∧ RowsW w' W.heap.size D2.S.length) ∧ Below W.heap.size W w') := Lib.hid (fun W hW => (hP.below hW).imageW)
              have HIMD : Hid (∀ W : World, Below wr.heap.size wr W → Calls Try.prog 19 #[.pointer (some ⟨g, 0, none⟩)] W fun e w' => e = .returned (.slice (some ⟨W.heap.size, 0, none⟩) D.S.length D.S.length) ∧ (Secs w' (fun j => W.heap.size < j ∧ j < w'.heap.size) W.heap.size D.S ∧ RowsW w' W.heap.size D.S.length) ∧ Below W.heap.size W w') := Lib.hid (fun W hW => (hPD.below hW).imageW)
              clear hP hI hst hpl hPD h7 hcd hsd hcq hsq HPD HPC HPD2
              obtain ⟨nn, hnne⟩ : ∃ nn, D.S.length = nn := ⟨_, rfl⟩
              obtain ⟨n2, hn2e⟩ : ∃ n2, D2.S.length = n2 := ⟨_, rfl⟩
              rw [hnne] at H7 HCD HSD HIMD hnn
              rw [hn2e] at HCQ HSQ HIMC
              clear hnne hn2e
              obtain ⟨wd, rfl⟩ : ∃ wd, wd = wr := ⟨wr, rfl⟩
              go_wp2_with fail
              refine H7.out.mono ?_
              rintro e w9 ⟨rfl, hSW, hb9⟩
              have HSW := Lib.hid hSW
              have HB9 := Lib.hid hb9
              clear hSW hb9 H7
              go_wp2_with fail
              refine wp_region_held_drew (S := (fun W => W.cell? ⟨r, 0, none⟩ = some (.slice (some ⟨gs, 0, none⟩) nn cs) ∧ W.cell? ⟨q, 0, none⟩ = some (.slice (some ⟨gs2, 0, none⟩) n2 cs2))) (by kernel_rfl) ⟨HCD.out _ (HB9.out.trans (Below.refl _ _).drew), HCQ.out _ (HB9.out.trans (Below.refl _ _).drew)⟩ (fun hHeld => ?_)
              refine takeY 0 (some 154) rfl rfl (by kernel_rfl) (by kernel_rfl) (by kernel_rfl) (fun _ _ _ h => h) (by rfl) (v := _) (by (intro _ hSw; (try dsimp only at hSw); go_simp; try with_reducible rfl)) hHeld ?_
              simp only [Act.put, List.setIfInBounds_toArray, List.set_cons_zero, List.set_cons_succ]
              refine takeY 1 (some 155) rfl rfl (by kernel_rfl) (by kernel_rfl) (by kernel_rfl) (fun _ _ _ h => h) (by rfl) (v := _) (by (intro _ hSw; (try dsimp only at hSw); go_simp; try with_reducible rfl)) hHeld ?_
              simp only [Act.put, List.setIfInBounds_toArray, List.set_cons_zero, List.set_cons_succ]
              refine takeY 2 (some 156) rfl rfl (by kernel_rfl) (by kernel_rfl) (by kernel_rfl) (fun _ _ _ h => h) (by rfl) (v := _) (by (intro _ hSw; (try dsimp only at hSw); go_simp; try with_reducible rfl)) hHeld ?_
              simp only [Act.put, List.setIfInBounds_toArray, List.set_cons_zero, List.set_cons_succ]
              refine takeY 3 (some 157) rfl rfl (by kernel_rfl) (by kernel_rfl) (by kernel_rfl) (fun _ _ _ h => h) (by rfl) (v := _) (by (intro _ hSw; (try dsimp only at hSw); go_simp; try with_reducible rfl)) hHeld ?_
              simp only [Act.put, List.setIfInBounds_toArray, List.set_cons_zero, List.set_cons_succ]
              refine takeY 4 (some 158) rfl rfl (by kernel_rfl) (by kernel_rfl) (by kernel_rfl) (fun _ _ _ h => h) (by rfl) (v := _) (by (intro _ hSw; (try dsimp only at hSw); go_simp; try with_reducible rfl)) hHeld ?_
              simp only [Act.put, List.setIfInBounds_toArray, List.set_cons_zero, List.set_cons_succ]
              refine wpAnyH_ready (rs := [5]) (by kernel_rfl) (by simp) ?_
              refine AllReadyH.cons rfl (fun K hK => ?_) AllReadyH.nil
              clear hHeld
              go_simp
              go_wp2_with (go_at_call 18; refine Calls.mono (HSD.out _ _ _ (HB9.out.trans (Below.refl _ _).drew) (HSW.out.1.same (Nat.le_refl _) (fun _ _ _ => rfl) rfl)) ?_; rintro e wx ⟨rfl, hbx⟩; have hwx := (HB9.out.trans (Below.refl _ _).drew).trans (hbx.mono HB9.out.size))
              refine hK.out _ _ ⟨HCD.out _ hwx, HCQ.out _ hwx⟩ (fun hHeld => ?_)
              clear hK K
              refine takeY 6 (some 160) rfl rfl (by kernel_rfl) (by kernel_rfl) (by kernel_rfl) (fun _ _ _ h => h) (by rfl) (v := _) (by (intro _ hSw; (try dsimp only at hSw); go_simp; try with_reducible rfl)) hHeld ?_
              simp only [Act.put, List.setIfInBounds_toArray, List.set_cons_zero, List.set_cons_succ]
              refine takeY 7 (some 161) rfl rfl (by kernel_rfl) (by kernel_rfl) (by kernel_rfl) (fun _ _ _ h => h) (by rfl) (v := _) (by (intro _ hSw; (try dsimp only at hSw); go_simp; try with_reducible rfl)) hHeld ?_
              simp only [Act.put, List.setIfInBounds_toArray, List.set_cons_zero, List.set_cons_succ]
              refine takeY 8 (some 162) rfl rfl (by kernel_rfl) (by kernel_rfl) (by kernel_rfl) (fun _ _ _ h => h) (by rfl) (v := _) (by (intro _ hSw; (try dsimp only at hSw); go_simp; try with_reducible rfl)) hHeld ?_
              simp only [Act.put, List.setIfInBounds_toArray, List.set_cons_zero, List.set_cons_succ]
              refine takeY 10 (some 164) rfl rfl (by kernel_rfl) (by kernel_rfl) (by kernel_rfl) (fun _ _ _ h => h) (by rfl) (v := _) (by (intro _ hSw; (try dsimp only at hSw); go_simp; try with_reducible rfl)) hHeld ?_
              simp only [Act.put, List.setIfInBounds_toArray, List.set_cons_zero, List.set_cons_succ]
              refine takeY 11 (some 165) rfl rfl (by kernel_rfl) (by kernel_rfl) (by kernel_rfl) (fun _ _ _ h => h) (by rfl) (v := _) (by (intro _ hSw; (try dsimp only at hSw); go_simp; try with_reducible rfl)) hHeld ?_
              simp only [Act.put, List.setIfInBounds_toArray, List.set_cons_zero, List.set_cons_succ]
              refine takeY 12 (some 166) rfl rfl (by kernel_rfl) (by kernel_rfl) (by kernel_rfl) (fun _ _ _ h => h) (by rfl) (v := _) (by (intro _ hSw; (try dsimp only at hSw); go_simp; try with_reducible rfl)) hHeld ?_
              simp only [Act.put, List.setIfInBounds_toArray, List.set_cons_zero, List.set_cons_succ]
              refine takeY 13 (some 167) rfl rfl (by kernel_rfl) (by kernel_rfl) (by kernel_rfl) (fun _ _ _ h => h) (by rfl) (v := _) (by (intro _ hSw; (try dsimp only at hSw); go_simp; try with_reducible rfl)) hHeld ?_
              simp only [Act.put, List.setIfInBounds_toArray, List.set_cons_zero, List.set_cons_succ]
              refine wpAnyH_ready (rs := [9]) (by kernel_rfl) (by simp) ?_
              refine AllReadyH.cons rfl (fun K hK => ?_) AllReadyH.nil
              clear hHeld
              go_simp
              go_wp2_with (go_at_call 19; refine Calls.mono (HIMC.out _ hwx) ?_; rintro e wy ⟨rfl, hSy, hby⟩; have hwy := hwx.trans (hby.mono hwx.size))
              refine hK.out _ _ ⟨HCD.out _ hwy, HCQ.out _ hwy⟩ (fun hHeld => ?_)
              clear hK K
              refine wpAnyH_ready (rs := [14]) (by kernel_rfl) (by simp) ?_
              refine AllReadyH.cons rfl (fun K hK => ?_) AllReadyH.nil
              clear hHeld
              go_simp
              go_wp2_with (go_at_call 18; refine Calls.mono (HSQ.out _ _ _ hwy hSy.1) ?_; rintro e wz ⟨rfl, hbz⟩; have hwz := hwy.trans (hbz.mono hwy.size))
              refine hK.out _ _ ⟨HCD.out _ hwz, HCQ.out _ hwz⟩ (fun hHeld => ?_)
              clear hK K
              refine takeY 15 (some 169) rfl rfl (by kernel_rfl) (by kernel_rfl) (by kernel_rfl) (fun _ _ _ h => h) (by rfl) (v := _) (by (intro _ hSw; (try dsimp only at hSw); go_simp; try with_reducible rfl)) hHeld ?_
              simp only [Act.put, List.setIfInBounds_toArray, List.set_cons_zero, List.set_cons_succ]
              refine takeY 16 (some 170) rfl rfl (by kernel_rfl) (by kernel_rfl) (by kernel_rfl) (fun _ _ _ h => h) (by rfl) (v := _) (by (intro _ hSw; (try dsimp only at hSw); go_simp; try with_reducible rfl)) hHeld ?_
              simp only [Act.put, List.setIfInBounds_toArray, List.set_cons_zero, List.set_cons_succ]
              refine wpAnyH_done (by kernel_rfl) ?_ _
              have HRB : Hid (RowsW wz wd.heap.size nn ∧ Below wd.heap.size wd wz) := Lib.hid ⟨(HSW.out.2.below (((Below.refl _ _).drew.trans hbx).trans ((hby.mono (by have := hbx.size; simpa using this)).trans (hbz.mono (by have h1 := hbx.size; have h2 := hby.size; exact Nat.le_trans h1 h2))))), hwz⟩
              clear hwx hwy hwz hbx hby hbz hSy hHeld HSW HB9
              go_wp2_with fail
              go_loopw [22, 23] (fun i k wx => ∃ j : Nat, j ≤ nn ∧ i = .int .i64 (j : Int) ∧ Hid (RowsW wx wd.heap.size nn ∧ Below wd.heap.size wd wx)) (fun i _ _ => nn - (intOf i).toNat)
              case atStart => exact ⟨0, Nat.zero_le _, rfl, HRB⟩
              case round =>
                obtain ⟨j, hj, rfl, hI⟩ := hrel
                clear HRB
                by_cases hlt : j < nn
                · have hd : decide ((j : Int) < (nn : Int)) = true := by simpa using hlt
                  obtain ⟨lss, hbl, hsz, hrow⟩ := hI.out.1.ex
                  rcases hrow j hlt with hr | ⟨h, L, hr, hgt, hL, hm⟩
                  · have hc := hbl.cell j
                    rw [hr] at hc
                    have HRB := hI
                    clear hbl hsz hrow hr hI
                    go_wp2_with fail
                    obtain ⟨wi, rfl⟩ : ∃ wi, wi = wr := ⟨wr, rfl⟩
                    go_loopw [23] (fun k wx => k = .int .i64 0 ∧ Hid (wi = wx)) (fun _ _ => 0)
                    case atStart => exact ⟨rfl, Lib.hid rfl⟩
                    case round =>
                      obtain ⟨rfl, hw⟩ := hrel
                      obtain rfl := hw.out
                      clear hw
                      go_wp2_with fail
                      go_roundw
                      case rel => exact ⟨j + 1, by omega, by go_num, HRB⟩
                      case measure => simp [intOf]; omega
                  · have hc := hbl.cell j
                    rw [hr] at hc
                    have HIN : Hid (InR wd wr wd.heap.size nn j h L) := Lib.hid ⟨hI.out.1, hc, hm, hgt, hI.out.2, Nat.le_refl _⟩
                    clear hbl hsz hrow hr hI hm hgt
                    go_wp2_with fail
                    obtain ⟨wi, hwi⟩ : ∃ wi, wi = wr := ⟨wr, rfl⟩
                    rw [← hwi] at hc
                    go_loopw [23] (fun k wx => ∃ q2 : Nat, q2 ≤ L ∧ k = .int .i64 (q2 : Int) ∧ Hid (InR wd wx wd.heap.size nn j h L)) (fun k _ => L - (intOf k).toNat)
                    case atStart => exact ⟨0, Nat.zero_le _, rfl, HIN⟩
                    case round =>
                      clear hc hwi
                      obtain ⟨q2, hq2, rfl, hI⟩ := hrel
                      clear HIN
                      have hc := hI.out.c
                      by_cases hlq : q2 < L
                      · have hdq : decide ((q2 : Int) < (L : Int)) = true := by simpa using hlq
                        obtain ⟨x, hcx⟩ := hI.out.mt.cell q2 hlq
                        have hfx := hI.out.mt.free q2 hlq
                        obtain ⟨c', hw⟩ := u8_succ x
                        have HM2 := Lib.hid (hI.out.set_ q2 c')
                        unfold bv at hcx
                        have h0 : (0 : Int) ≤ (q2 : Int) := by omega
                        have hqi : (q2 : Int) < (L : Int) := by omega
                        clear hI
                        go_wp2_with fail
                        go_region
                        all_goals
                          go_wp2_with fail
                          go_roundw
                          case rel => exact ⟨q2 + 1, by omega, by go_num, HM2⟩
                          case measure => simp [intOf]; omega
                      · obtain rfl : L = q2 := by omega
                        have hdq : decide ((L : Int) < (L : Int)) = false := by simp
                        have HRB : Hid (RowsW wr wd.heap.size nn ∧ Below wd.heap.size wd wr) := Lib.hid ⟨hI.out.rows, hI.out.bel⟩
                        clear hI
                        go_wp2_with fail
                        go_roundw
                        case rel => exact ⟨j + 1, by omega, by go_num, HRB⟩
                        case measure => simp [intOf]; omega
                · obtain rfl : nn = j := by omega
                  have hd : decide ((nn : Int) < (nn : Int)) = false := by simp
                  have HBX := Lib.hid hI.out.2
                  clear hI
                  go_wp2_with fail
                  refine wp_region_held_drew (S := (fun W => W.cell? ⟨r, 0, none⟩ = some (.slice (some ⟨gs, 0, none⟩) nn cs))) (by kernel_rfl) (HCD.out _ (HBX.out.trans (Below.refl _ _).drew)) (fun hHeld => ?_)
                  refine takeY 0 (some 200) rfl rfl (by kernel_rfl) (by kernel_rfl) (by kernel_rfl) (fun _ _ _ h => h) (by rfl) (v := _) (by (intro _ hSw; (try dsimp only at hSw); go_simp; try with_reducible rfl)) hHeld ?_
                  simp only [Act.put, List.setIfInBounds_toArray, List.set_cons_zero, List.set_cons_succ]
                  refine takeY 2 (some 202) rfl rfl (by kernel_rfl) (by kernel_rfl) (by kernel_rfl) (fun _ _ _ h => h) (by rfl) (v := _) (by (intro _ hSw; (try dsimp only at hSw); go_simp; try with_reducible rfl)) hHeld ?_
                  simp only [Act.put, List.setIfInBounds_toArray, List.set_cons_zero, List.set_cons_succ]
                  refine takeY 3 (some 203) rfl rfl (by kernel_rfl) (by kernel_rfl) (by kernel_rfl) (fun _ _ _ h => h) (by rfl) (v := _) (by (intro _ hSw; (try dsimp only at hSw); go_simp; try with_reducible rfl)) hHeld ?_
                  simp only [Act.put, List.setIfInBounds_toArray, List.set_cons_zero, List.set_cons_succ]
                  refine takeY 4 (some 204) rfl rfl (by kernel_rfl) (by kernel_rfl) (by kernel_rfl) (fun _ _ _ h => h) (by rfl) (v := _) (by (intro _ hSw; (try dsimp only at hSw); go_simp; try with_reducible rfl)) hHeld ?_
                  simp only [Act.put, List.setIfInBounds_toArray, List.set_cons_zero, List.set_cons_succ]
                  refine takeY 5 (some 205) rfl rfl (by kernel_rfl) (by kernel_rfl) (by kernel_rfl) (fun _ _ _ h => h) (by rfl) (v := _) (by (intro _ hSw; (try dsimp only at hSw); go_simp; try with_reducible rfl)) hHeld ?_
                  simp only [Act.put, List.setIfInBounds_toArray, List.set_cons_zero, List.set_cons_succ]
                  refine wpAnyH_ready (rs := [1]) (by kernel_rfl) (by simp) ?_
                  refine AllReadyH.cons rfl (fun K hK => ?_) AllReadyH.nil
                  clear hHeld
                  go_simp
                  go_wp2_with (go_at_call 19; refine Calls.mono (HIMD.out _ (HBX.out.trans (Below.refl _ _).drew)) ?_; rintro e wp ⟨rfl, hSp, hbp⟩; have hwp := (HBX.out.trans (Below.refl _ _).drew).trans (hbp.mono HBX.out.size))
                  refine hK.out _ _ (HCD.out _ hwp) (fun hHeld => ?_)
                  clear hK K
                  refine wpAnyH_ready (rs := [6]) (by kernel_rfl) (by simp) ?_
                  refine AllReadyH.cons rfl (fun K hK => ?_) AllReadyH.nil
                  clear hHeld
                  go_simp
                  go_wp2_with (go_at_call 18; refine Calls.mono (HSD.out _ _ _ hwp hSp.1) ?_; rintro e wq ⟨rfl, hbq⟩; have hwq := hwp.trans (hbq.mono hwp.size))
                  refine hK.out _ _ (HCD.out _ hwq) (fun hHeld => ?_)
                  clear hK K
                  refine takeY 7 (some 207) rfl rfl (by kernel_rfl) (by kernel_rfl) (by kernel_rfl) (fun _ _ _ h => h) (by rfl) (v := _) (by (intro _ hSw; (try dsimp only at hSw); go_simp; try with_reducible rfl)) hHeld ?_
                  simp only [Act.put, List.setIfInBounds_toArray, List.set_cons_zero, List.set_cons_succ]
                  refine takeY 8 (some 208) rfl rfl (by kernel_rfl) (by kernel_rfl) (by kernel_rfl) (fun _ _ _ h => h) (by rfl) (v := _) (by (intro _ hSw; (try dsimp only at hSw); go_simp; try with_reducible rfl)) hHeld ?_
                  simp only [Act.put, List.setIfInBounds_toArray, List.set_cons_zero, List.set_cons_succ]
                  refine takeY 9 (some 209) rfl rfl (by kernel_rfl) (by kernel_rfl) (by kernel_rfl) (fun _ _ _ h => h) (by rfl) (v := _) (by (intro _ hSw; (try dsimp only at hSw); go_simp; try with_reducible rfl)) hHeld ?_
                  simp only [Act.put, List.setIfInBounds_toArray, List.set_cons_zero, List.set_cons_succ]
                  refine wpAnyH_ready (rs := [10]) (by kernel_rfl) (by simp) ?_
                  refine AllReadyH.cons rfl (fun K hK => ?_) AllReadyH.nil
                  clear hHeld
                  go_simp
                  go_wp2_with (go_at_call 18; refine Calls.mono (HAL.out _ (HB.out.trans ((HB2.out.trans (hwq.mono HB2.out.size)).mono HB.out.size))) ?_; rintro e ws ⟨rfl, hbs⟩; have hws := hwq.trans (hbs.mono hwq.size))
                  refine hK.out _ _ (HCD.out _ hws) (fun hHeld => ?_)
                  clear hK K
                  refine takeY 11 (some 211) rfl rfl (by kernel_rfl) (by kernel_rfl) (by kernel_rfl) (fun _ _ _ h => h) (by rfl) (v := _) (by (intro _ hSw; (try dsimp only at hSw); go_simp; try with_reducible rfl)) hHeld ?_
                  simp only [Act.put, List.setIfInBounds_toArray, List.set_cons_zero, List.set_cons_succ]
                  refine takeY 12 (some 212) rfl rfl (by kernel_rfl) (by kernel_rfl) (by kernel_rfl) (fun _ _ _ h => h) (by rfl) (v := _) (by (intro _ hSw; (try dsimp only at hSw); go_simp; try with_reducible rfl)) hHeld ?_
                  simp only [Act.put, List.setIfInBounds_toArray, List.set_cons_zero, List.set_cons_succ]
                  refine wpAnyH_ready (rs := [13]) (by kernel_rfl) (by simp) ?_
                  refine AllReadyH.cons rfl (fun K hK => ?_) AllReadyH.nil
                  clear hHeld
                  go_simp
                  go_wp2_with (go_at_call 11; refine Calls.mono (works_any _) ?_; rintro e wt ⟨rfl, hbt⟩; have hwt := hws.trans (hbt.mono hws.size))
                  refine hK.out _ _ (HCD.out _ hwt) (fun hHeld => ?_)
                  clear hK K
                  refine takeY 14 (some 214) rfl rfl (by kernel_rfl) (by kernel_rfl) (by kernel_rfl) (fun _ _ _ h => h) (by rfl) (v := _) (by (intro _ hSw; (try dsimp only at hSw); go_simp; try with_reducible rfl)) hHeld ?_
                  simp only [Act.put, List.setIfInBounds_toArray, List.set_cons_zero, List.set_cons_succ]
                  refine takeY 15 (some 6) rfl rfl (by kernel_rfl) (by kernel_rfl) (by kernel_rfl) (fun _ _ _ h => h) (by rfl) (v := _) (by (intro _ hSw; (try dsimp only at hSw); go_simp; try with_reducible rfl)) hHeld ?_
                  simp only [Act.put, List.setIfInBounds_toArray, List.set_cons_zero, List.set_cons_succ]
                  refine wpAnyH_done (by kernel_rfl) ?_ _
                  go_wp2_with fail
                  go_ret
                  have h1 := HB2.out.trans (hwt.mono HB2.out.size)
                  have h2 := HB.out.trans (h1.mono HB.out.size)
                  exact ⟨rfl, HB1.out.trans (h2.mono HB1.out.size)⟩
end Go.Proofs.Ytdohfkblmadejaa
