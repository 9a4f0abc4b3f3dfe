/- cover: CoverWild. -/
import Derived.Test.YtigaondgopahgaaAp
namespace Go.Proofs.Ytigaondgopahgaa
open Go.RowKit Ty
set_option linter.unusedVariables false
set_option linter.unusedSimpArgs false
attribute [local go_sem] Oper.semAt_some
set_option maxRecDepth 20000 in
set_option maxHeartbeats 8000000 in
theorem wild_law (ps : List Ty) (A : Option Addr) (n c : Nat) (w : World) (hA : PAt Everywhere w A n c ps) (hnil : A = none → c = 0) :
    Calls Try.prog 5 #[.slice A n c] w fun e w' => e = .returned (.bool true) ∧ Below w.heap.size w w' := by
  have HL := large_any ps A n c none 0 0 w hA (by omega)
  obtain ⟨lg, hlg⟩ : ∃ lg, largeB n 0 (wrap64 (partss ps : Nat)) = lg := ⟨_, rfl⟩
  rw [hlg] at HL
  replace HL := Lib.hid HL
  have HA := Lib.hid (And.intro hA (And.intro hnil hlg))
  clear hA hnil hlg
  go_enter Try.func5, Try.ntmps5
  go_wp2_with fail
  refine HL.out.mono ?_
  rintro e w0 ⟨rfl, rfl⟩
  have HBW : Hid (Below w.heap.size w w) := Lib.hid (Below.refl _ _)
  cases lg with
  | true =>
    go_wp2_with fail
    refine (works_any w).mono ?_
    rintro e wz ⟨rfl, hbz⟩
    have HBZ := Lib.hid (HBW.out.trans (hbz.mono HBW.out.size))
    clear hbz
    go_wp2_with fail
    go_ret
    exact ⟨rfl, HBZ.out⟩
  | false =>
    go_wp2_with fail
    refine (infos_any w).mono ?_
    rintro e w1 ⟨rfl, hI1, hb1⟩
    obtain ⟨k0, hk0⟩ : ∃ k0, told infosL ps false = k0 := ⟨_, rfl⟩
    obtain ⟨e0, he0⟩ : ∃ e0, errOf k0 = e0 := ⟨_, rfl⟩
    have HC0 := Lib.hid (checkI ps A n c _ false k0 e0 w1 (HA.out.1.bel hb1) hI1 hk0 he0)
    have HB1 := Lib.hid hb1
    have h4 := told_le infosL ps false
    rw [hk0] at h4
    clear hI1 hb1
    by_cases hz : k0 = 0
    · subst hz
      obtain rfl : e0 = 0 := by rw [← he0]; rfl
      have HK0 := Lib.hid hk0
      have hpp := told_parts hk0
      clear he0 hk0 h4
      go_wp2_with fail
      refine HC0.out.mono ?_
      rintro e w2 ⟨rfl, hb2⟩
      have HB2 := Lib.hid (HB1.out.trans (hb2.mono HB1.out.size))
      clear hb2 HC0
      have hRC := rcount_any (F := Everywhere) (.node 0 [] 0 ps) A c w2 (HA.out.1.bel HB2.out).at_ (by show ps.length ≤ c; rw [HA.out.1.len]; exact HA.out.1.le) HA.out.1.cap
      change Calls Try.prog 17 #[.slice A ps.length c] w2 (fun e w' => e = .returned (.int .i64 (wrap64 (partss ps : Nat))) ∧ w2 = w') at hRC
      rw [HA.out.1.len, wrap_small (by omega)] at hRC
      obtain ⟨pn, hpn⟩ : ∃ pn, partss ps = pn := ⟨_, rfl⟩
      rw [hpn] at hRC hpp
      have HPN := Lib.hid hpn
      replace hRC := Lib.hid hRC
      clear hpn
      by_cases h198 : 198 < pn
      · have hg : decide ((pn : Int) > 198) = true := by simp; omega
        have hg2 : decide ((198 : Int) < (pn : Int)) = true := by simp; omega
        go_wp2_with fail
        refine hRC.out.mono ?_
        rintro e w3 ⟨rfl, rfl⟩
        go_wp2_with fail
        refine (works_any w2).mono ?_
        rintro e wz ⟨rfl, hbz⟩
        have HBZ := Lib.hid (HB2.out.trans (hbz.mono HB2.out.size))
        clear hbz
        go_wp2_with fail
        go_ret
        exact ⟨rfl, HBZ.out⟩
      · have hg : decide ((pn : Int) > 198) = false := by simp; omega
        have hg2 : decide ((198 : Int) < (pn : Int)) = false := by simp; omega
        go_wp2_with fail
        refine hRC.out.mono ?_
        rintro e w3 ⟨rfl, rfl⟩
        clear hRC
        go_wp2_with fail
        refine (infos_any w2).mono ?_
        rintro e w3 ⟨rfl, hI3, hb3⟩
        have HB3 := Lib.hid (HB2.out.trans (hb3.mono HB2.out.size))
        clear hb3
        obtain ⟨hw1, hw2, hw3⟩ := told_wild infosL ps (by rw [HPN.out]; omega) HK0.out
        have HT2 := Lib.hid (told_wild2 infosL ps (by rw [HPN.out]; omega) HK0.out)
        have hnn : n ≤ 200 := by have h1 := partss_len ps; have := HA.out.1.len; have := HPN.out; omega
        clear hg hg2
        rcases hw1 with hk1 | hk1
        · have HC3 := Lib.hid (checkI ps A n c _ true 0 0 w3 (HA.out.1.bel HB3.out) hI3 hk1 rfl)
          clear hI3
          go_wp2_with fail
          refine HC3.out.mono ?_
          rintro e w4 ⟨rfl, hb4⟩
          clear HC3
          have hB4 : Below w.heap.size w w4 := HB3.out.trans (hb4.mono HB3.out.size)
          obtain ⟨v5, w5, fs, hrun, hO5, hfs, hfl, hgr⟩ := PtO.appA (F := Everywhere) (G := Everywhere) (PtO.nil Everywhere w.heap.size w4) hB4.size (HA.out.1.bel hB4) HA.out.2.1 (fun b _ => ⟨trivial, fun e => by cases e⟩) (by show 0 + n < _; omega)
          rw [List.nil_append] at hO5
          obtain ⟨A5, c5, rfl, hP5⟩ := hO5.shape
          rw [hfl] at hrun hO5 hP5
          have hB5 : Below w.heap.size w w5 := hB4.trans (PtO.bel (PtO.nil Everywhere w.heap.size w4) hgr (Nat.le_refl _) hB4.size)
          have HO5 := Lib.hid (And.intro hO5 (And.intro hB5 (And.intro hfs hfl)))
          have HR := Lib.hid hrun
          clear hb4 hB4 hrun hO5 hfs hfl hgr hP5 hB5
          go_upto_region 5 with fail
          have hrun := HR.out
          go_wp2_with (at_builtin; refine wpList_app rfl _ _ 22 rfl _ _ _ _ rfl rfl hrun ?_)
          clear hrun HR
          refine (wild_any w5).mono ?_
          rintro e w6 ⟨rfl, hb6⟩
          obtain ⟨w7, hw7⟩ : ∃ w7, w6.alloc (.cells #[.int .u8 1, .string ⟨#[]⟩, .int .i64 0, .slice none 0 0] 40) = w7 := ⟨_, rfl⟩
          have hb7 : Below w6.heap.size w6 w7 := by rw [← hw7]; exact (Below.refl _ _).alloc (Nat.le_refl _) _
          have hB7 : Blk w7 w6.heap.size 40 #[.int .u8 1, .string ⟨#[]⟩, .int .i64 0, .slice none 0 0] := by rw [← hw7]; exact Blk.new _ _ _
          have hO7 := (HO5.out.1.below hb6).below hb7
          have hBw7 := HO5.out.2.1.trans ((hb6.trans (hb7.mono hb6.size)).mono HO5.out.2.1.size)
          obtain ⟨v8, w8, hrun, hO8, hgr⟩ := hO7.app hBw7.size [tE any] ⟨w6.heap.size, 0, none⟩ 1 1 rfl (one_cells hB7 rfl) (fun e he => by rw [List.mem_singleton.1 he]; exact tE_in rfl ok_any) (by rw [HO5.out.2.2.2]; omega)
          obtain ⟨A8, c8, rfl, hP8⟩ := hO8.shape
          have hl8 : (fs ++ [tE any]).length = n + 1 := by rw [List.length_append, HO5.out.2.2.2]; rfl
          have hm8 : (fs ++ [tE any]).map Te.t = ps ++ [any] := by rw [List.map_append, HO5.out.2.2.1]; rfl
          rw [hl8] at hrun hO8 hP8
          rw [hm8] at hP8
          have hB8 : Below w.heap.size w w8 := hBw7.trans (hO7.bel hgr (Nat.le_refl _) hBw7.size)
          have HO8 := Lib.hid (And.intro hO8 (And.intro hB8 (And.intro (hP8.mono (G := Everywhere) fun _ _ => trivial) (And.intro hl8 hm8))))
          have HR := Lib.hid hrun
          have HW := Lib.hid hw7
          clear hb6 hb7 hB7 hO7 hBw7 hrun hO8 hgr hP8 hB8 hl8 hm8 hw7 HO5
          obtain ⟨m1, hm1⟩ : ∃ m1, n + 1 = m1 := ⟨_, rfl⟩
          rw [hm1] at HR HO8
          have HM1 := Lib.hid hm1
          clear hm1
          have hw7 := HW.out
          have hrun := HR.out
          go_wp2_with (at_builtin; refine wpList_app rfl _ _ 22 rfl _ _ _ _ rfl rfl hrun ?_)
          clear hw7 hrun HW HR
          refine (infos_any w8).mono ?_
          rintro e w9 ⟨rfl, hI9, hb9⟩
          obtain ⟨k2, hk2⟩ : ∃ k2, told infosL (ps ++ [any]) false = k2 := ⟨_, rfl⟩
          obtain ⟨e2, he2⟩ : ∃ e2, errOf k2 = e2 := ⟨_, rfl⟩
          have HC9 := Lib.hid (checkI (ps ++ [any]) A8 m1 c8 _ false k2 e2 w9 (HO8.out.2.2.1.bel hb9) hI9 hk2 he2)
          have HB9 := Lib.hid (HO8.out.2.1.trans (hb9.mono HO8.out.2.1.size))
          have HX9 := Lib.hid hb9
          have hne : ((e2 : Int) == 0) = false := by
            have h1 : k2 ≠ 0 := fun e => by
              have := hw2.1 (by rw [hk2, e])
              rw [hk1] at this
              cases this
            have h2 := errOf_pos h1 (by rw [← hk2]; exact told_le _ _ _)
            rw [he2] at h2
            simpa using h2
          clear hw2 hw3 hk1 hk2 he2 hI9 hb9
          go_wp2_with fail
          refine HC9.out.mono ?_
          rintro e w10 ⟨rfl, hb10⟩
          have HB10 := Lib.hid (HB9.out.trans (hb10.mono HB9.out.size))
          have HX10 := Lib.hid (HX9.out.trans (hb10.mono HX9.out.size))
          clear hb10 HC9 HX9 HB9
          have HB12 := HB10
          have HX12 := HX10
          obtain ⟨w12, rfl⟩ : ∃ w12, w12 = w10 := ⟨_, rfl⟩
          go_wp2_with fail
          refine (wild_any w12).mono ?_
          rintro e w13 ⟨rfl, hb13⟩
          obtain ⟨w14, hw14⟩ : ∃ w14, w13.alloc (.cells #[.int .u8 1, .string ⟨#[]⟩, .int .i64 0, .slice none 0 0] 40) = w14 := ⟨_, rfl⟩
          have hb14 : Below w13.heap.size w13 w14 := by rw [← hw14]; exact (Below.refl _ _).alloc (Nat.le_refl _) _
          have hB14 : Blk w14 w13.heap.size 40 #[.int .u8 1, .string ⟨#[]⟩, .int .i64 0, .slice none 0 0] := by rw [← hw14]; exact Blk.new _ _ _
          have hO14 := ((HO8.out.1.below HX12.out).below hb13).below hb14
          have hBw14 := HB12.out.trans ((hb13.trans (hb14.mono hb13.size)).mono HB12.out.size)
          obtain ⟨v15, w15, hrun, hO15, hgr⟩ := hO14.app hBw14.size [tE any] ⟨w13.heap.size, 0, none⟩ 1 1 rfl (one_cells hB14 rfl) (fun e he => by rw [List.mem_singleton.1 he]; exact tE_in rfl ok_any) (by rw [HO8.out.2.2.2.1]; have := HM1.out; omega)
          obtain ⟨A15, c15, rfl, hP15⟩ := hO15.shape
          have hl15 : (fs ++ [tE any] ++ [tE any]).length = m1 + 1 := by rw [List.length_append, HO8.out.2.2.2.1]; rfl
          have hm15 : (fs ++ [tE any] ++ [tE any]).map Te.t = ps ++ [any] ++ [any] := by rw [List.map_append, HO8.out.2.2.2.2]; rfl
          rw [hl15] at hP15
          rw [hm15] at hP15
          rw [hl15] at hrun
          have hB15 : Below w.heap.size w w15 := hBw14.trans (hO14.bel hgr (Nat.le_refl _) hBw14.size)
          have HP15 := Lib.hid (And.intro (hP15.mono (G := Everywhere) fun _ _ => trivial) hB15)
          have HR := Lib.hid hrun
          have HW := Lib.hid hw14
          clear hb13 hb14 hB14 hO14 hBw14 hrun hO15 hgr hP15 hB15 hl15 hm15 hw14
          obtain ⟨m2, hm2⟩ : ∃ m2, m1 + 1 = m2 := ⟨_, rfl⟩
          rw [hm2] at HR HP15
          clear hm2
          have hw14 := HW.out
          have hrun := HR.out
          go_wp2_with (at_builtin; refine wpList_app rfl _ _ 22 rfl _ _ _ _ rfl rfl hrun ?_)
          clear hw14 hrun HW HR
          refine (infos_any w15).mono ?_
          rintro e w16 ⟨rfl, hI16, hb16⟩
          have HC16 := Lib.hid (checkI (ps ++ [any] ++ [any]) A15 m2 c15 _ false 4 14 w16 (HP15.out.1.bel hb16) hI16 HT2.out rfl)
          have HB16 := Lib.hid (HP15.out.2.trans (hb16.mono HP15.out.2.size))
          clear hI16 hb16
          go_wp2_with fail
          refine HC16.out.mono ?_
          rintro e w17 ⟨rfl, hb17⟩
          have HB17 := Lib.hid (HB16.out.trans (hb17.mono HB16.out.size))
          clear hb17 HC16
          go_wp2_with fail
          refine (works_any w17).mono ?_
          rintro e wz ⟨rfl, hbz⟩
          have HBZ := Lib.hid (HB17.out.trans (hbz.mono HB17.out.size))
          clear hbz
          go_wp2_with fail
          go_ret
          exact ⟨rfl, HBZ.out⟩
        · have HC3 := Lib.hid (checkI ps A n c _ true 4 14 w3 (HA.out.1.bel HB3.out) hI3 hk1 rfl)
          clear hI3
          go_wp2_with fail
          refine HC3.out.mono ?_
          rintro e w4 ⟨rfl, hb4⟩
          clear HC3
          have hB4 : Below w.heap.size w w4 := HB3.out.trans (hb4.mono HB3.out.size)
          obtain ⟨v5, w5, fs, hrun, hO5, hfs, hfl, hgr⟩ := PtO.appA (F := Everywhere) (G := Everywhere) (PtO.nil Everywhere w.heap.size w4) hB4.size (HA.out.1.bel hB4) HA.out.2.1 (fun b _ => ⟨trivial, fun e => by cases e⟩) (by show 0 + n < _; omega)
          rw [List.nil_append] at hO5
          obtain ⟨A5, c5, rfl, hP5⟩ := hO5.shape
          rw [hfl] at hrun hO5 hP5
          have hB5 : Below w.heap.size w w5 := hB4.trans (PtO.bel (PtO.nil Everywhere w.heap.size w4) hgr (Nat.le_refl _) hB4.size)
          have HO5 := Lib.hid (And.intro hO5 (And.intro hB5 (And.intro hfs hfl)))
          have HR := Lib.hid hrun
          clear hb4 hB4 hrun hO5 hfs hfl hgr hP5 hB5
          go_upto_region 5 with fail
          have hrun := HR.out
          go_wp2_with (at_builtin; refine wpList_app rfl _ _ 22 rfl _ _ _ _ rfl rfl hrun ?_)
          clear hrun HR
          refine (wild_any w5).mono ?_
          rintro e w6 ⟨rfl, hb6⟩
          obtain ⟨w7, hw7⟩ : ∃ w7, w6.alloc (.cells #[.int .u8 1, .string ⟨#[]⟩, .int .i64 0, .slice none 0 0] 40) = w7 := ⟨_, rfl⟩
          have hb7 : Below w6.heap.size w6 w7 := by rw [← hw7]; exact (Below.refl _ _).alloc (Nat.le_refl _) _
          have hB7 : Blk w7 w6.heap.size 40 #[.int .u8 1, .string ⟨#[]⟩, .int .i64 0, .slice none 0 0] := by rw [← hw7]; exact Blk.new _ _ _
          have hO7 := (HO5.out.1.below hb6).below hb7
          have hBw7 := HO5.out.2.1.trans ((hb6.trans (hb7.mono hb6.size)).mono HO5.out.2.1.size)
          obtain ⟨v8, w8, hrun, hO8, hgr⟩ := hO7.app hBw7.size [tE any] ⟨w6.heap.size, 0, none⟩ 1 1 rfl (one_cells hB7 rfl) (fun e he => by rw [List.mem_singleton.1 he]; exact tE_in rfl ok_any) (by rw [HO5.out.2.2.2]; omega)
          obtain ⟨A8, c8, rfl, hP8⟩ := hO8.shape
          have hl8 : (fs ++ [tE any]).length = n + 1 := by rw [List.length_append, HO5.out.2.2.2]; rfl
          have hm8 : (fs ++ [tE any]).map Te.t = ps ++ [any] := by rw [List.map_append, HO5.out.2.2.1]; rfl
          rw [hl8] at hrun hO8 hP8
          rw [hm8] at hP8
          have hB8 : Below w.heap.size w w8 := hBw7.trans (hO7.bel hgr (Nat.le_refl _) hBw7.size)
          have HO8 := Lib.hid (And.intro hO8 (And.intro hB8 (And.intro (hP8.mono (G := Everywhere) fun _ _ => trivial) (And.intro hl8 hm8))))
          have HR := Lib.hid hrun
          have HW := Lib.hid hw7
          clear hb6 hb7 hB7 hO7 hBw7 hrun hO8 hgr hP8 hB8 hl8 hm8 hw7 HO5
          obtain ⟨m1, hm1⟩ : ∃ m1, n + 1 = m1 := ⟨_, rfl⟩
          rw [hm1] at HR HO8
          have HM1 := Lib.hid hm1
          clear hm1
          have hw7 := HW.out
          have hrun := HR.out
          go_wp2_with (at_builtin; refine wpList_app rfl _ _ 22 rfl _ _ _ _ rfl rfl hrun ?_)
          clear hw7 hrun HW HR
          refine (infos_any w8).mono ?_
          rintro e w9 ⟨rfl, hI9, hb9⟩
          obtain ⟨k2, hk2⟩ : ∃ k2, told infosL (ps ++ [any]) false = k2 := ⟨_, rfl⟩
          obtain ⟨e2, he2⟩ : ∃ e2, errOf k2 = e2 := ⟨_, rfl⟩
          have HC9 := Lib.hid (checkI (ps ++ [any]) A8 m1 c8 _ false k2 e2 w9 (HO8.out.2.2.1.bel hb9) hI9 hk2 he2)
          have HB9 := Lib.hid (HO8.out.2.1.trans (hb9.mono HO8.out.2.1.size))
          have HX9 := Lib.hid hb9
          have hz2 : k2 = 0 := by rw [← hk2]; exact hw2.2 hk1
          obtain rfl : e2 = 0 := by rw [← he2, hz2]; rfl
          have HW3 := Lib.hid (hw3 hk1)
          clear hw2 hw3 hk1 hk2 he2 hz2 hI9 hb9
          go_wp2_with fail
          refine HC9.out.mono ?_
          rintro e w10 ⟨rfl, hb10⟩
          have HB10 := Lib.hid (HB9.out.trans (hb10.mono HB9.out.size))
          have HX10 := Lib.hid (HX9.out.trans (hb10.mono HX9.out.size))
          clear hb10 HC9 HX9 HB9
          go_wp2_with fail
          refine (infos_any w10).mono ?_
          rintro e w11 ⟨rfl, hI11, hb11⟩
          have HC11 := Lib.hid (checkI (ps ++ [any]) A8 m1 c8 _ true 0 0 w11 ((HO8.out.2.2.1.bel HX10.out).bel hb11) hI11 HW3.out rfl)
          have HB11 := Lib.hid (HB10.out.trans (hb11.mono HB10.out.size))
          have HX11 := Lib.hid (HX10.out.trans (hb11.mono HX10.out.size))
          clear hI11 hb11 HB10 HX10
          go_wp2_with fail
          refine HC11.out.mono ?_
          rintro e w12 ⟨rfl, hb12⟩
          have HB12 := Lib.hid (HB11.out.trans (hb12.mono HB11.out.size))
          have HX12 := Lib.hid (HX11.out.trans (hb12.mono HX11.out.size))
          clear hb12 HC11 HB11 HX11
          go_wp2_with fail
          refine (wild_any w12).mono ?_
          rintro e w13 ⟨rfl, hb13⟩
          obtain ⟨w14, hw14⟩ : ∃ w14, w13.alloc (.cells #[.int .u8 1, .string ⟨#[]⟩, .int .i64 0, .slice none 0 0] 40) = w14 := ⟨_, rfl⟩
          have hb14 : Below w13.heap.size w13 w14 := by rw [← hw14]; exact (Below.refl _ _).alloc (Nat.le_refl _) _
          have hB14 : Blk w14 w13.heap.size 40 #[.int .u8 1, .string ⟨#[]⟩, .int .i64 0, .slice none 0 0] := by rw [← hw14]; exact Blk.new _ _ _
          have hO14 := ((HO8.out.1.below HX12.out).below hb13).below hb14
          have hBw14 := HB12.out.trans ((hb13.trans (hb14.mono hb13.size)).mono HB12.out.size)
          obtain ⟨v15, w15, hrun, hO15, hgr⟩ := hO14.app hBw14.size [tE any] ⟨w13.heap.size, 0, none⟩ 1 1 rfl (one_cells hB14 rfl) (fun e he => by rw [List.mem_singleton.1 he]; exact tE_in rfl ok_any) (by rw [HO8.out.2.2.2.1]; have := HM1.out; omega)
          obtain ⟨A15, c15, rfl, hP15⟩ := hO15.shape
          have hl15 : (fs ++ [tE any] ++ [tE any]).length = m1 + 1 := by rw [List.length_append, HO8.out.2.2.2.1]; rfl
          have hm15 : (fs ++ [tE any] ++ [tE any]).map Te.t = ps ++ [any] ++ [any] := by rw [List.map_append, HO8.out.2.2.2.2]; rfl
          rw [hl15] at hP15
          rw [hm15] at hP15
          rw [hl15] at hrun
          have hB15 : Below w.heap.size w w15 := hBw14.trans (hO14.bel hgr (Nat.le_refl _) hBw14.size)
          have HP15 := Lib.hid (And.intro (hP15.mono (G := Everywhere) fun _ _ => trivial) hB15)
          have HR := Lib.hid hrun
          have HW := Lib.hid hw14
          clear hb13 hb14 hB14 hO14 hBw14 hrun hO15 hgr hP15 hB15 hl15 hm15 hw14
          obtain ⟨m2, hm2⟩ : ∃ m2, m1 + 1 = m2 := ⟨_, rfl⟩
          rw [hm2] at HR HP15
          clear hm2
          have hw14 := HW.out
          have hrun := HR.out
          go_wp2_with (at_builtin; refine wpList_app rfl _ _ 22 rfl _ _ _ _ rfl rfl hrun ?_)
          clear hw14 hrun HW HR
          refine (infos_any w15).mono ?_
          rintro e w16 ⟨rfl, hI16, hb16⟩
          have HC16 := Lib.hid (checkI (ps ++ [any] ++ [any]) A15 m2 c15 _ false 4 14 w16 (HP15.out.1.bel hb16) hI16 HT2.out rfl)
          have HB16 := Lib.hid (HP15.out.2.trans (hb16.mono HP15.out.2.size))
          clear hI16 hb16
          go_wp2_with fail
          refine HC16.out.mono ?_
          rintro e w17 ⟨rfl, hb17⟩
          have HB17 := Lib.hid (HB16.out.trans (hb17.mono HB16.out.size))
          clear hb17 HC16
          go_wp2_with fail
          refine (works_any w17).mono ?_
          rintro e wz ⟨rfl, hbz⟩
          have HBZ := Lib.hid (HB17.out.trans (hbz.mono HB17.out.size))
          clear hbz
          go_wp2_with fail
          go_ret
          exact ⟨rfl, HBZ.out⟩
    · have hne : (e0 != 0) = true := by
        have := errOf_pos hz h4
        rw [he0] at this
        simpa using this
      clear he0 hk0 h4 hz
      go_wp2_with fail
      refine HC0.out.mono ?_
      rintro e w2 ⟨rfl, hb2⟩
      have HB2 := Lib.hid (HB1.out.trans (hb2.mono HB1.out.size))
      clear hb2 HC0
      go_wp2_with fail
      refine (works_any w2).mono ?_
      rintro e wz ⟨rfl, hbz⟩
      have HBZ := Lib.hid (HB2.out.trans (hbz.mono HB2.out.size))
      clear hbz
      go_wp2_with fail
      go_ret
      exact ⟨rfl, HBZ.out⟩
end Go.Proofs.Ytigaondgopahgaa
