/- cover: CoverNames. -/
import Derived.Test.YtigaondgopahgaaIo
import Derived.Test.YtigaondgopahgaaAp
namespace Go.Proofs.Ytigaondgopahgaa
open Go.RowKit Ty
set_option linter.unusedVariables false
set_option linter.unusedSimpArgs false
attribute [local go_sem] Oper.semAt_some
theorem bel_drewM {B : Nat} {w w' : World} (h : Below B w w') (n : Nat) : Below B w (w'.drewN n) := ⟨h.os, h.tape, h.output, h.size, h.block⟩
set_option maxRecDepth 100000 in
set_option maxHeartbeats 8000000 in
theorem names_law (ps : List Ty) (A : Option Addr) (n c : Nat) (xs : List InfX) (B : Option Addr) (m d : Nat) (wh : Bool) (w : World) (hA : PAt Everywhere w A n c ps) (hn : n * 56 ≤ 140737488351232) (hl : lights ps) (hI : IAt Everywhere w B m d xs) :
    Calls Try.prog 3 #[.slice A n c, .slice B m d, .bool wh] w fun e w' => e = .returned (.bool true) ∧ Below w.heap.size w w' := by
  have hmd := hI.le
  have hdm := hI.cap
  unfold maxLen at hdm
  have HL := large_any ps A n c B m d w hA (by omega)
  obtain ⟨lg, hlg⟩ : ∃ lg, largeB n m (wrap64 (partss ps : Nat)) = lg := ⟨_, rfl⟩
  rw [hlg] at HL
  replace HL := Lib.hid HL
  have HA := Lib.hid (And.intro hA (And.intro hn (And.intro hl (And.intro hI hlg))))
  clear hA hn hl hI hlg
  go_enter Try.func3, Try.ntmps3
  go_wp2_with fail
  refine HL.out.mono ?_
  rintro e w0 ⟨rfl, rfl⟩
  cases lg with
  | true =>
    have HBW : Hid (Below w.heap.size w w) := Lib.hid (Below.refl _ _)
    go_wp2_with fail
    refine (works_any w).mono ?_
    rintro e wz ⟨rfl, hbz⟩
    have HBZ := Lib.hid (HBW.out.trans (hbz.mono HBW.out.size))
    clear hbz
    go_wp2_with fail
    go_ret
    exact ⟨rfl, HBZ.out⟩
  | false =>
    have hm60 : n ≤ 300 ∧ m ≤ 60 := by
      have := HA.out.2.2.2.2
      unfold largeB at this
      simp at this
      omega
    clear HL hmd
    obtain ⟨e0, he0⟩ : ∃ e0, errOf (told (xs.map InfX.i) ps wh) = e0 := ⟨_, rfl⟩
    have hC0 := check_any ps A n c xs B m d wh w HA.out.1 HA.out.2.2.2.1 (by omega)
    rw [he0] at hC0
    have HC0 := Lib.hid hC0
    have HE := Lib.hid he0
    clear hC0 he0
    go_wp2_with fail
    refine HC0.out.mono ?_
    rintro e w1 ⟨rfl, hb1⟩
    have HB1 := Lib.hid hb1
    clear hb1 HC0
    go_wp2_with fail
    refine (plain_any (partss ps) ps (Nat.le_refl _) A n c w1 (HA.out.1.bel HB1.out) HA.out.2.1 HA.out.2.2.1).mono ?_
    rintro e w2 ⟨A2, c2, rfl, hP2, _, hb2⟩
    have HB2 := Lib.hid (HB1.out.trans (hb2.mono HB1.out.size))
    have hC1 := check_any (ps.map plain) A2 n c2 xs B m d wh w2 (hP2.mono fun _ _ => trivial) (HA.out.2.2.2.1.bel HB2.out) (by omega)
    rw [told_plain, HE.out] at hC1
    have HC1 := Lib.hid hC1
    clear hC1 hP2 hb2
    go_wp2_with fail
    refine HC1.out.mono ?_
    rintro e w3 ⟨rfl, hb3⟩
    have HB3 := Lib.hid (HB2.out.trans (hb3.mono HB2.out.size))
    clear hb3 HC1
    have hee : (e0 == e0) = true := by simp
    go_upto_region 7 with fail
    clear hee
    go_wp2_with fail
    go_loopw [8, 9] (fun v8 v9 wr => ∃ (r : Nat) (z : Int), r ≤ m ∧ z = (r : Int) - 1 ∧ v9 = .int .i64 z ∧ Hid (IO w.heap.size wr v8 ((xs.drop r).reverse.map InfX.back) ∧ Apart18 xs r ∧ Below w.heap.size w wr)) (fun _ v9 _ => (intOf v9 + 1).toNat)
    case atStart => exact ⟨m, (m : Int) - 1, Nat.le_refl _, rfl, rfl, Lib.hid ⟨by
      rw [List.drop_of_length_le (by have := HA.out.2.2.2.1.len; omega)]
      exact IO.nil _ _, fun i j x y h1 h2 h3 h4 => by
        have := (List.getElem?_eq_some_iff.1 h4).1
        have := HA.out.2.2.2.1.len
        omega, HB3.out⟩⟩
    case round =>
      obtain ⟨r, z, hr, hz, rfl, HX⟩ := hrel
      by_cases hr0 : r = 0
      · obtain rfl : z = -1 := by omega
        subst hr0
        clear hz
        obtain ⟨A', c', rfl, hI'⟩ := HX.out.1.shape
        obtain ⟨m', hm'⟩ : ∃ m', ((xs.drop 0).reverse.map InfX.back).length = m' := ⟨_, rfl⟩
        have hmm : m' = m := by rw [← hm', List.length_map, List.length_reverse, List.drop_zero, HA.out.2.2.2.1.len]
        rw [hm'] at hI' ⊢
        subst hmm
        rw [List.drop_zero] at hI'
        have hC2 := check_any ps A n c (xs.reverse.map InfX.back) A' m' c' wh wr (HA.out.1.bel HX.out.2.2) hI' (by omega)
        rw [told_back xs HX.out.2.1.all, HE.out] at hC2
        have HC2 := Lib.hid hC2
        have HB := Lib.hid HX.out.2.2
        clear hC2 hI' hm' HX
        have hee : (e0 == e0) = true := by simp
        go_wp2_with fail
        refine HC2.out.mono ?_
        rintro e w8 ⟨rfl, hb8⟩
        have HB8 := Lib.hid (HB.out.trans (hb8.mono HB.out.size))
        clear hb8 HC2
        go_wp2_with fail
        refine (works_any w8).mono ?_
        rintro e wz ⟨rfl, hbz⟩
        have HBZ := Lib.hid (HB8.out.trans (hbz.mono HB8.out.size))
        clear hbz
        go_wp2_with fail
        go_ret
        exact ⟨rfl, HBZ.out⟩
      · obtain ⟨s, rfl⟩ : ∃ s, r = s + 1 := ⟨r - 1, by omega⟩
        obtain rfl : z = (s : Int) := by omega
        clear hz hr0
        have hd : decide ((0 : Int) ≤ (s : Int)) = true := by simp
        have hsm : s < m := by omega
        clear hr
        obtain ⟨y, hy⟩ : ∃ y, xs[s]? = some y := ⟨_, List.getElem?_eq_getElem (by rw [HA.out.2.2.2.1.len]; omega)⟩
        have HY := Lib.hid hy
        clear hy
        obtain ⟨wo, rfl⟩ : ∃ wo : World, wo = wr := ⟨_, rfl⟩
        go_wp2_with fail
        go_loopw [10] (fun v10 wr => ∃ k : Nat, k ≤ s ∧ v10 = .int .i64 (k : Int) ∧ Hid (Below wo.heap.size wo wr ∧ ∀ i x, i < k → xs[i]? = some x → x.i.nm ≠ y.i.nm)) (fun v10 _ => s - (intOf v10).toNat)
        case atStart => exact ⟨0, Nat.zero_le _, rfl, Lib.hid ⟨Below.refl _ _, fun i x h => by omega⟩⟩
        case round =>
          obtain ⟨k, hk, rfl, HK⟩ := hrel
          by_cases hlk : k < s
          · have hdk : decide ((k : Int) < (s : Int)) = true := by simpa using hlk
            obtain ⟨x, hx⟩ : ∃ x, xs[k]? = some x := ⟨_, List.getElem?_eq_getElem (by rw [HA.out.2.2.2.1.len]; omega)⟩
            have hbo : Below w.heap.size w wr := HX.out.2.2.trans (HK.out.1.mono HX.out.2.2.size)
            have hIr := HA.out.2.2.2.1.bel hbo
            obtain ⟨b, off, hBe, _, hbl, hcx, _⟩ := hIr.at_ k x hx
            obtain ⟨b', off', hBe', _, hbl', hcy, _⟩ := hIr.at_ s y HY.out
            rw [hBe] at hBe'
            cases hBe'
            subst hBe
            have z0 := hcx 0 _ rfl
            have z1 := hcy 0 _ rfl
            simp only [Nat.add_zero] at z0 z1
            have HBO := Lib.hid (And.intro hbo hx)
            clear hbo hIr hcx hcy hx
            go_upto_region 13 with fail
            go_quiet (fail)
            clear z0 z1
            have HW := Lib.hid (bel_drewM HBO.out.1 nq)
            have HWo := Lib.hid (bel_drewM HK.out.1 nq)
            by_cases hxy : x.i.nm = y.i.nm
            · have hs2 : ((str x.i.nm).toList == (str y.i.nm).toList) = true := str_eq hxy
              have HXY := Lib.hid hxy
              clear hxy
              rw [hs2]
              clear hs2
              go_wp2_with (go_at_call 10; refine (works_any _).mono ?_; rintro e wz ⟨rfl, hbz⟩)
              have HBZ := Lib.hid (HW.out.trans (hbz.mono HW.out.size))
              clear hbz
              go_ret
              exact ⟨rfl, HBZ.out⟩
            · have hs2 : ((str x.i.nm).toList == (str y.i.nm).toList) = false := by rw [str_toList, str_toList]; simpa using hxy
              have HN : Hid (Below wo.heap.size wo (wr.drewN nq) ∧ ∀ i x, i < k + 1 → xs[i]? = some x → x.i.nm ≠ y.i.nm) := Lib.hid ⟨HWo.out, fun i x2 hi hx2 => by
                rcases Nat.lt_or_ge i k with h1 | h1
                · exact HK.out.2 i x2 h1 hx2
                · obtain rfl : i = k := by omega
                  rw [HBO.out.2] at hx2
                  cases hx2
                  exact hxy⟩
              clear hxy
              rw [hs2]
              clear hs2
              go_wp2_with fail
              go_roundw
              case rel => exact ⟨k + 1, by omega, by go_num, HN⟩
              case measure => simp [intOf]; omega
          · obtain rfl : k = s := by omega
            have hdk : decide ((k : Int) < (k : Int)) = false := by simp
            have hbo : Below w.heap.size w wr := HX.out.2.2.trans (HK.out.1.mono HX.out.2.2.size)
            have hIr := HA.out.2.2.2.1.bel hbo
            obtain ⟨b, off, hBe, _, hbl, hcy, hty⟩ := hIr.at_ k y HY.out
            subst hBe
            have z0 := hcy 0 _ rfl
            have z1 := hcy 1 _ rfl
            have z2 := hcy 2 _ rfl
            have z3 := hcy 3 _ rfl
            have z4 := hcy 4 _ rfl
            simp only [Nat.add_zero] at z0
            have HBO := Lib.hid (And.intro hbo hty)
            clear hbo hIr hcy hty
            go_upto_region 18 with fail
            clear z0 z1 z2 z3 z4
            obtain ⟨w4, hw4⟩ : ∃ W, wr.alloc (.cells #[.string (str y.i.nm), .string (str y.i.of), .int .i64 0, .int .i64 (-1), .bool y.i.has] 30) = W := ⟨_, rfl⟩
            have hB4 : Blk w4 wr.heap.size 30 #[.string (str y.i.nm), .string (str y.i.of), .int .i64 0, .int .i64 (-1), .bool y.i.has] := by rw [← hw4]; exact Blk.new _ _ _
            have h4 : Below wr.heap.size wr w4 := by rw [← hw4]; exact (Below.refl _ _).alloc (Nat.le_refl _) _
            obtain ⟨q, hq⟩ : ∃ q, wr.heap.size = q := ⟨_, rfl⟩
            rw [hw4, hq]
            rw [hq] at hB4
            have x0 := hB4.cell 0
            have x1 := hB4.cell 1
            have x2 := hB4.cell 2
            have x3 := hB4.cell 3
            have x4 := hB4.cell 4
            simp only [List.getElem?_toArray, List.getElem?_cons_zero, List.getElem?_cons_succ] at x0 x1 x2 x3 x4
            obtain ⟨w5, hw5⟩ : ∃ W, w4.alloc (.cells #[.string (str y.i.nm), .string (str y.i.of), .int .i64 0, .int .i64 (-1), .bool y.i.has] 30) = W := ⟨_, rfl⟩
            have hB5 : Blk w5 w4.heap.size 30 #[.string (str y.i.nm), .string (str y.i.of), .int .i64 0, .int .i64 (-1), .bool y.i.has] := by rw [← hw5]; exact Blk.new _ _ _
            have h5 : Below w4.heap.size w4 w5 := by rw [← hw5]; exact (Below.refl _ _).alloc (Nat.le_refl _) _
            have h05 : Below wo.heap.size wo w5 := HK.out.1.trans ((h4.trans (h5.mono h4.size)).mono HK.out.1.size)
            have hbw := HX.out.2.2.trans (h05.mono HX.out.2.2.size)
            obtain ⟨v6, w6, hrun, hO6, hb6⟩ := (HX.out.1.below h05).app (Nat.le_trans HX.out.2.2.size h05.size) y.back ⟨w4.heap.size, 0, none⟩ (fun j u hj => by
              rw [add_off, Nat.zero_add, hB5.cell, List.getElem?_toArray]
              exact hj) HBO.out.2 (by rw [List.length_map, List.length_reverse, List.length_drop, HA.out.2.2.2.1.len]; omega)
            have HN : Hid (IO w.heap.size w6 v6 ((xs.drop k).reverse.map InfX.back) ∧ Apart18 xs k ∧ Below w.heap.size w w6) := Lib.hid ⟨by
              rw [rev_snoc HA.out.2.2.2.1.len hsm HY.out]
              exact hO6, HX.out.2.1.down HY.out HK.out.2, hbw.trans hb6⟩
            have HR := Lib.hid (And.intro hrun hw5)
            clear hw4 h4 hq hB4 hw5 hB5 h5 h05 hbw hrun hO6 hb6
            have hrun := HR.out.1
            have hw5 := HR.out.2
            go_wp2_with (at_builtin; refine wpList_app rfl _ _ 23 rfl _ _ _ _ rfl rfl hrun ?_)
            go_roundw
            case rel => exact ⟨k, (k : Int) - 1, by omega, rfl, rfl, HN⟩
            case measure => simp [intOf] <;> omega
end Go.Proofs.Ytigaondgopahgaa
