/- cover: fit. -/
import Derived.Test.YtigaondgopahgaaFa
namespace Go.Proofs.Ytigaondgopahgaa
open Go.RowKit Ty
set_option linter.unusedVariables false
set_option linter.unusedSimpArgs false
attribute [local go_sem] Oper.semAt_some
set_option maxRecDepth 20000 in
set_option maxHeartbeats 16000000 in
theorem fit_step {l : List Inf} {b1 b2 en mm : Nat} (ih : FitOk l b1 b2 en mm) (ps : List Ty) (A : Option Addr) (n c : Nat) (w : World) (hmm : mm ≤ 50000) (hwt : partss ps < mm + 1) (hP : PAt Everywhere w A n c ps) (hS : Ask Everywhere w b1 b2 en l) :
    Calls Try.prog 22 #[.agg #[.map (some b1), .map (some b2)], .slice A n c] w fun e w' => e = .returned (.bool (fit l ps)) ∧ Below w.heap.size w w' := by
  have hnm : n ≤ 60000 := by have := partss_len ps; have := hP.len; omega
  have hnmx : n ≤ 9223372036854775807 := by omega
  obtain ⟨b, off, hAb⟩ : ∃ b off, ps ≠ [] → A = some ⟨b, off, none⟩ := by
    cases ps with
    | nil => exact ⟨0, 0, fun h => absurd rfl h⟩
    | cons p ps =>
      obtain ⟨b, off, _, _, e, _⟩ := hP.at_.get (r := 0) (t := p) rfl
      exact ⟨b, off, fun _ => e⟩
  obtain ⟨w0, hw0⟩ : ∃ w0, w.alloc (.cells #[.map (some b1), .map (some b2)] 57) = w0 := ⟨_, rfl⟩
  have hb0 : Below w.heap.size w w0 := by rw [← hw0]; exact (Below.refl _ _).alloc (Nat.le_refl _) _
  have hB0 : Blk w0 w.heap.size 57 #[.map (some b1), .map (some b2)] := by rw [← hw0]; exact Blk.new _ _ _
  have HA := Lib.hid (And.intro (hP.bel hb0) (And.intro (hS.bel hb0) (And.intro hB0 hb0)))
  have HM := Lib.hid (And.intro hwt ih)
  have HAB := Lib.hid hAb
  clear hwt hP hS hb0 hB0 ih hAb
  go_enter Try.func22, Try.ntmps22
  go_upto_region 1 with fail
  (try rw [hw0])
  clear hw0
  go_wp2_with fail
  go_loopw [5, 16] (fun fv iv wr => ∃ (i : Nat) (fx : Value), i ≤ n ∧ iv = .int .i64 (i : Int) ∧ fv = fx ∧ Hid (FiI w0 wr l ps i fx b off)) (fun _ iv _ => n - (intOf iv).toNat)
  case atStart => exact ⟨0, _, Nat.zero_le _, rfl, rfl, Lib.hid ⟨Below.refl _ _, (fun r t h => absurd h (Nat.not_lt_zero r)), .inl ⟨rfl, by rw [List.take_zero]; rfl⟩⟩⟩
  case round =>
    obtain ⟨i, fx, hi, rfl, rfl, hX⟩ := hrel
    obtain ⟨wo, rfl⟩ : ∃ wo : World, wo = wr := ⟨_, rfl⟩
    by_cases hli : i < n
    · have hd : decide ((i : Int) < (n : Int)) = true := by simpa using hli
      obtain ⟨t, ht⟩ : ∃ t, ps[i]? = some t := ⟨_, List.getElem?_eq_getElem (by rw [HA.out.1.len]; exact hli)⟩
      have hAe := HAB.out (fun e => by rw [e] at ht; simp at ht)
      subst hAe
      obtain ⟨_, _, A', c', e2, _, hbl, z0, z1, z2, z3, hok, hlc, hcm, hAt⟩ := (HA.out.1.at_.off (Off.of_new hX.out.bel (fun _ => False)) (fun _ _ h => h)).get ht
      cases e2
      obtain ⟨tl, htl⟩ : ∃ tl, t.ks.length = tl := ⟨_, rfl⟩
      rw [htl] at z3
      obtain ⟨w6, hw6⟩ : ∃ w6, wo.alloc (.cells #[.int .u8 (t.k : Int), .string (str t.nm), .int .i64 t.n, .slice A' tl c'] 40) = w6 := ⟨_, rfl⟩
      have hb6 : Below wo.heap.size wo w6 := by rw [← hw6]; exact (Below.refl _ _).alloc (Nat.le_refl _) _
      have hB6 : Blk w6 wo.heap.size 40 #[.int .u8 (t.k : Int), .string (str t.nm), .int .i64 t.n, .slice A' tl c'] := by rw [← hw6]; exact Blk.new _ _ _
      have y0 := hB6.cell 0
      have y1 := hB6.cell 1
      have y2 := hB6.cell 2
      have y3 := hB6.cell 3
      have hb06 : Below w0.heap.size w0 w6 := hX.out.bel.trans (hb6.mono hX.out.bel.size)
      have hBX := HA.out.2.2.1.below hb06 HA.out.2.2.1.lt
      have x0 := hBX.cell 0
      have x1 := hBX.cell 1
      simp only [List.getElem?_toArray, List.getElem?_cons_zero, List.getElem?_cons_succ] at y0 y1 y2 y3 x0 x1
      obtain ⟨rt, hrt⟩ : ∃ rt, right l t = rt := ⟨_, rfl⟩
      obtain ⟨wl, hwl⟩ : ∃ wl, t.wild = wl := ⟨_, rfl⟩
      have hRC := right_any (l := l) (F := Everywhere) (b1 := b1) (b2 := b2) (en := en) t A' c' w6 hok.2.2 hlc hcm (HA.out.2.1.bel hb06)
      unfold Ty.val at hRC
      rw [htl, hrt] at hRC
      replace hRC := Lib.hid hRC
      have HWC : Hid (∀ W, Calls Try.prog 25 #[.agg #[.int .u8 (t.k : Int), .string (str t.nm), .int .i64 t.n, .slice A' tl c']] W fun e w' => e = .returned (.bool wl) ∧ Below W.heap.size W w') := Lib.hid fun W => by
        have := isWild_any t A' c' W
        unfold Ty.val at this
        rw [htl, hwl] at this
        exact this
      have HT := Lib.hid (And.intro ht (And.intro hrt hwl))
      have HTL := Lib.hid htl
      have HOK := Lib.hid hok.2.2
      have HB6 := Lib.hid (And.intro hb6 (And.intro hB6 hb06))
      have HZ := Lib.hid (And.intro hbl (And.intro z0 (And.intro z1 (And.intro z2 z3))))
      clear ht htl hAt hok hlc hcm hb6 hB6 hb06 hBX hrt hwl hbl
      go_upto_region 5 with fail
      (try rw [hw6])
      clear hw6 z0 z1 z2 z3
      go_wp2_with fail
      refine hRC.out.mono ?_
      rintro e w7 ⟨rfl, hb7⟩
      have HB7 : Hid (Below w0.heap.size w0 w7 ∧ Blk w7 wo.heap.size 40 #[.int .u8 (t.k : Int), .string (str t.nm), .int .i64 t.n, .slice A' tl c'] ∧ Below wo.heap.size wo w7) := Lib.hid ⟨HB6.out.2.2.trans (hb7.mono HB6.out.2.2.size), HB6.out.2.1.below hb7 HB6.out.2.1.lt, HB6.out.1.trans (hb7.mono HB6.out.1.size)⟩
      clear x0 x1 y0 y1 y2 y3 hRC hb7
      cases rt with
      | false =>
        have HV : Hid (fit l ps = false ∧ Below w.heap.size w w7) := Lib.hid ⟨fit_right (List.mem_of_getElem? HT.out.1) HT.out.2.1, HA.out.2.2.2.trans (HB7.out.1.mono HA.out.2.2.2.size)⟩
        clear hX
        go_wp2_with fail
        go_ret
        exact ⟨congrArg (fun b => Ending.returned (Value.bool b)) HV.out.1.symm, HV.out.2⟩
      | true =>
        have y0 := HB7.out.2.1.cell 0
        have y1 := HB7.out.2.1.cell 1
        have y2 := HB7.out.2.1.cell 2
        have y3 := HB7.out.2.1.cell 3
        simp only [List.getElem?_toArray, List.getElem?_cons_zero, List.getElem?_cons_succ] at y0 y1 y2 y3
        go_wp2_with fail
        refine (HWC.out w7).mono ?_
        rintro e w8 ⟨rfl, hb8⟩
        have HB8 : Hid (Below w0.heap.size w0 w8 ∧ Blk w8 wo.heap.size 40 #[.int .u8 (t.k : Int), .string (str t.nm), .int .i64 t.n, .slice A' tl c']) := Lib.hid ⟨HB7.out.1.trans (hb8.mono HB7.out.1.size), HB7.out.2.1.below hb8 HB7.out.2.1.lt⟩
        have HB78 : Hid (Below wo.heap.size wo w8) := Lib.hid (HB7.out.2.2.trans (hb8.mono HB7.out.2.2.size))
        clear hb8 y0 y1 y2 y3 HWC
        cases wl with
        | true =>
          have HN : Hid (FiI w0 w8 l ps (i + 1) _ b off) := Lib.hid (hX.out.wild HB78.out HT.out.1 HT.out.2.1 HT.out.2.2)
          clear hX
          go_wp2_with fail
          go_roundw
          case rel => exact ⟨i + 1, _, by omega, by go_num, rfl, HN⟩
          case measure => simp [intOf]; omega
        | false =>
          rcases hX.out.fst with ⟨rfl, _⟩ | ⟨r, x, xs, rfl, hx, hxs, hxa⟩
          · have hbl8 : b < w8.heap.size := Nat.lt_of_lt_of_le HZ.out.1 HB78.out.size
            have g0 := (HB78.out.cell (p := ⟨b, _, none⟩) HZ.out.1).trans HZ.out.2.1
            have g1 := (HB78.out.cell (p := ⟨b, _, none⟩) HZ.out.1).trans HZ.out.2.2.1
            have g2 := (HB78.out.cell (p := ⟨b, _, none⟩) HZ.out.1).trans HZ.out.2.2.2.1
            have g3 := (HB78.out.cell (p := ⟨b, _, none⟩) HZ.out.1).trans HZ.out.2.2.2.2
            have hBX := HA.out.2.2.1.below HB8.out.1 HA.out.2.2.1.lt
            have HX : Hid (∀ W, Below w8.heap.size w8 W → (W.cell? ⟨w.heap.size, 0, none⟩ = some (.map (some b1)) ∧ W.cell? ⟨w.heap.size, 1, none⟩ = some (.map (some b2))) ∧ (W.cell? ⟨wo.heap.size, 0, none⟩ = some (.int .u8 (t.k : Int)) ∧ W.cell? ⟨wo.heap.size, 1, none⟩ = some (.string (str t.nm)) ∧ W.cell? ⟨wo.heap.size, 2, none⟩ = some (.int .i64 t.n) ∧ W.cell? ⟨wo.heap.size, 3, none⟩ = some (.slice A' tl c')) ∧ W.cell? ⟨b, off + i * 4, none⟩ = some (.int .u8 (t.k : Int)) ∧ W.cell? ⟨b, off + i * 4 + 1, none⟩ = some (.string (str t.nm)) ∧ W.cell? ⟨b, off + i * 4 + 2, none⟩ = some (.int .i64 t.n) ∧ W.cell? ⟨b, off + i * 4 + 3, none⟩ = some (.slice A' tl c')) := Lib.hid fun W hW => ⟨⟨(hBX.below hW hBX.lt).cell 0, (hBX.below hW hBX.lt).cell 1⟩, ⟨(HB8.out.2.below hW HB8.out.2.lt).cell 0, (HB8.out.2.below hW HB8.out.2.lt).cell 1, (HB8.out.2.below hW HB8.out.2.lt).cell 2, (HB8.out.2.below hW HB8.out.2.lt).cell 3⟩, (hW.cell (p := ⟨b, _, none⟩) (Nat.lt_of_lt_of_le hbl8 (Nat.le_refl _))).trans g0, (hW.cell (p := ⟨b, _, none⟩) hbl8).trans g1, (hW.cell (p := ⟨b, _, none⟩) hbl8).trans g2, (hW.cell (p := ⟨b, _, none⟩) hbl8).trans g3⟩
            clear g0 g1 g2 g3 hbl8 hBX
            obtain ⟨⟨k1, nm1, m1, mn1⟩, hs1⟩ : ∃ h, sort l t = h := ⟨_, rfl⟩
            have HS1 : Hid (∀ W, Below w8.heap.size w8 W → Calls Try.prog 26 #[.agg #[.map (some b1), .map (some b2)], .agg #[.int .u8 (t.k : Int), .string (str t.nm), .int .i64 t.n, .slice A' tl c']] W fun e w' => e = .returned (.agg #[.int .u8 (k1 : Int), .string (str nm1), .int .i64 m1, .int .i64 (mn1 : Int)]) ∧ Below W.heap.size W w') := Lib.hid fun W hW => by
              have := sort_any (F := Everywhere) (l := l) (b1 := b1) (b2 := b2) (en := en) t A' c' W HOK.out ((HA.out.2.1.bel HB8.out.1).bel hW)
              unfold Ty.val at this
              rw [HTL.out, hs1] at this
              exact this
            clear hs1
            go_upto_region 10 with fail
            go_region_held3 (fun W => (W.cell? ⟨w.heap.size, 0, none⟩ = some (.map (some b1)) ∧ W.cell? ⟨w.heap.size, 1, none⟩ = some (.map (some b2))) ∧ (W.cell? ⟨wo.heap.size, 0, none⟩ = some (.int .u8 (t.k : Int)) ∧ W.cell? ⟨wo.heap.size, 1, none⟩ = some (.string (str t.nm)) ∧ W.cell? ⟨wo.heap.size, 2, none⟩ = some (.int .i64 t.n) ∧ W.cell? ⟨wo.heap.size, 3, none⟩ = some (.slice A' tl c')) ∧ W.cell? ⟨b, off + i * 4, none⟩ = some (.int .u8 (t.k : Int)) ∧ W.cell? ⟨b, off + i * 4 + 1, none⟩ = some (.string (str t.nm)) ∧ W.cell? ⟨b, off + i * 4 + 2, none⟩ = some (.int .i64 t.n) ∧ W.cell? ⟨b, off + i * 4 + 3, none⟩ = some (.slice A' tl c'))
              (first | exact HX.out _ (Below.refl _ w8).drew | exact HX.out _ hw9 | exact HX.out _ hw10)
              (first
                | (go_at_call 26; with_reducible refine Calls.mono (HS1.out _ hw9) ?_; rintro e w10 ⟨rfl, hb10⟩; have hw10 : Below w8.heap.size w8 w10 := hw9.trans (hb10.mono hw9.size))
                | (go_at_call 26; refine Calls.mono (HS1.out _ (Below.refl _ w8).drew) ?_; rintro e w9 ⟨rfl, hb9⟩; have hw9 : Below w8.heap.size w8 w9 := (Below.refl _ w8).drew.trans hb9))
            all_goals
              have HN : Hid (FiI w0 w10 l ps (i + 1) (.pointer (some ⟨b, off + i * 4, none⟩)) b off) := Lib.hid (FiI.one hX.out (HB78.out.trans (hw10.mono HB78.out.size)) HT.out.1 HT.out.2.1 HT.out.2.2)
              clear hw9 hb9 hw10 hb10 hX
              go_wp2_with fail
              go_roundw
              case rel => exact ⟨i + 1, _, by omega, by go_num, rfl, HN⟩
              case measure => simp [intOf]; omega
          · obtain ⟨_, _, Ax, cx, e3, _, hbl8, g0, g1, g2, g3, hxok, _⟩ := (HA.out.1.at_.off (Off.of_new HB8.out.1 (fun _ => False)) (fun _ _ h => h)).get hx
            cases e3
            obtain ⟨xl, hxl⟩ : ∃ xl, x.ks.length = xl := ⟨_, rfl⟩
            rw [hxl] at g3
            have HXX := Lib.hid (And.intro hx (And.intro hxs hxa))
            have HXO := Lib.hid (And.intro hxok.2.2 hxl)
            clear hx hxs hxa hxok hxl
            have hBX := HA.out.2.2.1.below HB8.out.1 HA.out.2.2.1.lt
            have HX : Hid (∀ W, Below w8.heap.size w8 W → (W.cell? ⟨w.heap.size, 0, none⟩ = some (.map (some b1)) ∧ W.cell? ⟨w.heap.size, 1, none⟩ = some (.map (some b2))) ∧ (W.cell? ⟨wo.heap.size, 0, none⟩ = some (.int .u8 (t.k : Int)) ∧ W.cell? ⟨wo.heap.size, 1, none⟩ = some (.string (str t.nm)) ∧ W.cell? ⟨wo.heap.size, 2, none⟩ = some (.int .i64 t.n) ∧ W.cell? ⟨wo.heap.size, 3, none⟩ = some (.slice A' tl c')) ∧ W.cell? ⟨b, off + r * 4, none⟩ = some (.int .u8 (x.k : Int)) ∧ W.cell? ⟨b, off + r * 4 + 1, none⟩ = some (.string (str x.nm)) ∧ W.cell? ⟨b, off + r * 4 + 2, none⟩ = some (.int .i64 x.n) ∧ W.cell? ⟨b, off + r * 4 + 3, none⟩ = some (.slice Ax xl cx)) := Lib.hid fun W hW => ⟨⟨(hBX.below hW hBX.lt).cell 0, (hBX.below hW hBX.lt).cell 1⟩, ⟨(HB8.out.2.below hW HB8.out.2.lt).cell 0, (HB8.out.2.below hW HB8.out.2.lt).cell 1, (HB8.out.2.below hW HB8.out.2.lt).cell 2, (HB8.out.2.below hW HB8.out.2.lt).cell 3⟩, (hW.cell (p := ⟨b, _, none⟩) (Nat.lt_of_lt_of_le hbl8 (Nat.le_refl _))).trans g0, (hW.cell (p := ⟨b, _, none⟩) hbl8).trans g1, (hW.cell (p := ⟨b, _, none⟩) hbl8).trans g2, (hW.cell (p := ⟨b, _, none⟩) hbl8).trans g3⟩
            clear g0 g1 g2 g3 hbl8 hBX
            obtain ⟨⟨k1, nm1, m1, mn1⟩, hs1⟩ : ∃ h, sort l t = h := ⟨_, rfl⟩
            obtain ⟨⟨k2, nm2, m2, mn2⟩, hs2⟩ : ∃ h, sort l x = h := ⟨_, rfl⟩
            have HS1 : Hid (∀ W, Below w8.heap.size w8 W → Calls Try.prog 26 #[.agg #[.map (some b1), .map (some b2)], .agg #[.int .u8 (t.k : Int), .string (str t.nm), .int .i64 t.n, .slice A' tl c']] W fun e w' => e = .returned (.agg #[.int .u8 (k1 : Int), .string (str nm1), .int .i64 m1, .int .i64 (mn1 : Int)]) ∧ Below W.heap.size W w') := Lib.hid fun W hW => by
              have := sort_any (F := Everywhere) (l := l) (b1 := b1) (b2 := b2) (en := en) t A' c' W HOK.out ((HA.out.2.1.bel HB8.out.1).bel hW)
              unfold Ty.val at this
              rw [HTL.out, hs1] at this
              exact this
            have HS2 : Hid (∀ W, Below w8.heap.size w8 W → Calls Try.prog 26 #[.agg #[.map (some b1), .map (some b2)], .agg #[.int .u8 (x.k : Int), .string (str x.nm), .int .i64 x.n, .slice Ax xl cx]] W fun e w' => e = .returned (.agg #[.int .u8 (k2 : Int), .string (str nm2), .int .i64 m2, .int .i64 (mn2 : Int)]) ∧ Below W.heap.size W w') := Lib.hid fun W hW => by
              have := sort_any (F := Everywhere) (l := l) (b1 := b1) (b2 := b2) (en := en) x Ax cx W HXO.out.1 ((HA.out.2.1.bel HB8.out.1).bel hW)
              unfold Ty.val at this
              rw [HXO.out.2, hs2] at this
              exact this
            have HSS := Lib.hid (And.intro hs1 hs2)
            clear hs1 hs2
            rcases five k1 k2 nm1 nm2 m1 m2 mn1 mn2 with ⟨rfl, rfl, rfl, rfl⟩ | hne | ⟨rfl, hne⟩ | ⟨rfl, rfl, hne⟩ | ⟨rfl, rfl, rfl, hne⟩
            · go_upto_region 10 with fail
              go_region_held3 (fun W => (W.cell? ⟨w.heap.size, 0, none⟩ = some (.map (some b1)) ∧ W.cell? ⟨w.heap.size, 1, none⟩ = some (.map (some b2))) ∧ (W.cell? ⟨wo.heap.size, 0, none⟩ = some (.int .u8 (t.k : Int)) ∧ W.cell? ⟨wo.heap.size, 1, none⟩ = some (.string (str t.nm)) ∧ W.cell? ⟨wo.heap.size, 2, none⟩ = some (.int .i64 t.n) ∧ W.cell? ⟨wo.heap.size, 3, none⟩ = some (.slice A' tl c')) ∧ W.cell? ⟨b, off + r * 4, none⟩ = some (.int .u8 (x.k : Int)) ∧ W.cell? ⟨b, off + r * 4 + 1, none⟩ = some (.string (str x.nm)) ∧ W.cell? ⟨b, off + r * 4 + 2, none⟩ = some (.int .i64 x.n) ∧ W.cell? ⟨b, off + r * 4 + 3, none⟩ = some (.slice Ax xl cx))
                (first | exact HX.out _ (Below.refl _ w8).drew | exact HX.out _ hw9 | exact HX.out _ hw10)
                (first
                  | (go_at_call 26; with_reducible refine Calls.mono (HS2.out _ hw9) ?_; rintro e w10 ⟨rfl, hb10⟩; have hw10 : Below w8.heap.size w8 w10 := hw9.trans (hb10.mono hw9.size))
                  | (go_at_call 26; refine Calls.mono (HS1.out _ (Below.refl _ w8).drew) ?_; rintro e w9 ⟨rfl, hb9⟩; have hw9 : Below w8.heap.size w8 w9 := (Below.refl _ w8).drew.trans hb9))
              all_goals
                have HN : Hid (FiI w0 w10 l ps (i + 1) (.pointer (some ⟨b, off + r * 4, none⟩)) b off) := Lib.hid (FiI.more hX.out (HB78.out.trans (hw10.mono HB78.out.size)) HT.out.1 HT.out.2.1 HT.out.2.2 rfl HXX.out.1 HXX.out.2.1 HXX.out.2.2 (HSS.out.1.trans HSS.out.2.symm))
                clear hw9 hb9 hw10 hb10 hX
                go_wp2_with fail
                go_roundw
                case rel => exact ⟨i + 1, _, by omega, by go_num, rfl, HN⟩
                case measure => simp [intOf]; omega
            · have HV : Hid (fit l ps = false) := Lib.hid (fit_sorted (sorted_no HT.out.1 HT.out.2.2 HXX.out.2.1 (fun e => by
                rw [HSS.out.1, HSS.out.2] at e
                exact hne (by injection e))))
              have hne2 : ¬ ((k1 : Int) = (k2 : Int)) := by omega
              clear hne
              go_upto_region 10 with fail
              go_region_held3 (fun W => (W.cell? ⟨w.heap.size, 0, none⟩ = some (.map (some b1)) ∧ W.cell? ⟨w.heap.size, 1, none⟩ = some (.map (some b2))) ∧ (W.cell? ⟨wo.heap.size, 0, none⟩ = some (.int .u8 (t.k : Int)) ∧ W.cell? ⟨wo.heap.size, 1, none⟩ = some (.string (str t.nm)) ∧ W.cell? ⟨wo.heap.size, 2, none⟩ = some (.int .i64 t.n) ∧ W.cell? ⟨wo.heap.size, 3, none⟩ = some (.slice A' tl c')) ∧ W.cell? ⟨b, off + r * 4, none⟩ = some (.int .u8 (x.k : Int)) ∧ W.cell? ⟨b, off + r * 4 + 1, none⟩ = some (.string (str x.nm)) ∧ W.cell? ⟨b, off + r * 4 + 2, none⟩ = some (.int .i64 x.n) ∧ W.cell? ⟨b, off + r * 4 + 3, none⟩ = some (.slice Ax xl cx))
                (first | exact HX.out _ (Below.refl _ w8).drew | exact HX.out _ hw9 | exact HX.out _ hw10)
                (first
                  | (go_at_call 26; with_reducible refine Calls.mono (HS2.out _ hw9) ?_; rintro e w10 ⟨rfl, hb10⟩; have hw10 : Below w8.heap.size w8 w10 := hw9.trans (hb10.mono hw9.size))
                  | (go_at_call 26; refine Calls.mono (HS1.out _ (Below.refl _ w8).drew) ?_; rintro e w9 ⟨rfl, hb9⟩; have hw9 : Below w8.heap.size w8 w9 := (Below.refl _ w8).drew.trans hb9))
              all_goals
                have HF : Hid (Below w.heap.size w w10) := Lib.hid (HA.out.2.2.2.trans ((HB8.out.1.trans (hw10.mono HB8.out.1.size)).mono HA.out.2.2.2.size))
                clear hw9 hb9 hw10 hb10 hX
                go_wp2_with fail
                go_ret
                exact ⟨congrArg (fun b => Ending.returned (Value.bool b)) HV.out.symm, HF.out⟩
            · have HV : Hid (fit l ps = false) := Lib.hid (fit_sorted (sorted_no HT.out.1 HT.out.2.2 HXX.out.2.1 (fun e => by
                rw [HSS.out.1, HSS.out.2] at e
                exact hne (by injection e))))
              have hne2 : ¬ ((str nm1).toList = (str nm2).toList) := by rw [str_toList, str_toList]; exact hne
              clear hne
              go_upto_region 10 with fail
              go_region_held3 (fun W => (W.cell? ⟨w.heap.size, 0, none⟩ = some (.map (some b1)) ∧ W.cell? ⟨w.heap.size, 1, none⟩ = some (.map (some b2))) ∧ (W.cell? ⟨wo.heap.size, 0, none⟩ = some (.int .u8 (t.k : Int)) ∧ W.cell? ⟨wo.heap.size, 1, none⟩ = some (.string (str t.nm)) ∧ W.cell? ⟨wo.heap.size, 2, none⟩ = some (.int .i64 t.n) ∧ W.cell? ⟨wo.heap.size, 3, none⟩ = some (.slice A' tl c')) ∧ W.cell? ⟨b, off + r * 4, none⟩ = some (.int .u8 (x.k : Int)) ∧ W.cell? ⟨b, off + r * 4 + 1, none⟩ = some (.string (str x.nm)) ∧ W.cell? ⟨b, off + r * 4 + 2, none⟩ = some (.int .i64 x.n) ∧ W.cell? ⟨b, off + r * 4 + 3, none⟩ = some (.slice Ax xl cx))
                (first | exact HX.out _ (Below.refl _ w8).drew | exact HX.out _ hw9 | exact HX.out _ hw10)
                (first
                  | (go_at_call 26; with_reducible refine Calls.mono (HS2.out _ hw9) ?_; rintro e w10 ⟨rfl, hb10⟩; have hw10 : Below w8.heap.size w8 w10 := hw9.trans (hb10.mono hw9.size))
                  | (go_at_call 26; refine Calls.mono (HS1.out _ (Below.refl _ w8).drew) ?_; rintro e w9 ⟨rfl, hb9⟩; have hw9 : Below w8.heap.size w8 w9 := (Below.refl _ w8).drew.trans hb9))
              all_goals
                have HF : Hid (Below w.heap.size w w10) := Lib.hid (HA.out.2.2.2.trans ((HB8.out.1.trans (hw10.mono HB8.out.1.size)).mono HA.out.2.2.2.size))
                clear hw9 hb9 hw10 hb10 hX
                go_wp2_with fail
                go_ret
                exact ⟨congrArg (fun b => Ending.returned (Value.bool b)) HV.out.symm, HF.out⟩
            · have HV : Hid (fit l ps = false) := Lib.hid (fit_sorted (sorted_no HT.out.1 HT.out.2.2 HXX.out.2.1 (fun e => by
                rw [HSS.out.1, HSS.out.2] at e
                exact hne (by injection e))))
              have hne2 : ¬ (m1 = m2) := hne
              clear hne
              go_upto_region 10 with fail
              go_region_held3 (fun W => (W.cell? ⟨w.heap.size, 0, none⟩ = some (.map (some b1)) ∧ W.cell? ⟨w.heap.size, 1, none⟩ = some (.map (some b2))) ∧ (W.cell? ⟨wo.heap.size, 0, none⟩ = some (.int .u8 (t.k : Int)) ∧ W.cell? ⟨wo.heap.size, 1, none⟩ = some (.string (str t.nm)) ∧ W.cell? ⟨wo.heap.size, 2, none⟩ = some (.int .i64 t.n) ∧ W.cell? ⟨wo.heap.size, 3, none⟩ = some (.slice A' tl c')) ∧ W.cell? ⟨b, off + r * 4, none⟩ = some (.int .u8 (x.k : Int)) ∧ W.cell? ⟨b, off + r * 4 + 1, none⟩ = some (.string (str x.nm)) ∧ W.cell? ⟨b, off + r * 4 + 2, none⟩ = some (.int .i64 x.n) ∧ W.cell? ⟨b, off + r * 4 + 3, none⟩ = some (.slice Ax xl cx))
                (first | exact HX.out _ (Below.refl _ w8).drew | exact HX.out _ hw9 | exact HX.out _ hw10)
                (first
                  | (go_at_call 26; with_reducible refine Calls.mono (HS2.out _ hw9) ?_; rintro e w10 ⟨rfl, hb10⟩; have hw10 : Below w8.heap.size w8 w10 := hw9.trans (hb10.mono hw9.size))
                  | (go_at_call 26; refine Calls.mono (HS1.out _ (Below.refl _ w8).drew) ?_; rintro e w9 ⟨rfl, hb9⟩; have hw9 : Below w8.heap.size w8 w9 := (Below.refl _ w8).drew.trans hb9))
              all_goals
                have HF : Hid (Below w.heap.size w w10) := Lib.hid (HA.out.2.2.2.trans ((HB8.out.1.trans (hw10.mono HB8.out.1.size)).mono HA.out.2.2.2.size))
                clear hw9 hb9 hw10 hb10 hX
                go_wp2_with fail
                go_ret
                exact ⟨congrArg (fun b => Ending.returned (Value.bool b)) HV.out.symm, HF.out⟩
            · have HV : Hid (fit l ps = false) := Lib.hid (fit_sorted (sorted_no HT.out.1 HT.out.2.2 HXX.out.2.1 (fun e => by
                rw [HSS.out.1, HSS.out.2] at e
                exact hne (by injection e))))
              have hne2 : ¬ ((mn1 : Int) = (mn2 : Int)) := by omega
              clear hne
              go_upto_region 10 with fail
              go_region_held3 (fun W => (W.cell? ⟨w.heap.size, 0, none⟩ = some (.map (some b1)) ∧ W.cell? ⟨w.heap.size, 1, none⟩ = some (.map (some b2))) ∧ (W.cell? ⟨wo.heap.size, 0, none⟩ = some (.int .u8 (t.k : Int)) ∧ W.cell? ⟨wo.heap.size, 1, none⟩ = some (.string (str t.nm)) ∧ W.cell? ⟨wo.heap.size, 2, none⟩ = some (.int .i64 t.n) ∧ W.cell? ⟨wo.heap.size, 3, none⟩ = some (.slice A' tl c')) ∧ W.cell? ⟨b, off + r * 4, none⟩ = some (.int .u8 (x.k : Int)) ∧ W.cell? ⟨b, off + r * 4 + 1, none⟩ = some (.string (str x.nm)) ∧ W.cell? ⟨b, off + r * 4 + 2, none⟩ = some (.int .i64 x.n) ∧ W.cell? ⟨b, off + r * 4 + 3, none⟩ = some (.slice Ax xl cx))
                (first | exact HX.out _ (Below.refl _ w8).drew | exact HX.out _ hw9 | exact HX.out _ hw10)
                (first
                  | (go_at_call 26; with_reducible refine Calls.mono (HS2.out _ hw9) ?_; rintro e w10 ⟨rfl, hb10⟩; have hw10 : Below w8.heap.size w8 w10 := hw9.trans (hb10.mono hw9.size))
                  | (go_at_call 26; refine Calls.mono (HS1.out _ (Below.refl _ w8).drew) ?_; rintro e w9 ⟨rfl, hb9⟩; have hw9 : Below w8.heap.size w8 w9 := (Below.refl _ w8).drew.trans hb9))
              all_goals
                have HF : Hid (Below w.heap.size w w10) := Lib.hid (HA.out.2.2.2.trans ((HB8.out.1.trans (hw10.mono HB8.out.1.size)).mono HA.out.2.2.2.size))
                clear hw9 hb9 hw10 hb10 hX
                go_wp2_with fail
                go_ret
                exact ⟨congrArg (fun b => Ending.returned (Value.bool b)) HV.out.symm, HF.out⟩
    · obtain rfl : i = n := by omega
      have hd : decide ((i : Int) < (i : Int)) = false := by simp
      obtain ⟨hall, hsor⟩ := hX.out.fin (by rw [HA.out.1.len]; exact Nat.le_refl _)
      have hHC := heads_any ps A c wo (HA.out.1.bel hX.out.bel).at_ (by rw [HA.out.1.len]; exact HA.out.1.le) HA.out.1.cap (by rw [HA.out.1.len]; omega)
      rw [HA.out.1.len] at hHC
      replace hHC := Lib.hid hHC
      have HAS := Lib.hid (And.intro hall hsor)
      have HBo := Lib.hid hX.out.bel
      clear hall hsor hX
      go_wp2_with fail
      refine hHC.out.mono ?_
      rintro e w1 ⟨A1, c1, rfl, hl1, hm1, hH1, hb1⟩
      obtain ⟨hs, hhs⟩ : ∃ hs, heads ps = hs := ⟨_, rfl⟩
      rw [hhs] at hl1 hH1 ⊢
      obtain ⟨hn1, hhn1⟩ : ∃ hn1, hs.length = hn1 := ⟨_, rfl⟩
      rw [hhn1] at hl1 ⊢
      have hn1m : hn1 ≤ 9223372036854775807 := by unfold maxLen at hm1; omega
      have HB1 : Hid (Below w0.heap.size w0 w1) := Lib.hid (HBo.out.trans (hb1.mono HBo.out.size))
      have HH1 := Lib.hid (And.intro hH1 (And.intro hhs hhn1))
      clear hHC HBo hb1 hH1 hl1 hm1 hhs hhn1
      go_wp2_with fail
      go_loopw [45] (fun iv wr => ∃ j : Nat, j ≤ hn1 ∧ iv = .int .i64 (j : Int) ∧ Hid (Below w1.heap.size w1 wr ∧ ∀ (r : Nat) (h : Head), r < j → hs[r]? = some h → ∀ k, k < h.many → fit l (kidsAt h k ps) = true)) (fun iv _ => hn1 - (intOf iv).toNat)
      case atStart => exact ⟨0, Nat.zero_le _, rfl, Lib.hid ⟨Below.refl _ _, fun r h hr => absurd hr (Nat.not_lt_zero r)⟩⟩
      case round =>
        obtain ⟨j, hj, rfl, hY⟩ := hrel
        obtain ⟨wj, rfl⟩ : ∃ wj : World, wj = wr := ⟨_, rfl⟩
        by_cases hlj : j < hn1
        · have hdj : decide ((j : Int) < (hn1 : Int)) = true := by simpa using hlj
          obtain ⟨h, hh⟩ : ∃ h, hs[j]? = some h := ⟨_, List.getElem?_eq_getElem (by rw [HH1.out.2.2]; exact hlj)⟩
          obtain ⟨bh, oh, e3, hbh, y0, y1, y2, y3⟩ := (HH1.out.1.bel hY.out.1) j h hh
          subst e3
          have hmem : h ∈ heads ps := by rw [HH1.out.2.1]; exact List.mem_of_getElem? hh
          have hmany : h.many ≤ 100000 := by
            obtain ⟨p, hp, _, rfl⟩ := heads_mem hmem
            have h1 := partss_mem hp
            have h2 := parts_eq p
            have h3 := partss_len p.ks
            have := HM.out.1
            show p.ks.length ≤ _
            omega
          have hHJ := And.intro hh hmem
          obtain ⟨h', hh'⟩ : ∃ h', h = h' := ⟨_, rfl⟩
          have HHE := Lib.hid hh'
          have HHJ := Lib.hid hHJ
          clear hh hmem hHJ
          obtain ⟨k1, nm1, m1, mn1⟩ := h
          clear hh'
          dsimp only at y0 y1 y2 y3 hmany
          obtain ⟨w2, hw2⟩ : ∃ w2, wj.alloc (.cells #[.int .u8 (k1 : Int), .string (str nm1), .int .i64 m1, .int .i64 (mn1 : Int)] 65) = w2 := ⟨_, rfl⟩
          have hb2 : Below wj.heap.size wj w2 := by rw [← hw2]; exact (Below.refl _ _).alloc (Nat.le_refl _) _
          have hB2 : Blk w2 wj.heap.size 65 #[.int .u8 (k1 : Int), .string (str nm1), .int .i64 m1, .int .i64 (mn1 : Int)] := by rw [← hw2]; exact Blk.new _ _ _
          obtain ⟨hb, hhb⟩ : ∃ hb, wj.heap.size = hb := ⟨_, rfl⟩
          rw [hhb] at hB2
          have v3 := hB2.cell 3
          simp only [List.getElem?_toArray, List.getElem?_cons_zero, List.getElem?_cons_succ] at v3
          have hmm1 : mn1 ≤ 9223372036854775807 := by omega
          have HB2 := Lib.hid (And.intro (hY.out.1.trans (hb2.mono hY.out.1.size)) hB2)
          clear hb2 hB2
          go_upto_region 16 with fail
          (try rw [hw2])
          (try rw [hhb])
          clear hw2 y0 y1 y2 y3 hhb
          go_wp2_with fail
          clear v3
          go_loopw [51] (fun iv wr => ∃ k : Nat, k ≤ mn1 ∧ iv = .int .i64 (k : Int) ∧ Hid (Below w2.heap.size w2 wr ∧ ∀ k', k' < k → fit l (kidsAt ⟨k1, nm1, m1, mn1⟩ k' ps) = true)) (fun iv _ => mn1 - (intOf iv).toNat)
          case atStart => exact ⟨0, Nat.zero_le _, rfl, Lib.hid ⟨Below.refl _ _, fun k' hk' => absurd hk' (Nat.not_lt_zero k')⟩⟩
          case round =>
            obtain ⟨k, hk, rfl, hZ⟩ := hrel
            obtain ⟨wz, rfl⟩ : ∃ wz : World, wz = wr := ⟨_, rfl⟩
            by_cases hlk : k < mn1
            · have hdk : decide ((k : Int) < (mn1 : Int)) = true := by simpa using hlk
              have HB1z : Hid (Below w0.heap.size w0 wz ∧ Blk wz hb 65 #[.int .u8 (k1 : Int), .string (str nm1), .int .i64 m1, .int .i64 (mn1 : Int)]) := Lib.hid ⟨HB1.out.trans ((HB2.out.1.trans (hZ.out.1.mono HB2.out.1.size)).mono HB1.out.size), HB2.out.2.below hZ.out.1 HB2.out.2.lt⟩
              go_wp2_with fail
              go_loopw [11, 56] (fun lv iv wr => ∃ (s : Nat) (es : List Te) (Al : Option Addr) (cl : Nat), s ≤ i ∧ iv = .int .i64 (s : Int) ∧ lv = .slice Al es.length cl ∧ Hid (KdI wz wr ⟨k1, nm1, m1, mn1⟩ k ps s (.slice Al es.length cl) es)) (fun _ iv _ => i - (intOf iv).toNat)
              case atStart => exact ⟨0, [], none, 0, Nat.zero_le _, rfl, rfl, Lib.hid ⟨Below.refl _ _, PtO.nil _ _ _, by rw [List.take_zero]; rfl⟩⟩
              case round =>
                obtain ⟨s, es, Al, cl, hs', rfl, rfl, hV⟩ := hrel
                obtain ⟨wk, rfl⟩ : ∃ wk : World, wk = wr := ⟨_, rfl⟩
                obtain ⟨el, hel⟩ : ∃ el, es.length = el := ⟨_, rfl⟩
                rw [hel] at hV ⊢
                by_cases hls : s < i
                · have hds : decide ((s : Int) < (i : Int)) = true := by simpa using hls
                  obtain ⟨t, ht⟩ : ∃ t, ps[s]? = some t := ⟨_, List.getElem?_eq_getElem (by rw [HA.out.1.len]; exact hls)⟩
                  have hAe := HAB.out (fun e => by rw [e] at ht; simp at ht)
                  subst hAe
                  have hb0k : Below w0.heap.size w0 wk := HB1z.out.1.trans (hV.out.bel.mono HB1z.out.1.size)
                  obtain ⟨_, _, A', c', e2, _, hbl, z0', z1', z2', z3', hok, hlc, hcm, hAt⟩ := (HA.out.1.at_.off (Off.of_new HB1z.out.1 (fun _ => False)) (fun _ _ h => h)).get ht
                  cases e2
                  have z0 := (hV.out.bel.cell (p := ⟨b, _, none⟩) hbl).trans z0'
                  have z1 := (hV.out.bel.cell (p := ⟨b, _, none⟩) hbl).trans z1'
                  have z2 := (hV.out.bel.cell (p := ⟨b, _, none⟩) hbl).trans z2'
                  have z3 := (hV.out.bel.cell (p := ⟨b, _, none⟩) hbl).trans z3'
                  clear z0' z1' z2' z3'
                  obtain ⟨tl, htl⟩ : ∃ tl, t.ks.length = tl := ⟨_, rfl⟩
                  rw [htl] at z3
                  obtain ⟨w6, hw6⟩ : ∃ w6, wk.alloc (.cells #[.int .u8 (t.k : Int), .string (str t.nm), .int .i64 t.n, .slice A' tl c'] 40) = w6 := ⟨_, rfl⟩
                  have hb6 : Below wk.heap.size wk w6 := by rw [← hw6]; exact (Below.refl _ _).alloc (Nat.le_refl _) _
                  have hB6 : Blk w6 wk.heap.size 40 #[.int .u8 (t.k : Int), .string (str t.nm), .int .i64 t.n, .slice A' tl c'] := by rw [← hw6]; exact Blk.new _ _ _
                  have hH6 := (HB1z.out.2.below hV.out.bel HB1z.out.2.lt).below hb6 (HB1z.out.2.below hV.out.bel HB1z.out.2.lt).lt
                  have HX : Hid (∀ W, Below w6.heap.size w6 W → (W.cell? ⟨wk.heap.size, 0, none⟩ = some (.int .u8 (t.k : Int)) ∧ W.cell? ⟨wk.heap.size, 1, none⟩ = some (.string (str t.nm)) ∧ W.cell? ⟨wk.heap.size, 2, none⟩ = some (.int .i64 t.n) ∧ W.cell? ⟨wk.heap.size, 3, none⟩ = some (.slice A' tl c')) ∧ W.cell? ⟨hb, 0, none⟩ = some (.int .u8 (k1 : Int)) ∧ W.cell? ⟨hb, 1, none⟩ = some (.string (str nm1)) ∧ W.cell? ⟨hb, 2, none⟩ = some (.int .i64 m1) ∧ W.cell? ⟨hb, 3, none⟩ = some (.int .i64 (mn1 : Int))) := Lib.hid fun W hW => ⟨⟨(hB6.below hW hB6.lt).cell 0, (hB6.below hW hB6.lt).cell 1, (hB6.below hW hB6.lt).cell 2, (hB6.below hW hB6.lt).cell 3⟩, (hH6.below hW hH6.lt).cell 0, (hH6.below hW hH6.lt).cell 1, (hH6.below hW hH6.lt).cell 2, (hH6.below hW hH6.lt).cell 3⟩
                  obtain ⟨wl, hwl⟩ : ∃ wl, t.wild = wl := ⟨_, rfl⟩
                  have HWC := isWild_any t A' c' w6.drew
                  unfold Ty.val at HWC
                  rw [htl, hwl] at HWC
                  replace HWC := Lib.hid HWC
                  have HHC0 := headOf_any t A' c'
                  unfold Ty.val at HHC0
                  rw [htl] at HHC0
                  have HT := Lib.hid (And.intro ht (And.intro hwl (And.intro htl (And.intro hAt (And.intro hb6 hb0k)))))
                  have HH0 := Lib.hid HHC0
                  clear ht htl hwl hAt hok hlc hcm hb6 hB6 hH6 hbl hb0k HHC0
                  go_upto_region 23 with fail
                  (try rw [hw6])
                  clear hw6 z0 z1 z2 z3
                  cases wl with
                  | true =>
                    refine wp_region_held_drew (S := fun W => (W.cell? ⟨wk.heap.size, 0, none⟩ = some (.int .u8 (t.k : Int)) ∧ W.cell? ⟨wk.heap.size, 1, none⟩ = some (.string (str t.nm)) ∧ W.cell? ⟨wk.heap.size, 2, none⟩ = some (.int .i64 t.n) ∧ W.cell? ⟨wk.heap.size, 3, none⟩ = some (.slice A' tl c')) ∧ W.cell? ⟨hb, 0, none⟩ = some (.int .u8 (k1 : Int)) ∧ W.cell? ⟨hb, 1, none⟩ = some (.string (str nm1)) ∧ W.cell? ⟨hb, 2, none⟩ = some (.int .i64 m1) ∧ W.cell? ⟨hb, 3, none⟩ = some (.int .i64 (mn1 : Int))) (by kernel_rfl) (HX.out _ (Below.refl _ w6).drew) (fun hHeld => ?_)
                    refine takeY 0 (some 60) rfl rfl (by kernel_rfl) (by kernel_rfl) (by kernel_rfl) (fun _ _ _ h => h) (by rfl) (v := _) (by (intro _ hSw; (try dsimp only at hSw); go_simp; try with_reducible rfl)) hHeld ?_
                    simp only [Act.put, List.setIfInBounds_toArray, List.set_cons_zero, List.set_cons_succ]
                    refine wpAnyH_ready (rs := [1]) (by kernel_rfl) (by simp) ?_
                    refine AllReadyH.cons rfl (fun K hK => ?_) AllReadyH.nil
                    clear hHeld
                    go_simp
                    go_wp2_with (go_at_call 25; refine Calls.mono HWC.out ?_; rintro e w7 ⟨rfl, hb7⟩; have hw7 : Below w6.heap.size w6 w7 := (Below.refl _ w6).drew.trans hb7)
                    refine hK.out _ _ (by exact HX.out _ hw7) (fun hHeld => ?_)
                    clear hK K
                    refine takeY 2 (some 62) rfl rfl (by kernel_rfl) (by kernel_rfl) (by kernel_rfl) (fun _ _ _ h => h) (by rfl) (v := _) (by (intro _ hSw; (try dsimp only at hSw); go_simp; try with_reducible rfl)) hHeld ?_
                    simp only [Act.put, List.setIfInBounds_toArray, List.set_cons_zero, List.set_cons_succ]
                    refine takeY 3 (some 63) rfl rfl (by kernel_rfl) (by kernel_rfl) (by kernel_rfl) (fun _ _ _ h => h) (by rfl) (v := _) (by (intro _ hSw; (try dsimp only at hSw); go_simp; try with_reducible rfl)) hHeld ?_
                    simp only [Act.put, List.setIfInBounds_toArray, List.set_cons_zero, List.set_cons_succ]
                    refine takeN 4 (some 64) rfl rfl (by kernel_rfl) (by kernel_rfl) (by kernel_rfl) (fun _ _ _ h => h) (by rfl) hHeld ?_
                    simp only [Act.put, List.setIfInBounds_toArray, List.set_cons_zero, List.set_cons_succ]
                    refine takeN 5 (some 65) rfl rfl (by kernel_rfl) (by kernel_rfl) (by kernel_rfl) (fun _ _ _ h => h) (by rfl) hHeld ?_
                    simp only [Act.put, List.setIfInBounds_toArray, List.set_cons_zero, List.set_cons_succ]
                    refine takeN 6 (some 66) rfl rfl (by kernel_rfl) (by kernel_rfl) (by kernel_rfl) (fun _ _ _ h => h) (by rfl) hHeld ?_
                    simp only [Act.put, List.setIfInBounds_toArray, List.set_cons_zero, List.set_cons_succ]
                    refine takeN 7 (some 67) rfl rfl (by kernel_rfl) (by kernel_rfl) (by kernel_rfl) (fun _ _ _ h => h) (by rfl) hHeld ?_
                    simp only [Act.put, List.setIfInBounds_toArray, List.set_cons_zero, List.set_cons_succ]
                    refine takeY 8 (some 68) rfl rfl (by kernel_rfl) (by kernel_rfl) (by kernel_rfl) (fun _ _ _ h => h) (by rfl) (v := _) (by (intro _ hSw; (try dsimp only at hSw); go_simp; try with_reducible rfl)) hHeld ?_
                    simp only [Act.put, List.setIfInBounds_toArray, List.set_cons_zero, List.set_cons_succ]
                    refine wpAnyH_done (by kernel_rfl) ?_ _
                    have HN : Hid (KdI wz w7 ⟨k1, nm1, m1, mn1⟩ k ps (s + 1) (.slice Al el cl) es) := Lib.hid (hV.out.skip (HT.out.2.2.2.2.1.trans (hw7.mono HT.out.2.2.2.2.1.size)) HT.out.1 (.inl HT.out.2.1))
                    clear hV hw7 hb7 hHeld
                    go_wp2_with fail
                    go_roundw
                    case rel => exact ⟨s + 1, es, Al, cl, by omega, by go_num, by rw [hel], by rw [hel]; exact HN⟩
                    case measure => simp [intOf]; omega
                  | false =>
                    obtain ⟨⟨k2, nm2, m2, mn2⟩, hth⟩ : ∃ h, t.head = h := ⟨_, rfl⟩
                    have HHC := HH0.out
                    rw [hth] at HHC
                    unfold Head.val at HHC
                    dsimp only at HHC
                    replace HHC := Lib.hid HHC
                    have HTH := Lib.hid hth
                    clear hth HH0
                    rcases five k2 k1 nm2 nm1 m2 m1 mn2 mn1 with ⟨rfl, rfl, rfl, rfl⟩ | hne | ⟨rfl, hne⟩ | ⟨rfl, rfl, hne⟩ | ⟨rfl, rfl, rfl, hne⟩
                    · have hmt : tl = mn2 := by
                        have := congrArg Head.many HTH.out
                        rw [← HT.out.2.2.1]; exact this
                      subst hmt
                      obtain ⟨x, hx⟩ : ∃ x, t.ks[k]? = some x := ⟨_, List.getElem?_eq_getElem (by rw [HT.out.2.2.1]; exact hlk)⟩
                      refine wp_region_held_drew (S := fun W => (W.cell? ⟨wk.heap.size, 0, none⟩ = some (.int .u8 (t.k : Int)) ∧ W.cell? ⟨wk.heap.size, 1, none⟩ = some (.string (str t.nm)) ∧ W.cell? ⟨wk.heap.size, 2, none⟩ = some (.int .i64 t.n) ∧ W.cell? ⟨wk.heap.size, 3, none⟩ = some (.slice A' tl c')) ∧ W.cell? ⟨hb, 0, none⟩ = some (.int .u8 (k2 : Int)) ∧ W.cell? ⟨hb, 1, none⟩ = some (.string (str nm2)) ∧ W.cell? ⟨hb, 2, none⟩ = some (.int .i64 m2) ∧ W.cell? ⟨hb, 3, none⟩ = some (.int .i64 (tl : Int))) (by kernel_rfl) (HX.out _ (Below.refl _ w6).drew) (fun hHeld => ?_)
                      refine takeY 0 (some 60) rfl rfl (by kernel_rfl) (by kernel_rfl) (by kernel_rfl) (fun _ _ _ h => h) (by rfl) (v := _) (by (intro _ hSw; (try dsimp only at hSw); go_simp; try with_reducible rfl)) hHeld ?_
                      simp only [Act.put, List.setIfInBounds_toArray, List.set_cons_zero, List.set_cons_succ]
                      refine wpAnyH_ready (rs := [1]) (by kernel_rfl) (by simp) ?_
                      refine AllReadyH.cons rfl (fun K hK => ?_) AllReadyH.nil
                      clear hHeld
                      go_simp
                      go_wp2_with (go_at_call 25; refine Calls.mono HWC.out ?_; rintro e w7 ⟨rfl, hb7⟩; have hw7 : Below w6.heap.size w6 w7 := (Below.refl _ w6).drew.trans hb7)
                      refine hK.out _ _ (by exact HX.out _ hw7) (fun hHeld => ?_)
                      clear hK K
                      refine takeY 2 (some 62) rfl rfl (by kernel_rfl) (by kernel_rfl) (by kernel_rfl) (fun _ _ _ h => h) (by rfl) (v := _) (by (intro _ hSw; (try dsimp only at hSw); go_simp; try with_reducible rfl)) hHeld ?_
                      simp only [Act.put, List.setIfInBounds_toArray, List.set_cons_zero, List.set_cons_succ]
                      refine takeY 3 (some 63) rfl rfl (by kernel_rfl) (by kernel_rfl) (by kernel_rfl) (fun _ _ _ h => h) (by rfl) (v := _) (by (intro _ hSw; (try dsimp only at hSw); go_simp; try with_reducible rfl)) hHeld ?_
                      simp only [Act.put, List.setIfInBounds_toArray, List.set_cons_zero, List.set_cons_succ]
                      refine takeY 4 (some 64) rfl rfl (by kernel_rfl) (by kernel_rfl) (by kernel_rfl) (fun _ _ _ h => h) (by rfl) (v := _) (by (intro _ hSw; (try dsimp only at hSw); go_simp; try with_reducible rfl)) hHeld ?_
                      simp only [Act.put, List.setIfInBounds_toArray, List.set_cons_zero, List.set_cons_succ]
                      refine takeY 6 (some 66) rfl rfl (by kernel_rfl) (by kernel_rfl) (by kernel_rfl) (fun _ _ _ h => h) (by rfl) (v := _) (by (intro _ hSw; (try dsimp only at hSw); go_simp; try with_reducible rfl)) hHeld ?_
                      simp only [Act.put, List.setIfInBounds_toArray, List.set_cons_zero, List.set_cons_succ]
                      refine wpAnyH_ready (rs := [5]) (by kernel_rfl) (by simp) ?_
                      refine AllReadyH.cons rfl (fun K hK => ?_) AllReadyH.nil
                      clear hHeld
                      go_simp
                      go_wp2_with (go_at_call 28; refine Calls.mono (HHC.out w7) ?_; rintro e w8 ⟨rfl, hb8⟩; have hw8 : Below w6.heap.size w6 w8 := hw7.trans (hb8.mono hw7.size))
                      refine hK.out _ _ (by exact HX.out _ hw8) (fun hHeld => ?_)
                      clear hK K
                      refine takeY 7 (some 67) rfl rfl (by kernel_rfl) (by kernel_rfl) (by kernel_rfl) (fun _ _ _ h => h) (by rfl) (v := _) (by (intro _ hSw; (try dsimp only at hSw); go_simp; try with_reducible rfl)) hHeld ?_
                      simp only [Act.put, List.setIfInBounds_toArray, List.set_cons_zero, List.set_cons_succ]
                      refine takeY 8 (some 68) rfl rfl (by kernel_rfl) (by kernel_rfl) (by kernel_rfl) (fun _ _ _ h => h) (by rfl) (v := _) (by (intro _ hSw; (try dsimp only at hSw); go_simp; try with_reducible rfl)) hHeld ?_
                      simp only [Act.put, List.setIfInBounds_toArray, List.set_cons_zero, List.set_cons_succ]
                      refine wpAnyH_done (by kernel_rfl) ?_ _
                      obtain ⟨bx, ox, Ax, cx, rfl, _, hbx, g0', g1', g2', g3', hxok, hxl, hxc, hxA⟩ := HT.out.2.2.2.1.get hx
                      have hbz8 : Below wz.heap.size wz w8 := hV.out.bel.trans ((HT.out.2.2.2.2.1.trans (hw8.mono HT.out.2.2.2.2.1.size)).mono hV.out.bel.size)
                      have g0 := (hbz8.cell (p := ⟨bx, _, none⟩) hbx).trans g0'
                      have g1 := (hbz8.cell (p := ⟨bx, _, none⟩) hbx).trans g1'
                      have g2 := (hbz8.cell (p := ⟨bx, _, none⟩) hbx).trans g2'
                      have g3 := (hbz8.cell (p := ⟨bx, _, none⟩) hbx).trans g3'
                      clear g0' g1' g2' g3' hbz8
                      obtain ⟨xl, hxtl⟩ : ∃ xl, x.ks.length = xl := ⟨_, rfl⟩
                      rw [hxtl] at g3
                      obtain ⟨w10, hw10⟩ : ∃ w10, w8.alloc (.cells #[.int .u8 (x.k : Int), .string (str x.nm), .int .i64 x.n, .slice Ax xl cx] 40) = w10 := ⟨_, rfl⟩
                      have hb10 : Below w8.heap.size w8 w10 := by rw [← hw10]; exact (Below.refl _ _).alloc (Nat.le_refl _) _
                      have hB10 : Blk w10 w8.heap.size 40 #[.int .u8 (x.k : Int), .string (str x.nm), .int .i64 x.n, .slice Ax xl cx] := by rw [← hw10]; exact Blk.new _ _ _
                      obtain ⟨A3, c3, w11, hrun, hN⟩ := hV.out.next HT.out.1 HT.out.2.1 HTH.out hx (by rw [HA.out.1.len]; omega) (HT.out.2.2.2.2.1.trans (hw8.mono HT.out.2.2.2.2.1.size)) hb10 hB10 hxtl hxA hxl hxc hxok
                      have HN := Lib.hid hN
                      rw [hel] at hrun HN
                      have HR := Lib.hid hrun
                      have HW := Lib.hid hw10
                      have y3 := (HX.out w8 hw8).1.2.2.2
                      clear hV hx hbx hxok hxl hxc hxA hxtl hw10 hb10 hB10 hrun hN hw7 hb7 hw8 hb8 hHeld
                      go_upto_region 24 with fail
                      have hw10 := HW.out
                      have hrun := HR.out
                      go_wp2_with (at_builtin; refine wpList_app rfl _ _ 22 rfl _ _ _ _ rfl rfl hrun ?_)
                      go_roundw
                      case rel => exact ⟨s + 1, es ++ [⟨x, Ax, cx⟩], A3, c3, by omega, by go_num, by rw [List.length_append, List.length_singleton, hel], by rw [List.length_append, List.length_singleton, hel]; exact HN⟩
                      case measure => simp [intOf]; omega
                    · have HQ : Hid (¬ t.head = ⟨k1, nm1, m1, mn1⟩) := Lib.hid (fun e => by
                        rw [HTH.out] at e
                        exact hne (by injection e))
                      have hne2 : ¬ ((k2 : Int) = (k1 : Int)) := by omega
                      clear hne
                      refine wp_region_held_drew (S := fun W => (W.cell? ⟨wk.heap.size, 0, none⟩ = some (.int .u8 (t.k : Int)) ∧ W.cell? ⟨wk.heap.size, 1, none⟩ = some (.string (str t.nm)) ∧ W.cell? ⟨wk.heap.size, 2, none⟩ = some (.int .i64 t.n) ∧ W.cell? ⟨wk.heap.size, 3, none⟩ = some (.slice A' tl c')) ∧ W.cell? ⟨hb, 0, none⟩ = some (.int .u8 (k1 : Int)) ∧ W.cell? ⟨hb, 1, none⟩ = some (.string (str nm1)) ∧ W.cell? ⟨hb, 2, none⟩ = some (.int .i64 m1) ∧ W.cell? ⟨hb, 3, none⟩ = some (.int .i64 (mn1 : Int))) (by kernel_rfl) (HX.out _ (Below.refl _ w6).drew) (fun hHeld => ?_)
                      refine takeY 0 (some 60) rfl rfl (by kernel_rfl) (by kernel_rfl) (by kernel_rfl) (fun _ _ _ h => h) (by rfl) (v := _) (by (intro _ hSw; (try dsimp only at hSw); go_simp; try with_reducible rfl)) hHeld ?_
                      simp only [Act.put, List.setIfInBounds_toArray, List.set_cons_zero, List.set_cons_succ]
                      refine wpAnyH_ready (rs := [1]) (by kernel_rfl) (by simp) ?_
                      refine AllReadyH.cons rfl (fun K hK => ?_) AllReadyH.nil
                      clear hHeld
                      go_simp
                      go_wp2_with (go_at_call 25; refine Calls.mono HWC.out ?_; rintro e w7 ⟨rfl, hb7⟩; have hw7 : Below w6.heap.size w6 w7 := (Below.refl _ w6).drew.trans hb7)
                      refine hK.out _ _ (by exact HX.out _ hw7) (fun hHeld => ?_)
                      clear hK K
                      refine takeY 2 (some 62) rfl rfl (by kernel_rfl) (by kernel_rfl) (by kernel_rfl) (fun _ _ _ h => h) (by rfl) (v := _) (by (intro _ hSw; (try dsimp only at hSw); go_simp; try with_reducible rfl)) hHeld ?_
                      simp only [Act.put, List.setIfInBounds_toArray, List.set_cons_zero, List.set_cons_succ]
                      refine takeY 3 (some 63) rfl rfl (by kernel_rfl) (by kernel_rfl) (by kernel_rfl) (fun _ _ _ h => h) (by rfl) (v := _) (by (intro _ hSw; (try dsimp only at hSw); go_simp; try with_reducible rfl)) hHeld ?_
                      simp only [Act.put, List.setIfInBounds_toArray, List.set_cons_zero, List.set_cons_succ]
                      refine takeY 4 (some 64) rfl rfl (by kernel_rfl) (by kernel_rfl) (by kernel_rfl) (fun _ _ _ h => h) (by rfl) (v := _) (by (intro _ hSw; (try dsimp only at hSw); go_simp; try with_reducible rfl)) hHeld ?_
                      simp only [Act.put, List.setIfInBounds_toArray, List.set_cons_zero, List.set_cons_succ]
                      refine takeY 6 (some 66) rfl rfl (by kernel_rfl) (by kernel_rfl) (by kernel_rfl) (fun _ _ _ h => h) (by rfl) (v := _) (by (intro _ hSw; (try dsimp only at hSw); go_simp; try with_reducible rfl)) hHeld ?_
                      simp only [Act.put, List.setIfInBounds_toArray, List.set_cons_zero, List.set_cons_succ]
                      refine wpAnyH_ready (rs := [5]) (by kernel_rfl) (by simp) ?_
                      refine AllReadyH.cons rfl (fun K hK => ?_) AllReadyH.nil
                      clear hHeld
                      go_simp
                      go_wp2_with (go_at_call 28; refine Calls.mono (HHC.out w7) ?_; rintro e w8 ⟨rfl, hb8⟩; have hw8 : Below w6.heap.size w6 w8 := hw7.trans (hb8.mono hw7.size))
                      refine hK.out _ _ (by exact HX.out _ hw8) (fun hHeld => ?_)
                      clear hK K
                      refine takeY 7 (some 67) rfl rfl (by kernel_rfl) (by kernel_rfl) (by kernel_rfl) (fun _ _ _ h => h) (by rfl) (v := _) (by (intro _ hSw; (try dsimp only at hSw); go_simp; try with_reducible rfl)) hHeld ?_
                      simp only [Act.put, List.setIfInBounds_toArray, List.set_cons_zero, List.set_cons_succ]
                      refine takeY 8 (some 68) rfl rfl (by kernel_rfl) (by kernel_rfl) (by kernel_rfl) (fun _ _ _ h => h) (by rfl) (v := _) (by (intro _ hSw; (try dsimp only at hSw); go_simp; try with_reducible rfl)) hHeld ?_
                      simp only [Act.put, List.setIfInBounds_toArray, List.set_cons_zero, List.set_cons_succ]
                      refine wpAnyH_done (by kernel_rfl) ?_ _
                      have HN : Hid (KdI wz w8 ⟨k1, nm1, m1, mn1⟩ k ps (s + 1) (.slice Al el cl) es) := Lib.hid (hV.out.skip (HT.out.2.2.2.2.1.trans (hw8.mono HT.out.2.2.2.2.1.size)) HT.out.1 (.inr ⟨HT.out.2.1, HQ.out⟩))
                      clear hV hw7 hb7 hw8 hb8 hHeld
                      go_wp2_with fail
                      go_roundw
                      case rel => exact ⟨s + 1, es, Al, cl, by omega, by go_num, by rw [hel], by rw [hel]; exact HN⟩
                      case measure => simp [intOf]; omega
                    · have HQ : Hid (¬ t.head = ⟨k2, nm1, m1, mn1⟩) := Lib.hid (fun e => by
                        rw [HTH.out] at e
                        exact hne (by injection e))
                      have hne2 : ¬ ((str nm2).toList = (str nm1).toList) := by rw [str_toList, str_toList]; exact hne
                      clear hne
                      refine wp_region_held_drew (S := fun W => (W.cell? ⟨wk.heap.size, 0, none⟩ = some (.int .u8 (t.k : Int)) ∧ W.cell? ⟨wk.heap.size, 1, none⟩ = some (.string (str t.nm)) ∧ W.cell? ⟨wk.heap.size, 2, none⟩ = some (.int .i64 t.n) ∧ W.cell? ⟨wk.heap.size, 3, none⟩ = some (.slice A' tl c')) ∧ W.cell? ⟨hb, 0, none⟩ = some (.int .u8 (k2 : Int)) ∧ W.cell? ⟨hb, 1, none⟩ = some (.string (str nm1)) ∧ W.cell? ⟨hb, 2, none⟩ = some (.int .i64 m1) ∧ W.cell? ⟨hb, 3, none⟩ = some (.int .i64 (mn1 : Int))) (by kernel_rfl) (HX.out _ (Below.refl _ w6).drew) (fun hHeld => ?_)
                      refine takeY 0 (some 60) rfl rfl (by kernel_rfl) (by kernel_rfl) (by kernel_rfl) (fun _ _ _ h => h) (by rfl) (v := _) (by (intro _ hSw; (try dsimp only at hSw); go_simp; try with_reducible rfl)) hHeld ?_
                      simp only [Act.put, List.setIfInBounds_toArray, List.set_cons_zero, List.set_cons_succ]
                      refine wpAnyH_ready (rs := [1]) (by kernel_rfl) (by simp) ?_
                      refine AllReadyH.cons rfl (fun K hK => ?_) AllReadyH.nil
                      clear hHeld
                      go_simp
                      go_wp2_with (go_at_call 25; refine Calls.mono HWC.out ?_; rintro e w7 ⟨rfl, hb7⟩; have hw7 : Below w6.heap.size w6 w7 := (Below.refl _ w6).drew.trans hb7)
                      refine hK.out _ _ (by exact HX.out _ hw7) (fun hHeld => ?_)
                      clear hK K
                      refine takeY 2 (some 62) rfl rfl (by kernel_rfl) (by kernel_rfl) (by kernel_rfl) (fun _ _ _ h => h) (by rfl) (v := _) (by (intro _ hSw; (try dsimp only at hSw); go_simp; try with_reducible rfl)) hHeld ?_
                      simp only [Act.put, List.setIfInBounds_toArray, List.set_cons_zero, List.set_cons_succ]
                      refine takeY 3 (some 63) rfl rfl (by kernel_rfl) (by kernel_rfl) (by kernel_rfl) (fun _ _ _ h => h) (by rfl) (v := _) (by (intro _ hSw; (try dsimp only at hSw); go_simp; try with_reducible rfl)) hHeld ?_
                      simp only [Act.put, List.setIfInBounds_toArray, List.set_cons_zero, List.set_cons_succ]
                      refine takeY 4 (some 64) rfl rfl (by kernel_rfl) (by kernel_rfl) (by kernel_rfl) (fun _ _ _ h => h) (by rfl) (v := _) (by (intro _ hSw; (try dsimp only at hSw); go_simp; try with_reducible rfl)) hHeld ?_
                      simp only [Act.put, List.setIfInBounds_toArray, List.set_cons_zero, List.set_cons_succ]
                      refine takeY 6 (some 66) rfl rfl (by kernel_rfl) (by kernel_rfl) (by kernel_rfl) (fun _ _ _ h => h) (by rfl) (v := _) (by (intro _ hSw; (try dsimp only at hSw); go_simp; try with_reducible rfl)) hHeld ?_
                      simp only [Act.put, List.setIfInBounds_toArray, List.set_cons_zero, List.set_cons_succ]
                      refine wpAnyH_ready (rs := [5]) (by kernel_rfl) (by simp) ?_
                      refine AllReadyH.cons rfl (fun K hK => ?_) AllReadyH.nil
                      clear hHeld
                      go_simp
                      go_wp2_with (go_at_call 28; refine Calls.mono (HHC.out w7) ?_; rintro e w8 ⟨rfl, hb8⟩; have hw8 : Below w6.heap.size w6 w8 := hw7.trans (hb8.mono hw7.size))
                      refine hK.out _ _ (by exact HX.out _ hw8) (fun hHeld => ?_)
                      clear hK K
                      refine takeY 7 (some 67) rfl rfl (by kernel_rfl) (by kernel_rfl) (by kernel_rfl) (fun _ _ _ h => h) (by rfl) (v := _) (by (intro _ hSw; (try dsimp only at hSw); go_simp; try with_reducible rfl)) hHeld ?_
                      simp only [Act.put, List.setIfInBounds_toArray, List.set_cons_zero, List.set_cons_succ]
                      refine takeY 8 (some 68) rfl rfl (by kernel_rfl) (by kernel_rfl) (by kernel_rfl) (fun _ _ _ h => h) (by rfl) (v := _) (by (intro _ hSw; (try dsimp only at hSw); go_simp; try with_reducible rfl)) hHeld ?_
                      simp only [Act.put, List.setIfInBounds_toArray, List.set_cons_zero, List.set_cons_succ]
                      refine wpAnyH_done (by kernel_rfl) ?_ _
                      have HN : Hid (KdI wz w8 ⟨k2, nm1, m1, mn1⟩ k ps (s + 1) (.slice Al el cl) es) := Lib.hid (hV.out.skip (HT.out.2.2.2.2.1.trans (hw8.mono HT.out.2.2.2.2.1.size)) HT.out.1 (.inr ⟨HT.out.2.1, HQ.out⟩))
                      clear hV hw7 hb7 hw8 hb8 hHeld
                      go_wp2_with fail
                      go_roundw
                      case rel => exact ⟨s + 1, es, Al, cl, by omega, by go_num, by rw [hel], by rw [hel]; exact HN⟩
                      case measure => simp [intOf]; omega
                    · have HQ : Hid (¬ t.head = ⟨k2, nm2, m1, mn1⟩) := Lib.hid (fun e => by
                        rw [HTH.out] at e
                        exact hne (by injection e))
                      have hne2 : ¬ (m2 = m1) := hne
                      clear hne
                      refine wp_region_held_drew (S := fun W => (W.cell? ⟨wk.heap.size, 0, none⟩ = some (.int .u8 (t.k : Int)) ∧ W.cell? ⟨wk.heap.size, 1, none⟩ = some (.string (str t.nm)) ∧ W.cell? ⟨wk.heap.size, 2, none⟩ = some (.int .i64 t.n) ∧ W.cell? ⟨wk.heap.size, 3, none⟩ = some (.slice A' tl c')) ∧ W.cell? ⟨hb, 0, none⟩ = some (.int .u8 (k2 : Int)) ∧ W.cell? ⟨hb, 1, none⟩ = some (.string (str nm2)) ∧ W.cell? ⟨hb, 2, none⟩ = some (.int .i64 m1) ∧ W.cell? ⟨hb, 3, none⟩ = some (.int .i64 (mn1 : Int))) (by kernel_rfl) (HX.out _ (Below.refl _ w6).drew) (fun hHeld => ?_)
                      refine takeY 0 (some 60) rfl rfl (by kernel_rfl) (by kernel_rfl) (by kernel_rfl) (fun _ _ _ h => h) (by rfl) (v := _) (by (intro _ hSw; (try dsimp only at hSw); go_simp; try with_reducible rfl)) hHeld ?_
                      simp only [Act.put, List.setIfInBounds_toArray, List.set_cons_zero, List.set_cons_succ]
                      refine wpAnyH_ready (rs := [1]) (by kernel_rfl) (by simp) ?_
                      refine AllReadyH.cons rfl (fun K hK => ?_) AllReadyH.nil
                      clear hHeld
                      go_simp
                      go_wp2_with (go_at_call 25; refine Calls.mono HWC.out ?_; rintro e w7 ⟨rfl, hb7⟩; have hw7 : Below w6.heap.size w6 w7 := (Below.refl _ w6).drew.trans hb7)
                      refine hK.out _ _ (by exact HX.out _ hw7) (fun hHeld => ?_)
                      clear hK K
                      refine takeY 2 (some 62) rfl rfl (by kernel_rfl) (by kernel_rfl) (by kernel_rfl) (fun _ _ _ h => h) (by rfl) (v := _) (by (intro _ hSw; (try dsimp only at hSw); go_simp; try with_reducible rfl)) hHeld ?_
                      simp only [Act.put, List.setIfInBounds_toArray, List.set_cons_zero, List.set_cons_succ]
                      refine takeY 3 (some 63) rfl rfl (by kernel_rfl) (by kernel_rfl) (by kernel_rfl) (fun _ _ _ h => h) (by rfl) (v := _) (by (intro _ hSw; (try dsimp only at hSw); go_simp; try with_reducible rfl)) hHeld ?_
                      simp only [Act.put, List.setIfInBounds_toArray, List.set_cons_zero, List.set_cons_succ]
                      refine takeY 4 (some 64) rfl rfl (by kernel_rfl) (by kernel_rfl) (by kernel_rfl) (fun _ _ _ h => h) (by rfl) (v := _) (by (intro _ hSw; (try dsimp only at hSw); go_simp; try with_reducible rfl)) hHeld ?_
                      simp only [Act.put, List.setIfInBounds_toArray, List.set_cons_zero, List.set_cons_succ]
                      refine takeY 6 (some 66) rfl rfl (by kernel_rfl) (by kernel_rfl) (by kernel_rfl) (fun _ _ _ h => h) (by rfl) (v := _) (by (intro _ hSw; (try dsimp only at hSw); go_simp; try with_reducible rfl)) hHeld ?_
                      simp only [Act.put, List.setIfInBounds_toArray, List.set_cons_zero, List.set_cons_succ]
                      refine wpAnyH_ready (rs := [5]) (by kernel_rfl) (by simp) ?_
                      refine AllReadyH.cons rfl (fun K hK => ?_) AllReadyH.nil
                      clear hHeld
                      go_simp
                      go_wp2_with (go_at_call 28; refine Calls.mono (HHC.out w7) ?_; rintro e w8 ⟨rfl, hb8⟩; have hw8 : Below w6.heap.size w6 w8 := hw7.trans (hb8.mono hw7.size))
                      refine hK.out _ _ (by exact HX.out _ hw8) (fun hHeld => ?_)
                      clear hK K
                      refine takeY 7 (some 67) rfl rfl (by kernel_rfl) (by kernel_rfl) (by kernel_rfl) (fun _ _ _ h => h) (by rfl) (v := _) (by (intro _ hSw; (try dsimp only at hSw); go_simp; try with_reducible rfl)) hHeld ?_
                      simp only [Act.put, List.setIfInBounds_toArray, List.set_cons_zero, List.set_cons_succ]
                      refine takeY 8 (some 68) rfl rfl (by kernel_rfl) (by kernel_rfl) (by kernel_rfl) (fun _ _ _ h => h) (by rfl) (v := _) (by (intro _ hSw; (try dsimp only at hSw); go_simp; try with_reducible rfl)) hHeld ?_
                      simp only [Act.put, List.setIfInBounds_toArray, List.set_cons_zero, List.set_cons_succ]
                      refine wpAnyH_done (by kernel_rfl) ?_ _
                      have HN : Hid (KdI wz w8 ⟨k2, nm2, m1, mn1⟩ k ps (s + 1) (.slice Al el cl) es) := Lib.hid (hV.out.skip (HT.out.2.2.2.2.1.trans (hw8.mono HT.out.2.2.2.2.1.size)) HT.out.1 (.inr ⟨HT.out.2.1, HQ.out⟩))
                      clear hV hw7 hb7 hw8 hb8 hHeld
                      go_wp2_with fail
                      go_roundw
                      case rel => exact ⟨s + 1, es, Al, cl, by omega, by go_num, by rw [hel], by rw [hel]; exact HN⟩
                      case measure => simp [intOf]; omega
                    · have HQ : Hid (¬ t.head = ⟨k2, nm2, m2, mn1⟩) := Lib.hid (fun e => by
                        rw [HTH.out] at e
                        exact hne (by injection e))
                      have hne2 : ¬ ((mn2 : Int) = (mn1 : Int)) := by omega
                      clear hne
                      refine wp_region_held_drew (S := fun W => (W.cell? ⟨wk.heap.size, 0, none⟩ = some (.int .u8 (t.k : Int)) ∧ W.cell? ⟨wk.heap.size, 1, none⟩ = some (.string (str t.nm)) ∧ W.cell? ⟨wk.heap.size, 2, none⟩ = some (.int .i64 t.n) ∧ W.cell? ⟨wk.heap.size, 3, none⟩ = some (.slice A' tl c')) ∧ W.cell? ⟨hb, 0, none⟩ = some (.int .u8 (k2 : Int)) ∧ W.cell? ⟨hb, 1, none⟩ = some (.string (str nm2)) ∧ W.cell? ⟨hb, 2, none⟩ = some (.int .i64 m2) ∧ W.cell? ⟨hb, 3, none⟩ = some (.int .i64 (mn1 : Int))) (by kernel_rfl) (HX.out _ (Below.refl _ w6).drew) (fun hHeld => ?_)
                      refine takeY 0 (some 60) rfl rfl (by kernel_rfl) (by kernel_rfl) (by kernel_rfl) (fun _ _ _ h => h) (by rfl) (v := _) (by (intro _ hSw; (try dsimp only at hSw); go_simp; try with_reducible rfl)) hHeld ?_
                      simp only [Act.put, List.setIfInBounds_toArray, List.set_cons_zero, List.set_cons_succ]
                      refine wpAnyH_ready (rs := [1]) (by kernel_rfl) (by simp) ?_
                      refine AllReadyH.cons rfl (fun K hK => ?_) AllReadyH.nil
                      clear hHeld
                      go_simp
                      go_wp2_with (go_at_call 25; refine Calls.mono HWC.out ?_; rintro e w7 ⟨rfl, hb7⟩; have hw7 : Below w6.heap.size w6 w7 := (Below.refl _ w6).drew.trans hb7)
                      refine hK.out _ _ (by exact HX.out _ hw7) (fun hHeld => ?_)
                      clear hK K
                      refine takeY 2 (some 62) rfl rfl (by kernel_rfl) (by kernel_rfl) (by kernel_rfl) (fun _ _ _ h => h) (by rfl) (v := _) (by (intro _ hSw; (try dsimp only at hSw); go_simp; try with_reducible rfl)) hHeld ?_
                      simp only [Act.put, List.setIfInBounds_toArray, List.set_cons_zero, List.set_cons_succ]
                      refine takeY 3 (some 63) rfl rfl (by kernel_rfl) (by kernel_rfl) (by kernel_rfl) (fun _ _ _ h => h) (by rfl) (v := _) (by (intro _ hSw; (try dsimp only at hSw); go_simp; try with_reducible rfl)) hHeld ?_
                      simp only [Act.put, List.setIfInBounds_toArray, List.set_cons_zero, List.set_cons_succ]
                      refine takeY 4 (some 64) rfl rfl (by kernel_rfl) (by kernel_rfl) (by kernel_rfl) (fun _ _ _ h => h) (by rfl) (v := _) (by (intro _ hSw; (try dsimp only at hSw); go_simp; try with_reducible rfl)) hHeld ?_
                      simp only [Act.put, List.setIfInBounds_toArray, List.set_cons_zero, List.set_cons_succ]
                      refine takeY 6 (some 66) rfl rfl (by kernel_rfl) (by kernel_rfl) (by kernel_rfl) (fun _ _ _ h => h) (by rfl) (v := _) (by (intro _ hSw; (try dsimp only at hSw); go_simp; try with_reducible rfl)) hHeld ?_
                      simp only [Act.put, List.setIfInBounds_toArray, List.set_cons_zero, List.set_cons_succ]
                      refine wpAnyH_ready (rs := [5]) (by kernel_rfl) (by simp) ?_
                      refine AllReadyH.cons rfl (fun K hK => ?_) AllReadyH.nil
                      clear hHeld
                      go_simp
                      go_wp2_with (go_at_call 28; refine Calls.mono (HHC.out w7) ?_; rintro e w8 ⟨rfl, hb8⟩; have hw8 : Below w6.heap.size w6 w8 := hw7.trans (hb8.mono hw7.size))
                      refine hK.out _ _ (by exact HX.out _ hw8) (fun hHeld => ?_)
                      clear hK K
                      refine takeY 7 (some 67) rfl rfl (by kernel_rfl) (by kernel_rfl) (by kernel_rfl) (fun _ _ _ h => h) (by rfl) (v := _) (by (intro _ hSw; (try dsimp only at hSw); go_simp; try with_reducible rfl)) hHeld ?_
                      simp only [Act.put, List.setIfInBounds_toArray, List.set_cons_zero, List.set_cons_succ]
                      refine takeY 8 (some 68) rfl rfl (by kernel_rfl) (by kernel_rfl) (by kernel_rfl) (fun _ _ _ h => h) (by rfl) (v := _) (by (intro _ hSw; (try dsimp only at hSw); go_simp; try with_reducible rfl)) hHeld ?_
                      simp only [Act.put, List.setIfInBounds_toArray, List.set_cons_zero, List.set_cons_succ]
                      refine wpAnyH_done (by kernel_rfl) ?_ _
                      have HN : Hid (KdI wz w8 ⟨k2, nm2, m2, mn1⟩ k ps (s + 1) (.slice Al el cl) es) := Lib.hid (hV.out.skip (HT.out.2.2.2.2.1.trans (hw8.mono HT.out.2.2.2.2.1.size)) HT.out.1 (.inr ⟨HT.out.2.1, HQ.out⟩))
                      clear hV hw7 hb7 hw8 hb8 hHeld
                      go_wp2_with fail
                      go_roundw
                      case rel => exact ⟨s + 1, es, Al, cl, by omega, by go_num, by rw [hel], by rw [hel]; exact HN⟩
                      case measure => simp [intOf]; omega
                · obtain rfl : s = i := by omega
                  have hds : decide ((s : Int) < (s : Int)) = false := by simp
                  obtain ⟨A2, c2, e2, hP2⟩ := hV.out.own.shape
                  injection e2 with e3 e4 e5
                  have hkids : es.map Te.t = kidsAt ⟨k1, nm1, m1, mn1⟩ k ps := by
                    have := hV.out.is
                    rwa [List.take_of_length_le (by rw [HA.out.1.len]; omega)] at this
                  rw [hkids, hel, ← e3, ← e5] at hP2
                  have hb0k : Below w0.heap.size w0 wk := HB1z.out.1.trans (hV.out.bel.mono HB1z.out.1.size)
                  have hmem : (⟨k1, nm1, m1, mn1⟩ : Head) ∈ heads ps := HHJ.out.2
                  have hlt := partss_kidsAt_lt k hmem
                  obtain ⟨fv, hfv⟩ : ∃ fv, fit l (kidsAt ⟨k1, nm1, m1, mn1⟩ k ps) = fv := ⟨_, rfl⟩
                  have hFC := HM.out.2 (kidsAt ⟨k1, nm1, m1, mn1⟩ k ps) Al el cl wk (by have := HM.out.1; omega) (hP2.mono fun _ _ => trivial) (HA.out.2.1.bel hb0k)
                  rw [hfv] at hFC
                  replace hFC := Lib.hid hFC
                  have hBX := HA.out.2.2.1.below hb0k HA.out.2.2.1.lt
                  have x0 := hBX.cell 0
                  have x1 := hBX.cell 1
                  simp only [List.getElem?_toArray, List.getElem?_cons_zero, List.getElem?_cons_succ] at x0 x1
                  have HK := Lib.hid (And.intro hmem (And.intro hfv (And.intro hV.out.bel hb0k)))
                  clear hV hP2 e3 e4 e5 hkids hb0k hmem hlt hfv hBX
                  go_wp2_with fail
                  refine hFC.out.mono ?_
                  rintro e w9 ⟨rfl, hb9⟩
                  clear x0 x1 hFC
                  cases fv with
                  | true =>
                    have HN : Hid (Below w2.heap.size w2 w9 ∧ ∀ k', k' < k + 1 → fit l (kidsAt ⟨k1, nm1, m1, mn1⟩ k' ps) = true) := Lib.hid ⟨hZ.out.1.trans ((HK.out.2.2.1.trans (hb9.mono HK.out.2.2.1.size)).mono hZ.out.1.size), fun k' hk' => by
                      by_cases e : k' = k
                      · subst e; exact HK.out.2.1
                      · exact hZ.out.2 k' (by omega)⟩
                    clear hZ hb9
                    go_wp2_with fail
                    go_roundw
                    case rel => exact ⟨k + 1, by omega, by go_num, HN⟩
                    case measure => simp [intOf]; omega
                  | false =>
                    have HF : Hid (fit l ps = false ∧ Below w.heap.size w w9) := Lib.hid ⟨fit_kids HK.out.1 hlk HK.out.2.1, HA.out.2.2.2.trans ((HK.out.2.2.2.trans (hb9.mono HK.out.2.2.2.size)).mono HA.out.2.2.2.size)⟩
                    clear hZ hb9
                    go_wp2_with fail
                    go_ret
                    exact ⟨congrArg (fun b => Ending.returned (Value.bool b)) HF.out.1.symm, HF.out.2⟩
            · obtain rfl : k = mn1 := by omega
              have hdk : decide ((k : Int) < (k : Int)) = false := by simp
              have HN : Hid (Below w1.heap.size w1 wz ∧ ∀ (r : Nat) (h : Head), r < j + 1 → hs[r]? = some h → ∀ k, k < h.many → fit l (kidsAt h k ps) = true) := Lib.hid ⟨HB2.out.1.trans (hZ.out.1.mono HB2.out.1.size), fun r h hr hh2 k' hk' => by
                by_cases e : r = j
                · subst e; rw [HHJ.out.1] at hh2; cases hh2; exact hZ.out.2 k' hk'
                · exact hY.out.2 r h (by omega) hh2 k' hk'⟩
              clear hY hZ
              go_wp2_with fail
              go_roundw
              case rel => exact ⟨j + 1, by omega, by go_num, HN⟩
              case measure => simp [intOf]; omega
        · obtain rfl : j = hn1 := by omega
          have hdj : decide ((j : Int) < (j : Int)) = false := by simp
          have HV : Hid (fit l ps = true ∧ Below w.heap.size w wj) := Lib.hid ⟨fit_yes HAS.out.1 HAS.out.2 (fun h hh k hk => by
            rw [HH1.out.2.1] at hh
            obtain ⟨r, hr⟩ := List.getElem?_of_mem hh
            exact hY.out.2 r h (by have := (List.getElem?_eq_some_iff.1 hr).1; have := HH1.out.2.2; omega) hr k hk), HA.out.2.2.2.trans ((HB1.out.trans (hY.out.1.mono HB1.out.size)).mono HA.out.2.2.2.size)⟩
          clear hY
          go_wp2_with fail
          go_ret
          exact ⟨congrArg (fun b => Ending.returned (Value.bool b)) HV.out.1.symm, HV.out.2⟩
end Go.Proofs.Ytigaondgopahgaa
