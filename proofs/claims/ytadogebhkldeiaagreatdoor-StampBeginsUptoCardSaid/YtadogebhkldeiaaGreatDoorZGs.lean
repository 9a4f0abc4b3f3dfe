/- stamp: StampBegins. -/
import Derived.Test.YtadogebhkldeiaaGreatDoorZGc
namespace Go.Proofs.YtadogebhkldeiaaGreatDoor
open Go.RowKit Ty
set_option linter.unusedVariables false
set_option linter.unusedSimpArgs false
attribute [local go_sem] Oper.semAt_some
theorem ansT_not {R : Option (List UInt8)} {n : Nat} (h : (ansT R).2 = n) (hn : n ≠ 0) : (ansT R).1 = [] := by
  unfold ansT at h ⊢
  cases R with
  | none => rfl
  | some tx =>
    simp only at h ⊢
    split
    · rfl
    · rename_i h2; rw [if_neg h2] at h; exact absurd h.symm hn
theorem ansT_yes {R : Option (List UInt8)} (h : (ansT R).2 = 0) : R = some (ansT R).1 ∧ (ansT R).1.length ≤ 200 := by
  unfold ansT at h ⊢
  cases R with
  | none => cases h
  | some tx =>
    simp only at h ⊢
    split
    · rename_i h2; rw [if_pos h2] at h; cases h
    · rename_i h2; exact ⟨rfl, by simp only; omega⟩
theorem ansT_some {tx : List UInt8} (h : tx.length ≤ 200) : ansT (some tx) = (tx, 0) := by
  unfold ansT
  simp only
  rw [if_neg (by omega)]
theorem ds_small {ds : List Dc} {N : Nat} (h : (ds.map bD).sum ≤ N) : 6 * ds.length ≤ N ∧ ∀ d ∈ ds, bD d ≤ N :=
  ⟨Nat.le_trans (len_sum bD 6 (fun d => by unfold bD; omega) ds) h, fun d hd => Nat.le_trans (sum_mem bD hd) h⟩
theorem DsAt.mem {X : Nat → Prop} {w : World} {A : Option Addr} {ds : List Dc} (h : DsAt X w A ds) {d : Dc} (hd : d ∈ ds) : d.K X w ∧ d.nm.length ≤ maxLen := by
  obtain ⟨r, hr⟩ := List.getElem?_of_mem hd
  obtain ⟨_, _, _, _, _, _, h1, h2⟩ := h r d hr
  exact ⟨h1, h2⟩
theorem ansT_which {R : Option (List UInt8)} {n : Nat} (h : (ansT R).2 = n) (hn : n ≠ 0) : n = 13 ∨ n = 16 := by
  unfold ansT at h
  cases R with
  | none => exact .inl h.symm
  | some tx =>
    simp only at h
    split at h
    · exact .inr h.symm
    · exact absurd h.symm hn
set_option maxRecDepth 100000 in
set_option maxHeartbeats 16000000 in
theorem begins_law (t : Ty) (A : Option Addr) (c : Nat) (ds : List Dc) (dsA : Option Addr) (dn dsc : Nat) (hdn : ds.length = dn) (e0 : Addr) (w : World)
    (herr : w.cell? ⟨0, 0, none⟩ = some (errv e0)) (hnm : NumK w.heap.size w) (hT : Te.in_ (fun k => k < w.heap.size) w ⟨t, A, c⟩) (hD : DsAt (fun k => k < w.heap.size) w dsA ds)
    (hb : bT t + (ds.map bD).sum ≤ 1048576) :
    Calls Tryz.prog 3 #[t.val A c, .slice dsA dn dsc] w fun e w' => e = .returned (.bool true) ∧ Below w.heap.size w w' := by
  obtain ⟨hd6, hdb⟩ := ds_small (ds := ds) (N := 1048576) (by omega)
  have hok : okT t = true := te_ok (e := ⟨t, A, c⟩) hT (by show bT t ≤ 5000000; omega)
  have hnl : t.nm.length ≤ maxLen := hT.2.1.2.2
  have hsm := ok_sml t hok
  have hnt : (namesT t).length < 400000 := by have := names_le t; omega
  have htl : (tyT t).length < 4294967200 := by have := ty_len t hok; omega
  obtain ⟨k, nm, n, ks⟩ := t
  obtain ⟨kl, hkl⟩ : ∃ kl, ks.length = kl := ⟨_, rfl⟩
  show Calls Tryz.prog 3 #[.agg #[.int .u8 (k : Int), .string (str nm), .int .i64 n, .slice A ks.length c], .slice dsA dn dsc] w fun e w' => e = .returned (.bool true) ∧ Below w.heap.size w w'
  obtain ⟨q, hq⟩ : ∃ q, w.heap.size = q := ⟨_, rfl⟩
  obtain ⟨w1, hw1⟩ : ∃ W, w.alloc (.cells #[.int .u8 (k : Int), .string (str nm), .int .i64 n, .slice A kl c] 24) = W := ⟨_, rfl⟩
  have hb1 : Below w.heap.size w w1 := by rw [← hw1]; exact (Below.refl _ _).alloc (Nat.le_refl _) _
  have hB1 : Blk w1 w.heap.size 24 #[.int .u8 (k : Int), .string (str nm), .int .i64 n, .slice A kl c] := by rw [← hw1]; exact Blk.new _ _ _
  have hn1 : w1.heap.size = q + 1 := by rw [← hw1, ← hq]; simp
  obtain ⟨B, hBq⟩ : ∃ B, q + 1 = B := ⟨_, rfl⟩
  rw [hBq] at hn1
  rw [hq] at hB1
  -- what stands as long as nothing below B turns
  have hto : ∀ W, Below B w1 W → Below w.heap.size w W ∧ B ≤ W.heap.size := fun W h => ⟨hb1.trans (h.mono (by omega)), by rw [← hn1]; exact h.size⟩
  have HX : Hid (∀ W, Below B w1 W → W.cell? ⟨q, 0, none⟩ = some (.int .u8 (k : Int)) ∧ W.cell? ⟨q, 1, none⟩ = some (.string (str nm)) ∧ W.cell? ⟨q, 2, none⟩ = some (.int .i64 n) ∧ W.cell? ⟨q, 3, none⟩ = some (.slice A kl c)) := Lib.hid fun W hW => by
    have h : Blk W q 24 #[.int .u8 (k : Int), .string (str nm), .int .i64 n, .slice A kl c] := (hW.block q (by omega)).trans hB1
    exact ⟨h.cell 0, h.cell 1, h.cell 2, h.cell 3⟩
  have hDW : ∀ W, Below B w1 W → DsAt (fun b => b < q) W dsA ds := fun W h => by
    rw [hq] at hD
    exact hD.off (Off.of_new (hto W h).1 (fun b => ¬ (b < q))) fun b h1 h2 => h2 h1
  have hup : ∀ W, Below B w1 W → ∀ b, b < q → b < W.heap.size := fun W h b hb => by have := (hto W h).2; omega
  have hTW : ∀ W, Below B w1 W → Te.in_ (fun b => b < W.heap.size) W ⟨.node k nm n ks, A, c⟩ := fun W h => (hT.off (Off.of_new (hto W h).1 (fun b => ¬ (b < w.heap.size))) fun b h1 h2 => h2 h1).mono fun b hb => Nat.lt_of_lt_of_le hb (hto W h).1.size
  have hEW : ∀ W, Below B w1 W → W.cell? ⟨0, 0, none⟩ = some (errv e0) := fun W h => ((hto W h).1.cell (World.block_lt_of_cell? w _ herr)).trans herr
  have hNW : ∀ W, Below B w1 W → NumK W.heap.size W := fun W h => (hnm.bel (hto W h).1).up (hto W h).1.size
  have HWK : Hid (∀ W, Below B w1 W → Calls Tryz.prog 5 #[] W fun e w' => e = .returned (.bool true) ∧ Below W.heap.size W w') := Lib.hid fun W h => works_any e0 W (hEW W h) (hNW W h)
  have hlg : ∀ (l : List Dc) (lA : Option Addr) (ln lc : Nat), l.length = ln → (∀ d ∈ l, bD d ≤ 1048576) → 6 * l.length ≤ 1048576 → (∀ W, Below B w1 W → DsAt (fun b => b < q) W lA l) → ∀ W, Below B w1 W → Calls Tryz.prog 4 #[.agg #[.int .u8 (k : Int), .string (str nm), .int .i64 n, .slice A kl c], .slice lA ln lc] W fun e w' => (∃ b : Bool, e = .returned (.bool b)) ∧ Below W.heap.size W w' := fun l lA ln lc hl hlb hl6 hlW W h => by
    have := large_any (.node k nm n ks) A c l lA ln lc hl (by omega) W (hTW W h) ((hlW W h).mono (hup W h)) (fun d hd => by have := dc_small (hlb d hd); omega)
    change Calls Tryz.prog 4 #[.agg #[.int .u8 (k : Int), .string (str nm), .int .i64 n, .slice A ks.length c], .slice lA ln lc] W (fun e w' => (∃ b : Bool, e = .returned (.bool b)) ∧ Below W.heap.size W w') at this
    rw [hkl] at this
    exact this
  have HL1 := Lib.hid (hlg ds dsA dn dsc hdn hdb hd6 hDW)
  have htx : ∀ (l : List Dc) (lA : Option Addr) (ln lc : Nat), l.length = ln → ln ≤ 400000 → (∀ d ∈ l, bD d ≤ 1048576) → ∀ W, Below B w1 W → DsAt (fun b => b < W.heap.size) W lA l → Calls Tryz.prog 6 #[.agg #[.int .u8 (k : Int), .string (str nm), .int .i64 n, .slice A kl c], .slice lA ln lc] W fun e w' => e = .returned (.tuple #[.string (str (ansT (resT (bookD l) ln (.node k nm n ks))).1), .int .i64 ((ansT (resT (bookD l) ln (.node k nm n ks))).2 : Int)]) ∧ Below W.heap.size W w' := fun l lA ln lc hl hlx hlb W h hlD => by
    have := Text_any l lA ln lc hl hlx (fun d hd h1 => dok_in (bookD l) (hlD.mem hd).1 (hlb d hd) h1) (.node k nm n ks) A c hnl hsm hnt (fun h => ok_pr _ hok h) (by omega) e0 W (hEW W h) (hNW W h) hlD (hTW W h).1
    change Calls Tryz.prog 6 #[.agg #[.int .u8 (k : Int), .string (str nm), .int .i64 n, .slice A ks.length c], .slice lA ln lc] W _ at this
    rw [hkl] at this
    exact this
  obtain ⟨s0, hs0⟩ : ∃ s, (ansT (resT (bookD ds) dn (.node k nm n ks))).1 = s := ⟨_, rfl⟩
  obtain ⟨z0, hz0⟩ : ∃ z, (ansT (resT (bookD ds) dn (.node k nm n ks))).2 = z := ⟨_, rfl⟩
  have HTX : Hid (∀ W, Below B w1 W → Calls Tryz.prog 6 #[.agg #[.int .u8 (k : Int), .string (str nm), .int .i64 n, .slice A kl c], .slice dsA dn dsc] W fun e w' => e = .returned (.tuple #[.string (str s0), .int .i64 (z0 : Int)]) ∧ Below W.heap.size W w') := Lib.hid fun W h => by
    have := htx ds dsA dn dsc hdn (by omega) hdb W h ((hDW W h).mono (hup W h))
    rw [hs0, hz0] at this
    exact this
  have HNOT : Hid (z0 ≠ 0 → s0 = []) := Lib.hid fun h => by rw [← hs0]; exact ansT_not hz0 h
  have HWHICH : Hid (z0 ≠ 0 → z0 = 13 ∨ z0 = 16) := Lib.hid fun h => ansT_which hz0 h
  obtain ⟨tx, htx0⟩ : ∃ x, tyT (.node k nm n ks) = x := ⟨_, rfl⟩
  have HYES : Hid (z0 = 0 → s0.length ≤ 200 ∧ ∃ r, s0 = tx ++ r ∧ (∀ W, Below B w1 W → Calls Tryz.prog 7 #[.agg #[.int .u8 (k : Int), .string (str nm), .int .i64 n, .slice A kl c]] W fun e w' => e = .returned (.string (str tx)) ∧ Below W.heap.size W w') ∧
      ∃ nn : Nat, (r = [] ↔ nn = 0) ∧ ∀ W, Below B w1 W → Calls Tryz.prog 8 #[.slice none 0 0, .agg #[.int .u8 (k : Int), .string (str nm), .int .i64 n, .slice A kl c], .slice dsA dn dsc] W fun e w' => (∃ A' c', e = .returned (.slice A' nn c')) ∧ Below B w1 w') := Lib.hid fun hz => by
    rw [hz] at hz0
    obtain ⟨h1, h2⟩ := ansT_yes hz0
    rw [hs0] at h1 h2
    obtain ⟨hkp, r, h3, h4⟩ := res_pre h1 h2
    rw [htx0] at h3
    refine ⟨h2, r, h3, fun W h => ?_, (comeL [] (namesT (.node k nm n ks))).length, by rw [h4]; exact List.length_eq_zero_iff.symm, fun W h => ?_⟩
    · have := rty_any (.node k nm n ks) (kept_nv _ hkp) hok A c W (hTW W h).1 htl
      change Calls Tryz.prog 7 #[.agg #[.int .u8 (k : Int), .string (str nm), .int .i64 n, .slice A ks.length c]] W _ at this
      rw [hkl, htx0] at this
      exact this
    · have hin : Ty.At (fun b => b < q) W A ks := by
        have h5 : Ty.At (fun b => b < w.heap.size) w A ks := hT.1
        rw [hq] at h5
        exact h5.bel (hto W h).1
      have := rcome_any ds dsA dn dsc hdn (by omega) (.node k nm n ks) (kept_nv _ hkp) hok (kept_names _ hkp) A c W.heap.size (fun b => b < B) W none 0 0 [] ⟨StO.nil _ _, fun b hb => ⟨by have := (hto W h).2; omega, by intro e; cases e⟩, Nat.le_refl _⟩ (hin.mono fun b hb => by omega) ((hDW W h).mono fun b hb => by omega) (by rw [List.length_nil]; omega)
      change Calls Tryz.prog 8 #[.slice none 0 0, .agg #[.int .u8 (k : Int), .string (str nm), .int .i64 n, .slice A ks.length c], .slice dsA dn dsc] W _ at this
      rw [hkl] at this
      refine this.mono fun e w' ⟨⟨A', n', c', he, hS⟩, ho⟩ => ?_
      obtain ⟨A2, c2, e2, _⟩ := hS.own.shape
      injection e2 with e3 e4 e5
      subst e4
      exact ⟨⟨A', c', he⟩, h.trans (ho.below (hto W h).2 fun b hb => by omega)⟩
  have HTO := Lib.hid hto
  have HW := Lib.hid (And.intro hw1 (And.intro hq (And.intro hn1 hBq)))
  have hdx : dn ≤ 1000000 := by omega
  rw [hkl]
  clear hd6 hdb hok hnl hsm hnt htl hw1 hb1 hB1 hn1 hBq hto hDW hup hTW hEW hNW hlg htx hs0 hz0 hdn herr hnm hT hD hb hkl hq htx0
  go_enter Tryz.func3, Tryz.ntmps3
  go_upto_region 1 with fail
  (try rw [HW.out.1])
  (try rw [HW.out.2.1])
  obtain ⟨x0, x1, x2, x3⟩ := HX.out w1 (Below.refl _ _)
  have HC1 := Lib.hid (HL1.out w1 (Below.refl _ _))
  go_wp2_with fail
  refine HC1.out.mono ?_
  rintro e w2 ⟨⟨b1, rfl⟩, hb2⟩
  have HB2 : Hid (Below B w1 w2) := Lib.hid (by rw [HW.out.2.2.1] at hb2; exact hb2)
  obtain ⟨x0, x1, x2, x3⟩ := HX.out w2 HB2.out
  clear hb2 HC1
  cases b1 with
  | true =>
    have HCW := Lib.hid (HWK.out w2 HB2.out)
    go_wp2_with fail
    refine HCW.out.mono ?_
    rintro e w9 ⟨rfl, hb9⟩
    have HP : Hid (Below w.heap.size w w9) := Lib.hid ((HTO.out w2 HB2.out).1.trans (hb9.mono (HTO.out w2 HB2.out).1.size))
    clear hb9 HCW
    go_wp2_with fail
    go_ret
    exact ⟨rfl, HP.out⟩
  | false =>
    have HC3 := Lib.hid (HTX.out w2 HB2.out)
    go_wp2_with fail
    refine HC3.out.mono ?_
    rintro e w4 ⟨rfl, hb4⟩
    have HB4 : Hid (Below B w1 w4) := Lib.hid (HB2.out.trans (hb4.mono (HTO.out w2 HB2.out).2))
    obtain ⟨x0, x1, x2, x3⟩ := HX.out w4 HB4.out
    clear hb4 HC3
    by_cases hz : z0 = 0
    · have ez : ((z0 : Int) != 0) = false := by rw [hz]; rfl
      obtain ⟨h200, r, hsr, hRT, nn, hnn, hCM⟩ := HYES.out hz
      have HC4 := Lib.hid (hRT w4 HB4.out)
      have HCM := Lib.hid hCM
      have HSR := Lib.hid (And.intro h200 (And.intro hsr hnn))
      clear hz h200 hsr hnn hRT hCM
      go_wp2_with fail
      refine HC4.out.mono ?_
      rintro e w5 ⟨rfl, hb5⟩
      have HB5 : Hid (Below B w1 w5) := Lib.hid (HB4.out.trans (hb5.mono (HTO.out w4 HB4.out).2))
      obtain ⟨x0, x1, x2, x3⟩ := HX.out w5 HB5.out
      clear hb5 HC4 ez
      have hs1 : (str s0).size = s0.length := str_size s0
      have hs2 : (str tx).size = tx.length := str_size tx
      have hlr : s0.length = tx.length + r.length := by rw [HSR.out.2.1, List.length_append]
      have g1 : decide (((str s0).size : Int) ≥ ((str tx).size : Int)) = true := by rw [hs1, hs2]; simp; omega
      have g2 : decide ((str tx).size ≤ (str s0).size) = true := by rw [hs1, hs2]; simp; omega
      have g2' : (str tx).size ≤ (str s0).size := by omega
      have g3 : ((str s0).extract 0 (str tx).size) = str tx := by
        rw [hs2, HSR.out.2.1]
        apply ByteArray.ext
        simp [str]
      have g4 : ((str tx).toList == (str tx).toList) = true := beq_self_eq_true _
      have g5 : decide (((str s0).size : Int) ≤ 200) = true := by rw [hs1]; simp; have := HSR.out.1; omega
      obtain ⟨b5, hb5⟩ : ∃ b, decide (nn = 0) = b := ⟨_, rfl⟩
      have g6 : (((str s0).size : Int) == ((str tx).size : Int)) = b5 := by
        rw [← hb5, hs1, hs2, hlr]
        by_cases h : nn = 0
        · have : r = [] := HSR.out.2.2.2 h
          rw [decide_eq_true h, this]; simp
        · have : r ≠ [] := fun e => h (HSR.out.2.2.1 e)
          have := List.length_pos_iff.2 this
          rw [decide_eq_false h, beq_eq_false_iff_ne]; omega
      have g7 : ((nn : Int) == 0) = b5 := by
        rw [← hb5]
        by_cases h : nn = 0
        · rw [h]; rfl
        · rw [decide_eq_false h, beq_eq_false_iff_ne]; omega
      have HC5 := Lib.hid (HCM.out w5 HB5.out)
      clear hs1 hs2 hlr hb5
      go_wp2_with fail
      refine HC5.out.mono ?_
      rintro e w6 ⟨⟨A', c', rfl⟩, hb6⟩
      have HB6 : Hid (Below B w1 w6) := Lib.hid hb6
      clear hb6 HC5 x0 x1 x2 x3
      have HCW := Lib.hid (HWK.out w6 HB6.out)
      go_wp2_with fail
      refine HCW.out.mono ?_
      rintro e w9 ⟨rfl, hb9⟩
      have HP : Hid (Below w.heap.size w w9) := Lib.hid ((HTO.out w6 HB6.out).1.trans (hb9.mono (HTO.out w6 HB6.out).1.size))
      clear hb9 HCW
      go_wp2_with fail
      go_ret
      exact ⟨rfl, HP.out⟩
    · have ez : ((z0 : Int) != 0) = true := by rw [bne_iff_ne]; omega
      have es : ((str s0).toList == []) = true := by rw [str_toList, HNOT.out hz]; rfl
      have HCW := Lib.hid (HWK.out w4 HB4.out)
      rcases HWHICH.out hz with h13 | h16
      · have e13 : ((z0 : Int) == 13) = true := by rw [h13]; rfl
        clear hz h13
        have HCW := Lib.hid (HWK.out w4 HB4.out)
        go_wp2_with fail
        refine HCW.out.mono ?_
        rintro e w9 ⟨rfl, hb9⟩
        have HP : Hid (Below w.heap.size w w9) := Lib.hid ((HTO.out w4 HB4.out).1.trans (hb9.mono (HTO.out w4 HB4.out).1.size))
        clear hb9 HCW
        go_wp2_with fail
        go_ret
        exact ⟨rfl, HP.out⟩
      · have e13 : ((z0 : Int) == 13) = false := by rw [h16]; rfl
        have e16 : ((z0 : Int) == 16) = true := by rw [h16]; rfl
        clear hz h16
        have HCW := Lib.hid (HWK.out w4 HB4.out)
        go_wp2_with fail
        refine HCW.out.mono ?_
        rintro e w9 ⟨rfl, hb9⟩
        have HP : Hid (Below w.heap.size w w9) := Lib.hid ((HTO.out w4 HB4.out).1.trans (hb9.mono (HTO.out w4 HB4.out).1.size))
        clear hb9 HCW
        go_wp2_with fail
        go_ret
        exact ⟨rfl, HP.out⟩
end Go.Proofs.YtadogebhkldeiaaGreatDoor
