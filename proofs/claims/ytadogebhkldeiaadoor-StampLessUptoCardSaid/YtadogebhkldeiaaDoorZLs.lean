/- stamp: StampLess. -/
import Derived.Test.YtadogebhkldeiaaDoorZAp
namespace Go.Proofs.YtadogebhkldeiaaDoor
open Go.RowKit Ty
set_option linter.unusedVariables false
set_option linter.unusedSimpArgs false
attribute [local go_sem] Oper.semAt_some
theorem restD_next {ds more : List Dc} {i : Nat} {d : Dc} (h : more[i]? = some d) : restD ds (more.take (i + 1)) = restD ds (more.take i) ++ (if (!(bookD ds d.nm).isSome || decide (d.k ≠ 1)) = true then [d] else []) := by
  unfold restD
  rw [List.take_add_one, h, List.filter_append]
  congr 1
  show List.filter _ [d] = _
  rw [List.filter_cons]
  rfl
theorem restD_mem {ds more : List Dc} {d : Dc} (h : d ∈ restD ds more) : d ∈ more := (List.mem_filter.1 h).1
theorem restD_len (ds more : List Dc) : (restD ds more).length ≤ more.length := List.length_filter_le _ _
theorem ansT_not {R : Option (List UInt8)} {n : Nat} (h : (ansT R).2 = n) (hn : n ≠ 0) : (ansT R).1 = [] := by
  unfold ansT at h ⊢
  cases R with
  | none => rfl
  | some tx =>
    simp only at h ⊢
    split
    · rfl
    · rename_i h2; rw [if_neg h2] at h; exact absurd h.symm hn
theorem ansT_yes {R : Option (List UInt8)} (h : (ansT R).2 = 0) : R = some (ansT R).1 ∧ (ansT R).1.length ≤ 200 := by
  unfold ansT at h ⊢
  cases R with
  | none => cases h
  | some tx =>
    simp only at h ⊢
    split
    · rename_i h2; rw [if_pos h2] at h; cases h
    · rename_i h2; exact ⟨rfl, by simp only; omega⟩
theorem ansT_some {tx : List UInt8} (h : tx.length ≤ 200) : ansT (some tx) = (tx, 0) := by
  unfold ansT
  simp only
  rw [if_neg (by omega)]
theorem ds_small {ds : List Dc} {N : Nat} (h : (ds.map bD).sum ≤ N) : 6 * ds.length ≤ N ∧ ∀ d ∈ ds, bD d ≤ N :=
  ⟨Nat.le_trans (len_sum bD 6 (fun d => by unfold bD; omega) ds) h, fun d hd => Nat.le_trans (sum_mem bD hd) h⟩
theorem DsAt.mem {X : Nat → Prop} {w : World} {A : Option Addr} {ds : List Dc} (h : DsAt X w A ds) {d : Dc} (hd : d ∈ ds) : d.K X w ∧ d.nm.length ≤ maxLen := by
  obtain ⟨r, hr⟩ := List.getElem?_of_mem hd
  obtain ⟨_, _, _, _, _, _, h1, h2⟩ := h r d hr
  exact ⟨h1, h2⟩
set_option maxRecDepth 100000 in
set_option maxHeartbeats 16000000 in
theorem less_law (t : Ty) (A : Option Addr) (c : Nat) (ds more : List Dc) (dsA : Option Addr) (dn dsc : Nat) (mA : Option Addr) (mn mc : Nat) (hdn : ds.length = dn) (hmn : more.length = mn) (hdA : dsA = none → dsc = 0) (hmA : mA = none → mc = 0) (hdl : dn ≤ dsc) (hml : mn ≤ mc) (e0 : Addr) (w : World)
    (herr : w.cell? ⟨0, 0, none⟩ = some (errv e0)) (hnm : NumK w.heap.size w) (hT : Te.in_ (fun k => k < w.heap.size) w ⟨t, A, c⟩) (hD : DsAt (fun k => k < w.heap.size) w dsA ds) (hM : DsAt (fun k => k < w.heap.size) w mA more)
    (hb : bT t + (ds.map bD).sum + (more.map bD).sum ≤ 1048576) :
    Calls Tryd.prog 3 #[t.val A c, .slice dsA dn dsc, .slice mA mn mc] w fun e w' => e = .returned (.bool true) ∧ Below w.heap.size w w' := by
  obtain ⟨hd6, hdb⟩ := ds_small (ds := ds) (N := 1048576) (by omega)
  obtain ⟨hm6, hmb⟩ := ds_small (ds := more) (N := 1048576) (by omega)
  have hdm6 : 6 * ds.length + 6 * more.length ≤ 1048576 := by
    have h1 := len_sum bD 6 (fun d => by unfold bD; omega) ds
    have h2 := len_sum bD 6 (fun d => by unfold bD; omega) more
    omega
  have hok : okT t = true := te_ok (e := ⟨t, A, c⟩) hT (by show bT t ≤ 5000000; omega)
  have hnl : t.nm.length ≤ maxLen := hT.2.1.2.2
  have hsm := ok_sml t hok
  have hnt : (namesT t).length < 400000 := by have := names_le t; omega
  have htl : (tyT t).length < 4294967295 := by have := ty_len t hok; omega
  obtain ⟨k, nm, n, ks⟩ := t
  obtain ⟨kl, hkl⟩ : ∃ kl, ks.length = kl := ⟨_, rfl⟩
  show Calls Tryd.prog 3 #[.agg #[.int .u8 (k : Int), .string (str nm), .int .i64 n, .slice A ks.length c], .slice dsA dn dsc, .slice mA mn mc] w fun e w' => e = .returned (.bool true) ∧ Below w.heap.size w w'
  obtain ⟨q, hq⟩ : ∃ q, w.heap.size = q := ⟨_, rfl⟩
  obtain ⟨w1, hw1⟩ : ∃ W, w.alloc (.cells #[.int .u8 (k : Int), .string (str nm), .int .i64 n, .slice A kl c] 24) = W := ⟨_, rfl⟩
  have hb1 : Below w.heap.size w w1 := by rw [← hw1]; exact (Below.refl _ _).alloc (Nat.le_refl _) _
  have hB1 : Blk w1 w.heap.size 24 #[.int .u8 (k : Int), .string (str nm), .int .i64 n, .slice A kl c] := by rw [← hw1]; exact Blk.new _ _ _
  have hn1 : w1.heap.size = q + 1 := by rw [← hw1, ← hq]; simp
  obtain ⟨B, hBq⟩ : ∃ B, q + 1 = B := ⟨_, rfl⟩
  rw [hBq] at hn1
  rw [hq] at hB1
  -- what stands as long as nothing below B turns
  have hto : ∀ W, Below B w1 W → Below w.heap.size w W ∧ B ≤ W.heap.size := fun W h => ⟨hb1.trans (h.mono (by omega)), by rw [← hn1]; exact h.size⟩
  have HX : Hid (∀ W, Below B w1 W → W.cell? ⟨q, 0, none⟩ = some (.int .u8 (k : Int)) ∧ W.cell? ⟨q, 1, none⟩ = some (.string (str nm)) ∧ W.cell? ⟨q, 2, none⟩ = some (.int .i64 n) ∧ W.cell? ⟨q, 3, none⟩ = some (.slice A kl c)) := Lib.hid fun W hW => by
    have h : Blk W q 24 #[.int .u8 (k : Int), .string (str nm), .int .i64 n, .slice A kl c] := (hW.block q (by omega)).trans hB1
    exact ⟨h.cell 0, h.cell 1, h.cell 2, h.cell 3⟩
  have hDW : ∀ W, Below B w1 W → DsAt (fun b => b < q) W dsA ds := fun W h => by
    rw [hq] at hD
    exact hD.off (Off.of_new (hto W h).1 (fun b => ¬ (b < q))) fun b h1 h2 => h2 h1
  have hMW : ∀ W, Below B w1 W → DsAt (fun b => b < q) W mA more := fun W h => by
    rw [hq] at hM
    exact hM.off (Off.of_new (hto W h).1 (fun b => ¬ (b < q))) fun b h1 h2 => h2 h1
  have hup : ∀ W, Below B w1 W → ∀ b, b < q → b < W.heap.size := fun W h b hb => by have := (hto W h).2; omega
  have hTW : ∀ W, Below B w1 W → Te.in_ (fun b => b < W.heap.size) W ⟨.node k nm n ks, A, c⟩ := fun W h => (hT.off (Off.of_new (hto W h).1 (fun b => ¬ (b < w.heap.size))) fun b h1 h2 => h2 h1).mono fun b hb => Nat.lt_of_lt_of_le hb (hto W h).1.size
  have hEW : ∀ W, Below B w1 W → W.cell? ⟨0, 0, none⟩ = some (errv e0) := fun W h => ((hto W h).1.cell (World.block_lt_of_cell? w _ herr)).trans herr
  have hNW : ∀ W, Below B w1 W → NumK W.heap.size W := fun W h => (hnm.bel (hto W h).1).up (hto W h).1.size
  have HWK : Hid (∀ W, Below B w1 W → Calls Tryd.prog 7 #[] W fun e w' => e = .returned (.bool true) ∧ Below W.heap.size W w') := Lib.hid fun W h => works_any e0 W (hEW W h) (hNW W h)
  have hlg : ∀ (l : List Dc) (lA : Option Addr) (ln lc : Nat), l.length = ln → (∀ d ∈ l, bD d ≤ 1048576) → 6 * l.length ≤ 1048576 → (∀ W, Below B w1 W → DsAt (fun b => b < q) W lA l) → ∀ W, Below B w1 W → Calls Tryd.prog 6 #[.agg #[.int .u8 (k : Int), .string (str nm), .int .i64 n, .slice A kl c], .slice lA ln lc] W fun e w' => (∃ b : Bool, e = .returned (.bool b)) ∧ Below W.heap.size W w' := fun l lA ln lc hl hlb hl6 hlW W h => by
    have := large_any (.node k nm n ks) A c l lA ln lc hl (by omega) W (hTW W h) ((hlW W h).mono (hup W h)) (fun d hd => by have := dc_small (hlb d hd); omega)
    change Calls Tryd.prog 6 #[.agg #[.int .u8 (k : Int), .string (str nm), .int .i64 n, .slice A ks.length c], .slice lA ln lc] W (fun e w' => (∃ b : Bool, e = .returned (.bool b)) ∧ Below W.heap.size W w') at this
    rw [hkl] at this
    exact this
  have HL1 := Lib.hid (hlg ds dsA dn dsc hdn hdb hd6 hDW)
  have HL2 := Lib.hid (hlg more mA mn mc hmn hmb hm6 hMW)
  have htx : ∀ (l : List Dc) (lA : Option Addr) (ln lc : Nat), l.length = ln → ln ≤ 400000 → (∀ d ∈ l, bD d ≤ 1048576) → ∀ W, Below B w1 W → DsAt (fun b => b < W.heap.size) W lA l → Calls Tryd.prog 8 #[.agg #[.int .u8 (k : Int), .string (str nm), .int .i64 n, .slice A kl c], .slice lA ln lc] W fun e w' => e = .returned (.tuple #[.string (str (ansT (resT (bookD l) ln (.node k nm n ks))).1), .int .i64 ((ansT (resT (bookD l) ln (.node k nm n ks))).2 : Int)]) ∧ Below W.heap.size W w' := fun l lA ln lc hl hlx hlb W h hlD => by
    have := Text_any l lA ln lc hl hlx (fun d hd h1 => dok_in (bookD l) (hlD.mem hd).1 (hlb d hd) h1) (.node k nm n ks) A c hnl hsm hnt (fun h => ok_pr _ hok h) htl e0 W (hEW W h) (hNW W h) hlD (hTW W h).1
    change Calls Tryd.prog 8 #[.agg #[.int .u8 (k : Int), .string (str nm), .int .i64 n, .slice A ks.length c], .slice lA ln lc] W _ at this
    rw [hkl] at this
    exact this
  obtain ⟨s0, hs0⟩ : ∃ s, (ansT (resT (bookD ds) dn (.node k nm n ks))).1 = s := ⟨_, rfl⟩
  obtain ⟨z0, hz0⟩ : ∃ z, (ansT (resT (bookD ds) dn (.node k nm n ks))).2 = z := ⟨_, rfl⟩
  have HTX : Hid (∀ W, Below B w1 W → Calls Tryd.prog 8 #[.agg #[.int .u8 (k : Int), .string (str nm), .int .i64 n, .slice A kl c], .slice dsA dn dsc] W fun e w' => e = .returned (.tuple #[.string (str s0), .int .i64 (z0 : Int)]) ∧ Below W.heap.size W w') := Lib.hid fun W h => by
    have := htx ds dsA dn dsc hdn (by omega) hdb W h ((hDW W h).mono (hup W h))
    rw [hs0, hz0] at this
    exact this
  have HNOT : Hid (z0 ≠ 0 → s0 = []) := Lib.hid fun h => by rw [← hs0]; exact ansT_not hz0 h
  have HALL : Hid (z0 = 0 → ∀ W v, Below B w1 W → DsO B W v (restD ds more ++ ds ++ more) → ∃ A' n' c', v = .slice A' n' c' ∧ Calls Tryd.prog 8 #[.agg #[.int .u8 (k : Int), .string (str nm), .int .i64 n, .slice A kl c], .slice A' n' c'] W fun e w' => e = .returned (.tuple #[.string (str s0), .int .i64 0]) ∧ Below W.heap.size W w') := Lib.hid fun hz W v h hO => by
    obtain ⟨A', c', rfl, hDs⟩ := hO.shape
    rw [hz] at hz0
    obtain ⟨h1, h2⟩ := ansT_yes hz0
    rw [hs0] at h1 h2
    have hl := restD_len ds more
    have hlen : (restD ds more ++ ds ++ more).length = (restD ds more).length + ds.length + more.length := by rw [List.length_append, List.length_append]
    have hr := res_mono (D := bookD ds) (E := bookD (restD ds more ++ ds ++ more)) (fun s d hd => bookD_all hd) (N := dn) (M := (restD ds more ++ ds ++ more).length) (by omega) h1
    have := htx (restD ds more ++ ds ++ more) A' _ c' rfl (by omega) (fun d hd => by
      rcases List.mem_append.1 hd with hd | hd
      · rcases List.mem_append.1 hd with hd | hd
        · exact hmb d (restD_mem hd)
        · exact hdb d hd
      · exact hmb d hd) W h hDs
    rw [hr, ansT_some h2] at this
    exact ⟨A', _, c', rfl, this⟩
  have HDT : Hid (∀ W (s : List UInt8), Below B w1 W → Calls Tryd.prog 9 #[.slice dsA dn dsc, .string (str s)] W fun e w' => (∃ d : Dc, e = .returned (.tuple #[d.val, .bool (bookD ds s).isSome])) ∧ Below W.heap.size W w') := Lib.hid fun W s h => data_any ds dsA dn dsc hdn (by omega) s W ((hDW W h).mono (hup W h))
  have HLEN : Hid (ds.length = dn ∧ more.length = mn ∧ 6 * dn + 6 * mn ≤ 1048576) := Lib.hid ⟨hdn, hmn, by omega⟩
  have HAPP : Hid (∀ W, Below B w1 W → DsAt (fun b => b < q) W dsA ds ∧ DsAt (fun b => b < q) W mA more) := Lib.hid fun W h => ⟨hDW W h, hMW W h⟩
  have HNIL : Hid ((dsA = none → dn = 0 ∧ dsc = 0) ∧ (mA = none → mn = 0 ∧ mc = 0)) := Lib.hid ⟨fun h => by have := hdA h; omega, fun h => by have := hmA h; omega⟩
  have HTO := Lib.hid hto
  have HW := Lib.hid (And.intro hw1 (And.intro hq (And.intro hn1 hBq)))
  have hmx : mn ≤ 1000000 := by omega
  have hdx : dn ≤ 1000000 := by omega
  rw [hkl]
  clear hd6 hdb hm6 hmb hdm6 hok hnl hsm hnt htl hw1 hb1 hB1 hn1 hBq hto hDW hMW hup hTW hEW hNW hlg htx hs0 hz0 hdn hmn hdA hmA hdl hml herr hnm hT hD hM hb hkl hq
  go_enter Tryd.func3, Tryd.ntmps3
  go_upto_region 1 with fail
  (try rw [HW.out.1])
  (try rw [HW.out.2.1])
  obtain ⟨x0, x1, x2, x3⟩ := HX.out w1 (Below.refl _ _)
  have HC1 := Lib.hid (HL1.out w1 (Below.refl _ _))
  go_wp2_with fail
  refine HC1.out.mono ?_
  rintro e w2 ⟨⟨b1, rfl⟩, hb2⟩
  have HB2 : Hid (Below B w1 w2) := Lib.hid (by rw [HW.out.2.2.1] at hb2; exact hb2)
  obtain ⟨x0, x1, x2, x3⟩ := HX.out w2 HB2.out
  clear hb2 HC1
  cases b1 with
  | true =>
    have HCW := Lib.hid (HWK.out w2 HB2.out)
    go_wp2_with fail
    refine HCW.out.mono ?_
    rintro e w9 ⟨rfl, hb9⟩
    have HP : Hid (Below w.heap.size w w9) := Lib.hid ((HTO.out w2 HB2.out).1.trans (hb9.mono (HTO.out w2 HB2.out).1.size))
    clear hb9 HCW
    go_wp2_with fail
    go_ret
    exact ⟨rfl, HP.out⟩
  | false =>
    have HC2 := Lib.hid (HL2.out w2 HB2.out)
    go_wp2_with fail
    refine HC2.out.mono ?_
    rintro e w3 ⟨⟨b2, rfl⟩, hb3⟩
    have HB3 : Hid (Below B w1 w3) := Lib.hid (HB2.out.trans (hb3.mono (HTO.out w2 HB2.out).2))
    obtain ⟨x0, x1, x2, x3⟩ := HX.out w3 HB3.out
    clear hb3 HC2
    cases b2 with
    | true =>
      have HCW := Lib.hid (HWK.out w3 HB3.out)
      go_wp2_with fail
      refine HCW.out.mono ?_
      rintro e w9 ⟨rfl, hb9⟩
      have HP : Hid (Below w.heap.size w w9) := Lib.hid ((HTO.out w3 HB3.out).1.trans (hb9.mono (HTO.out w3 HB3.out).1.size))
      clear hb9 HCW
      go_wp2_with fail
      go_ret
      exact ⟨rfl, HP.out⟩
    | false =>
      have HC3 := Lib.hid (HTX.out w3 HB3.out)
      go_wp2_with fail
      refine HC3.out.mono ?_
      rintro e w4 ⟨rfl, hb4⟩
      have HB4 : Hid (Below B w1 w4) := Lib.hid (HB3.out.trans (hb4.mono (HTO.out w3 HB3.out).2))
      obtain ⟨x0, x1, x2, x3⟩ := HX.out w4 HB4.out
      clear hb4 HC3
      by_cases hz : z0 = 0
      · have ez : ((z0 : Int) != 0) = false := by rw [hz]; rfl
        have HAL := Lib.hid (HALL.out hz)
        clear hz
        go_wp2_with fail
        clear ez
        go_loopw [9, 10] (fun av iv wr => ∃ (i : Nat) (A' : Option Addr) (n' c' : Nat), i ≤ mn ∧ iv = .int .i64 (i : Int) ∧ av = .slice A' n' c' ∧ Hid (DsO B wr (.slice A' n' c') (restD ds (more.take i)) ∧ Below B w1 wr)) (fun _ iv _ => mn - (intOf iv).toNat)
        case atStart => exact ⟨0, none, 0, 0, Nat.zero_le _, rfl, rfl, Lib.hid ⟨DsO.nil (HTO.out w4 HB4.out).2, HB4.out⟩⟩
        case round =>
          obtain ⟨i, A', n', c', hi, rfl, rfl, HJ⟩ := hrel
          clear x0 x1 x2 x3
          by_cases hli : i < mn
          · have hd1 : decide ((i : Int) < (mn : Int)) = true := by simpa using hli
            obtain ⟨d, hdd⟩ : ∃ d, more[i]? = some d := ⟨_, List.getElem?_eq_getElem (by rw [HLEN.out.2.1]; exact hli)⟩
            obtain ⟨b, off, eA, _, hbl, hcl, hKd, hnd⟩ := (HAPP.out wr HJ.out.2).2 i d hdd
            subst eA
            have k0 : wr.cell? ⟨b, off + i * 16, none⟩ = some (.int .u8 (d.k : Int)) := hcl 0 _ rfl
            have k1 : wr.cell? ⟨b, off + i * 16 + 1, none⟩ = some (.string (str d.nm)) := hcl 1 _ rfl
            have k2 : wr.cell? ⟨b, off + i * 16 + 2, none⟩ = some (.slice d.vA d.vs.length d.vc) := hcl 2 _ rfl
            have k3 : wr.cell? ⟨b, off + i * 16 + 3, none⟩ = some (.slice d.cA d.cs.length d.cc) := hcl 3 _ rfl
            have k4 : wr.cell? ⟨b, off + i * 16 + 4, none⟩ = some (.slice d.r.fA d.r.fl d.r.fc) := hcl 4 _ rfl
            have k5 : wr.cell? ⟨b, off + i * 16 + 5, none⟩ = some (.int .u8 d.r.tk) := hcl 5 _ rfl
            have k6 : wr.cell? ⟨b, off + i * 16 + 5 + 1, none⟩ = some (.string d.r.ts) := hcl 6 _ rfl
            have k7 : wr.cell? ⟨b, off + i * 16 + 5 + 2, none⟩ = some (.int .i64 d.r.tn) := hcl 7 _ rfl
            have k8 : wr.cell? ⟨b, off + i * 16 + 5 + 3, none⟩ = some (.slice d.r.tA d.r.tl d.r.tc) := hcl 8 _ rfl
            have k9 : wr.cell? ⟨b, off + i * 16 + 9, none⟩ = some (.int .u8 d.r.ek) := hcl 9 _ rfl
            have ka : wr.cell? ⟨b, off + i * 16 + 9 + 1, none⟩ = some (.string d.r.es) := hcl 10 _ rfl
            have kb : wr.cell? ⟨b, off + i * 16 + 9 + 2, none⟩ = some (.int .i64 d.r.en) := hcl 11 _ rfl
            have kc : wr.cell? ⟨b, off + i * 16 + 9 + 3, none⟩ = some (.string d.r.et) := hcl 12 _ rfl
            have kd : wr.cell? ⟨b, off + i * 16 + 9 + 4, none⟩ = some (.slice d.r.kA d.r.kl d.r.kc) := hcl 13 _ rfl
            have ke : wr.cell? ⟨b, off + i * 16 + 9 + 5, none⟩ = some (.slice d.r.rA d.r.rl d.r.rc) := hcl 14 _ rfl
            have kf : wr.cell? ⟨b, off + i * 16 + 9 + 6, none⟩ = some (.slice d.r.dA d.r.dl d.r.dc) := hcl 15 _ rfl
            obtain ⟨w5, hw5⟩ : ∃ W, wr.alloc (.cells #[.int .u8 (d.k : Int), .string (str d.nm), .slice d.vA d.vs.length d.vc, .slice d.cA d.cs.length d.cc, .slice d.r.fA d.r.fl d.r.fc, .int .u8 d.r.tk, .string d.r.ts, .int .i64 d.r.tn, .slice d.r.tA d.r.tl d.r.tc, .int .u8 d.r.ek, .string d.r.es, .int .i64 d.r.en, .string d.r.et, .slice d.r.kA d.r.kl d.r.kc, .slice d.r.rA d.r.rl d.r.rc, .slice d.r.dA d.r.dl d.r.dc] 39) = W := ⟨_, rfl⟩
            have hb5 : Below wr.heap.size wr w5 := by rw [← hw5]; exact (Below.refl _ _).alloc (Nat.le_refl _) _
            have hB5 : Blk w5 wr.heap.size 39 #[.int .u8 (d.k : Int), .string (str d.nm), .slice d.vA d.vs.length d.vc, .slice d.cA d.cs.length d.cc, .slice d.r.fA d.r.fl d.r.fc, .int .u8 d.r.tk, .string d.r.ts, .int .i64 d.r.tn, .slice d.r.tA d.r.tl d.r.tc, .int .u8 d.r.ek, .string d.r.es, .int .i64 d.r.en, .string d.r.et, .slice d.r.kA d.r.kl d.r.kc, .slice d.r.rA d.r.rl d.r.rc, .slice d.r.dA d.r.dl d.r.dc] := by rw [← hw5]; exact Blk.new _ _ _
            obtain ⟨q5, hq5⟩ : ∃ z, wr.heap.size = z := ⟨_, rfl⟩
            rw [hq5] at hB5
            have hBW := (HTO.out wr HJ.out.2).2
            have hB5w : Below B w1 w5 := HJ.out.2.trans (hb5.mono hBW)
            have HC5 := Lib.hid (HDT.out w5 d.nm hB5w)
            have HNX := Lib.hid (restD_next (ds := ds) hdd)
            have HKD : Hid (d.K (fun b => b < q) wr ∧ d.nm.length ≤ maxLen) := Lib.hid ⟨hKd, hnd⟩
            have H5 := Lib.hid (And.intro hw5 (And.intro hq5 (And.intro hb5 (And.intro hB5 hB5w))))
            clear hdd hbl hcl hKd hnd hw5 hb5 hq5 hBW hB5w
            go_upto_region 11 with fail
            (try rw [H5.out.1])
            (try rw [H5.out.2.1])
            clear k0 k1 k2 k3 k4 k5 k6 k7 k8 k9 ka kb kc kd ke kf
            have y1 : w5.cell? ⟨q5, 1, none⟩ = some (.string (str d.nm)) := hB5.cell 1
            go_wp2_with fail
            refine HC5.out.mono ?_
            rintro e w6 ⟨⟨d2, rfl⟩, hb6⟩
            have ev : d2.val = .agg #[.int .u8 (d2.k : Int), .string (str d2.nm), .slice d2.vA d2.vs.length d2.vc, .slice d2.cA d2.cs.length d2.cc, .slice d2.r.fA d2.r.fl d2.r.fc, .int .u8 d2.r.tk, .string d2.r.ts, .int .i64 d2.r.tn, .slice d2.r.tA d2.r.tl d2.r.tc, .int .u8 d2.r.ek, .string d2.r.es, .int .i64 d2.r.en, .string d2.r.et, .slice d2.r.kA d2.r.kl d2.r.kc, .slice d2.r.rA d2.r.rl d2.r.rc, .slice d2.r.dA d2.r.dl d2.r.dc] := rfl
            rw [ev]
            clear ev
            obtain ⟨w7, hw7⟩ : ∃ W, w6.alloc (.cells #[.int .u8 (d2.k : Int), .string (str d2.nm), .slice d2.vA d2.vs.length d2.vc, .slice d2.cA d2.cs.length d2.cc, .slice d2.r.fA d2.r.fl d2.r.fc, .int .u8 d2.r.tk, .string d2.r.ts, .int .i64 d2.r.tn, .slice d2.r.tA d2.r.tl d2.r.tc, .int .u8 d2.r.ek, .string d2.r.es, .int .i64 d2.r.en, .string d2.r.et, .slice d2.r.kA d2.r.kl d2.r.kc, .slice d2.r.rA d2.r.rl d2.r.rc, .slice d2.r.dA d2.r.dl d2.r.dc] 39) = W := ⟨_, rfl⟩
            have hb7 : Below w6.heap.size w6 w7 := by rw [← hw7]; exact (Below.refl _ _).alloc (Nat.le_refl _) _
            have hb57 : Below w5.heap.size w5 w7 := hb6.trans (hb7.mono hb6.size)
            have hB7 : Blk w7 q5 39 #[.int .u8 (d.k : Int), .string (str d.nm), .slice d.vA d.vs.length d.vc, .slice d.cA d.cs.length d.cc, .slice d.r.fA d.r.fl d.r.fc, .int .u8 d.r.tk, .string d.r.ts, .int .i64 d.r.tn, .slice d.r.tA d.r.tl d.r.tc, .int .u8 d.r.ek, .string d.r.es, .int .i64 d.r.en, .string d.r.et, .slice d.r.kA d.r.kl d.r.kc, .slice d.r.rA d.r.rl d.r.rc, .slice d.r.dA d.r.dl d.r.dc] := hB5.below hb57 hB5.lt
            have hb07 : Below wr.heap.size wr w7 := H5.out.2.2.1.trans (hb57.mono H5.out.2.2.1.size)
            have HB7 : Hid (Below B w1 w7 ∧ Below wr.heap.size wr w7) := Lib.hid ⟨HJ.out.2.trans (hb07.mono (HTO.out wr HJ.out.2).2), hb07⟩
            have hy0 : w7.cell? ⟨q5, 0, none⟩ = some (.int .u8 (d.k : Int)) := hB7.cell 0
            have HBK := Lib.hid hB7
            have HW7 := Lib.hid hw7
            clear hw7 hb7 hb57 hB7 hb07 hb6 hB5 y1 HC5
            go_upto_region 12 with fail
            (try rw [HW7.out])
            clear HW7
            by_cases hcd : (!(bookD ds d.nm).isSome || decide (d.k ≠ 1)) = true
            · -- it comes ahead
              have hB7 := HBK.out
              have z0 : w7.cell? ⟨q5, 0, none⟩ = some (.int .u8 (d.k : Int)) := hB7.cell 0
              have z1 : w7.cell? ⟨q5, 1, none⟩ = some (.string (str d.nm)) := hB7.cell 1
              have z2 : w7.cell? ⟨q5, 2, none⟩ = some (.slice d.vA d.vs.length d.vc) := hB7.cell 2
              have z3 : w7.cell? ⟨q5, 3, none⟩ = some (.slice d.cA d.cs.length d.cc) := hB7.cell 3
              have z4 : w7.cell? ⟨q5, 4, none⟩ = some (.slice d.r.fA d.r.fl d.r.fc) := hB7.cell 4
              have z5 : w7.cell? ⟨q5, 5, none⟩ = some (.int .u8 d.r.tk) := hB7.cell 5
              have z6 : w7.cell? ⟨q5, 6, none⟩ = some (.string d.r.ts) := hB7.cell 6
              have z7 : w7.cell? ⟨q5, 7, none⟩ = some (.int .i64 d.r.tn) := hB7.cell 7
              have z8 : w7.cell? ⟨q5, 8, none⟩ = some (.slice d.r.tA d.r.tl d.r.tc) := hB7.cell 8
              have z9 : w7.cell? ⟨q5, 9, none⟩ = some (.int .u8 d.r.ek) := hB7.cell 9
              have za : w7.cell? ⟨q5, 10, none⟩ = some (.string d.r.es) := hB7.cell 10
              have zb : w7.cell? ⟨q5, 11, none⟩ = some (.int .i64 d.r.en) := hB7.cell 11
              have zc : w7.cell? ⟨q5, 12, none⟩ = some (.string d.r.et) := hB7.cell 12
              have zd : w7.cell? ⟨q5, 13, none⟩ = some (.slice d.r.kA d.r.kl d.r.kc) := hB7.cell 13
              have ze : w7.cell? ⟨q5, 14, none⟩ = some (.slice d.r.rA d.r.rl d.r.rc) := hB7.cell 14
              have zf : w7.cell? ⟨q5, 15, none⟩ = some (.slice d.r.dA d.r.dl d.r.dc) := hB7.cell 15
              obtain ⟨w8, hal⟩ : ∃ W, w7.alloc (.cells #[.int .u8 (d.k : Int), .string (str d.nm), .slice d.vA d.vs.length d.vc, .slice d.cA d.cs.length d.cc, .slice d.r.fA d.r.fl d.r.fc, .int .u8 d.r.tk, .string d.r.ts, .int .i64 d.r.tn, .slice d.r.tA d.r.tl d.r.tc, .int .u8 d.r.ek, .string d.r.es, .int .i64 d.r.en, .string d.r.et, .slice d.r.kA d.r.kl d.r.kc, .slice d.r.rA d.r.rl d.r.rc, .slice d.r.dA d.r.dl d.r.dc] 39) = W := ⟨_, rfl⟩
              have hb8 : Below w7.heap.size w7 w8 := by rw [← hal]; exact (Below.refl _ _).alloc (Nat.le_refl _) _
              have hB8 : Blk w8 w7.heap.size 39 #[.int .u8 (d.k : Int), .string (str d.nm), .slice d.vA d.vs.length d.vc, .slice d.cA d.cs.length d.cc, .slice d.r.fA d.r.fl d.r.fc, .int .u8 d.r.tk, .string d.r.ts, .int .i64 d.r.tn, .slice d.r.tA d.r.tl d.r.tc, .int .u8 d.r.ek, .string d.r.es, .int .i64 d.r.en, .string d.r.et, .slice d.r.kA d.r.kl d.r.kc, .slice d.r.rA d.r.rl d.r.rc, .slice d.r.dA d.r.dl d.r.dc] := by rw [← hal]; exact Blk.new _ _ _
              obtain ⟨q8, hq8⟩ : ∃ z, w7.heap.size = z := ⟨_, rfl⟩
              rw [hq8] at hB8
              have hb08 : Below wr.heap.size wr w8 := HB7.out.2.trans (hb8.mono HB7.out.2.size)
              have hO8 := HJ.out.1.below hb08
              have hrl := restD_len ds (more.take i)
              have hrl2 : (restD ds (more.take i)).length ≤ 1000000 - 2 := by
                have h1 := List.length_take_le i more
                have h2 := HLEN.out.2.2
                have h3 : (more.take i).length ≤ i := List.length_take_le i more
                omega
              obtain ⟨v', w9, hrun, hO9, hb9⟩ := hO8.app (A := some ⟨q8, 0, none⟩) (m := 1) (c := 1) (fs := [d]) rfl (fun h => by cases h) (fun a ha j u hj => by
                cases ha
                rw [add_off, Nat.zero_add, hB8.cell, List.getElem?_toArray]
                have e : flatZ [d] = d.cells := by unfold flatZ; simp
                rw [e] at hj
                exact hj) (fun x hx => by
                rw [List.mem_singleton.1 hx]
                exact ⟨(HKD.out.1.off (Off.of_new hb08 (fun k => ¬ (k < wr.heap.size))) fun b h1 h2 => h2 (by have := (HTO.out wr HJ.out.2).2; have := HW.out.2.2.2; omega)).mono fun b h => by have := HW.out.2.2.2; omega, HKD.out.2⟩) (by omega)
              obtain ⟨A9, c9, rfl, _⟩ := hO9.shape
              obtain ⟨n9, hn9⟩ : ∃ z, (restD ds (more.take i) ++ [d]).length = z := ⟨_, rfl⟩
              rw [hn9] at hrun hO9
              have HN : Hid (DsO B w9 (.slice A9 n9 c9) (restD ds (more.take (i + 1))) ∧ Below B w1 w9) := Lib.hid ⟨by rw [HNX.out, if_pos hcd]; exact hO9, (HB7.out.1.trans (hb8.mono (HTO.out w7 HB7.out.1).2)).trans hb9⟩
              clear hb8 hB8 hb08 hO8 hrl hrl2 hO9 hb9 hB7 hn9
              by_cases hk1 : d.k = 1
              · have ek : ((d.k : Int) == 1) = true := by rw [hk1]; rfl
                have eb : (bookD ds d.nm).isSome = false := by
                  rw [decide_eq_false (by omega), Bool.or_false] at hcd
                  simpa using hcd
                clear hk1 hcd
                rw [eb]
                go_upto_region 9 with (at_builtin; refine wpList_app rfl _ _ 25 rfl _ _ _ _ rfl rfl hrun ?_)
                go_wp2_with fail
                go_roundw
                case rel => exact ⟨i + 1, A9, n9, c9, by omega, by go_num, rfl, HN⟩
                case measure => simp [intOf]; omega
              · have ek : ((d.k : Int) == 1) = false := by rw [beq_eq_false_iff_ne]; omega
                clear hk1 hcd
                cases eb : (bookD ds d.nm).isSome
                all_goals
                  go_upto_region 9 with (at_builtin; refine wpList_app rfl _ _ 25 rfl _ _ _ _ rfl rfl hrun ?_)
                  go_wp2_with fail
                  go_roundw
                  case rel => exact ⟨i + 1, A9, n9, c9, by omega, by go_num, rfl, HN⟩
                  case measure => simp [intOf]; omega
            · -- it does not
              have hk1 : d.k = 1 := by
                by_cases h : d.k = 1
                · exact h
                · rw [decide_eq_true h, Bool.or_true] at hcd; exact absurd rfl hcd
              have ek : ((d.k : Int) == 1) = true := by rw [hk1]; rfl
              have eb : (bookD ds d.nm).isSome = true := by
                cases h : (bookD ds d.nm).isSome with
                | true => rfl
                | false => rw [h] at hcd; exact absurd rfl hcd
              have HN : Hid (DsO B w7 (.slice A' n' c') (restD ds (more.take (i + 1))) ∧ Below B w1 w7) := Lib.hid ⟨by rw [HNX.out, if_neg hcd, List.append_nil]; exact HJ.out.1.below HB7.out.2, HB7.out.1⟩
              clear hk1 hcd
              rw [eb]
              go_wp2_with fail
              go_roundw
              case rel => exact ⟨i + 1, A', n', c', by omega, by go_num, rfl, HN⟩
              case measure => simp [intOf]; omega
          · obtain rfl : mn = i := by omega
            have hd1 : decide ((mn : Int) < (mn : Int)) = false := by simp
            have hfull : more.take mn = more := List.take_of_length_le (by rw [HLEN.out.2.1]; exact Nat.le_refl _)
            have hOr := HJ.out.1
            rw [hfull] at hOr
            have hrl := restD_len ds more
            have hlen := HLEN.out
            have hup : ∀ b, b < q → b < B := fun b h => by have := HW.out.2.2.2; omega
            obtain ⟨v6, w6, hrun1, hO6, hb6⟩ := hOr.app (A := dsA) (m := dn) (c := dsc) (fs := ds) hlen.1 HNIL.out.1 (fun a ha j u hj => (HAPP.out wr HJ.out.2).1.flat a ha j u hj) (fun d hd => by
              have h := (HAPP.out wr HJ.out.2).1.mem hd
              exact ⟨h.1.mono hup, h.2⟩) (by omega)
            obtain ⟨A6, c6, rfl, _⟩ := hO6.shape
            obtain ⟨n6, hn6⟩ : ∃ z, (restD ds more ++ ds).length = z := ⟨_, rfl⟩
            rw [hn6] at hrun1 hO6
            have hB6 : Below B w1 w6 := HJ.out.2.trans hb6
            obtain ⟨v7, w7, hrun2, hO7, hb7⟩ := hO6.app (A := mA) (m := mn) (c := mc) (fs := more) hlen.2.1 HNIL.out.2 (fun a ha j u hj => (HAPP.out w6 hB6).2.flat a ha j u hj) (fun d hd => by
              have h := (HAPP.out w6 hB6).2.mem hd
              exact ⟨h.1.mono hup, h.2⟩) (by rw [List.length_append]; omega)
            have hB7 : Below B w1 w7 := hB6.trans hb7
            obtain ⟨A7, n7, c7, rfl, hC7⟩ := HAL.out w7 v7 hB7 hO7
            obtain ⟨x0, x1, x2, x3⟩ := HX.out w7 hB7
            have HC7 := Lib.hid hC7
            have HB7 := Lib.hid hB7
            have HR1 := Lib.hid hrun1
            have HR2 := Lib.hid hrun2
            clear hfull hOr hrl hlen hup hO6 hb6 hn6 hB6 hO7 hb7 hC7 hB7 hrun1 hrun2
            go_upto_region 15 with (at_builtin; refine wpList_app rfl _ _ 25 rfl _ _ _ _ rfl rfl HR1.out ?_)
            go_upto_region 16 with (at_builtin; refine wpList_app rfl _ _ 25 rfl _ _ _ _ rfl rfl HR2.out ?_)
            go_wp2_with fail
            refine HC7.out.mono ?_
            rintro e w8 ⟨rfl, hb8⟩
            have HB8 : Hid (Below B w1 w8) := Lib.hid (HB7.out.trans (hb8.mono (HTO.out w7 HB7.out).2))
            have es : ((str s0).toList == (str s0).toList) = true := beq_self_eq_true _
            clear hb8 HC7 x0 x1 x2 x3
            have HCW := Lib.hid (HWK.out w8 HB8.out)
            go_wp2_with fail
            refine HCW.out.mono ?_
            rintro e w9 ⟨rfl, hb9⟩
            have HP : Hid (Below w.heap.size w w9) := Lib.hid ((HTO.out w8 HB8.out).1.trans (hb9.mono (HTO.out w8 HB8.out).1.size))
            clear hb9 HCW
            go_wp2_with fail
            go_ret
            exact ⟨rfl, HP.out⟩
      · have ez : ((z0 : Int) != 0) = true := by rw [bne_iff_ne]; omega
        have es : ((str s0).toList == []) = true := by rw [str_toList, HNOT.out hz]; rfl
        clear hz
        have HCW := Lib.hid (HWK.out w4 HB4.out)
        go_wp2_with fail
        refine HCW.out.mono ?_
        rintro e w9 ⟨rfl, hb9⟩
        have HP : Hid (Below w.heap.size w w9) := Lib.hid ((HTO.out w4 HB4.out).1.trans (hb9.mono (HTO.out w4 HB4.out).1.size))
        clear hb9 HCW
        go_wp2_with fail
        go_ret
        exact ⟨rfl, HP.out⟩
end Go.Proofs.YtadogebhkldeiaaDoor
