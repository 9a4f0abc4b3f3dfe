/- heap: the document's heap: reach, Collect. -/
import Derived.Test.YtclkkfffecmjnaaDr
import Derived.Test.YtclkkfffecmjnaaWa
namespace Go.Proofs.Ytclkkfffecmjnaa
open Go.RowKit
set_option linter.unusedVariables false
set_option linter.unusedSimpArgs false
theorem run_mkb (n : Nat) (x : Int) (hx : x = n) (hn : n ≤ 200000) (w : World) :
    (Instr.makeSlice 51 (.int .i64 x) (.int .i64 x)).run Try.prog w = .ok (.slice (some ⟨w.heap.size, 0, none⟩) n n) (w.alloc (.cells (rowb (List.replicate n false)) 4)) := by
  subst hx
  obtain ⟨i0, hi, hz0, hz1, hz2⟩ := info_parts Try.infoB
  have h := run_make (P := Try.prog) w 51 4 i0 (.bool false) Try.underlying51 hi hz0 .i64 .i64 n n (by omega) (by omega) (by rw [hz2]; omega) (by omega)
  rw [← made_rowb]
  simpa [hz1, Value.cells] using h
end Go.Proofs.Ytclkkfffecmjnaa
namespace Go.Proofs.Ytclkkfffecmjnaa
open Go.RowKit
set_option linter.unusedVariables false
set_option linter.unusedSimpArgs false
attribute [local go_sem] Oper.semAt_some
set_option maxRecDepth 20000 in
set_option maxHeartbeats 8000000 in
theorem rreach_any {r q cs t : Nat} {R : Nat → Lab} {H : HS} {P : Nat → Prop} (hcs : H.count = cs) (hcm : cs ≤ 100000) (hok : H.Ok t) (hq0 : R q = .no) (hcl : ∀ x ∈ H.L, P x.h → ∀ z ∈ x.o.ws, z.k = 2 → ∀ y, H.obj z.n = some y → P y.h) :
    ∀ (m : Nat) (k : Int) (w : World) (B : List Bool), RX w r R H → Blk w q 4 (rowb B) → B.length = cs + 1 → nF B < m → (∀ j : Nat, B[j]? = some true → P j) → (∀ x, H.obj k = some x → P x.h) →
    Calls Try.prog 70 #[.pointer (some ⟨r, 0, none⟩), .int .i64 k, .slice (some ⟨q, 0, none⟩) (cs + 1) (cs + 1)] w fun e w' => e = .returned (.tuple #[]) ∧ ∃ B', Reached H P k B B' ∧ RX w' r R H ∧ Blk w' q 4 (rowb B') ∧ Off (fun b => b = q) w w' := by
  intro m
  induction m with
  | zero => intro k w B _ _ _ hn; omega
  | succ m ih =>
    intro k w B hr hb hlB hnF hP hPk
    have HG := rhas_rx hr hok k
    have HIH := Lib.hid ih
    have HI := Lib.hid (And.intro hr (And.intro hb (And.intro hlB (And.intro hnF (And.intro hP hPk)))))
    clear ih
    cases hx : H.obj k with
    | none =>
      rw [hx, Option.isSome_none] at HG
      replace HG := Lib.hid HG
      have HX := Lib.hid hx
      clear hr hb hlB hnF hP hPk hx
      go_enter Try.func70, Try.ntmps70
      go_wp2_with fail
      refine HG.out.mono ?_
      rintro e w5 ⟨rfl, rfl⟩
      go_wp2_with fail
      (try simp only [Exit.inBlock, Exit.then]); first | refine bodyPost_ret (results_none rfl _ _ _) rfl ?_ | refine bodyPost_end (results_none rfl _ _ _) rfl ?_
      exact ⟨rfl, B, reached_no HI.out.2.2.2.2.1 (fun x hx => by rw [HX.out] at hx; cases hx), HI.out.1, HI.out.2.1, Off.refl _ _⟩
    | some x =>
      rw [hx, Option.isSome_some] at HG
      replace HG := Lib.hid HG
      obtain ⟨kn, n, qT, c, T, y, rfl, hxk, hlt, hnc, hTn, hm, hs, hy, s1, s2, s3, s4⟩ := hr.at_ hok hx
      obtain ⟨c0, c1, cf⟩ := hm.told
      obtain ⟨_, _, q2, _⟩ := hm.row.told hy
      obtain ⟨hrow, hlab⟩ := hm.words kn y hy
      rw [hTn] at c1
      rw [s1] at q2 hrow
      obtain ⟨gws, hgws⟩ : ∃ gws, x.o.ws = gws := ⟨_, rfl⟩
      rw [hgws] at q2 hrow
      obtain ⟨gm, hgm⟩ : ∃ gm, gws.length = gm := ⟨_, rfl⟩
      rw [hgm] at q2 hrow
      have hgmx : gm ≤ 9223372036854775807 := by have h1 := hrow.le; have h2 := hrow.max; unfold maxLen at h2; omega
      have hAq : ∀ p : Addr, y.A = some p → p.block ≠ q := fun p e e' => by have h3 := hlab p e; rw [e', hq0] at h3; cases h3
      have hrq : r ≠ q := fun e => by have h3 := hm.rg; rw [e, hq0] at h3; cases h3
      have hqTq : qT ≠ q := fun e => by have h3 := hm.rq; rw [e, hq0] at h3; cases h3
      have hltc : kn < cs + 1 := by omega
      obtain ⟨bv, hbv⟩ : ∃ bv, B[kn]? = some bv := ⟨_, List.getElem?_eq_getElem (by omega)⟩
      have q0 : w.cell? ⟨q, kn, none⟩ = some (.bool bv) := by rw [hb.cell, rowb_get hbv]
      have qf := hb.frozen
      have HNC := Lib.hid hnc
      have HXX := Lib.hid (And.intro hx (And.intro hxk (And.intro hgws (And.intro hgm hbv))))
      have HW := Lib.hid (And.intro hm (And.intro hrow (And.intro hAq (And.intro hrq (And.intro hqTq hTn)))))
      obtain ⟨A, hA⟩ : ∃ A, y.A = A := ⟨_, rfl⟩
      rw [hA] at q2
      have HA := Lib.hid hA
      obtain ⟨c1n, hc1n⟩ : ∃ c1n, cs + 1 = c1n := ⟨_, rfl⟩
      rw [hc1n] at hltc ⊢
      have HC1 := Lib.hid hc1n
      clear hr hb hlB hnF hP hPk hx hm hs hy s1 s2 s3 s4 hxk hnc hTn hrow hlab hgws hgm hAq hbv hA hc1n
      cases bv with
      | true =>
        go_enter Try.func70, Try.ntmps70
        go_wp2_with fail
        refine HG.out.mono ?_
        rintro e w5 ⟨rfl, rfl⟩
        go_wp2_with fail
        (try simp only [Exit.inBlock, Exit.then]); first | refine bodyPost_ret (results_none rfl _ _ _) rfl ?_ | refine bodyPost_end (results_none rfl _ _ _) rfl ?_
        exact ⟨rfl, B, reached_no HI.out.2.2.2.2.1 (fun x' hx' => by
          rw [HXX.out.1] at hx'
          cases hx'
          rw [HXX.out.2.1]; exact HXX.out.2.2.2.2), HI.out.1, HI.out.2.1, Off.refl _ _⟩
      | false =>
        have HP1 : Hid (∀ j : Nat, (B.set kn true)[j]? = some true → P j) := Lib.hid fun j hj => by
          by_cases e : j = kn
          · rw [e, ← HXX.out.2.1]; exact HI.out.2.2.2.2.2 x HXX.out.1
          · rw [List.getElem?_set_ne (fun e' => e e'.symm)] at hj
            exact HI.out.2.2.2.2.1 j hj
        have HN1 : Hid (nF (B.set kn true) < m) := Lib.hid (by have := nF_set HXX.out.2.2.2.2; have := HI.out.2.2.2.1; omega)
        go_enter Try.func70, Try.ntmps70
        go_wp2_with fail
        refine HG.out.mono ?_
        rintro e w5 ⟨rfl, rfl⟩
        go_upto_region 2 with fail
        obtain ⟨w7, hw7⟩ : ∃ w7, w.setCell ⟨q, kn, none⟩ (.bool true) = w7 := ⟨_, rfl⟩
        have ho7 : Off (fun b => b = q) w w7 := by rw [← hw7]; exact Off.setc _ _ _ _
        have hX7 : RX w7 r R H := HI.out.1.keep ho7.size fun b hb => ho7.block b (HI.out.1.lt b hb) fun e => by have e : b = q := e; rw [e, hq0] at hb; exact hb rfl
        have hB7 : Blk w7 q 4 (rowb (B.set kn true)) := by rw [← hw7, ← rowb_set]; exact HI.out.2.1.set_ kn _
        have d1 : w7.cell? ⟨r, 1, none⟩ = some (.slice (some ⟨qT, 0, none⟩) n c) := (World.cell?_of_block (a := ⟨r, 1, none⟩) (ho7.block r HW.out.1.head.lt HW.out.2.2.2.1)).trans c1
        have d2 : w7.cell? ⟨qT, kn * 7 + 2, none⟩ = some (.slice A gm y.c) := (World.cell?_of_block (a := ⟨qT, kn * 7 + 2, none⟩) (ho7.block qT HW.out.1.row.lt HW.out.2.2.2.2.1)).trans q2
        have HS7 := Lib.hid (And.intro hX7 (And.intro hB7 ho7))
        rw [hw7]
        clear hw7 ho7 hX7 hB7 q0 qf c0 c1 cf q2 HG
        go_wp2_with fail
        go_loopw [7] (fun iv wr => ∃ (i : Nat) (Bi : List Bool), i ≤ gm ∧ iv = .int .i64 (i : Int) ∧ Hid (Ext H (B.set kn true) Bi ∧ (∀ j : Nat, Bi[j]? = some true → P j) ∧ (∀ r : Nat, r < i → ∀ z, gws[r]? = some z → z.k = 2 → ∀ y, H.obj z.n = some y → Bi[y.h]? = some true) ∧ RX wr r R H ∧ Blk wr q 4 (rowb Bi) ∧ Off (fun b => b = q) w wr)) (fun iv _ => gm - (intOf iv).toNat)
        case atStart => exact ⟨0, B.set kn true, Nat.zero_le _, rfl, Lib.hid ⟨Ext.refl _ _, HP1.out, fun r hr => absurd hr (Nat.not_lt_zero r), HS7.out.1, HS7.out.2.1, HS7.out.2.2⟩⟩
        case round =>
          clear HS7 d1 d2
          obtain ⟨i, Bi, hi, rfl, hJ⟩ := hrel
          by_cases hli : i < gm
          · have hd : decide ((i : Int) < (gm : Int)) = true := by simpa using hli
            obtain ⟨⟨zk, zn⟩, hz⟩ : ∃ z, gws[i]? = some z := ⟨_, List.getElem?_eq_getElem (by rw [HXX.out.2.2.2.1]; exact hli)⟩
            have hoff := hJ.out.2.2.2.2.2
            have hWr : Words wr y.A gws := HW.out.2.1.words.offq hoff HW.out.2.2.1
            rw [HA.out] at hWr
            obtain ⟨bG, offG, rfl, hblt, z0, z1, hzok⟩ := hWr i ⟨zk, zn⟩ hz
            dsimp only at z0 z1
            have d1 : wr.cell? ⟨r, 1, none⟩ = some (.slice (some ⟨qT, 0, none⟩) n c) := (World.cell?_of_block (a := ⟨r, 1, none⟩) (hoff.block r HW.out.1.head.lt HW.out.2.2.2.1)).trans (by have := HW.out.1.told.2.1; rw [HW.out.2.2.2.2.2] at this; exact this)
            have hsame : Hid ((∀ y, H.obj zn = some y → zk = 2 → Bi[y.h]? = some true) → ∀ nq, ∃ (i2 : Nat) (B2 : List Bool), i2 ≤ gm ∧ Value.int .i64 ((i : Int) + 1) = .int .i64 (i2 : Int) ∧ Hid (Ext H (B.set kn true) B2 ∧ (∀ j : Nat, B2[j]? = some true → P j) ∧ (∀ r : Nat, r < i2 → ∀ z, gws[r]? = some z → z.k = 2 → ∀ y, H.obj z.n = some y → B2[y.h]? = some true) ∧ RX (wr.drewN nq) r R H ∧ Blk (wr.drewN nq) q 4 (rowb B2) ∧ Off (fun b => b = q) w (wr.drewN nq))) := Lib.hid fun hno nq =>
              ⟨i + 1, Bi, by omega, by go_num, Lib.hid ⟨hJ.out.1, hJ.out.2.1, fun r hr z hz' hk' y hy => by
                by_cases e : r = i
                · rw [e, hz] at hz'
                  have e2 : (⟨zk, zn⟩ : Wd) = z := Option.some.inj hz'
                  rw [← e2] at hk' hy
                  exact hno y hy hk'
                · exact hJ.out.2.2.1 r (by omega) z hz' hk' y hy, hJ.out.2.2.2.1.below (drewN_below _ _), hJ.out.2.2.2.2.1, hJ.out.2.2.2.2.2.trans (Off.drewN _ _ _)⟩⟩
            by_cases hzk : zk = 2
            · have e1 : ((zk : Int) == 2) = true := by simp; omega
              by_cases hz0 : 0 ≤ zn
              · have e2 : decide (zn ≥ 0) = true := by simpa using hz0
                by_cases hz1 : zn < (n : Int)
                · have e3 : decide (zn < (n : Int)) = true := by simpa using hz1
                  have hzm : (⟨zk, zn⟩ : Wd) ∈ x.o.ws := by rw [HXX.out.2.2.1]; exact List.mem_of_getElem? hz
                  have HC := fun nq => HIH.out zn (wr.drewN nq) Bi (hJ.out.2.2.2.1.below (drewN_below _ _)) hJ.out.2.2.2.2.1 (by rw [hJ.out.1.len, List.length_set]; exact HI.out.2.2.1) (Nat.lt_of_le_of_lt (nF_mono hJ.out.1.len hJ.out.1.mono) HN1.out) hJ.out.2.1 (fun y hy => hcl x (HS.obj_some HXX.out.1).1 (HI.out.2.2.2.2.2 x HXX.out.1) _ hzm hzk y hy)
                  rw [HC1.out] at HC
                  replace HC := Lib.hid HC
                  have HZ := Lib.hid hz
                  clear hz hzk hz0 hz1 hzm hzok hsame hoff hWr
                  go_wp2_with fail
                  go_quiet (fail)
                  go_wp2_with fail
                  refine (HC.out nq).mono ?_
                  rintro e w8 ⟨rfl, B2, hre, hr8, hb8, ho8⟩
                  have HN : Hid (∃ (i2 : Nat) (B2 : List Bool), i2 ≤ gm ∧ Value.int .i64 ((i : Int) + 1) = .int .i64 (i2 : Int) ∧ Hid (Ext H (B.set kn true) B2 ∧ (∀ j : Nat, B2[j]? = some true → P j) ∧ (∀ r : Nat, r < i2 → ∀ z, gws[r]? = some z → z.k = 2 → ∀ y, H.obj z.n = some y → B2[y.h]? = some true) ∧ RX w8 r R H ∧ Blk w8 q 4 (rowb B2) ∧ Off (fun b => b = q) w w8)) := Lib.hid
                    ⟨i + 1, B2, by omega, by go_num, Lib.hid ⟨hJ.out.1.trans hre.ext, hre.sound, fun r hr z hz' hk' y hy => by
                      by_cases e : r = i
                      · rw [e, HZ.out] at hz'
                        have e2 : (⟨zk, zn⟩ : Wd) = z := Option.some.inj hz'
                        rw [← e2] at hy
                        exact hre.done y hy
                      · exact hre.ext.mono _ (hJ.out.2.2.1 r (by omega) z hz' hk' y hy), hr8, hb8, (hJ.out.2.2.2.2.2.trans (Off.drewN _ _ _)).trans ho8⟩⟩
                  clear hre hr8 hb8 ho8 hJ HC z0 z1
                  go_wp2_with fail
                  go_roundw
                  case rel => exact HN.out
                  case measure => simp [intOf]; omega
                · have e3 : decide (zn < (n : Int)) = false := by simpa using hz1
                  have HB := Lib.hid (hsame.out fun y hy _ => by
                    rw [obj_above hok (.inl (by have := HNC.out; omega))] at hy; cases hy)
                  clear hz hzk hz0 hz1 hzok hsame hoff hWr
                  go_wp2_with fail
                  go_quiet (fail)
                  go_wp2_with fail
                  go_roundw
                  case rel => exact HB.out nq
                  case measure => simp [intOf]; omega
              · have e2 : decide (zn ≥ 0) = false := by simpa using hz0
                have HB := Lib.hid (hsame.out fun y hy _ => by
                  rw [obj_above hok (.inr (by omega))] at hy; cases hy)
                clear hz hzk hz0 hzok hsame hoff hWr
                go_wp2_with fail
                go_quiet (fail)
                go_wp2_with fail
                go_roundw
                case rel => exact HB.out nq
                case measure => simp [intOf]; omega
            · have e1 : ((zk : Int) == 2) = false := by simp; omega
              have HB := Lib.hid (hsame.out fun y hy h2 => absurd h2 hzk)
              clear hz hzk hzok hsame hoff hWr
              go_wp2_with fail
              go_quiet (fail)
              go_wp2_with fail
              go_roundw
              case rel => exact HB.out nq
              case measure => simp [intOf]; omega
          · obtain rfl : gm = i := by omega
            have hd : decide ((gm : Int) < (gm : Int)) = false := by simp
            have HJ := Lib.hid hJ.out
            clear hJ
            go_wp2_with fail
            (try simp only [Exit.inBlock, Exit.then]); first | refine bodyPost_ret (results_none rfl _ _ _) rfl ?_ | refine bodyPost_end (results_none rfl _ _ _) rfl ?_
            refine ⟨rfl, Bi, ⟨Ext.mark HXX.out.1 HJ.out.1 ?_, HJ.out.2.1, ?_⟩, HJ.out.2.2.2.1, HJ.out.2.2.2.2.1, HJ.out.2.2.2.2.2⟩
            · intro z hz hk' y hy
              rw [HXX.out.2.2.1] at hz
              obtain ⟨r, hr, e⟩ := List.getElem_of_mem hz
              exact HJ.out.2.2.1 r (by rw [← HXX.out.2.2.2.1]; exact hr) z (List.getElem?_eq_some_iff.2 ⟨hr, e⟩) hk' y hy
            · intro y' hy'
              rw [HXX.out.1] at hy'
              cases hy'
              rw [HXX.out.2.1]
              refine HJ.out.1.mono kn ?_
              have := (List.getElem?_eq_some_iff.1 HXX.out.2.2.2.2).1
              simp [this]
end Go.Proofs.Ytclkkfffecmjnaa
namespace Go.Proofs.Ytclkkfffecmjnaa
open Go.RowKit
set_option linter.unusedVariables false
set_option linter.unusedSimpArgs false
attribute [local go_sem] Oper.semAt_some
section
variable {w w' : World} {r q c lim t : Nat} {R : Nat → Lab} {T : List Tg} {H : HS}
/-- A thing is none any more. -/
def wG (w : World) (q k : Nat) : World := ((((((w.setCell ⟨q, k * 7, none⟩ (.int .u8 0)).setCell ⟨q, k * 7 + 1, none⟩ (.int .i64 0)).setCell ⟨q, k * 7 + 2, none⟩ (.slice none 0 0)).setCell ⟨q, k * 7 + 3, none⟩ (.string ⟨#[]⟩)).setCell ⟨q, k * 7 + 4, none⟩ (.bool false)).setCell ⟨q, k * 7 + 5, none⟩ (.int .i64 0)).setCell ⟨q, k * 7 + 6, none⟩ (.bool false)
theorem wG_off (w : World) (q k : Nat) : Off (fun b => b = q) w (wG w q k) := offS (offS (offS (offS (offS (offS (Off.setc _ _ _ _) _ _ _ rfl) _ _ _ rfl) _ _ _ rfl) _ _ _ rfl) _ _ _ rfl) _ _ _ rfl
theorem RM.clear (h : RM w r q c R lim T) {k : Nat} {x : Tg} (hk : T[k]? = some x) : RM (wG w q k) r q c R lim (T.set k noTg) := by
  have ho := wG_off w q k
  have hrow : RowG (wG w q k) q c (T.set k noTg) := by
    have hkl := (List.getElem?_eq_some_iff.1 hk).1
    have r1 := h.row.put (x' := { x with o := { x.o with k := 0 } }) (j := 0) (v := .int .u8 0) hk (by omega) rfl
    rw [Nat.add_zero] at r1
    have r2 := r1.put (x' := { x with o := { x.o with k := 0, tag := 0 } }) (j := 1) (v := .int .i64 0) (List.getElem?_set_self hkl) (by omega) rfl
    rw [List.set_set] at r2
    have r3 := r2.put (x' := { x with o := { k := 0, tag := 0, ws := [], t := x.o.t }, A := none, c := 0 }) (j := 2) (v := .slice none 0 0) (List.getElem?_set_self hkl) (by omega) rfl
    rw [List.set_set] at r3
    have r4 := r3.put (x' := { x with o := noOb, A := none, c := 0 }) (j := 3) (v := .string ⟨#[]⟩) (List.getElem?_set_self hkl) (by omega) rfl
    rw [List.set_set] at r4
    have r5 := r4.put (x' := { x with o := noOb, A := none, c := 0, is := false }) (j := 4) (v := .bool false) (List.getElem?_set_self hkl) (by omega) rfl
    rw [List.set_set] at r5
    have r6 := r5.put (x' := { x with o := noOb, A := none, c := 0, is := false, oid := 0 }) (j := 5) (v := .int .i64 0) (List.getElem?_set_self hkl) (by omega) rfl
    rw [List.set_set] at r6
    have r7 := r6.put (x' := noTg) (j := 6) (v := .bool false) (List.getElem?_set_self hkl) (by omega) rfl
    rw [List.set_set] at r7
    exact r7
  have hrq : r ≠ q := fun e => by have := h.rg; rw [e, h.rq] at this; cases this
  refine ⟨by rw [List.length_set]; exact h.head.off ho hrq, hrow, fun j y hy => ?_, h.rg, h.rq, fun b hb => Nat.lt_of_lt_of_le (h.lt b hb) ho.size⟩
  by_cases e : j = k
  · subst e
    rw [List.getElem?_set_self (by have := (List.getElem?_eq_some_iff.1 hk).1; exact this)] at hy
    cases hy
    exact ⟨WRow.nil _ _, fun p e => by cases e⟩
  · rw [List.getElem?_set_ne (fun e' => e e'.symm)] at hy
    obtain ⟨h1, h2⟩ := h.words j y hy
    exact ⟨h1.same ho.size fun p e => ho.block _ (h1.blk p e).2.2.2 (fun e' => by have h3 := h2 p e; rw [e', h.rq] at h3; cases h3), h2⟩
theorem wn_zero (H : HS) (B : List Bool) : wn H B 0 = 0 := by unfold wn; rw [low_zero]; rfl
/-- What lies there while it is seen. -/
structure RcI (w wr : World) (r : Nat) (R : Nat → Lab) (H : HS) (zs : List Int) (q : Nat) (B : List Bool) : Prop where
  ext : Ext H (List.replicate (H.count + 1) false) B
  sound : ∀ j : Nat, B[j]? = some true → Reach H (rootC H zs) j
  rx : RX wr r R H
  blk : Blk wr q 4 (rowb B)
  bel : Below w.heap.size w wr
theorem RcI.len {zs : List Int} {B : List Bool} (h : RcI w w' r R H zs q B) : B.length = H.count + 1 := by rw [h.ext.len, List.length_replicate]
theorem RcI.next {w2 : World} {zs : List Int} {B B' : List Bool} {k : Int} (h : RcI w w' r R H zs q B) (hq : w.heap.size ≤ q) (hr : Reached H (Reach H (rootC H zs)) k B B') (hx : RX w2 r R H) (hb : Blk w2 q 4 (rowb B')) (ho : Off (fun b => b = q) w' w2) : RcI w w2 r R H zs q B' :=
  ⟨h.ext.trans hr.ext, hr.sound, hx, hb, h.bel.trans (ho.below h.bel.size fun k e => by have e : k = q := e; omega)⟩
set_option maxRecDepth 20000 in
set_option maxHeartbeats 8000000 in
theorem rcollect_any (h : RX w r R H) (hok : H.Ok t) (hcn : H.count ≤ 100000) (hll : H.L.length ≤ 100000) (A : Option Addr) (len ca : Nat) (zs : List Int) (hlen : zs.length = len) (hl : len ≤ 100000) (hA : Ints w A zs) :
    Calls Try.prog 57 #[.pointer (some ⟨r, 0, none⟩), .slice A len ca] w fun e w' => e = .returned (.int .i64 ((H.L.length - (collectH H zs).L.length : Nat) : Int)) ∧ Stp w w' r R (collectH H zs) := by
  obtain ⟨cs, hcs⟩ : ∃ cs, H.count = cs := ⟨_, rfl⟩
  obtain ⟨n, hn⟩ : ∃ n, cs + 1 = n := ⟨_, rfl⟩
  have hmk := run_mkb n n rfl (by omega) w
  obtain ⟨qs, hqs⟩ : ∃ qs, w.heap.size = qs := ⟨_, rfl⟩
  have hb1 : Below w.heap.size w (w.alloc (.cells (rowb (List.replicate n false)) 4)) := (Below.refl _ _).alloc (Nat.le_refl _) _
  have hRq : R qs = .no := by
    cases hr : R qs with
    | no => rfl
    | _ => have := h.lt qs (by rw [hr]; intro e; cases e); omega
  have hI1 : RcI w (w.alloc (.cells (rowb (List.replicate n false)) 4)) r R H zs qs (List.replicate n false) := ⟨by rw [hcs, hn]; exact Ext.refl _ _, fun j hj => by rw [List.getElem?_replicate] at hj; split at hj <;> simp at hj, h.below hb1, by rw [← hqs]; exact Blk.new _ _ _, hb1⟩
  have hcl : ∀ x ∈ H.L, Reach H (rootC H zs) x.h → ∀ z ∈ x.o.ws, z.k = 2 → ∀ y, H.obj z.n = some y → Reach H (rootC H zs) y.h := fun x hx hr z hz hk y hy => .step hx hr hz hk (HS.obj_some hy).1 (HS.obj_some hy).2
  have HRE : Hid (∀ (k : Int) (W : World) (B : List Bool), RcI w W r R H zs qs B → (∀ x, H.obj k = some x → Reach H (rootC H zs) x.h) →
      Calls Try.prog 70 #[.pointer (some ⟨r, 0, none⟩), .int .i64 k, .slice (some ⟨qs, 0, none⟩) n n] W fun e w' => e = .returned (.tuple #[]) ∧ ∃ B', Reached H (Reach H (rootC H zs)) k B B' ∧ RcI w w' r R H zs qs B') := Lib.hid fun k W B hI hk => by
    have h1 := rreach_any hcs (by omega) hok hRq hcl (nF B + 1) k W B hI.rx hI.blk (by rw [hI.len, hcs]) (Nat.lt_succ_self _) hI.sound hk
    rw [hn] at h1
    refine h1.mono ?_
    rintro e w' ⟨rfl, B', hre, hx, hb, ho⟩
    exact ⟨rfl, B', hre, hI.next (by omega) hre hx hb ho⟩
  have HI1 := Lib.hid hI1
  have HA := Lib.hid (And.intro hA hlen)
  have HX := Lib.hid (And.intro h (And.intro hok (And.intro hcn (And.intro hll (And.intro hcs (And.intro hn (And.intro hqs hRq)))))))
  obtain ⟨q0, cq0, T0, hm0, hs0⟩ := h
  obtain ⟨c0, c1, cf⟩ := hm0.told
  rw [hs0.len, hcs, hn] at c1
  have hnb : n ≤ 100001 := by omega
  rw [hqs] at hmk
  clear hb1 hI1 hcl hA hlen hok hcn hll hcs hn hRq hm0 hs0
  go_enter Try.func57, Try.ntmps57
  go_wp2_with fail
  obtain ⟨w1, hw1⟩ : ∃ w1, w.alloc (.cells (rowb (List.replicate n false)) 4) = w1 := ⟨_, rfl⟩
  rw [hw1]
  rw [hw1] at HI1
  clear hmk c0 c1 cf hqs hw1
  go_loopw [6] (fun iv wr => ∃ (i : Nat) (B : List Bool), i ≤ len ∧ iv = .int .i64 (i : Int) ∧ Hid (RcI w wr r R H zs qs B ∧ ∀ j z, j < i → zs[j]? = some z → ∀ x, H.obj z = some x → B[x.h]? = some true)) (fun iv _ => len - (intOf iv).toNat)
  case atStart => exact ⟨0, _, Nat.zero_le _, rfl, Lib.hid ⟨HI1.out, fun j z h => absurd h (Nat.not_lt_zero j)⟩⟩
  case round =>
    clear HI1
    obtain ⟨i, B, hi, rfl, hJ⟩ := hrel
    by_cases hli : i < len
    · have hd : decide ((i : Int) < (len : Int)) = true := by simpa using hli
      obtain ⟨z, hz⟩ : ∃ z, zs[i]? = some z := ⟨_, List.getElem?_eq_getElem (by rw [HA.out.2]; exact hli)⟩
      have hAr := HA.out.1.below hJ.out.1.bel
      obtain ⟨b, off, rfl, _, z0, _⟩ := hAr i z hz
      have HC := Lib.hid (HRE.out z wr B hJ.out.1 fun x hx => .root (HS.obj_some hx).1 (.inl (by rw [(HS.obj_some hx).2]; exact List.mem_of_getElem? hz)))
      have HZ := Lib.hid hz
      clear hz hAr
      go_wp2_with fail
      refine HC.out.mono ?_
      rintro e w2 ⟨rfl, B', hre, hI⟩
      have HN : Hid (RcI w w2 r R H zs qs B' ∧ ∀ j z, j < i + 1 → zs[j]? = some z → ∀ x, H.obj z = some x → B'[x.h]? = some true) := Lib.hid ⟨hI, fun j z' hj hz' x hx => by
        by_cases e : j = i
        · subst e; rw [HZ.out] at hz'; cases hz'; exact hre.done x hx
        · exact hre.ext.mono _ (hJ.out.2 j z' (by omega) hz' x hx)⟩
      clear hre hI hJ HC z0
      go_wp2_with fail
      go_roundw
      case rel => exact ⟨i + 1, B', by omega, by go_num, HN⟩
      case measure => simp [intOf]; omega
    · obtain rfl : len = i := by omega
      have hd : decide ((len : Int) < (len : Int)) = false := by simp
      have HJ := Lib.hid hJ.out
      have HD1 : Hid (∀ z ∈ zs, ∀ x, H.obj z = some x → B[x.h]? = some true) := Lib.hid fun z hz x hx => by
        obtain ⟨j, hj⟩ := List.getElem?_of_mem hz
        exact hJ.out.2 j z (by have := (List.getElem?_eq_some_iff.1 hj).1; have := HA.out.2; omega) hj x hx
      clear hJ
      go_wp2_with fail
      go_loopw [7] (fun iv wr => ∃ (i : Nat) (B : List Bool), i ≤ n ∧ iv = .int .i64 (i : Int) ∧ Hid (RcI w wr r R H zs qs B ∧ (∀ z ∈ zs, ∀ x, H.obj z = some x → B[x.h]? = some true) ∧ ∀ j : Nat, j < i → ∀ x, H.obj (j : Int) = some x → x.dirty = true → B[x.h]? = some true)) (fun iv _ => n - (intOf iv).toNat)
      case atStart => exact ⟨0, B, Nat.zero_le _, rfl, Lib.hid ⟨HJ.out.1, HD1.out, fun j h => absurd h (Nat.not_lt_zero j)⟩⟩
      case round =>
        clear HJ HD1
        obtain ⟨i, B, hi, rfl, hJ⟩ := hrel
        obtain ⟨q, c, T, hm, hs⟩ := hJ.out.1.rx
        obtain ⟨c0, c1, cf⟩ := hm.told
        have hTn : T.length = n := by rw [hs.len, HX.out.2.2.2.2.1, HX.out.2.2.2.2.2.1]
        rw [hTn] at c1
        by_cases hli : i < n
        · have hd : decide ((i : Int) < (n : Int)) = true := by simpa using hli
          obtain ⟨x, hx⟩ : ∃ x, T[i]? = some x := ⟨_, List.getElem?_eq_getElem (by omega)⟩
          obtain ⟨_, _, _, _, q4, _, q6⟩ := hm.row.told hx
          obtain ⟨_, s2, _, s4⟩ := hs.at_ i x hx
          rw [s2] at q4
          rw [s4] at q6
          obtain ⟨b, hb⟩ : ∃ b, (H.obj (i : Int)).isSome = b := ⟨_, rfl⟩
          obtain ⟨d, hdd⟩ : ∃ d, isD H (i : Int) = d := ⟨_, rfl⟩
          rw [hb] at q4
          rw [hdd] at q6
          have HBD := Lib.hid (And.intro hb hdd)
          clear hm hs hx s2 s4 hb hdd hTn
          cases d with
          | false =>
            have HN : Hid (RcI w wr r R H zs qs B ∧ (∀ z ∈ zs, ∀ x, H.obj z = some x → B[x.h]? = some true) ∧ ∀ j : Nat, j < i + 1 → ∀ x, H.obj (j : Int) = some x → x.dirty = true → B[x.h]? = some true) := Lib.hid ⟨hJ.out.1, hJ.out.2.1, fun j hj x hx hxd => by
              by_cases e : j = i
              · subst e
                have := HBD.out.2
                rw [isD_of hx, hxd] at this
                cases this
              · exact hJ.out.2.2 j (by omega) x hx hxd⟩
            clear hJ
            cases b with
            | false =>
              go_wp2_with fail
              go_roundw
              case rel => exact ⟨i + 1, B, by omega, by go_num, HN⟩
              case measure => simp [intOf]; omega
            | true =>
              go_wp2_with fail
              go_roundw
              case rel => exact ⟨i + 1, B, by omega, by go_num, HN⟩
              case measure => simp [intOf]; omega
          | true =>
            obtain ⟨y, hy⟩ : ∃ y, H.obj (i : Int) = some y := by
              cases ho : H.obj (i : Int) with
              | none => have := HBD.out.2; rw [isD_no ho] at this; cases this
              | some y => exact ⟨y, rfl⟩
            have hbt : b = true := by rw [← HBD.out.1, hy]; rfl
            subst hbt
            have hyd : y.dirty = true := by have := HBD.out.2; rw [isD_of hy] at this; exact this
            have HC := Lib.hid (HRE.out (i : Int) wr B hJ.out.1 fun x hx => by
              rw [hy] at hx
              cases hx
              exact .root (HS.obj_some hy).1 (.inr (nums_mem.2 ⟨y.h, dirtyL_mem.2 ⟨y, (HS.obj_some hy).1, hyd, rfl⟩, rfl⟩)))
            have HY := Lib.hid hy
            clear hy hyd
            go_wp2_with fail
            refine HC.out.mono ?_
            rintro e w2 ⟨rfl, B', hre, hI⟩
            have HN : Hid (RcI w w2 r R H zs qs B' ∧ (∀ z ∈ zs, ∀ x, H.obj z = some x → B'[x.h]? = some true) ∧ ∀ j : Nat, j < i + 1 → ∀ x, H.obj (j : Int) = some x → x.dirty = true → B'[x.h]? = some true) := Lib.hid ⟨hI, fun z hz x hx => hre.ext.mono _ (hJ.out.2.1 z hz x hx), fun j hj x hx hxd => by
              by_cases e : j = i
              · subst e; exact hre.done x hx
              · exact hre.ext.mono _ (hJ.out.2.2 j (by omega) x hx hxd)⟩
            clear hre hI hJ HC q4 q6 c0 c1 cf
            go_wp2_with fail
            go_roundw
            case rel => exact ⟨i + 1, B', by omega, by go_num, HN⟩
            case measure => simp [intOf]; omega
        · obtain rfl : n = i := by omega
          have hd : decide ((n : Int) < (n : Int)) = false := by simp
          have hKeq : cutH H (sn B) = collectH H zs := collectH_eq HX.out.2.1 (seen_iff HX.out.2.1 hJ.out.1.ext hJ.out.1.sound fun z hz x hx => by
            rcases hz with hz | hz
            · exact hJ.out.2.1 z hz x hx
            · obtain ⟨v, hv, rfl⟩ := nums_mem.1 hz
              obtain ⟨y, hy, hyd, rfl⟩ := dirtyL_mem.1 hv
              rw [HS.obj_of HX.out.2.1 hy] at hx
              cases hx
              exact hJ.out.2.2 x.h (by have h1 := (HX.out.2.1.inn x hy).2.1; have h2 := HX.out.2.2.2.2.1; have h3 := HX.out.2.2.2.2.2.1; omega) x (HS.obj_of HX.out.2.1 hy) hyd)
          have hRqs := HX.out.2.2.2.2.2.2.2
          have HK := Lib.hid hKeq
          have HJ := Lib.hid hJ.out.1
          have HM := Lib.hid (And.intro hm (And.intro hs hTn))
          have hqqs : q ≠ qs := fun e => by have := hm.rq; rw [e, hRqs] at this; cases this
          have HQ := Lib.hid (And.intro hqqs hRqs)
          clear hJ hKeq hm hs hTn hqqs hRqs
          go_wp2_with fail
          go_loopw [8, 9] (fun nv iv wx => ∃ (i : Nat) (T' : List Tg), i ≤ n ∧ iv = .int .i64 (i : Int) ∧ nv = .int .i64 ((wn H B i : Nat) : Int) ∧ Hid (RM wx r q c R H.limit T' ∧ T'.length = n ∧ (∀ (j : Nat) (x : Tg), T[j]? = some x → T'[j]? = some (if j < i ∧ x.is = true ∧ sn B j = false then noTg else x)) ∧ Off (fun b => b = q) wr wx)) (fun _ iv _ => n - (intOf iv).toNat)
          case atStart => exact ⟨0, T, Nat.zero_le _, rfl, by rw [wn_zero]; rfl, Lib.hid ⟨HM.out.1, HM.out.2.2, fun j x hx => by rw [hx, if_neg (fun e => absurd e.1 (Nat.not_lt_zero j))], Off.refl _ _⟩⟩
          case round =>
            clear c0 c1 cf
            obtain ⟨i, T', hi, rfl, rfl, hJ⟩ := hrel
            obtain ⟨c0, c1, cf⟩ := hJ.out.1.told
            rw [hJ.out.2.1] at c1
            by_cases hli : i < n
            · have hd : decide ((i : Int) < (n : Int)) = true := by simpa using hli
              obtain ⟨x, hx⟩ : ∃ x, T[i]? = some x := ⟨_, List.getElem?_eq_getElem (by rw [HM.out.2.2]; exact hli)⟩
              have hx' := hJ.out.2.2.1 i x hx
              rw [if_neg (fun e => absurd e.1 (Nat.lt_irrefl i))] at hx'
              obtain ⟨e0, e1, e2, e3, q4, e5, e6⟩ := hJ.out.1.row.told hx'
              have qf := hJ.out.1.row.frozen
              have s2 := (HM.out.2.1.at_ i x hx).2.1
              obtain ⟨b, hb⟩ : ∃ b, x.is = b := ⟨_, rfl⟩
              rw [hb] at q4
              have hB := HJ.out.blk.off hJ.out.2.2.2 (fun e => HQ.out.1 (Eq.symm e))
              obtain ⟨bs, hbs⟩ : ∃ bs, B[i]? = some bs := ⟨_, List.getElem?_eq_getElem (by rw [HJ.out.len, HX.out.2.2.2.2.1, HX.out.2.2.2.2.2.1]; exact hli)⟩
              have b0 : wr.cell? ⟨qs, i, none⟩ = some (.bool bs) := by rw [hB.cell, rowb_get hbs]
              have hsn : sn B i = bs := by unfold sn; rw [hbs]; rfl
              have hsucc := wn_succ HX.out.2.1 B i
              rw [← s2, hb, hsn] at hsucc
              have hwl := wn_le HX.out.2.1 B i
              have hllb := HX.out.2.2.2.1
              have HXX := Lib.hid (And.intro hx (And.intro hx' (And.intro hb hsn)))
              clear hx hx' s2 hb hB hbs hsn
              obtain ⟨wv, hwv⟩ : ∃ wv, wn H B i = wv := ⟨_, rfl⟩
              rw [hwv] at hsucc hwl ⊢
              have hkeep : Hid ((b && !bs) = false → RM wr r q c R H.limit T' ∧ T'.length = n ∧ (∀ (j : Nat) (x : Tg), T[j]? = some x → T'[j]? = some (if j < i + 1 ∧ x.is = true ∧ sn B j = false then noTg else x)) ∧ Off (fun b => b = q) _ wr) := Lib.hid fun hf => ⟨hJ.out.1, hJ.out.2.1, fun j x' hx' => by
                by_cases e : j = i
                · subst e
                  obtain ⟨g1, g2, g3, g4⟩ := HXX.out
                  rw [g1] at hx'
                  cases hx'
                  rw [g2, if_neg]
                  rintro ⟨_, h2, h3⟩
                  rw [g3] at h2
                  rw [g4] at h3
                  rw [h2, h3] at hf
                  cases hf
                · rw [hJ.out.2.2.1 j x' hx']
                  congr 1
                  by_cases h2 : j < i ∧ x'.is = true ∧ sn B j = false
                  · rw [if_pos h2, if_pos ⟨by omega, h2.2⟩]
                  · rw [if_neg h2, if_neg (fun h3 => h2 ⟨by omega, h3.2⟩)], hJ.out.2.2.2⟩
              cases b with
              | false =>
                have HS9 : Hid (wn H B (i + 1) = wv) := Lib.hid (by rw [hsucc]; simp)
                have HN := Lib.hid (hkeep.out (by simp))
                clear hsucc hkeep hJ hwv
                go_wp2_with fail
                go_roundw
                case rel => exact ⟨i + 1, T', by omega, by go_num, by rw [HS9.out], HN⟩
                case measure => simp [intOf]; omega
              | true =>
                cases bs with
                | true =>
                  have HS9 : Hid (wn H B (i + 1) = wv) := Lib.hid (by rw [hsucc]; simp)
                  have HN := Lib.hid (hkeep.out (by simp))
                  clear hsucc hkeep hJ hwv
                  go_wp2_with fail
                  go_roundw
                  case rel => exact ⟨i + 1, T', by omega, by go_num, by rw [HS9.out], HN⟩
                  case measure => simp [intOf]; omega
                | false =>
                  have HS9 : Hid (wn H B (i + 1) = wv + 1) := Lib.hid (by rw [hsucc]; simp)
                  have hm2 := hJ.out.1.clear HXX.out.2.1
                  have HN : Hid (RM (wG wr q i) r q c R H.limit (T'.set i noTg) ∧ (T'.set i noTg).length = n ∧ (∀ (j : Nat) (x : Tg), T[j]? = some x → (T'.set i noTg)[j]? = some (if j < i + 1 ∧ x.is = true ∧ sn B j = false then noTg else x)) ∧ Off (fun b => b = q) _ (wG wr q i)) := Lib.hid ⟨hm2, by rw [List.length_set]; exact hJ.out.2.1, fun j x' hx' => by
                    by_cases e : j = i
                    · subst e
                      obtain ⟨g1, g2, g3, g4⟩ := HXX.out
                      rw [g1] at hx'
                      cases hx'
                      rw [List.getElem?_set_self (by rw [hJ.out.2.1]; exact hli), if_pos ⟨by omega, g3, g4⟩]
                    · rw [List.getElem?_set_ne (fun e' => e e'.symm), hJ.out.2.2.1 j x' hx']
                      congr 1
                      by_cases h2 : j < i ∧ x'.is = true ∧ sn B j = false
                      · rw [if_pos h2, if_pos ⟨by omega, h2.2⟩]
                      · rw [if_neg h2, if_neg (fun h3 => h2 ⟨by omega, h3.2⟩)], hJ.out.2.2.2.trans (wG_off _ _ _)⟩
                  clear hsucc hkeep hJ hwv hm2
                  go_wp2_with fail
                  go_roundw
                  case rel => exact ⟨i + 1, T'.set i noTg, by omega, by go_num, by rw [HS9.out]; go_num, HN⟩
                  case measure => simp [intOf]; omega
            · obtain rfl : n = i := by omega
              have hd : decide ((n : Int) < (n : Int)) = false := by simp
              have hsay := HM.out.2.1.cut HX.out.2.1 (sn B) (T' := T') (by rw [hJ.out.2.1, HM.out.2.2]) fun j x hx => by
                rw [hJ.out.2.2.1 j x hx]
                have hjl : j < n := by rw [← HM.out.2.2]; exact (List.getElem?_eq_some_iff.1 hx).1
                congr 1
                by_cases h2 : x.is = true ∧ sn B j = false
                · rw [if_pos h2, if_pos ⟨hjl, h2⟩]
                · rw [if_neg h2, if_neg (fun h3 => h2 h3.2)]
              have hst : Stp w wr r R (cutH H (sn B)) := Stp.after HJ.out.bel HX.out.1.lt (Stp.of_rm (H' := cutH H (sn B)) hJ.out.1 hsay (hJ.out.2.2.2.mono fun b _ e => by have e : b = q := e; rw [e, HM.out.1.rq]; intro e; cases e))
              have hcnt : wn H B n = H.L.length - (collectH H zs).L.length := by
                rw [← HK.out, ← HX.out.2.2.2.2.2.1, ← HX.out.2.2.2.2.1]
                have h1 := filter_parts (fun x : Ho => sn B x.h) H.L
                unfold wn
                rw [low_all HX.out.2.1]
                show _ = H.L.length - (H.L.filter fun x => sn B x.h).length
                omega
              rw [HK.out] at hst
              rw [hcnt]
              have HST := Lib.hid hst
              clear hsay hst hcnt hJ
              go_wp2_with fail
              go_ret
              exact ⟨rfl, HST.out⟩
end
end Go.Proofs.Ytclkkfffecmjnaa
