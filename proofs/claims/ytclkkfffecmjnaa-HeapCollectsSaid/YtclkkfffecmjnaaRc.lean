/- heap: reach. -/
import Derived.Test.YtclkkfffecmjnaaDr
namespace Go.Proofs.Ytclkkfffecmjnaa
open Go.RowKit
set_option linter.unusedVariables false
set_option linter.unusedSimpArgs false
attribute [local go_sem] Oper.semAt_some
/-- More is seen; and what is new leads to nothing that is not seen. -/
structure Ext (H : HS) (B B' : List Bool) : Prop where
  len : B'.length = B.length
  mono : ∀ j : Nat, B[j]? = some true → B'[j]? = some true
  clos : ∀ j : Nat, B'[j]? = some true → B[j]? ≠ some true → ∃ x, H.obj (j : Int) = some x ∧ ∀ z ∈ x.o.ws, z.k = 2 → ∀ y, H.obj z.n = some y → B'[y.h]? = some true
theorem Ext.refl (H : HS) (B : List Bool) : Ext H B B := ⟨rfl, fun _ h => h, fun j h hn => absurd h hn⟩
theorem Ext.trans {H : HS} {B B1 B2 : List Bool} (h : Ext H B B1) (h2 : Ext H B1 B2) : Ext H B B2 :=
  ⟨h2.len.trans h.len, fun j hj => h2.mono j (h.mono j hj), fun j hj hn => by
    by_cases h1 : B1[j]? = some true
    · obtain ⟨x, hx, hz⟩ := h.clos j h1 hn
      exact ⟨x, hx, fun z hzm hk y hy => h2.mono _ (hz z hzm hk y hy)⟩
    · exact h2.clos j hj h1⟩
/-- How many are not seen. -/
def nF (B : List Bool) : Nat := B.countP fun b => !b
theorem nF_set : ∀ {B : List Bool} {k : Nat}, B[k]? = some false → nF (B.set k true) + 1 = nF B
  | [], _, h => by simp at h
  | b :: B, 0, h => by
    have : b = false := by simpa using h
    subst this
    unfold nF
    simp
  | b :: B, k + 1, h => by
    have ih := nF_set (B := B) (k := k) (by simpa using h)
    unfold nF at ih ⊢
    rw [List.set_cons_succ, List.countP_cons, List.countP_cons]
    omega
theorem nF_mono : ∀ {B B' : List Bool}, B'.length = B.length → (∀ j : Nat, B[j]? = some true → B'[j]? = some true) → nF B' ≤ nF B
  | [], B', hl, _ => by
    have : B' = [] := List.length_eq_zero_iff.1 hl
    subst this
    exact Nat.le_refl _
  | b :: B, [], hl, _ => by simp at hl
  | b :: B, b' :: B', hl, h => by
    have ih := nF_mono (B := B) (B' := B') (by simpa using hl) fun j hj => by simpa using h (j + 1) (by simpa using hj)
    have h0 := h 0
    unfold nF at ih ⊢
    rw [List.countP_cons, List.countP_cons]
    cases b <;> cases b' <;> simp at h0 ⊢ <;> omega
/-- One is seen, and then all to which it leads. -/
theorem Ext.mark {H : HS} {B B' : List Bool} {k : Nat} {x : Ho} (hx : H.obj (k : Int) = some x) (h : Ext H (B.set k true) B') (hz : ∀ z ∈ x.o.ws, z.k = 2 → ∀ y, H.obj z.n = some y → B'[y.h]? = some true) : Ext H B B' :=
  ⟨by rw [h.len, List.length_set], fun j hj => h.mono j (by
    rw [List.getElem?_set]
    split
    · next e => subst e; have := (List.getElem?_eq_some_iff.1 hj).1; simp [this]
    · exact hj), fun j hj hn => by
    by_cases e : j = k
    · subst e; exact ⟨x, hx, hz⟩
    · exact h.clos j hj (by rw [List.getElem?_set_ne (fun e' => e e'.symm)]; exact hn)⟩
/-- Words that lie in memory stay, where only another block is turned. -/
theorem Words.offq {w w' : World} {A : Option Addr} {ws : List Wd} {q : Nat} (h : Words w A ws) (ho : Off (fun b => b = q) w w') (hq : ∀ p : Addr, A = some p → p.block ≠ q) : Words w' A ws := h.same ho.size fun p e hl => ho.block _ hl (hq p e)
/-- What reach answers. -/
structure Reached (H : HS) (P : Nat → Prop) (k : Int) (B B' : List Bool) : Prop where
  ext : Ext H B B'
  sound : ∀ j : Nat, B'[j]? = some true → P j
  done : ∀ x, H.obj k = some x → B'[x.h]? = some true
theorem reached_no {H : HS} {P : Nat → Prop} {k : Int} {B : List Bool} (hP : ∀ j : Nat, B[j]? = some true → P j) (h : ∀ x, H.obj k = some x → B[x.h]? = some true) : Reached H P k B B := ⟨Ext.refl H B, hP, h⟩
set_option maxRecDepth 20000 in
set_option maxHeartbeats 8000000 in
theorem reachlaw_any {w0 : World} {X : Nat → Prop} {g t q cs : Nat} {H : HS} {P : Nat → Prop} (hcs : H.count = cs) (hcm : cs ≤ 100000) (hX : X q) (hq0 : w0.heap.size ≤ q) (hcl : ∀ x ∈ H.L, P x.h → ∀ z ∈ x.o.ws, z.k = 2 → ∀ y, H.obj z.n = some y → P y.h) :
    ∀ (m : Nat) (k : Int) (w : World) (B : List Bool), (Lit.int .i64 k).wf = true → HR w0 w X g t H → Blk w q 4 (rowb B) → B.length = cs + 1 → nF B < m → (∀ j : Nat, B[j]? = some true → P j) → (∀ x, H.obj k = some x → P x.h) →
    Calls Try.prog 29 #[.pointer (some ⟨g, 0, none⟩), .int .i64 k, .slice (some ⟨q, 0, none⟩) (cs + 1) (cs + 1)] w fun e w' => e = .returned (.tuple #[]) ∧ ∃ B', Reached H P k B B' ∧ HR w0 w' X g t H ∧ Blk w' q 4 (rowb B') ∧ Off (fun b => b = q) w w' := by
  intro m
  induction m with
  | zero => intro k w B _ _ _ _ hn; omega
  | succ m ih =>
    intro k w B hk hr hb hlB hnF hP hPk
    have hkr := wf_i64 hk
    have HG := Lib.hid (get_hr hr k hk)
    have HIH := Lib.hid ih
    have HI := Lib.hid (And.intro hr (And.intro hb (And.intro hlB (And.intro hnF (And.intro hP hPk)))))
    clear ih hr hb hlB hnF hP hPk
    go_enter Try.func29, Try.ntmps29
    go_wp2_with fail
    refine HG.out.mono ?_
    rintro e w5 ⟨v, G, gc, rfl, hob, hb5⟩
    obtain ⟨rfl, hrg⟩ := hob
    obtain ⟨⟨gk, gtag, gws, gt⟩, hgo⟩ : ∃ go, getO H k = go := ⟨_, rfl⟩
    rw [hgo] at hrg ⊢
    dsimp only at hrg ⊢
    obtain ⟨gm, hgm⟩ : ∃ gm, gws.length = gm := ⟨_, rfl⟩
    rw [hgm] at hrg ⊢
    have HGM := Lib.hid (And.intro hgo hgm)
    obtain ⟨ob, hobs⟩ : ∃ ob, (H.obj k).isSome = ob := ⟨_, rfl⟩
    rw [hobs]
    have HOBS := Lib.hid hobs
    obtain ⟨w6, hw6⟩ : ∃ w6, w5.alloc (.cells #[.int .u8 (gk : Int), .int .i64 gtag, .slice G gm gc, .string (str gt)] 35) = w6 := ⟨_, rfl⟩
    have hb6 : Below w5.heap.size w5 w6 := by rw [← hw6]; exact (Below.refl _ _).alloc (Nat.le_refl _) _
    have hB6 : Blk w6 w5.heap.size 35 #[.int .u8 (gk : Int), .int .i64 gtag, .slice G gm gc, .string (str gt)] := by rw [← hw6]; exact Blk.new _ _ _
    have hbb := hb5.trans (hb6.mono hb5.size)
    have hr6 := (HI.out.1.below hbb).1
    have hq6 := HI.out.2.1.below hbb HI.out.2.1.lt
    have hqlt := HI.out.2.1.lt
    have hG6 := hrg.words.below hb6
    have hGq : ∀ p : Addr, G = some p → p.block ≠ q := fun p e => by have := (hrg.blk p e).2.2.1; omega
    have hGb : ∀ p : Addr, G = some p → p.block ≠ w5.heap.size := fun p e => by have := (hrg.blk p e).2.2.2; omega
    have hgmx : gm ≤ 9223372036854775807 := by have h1 := hrg.le; have h2 := hrg.max; unfold maxLen at h2; omega
    have hbo : w5.heap.size ≠ q := by have := hb5.size; omega
    have HS6 := Lib.hid (And.intro hr6 (And.intro hq6 (And.intro hG6 (And.intro hB6 (And.intro hGq (And.intro hGb (And.intro hbo hbb)))))))
    clear hgo hgm hobs hb5 hb6 hB6 hr6 hq6 hrg HG hbb hG6 hGq hGb hbo
    have HW6 := Lib.hid hw6
    clear hw6
    go_upto_region 1 with fail
    rw [HW6.out]
    clear HW6
    by_cases hk0 : k < 0
    · have hno : H.obj k = none := by
        cases hx : H.obj k with
        | none => rfl
        | some x => have := (HS.obj_some hx).2; omega
      have d1 : decide (k < 0) = true := by simpa using hk0
      go_wp2_with fail
      (try simp only [Exit.inBlock, Exit.then]); first | refine bodyPost_ret (results_none rfl _ _ _) rfl ?_ | refine bodyPost_end (results_none rfl _ _ _) rfl ?_
      exact ⟨rfl, B, reached_no HI.out.2.2.2.2.1 (fun x hx => by rw [hno] at hx; cases hx), HS6.out.1, HS6.out.2.1, Off.of_new HS6.out.2.2.2.2.2.2.2 _⟩
    · obtain ⟨kn, hkn⟩ : ∃ kn : Nat, k = kn := ⟨k.toNat, by omega⟩
      subst hkn
      have d1 : decide ((kn : Int) < 0) = false := by simp
      by_cases hk1 : cs + 1 ≤ kn
      · have hno : H.obj (kn : Int) = none := obj_above HI.out.1.ok (.inl (by rw [hcs]; omega))
        have d2 : decide ((kn : Int) ≥ ((cs + 1 : Nat) : Int)) = true := by simp; omega
        obtain ⟨c1, hc1⟩ : ∃ c1, cs + 1 = c1 := ⟨_, rfl⟩
        rw [hc1] at d2 hk1 ⊢
        have HNO := Lib.hid hno
        clear hno hc1
        go_wp2_with fail
        (try simp only [Exit.inBlock, Exit.then]); first | refine bodyPost_ret (results_none rfl _ _ _) rfl ?_ | refine bodyPost_end (results_none rfl _ _ _) rfl ?_
        exact ⟨rfl, B, reached_no HI.out.2.2.2.2.1 (fun x hx => by rw [HNO.out] at hx; cases hx), HS6.out.1, HS6.out.2.1, Off.of_new HS6.out.2.2.2.2.2.2.2 _⟩
      · have d2 : decide ((kn : Int) ≥ ((cs + 1 : Nat) : Int)) = false := by simp; omega
        have hlt : kn < cs + 1 := by omega
        obtain ⟨bv, hbv⟩ : ∃ bv, B[kn]? = some bv := ⟨_, List.getElem?_eq_getElem (by rw [HI.out.2.2.1]; exact hlt)⟩
        have q0 : w6.cell? ⟨q, kn, none⟩ = some (.bool bv) := by rw [HS6.out.2.1.cell, rowb_get hbv]
        have qf := HS6.out.2.1.frozen
        obtain ⟨c1, hc1⟩ : ∃ c1, cs + 1 = c1 := ⟨_, rfl⟩
        rw [hc1] at d2 hlt ⊢
        have HC1 := Lib.hid hc1
        clear hc1 hk1
        cases ob with
        | false =>
          have HNO : Hid (H.obj (kn : Int) = none) := Lib.hid (by
            cases hx : H.obj (kn : Int) with
            | none => rfl
            | some x => have := HOBS.out; rw [hx] at this; cases this)
          go_wp2_with fail
          (try simp only [Exit.inBlock, Exit.then]); first | refine bodyPost_ret (results_none rfl _ _ _) rfl ?_ | refine bodyPost_end (results_none rfl _ _ _) rfl ?_
          exact ⟨rfl, B, reached_no HI.out.2.2.2.2.1 (fun x hx => by rw [HNO.out] at hx; cases hx), HS6.out.1, HS6.out.2.1, Off.of_new HS6.out.2.2.2.2.2.2.2 _⟩
        | true =>
          cases bv with
          | true =>
            have HBV := Lib.hid hbv
            clear hbv
            go_wp2_with fail
            (try simp only [Exit.inBlock, Exit.then]); first | refine bodyPost_ret (results_none rfl _ _ _) rfl ?_ | refine bodyPost_end (results_none rfl _ _ _) rfl ?_
            exact ⟨rfl, B, reached_no HI.out.2.2.2.2.1 (fun x hx => by
              have := (HS.obj_some hx).2
              have e : x.h = kn := by omega
              rw [e]; exact HBV.out), HS6.out.1, HS6.out.2.1, Off.of_new HS6.out.2.2.2.2.2.2.2 _⟩
          | false =>
            obtain ⟨x, hx⟩ : ∃ x, H.obj (kn : Int) = some x := Option.isSome_iff_exists.1 HOBS.out
            have hxk : x.h = kn := by have := (HS.obj_some hx).2; omega
            have hxo : gws = x.o.ws := by
              have e : getO H (kn : Int) = x.o := by unfold getO; rw [hx]
              rw [HGM.out.1] at e
              exact congrArg Ob.ws e
            have hw7 : Below w.heap.size w w := Below.refl _ _
            obtain ⟨w7, hw7⟩ : ∃ w7, w6.setCell ⟨q, kn, none⟩ (.bool true) = w7 := ⟨_, rfl⟩
            have ho7 : Off (fun b => b = q) w6 w7 := by rw [← hw7]; exact Off.setc _ _ _ _
            have HS7 : Hid (HR w0 w7 X g t H ∧ Blk w7 q 4 (rowb (B.set kn true)) ∧ Words w7 G gws ∧ Blk w7 w5.heap.size 35 #[.int .u8 (gk : Int), .int .i64 gtag, .slice G gm gc, .string (str gt)] ∧ Off (fun b => b = q) w w7) := Lib.hid ⟨HS6.out.1.turnX ho7 (fun k e => ⟨by rw [e]; exact hX, by rw [e]; exact hq0⟩), by rw [← hw7, ← rowb_set]; exact HS6.out.2.1.set_ kn _, HS6.out.2.2.1.offq ho7 HS6.out.2.2.2.2.1, HS6.out.2.2.2.1.off ho7 HS6.out.2.2.2.2.2.2.1, (Off.of_new HS6.out.2.2.2.2.2.2.2 _).trans ho7⟩
            have HX := Lib.hid (And.intro hx (And.intro hxk (And.intro hxo hbv)))
            have HW7 := Lib.hid hw7
            clear hx hxk hxo hbv hw7 ho7
            have HP1 : Hid (∀ j : Nat, (B.set kn true)[j]? = some true → P j) := Lib.hid fun j hj => by
              by_cases e : j = kn
              · rw [e, ← HX.out.2.1]; exact HI.out.2.2.2.2.2 x HX.out.1
              · rw [List.getElem?_set_ne (fun e' => e e'.symm)] at hj
                exact HI.out.2.2.2.2.1 j hj
            have HN1 : Hid (nF (B.set kn true) < m) := Lib.hid (by have := nF_set HX.out.2.2.2; have := HI.out.2.2.2.1; omega)
            go_upto_region 3 with fail
            rw [HW7.out]
            clear HW7 q0 qf
            go_wp2_with fail
            go_loopw [8] (fun iv wr => ∃ (i : Nat) (Bi : List Bool), i ≤ gm ∧ iv = .int .i64 (i : Int) ∧ Hid (Ext H (B.set kn true) Bi ∧ (∀ j : Nat, Bi[j]? = some true → P j) ∧ (∀ r : Nat, r < i → ∀ z, gws[r]? = some z → z.k = 2 → ∀ y, H.obj z.n = some y → Bi[y.h]? = some true) ∧ HR w0 wr X g t H ∧ Blk wr q 4 (rowb Bi) ∧ Words wr G gws ∧ Blk wr w5.heap.size 35 #[.int .u8 (gk : Int), .int .i64 gtag, .slice G gm gc, .string (str gt)] ∧ Off (fun b => b = q) w wr)) (fun iv _ => gm - (intOf iv).toNat)
            case atStart => exact ⟨0, B.set kn true, Nat.zero_le _, rfl, Lib.hid ⟨Ext.refl _ _, HP1.out, fun r hr => absurd hr (Nat.not_lt_zero r), HS7.out.1, HS7.out.2.1, HS7.out.2.2.1, HS7.out.2.2.2.1, HS7.out.2.2.2.2⟩⟩
            case round =>
              clear HS7
              obtain ⟨i, Bi, hi, rfl, hJ⟩ := hrel
              have y2 := hJ.out.2.2.2.2.2.2.1.cell 2
              simp only [List.getElem?_toArray, List.getElem?_cons_zero, List.getElem?_cons_succ] at y2
              by_cases hli : i < gm
              · have hd : decide ((i : Int) < (gm : Int)) = true := by simpa using hli
                obtain ⟨⟨zk, zn⟩, hz⟩ : ∃ z, gws[i]? = some z := ⟨_, List.getElem?_eq_getElem (by rw [HGM.out.2]; exact hli)⟩
                obtain ⟨bG, offG, rfl, hblt, z0, z1, hzok⟩ := hJ.out.2.2.2.2.2.1 i ⟨zk, zn⟩ hz
                dsimp only at z0 z1
                have hsame : Hid ((∀ y, H.obj zn = some y → zk = 2 → Bi[y.h]? = some true) → ∃ (i2 : Nat) (B2 : List Bool), i2 ≤ gm ∧ Value.int .i64 ((i : Int) + 1) = .int .i64 (i2 : Int) ∧ Hid (Ext H (B.set kn true) B2 ∧ (∀ j : Nat, B2[j]? = some true → P j) ∧ (∀ r : Nat, r < i2 → ∀ z, gws[r]? = some z → z.k = 2 → ∀ y, H.obj z.n = some y → B2[y.h]? = some true) ∧ HR w0 wr X g t H ∧ Blk wr q 4 (rowb B2) ∧ Words wr (some ⟨bG, offG, none⟩) gws ∧ Blk wr w5.heap.size 35 #[.int .u8 (gk : Int), .int .i64 gtag, .slice (some ⟨bG, offG, none⟩) gm gc, .string (str gt)] ∧ Off (fun b => b = q) w wr)) := Lib.hid fun hno =>
                  ⟨i + 1, Bi, by omega, by go_num, Lib.hid ⟨hJ.out.1, hJ.out.2.1, fun r hr z hz' hk' y hy => by
                    by_cases e : r = i
                    · rw [e, hz] at hz'
                      have e2 : (⟨zk, zn⟩ : Wd) = z := Option.some.inj hz'
                      rw [← e2] at hk' hy
                      exact hno y hy hk'
                    · exact hJ.out.2.2.1 r (by omega) z hz' hk' y hy, hJ.out.2.2.2⟩⟩
                by_cases hzk : zk = 2
                · have e1 : ((zk : Int) == 2) = true := by simp; omega
                  by_cases hz0 : 0 ≤ zn
                  · have e2 : decide (zn ≥ 0) = true := by simpa using hz0
                    by_cases hz1 : zn < (c1 : Int)
                    · have e3 : decide (zn < (c1 : Int)) = true := by simpa using hz1
                      have hzm : (⟨zk, zn⟩ : Wd) ∈ x.o.ws := by rw [← HX.out.2.2.1]; exact List.mem_of_getElem? hz
                      have HC := HIH.out zn wr Bi (WalkArith.wf_i64 (by have := HC1.out; omega)) hJ.out.2.2.2.1 hJ.out.2.2.2.2.1 (by rw [hJ.out.1.len, List.length_set]; exact HI.out.2.2.1) (Nat.lt_of_le_of_lt (nF_mono hJ.out.1.len hJ.out.1.mono) HN1.out) hJ.out.2.1 (fun y hy => hcl x (HS.obj_some HX.out.1).1 (HI.out.2.2.2.2.2 x HX.out.1) _ hzm hzk y hy)
                      rw [HC1.out] at HC
                      replace HC := Lib.hid HC
                      have HZ := Lib.hid hz
                      clear hz hzk hz0 hz1 hzm hzok hsame
                      go_wp2_with fail
                      refine HC.out.mono ?_
                      rintro e w8 ⟨rfl, B2, hre, hr8, hb8, ho8⟩
                      have HN : Hid (∃ (i2 : Nat) (B2 : List Bool), i2 ≤ gm ∧ Value.int .i64 ((i : Int) + 1) = .int .i64 (i2 : Int) ∧ Hid (Ext H (B.set kn true) B2 ∧ (∀ j : Nat, B2[j]? = some true → P j) ∧ (∀ r : Nat, r < i2 → ∀ z, gws[r]? = some z → z.k = 2 → ∀ y, H.obj z.n = some y → B2[y.h]? = some true) ∧ HR w0 w8 X g t H ∧ Blk w8 q 4 (rowb B2) ∧ Words w8 (some ⟨bG, offG, none⟩) gws ∧ Blk w8 w5.heap.size 35 #[.int .u8 (gk : Int), .int .i64 gtag, .slice (some ⟨bG, offG, none⟩) gm gc, .string (str gt)] ∧ Off (fun b => b = q) w w8)) := Lib.hid
                        ⟨i + 1, B2, by omega, by go_num, Lib.hid ⟨hJ.out.1.trans hre.ext, hre.sound, fun r hr z hz' hk' y hy => by
                          by_cases e : r = i
                          · rw [e, HZ.out] at hz'
                            have e2 : (⟨zk, zn⟩ : Wd) = z := Option.some.inj hz'
                            rw [← e2] at hy
                            exact hre.done y hy
                          · exact hre.ext.mono _ (hJ.out.2.2.1 r (by omega) z hz' hk' y hy), hr8, hb8, hJ.out.2.2.2.2.2.1.offq ho8 HS6.out.2.2.2.2.1, hJ.out.2.2.2.2.2.2.1.off ho8 HS6.out.2.2.2.2.2.2.1, hJ.out.2.2.2.2.2.2.2.trans ho8⟩⟩
                      clear hre hr8 hb8 ho8 hJ HC y2 z0 z1
                      go_wp2_with fail
                      go_roundw
                      case rel => exact HN.out
                      case measure => simp [intOf]; omega
                    · have e3 : decide (zn < (c1 : Int)) = false := by simpa using hz1
                      have HB := hsame.out fun y hy _ => by
                        rw [obj_above HI.out.1.ok (.inl (by rw [hcs]; have := HC1.out; omega))] at hy; cases hy
                      replace HB := Lib.hid HB
                      clear hz hzk hz0 hz1 hzok hsame
                      go_wp2_with fail
                      go_roundw
                      case rel => exact HB.out
                      case measure => simp [intOf]; omega
                  · have e2 : decide (zn ≥ 0) = false := by simpa using hz0
                    have HB := hsame.out fun y hy _ => by
                      rw [obj_above HI.out.1.ok (.inr (by omega))] at hy; cases hy
                    replace HB := Lib.hid HB
                    clear hz hzk hz0 hzok hsame
                    go_wp2_with fail
                    go_roundw
                    case rel => exact HB.out
                    case measure => simp [intOf]; omega
                · have e1 : ((zk : Int) == 2) = false := by simp; omega
                  have HB := hsame.out fun y hy h2 => absurd h2 hzk
                  replace HB := Lib.hid HB
                  clear hz hzk hzok hsame
                  go_wp2_with fail
                  go_roundw
                  case rel => exact HB.out
                  case measure => simp [intOf]; omega
              · obtain rfl : gm = i := by omega
                have hd : decide ((gm : Int) < (gm : Int)) = false := by simp
                have HJ := Lib.hid hJ.out
                clear hJ
                go_wp2_with fail
                (try simp only [Exit.inBlock, Exit.then]); first | refine bodyPost_ret (results_none rfl _ _ _) rfl ?_ | refine bodyPost_end (results_none rfl _ _ _) rfl ?_
                refine ⟨rfl, Bi, ⟨Ext.mark HX.out.1 HJ.out.1 ?_, HJ.out.2.1, ?_⟩, HJ.out.2.2.2.1, HJ.out.2.2.2.2.1, HJ.out.2.2.2.2.2.2.2⟩
                · intro z hz hk' y hy
                  rw [← HX.out.2.2.1] at hz
                  obtain ⟨r, hr, e⟩ := List.getElem_of_mem hz
                  exact HJ.out.2.2.1 r (by rw [← HGM.out.2]; exact hr) z (List.getElem?_eq_some_iff.2 ⟨hr, e⟩) hk' y hy
                · intro y hy
                  have e : y.h = kn := by have := (HS.obj_some hy).2; omega
                  rw [e]
                  refine HJ.out.1.mono kn ?_
                  have := (List.getElem?_eq_some_iff.1 HX.out.2.2.2).1
                  simp [this]
end Go.Proofs.Ytclkkfffecmjnaa
