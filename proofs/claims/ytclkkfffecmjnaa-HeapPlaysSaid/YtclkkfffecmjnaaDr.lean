/- HeapDirty. -/
import Derived.Test.YtclkkfffecmjnaaDm
import Derived.Test.YtclkkfffecmjnaaUs
namespace Go.Proofs.Ytclkkfffecmjnaa
open Go.RowKit
set_option linter.unusedVariables false
set_option linter.unusedSimpArgs false
attribute [local go_sem] Oper.semAt_some
theorem Try.infoB : (Try.prog.info? 4).map (fun i => (i.zero, i.size, i.bytes)) = some (some (.bool false), 1, 1) := by kernel_rfl
/-- The cells of a row of booleans. -/
def rowb (fs : List Bool) : Array Value := (fs.map Value.bool).toArray
theorem rowb_get {fs : List Bool} {j : Nat} {v : Bool} (h : fs[j]? = some v) : (rowb fs)[j]? = some (.bool v) := by
  unfold rowb; simp [h]
theorem rowb_set (fs : List Bool) (j : Nat) (v : Bool) : (rowb fs).setIfInBounds j (.bool v) = rowb (fs.set j v) := by
  unfold rowb
  simp [List.map_set]
theorem made_rowb (n : Nat) : madeCells #[.bool false] n = rowb (List.replicate n false) := by
  apply Array.ext'
  apply List.ext_getElem
  · simp [madeCells, rowb]
  · intro i h1 h2
    simp [madeCells, rowb, Nat.mod_one]
theorem run_mk101 (w : World) :
    (Instr.makeSlice 51 (.int .i64 101) (.int .i64 101)).run Try.prog w = .ok (.slice (some ⟨w.heap.size, 0, none⟩) 101 101) (w.alloc (.cells (rowb (List.replicate 101 false)) 4)) := by
  obtain ⟨i0, hi, hz0, hz1, hz2⟩ := info_parts Try.infoB
  have h := run_make (P := Try.prog) w 51 4 i0 (.bool false) Try.underlying51 hi hz0 .i64 .i64 101 101 (by omega) (by omega) (by rw [hz2]; omega) (by omega)
  rw [← made_rowb]
  simpa [hz1, Value.cells] using h
/-- Those below k that are dirty. -/
def dl (H : HS) (k : Nat) : List Nat := ((lowL H k).filter fun x => x.dirty).map fun x => x.h
theorem dl_one {H : HS} {t : Nat} (hok : H.Ok t) : dl H 1 = [] := by unfold dl; rw [low_one hok]; rfl
theorem dl_succ {H : HS} {t : Nat} (hok : H.Ok t) (k : Nat) : dl H (k + 1) = dl H k ++ (if isD H (k : Int) then [k] else []) := by
  unfold dl
  rw [low_succ hok, List.filter_append, List.map_append]
  congr 1
  cases hx : H.obj (k : Int) with
  | none => rw [isD_no hx]; rfl
  | some x =>
    rw [isD_of hx]
    have e : x.h = k := by have := (HS.obj_some hx).2; omega
    dsimp only
    cases hd : x.dirty with
    | true => simp [hd, e]
    | false => simp [hd]
theorem dl_all {H : HS} {t : Nat} (hok : H.Ok t) (h : H.count ≤ 100) : dl H 101 = dirtyL H := by
  have e : (H.L.filter fun x => decide (x.h < 101)) = H.L := List.filter_eq_self.2 fun x hx => by have := hok.inn x hx; simp; omega
  unfold dl dirtyL lowL
  rw [e]
theorem dl_len {H : HS} {t : Nat} (hok : H.Ok t) (k : Nat) (h : H.L.length ≤ 100) : (dl H k).length ≤ 100 := by
  unfold dl lowL
  rw [List.length_map]
  exact Nat.le_trans (List.length_filter_le _ _) (Nat.le_trans (List.length_filter_le _ _) h)
theorem IntsZ.below0 {W W' : World} {sv : Value} {zs : List Int} (h : IntsZ W sv zs) (hb : Below W.heap.size W W') : IntsZ W' sv zs := h.same fun k hk => hb.block k (h.lt k hk)
theorem IntsZ.ints {W : World} {A : Option Addr} {n c : Nat} {zs : List Int} (h : IntsZ W (.slice A n c) zs) (hr : ∀ z ∈ zs, -9223372036854775808 ≤ z ∧ z < 9223372036854775808) : zs.length = n ∧ Ints W A zs := by
  obtain ⟨A', c', e, _, _⟩ := h.shape
  cases e
  exact ⟨rfl, Ints.of_own h.own hr⟩
/-- Blocks of X are turned, and new ones made. -/
theorem HR.turnMore {w0 w w' : World} {X Y G : Nat → Prop} {g t : Nat} {H : HS} (h : HR w0 w X g t H) (ho : Off G w w') (hG : ∀ k, G k → X k ∧ w0.heap.size ≤ k) (hY : ∀ k, Y k → k < w'.heap.size ∧ (X k ∨ w.heap.size ≤ k)) : HR w0 w' Y g t H := by
  obtain ⟨⟨M, n, hm, e, hn, hf⟩, hl, hbe, hok⟩ := h
  exact ⟨⟨M, n, hm.keep ho.size fun b hR => ho.block b (hm.lt b hR) fun e => (hf b hR).2 (hG b e).1, e, hn, fun b hb => ⟨(hf b hb).1, fun hy => by
    rcases (hY b hy).2 with h1 | h1
    · exact (hf b hb).2 h1
    · have := hm.lt b hb; omega⟩⟩, fun b hy => (hY b hy).1, hbe.trans (ho.below hbe.size fun k hk => (hG k hk).2), hok⟩
set_option maxRecDepth 20000 in
set_option maxHeartbeats 8000000 in
theorem dirty_law (A : Option Addr) (len cap : Nat) (ls : List Ov) (w : World) (hl : ls.length = len) (hcap : len ≤ maxLen) (hM : OpsM w A ls) (hlt : ∀ o ∈ ls, LtO o) :
    Calls Try.prog 8 #[.slice A len cap] w fun e w' => e = .returned (.bool true) ∧ Below w.heap.size w w' := by
  have HV := Lib.hid (vast_any A len cap ls w hl hcap hM hlt)
  have HM := Lib.hid (And.intro hM (And.intro hl hlt))
  clear hM hl hlt hcap
  go_enter Try.func8, Try.ntmps8
  go_wp2_with fail
  refine HV.out.mono ?_
  rintro e w1 ⟨b, rfl, hbf, hb1⟩
  cases b with
  | true =>
    have HW := Lib.hid (works_any w1)
    have HB := Lib.hid hb1
    clear hb1 hbf HV HM
    go_wp2_with fail
    refine HW.out.mono ?_
    rintro e w3 ⟨rfl, hb3⟩
    have HB3 := Lib.hid (HB.out.trans (hb3.mono HB.out.size))
    clear hb3 HW
    go_wp2_with fail
    go_ret
    exact ⟨rfl, HB3.out⟩
  | false =>
    obtain ⟨hlen, hfit⟩ := hbf rfl
    have H1 := Lib.hid (new_ok 1048576 w w1 (fun _ => False) (fun k h => h.elim) hb1 (by omega))
    have HFit := Lib.hid hfit
    have hlen : len ≤ 100 := by rw [← HM.out.2.1]; exact hlen
    clear hfit hbf hb1 HV
    go_wp2_with fail
    refine H1.out.mono ?_
    rintro e w2 ⟨g, rfl, hr, _⟩
    have hmk := run_mk101 w2
    obtain ⟨w3, hw3⟩ : ∃ w3, w2.alloc (.cells (rowb (List.replicate 101 false)) 4) = w3 := ⟨_, rfl⟩
    have hb3 : Below w2.heap.size w2 w3 := by rw [← hw3]; exact (Below.refl _ _).alloc (Nat.le_refl _) _
    have hB3 : Blk w3 w2.heap.size 4 (rowb (List.replicate 101 false)) := by rw [← hw3]; exact Blk.new _ _ _
    rw [hw3] at hmk
    have hr3 := hr.more (Y := fun k => k = w2.heap.size) hb3 (fun k hk => .inr (by rw [hk]; exact ⟨Nat.le_refl _, hB3.lt⟩))
    obtain ⟨q, hq⟩ : ∃ q, w2.heap.size = q := ⟨_, rfl⟩
    rw [hq] at hmk hB3 hr3
    have hqw : w.heap.size ≤ q := by rw [← hq]; exact hr.bel.size
    have HR2 := Lib.hid (And.intro hr3 hB3)
    clear hr H1 hb3 hB3 hr3 hw3 hq
    go_wp2_with fail
    go_loopw [6] (fun iv wr => ∃ (i : Nat) (H : HS), i ≤ len ∧ iv = .int .i64 (i : Int) ∧ H.count ≤ i ∧ Hid (HR w wr (fun k => k = q) g (2 * i) H ∧ H.L.length ≤ i ∧ Blk wr q 4 (rowb (dB H)))) (fun iv _ => len - (intOf iv).toNat)
    case atStart => exact ⟨0, newH 1048576, Nat.zero_le _, rfl, Nat.le_refl _, Lib.hid ⟨HR2.out.1, Nat.le_refl _, by rw [dB_new]; exact HR2.out.2⟩⟩
    case round =>
      clear HR2 hmk
      obtain ⟨i, H, hi, rfl, hci, hI⟩ := hrel
      by_cases hlt : i < len
      · have hd : decide ((i : Int) < (len : Int)) = true := by simpa using hlt
        obtain ⟨o, ho⟩ : ∃ o, ls[i]? = some o := ⟨_, List.getElem?_eq_getElem (by rw [HM.out.2.1]; exact hlt)⟩
        have hbel := hI.out.1.bel
        obtain ⟨b, off, B, c, R, d, rfl, hblt, hc0, hv0⟩ := HM.out.1 i o ho
        have hc : ∀ (j : Nat) (v : Value), (opC o B c R d)[j]? = some v → wr.cell? ⟨b, off + i * 10 + j, none⟩ = some v := fun j v hj => (hbel.cell (p := ⟨b, off + i * 10 + j, none⟩) hblt).trans (hc0 j v hj)
        have hv := hv0.below hbel
        obtain ⟨z0, z1, z2, z3, z4, z5, z6, z7, z8, z9⟩ := ops_cells hc
        have hfo := HFit.out o (List.mem_of_getElem? ho)
        have HD := does_hr hI.out.1 (by omega) (by have := hI.out.2.1; omega) hv hfo
        have hcnt := doF_counts H o
        have hdd := doF_dirty hI.out.1.ok o
        obtain ⟨H2, hH2⟩ : ∃ H2, (doF H o).1 = H2 := ⟨_, rfl⟩
        obtain ⟨tv, htv⟩ : ∃ tv, (doF H o).2 = tv := ⟨_, rfl⟩
        rw [hH2, htv] at HD hcnt hdd
        clear hH2 htv
        obtain ⟨⟨tk, ttag, tws, ttx⟩, ⟨twk, twn⟩, tn, tis, te⟩ := tv
        have htold : ∀ T c2, toldC ⟨⟨tk, ttag, tws, ttx⟩, ⟨twk, twn⟩, tn, tis, te⟩ T c2 = #[.int .u8 (tk : Int), .int .i64 ttag, .slice T tws.length c2, .string (str ttx), .int .u8 (twk : Int), .int .i64 twn, .int .i64 (tn : Int), .bool tis, .int .i64 (te : Int)] := fun T c2 => rfl
        have HTO := Lib.hid htold
        dsimp only at hcnt hdd
        have hcc : H2.count ≤ i + 1 ∧ H2.L.length ≤ i + 1 := by
          refine ⟨?_, by have := hcnt.2.1; have := hI.out.2.1; omega⟩
          rcases hcnt.2.2 with ⟨_, _, _, h4⟩ | ⟨_, _, h4⟩
          · rw [h4]; show H.count + 1 ≤ _; omega
          · omega
        have HO := Lib.hid (And.intro hI.out (And.intro hcc (And.intro hblt (And.intro hc0 hv0))))
        unfold opC at HD
        replace HD := Lib.hid HD
        clear hbel hc hv hfo ho htold hI hc0 hv0 hcnt hcc
        go_wp2_with fail
        refine HD.out.mono ?_
        rintro e w3 ⟨T, c2, rfl, _, hr3, hk3⟩
        rw [HTO.out]
        have hr3 := hr3.less (Y := fun k => k = q) (fun k h => .inl h)
        have hB3 := HO.out.1.2.2.same (hk3.at_ q rfl)
        obtain ⟨m3, hm3⟩ : ∃ m3, tws.length = m3 := ⟨_, rfl⟩
        rw [hm3]
        clear hm3
        obtain ⟨w4, hw4⟩ : ∃ w4, w3.alloc (.cells #[.int .u8 (tk : Int), .int .i64 ttag, .slice T m3 c2, .string (str ttx), .int .u8 (twk : Int), .int .i64 twn, .int .i64 (tn : Int), .bool tis, .int .i64 (te : Int)] 39) = w4 := ⟨_, rfl⟩
        have hb4 : Below w3.heap.size w3 w4 := by rw [← hw4]; exact (Below.refl _ _).alloc (Nat.le_refl _) _
        have hB4 : Blk w4 w3.heap.size 39 #[.int .u8 (tk : Int), .int .i64 ttag, .slice T m3 c2, .string (str ttx), .int .u8 (twk : Int), .int .i64 twn, .int .i64 (tn : Int), .bool tis, .int .i64 (te : Int)] := by rw [← hw4]; exact Blk.new _ _ _
        have hr4 := (hr3.below hb4).1
        have hq4 := hB3.below hb4 hB3.lt
        have x7 := hB4.cell 7
        have x8 := hB4.cell 8
        simp only [List.getElem?_toArray, List.getElem?_cons_zero, List.getElem?_cons_succ] at x7 x8
        have z0 : w4.cell? ⟨b, off + i * 10, none⟩ = some (.int .i64 o.kind) := (hr4.bel.cell (p := ⟨b, off + i * 10, none⟩) HO.out.2.2.1).trans (HO.out.2.2.2.1 0 _ rfl)
        have HR4 := Lib.hid (And.intro hr4 hq4)
        have hkr := HO.out.2.2.2.2.k
        have HOI : Hid (∀ k : Int, (Lit.int .i64 k).wf = true → Calls Try.prog 31 #[.pointer (some ⟨g, 0, none⟩), .int .i64 k] w4 fun e w' => e = .returned (.tuple #[.int .i64 (((H2.oidOf k).getD 0 : Nat) : Int), .bool (H2.oidOf k).isSome]) ∧ w4 = w') := Lib.hid fun k hk => oid_hr hr4 k hk
        clear hr3 hB3 hb4 hr4 hB4 hk3 hq4 HD HTO z1 z2 z3 z4 z5 z6 z7 z8 z9
        obtain ⟨kd, hkd⟩ : ∃ kd, o.kind = kd := ⟨_, rfl⟩
        obtain ⟨kk, hkk⟩ : ∃ kk, o.k = kk := ⟨_, rfl⟩
        rw [hkd] at z0 hdd
        rw [hkk] at hdd hkr ⊢
        have HKK := Lib.hid hkk
        clear hkd hkk
        by_cases hin : 1 ≤ kk ∧ kk ≤ 100
        · obtain ⟨kn, hkn⟩ : ∃ kn : Nat, kk = kn := ⟨kk.toNat, by omega⟩
          subst hkn
          have n1 : decide ((kn : Int) ≥ 1) = true := by simp; omega
          have n2 : decide ((kn : Int) ≤ 100) = true := by simp; omega
          have hkn100 : kn ≤ 100 := by omega
          have hkn101 : kn < 101 := by omega
          have hkni : (kn : Int) < 101 := by omega
          have HO2 := HOI.out (kn : Int) (WalkArith.wf_i64 (by omega))
          obtain ⟨on_, hon⟩ : ∃ x, ((H2.oidOf (kn : Int)).getD 0 : Nat) = x := ⟨_, rfl⟩
          obtain ⟨od, hod⟩ : ∃ x, (H2.oidOf (kn : Int)).isSome = x := ⟨_, rfl⟩
          rw [hon, hod] at HO2
          rw [hod] at hdd
          replace HO2 := Lib.hid HO2
          have q0 : w4.cell? ⟨q, kn, none⟩ = some (.bool (isD H (kn : Int))) := by rw [HR4.out.2.cell, rowb_get (dB_get H hkn100)]
          have qf := HR4.out.2.frozen
          obtain ⟨dk, hdk⟩ : ∃ x, isD H (kn : Int) = x := ⟨_, rfl⟩
          rw [hdk] at q0
          have hd9 := hdd.2.1
          rw [hdk] at hd9
          have HDD := Lib.hid (And.intro hdd hkn100)
          clear hon hod hdk hdd hin
          by_cases k3 : kd = 3
          · subst k3
            cases tis with
            | true =>
              have HQ : Hid (Blk (w4.setCell ⟨q, kn, none⟩ (.bool od)) q 4 (rowb (dB H2)) ∧ HR w (w4.setCell ⟨q, kn, none⟩ (.bool od)) (fun k => k = q) g (2 * i + 2) H2) := Lib.hid ⟨by rw [dB_set HDD.out.2 (HDD.out.1.1 ⟨rfl, rfl⟩), ← rowb_set]; exact HR4.out.2.set_ kn _, HR4.out.1.turnX (Off.setc _ _ _ _) (fun k e => by have e' : k = q := e; exact ⟨e', by omega⟩)⟩
              go_wp2_with fail
              refine HO2.out.mono ?_
              rintro e v1 ⟨rfl, rfl⟩
              go_wp2_with fail
              go_loopw [11, 12] (fun vv kv wr => ∃ k : Nat, 1 ≤ k ∧ k ≤ 101 ∧ kv = .int .i64 (k : Int) ∧ Hid (IntsZ wr vv (nums (dl H2 k)) ∧ (∀ b, vv.ownBlock = some b → b ≠ q ∧ w.heap.size ≤ b) ∧ HR w wr (fun k => k = q ∨ vv.ownBlock = some k) g (2 * i + 2) H2 ∧ Blk wr q 4 (rowb (dB H2)))) (fun _ kv _ => 101 - (intOf kv).toNat)
              case atStart => exact ⟨1, by omega, by omega, rfl, Lib.hid ⟨by rw [dl_one HQ.out.2.ok]; exact IntsZ.nil _, (fun b h => by simp [Value.ownBlock] at h), HQ.out.2.less (fun k h => by rcases h with h | h; exact h; simp [Value.ownBlock] at h), HQ.out.1⟩⟩
              case round =>
                obtain ⟨k, hk1, hk2, rfl, hJ⟩ := hrel
                by_cases hlk : k ≤ 100
                · have hdk : decide ((k : Int) ≤ 100) = true := by simp; omega
                  have hk101 : k < 101 := by omega
                  have p0 : wr.cell? ⟨q, k, none⟩ = some (.bool (isD H2 (k : Int))) := by rw [hJ.out.2.2.2.cell, rowb_get (dB_get H2 hlk)]
                  have hsucc := dl_succ hJ.out.2.2.1.ok k
                  have hll := dl_len hJ.out.2.2.1.ok k (by have := HO.out.2.1.2; omega)
                  obtain ⟨A9, c9, hvs, _, _⟩ := hJ.out.1.shape
                  subst hvs
                  obtain ⟨dk9, hdk9⟩ : ∃ x, isD H2 (k : Int) = x := ⟨_, rfl⟩
                  rw [hdk9] at p0 hsucc
                  clear hdk9
                  cases dk9 with
                  | false =>
                    have HS9 : Hid (dl H2 (k + 1) = dl H2 k) := Lib.hid (by rw [hsucc]; simp)
                    clear hsucc hll
                    go_wp2_with fail
                    go_roundw
                    case rel => exact ⟨k + 1, by omega, by omega, by go_num, Lib.hid ⟨by rw [HS9.out]; exact hJ.out.1, hJ.out.2⟩⟩
                    case measure => simp [intOf]; omega
                  | true =>
                    have HS9 : Hid (dl H2 (k + 1) = dl H2 k ++ [k]) := Lib.hid (by rw [hsucc]; simp)
                    obtain ⟨wb, hwb⟩ : ∃ wb, wr.alloc (.cells #[.int .i64 (k : Int)] 3) = wb := ⟨_, rfl⟩
                    have hbb : Below wr.heap.size wr wb := by rw [← hwb]; exact (Below.refl _ _).alloc (Nat.le_refl _) _
                    have hBb : Blk wb wr.heap.size 3 #[.int .i64 (k : Int)] := by rw [← hwb]; exact Blk.new _ _ _
                    obtain ⟨v', w9, hrun, h2, h3, h4⟩ := (hJ.out.1.below0 hbb).push (k : Int) wr.heap.size (hBb.cell 0) (by rw [nums_len]; omega)
                    have hqb := hJ.out.2.2.2.below hbb hJ.out.2.2.2.lt
                    have hne : ∀ b, Value.ownBlock (.slice A9 (nums (dl H2 k)).length c9) = some b → b ≠ q ∧ w.heap.size ≤ b := hJ.out.2.1
                    have hoff : Off (fun b => Value.ownBlock (.slice A9 (nums (dl H2 k)).length c9) = some b) wb w9 := Off.of_grown h3
                    have HJ9 : Hid (IntsZ w9 v' (nums (dl H2 (k + 1))) ∧ (∀ b, v'.ownBlock = some b → b ≠ q ∧ w.heap.size ≤ b) ∧ Blk w9 q 4 (rowb (dB H2)) ∧ (∀ b, Value.ownBlock (.slice A9 (nums (dl H2 k)).length c9) = some b → b < wr.heap.size)) := Lib.hid ⟨by
                      rw [HS9.out]
                      have e : nums (dl H2 k ++ [k]) = nums (dl H2 k) ++ [(k : Int)] := by unfold nums; simp
                      rw [e]; exact h2, fun b hb => by
                        rcases h4 with h4 | h4
                        · rw [h4] at hb; exact hne b hb
                        · rw [h4] at hb
                          have := hJ.out.2.2.2.lt
                          have h8 := hbb.size
                          have : wb.heap.size = b := Option.some.inj hb
                          have h7 := hJ.out.2.2.1.bel.size
                          exact ⟨by omega, by omega⟩, hqb.same (hoff.block q hqb.lt fun e => (hne q e).1 rfl), fun b hb => hJ.out.1.lt b hb⟩
                    -- the heap is nobody else's
                    have HRX : Hid (HR w w9 (fun k => k = q ∨ v'.ownBlock = some k) g (2 * i + 2) H2) := Lib.hid (((hJ.out.2.2.1.below hbb).1).turnMore hoff (fun b e => ⟨.inr e, (hne b e).2⟩) fun b hb => by
                      rcases hb with hb | hb
                      · rw [hb]; exact ⟨Nat.lt_of_lt_of_le hqb.lt hoff.size, .inl (.inl rfl)⟩
                      · refine ⟨h2.lt b hb, ?_⟩
                        rcases h4 with h4 | h4
                        · rw [h4] at hb; exact .inl (.inr hb)
                        · rw [h4] at hb; exact .inr (Nat.le_of_eq (Option.some.inj hb)))
                    have HRUN := Lib.hid hrun
                    clear hsucc hll hbb hBb hrun h2 h3 h4 hqb hne hoff
                    go_wp2_with (at_builtin; refine wpList_app rfl _ _ 41 rfl _ _ _ _ rfl rfl HRUN.out ?_; clear HRUN)
                    go_roundw
                    case rel => exact ⟨k + 1, by omega, by omega, by go_num, Lib.hid ⟨HJ9.out.1, HJ9.out.2.1, HRX.out, HJ9.out.2.2.1⟩⟩
                    case measure => simp [intOf]; omega
                · have hkc : k = 101 := by omega
                  subst hkc
                  have hdk : decide (((101 : Nat) : Int) ≤ 100) = false := by decide
                  have hall := dl_all hJ.out.2.2.1.ok (by have := HO.out.2.1.1; omega)
                  have hz := hJ.out.1
                  have hzb := hJ.out.2.2
                  rw [hall] at hz
                  obtain ⟨A9, c9, hvs, hle9, hmx9⟩ := hz.shape
                  subst hvs
                  have hrg : ∀ z ∈ nums (dirtyL H2), -9223372036854775808 ≤ z ∧ z < 9223372036854775808 := fun z hz => by
                    obtain ⟨v, hv, rfl⟩ := nums_mem.1 hz
                    obtain ⟨x, hx, _, rfl⟩ := dirtyL_mem.1 hv
                    have := hzb.1.ok.inn x hx
                    have := HO.out.2.1.1
                    omega
                  have hints := (hz.ints hrg).2
                  have HDI := Lib.hid (dirty_hr hzb.1 (by omega))
                  obtain ⟨nd, hnd⟩ : ∃ nd, (nums (dirtyL H2)).length = nd := ⟨_, rfl⟩
                  have hnd2 : (dirtyL H2).length = nd := by rw [← hnd, nums_len]
                  rw [hnd] at hz ⊢
                  rw [hnd2] at HDI
                  have hndl : nd ≤ 100 := by
                    rw [← hnd2]
                    unfold dirtyL
                    rw [List.length_map]
                    exact Nat.le_trans (List.length_filter_le _ _) (by have := HO.out.2.1.2; omega)
                  have HJZ := Lib.hid (And.intro hints (And.intro hzb hnd))
                  clear hall hz hzb hrg hints hnd hnd2 hle9 hmx9 hJ
                  go_wp2_with fail
                  refine HDI.out.mono ?_
                  rintro e wd ⟨A8, c8, rfl, hi8, _, hbd⟩
                  have HSL := Lib.hid (samelist_ok A8 A9 nd c8 c9 (nums (dirtyL H2)) wd HJZ.out.2.2 (by omega) hi8 (HJZ.out.1.below hbd))
                  have HRD := Lib.hid (And.intro ((HJZ.out.2.1.1.below hbd).1.less (Y := fun k => k = q) fun k h => .inl h) (HJZ.out.2.1.2.below hbd HJZ.out.2.1.2.lt))
                  clear hi8 hbd HDI
                  go_wp2_with fail
                  refine HSL.out.mono ?_
                  rintro e we ⟨rfl, hbe⟩
                  have HRE := Lib.hid (And.intro (HRD.out.1.below hbe).1 (HRD.out.2.below hbe HRD.out.2.lt))
                  clear hbe HSL
                  go_wp2_with fail
                  go_roundw
                  case rel => exact ⟨i + 1, H2, by omega, by go_num, HO.out.2.1.1, Lib.hid ⟨HRE.out.1.mono (by omega), HO.out.2.1.2, HRE.out.2⟩⟩
                  case measure => simp [intOf]; omega
            | false =>
              have HQ : Hid (Blk w4 q 4 (rowb (dB H2)) ∧ HR w w4 (fun k => k = q) g (2 * i + 2) H2) := Lib.hid ⟨by rw [dB_same (HDD.out.1.2.2.2 (fun h => by cases h.2) (by omega) (fun h => by cases h.2) (fun h => by have := h.1; omega))]; exact HR4.out.2, HR4.out.1⟩
              go_wp2_with fail
              refine HO2.out.mono ?_
              rintro e v1 ⟨rfl, rfl⟩
              go_wp2_with fail
              go_loopw [11, 12] (fun vv kv wr => ∃ k : Nat, 1 ≤ k ∧ k ≤ 101 ∧ kv = .int .i64 (k : Int) ∧ Hid (IntsZ wr vv (nums (dl H2 k)) ∧ (∀ b, vv.ownBlock = some b → b ≠ q ∧ w.heap.size ≤ b) ∧ HR w wr (fun k => k = q ∨ vv.ownBlock = some k) g (2 * i + 2) H2 ∧ Blk wr q 4 (rowb (dB H2)))) (fun _ kv _ => 101 - (intOf kv).toNat)
              case atStart => exact ⟨1, by omega, by omega, rfl, Lib.hid ⟨by rw [dl_one HQ.out.2.ok]; exact IntsZ.nil _, (fun b h => by simp [Value.ownBlock] at h), HQ.out.2.less (fun k h => by rcases h with h | h; exact h; simp [Value.ownBlock] at h), HQ.out.1⟩⟩
              case round =>
                obtain ⟨k, hk1, hk2, rfl, hJ⟩ := hrel
                by_cases hlk : k ≤ 100
                · have hdk : decide ((k : Int) ≤ 100) = true := by simp; omega
                  have hk101 : k < 101 := by omega
                  have p0 : wr.cell? ⟨q, k, none⟩ = some (.bool (isD H2 (k : Int))) := by rw [hJ.out.2.2.2.cell, rowb_get (dB_get H2 hlk)]
                  have hsucc := dl_succ hJ.out.2.2.1.ok k
                  have hll := dl_len hJ.out.2.2.1.ok k (by have := HO.out.2.1.2; omega)
                  obtain ⟨A9, c9, hvs, _, _⟩ := hJ.out.1.shape
                  subst hvs
                  obtain ⟨dk9, hdk9⟩ : ∃ x, isD H2 (k : Int) = x := ⟨_, rfl⟩
                  rw [hdk9] at p0 hsucc
                  clear hdk9
                  cases dk9 with
                  | false =>
                    have HS9 : Hid (dl H2 (k + 1) = dl H2 k) := Lib.hid (by rw [hsucc]; simp)
                    clear hsucc hll
                    go_wp2_with fail
                    go_roundw
                    case rel => exact ⟨k + 1, by omega, by omega, by go_num, Lib.hid ⟨by rw [HS9.out]; exact hJ.out.1, hJ.out.2⟩⟩
                    case measure => simp [intOf]; omega
                  | true =>
                    have HS9 : Hid (dl H2 (k + 1) = dl H2 k ++ [k]) := Lib.hid (by rw [hsucc]; simp)
                    obtain ⟨wb, hwb⟩ : ∃ wb, wr.alloc (.cells #[.int .i64 (k : Int)] 3) = wb := ⟨_, rfl⟩
                    have hbb : Below wr.heap.size wr wb := by rw [← hwb]; exact (Below.refl _ _).alloc (Nat.le_refl _) _
                    have hBb : Blk wb wr.heap.size 3 #[.int .i64 (k : Int)] := by rw [← hwb]; exact Blk.new _ _ _
                    obtain ⟨v', w9, hrun, h2, h3, h4⟩ := (hJ.out.1.below0 hbb).push (k : Int) wr.heap.size (hBb.cell 0) (by rw [nums_len]; omega)
                    have hqb := hJ.out.2.2.2.below hbb hJ.out.2.2.2.lt
                    have hne : ∀ b, Value.ownBlock (.slice A9 (nums (dl H2 k)).length c9) = some b → b ≠ q ∧ w.heap.size ≤ b := hJ.out.2.1
                    have hoff : Off (fun b => Value.ownBlock (.slice A9 (nums (dl H2 k)).length c9) = some b) wb w9 := Off.of_grown h3
                    have HJ9 : Hid (IntsZ w9 v' (nums (dl H2 (k + 1))) ∧ (∀ b, v'.ownBlock = some b → b ≠ q ∧ w.heap.size ≤ b) ∧ Blk w9 q 4 (rowb (dB H2)) ∧ (∀ b, Value.ownBlock (.slice A9 (nums (dl H2 k)).length c9) = some b → b < wr.heap.size)) := Lib.hid ⟨by
                      rw [HS9.out]
                      have e : nums (dl H2 k ++ [k]) = nums (dl H2 k) ++ [(k : Int)] := by unfold nums; simp
                      rw [e]; exact h2, fun b hb => by
                        rcases h4 with h4 | h4
                        · rw [h4] at hb; exact hne b hb
                        · rw [h4] at hb
                          have := hJ.out.2.2.2.lt
                          have h8 := hbb.size
                          have : wb.heap.size = b := Option.some.inj hb
                          have h7 := hJ.out.2.2.1.bel.size
                          exact ⟨by omega, by omega⟩, hqb.same (hoff.block q hqb.lt fun e => (hne q e).1 rfl), fun b hb => hJ.out.1.lt b hb⟩
                    -- the heap is nobody else's
                    have HRX : Hid (HR w w9 (fun k => k = q ∨ v'.ownBlock = some k) g (2 * i + 2) H2) := Lib.hid (((hJ.out.2.2.1.below hbb).1).turnMore hoff (fun b e => ⟨.inr e, (hne b e).2⟩) fun b hb => by
                      rcases hb with hb | hb
                      · rw [hb]; exact ⟨Nat.lt_of_lt_of_le hqb.lt hoff.size, .inl (.inl rfl)⟩
                      · refine ⟨h2.lt b hb, ?_⟩
                        rcases h4 with h4 | h4
                        · rw [h4] at hb; exact .inl (.inr hb)
                        · rw [h4] at hb; exact .inr (Nat.le_of_eq (Option.some.inj hb)))
                    have HRUN := Lib.hid hrun
                    clear hsucc hll hbb hBb hrun h2 h3 h4 hqb hne hoff
                    go_wp2_with (at_builtin; refine wpList_app rfl _ _ 41 rfl _ _ _ _ rfl rfl HRUN.out ?_; clear HRUN)
                    go_roundw
                    case rel => exact ⟨k + 1, by omega, by omega, by go_num, Lib.hid ⟨HJ9.out.1, HJ9.out.2.1, HRX.out, HJ9.out.2.2.1⟩⟩
                    case measure => simp [intOf]; omega
                · have hkc : k = 101 := by omega
                  subst hkc
                  have hdk : decide (((101 : Nat) : Int) ≤ 100) = false := by decide
                  have hall := dl_all hJ.out.2.2.1.ok (by have := HO.out.2.1.1; omega)
                  have hz := hJ.out.1
                  have hzb := hJ.out.2.2
                  rw [hall] at hz
                  obtain ⟨A9, c9, hvs, hle9, hmx9⟩ := hz.shape
                  subst hvs
                  have hrg : ∀ z ∈ nums (dirtyL H2), -9223372036854775808 ≤ z ∧ z < 9223372036854775808 := fun z hz => by
                    obtain ⟨v, hv, rfl⟩ := nums_mem.1 hz
                    obtain ⟨x, hx, _, rfl⟩ := dirtyL_mem.1 hv
                    have := hzb.1.ok.inn x hx
                    have := HO.out.2.1.1
                    omega
                  have hints := (hz.ints hrg).2
                  have HDI := Lib.hid (dirty_hr hzb.1 (by omega))
                  obtain ⟨nd, hnd⟩ : ∃ nd, (nums (dirtyL H2)).length = nd := ⟨_, rfl⟩
                  have hnd2 : (dirtyL H2).length = nd := by rw [← hnd, nums_len]
                  rw [hnd] at hz ⊢
                  rw [hnd2] at HDI
                  have hndl : nd ≤ 100 := by
                    rw [← hnd2]
                    unfold dirtyL
                    rw [List.length_map]
                    exact Nat.le_trans (List.length_filter_le _ _) (by have := HO.out.2.1.2; omega)
                  have HJZ := Lib.hid (And.intro hints (And.intro hzb hnd))
                  clear hall hz hzb hrg hints hnd hnd2 hle9 hmx9 hJ
                  go_wp2_with fail
                  refine HDI.out.mono ?_
                  rintro e wd ⟨A8, c8, rfl, hi8, _, hbd⟩
                  have HSL := Lib.hid (samelist_ok A8 A9 nd c8 c9 (nums (dirtyL H2)) wd HJZ.out.2.2 (by omega) hi8 (HJZ.out.1.below hbd))
                  have HRD := Lib.hid (And.intro ((HJZ.out.2.1.1.below hbd).1.less (Y := fun k => k = q) fun k h => .inl h) (HJZ.out.2.1.2.below hbd HJZ.out.2.1.2.lt))
                  clear hi8 hbd HDI
                  go_wp2_with fail
                  refine HSL.out.mono ?_
                  rintro e we ⟨rfl, hbe⟩
                  have HRE := Lib.hid (And.intro (HRD.out.1.below hbe).1 (HRD.out.2.below hbe HRD.out.2.lt))
                  clear hbe HSL
                  go_wp2_with fail
                  go_roundw
                  case rel => exact ⟨i + 1, H2, by omega, by go_num, HO.out.2.1.1, Lib.hid ⟨HRE.out.1.mono (by omega), HO.out.2.1.2, HRE.out.2⟩⟩
                  case measure => simp [intOf]; omega
          have k3b : (kd == 3) = false := by simpa using k3
          by_cases k9 : kd = 9
          · subst k9
            have e9 := hd9 rfl
            subst e9
            have HQ : Hid (Blk (w4.drew.setCell ⟨q, kn, none⟩ (.bool false)) q 4 (rowb (dB H2)) ∧ HR w (w4.drew.setCell ⟨q, kn, none⟩ (.bool false)) (fun k => k = q) g (2 * i + 2) H2) := Lib.hid ⟨by rw [dB_set HDD.out.2 (HDD.out.1.2.2.1 (.inl rfl)), ← rowb_set]; exact (HR4.out.2.drew).set_ kn _, ((HR4.out.1.below (drewN_below w4 1)).1).turnX (Off.setc _ _ _ _) (fun k e => by have e' : k = q := e; exact ⟨e', by omega⟩)⟩
            go_wp2_with fail
            refine HO2.out.mono ?_
            rintro e v1 ⟨rfl, rfl⟩
            go_upto_region 17 with fail
            refine wp_region_held_drew (S := fun W => W.cell? ⟨w3.heap.size, 7, none⟩ = some (.bool tis) ∧ W.cell? ⟨q, kn, none⟩ = some (.bool tis)) (by kernel_rfl) ⟨x7, q0⟩ (fun hHeld => ?_)
            refine takeY 0 (some 78) rfl rfl (by kernel_rfl) (by kernel_rfl) (by kernel_rfl) (fun _ _ _ h => h) (by rfl) (v := _) (by (intro _ hSw; (try dsimp only at hSw); go_simp; try with_reducible rfl)) hHeld ?_
            simp only [Act.put, List.setIfInBounds_toArray, List.set_cons_zero, List.set_cons_succ]
            refine takeY 1 (some 79) rfl rfl (by kernel_rfl) (by kernel_rfl) (by kernel_rfl) (fun _ _ _ h => h) (by rfl) (v := _) (by (intro _ hSw; (try dsimp only at hSw); go_simp; try with_reducible rfl)) hHeld ?_
            simp only [Act.put, List.setIfInBounds_toArray, List.set_cons_zero, List.set_cons_succ]
            refine takeY 2 (some 80) rfl rfl (by kernel_rfl) (by kernel_rfl) (by kernel_rfl) (fun _ _ _ h => h) (by rfl) (v := _) (by (intro _ hSw; (try dsimp only at hSw); go_simp; try with_reducible rfl)) hHeld ?_
            simp only [Act.put, List.setIfInBounds_toArray, List.set_cons_zero, List.set_cons_succ]
            refine takeY 3 (some 81) rfl rfl (by kernel_rfl) (by kernel_rfl) (by kernel_rfl) (fun _ _ _ h => h) (by rfl) (v := _) (by (intro _ hSw; (try dsimp only at hSw); go_simp; try with_reducible rfl)) hHeld ?_
            simp only [Act.put, List.setIfInBounds_toArray, List.set_cons_zero, List.set_cons_succ]
            refine takeY 4 (some 82) rfl rfl (by kernel_rfl) (by kernel_rfl) (by kernel_rfl) (fun _ _ _ h => h) (by rfl) (v := _) (by (intro _ hSw; (try dsimp only at hSw); go_simp; try with_reducible rfl)) hHeld ?_
            simp only [Act.put, List.setIfInBounds_toArray, List.set_cons_zero, List.set_cons_succ]
            refine takeY 5 (some 83) rfl rfl (by kernel_rfl) (by kernel_rfl) (by kernel_rfl) (fun _ _ _ h => h) (by rfl) (v := _) (by (intro _ hSw; (try dsimp only at hSw); go_simp; try with_reducible rfl)) hHeld ?_
            simp only [Act.put, List.setIfInBounds_toArray, List.set_cons_zero, List.set_cons_succ]
            refine takeY 6 (some 84) rfl rfl (by kernel_rfl) (by kernel_rfl) (by kernel_rfl) (fun _ _ _ h => h) (by rfl) (v := _) (by (intro _ hSw; (try dsimp only at hSw); go_simp; try with_reducible rfl)) hHeld ?_
            simp only [Act.put, List.setIfInBounds_toArray, List.set_cons_zero, List.set_cons_succ]
            refine wpAnyH_done (by kernel_rfl) ?_ _
            go_wp2_with fail
            go_loopw [11, 12] (fun vv kv wr => ∃ k : Nat, 1 ≤ k ∧ k ≤ 101 ∧ kv = .int .i64 (k : Int) ∧ Hid (IntsZ wr vv (nums (dl H2 k)) ∧ (∀ b, vv.ownBlock = some b → b ≠ q ∧ w.heap.size ≤ b) ∧ HR w wr (fun k => k = q ∨ vv.ownBlock = some k) g (2 * i + 2) H2 ∧ Blk wr q 4 (rowb (dB H2)))) (fun _ kv _ => 101 - (intOf kv).toNat)
            case atStart => exact ⟨1, by omega, by omega, rfl, Lib.hid ⟨by rw [dl_one HQ.out.2.ok]; exact IntsZ.nil _, (fun b h => by simp [Value.ownBlock] at h), HQ.out.2.less (fun k h => by rcases h with h | h; exact h; simp [Value.ownBlock] at h), HQ.out.1⟩⟩
            case round =>
              obtain ⟨k, hk1, hk2, rfl, hJ⟩ := hrel
              by_cases hlk : k ≤ 100
              · have hdk : decide ((k : Int) ≤ 100) = true := by simp; omega
                have hk101 : k < 101 := by omega
                have p0 : wr.cell? ⟨q, k, none⟩ = some (.bool (isD H2 (k : Int))) := by rw [hJ.out.2.2.2.cell, rowb_get (dB_get H2 hlk)]
                have hsucc := dl_succ hJ.out.2.2.1.ok k
                have hll := dl_len hJ.out.2.2.1.ok k (by have := HO.out.2.1.2; omega)
                obtain ⟨A9, c9, hvs, _, _⟩ := hJ.out.1.shape
                subst hvs
                obtain ⟨dk9, hdk9⟩ : ∃ x, isD H2 (k : Int) = x := ⟨_, rfl⟩
                rw [hdk9] at p0 hsucc
                clear hdk9
                cases dk9 with
                | false =>
                  have HS9 : Hid (dl H2 (k + 1) = dl H2 k) := Lib.hid (by rw [hsucc]; simp)
                  clear hsucc hll
                  go_wp2_with fail
                  go_roundw
                  case rel => exact ⟨k + 1, by omega, by omega, by go_num, Lib.hid ⟨by rw [HS9.out]; exact hJ.out.1, hJ.out.2⟩⟩
                  case measure => simp [intOf]; omega
                | true =>
                  have HS9 : Hid (dl H2 (k + 1) = dl H2 k ++ [k]) := Lib.hid (by rw [hsucc]; simp)
                  obtain ⟨wb, hwb⟩ : ∃ wb, wr.alloc (.cells #[.int .i64 (k : Int)] 3) = wb := ⟨_, rfl⟩
                  have hbb : Below wr.heap.size wr wb := by rw [← hwb]; exact (Below.refl _ _).alloc (Nat.le_refl _) _
                  have hBb : Blk wb wr.heap.size 3 #[.int .i64 (k : Int)] := by rw [← hwb]; exact Blk.new _ _ _
                  obtain ⟨v', w9, hrun, h2, h3, h4⟩ := (hJ.out.1.below0 hbb).push (k : Int) wr.heap.size (hBb.cell 0) (by rw [nums_len]; omega)
                  have hqb := hJ.out.2.2.2.below hbb hJ.out.2.2.2.lt
                  have hne : ∀ b, Value.ownBlock (.slice A9 (nums (dl H2 k)).length c9) = some b → b ≠ q ∧ w.heap.size ≤ b := hJ.out.2.1
                  have hoff : Off (fun b => Value.ownBlock (.slice A9 (nums (dl H2 k)).length c9) = some b) wb w9 := Off.of_grown h3
                  have HJ9 : Hid (IntsZ w9 v' (nums (dl H2 (k + 1))) ∧ (∀ b, v'.ownBlock = some b → b ≠ q ∧ w.heap.size ≤ b) ∧ Blk w9 q 4 (rowb (dB H2)) ∧ (∀ b, Value.ownBlock (.slice A9 (nums (dl H2 k)).length c9) = some b → b < wr.heap.size)) := Lib.hid ⟨by
                    rw [HS9.out]
                    have e : nums (dl H2 k ++ [k]) = nums (dl H2 k) ++ [(k : Int)] := by unfold nums; simp
                    rw [e]; exact h2, fun b hb => by
                      rcases h4 with h4 | h4
                      · rw [h4] at hb; exact hne b hb
                      · rw [h4] at hb
                        have := hJ.out.2.2.2.lt
                        have h8 := hbb.size
                        have : wb.heap.size = b := Option.some.inj hb
                        have h7 := hJ.out.2.2.1.bel.size
                        exact ⟨by omega, by omega⟩, hqb.same (hoff.block q hqb.lt fun e => (hne q e).1 rfl), fun b hb => hJ.out.1.lt b hb⟩
                  -- the heap is nobody else's
                  have HRX : Hid (HR w w9 (fun k => k = q ∨ v'.ownBlock = some k) g (2 * i + 2) H2) := Lib.hid (((hJ.out.2.2.1.below hbb).1).turnMore hoff (fun b e => ⟨.inr e, (hne b e).2⟩) fun b hb => by
                    rcases hb with hb | hb
                    · rw [hb]; exact ⟨Nat.lt_of_lt_of_le hqb.lt hoff.size, .inl (.inl rfl)⟩
                    · refine ⟨h2.lt b hb, ?_⟩
                      rcases h4 with h4 | h4
                      · rw [h4] at hb; exact .inl (.inr hb)
                      · rw [h4] at hb; exact .inr (Nat.le_of_eq (Option.some.inj hb)))
                  have HRUN := Lib.hid hrun
                  clear hsucc hll hbb hBb hrun h2 h3 h4 hqb hne hoff
                  go_wp2_with (at_builtin; refine wpList_app rfl _ _ 41 rfl _ _ _ _ rfl rfl HRUN.out ?_; clear HRUN)
                  go_roundw
                  case rel => exact ⟨k + 1, by omega, by omega, by go_num, Lib.hid ⟨HJ9.out.1, HJ9.out.2.1, HRX.out, HJ9.out.2.2.1⟩⟩
                  case measure => simp [intOf]; omega
              · have hkc : k = 101 := by omega
                subst hkc
                have hdk : decide (((101 : Nat) : Int) ≤ 100) = false := by decide
                have hall := dl_all hJ.out.2.2.1.ok (by have := HO.out.2.1.1; omega)
                have hz := hJ.out.1
                have hzb := hJ.out.2.2
                rw [hall] at hz
                obtain ⟨A9, c9, hvs, hle9, hmx9⟩ := hz.shape
                subst hvs
                have hrg : ∀ z ∈ nums (dirtyL H2), -9223372036854775808 ≤ z ∧ z < 9223372036854775808 := fun z hz => by
                  obtain ⟨v, hv, rfl⟩ := nums_mem.1 hz
                  obtain ⟨x, hx, _, rfl⟩ := dirtyL_mem.1 hv
                  have := hzb.1.ok.inn x hx
                  have := HO.out.2.1.1
                  omega
                have hints := (hz.ints hrg).2
                have HDI := Lib.hid (dirty_hr hzb.1 (by omega))
                obtain ⟨nd, hnd⟩ : ∃ nd, (nums (dirtyL H2)).length = nd := ⟨_, rfl⟩
                have hnd2 : (dirtyL H2).length = nd := by rw [← hnd, nums_len]
                rw [hnd] at hz ⊢
                rw [hnd2] at HDI
                have hndl : nd ≤ 100 := by
                  rw [← hnd2]
                  unfold dirtyL
                  rw [List.length_map]
                  exact Nat.le_trans (List.length_filter_le _ _) (by have := HO.out.2.1.2; omega)
                have HJZ := Lib.hid (And.intro hints (And.intro hzb hnd))
                clear hall hz hzb hrg hints hnd hnd2 hle9 hmx9 hJ
                go_wp2_with fail
                refine HDI.out.mono ?_
                rintro e wd ⟨A8, c8, rfl, hi8, _, hbd⟩
                have HSL := Lib.hid (samelist_ok A8 A9 nd c8 c9 (nums (dirtyL H2)) wd HJZ.out.2.2 (by omega) hi8 (HJZ.out.1.below hbd))
                have HRD := Lib.hid (And.intro ((HJZ.out.2.1.1.below hbd).1.less (Y := fun k => k = q) fun k h => .inl h) (HJZ.out.2.1.2.below hbd HJZ.out.2.1.2.lt))
                clear hi8 hbd HDI
                go_wp2_with fail
                refine HSL.out.mono ?_
                rintro e we ⟨rfl, hbe⟩
                have HRE := Lib.hid (And.intro (HRD.out.1.below hbe).1 (HRD.out.2.below hbe HRD.out.2.lt))
                clear hbe HSL
                go_wp2_with fail
                go_roundw
                case rel => exact ⟨i + 1, H2, by omega, by go_num, HO.out.2.1.1, Lib.hid ⟨HRE.out.1.mono (by omega), HO.out.2.1.2, HRE.out.2⟩⟩
                case measure => simp [intOf]; omega
          have k9b : (kd == 9) = false := by simpa using k9
          by_cases k5 : kd = 5
          · subst k5
            cases tis with
            | true =>
              have HQ : Hid (Blk (w4.setCell ⟨q, kn, none⟩ (.bool false)) q 4 (rowb (dB H2)) ∧ HR w (w4.setCell ⟨q, kn, none⟩ (.bool false)) (fun k => k = q) g (2 * i + 2) H2) := Lib.hid ⟨by rw [dB_set HDD.out.2 (HDD.out.1.2.2.1 (.inr (.inl ⟨rfl, rfl⟩))), ← rowb_set]; exact HR4.out.2.set_ kn _, HR4.out.1.turnX (Off.setc _ _ _ _) (fun k e => by have e' : k = q := e; exact ⟨e', by omega⟩)⟩
              go_wp2_with fail
              refine HO2.out.mono ?_
              rintro e v1 ⟨rfl, rfl⟩
              go_wp2_with fail
              go_loopw [11, 12] (fun vv kv wr => ∃ k : Nat, 1 ≤ k ∧ k ≤ 101 ∧ kv = .int .i64 (k : Int) ∧ Hid (IntsZ wr vv (nums (dl H2 k)) ∧ (∀ b, vv.ownBlock = some b → b ≠ q ∧ w.heap.size ≤ b) ∧ HR w wr (fun k => k = q ∨ vv.ownBlock = some k) g (2 * i + 2) H2 ∧ Blk wr q 4 (rowb (dB H2)))) (fun _ kv _ => 101 - (intOf kv).toNat)
              case atStart => exact ⟨1, by omega, by omega, rfl, Lib.hid ⟨by rw [dl_one HQ.out.2.ok]; exact IntsZ.nil _, (fun b h => by simp [Value.ownBlock] at h), HQ.out.2.less (fun k h => by rcases h with h | h; exact h; simp [Value.ownBlock] at h), HQ.out.1⟩⟩
              case round =>
                obtain ⟨k, hk1, hk2, rfl, hJ⟩ := hrel
                by_cases hlk : k ≤ 100
                · have hdk : decide ((k : Int) ≤ 100) = true := by simp; omega
                  have hk101 : k < 101 := by omega
                  have p0 : wr.cell? ⟨q, k, none⟩ = some (.bool (isD H2 (k : Int))) := by rw [hJ.out.2.2.2.cell, rowb_get (dB_get H2 hlk)]
                  have hsucc := dl_succ hJ.out.2.2.1.ok k
                  have hll := dl_len hJ.out.2.2.1.ok k (by have := HO.out.2.1.2; omega)
                  obtain ⟨A9, c9, hvs, _, _⟩ := hJ.out.1.shape
                  subst hvs
                  obtain ⟨dk9, hdk9⟩ : ∃ x, isD H2 (k : Int) = x := ⟨_, rfl⟩
                  rw [hdk9] at p0 hsucc
                  clear hdk9
                  cases dk9 with
                  | false =>
                    have HS9 : Hid (dl H2 (k + 1) = dl H2 k) := Lib.hid (by rw [hsucc]; simp)
                    clear hsucc hll
                    go_wp2_with fail
                    go_roundw
                    case rel => exact ⟨k + 1, by omega, by omega, by go_num, Lib.hid ⟨by rw [HS9.out]; exact hJ.out.1, hJ.out.2⟩⟩
                    case measure => simp [intOf]; omega
                  | true =>
                    have HS9 : Hid (dl H2 (k + 1) = dl H2 k ++ [k]) := Lib.hid (by rw [hsucc]; simp)
                    obtain ⟨wb, hwb⟩ : ∃ wb, wr.alloc (.cells #[.int .i64 (k : Int)] 3) = wb := ⟨_, rfl⟩
                    have hbb : Below wr.heap.size wr wb := by rw [← hwb]; exact (Below.refl _ _).alloc (Nat.le_refl _) _
                    have hBb : Blk wb wr.heap.size 3 #[.int .i64 (k : Int)] := by rw [← hwb]; exact Blk.new _ _ _
                    obtain ⟨v', w9, hrun, h2, h3, h4⟩ := (hJ.out.1.below0 hbb).push (k : Int) wr.heap.size (hBb.cell 0) (by rw [nums_len]; omega)
                    have hqb := hJ.out.2.2.2.below hbb hJ.out.2.2.2.lt
                    have hne : ∀ b, Value.ownBlock (.slice A9 (nums (dl H2 k)).length c9) = some b → b ≠ q ∧ w.heap.size ≤ b := hJ.out.2.1
                    have hoff : Off (fun b => Value.ownBlock (.slice A9 (nums (dl H2 k)).length c9) = some b) wb w9 := Off.of_grown h3
                    have HJ9 : Hid (IntsZ w9 v' (nums (dl H2 (k + 1))) ∧ (∀ b, v'.ownBlock = some b → b ≠ q ∧ w.heap.size ≤ b) ∧ Blk w9 q 4 (rowb (dB H2)) ∧ (∀ b, Value.ownBlock (.slice A9 (nums (dl H2 k)).length c9) = some b → b < wr.heap.size)) := Lib.hid ⟨by
                      rw [HS9.out]
                      have e : nums (dl H2 k ++ [k]) = nums (dl H2 k) ++ [(k : Int)] := by unfold nums; simp
                      rw [e]; exact h2, fun b hb => by
                        rcases h4 with h4 | h4
                        · rw [h4] at hb; exact hne b hb
                        · rw [h4] at hb
                          have := hJ.out.2.2.2.lt
                          have h8 := hbb.size
                          have : wb.heap.size = b := Option.some.inj hb
                          have h7 := hJ.out.2.2.1.bel.size
                          exact ⟨by omega, by omega⟩, hqb.same (hoff.block q hqb.lt fun e => (hne q e).1 rfl), fun b hb => hJ.out.1.lt b hb⟩
                    -- the heap is nobody else's
                    have HRX : Hid (HR w w9 (fun k => k = q ∨ v'.ownBlock = some k) g (2 * i + 2) H2) := Lib.hid (((hJ.out.2.2.1.below hbb).1).turnMore hoff (fun b e => ⟨.inr e, (hne b e).2⟩) fun b hb => by
                      rcases hb with hb | hb
                      · rw [hb]; exact ⟨Nat.lt_of_lt_of_le hqb.lt hoff.size, .inl (.inl rfl)⟩
                      · refine ⟨h2.lt b hb, ?_⟩
                        rcases h4 with h4 | h4
                        · rw [h4] at hb; exact .inl (.inr hb)
                        · rw [h4] at hb; exact .inr (Nat.le_of_eq (Option.some.inj hb)))
                    have HRUN := Lib.hid hrun
                    clear hsucc hll hbb hBb hrun h2 h3 h4 hqb hne hoff
                    go_wp2_with (at_builtin; refine wpList_app rfl _ _ 41 rfl _ _ _ _ rfl rfl HRUN.out ?_; clear HRUN)
                    go_roundw
                    case rel => exact ⟨k + 1, by omega, by omega, by go_num, Lib.hid ⟨HJ9.out.1, HJ9.out.2.1, HRX.out, HJ9.out.2.2.1⟩⟩
                    case measure => simp [intOf]; omega
                · have hkc : k = 101 := by omega
                  subst hkc
                  have hdk : decide (((101 : Nat) : Int) ≤ 100) = false := by decide
                  have hall := dl_all hJ.out.2.2.1.ok (by have := HO.out.2.1.1; omega)
                  have hz := hJ.out.1
                  have hzb := hJ.out.2.2
                  rw [hall] at hz
                  obtain ⟨A9, c9, hvs, hle9, hmx9⟩ := hz.shape
                  subst hvs
                  have hrg : ∀ z ∈ nums (dirtyL H2), -9223372036854775808 ≤ z ∧ z < 9223372036854775808 := fun z hz => by
                    obtain ⟨v, hv, rfl⟩ := nums_mem.1 hz
                    obtain ⟨x, hx, _, rfl⟩ := dirtyL_mem.1 hv
                    have := hzb.1.ok.inn x hx
                    have := HO.out.2.1.1
                    omega
                  have hints := (hz.ints hrg).2
                  have HDI := Lib.hid (dirty_hr hzb.1 (by omega))
                  obtain ⟨nd, hnd⟩ : ∃ nd, (nums (dirtyL H2)).length = nd := ⟨_, rfl⟩
                  have hnd2 : (dirtyL H2).length = nd := by rw [← hnd, nums_len]
                  rw [hnd] at hz ⊢
                  rw [hnd2] at HDI
                  have hndl : nd ≤ 100 := by
                    rw [← hnd2]
                    unfold dirtyL
                    rw [List.length_map]
                    exact Nat.le_trans (List.length_filter_le _ _) (by have := HO.out.2.1.2; omega)
                  have HJZ := Lib.hid (And.intro hints (And.intro hzb hnd))
                  clear hall hz hzb hrg hints hnd hnd2 hle9 hmx9 hJ
                  go_wp2_with fail
                  refine HDI.out.mono ?_
                  rintro e wd ⟨A8, c8, rfl, hi8, _, hbd⟩
                  have HSL := Lib.hid (samelist_ok A8 A9 nd c8 c9 (nums (dirtyL H2)) wd HJZ.out.2.2 (by omega) hi8 (HJZ.out.1.below hbd))
                  have HRD := Lib.hid (And.intro ((HJZ.out.2.1.1.below hbd).1.less (Y := fun k => k = q) fun k h => .inl h) (HJZ.out.2.1.2.below hbd HJZ.out.2.1.2.lt))
                  clear hi8 hbd HDI
                  go_wp2_with fail
                  refine HSL.out.mono ?_
                  rintro e we ⟨rfl, hbe⟩
                  have HRE := Lib.hid (And.intro (HRD.out.1.below hbe).1 (HRD.out.2.below hbe HRD.out.2.lt))
                  clear hbe HSL
                  go_wp2_with fail
                  go_roundw
                  case rel => exact ⟨i + 1, H2, by omega, by go_num, HO.out.2.1.1, Lib.hid ⟨HRE.out.1.mono (by omega), HO.out.2.1.2, HRE.out.2⟩⟩
                  case measure => simp [intOf]; omega
            | false =>
              have HQ : Hid (Blk w4 q 4 (rowb (dB H2)) ∧ HR w w4 (fun k => k = q) g (2 * i + 2) H2) := Lib.hid ⟨by rw [dB_same (HDD.out.1.2.2.2 (fun h => by cases h.2) (by omega) (fun h => by cases h.2) (fun h => by have := h.1; omega))]; exact HR4.out.2, HR4.out.1⟩
              go_wp2_with fail
              refine HO2.out.mono ?_
              rintro e v1 ⟨rfl, rfl⟩
              go_wp2_with fail
              go_loopw [11, 12] (fun vv kv wr => ∃ k : Nat, 1 ≤ k ∧ k ≤ 101 ∧ kv = .int .i64 (k : Int) ∧ Hid (IntsZ wr vv (nums (dl H2 k)) ∧ (∀ b, vv.ownBlock = some b → b ≠ q ∧ w.heap.size ≤ b) ∧ HR w wr (fun k => k = q ∨ vv.ownBlock = some k) g (2 * i + 2) H2 ∧ Blk wr q 4 (rowb (dB H2)))) (fun _ kv _ => 101 - (intOf kv).toNat)
              case atStart => exact ⟨1, by omega, by omega, rfl, Lib.hid ⟨by rw [dl_one HQ.out.2.ok]; exact IntsZ.nil _, (fun b h => by simp [Value.ownBlock] at h), HQ.out.2.less (fun k h => by rcases h with h | h; exact h; simp [Value.ownBlock] at h), HQ.out.1⟩⟩
              case round =>
                obtain ⟨k, hk1, hk2, rfl, hJ⟩ := hrel
                by_cases hlk : k ≤ 100
                · have hdk : decide ((k : Int) ≤ 100) = true := by simp; omega
                  have hk101 : k < 101 := by omega
                  have p0 : wr.cell? ⟨q, k, none⟩ = some (.bool (isD H2 (k : Int))) := by rw [hJ.out.2.2.2.cell, rowb_get (dB_get H2 hlk)]
                  have hsucc := dl_succ hJ.out.2.2.1.ok k
                  have hll := dl_len hJ.out.2.2.1.ok k (by have := HO.out.2.1.2; omega)
                  obtain ⟨A9, c9, hvs, _, _⟩ := hJ.out.1.shape
                  subst hvs
                  obtain ⟨dk9, hdk9⟩ : ∃ x, isD H2 (k : Int) = x := ⟨_, rfl⟩
                  rw [hdk9] at p0 hsucc
                  clear hdk9
                  cases dk9 with
                  | false =>
                    have HS9 : Hid (dl H2 (k + 1) = dl H2 k) := Lib.hid (by rw [hsucc]; simp)
                    clear hsucc hll
                    go_wp2_with fail
                    go_roundw
                    case rel => exact ⟨k + 1, by omega, by omega, by go_num, Lib.hid ⟨by rw [HS9.out]; exact hJ.out.1, hJ.out.2⟩⟩
                    case measure => simp [intOf]; omega
                  | true =>
                    have HS9 : Hid (dl H2 (k + 1) = dl H2 k ++ [k]) := Lib.hid (by rw [hsucc]; simp)
                    obtain ⟨wb, hwb⟩ : ∃ wb, wr.alloc (.cells #[.int .i64 (k : Int)] 3) = wb := ⟨_, rfl⟩
                    have hbb : Below wr.heap.size wr wb := by rw [← hwb]; exact (Below.refl _ _).alloc (Nat.le_refl _) _
                    have hBb : Blk wb wr.heap.size 3 #[.int .i64 (k : Int)] := by rw [← hwb]; exact Blk.new _ _ _
                    obtain ⟨v', w9, hrun, h2, h3, h4⟩ := (hJ.out.1.below0 hbb).push (k : Int) wr.heap.size (hBb.cell 0) (by rw [nums_len]; omega)
                    have hqb := hJ.out.2.2.2.below hbb hJ.out.2.2.2.lt
                    have hne : ∀ b, Value.ownBlock (.slice A9 (nums (dl H2 k)).length c9) = some b → b ≠ q ∧ w.heap.size ≤ b := hJ.out.2.1
                    have hoff : Off (fun b => Value.ownBlock (.slice A9 (nums (dl H2 k)).length c9) = some b) wb w9 := Off.of_grown h3
                    have HJ9 : Hid (IntsZ w9 v' (nums (dl H2 (k + 1))) ∧ (∀ b, v'.ownBlock = some b → b ≠ q ∧ w.heap.size ≤ b) ∧ Blk w9 q 4 (rowb (dB H2)) ∧ (∀ b, Value.ownBlock (.slice A9 (nums (dl H2 k)).length c9) = some b → b < wr.heap.size)) := Lib.hid ⟨by
                      rw [HS9.out]
                      have e : nums (dl H2 k ++ [k]) = nums (dl H2 k) ++ [(k : Int)] := by unfold nums; simp
                      rw [e]; exact h2, fun b hb => by
                        rcases h4 with h4 | h4
                        · rw [h4] at hb; exact hne b hb
                        · rw [h4] at hb
                          have := hJ.out.2.2.2.lt
                          have h8 := hbb.size
                          have : wb.heap.size = b := Option.some.inj hb
                          have h7 := hJ.out.2.2.1.bel.size
                          exact ⟨by omega, by omega⟩, hqb.same (hoff.block q hqb.lt fun e => (hne q e).1 rfl), fun b hb => hJ.out.1.lt b hb⟩
                    -- the heap is nobody else's
                    have HRX : Hid (HR w w9 (fun k => k = q ∨ v'.ownBlock = some k) g (2 * i + 2) H2) := Lib.hid (((hJ.out.2.2.1.below hbb).1).turnMore hoff (fun b e => ⟨.inr e, (hne b e).2⟩) fun b hb => by
                      rcases hb with hb | hb
                      · rw [hb]; exact ⟨Nat.lt_of_lt_of_le hqb.lt hoff.size, .inl (.inl rfl)⟩
                      · refine ⟨h2.lt b hb, ?_⟩
                        rcases h4 with h4 | h4
                        · rw [h4] at hb; exact .inl (.inr hb)
                        · rw [h4] at hb; exact .inr (Nat.le_of_eq (Option.some.inj hb)))
                    have HRUN := Lib.hid hrun
                    clear hsucc hll hbb hBb hrun h2 h3 h4 hqb hne hoff
                    go_wp2_with (at_builtin; refine wpList_app rfl _ _ 41 rfl _ _ _ _ rfl rfl HRUN.out ?_; clear HRUN)
                    go_roundw
                    case rel => exact ⟨k + 1, by omega, by omega, by go_num, Lib.hid ⟨HJ9.out.1, HJ9.out.2.1, HRX.out, HJ9.out.2.2.1⟩⟩
                    case measure => simp [intOf]; omega
                · have hkc : k = 101 := by omega
                  subst hkc
                  have hdk : decide (((101 : Nat) : Int) ≤ 100) = false := by decide
                  have hall := dl_all hJ.out.2.2.1.ok (by have := HO.out.2.1.1; omega)
                  have hz := hJ.out.1
                  have hzb := hJ.out.2.2
                  rw [hall] at hz
                  obtain ⟨A9, c9, hvs, hle9, hmx9⟩ := hz.shape
                  subst hvs
                  have hrg : ∀ z ∈ nums (dirtyL H2), -9223372036854775808 ≤ z ∧ z < 9223372036854775808 := fun z hz => by
                    obtain ⟨v, hv, rfl⟩ := nums_mem.1 hz
                    obtain ⟨x, hx, _, rfl⟩ := dirtyL_mem.1 hv
                    have := hzb.1.ok.inn x hx
                    have := HO.out.2.1.1
                    omega
                  have hints := (hz.ints hrg).2
                  have HDI := Lib.hid (dirty_hr hzb.1 (by omega))
                  obtain ⟨nd, hnd⟩ : ∃ nd, (nums (dirtyL H2)).length = nd := ⟨_, rfl⟩
                  have hnd2 : (dirtyL H2).length = nd := by rw [← hnd, nums_len]
                  rw [hnd] at hz ⊢
                  rw [hnd2] at HDI
                  have hndl : nd ≤ 100 := by
                    rw [← hnd2]
                    unfold dirtyL
                    rw [List.length_map]
                    exact Nat.le_trans (List.length_filter_le _ _) (by have := HO.out.2.1.2; omega)
                  have HJZ := Lib.hid (And.intro hints (And.intro hzb hnd))
                  clear hall hz hzb hrg hints hnd hnd2 hle9 hmx9 hJ
                  go_wp2_with fail
                  refine HDI.out.mono ?_
                  rintro e wd ⟨A8, c8, rfl, hi8, _, hbd⟩
                  have HSL := Lib.hid (samelist_ok A8 A9 nd c8 c9 (nums (dirtyL H2)) wd HJZ.out.2.2 (by omega) hi8 (HJZ.out.1.below hbd))
                  have HRD := Lib.hid (And.intro ((HJZ.out.2.1.1.below hbd).1.less (Y := fun k => k = q) fun k h => .inl h) (HJZ.out.2.1.2.below hbd HJZ.out.2.1.2.lt))
                  clear hi8 hbd HDI
                  go_wp2_with fail
                  refine HSL.out.mono ?_
                  rintro e we ⟨rfl, hbe⟩
                  have HRE := Lib.hid (And.intro (HRD.out.1.below hbe).1 (HRD.out.2.below hbe HRD.out.2.lt))
                  clear hbe HSL
                  go_wp2_with fail
                  go_roundw
                  case rel => exact ⟨i + 1, H2, by omega, by go_num, HO.out.2.1.1, Lib.hid ⟨HRE.out.1.mono (by omega), HO.out.2.1.2, HRE.out.2⟩⟩
                  case measure => simp [intOf]; omega
          have k5b : (kd == 5) = false := by simpa using k5
          by_cases k4 : kd = 4
          · subst k4
            by_cases t0 : te = 0
            · have t0b : ((te : Int) == 0) = true := by simp; omega
              have HQ : Hid (Blk (w4.setCell ⟨q, kn, none⟩ (.bool false)) q 4 (rowb (dB H2)) ∧ HR w (w4.setCell ⟨q, kn, none⟩ (.bool false)) (fun k => k = q) g (2 * i + 2) H2) := Lib.hid ⟨by rw [dB_set HDD.out.2 (HDD.out.1.2.2.1 (.inr (.inr ⟨rfl, t0⟩))), ← rowb_set]; exact HR4.out.2.set_ kn _, HR4.out.1.turnX (Off.setc _ _ _ _) (fun k e => by have e' : k = q := e; exact ⟨e', by omega⟩)⟩
              clear t0
              go_wp2_with fail
              refine HO2.out.mono ?_
              rintro e v1 ⟨rfl, rfl⟩
              go_wp2_with fail
              go_loopw [11, 12] (fun vv kv wr => ∃ k : Nat, 1 ≤ k ∧ k ≤ 101 ∧ kv = .int .i64 (k : Int) ∧ Hid (IntsZ wr vv (nums (dl H2 k)) ∧ (∀ b, vv.ownBlock = some b → b ≠ q ∧ w.heap.size ≤ b) ∧ HR w wr (fun k => k = q ∨ vv.ownBlock = some k) g (2 * i + 2) H2 ∧ Blk wr q 4 (rowb (dB H2)))) (fun _ kv _ => 101 - (intOf kv).toNat)
              case atStart => exact ⟨1, by omega, by omega, rfl, Lib.hid ⟨by rw [dl_one HQ.out.2.ok]; exact IntsZ.nil _, (fun b h => by simp [Value.ownBlock] at h), HQ.out.2.less (fun k h => by rcases h with h | h; exact h; simp [Value.ownBlock] at h), HQ.out.1⟩⟩
              case round =>
                obtain ⟨k, hk1, hk2, rfl, hJ⟩ := hrel
                by_cases hlk : k ≤ 100
                · have hdk : decide ((k : Int) ≤ 100) = true := by simp; omega
                  have hk101 : k < 101 := by omega
                  have p0 : wr.cell? ⟨q, k, none⟩ = some (.bool (isD H2 (k : Int))) := by rw [hJ.out.2.2.2.cell, rowb_get (dB_get H2 hlk)]
                  have hsucc := dl_succ hJ.out.2.2.1.ok k
                  have hll := dl_len hJ.out.2.2.1.ok k (by have := HO.out.2.1.2; omega)
                  obtain ⟨A9, c9, hvs, _, _⟩ := hJ.out.1.shape
                  subst hvs
                  obtain ⟨dk9, hdk9⟩ : ∃ x, isD H2 (k : Int) = x := ⟨_, rfl⟩
                  rw [hdk9] at p0 hsucc
                  clear hdk9
                  cases dk9 with
                  | false =>
                    have HS9 : Hid (dl H2 (k + 1) = dl H2 k) := Lib.hid (by rw [hsucc]; simp)
                    clear hsucc hll
                    go_wp2_with fail
                    go_roundw
                    case rel => exact ⟨k + 1, by omega, by omega, by go_num, Lib.hid ⟨by rw [HS9.out]; exact hJ.out.1, hJ.out.2⟩⟩
                    case measure => simp [intOf]; omega
                  | true =>
                    have HS9 : Hid (dl H2 (k + 1) = dl H2 k ++ [k]) := Lib.hid (by rw [hsucc]; simp)
                    obtain ⟨wb, hwb⟩ : ∃ wb, wr.alloc (.cells #[.int .i64 (k : Int)] 3) = wb := ⟨_, rfl⟩
                    have hbb : Below wr.heap.size wr wb := by rw [← hwb]; exact (Below.refl _ _).alloc (Nat.le_refl _) _
                    have hBb : Blk wb wr.heap.size 3 #[.int .i64 (k : Int)] := by rw [← hwb]; exact Blk.new _ _ _
                    obtain ⟨v', w9, hrun, h2, h3, h4⟩ := (hJ.out.1.below0 hbb).push (k : Int) wr.heap.size (hBb.cell 0) (by rw [nums_len]; omega)
                    have hqb := hJ.out.2.2.2.below hbb hJ.out.2.2.2.lt
                    have hne : ∀ b, Value.ownBlock (.slice A9 (nums (dl H2 k)).length c9) = some b → b ≠ q ∧ w.heap.size ≤ b := hJ.out.2.1
                    have hoff : Off (fun b => Value.ownBlock (.slice A9 (nums (dl H2 k)).length c9) = some b) wb w9 := Off.of_grown h3
                    have HJ9 : Hid (IntsZ w9 v' (nums (dl H2 (k + 1))) ∧ (∀ b, v'.ownBlock = some b → b ≠ q ∧ w.heap.size ≤ b) ∧ Blk w9 q 4 (rowb (dB H2)) ∧ (∀ b, Value.ownBlock (.slice A9 (nums (dl H2 k)).length c9) = some b → b < wr.heap.size)) := Lib.hid ⟨by
                      rw [HS9.out]
                      have e : nums (dl H2 k ++ [k]) = nums (dl H2 k) ++ [(k : Int)] := by unfold nums; simp
                      rw [e]; exact h2, fun b hb => by
                        rcases h4 with h4 | h4
                        · rw [h4] at hb; exact hne b hb
                        · rw [h4] at hb
                          have := hJ.out.2.2.2.lt
                          have h8 := hbb.size
                          have : wb.heap.size = b := Option.some.inj hb
                          have h7 := hJ.out.2.2.1.bel.size
                          exact ⟨by omega, by omega⟩, hqb.same (hoff.block q hqb.lt fun e => (hne q e).1 rfl), fun b hb => hJ.out.1.lt b hb⟩
                    -- the heap is nobody else's
                    have HRX : Hid (HR w w9 (fun k => k = q ∨ v'.ownBlock = some k) g (2 * i + 2) H2) := Lib.hid (((hJ.out.2.2.1.below hbb).1).turnMore hoff (fun b e => ⟨.inr e, (hne b e).2⟩) fun b hb => by
                      rcases hb with hb | hb
                      · rw [hb]; exact ⟨Nat.lt_of_lt_of_le hqb.lt hoff.size, .inl (.inl rfl)⟩
                      · refine ⟨h2.lt b hb, ?_⟩
                        rcases h4 with h4 | h4
                        · rw [h4] at hb; exact .inl (.inr hb)
                        · rw [h4] at hb; exact .inr (Nat.le_of_eq (Option.some.inj hb)))
                    have HRUN := Lib.hid hrun
                    clear hsucc hll hbb hBb hrun h2 h3 h4 hqb hne hoff
                    go_wp2_with (at_builtin; refine wpList_app rfl _ _ 41 rfl _ _ _ _ rfl rfl HRUN.out ?_; clear HRUN)
                    go_roundw
                    case rel => exact ⟨k + 1, by omega, by omega, by go_num, Lib.hid ⟨HJ9.out.1, HJ9.out.2.1, HRX.out, HJ9.out.2.2.1⟩⟩
                    case measure => simp [intOf]; omega
                · have hkc : k = 101 := by omega
                  subst hkc
                  have hdk : decide (((101 : Nat) : Int) ≤ 100) = false := by decide
                  have hall := dl_all hJ.out.2.2.1.ok (by have := HO.out.2.1.1; omega)
                  have hz := hJ.out.1
                  have hzb := hJ.out.2.2
                  rw [hall] at hz
                  obtain ⟨A9, c9, hvs, hle9, hmx9⟩ := hz.shape
                  subst hvs
                  have hrg : ∀ z ∈ nums (dirtyL H2), -9223372036854775808 ≤ z ∧ z < 9223372036854775808 := fun z hz => by
                    obtain ⟨v, hv, rfl⟩ := nums_mem.1 hz
                    obtain ⟨x, hx, _, rfl⟩ := dirtyL_mem.1 hv
                    have := hzb.1.ok.inn x hx
                    have := HO.out.2.1.1
                    omega
                  have hints := (hz.ints hrg).2
                  have HDI := Lib.hid (dirty_hr hzb.1 (by omega))
                  obtain ⟨nd, hnd⟩ : ∃ nd, (nums (dirtyL H2)).length = nd := ⟨_, rfl⟩
                  have hnd2 : (dirtyL H2).length = nd := by rw [← hnd, nums_len]
                  rw [hnd] at hz ⊢
                  rw [hnd2] at HDI
                  have hndl : nd ≤ 100 := by
                    rw [← hnd2]
                    unfold dirtyL
                    rw [List.length_map]
                    exact Nat.le_trans (List.length_filter_le _ _) (by have := HO.out.2.1.2; omega)
                  have HJZ := Lib.hid (And.intro hints (And.intro hzb hnd))
                  clear hall hz hzb hrg hints hnd hnd2 hle9 hmx9 hJ
                  go_wp2_with fail
                  refine HDI.out.mono ?_
                  rintro e wd ⟨A8, c8, rfl, hi8, _, hbd⟩
                  have HSL := Lib.hid (samelist_ok A8 A9 nd c8 c9 (nums (dirtyL H2)) wd HJZ.out.2.2 (by omega) hi8 (HJZ.out.1.below hbd))
                  have HRD := Lib.hid (And.intro ((HJZ.out.2.1.1.below hbd).1.less (Y := fun k => k = q) fun k h => .inl h) (HJZ.out.2.1.2.below hbd HJZ.out.2.1.2.lt))
                  clear hi8 hbd HDI
                  go_wp2_with fail
                  refine HSL.out.mono ?_
                  rintro e we ⟨rfl, hbe⟩
                  have HRE := Lib.hid (And.intro (HRD.out.1.below hbe).1 (HRD.out.2.below hbe HRD.out.2.lt))
                  clear hbe HSL
                  go_wp2_with fail
                  go_roundw
                  case rel => exact ⟨i + 1, H2, by omega, by go_num, HO.out.2.1.1, Lib.hid ⟨HRE.out.1.mono (by omega), HO.out.2.1.2, HRE.out.2⟩⟩
                  case measure => simp [intOf]; omega
            · have t0b : ((te : Int) == 0) = false := by simp; omega
              have HQ : Hid (Blk w4 q 4 (rowb (dB H2)) ∧ HR w w4 (fun k => k = q) g (2 * i + 2) H2) := Lib.hid ⟨by rw [dB_same (HDD.out.1.2.2.2 (fun h => by have := h.1; omega) (by omega) (fun h => by have := h.1; omega) (fun h => t0 h.2))]; exact HR4.out.2, HR4.out.1⟩
              go_wp2_with fail
              refine HO2.out.mono ?_
              rintro e v1 ⟨rfl, rfl⟩
              go_wp2_with fail
              go_loopw [11, 12] (fun vv kv wr => ∃ k : Nat, 1 ≤ k ∧ k ≤ 101 ∧ kv = .int .i64 (k : Int) ∧ Hid (IntsZ wr vv (nums (dl H2 k)) ∧ (∀ b, vv.ownBlock = some b → b ≠ q ∧ w.heap.size ≤ b) ∧ HR w wr (fun k => k = q ∨ vv.ownBlock = some k) g (2 * i + 2) H2 ∧ Blk wr q 4 (rowb (dB H2)))) (fun _ kv _ => 101 - (intOf kv).toNat)
              case atStart => exact ⟨1, by omega, by omega, rfl, Lib.hid ⟨by rw [dl_one HQ.out.2.ok]; exact IntsZ.nil _, (fun b h => by simp [Value.ownBlock] at h), HQ.out.2.less (fun k h => by rcases h with h | h; exact h; simp [Value.ownBlock] at h), HQ.out.1⟩⟩
              case round =>
                obtain ⟨k, hk1, hk2, rfl, hJ⟩ := hrel
                by_cases hlk : k ≤ 100
                · have hdk : decide ((k : Int) ≤ 100) = true := by simp; omega
                  have hk101 : k < 101 := by omega
                  have p0 : wr.cell? ⟨q, k, none⟩ = some (.bool (isD H2 (k : Int))) := by rw [hJ.out.2.2.2.cell, rowb_get (dB_get H2 hlk)]
                  have hsucc := dl_succ hJ.out.2.2.1.ok k
                  have hll := dl_len hJ.out.2.2.1.ok k (by have := HO.out.2.1.2; omega)
                  obtain ⟨A9, c9, hvs, _, _⟩ := hJ.out.1.shape
                  subst hvs
                  obtain ⟨dk9, hdk9⟩ : ∃ x, isD H2 (k : Int) = x := ⟨_, rfl⟩
                  rw [hdk9] at p0 hsucc
                  clear hdk9
                  cases dk9 with
                  | false =>
                    have HS9 : Hid (dl H2 (k + 1) = dl H2 k) := Lib.hid (by rw [hsucc]; simp)
                    clear hsucc hll
                    go_wp2_with fail
                    go_roundw
                    case rel => exact ⟨k + 1, by omega, by omega, by go_num, Lib.hid ⟨by rw [HS9.out]; exact hJ.out.1, hJ.out.2⟩⟩
                    case measure => simp [intOf]; omega
                  | true =>
                    have HS9 : Hid (dl H2 (k + 1) = dl H2 k ++ [k]) := Lib.hid (by rw [hsucc]; simp)
                    obtain ⟨wb, hwb⟩ : ∃ wb, wr.alloc (.cells #[.int .i64 (k : Int)] 3) = wb := ⟨_, rfl⟩
                    have hbb : Below wr.heap.size wr wb := by rw [← hwb]; exact (Below.refl _ _).alloc (Nat.le_refl _) _
                    have hBb : Blk wb wr.heap.size 3 #[.int .i64 (k : Int)] := by rw [← hwb]; exact Blk.new _ _ _
                    obtain ⟨v', w9, hrun, h2, h3, h4⟩ := (hJ.out.1.below0 hbb).push (k : Int) wr.heap.size (hBb.cell 0) (by rw [nums_len]; omega)
                    have hqb := hJ.out.2.2.2.below hbb hJ.out.2.2.2.lt
                    have hne : ∀ b, Value.ownBlock (.slice A9 (nums (dl H2 k)).length c9) = some b → b ≠ q ∧ w.heap.size ≤ b := hJ.out.2.1
                    have hoff : Off (fun b => Value.ownBlock (.slice A9 (nums (dl H2 k)).length c9) = some b) wb w9 := Off.of_grown h3
                    have HJ9 : Hid (IntsZ w9 v' (nums (dl H2 (k + 1))) ∧ (∀ b, v'.ownBlock = some b → b ≠ q ∧ w.heap.size ≤ b) ∧ Blk w9 q 4 (rowb (dB H2)) ∧ (∀ b, Value.ownBlock (.slice A9 (nums (dl H2 k)).length c9) = some b → b < wr.heap.size)) := Lib.hid ⟨by
                      rw [HS9.out]
                      have e : nums (dl H2 k ++ [k]) = nums (dl H2 k) ++ [(k : Int)] := by unfold nums; simp
                      rw [e]; exact h2, fun b hb => by
                        rcases h4 with h4 | h4
                        · rw [h4] at hb; exact hne b hb
                        · rw [h4] at hb
                          have := hJ.out.2.2.2.lt
                          have h8 := hbb.size
                          have : wb.heap.size = b := Option.some.inj hb
                          have h7 := hJ.out.2.2.1.bel.size
                          exact ⟨by omega, by omega⟩, hqb.same (hoff.block q hqb.lt fun e => (hne q e).1 rfl), fun b hb => hJ.out.1.lt b hb⟩
                    -- the heap is nobody else's
                    have HRX : Hid (HR w w9 (fun k => k = q ∨ v'.ownBlock = some k) g (2 * i + 2) H2) := Lib.hid (((hJ.out.2.2.1.below hbb).1).turnMore hoff (fun b e => ⟨.inr e, (hne b e).2⟩) fun b hb => by
                      rcases hb with hb | hb
                      · rw [hb]; exact ⟨Nat.lt_of_lt_of_le hqb.lt hoff.size, .inl (.inl rfl)⟩
                      · refine ⟨h2.lt b hb, ?_⟩
                        rcases h4 with h4 | h4
                        · rw [h4] at hb; exact .inl (.inr hb)
                        · rw [h4] at hb; exact .inr (Nat.le_of_eq (Option.some.inj hb)))
                    have HRUN := Lib.hid hrun
                    clear hsucc hll hbb hBb hrun h2 h3 h4 hqb hne hoff
                    go_wp2_with (at_builtin; refine wpList_app rfl _ _ 41 rfl _ _ _ _ rfl rfl HRUN.out ?_; clear HRUN)
                    go_roundw
                    case rel => exact ⟨k + 1, by omega, by omega, by go_num, Lib.hid ⟨HJ9.out.1, HJ9.out.2.1, HRX.out, HJ9.out.2.2.1⟩⟩
                    case measure => simp [intOf]; omega
                · have hkc : k = 101 := by omega
                  subst hkc
                  have hdk : decide (((101 : Nat) : Int) ≤ 100) = false := by decide
                  have hall := dl_all hJ.out.2.2.1.ok (by have := HO.out.2.1.1; omega)
                  have hz := hJ.out.1
                  have hzb := hJ.out.2.2
                  rw [hall] at hz
                  obtain ⟨A9, c9, hvs, hle9, hmx9⟩ := hz.shape
                  subst hvs
                  have hrg : ∀ z ∈ nums (dirtyL H2), -9223372036854775808 ≤ z ∧ z < 9223372036854775808 := fun z hz => by
                    obtain ⟨v, hv, rfl⟩ := nums_mem.1 hz
                    obtain ⟨x, hx, _, rfl⟩ := dirtyL_mem.1 hv
                    have := hzb.1.ok.inn x hx
                    have := HO.out.2.1.1
                    omega
                  have hints := (hz.ints hrg).2
                  have HDI := Lib.hid (dirty_hr hzb.1 (by omega))
                  obtain ⟨nd, hnd⟩ : ∃ nd, (nums (dirtyL H2)).length = nd := ⟨_, rfl⟩
                  have hnd2 : (dirtyL H2).length = nd := by rw [← hnd, nums_len]
                  rw [hnd] at hz ⊢
                  rw [hnd2] at HDI
                  have hndl : nd ≤ 100 := by
                    rw [← hnd2]
                    unfold dirtyL
                    rw [List.length_map]
                    exact Nat.le_trans (List.length_filter_le _ _) (by have := HO.out.2.1.2; omega)
                  have HJZ := Lib.hid (And.intro hints (And.intro hzb hnd))
                  clear hall hz hzb hrg hints hnd hnd2 hle9 hmx9 hJ
                  go_wp2_with fail
                  refine HDI.out.mono ?_
                  rintro e wd ⟨A8, c8, rfl, hi8, _, hbd⟩
                  have HSL := Lib.hid (samelist_ok A8 A9 nd c8 c9 (nums (dirtyL H2)) wd HJZ.out.2.2 (by omega) hi8 (HJZ.out.1.below hbd))
                  have HRD := Lib.hid (And.intro ((HJZ.out.2.1.1.below hbd).1.less (Y := fun k => k = q) fun k h => .inl h) (HJZ.out.2.1.2.below hbd HJZ.out.2.1.2.lt))
                  clear hi8 hbd HDI
                  go_wp2_with fail
                  refine HSL.out.mono ?_
                  rintro e we ⟨rfl, hbe⟩
                  have HRE := Lib.hid (And.intro (HRD.out.1.below hbe).1 (HRD.out.2.below hbe HRD.out.2.lt))
                  clear hbe HSL
                  go_wp2_with fail
                  go_roundw
                  case rel => exact ⟨i + 1, H2, by omega, by go_num, HO.out.2.1.1, Lib.hid ⟨HRE.out.1.mono (by omega), HO.out.2.1.2, HRE.out.2⟩⟩
                  case measure => simp [intOf]; omega
          have k4b : (kd == 4) = false := by simpa using k4
          have HQ : Hid (Blk w4 q 4 (rowb (dB H2)) ∧ HR w w4 (fun k => k = q) g (2 * i + 2) H2) := Lib.hid ⟨by rw [dB_same (HDD.out.1.2.2.2 (fun h => k3 h.1) k9 (fun h => k5 h.1) (fun h => k4 h.1))]; exact HR4.out.2, HR4.out.1⟩
          go_wp2_with fail
          refine HO2.out.mono ?_
          rintro e v1 ⟨rfl, rfl⟩
          go_wp2_with fail
          go_loopw [11, 12] (fun vv kv wr => ∃ k : Nat, 1 ≤ k ∧ k ≤ 101 ∧ kv = .int .i64 (k : Int) ∧ Hid (IntsZ wr vv (nums (dl H2 k)) ∧ (∀ b, vv.ownBlock = some b → b ≠ q ∧ w.heap.size ≤ b) ∧ HR w wr (fun k => k = q ∨ vv.ownBlock = some k) g (2 * i + 2) H2 ∧ Blk wr q 4 (rowb (dB H2)))) (fun _ kv _ => 101 - (intOf kv).toNat)
          case atStart => exact ⟨1, by omega, by omega, rfl, Lib.hid ⟨by rw [dl_one HQ.out.2.ok]; exact IntsZ.nil _, (fun b h => by simp [Value.ownBlock] at h), HQ.out.2.less (fun k h => by rcases h with h | h; exact h; simp [Value.ownBlock] at h), HQ.out.1⟩⟩
          case round =>
            obtain ⟨k, hk1, hk2, rfl, hJ⟩ := hrel
            by_cases hlk : k ≤ 100
            · have hdk : decide ((k : Int) ≤ 100) = true := by simp; omega
              have hk101 : k < 101 := by omega
              have p0 : wr.cell? ⟨q, k, none⟩ = some (.bool (isD H2 (k : Int))) := by rw [hJ.out.2.2.2.cell, rowb_get (dB_get H2 hlk)]
              have hsucc := dl_succ hJ.out.2.2.1.ok k
              have hll := dl_len hJ.out.2.2.1.ok k (by have := HO.out.2.1.2; omega)
              obtain ⟨A9, c9, hvs, _, _⟩ := hJ.out.1.shape
              subst hvs
              obtain ⟨dk9, hdk9⟩ : ∃ x, isD H2 (k : Int) = x := ⟨_, rfl⟩
              rw [hdk9] at p0 hsucc
              clear hdk9
              cases dk9 with
              | false =>
                have HS9 : Hid (dl H2 (k + 1) = dl H2 k) := Lib.hid (by rw [hsucc]; simp)
                clear hsucc hll
                go_wp2_with fail
                go_roundw
                case rel => exact ⟨k + 1, by omega, by omega, by go_num, Lib.hid ⟨by rw [HS9.out]; exact hJ.out.1, hJ.out.2⟩⟩
                case measure => simp [intOf]; omega
              | true =>
                have HS9 : Hid (dl H2 (k + 1) = dl H2 k ++ [k]) := Lib.hid (by rw [hsucc]; simp)
                obtain ⟨wb, hwb⟩ : ∃ wb, wr.alloc (.cells #[.int .i64 (k : Int)] 3) = wb := ⟨_, rfl⟩
                have hbb : Below wr.heap.size wr wb := by rw [← hwb]; exact (Below.refl _ _).alloc (Nat.le_refl _) _
                have hBb : Blk wb wr.heap.size 3 #[.int .i64 (k : Int)] := by rw [← hwb]; exact Blk.new _ _ _
                obtain ⟨v', w9, hrun, h2, h3, h4⟩ := (hJ.out.1.below0 hbb).push (k : Int) wr.heap.size (hBb.cell 0) (by rw [nums_len]; omega)
                have hqb := hJ.out.2.2.2.below hbb hJ.out.2.2.2.lt
                have hne : ∀ b, Value.ownBlock (.slice A9 (nums (dl H2 k)).length c9) = some b → b ≠ q ∧ w.heap.size ≤ b := hJ.out.2.1
                have hoff : Off (fun b => Value.ownBlock (.slice A9 (nums (dl H2 k)).length c9) = some b) wb w9 := Off.of_grown h3
                have HJ9 : Hid (IntsZ w9 v' (nums (dl H2 (k + 1))) ∧ (∀ b, v'.ownBlock = some b → b ≠ q ∧ w.heap.size ≤ b) ∧ Blk w9 q 4 (rowb (dB H2)) ∧ (∀ b, Value.ownBlock (.slice A9 (nums (dl H2 k)).length c9) = some b → b < wr.heap.size)) := Lib.hid ⟨by
                  rw [HS9.out]
                  have e : nums (dl H2 k ++ [k]) = nums (dl H2 k) ++ [(k : Int)] := by unfold nums; simp
                  rw [e]; exact h2, fun b hb => by
                    rcases h4 with h4 | h4
                    · rw [h4] at hb; exact hne b hb
                    · rw [h4] at hb
                      have := hJ.out.2.2.2.lt
                      have h8 := hbb.size
                      have : wb.heap.size = b := Option.some.inj hb
                      have h7 := hJ.out.2.2.1.bel.size
                      exact ⟨by omega, by omega⟩, hqb.same (hoff.block q hqb.lt fun e => (hne q e).1 rfl), fun b hb => hJ.out.1.lt b hb⟩
                -- the heap is nobody else's
                have HRX : Hid (HR w w9 (fun k => k = q ∨ v'.ownBlock = some k) g (2 * i + 2) H2) := Lib.hid (((hJ.out.2.2.1.below hbb).1).turnMore hoff (fun b e => ⟨.inr e, (hne b e).2⟩) fun b hb => by
                  rcases hb with hb | hb
                  · rw [hb]; exact ⟨Nat.lt_of_lt_of_le hqb.lt hoff.size, .inl (.inl rfl)⟩
                  · refine ⟨h2.lt b hb, ?_⟩
                    rcases h4 with h4 | h4
                    · rw [h4] at hb; exact .inl (.inr hb)
                    · rw [h4] at hb; exact .inr (Nat.le_of_eq (Option.some.inj hb)))
                have HRUN := Lib.hid hrun
                clear hsucc hll hbb hBb hrun h2 h3 h4 hqb hne hoff
                go_wp2_with (at_builtin; refine wpList_app rfl _ _ 41 rfl _ _ _ _ rfl rfl HRUN.out ?_; clear HRUN)
                go_roundw
                case rel => exact ⟨k + 1, by omega, by omega, by go_num, Lib.hid ⟨HJ9.out.1, HJ9.out.2.1, HRX.out, HJ9.out.2.2.1⟩⟩
                case measure => simp [intOf]; omega
            · have hkc : k = 101 := by omega
              subst hkc
              have hdk : decide (((101 : Nat) : Int) ≤ 100) = false := by decide
              have hall := dl_all hJ.out.2.2.1.ok (by have := HO.out.2.1.1; omega)
              have hz := hJ.out.1
              have hzb := hJ.out.2.2
              rw [hall] at hz
              obtain ⟨A9, c9, hvs, hle9, hmx9⟩ := hz.shape
              subst hvs
              have hrg : ∀ z ∈ nums (dirtyL H2), -9223372036854775808 ≤ z ∧ z < 9223372036854775808 := fun z hz => by
                obtain ⟨v, hv, rfl⟩ := nums_mem.1 hz
                obtain ⟨x, hx, _, rfl⟩ := dirtyL_mem.1 hv
                have := hzb.1.ok.inn x hx
                have := HO.out.2.1.1
                omega
              have hints := (hz.ints hrg).2
              have HDI := Lib.hid (dirty_hr hzb.1 (by omega))
              obtain ⟨nd, hnd⟩ : ∃ nd, (nums (dirtyL H2)).length = nd := ⟨_, rfl⟩
              have hnd2 : (dirtyL H2).length = nd := by rw [← hnd, nums_len]
              rw [hnd] at hz ⊢
              rw [hnd2] at HDI
              have hndl : nd ≤ 100 := by
                rw [← hnd2]
                unfold dirtyL
                rw [List.length_map]
                exact Nat.le_trans (List.length_filter_le _ _) (by have := HO.out.2.1.2; omega)
              have HJZ := Lib.hid (And.intro hints (And.intro hzb hnd))
              clear hall hz hzb hrg hints hnd hnd2 hle9 hmx9 hJ
              go_wp2_with fail
              refine HDI.out.mono ?_
              rintro e wd ⟨A8, c8, rfl, hi8, _, hbd⟩
              have HSL := Lib.hid (samelist_ok A8 A9 nd c8 c9 (nums (dirtyL H2)) wd HJZ.out.2.2 (by omega) hi8 (HJZ.out.1.below hbd))
              have HRD := Lib.hid (And.intro ((HJZ.out.2.1.1.below hbd).1.less (Y := fun k => k = q) fun k h => .inl h) (HJZ.out.2.1.2.below hbd HJZ.out.2.1.2.lt))
              clear hi8 hbd HDI
              go_wp2_with fail
              refine HSL.out.mono ?_
              rintro e we ⟨rfl, hbe⟩
              have HRE := Lib.hid (And.intro (HRD.out.1.below hbe).1 (HRD.out.2.below hbe HRD.out.2.lt))
              clear hbe HSL
              go_wp2_with fail
              go_roundw
              case rel => exact ⟨i + 1, H2, by omega, by go_num, HO.out.2.1.1, Lib.hid ⟨HRE.out.1.mono (by omega), HO.out.2.1.2, HRE.out.2⟩⟩
              case measure => simp [intOf]; omega
        · have HDB : Hid (dB H2 = dB H) := Lib.hid (by
            unfold dB
            refine List.map_congr_left fun j hj => ?_
            have hj := List.mem_range.1 hj
            have h0 : ∀ {H' : HS} {t' : Nat}, H'.Ok t' → H'.count ≤ 100 → isD H' kk = false := fun {H' t'} hok' hc' => isD_no (obj_above hok' (by omega))
            have hA := h0 HO.out.1.1.ok (by omega)
            have hB := h0 HR4.out.1.ok (by have := HO.out.2.1.1; omega)
            by_cases e : (j : Int) = kk
            · rw [e, hA, hB]
            · by_cases c1 : kd = 3 ∧ tis = true
              · rw [hdd.1 c1, if_neg e]
              · by_cases c2 : kd = 9 ∨ (kd = 5 ∧ tis = true) ∨ (kd = 4 ∧ te = 0)
                · rw [hdd.2.2.1 c2, if_neg e]
                · exact hdd.2.2.2 c1 (fun h => c2 (.inl h)) (fun h => c2 (.inr (.inl h))) (fun h => c2 (.inr (.inr h))) _)
          have HQ : Hid (Blk w4 q 4 (rowb (dB H2)) ∧ HR w w4 (fun k => k = q) g (2 * i + 2) H2) := Lib.hid ⟨by rw [HDB.out]; exact HR4.out.2, HR4.out.1⟩
          clear HOI HDB hdd
          by_cases hlo : kk < 1
          · have n1 : decide (kk ≥ 1) = false := by simp; omega
            go_wp2_with fail
            go_loopw [11, 12] (fun vv kv wr => ∃ k : Nat, 1 ≤ k ∧ k ≤ 101 ∧ kv = .int .i64 (k : Int) ∧ Hid (IntsZ wr vv (nums (dl H2 k)) ∧ (∀ b, vv.ownBlock = some b → b ≠ q ∧ w.heap.size ≤ b) ∧ HR w wr (fun k => k = q ∨ vv.ownBlock = some k) g (2 * i + 2) H2 ∧ Blk wr q 4 (rowb (dB H2)))) (fun _ kv _ => 101 - (intOf kv).toNat)
            case atStart => exact ⟨1, by omega, by omega, rfl, Lib.hid ⟨by rw [dl_one HQ.out.2.ok]; exact IntsZ.nil _, (fun b h => by simp [Value.ownBlock] at h), HQ.out.2.less (fun k h => by rcases h with h | h; exact h; simp [Value.ownBlock] at h), HQ.out.1⟩⟩
            case round =>
              obtain ⟨k, hk1, hk2, rfl, hJ⟩ := hrel
              by_cases hlk : k ≤ 100
              · have hdk : decide ((k : Int) ≤ 100) = true := by simp; omega
                have hk101 : k < 101 := by omega
                have p0 : wr.cell? ⟨q, k, none⟩ = some (.bool (isD H2 (k : Int))) := by rw [hJ.out.2.2.2.cell, rowb_get (dB_get H2 hlk)]
                have hsucc := dl_succ hJ.out.2.2.1.ok k
                have hll := dl_len hJ.out.2.2.1.ok k (by have := HO.out.2.1.2; omega)
                obtain ⟨A9, c9, hvs, _, _⟩ := hJ.out.1.shape
                subst hvs
                obtain ⟨dk9, hdk9⟩ : ∃ x, isD H2 (k : Int) = x := ⟨_, rfl⟩
                rw [hdk9] at p0 hsucc
                clear hdk9
                cases dk9 with
                | false =>
                  have HS9 : Hid (dl H2 (k + 1) = dl H2 k) := Lib.hid (by rw [hsucc]; simp)
                  clear hsucc hll
                  go_wp2_with fail
                  go_roundw
                  case rel => exact ⟨k + 1, by omega, by omega, by go_num, Lib.hid ⟨by rw [HS9.out]; exact hJ.out.1, hJ.out.2⟩⟩
                  case measure => simp [intOf]; omega
                | true =>
                  have HS9 : Hid (dl H2 (k + 1) = dl H2 k ++ [k]) := Lib.hid (by rw [hsucc]; simp)
                  obtain ⟨wb, hwb⟩ : ∃ wb, wr.alloc (.cells #[.int .i64 (k : Int)] 3) = wb := ⟨_, rfl⟩
                  have hbb : Below wr.heap.size wr wb := by rw [← hwb]; exact (Below.refl _ _).alloc (Nat.le_refl _) _
                  have hBb : Blk wb wr.heap.size 3 #[.int .i64 (k : Int)] := by rw [← hwb]; exact Blk.new _ _ _
                  obtain ⟨v', w9, hrun, h2, h3, h4⟩ := (hJ.out.1.below0 hbb).push (k : Int) wr.heap.size (hBb.cell 0) (by rw [nums_len]; omega)
                  have hqb := hJ.out.2.2.2.below hbb hJ.out.2.2.2.lt
                  have hne : ∀ b, Value.ownBlock (.slice A9 (nums (dl H2 k)).length c9) = some b → b ≠ q ∧ w.heap.size ≤ b := hJ.out.2.1
                  have hoff : Off (fun b => Value.ownBlock (.slice A9 (nums (dl H2 k)).length c9) = some b) wb w9 := Off.of_grown h3
                  have HJ9 : Hid (IntsZ w9 v' (nums (dl H2 (k + 1))) ∧ (∀ b, v'.ownBlock = some b → b ≠ q ∧ w.heap.size ≤ b) ∧ Blk w9 q 4 (rowb (dB H2)) ∧ (∀ b, Value.ownBlock (.slice A9 (nums (dl H2 k)).length c9) = some b → b < wr.heap.size)) := Lib.hid ⟨by
                    rw [HS9.out]
                    have e : nums (dl H2 k ++ [k]) = nums (dl H2 k) ++ [(k : Int)] := by unfold nums; simp
                    rw [e]; exact h2, fun b hb => by
                      rcases h4 with h4 | h4
                      · rw [h4] at hb; exact hne b hb
                      · rw [h4] at hb
                        have := hJ.out.2.2.2.lt
                        have h8 := hbb.size
                        have : wb.heap.size = b := Option.some.inj hb
                        have h7 := hJ.out.2.2.1.bel.size
                        exact ⟨by omega, by omega⟩, hqb.same (hoff.block q hqb.lt fun e => (hne q e).1 rfl), fun b hb => hJ.out.1.lt b hb⟩
                  -- the heap is nobody else's
                  have HRX : Hid (HR w w9 (fun k => k = q ∨ v'.ownBlock = some k) g (2 * i + 2) H2) := Lib.hid (((hJ.out.2.2.1.below hbb).1).turnMore hoff (fun b e => ⟨.inr e, (hne b e).2⟩) fun b hb => by
                    rcases hb with hb | hb
                    · rw [hb]; exact ⟨Nat.lt_of_lt_of_le hqb.lt hoff.size, .inl (.inl rfl)⟩
                    · refine ⟨h2.lt b hb, ?_⟩
                      rcases h4 with h4 | h4
                      · rw [h4] at hb; exact .inl (.inr hb)
                      · rw [h4] at hb; exact .inr (Nat.le_of_eq (Option.some.inj hb)))
                  have HRUN := Lib.hid hrun
                  clear hsucc hll hbb hBb hrun h2 h3 h4 hqb hne hoff
                  go_wp2_with (at_builtin; refine wpList_app rfl _ _ 41 rfl _ _ _ _ rfl rfl HRUN.out ?_; clear HRUN)
                  go_roundw
                  case rel => exact ⟨k + 1, by omega, by omega, by go_num, Lib.hid ⟨HJ9.out.1, HJ9.out.2.1, HRX.out, HJ9.out.2.2.1⟩⟩
                  case measure => simp [intOf]; omega
              · have hkc : k = 101 := by omega
                subst hkc
                have hdk : decide (((101 : Nat) : Int) ≤ 100) = false := by decide
                have hall := dl_all hJ.out.2.2.1.ok (by have := HO.out.2.1.1; omega)
                have hz := hJ.out.1
                have hzb := hJ.out.2.2
                rw [hall] at hz
                obtain ⟨A9, c9, hvs, hle9, hmx9⟩ := hz.shape
                subst hvs
                have hrg : ∀ z ∈ nums (dirtyL H2), -9223372036854775808 ≤ z ∧ z < 9223372036854775808 := fun z hz => by
                  obtain ⟨v, hv, rfl⟩ := nums_mem.1 hz
                  obtain ⟨x, hx, _, rfl⟩ := dirtyL_mem.1 hv
                  have := hzb.1.ok.inn x hx
                  have := HO.out.2.1.1
                  omega
                have hints := (hz.ints hrg).2
                have HDI := Lib.hid (dirty_hr hzb.1 (by omega))
                obtain ⟨nd, hnd⟩ : ∃ nd, (nums (dirtyL H2)).length = nd := ⟨_, rfl⟩
                have hnd2 : (dirtyL H2).length = nd := by rw [← hnd, nums_len]
                rw [hnd] at hz ⊢
                rw [hnd2] at HDI
                have hndl : nd ≤ 100 := by
                  rw [← hnd2]
                  unfold dirtyL
                  rw [List.length_map]
                  exact Nat.le_trans (List.length_filter_le _ _) (by have := HO.out.2.1.2; omega)
                have HJZ := Lib.hid (And.intro hints (And.intro hzb hnd))
                clear hall hz hzb hrg hints hnd hnd2 hle9 hmx9 hJ
                go_wp2_with fail
                refine HDI.out.mono ?_
                rintro e wd ⟨A8, c8, rfl, hi8, _, hbd⟩
                have HSL := Lib.hid (samelist_ok A8 A9 nd c8 c9 (nums (dirtyL H2)) wd HJZ.out.2.2 (by omega) hi8 (HJZ.out.1.below hbd))
                have HRD := Lib.hid (And.intro ((HJZ.out.2.1.1.below hbd).1.less (Y := fun k => k = q) fun k h => .inl h) (HJZ.out.2.1.2.below hbd HJZ.out.2.1.2.lt))
                clear hi8 hbd HDI
                go_wp2_with fail
                refine HSL.out.mono ?_
                rintro e we ⟨rfl, hbe⟩
                have HRE := Lib.hid (And.intro (HRD.out.1.below hbe).1 (HRD.out.2.below hbe HRD.out.2.lt))
                clear hbe HSL
                go_wp2_with fail
                go_roundw
                case rel => exact ⟨i + 1, H2, by omega, by go_num, HO.out.2.1.1, Lib.hid ⟨HRE.out.1.mono (by omega), HO.out.2.1.2, HRE.out.2⟩⟩
                case measure => simp [intOf]; omega
          · have n1 : decide (kk ≥ 1) = true := by simp; omega
            have n2 : decide (kk ≤ 100) = false := by simp; omega
            go_wp2_with fail
            go_loopw [11, 12] (fun vv kv wr => ∃ k : Nat, 1 ≤ k ∧ k ≤ 101 ∧ kv = .int .i64 (k : Int) ∧ Hid (IntsZ wr vv (nums (dl H2 k)) ∧ (∀ b, vv.ownBlock = some b → b ≠ q ∧ w.heap.size ≤ b) ∧ HR w wr (fun k => k = q ∨ vv.ownBlock = some k) g (2 * i + 2) H2 ∧ Blk wr q 4 (rowb (dB H2)))) (fun _ kv _ => 101 - (intOf kv).toNat)
            case atStart => exact ⟨1, by omega, by omega, rfl, Lib.hid ⟨by rw [dl_one HQ.out.2.ok]; exact IntsZ.nil _, (fun b h => by simp [Value.ownBlock] at h), HQ.out.2.less (fun k h => by rcases h with h | h; exact h; simp [Value.ownBlock] at h), HQ.out.1⟩⟩
            case round =>
              obtain ⟨k, hk1, hk2, rfl, hJ⟩ := hrel
              by_cases hlk : k ≤ 100
              · have hdk : decide ((k : Int) ≤ 100) = true := by simp; omega
                have hk101 : k < 101 := by omega
                have p0 : wr.cell? ⟨q, k, none⟩ = some (.bool (isD H2 (k : Int))) := by rw [hJ.out.2.2.2.cell, rowb_get (dB_get H2 hlk)]
                have hsucc := dl_succ hJ.out.2.2.1.ok k
                have hll := dl_len hJ.out.2.2.1.ok k (by have := HO.out.2.1.2; omega)
                obtain ⟨A9, c9, hvs, _, _⟩ := hJ.out.1.shape
                subst hvs
                obtain ⟨dk9, hdk9⟩ : ∃ x, isD H2 (k : Int) = x := ⟨_, rfl⟩
                rw [hdk9] at p0 hsucc
                clear hdk9
                cases dk9 with
                | false =>
                  have HS9 : Hid (dl H2 (k + 1) = dl H2 k) := Lib.hid (by rw [hsucc]; simp)
                  clear hsucc hll
                  go_wp2_with fail
                  go_roundw
                  case rel => exact ⟨k + 1, by omega, by omega, by go_num, Lib.hid ⟨by rw [HS9.out]; exact hJ.out.1, hJ.out.2⟩⟩
                  case measure => simp [intOf]; omega
                | true =>
                  have HS9 : Hid (dl H2 (k + 1) = dl H2 k ++ [k]) := Lib.hid (by rw [hsucc]; simp)
                  obtain ⟨wb, hwb⟩ : ∃ wb, wr.alloc (.cells #[.int .i64 (k : Int)] 3) = wb := ⟨_, rfl⟩
                  have hbb : Below wr.heap.size wr wb := by rw [← hwb]; exact (Below.refl _ _).alloc (Nat.le_refl _) _
                  have hBb : Blk wb wr.heap.size 3 #[.int .i64 (k : Int)] := by rw [← hwb]; exact Blk.new _ _ _
                  obtain ⟨v', w9, hrun, h2, h3, h4⟩ := (hJ.out.1.below0 hbb).push (k : Int) wr.heap.size (hBb.cell 0) (by rw [nums_len]; omega)
                  have hqb := hJ.out.2.2.2.below hbb hJ.out.2.2.2.lt
                  have hne : ∀ b, Value.ownBlock (.slice A9 (nums (dl H2 k)).length c9) = some b → b ≠ q ∧ w.heap.size ≤ b := hJ.out.2.1
                  have hoff : Off (fun b => Value.ownBlock (.slice A9 (nums (dl H2 k)).length c9) = some b) wb w9 := Off.of_grown h3
                  have HJ9 : Hid (IntsZ w9 v' (nums (dl H2 (k + 1))) ∧ (∀ b, v'.ownBlock = some b → b ≠ q ∧ w.heap.size ≤ b) ∧ Blk w9 q 4 (rowb (dB H2)) ∧ (∀ b, Value.ownBlock (.slice A9 (nums (dl H2 k)).length c9) = some b → b < wr.heap.size)) := Lib.hid ⟨by
                    rw [HS9.out]
                    have e : nums (dl H2 k ++ [k]) = nums (dl H2 k) ++ [(k : Int)] := by unfold nums; simp
                    rw [e]; exact h2, fun b hb => by
                      rcases h4 with h4 | h4
                      · rw [h4] at hb; exact hne b hb
                      · rw [h4] at hb
                        have := hJ.out.2.2.2.lt
                        have h8 := hbb.size
                        have : wb.heap.size = b := Option.some.inj hb
                        have h7 := hJ.out.2.2.1.bel.size
                        exact ⟨by omega, by omega⟩, hqb.same (hoff.block q hqb.lt fun e => (hne q e).1 rfl), fun b hb => hJ.out.1.lt b hb⟩
                  -- the heap is nobody else's
                  have HRX : Hid (HR w w9 (fun k => k = q ∨ v'.ownBlock = some k) g (2 * i + 2) H2) := Lib.hid (((hJ.out.2.2.1.below hbb).1).turnMore hoff (fun b e => ⟨.inr e, (hne b e).2⟩) fun b hb => by
                    rcases hb with hb | hb
                    · rw [hb]; exact ⟨Nat.lt_of_lt_of_le hqb.lt hoff.size, .inl (.inl rfl)⟩
                    · refine ⟨h2.lt b hb, ?_⟩
                      rcases h4 with h4 | h4
                      · rw [h4] at hb; exact .inl (.inr hb)
                      · rw [h4] at hb; exact .inr (Nat.le_of_eq (Option.some.inj hb)))
                  have HRUN := Lib.hid hrun
                  clear hsucc hll hbb hBb hrun h2 h3 h4 hqb hne hoff
                  go_wp2_with (at_builtin; refine wpList_app rfl _ _ 41 rfl _ _ _ _ rfl rfl HRUN.out ?_; clear HRUN)
                  go_roundw
                  case rel => exact ⟨k + 1, by omega, by omega, by go_num, Lib.hid ⟨HJ9.out.1, HJ9.out.2.1, HRX.out, HJ9.out.2.2.1⟩⟩
                  case measure => simp [intOf]; omega
              · have hkc : k = 101 := by omega
                subst hkc
                have hdk : decide (((101 : Nat) : Int) ≤ 100) = false := by decide
                have hall := dl_all hJ.out.2.2.1.ok (by have := HO.out.2.1.1; omega)
                have hz := hJ.out.1
                have hzb := hJ.out.2.2
                rw [hall] at hz
                obtain ⟨A9, c9, hvs, hle9, hmx9⟩ := hz.shape
                subst hvs
                have hrg : ∀ z ∈ nums (dirtyL H2), -9223372036854775808 ≤ z ∧ z < 9223372036854775808 := fun z hz => by
                  obtain ⟨v, hv, rfl⟩ := nums_mem.1 hz
                  obtain ⟨x, hx, _, rfl⟩ := dirtyL_mem.1 hv
                  have := hzb.1.ok.inn x hx
                  have := HO.out.2.1.1
                  omega
                have hints := (hz.ints hrg).2
                have HDI := Lib.hid (dirty_hr hzb.1 (by omega))
                obtain ⟨nd, hnd⟩ : ∃ nd, (nums (dirtyL H2)).length = nd := ⟨_, rfl⟩
                have hnd2 : (dirtyL H2).length = nd := by rw [← hnd, nums_len]
                rw [hnd] at hz ⊢
                rw [hnd2] at HDI
                have hndl : nd ≤ 100 := by
                  rw [← hnd2]
                  unfold dirtyL
                  rw [List.length_map]
                  exact Nat.le_trans (List.length_filter_le _ _) (by have := HO.out.2.1.2; omega)
                have HJZ := Lib.hid (And.intro hints (And.intro hzb hnd))
                clear hall hz hzb hrg hints hnd hnd2 hle9 hmx9 hJ
                go_wp2_with fail
                refine HDI.out.mono ?_
                rintro e wd ⟨A8, c8, rfl, hi8, _, hbd⟩
                have HSL := Lib.hid (samelist_ok A8 A9 nd c8 c9 (nums (dirtyL H2)) wd HJZ.out.2.2 (by omega) hi8 (HJZ.out.1.below hbd))
                have HRD := Lib.hid (And.intro ((HJZ.out.2.1.1.below hbd).1.less (Y := fun k => k = q) fun k h => .inl h) (HJZ.out.2.1.2.below hbd HJZ.out.2.1.2.lt))
                clear hi8 hbd HDI
                go_wp2_with fail
                refine HSL.out.mono ?_
                rintro e we ⟨rfl, hbe⟩
                have HRE := Lib.hid (And.intro (HRD.out.1.below hbe).1 (HRD.out.2.below hbe HRD.out.2.lt))
                clear hbe HSL
                go_wp2_with fail
                go_roundw
                case rel => exact ⟨i + 1, H2, by omega, by go_num, HO.out.2.1.1, Lib.hid ⟨HRE.out.1.mono (by omega), HO.out.2.1.2, HRE.out.2⟩⟩
                case measure => simp [intOf]; omega
      · obtain rfl : len = i := by omega
        have hd : decide ((len : Int) < (len : Int)) = false := by simp
        have HW := Lib.hid (works_any wr)
        have HB := Lib.hid hI.out.1.bel
        clear hI
        go_wp2_with fail
        refine HW.out.mono ?_
        rintro e w7 ⟨rfl, hb7⟩
        have HB7 := Lib.hid (HB.out.trans (hb7.mono HB.out.size))
        clear hb7
        go_wp2_with fail
        go_ret
        exact ⟨rfl, HB7.out⟩
end Go.Proofs.Ytclkkfffecmjnaa
