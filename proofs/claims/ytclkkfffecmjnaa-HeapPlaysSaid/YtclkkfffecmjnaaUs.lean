/- HeapUsed. -/
import Derived.Test.YtclkkfffecmjnaaMd
import Derived.Test.YtclkkfffecmjnaaZ
import Derived.Test.YtclkkfffecmjnaaTake
namespace Go.Proofs.Ytclkkfffecmjnaa
open Go.RowKit
set_option linter.unusedVariables false
set_option linter.unusedSimpArgs false
attribute [local go_sem] Oper.semAt_some
theorem below_succ (k : Nat) : ∀ {L : List Ho}, L.Pairwise (fun x y => x.h < y.h) → (L.filter fun x => decide (x.h < k + 1)) = (L.filter fun x => decide (x.h < k)) ++ (match L.find? (fun x => (x.h : Int) == (k : Int)) with | some x => [x] | none => [])
  | [], _ => rfl
  | y :: L, hp => by
    obtain ⟨h1, h2⟩ := List.pairwise_cons.1 hp
    have ih := below_succ k h2
    rcases Nat.lt_trichotomy y.h k with h | h | h
    · have e : ((y.h : Int) == (k : Int)) = false := by simp; omega
      rw [List.filter_cons, List.filter_cons, if_pos (by simp; omega), if_pos (by simpa using h), List.find?_cons, e, ih]
      rfl
    · have e : ((y.h : Int) == (k : Int)) = true := by simp; omega
      have n1 : (L.filter fun x => decide (x.h < k + 1)) = [] := List.filter_eq_nil_iff.2 fun x hx => by have := h1 x hx; simp; omega
      have n2 : (L.filter fun x => decide (x.h < k)) = [] := List.filter_eq_nil_iff.2 fun x hx => by have := h1 x hx; simp; omega
      rw [List.filter_cons, List.filter_cons, if_pos (by simp; omega), if_neg (by simp; omega), List.find?_cons, e, n1, n2]
      rfl
    · have e : ((y.h : Int) == (k : Int)) = false := by simp; omega
      rw [List.filter_cons, List.filter_cons, if_neg (by simp; omega), if_neg (by simp; omega), List.find?_cons, e, ih]
def lowL (H : HS) (k : Nat) : List Ho := H.L.filter fun x => decide (x.h < k)
theorem low_one {H : HS} {t : Nat} (hok : H.Ok t) : lowL H 1 = [] := List.filter_eq_nil_iff.2 fun x hx => by have := hok.inn x hx; simp; omega
theorem low_all {H : HS} {t : Nat} (hok : H.Ok t) : lowL H (H.count + 1) = H.L := List.filter_eq_self.2 fun x hx => by have := hok.inn x hx; simp; omega
theorem low_succ {H : HS} {t : Nat} (hok : H.Ok t) (k : Nat) : lowL H (k + 1) = lowL H k ++ (match H.obj (k : Int) with | some x => [x] | none => []) := below_succ k hok.rise
theorem total_app (a b : List Ho) : Hp.total (a ++ b) = Hp.total a + Hp.total b := by unfold Hp.total; rw [List.map_append, List.sum_append]
theorem total_low (H : HS) (k : Nat) : Hp.total (lowL H k) ≤ Hp.total H.L := total_filter _ _
/-- The sums behind one handle more. -/
theorem low_step {H : HS} {t : Nat} (hok : H.Ok t) (k : Nat) : (H.obj (k : Int) = none → lowL H (k + 1) = lowL H k) ∧ (∀ x, H.obj (k : Int) = some x → Hp.total (lowL H (k + 1)) = Hp.total (lowL H k) + Hp.sizeO x.o ∧ (lowL H (k + 1)).length = (lowL H k).length + 1) := by
  refine ⟨fun e => ?_, fun x e => ?_⟩
  · rw [low_succ hok, e, List.append_nil]
  · rw [low_succ hok, e, total_app]
    refine ⟨?_, by simp⟩
    unfold Hp.total; simp
set_option maxRecDepth 20000 in
set_option maxHeartbeats 8000000 in
theorem used_law (lm : Nat) (hlm : lm < 256) (A : Option Addr) (len cap : Nat) (ls : List Ov) (w : World) (hl : ls.length = len) (hcap : len ≤ maxLen) (hM : OpsM w A ls) (hlt : ∀ o ∈ ls, LtO o) :
    Calls Try.prog 5 #[.int .u8 (lm : Int), .slice A len cap] w fun e w' => e = .returned (.bool true) ∧ Below w.heap.size w w' := by
  have HV := Lib.hid (vast_any A len cap ls w hl hcap hM hlt)
  have HM := Lib.hid (And.intro hM (And.intro hl hlt))
  clear hM hl hlt hcap
  go_enter Try.func5, Try.ntmps5
  go_wp2_with fail
  refine HV.out.mono ?_
  rintro e w1 ⟨b, rfl, hbf, hb1⟩
  cases b with
  | true =>
    have HW := Lib.hid (works_any w1)
    have HB := Lib.hid hb1
    clear hb1 hbf HV HM
    go_wp2_with fail
    refine HW.out.mono ?_
    rintro e w3 ⟨rfl, hb3⟩
    have HB3 := Lib.hid (HB.out.trans (hb3.mono HB.out.size))
    clear hb3 HW
    go_wp2_with fail
    go_ret
    exact ⟨rfl, HB3.out⟩
  | false =>
    obtain ⟨hlen, hfit⟩ := hbf rfl
    have h1 := new_ok (1 + lm) w w1 (fun _ => False) (fun k h => h.elim) hb1 (by omega)
    rw [show ((1 + lm : Nat) : Int) = 1 + (lm : Int) by omega] at h1
    have H1 := Lib.hid h1
    have HFit := Lib.hid hfit
    have hlen : len ≤ 100 := by rw [← HM.out.2.1]; exact hlen
    clear hfit hbf hb1 HV h1
    go_wp2_with fail
    refine H1.out.mono ?_
    rintro e w2 ⟨g, rfl, hr, _⟩
    have HR2 := Lib.hid hr
    clear hr H1
    go_wp2_with fail
    go_loopw [8, 9] (fun nv iv wr => ∃ (i : Nat) (H : HS), i ≤ len ∧ iv = .int .i64 (i : Int) ∧ nv = .int .i64 (H.count : Int) ∧ H.count ≤ i ∧ Hid (HR w wr (fun _ => False) g (2 * i) H ∧ H.L.length ≤ i ∧ H.limit = 1 + lm)) (fun _ iv _ => len - (intOf iv).toNat)
    case atStart => exact ⟨0, newH (1 + lm), Nat.zero_le _, rfl, rfl, Nat.le_refl _, Lib.hid ⟨HR2.out, Nat.le_refl _, rfl⟩⟩
    case round =>
      clear HR2
      obtain ⟨i, H, hi, rfl, rfl, hci, hI⟩ := hrel
      obtain ⟨cn, hcn⟩ : ∃ cn, H.count = cn := ⟨_, rfl⟩
      rw [hcn] at hci ⊢
      by_cases hlt : i < len
      · have hd : decide ((i : Int) < (len : Int)) = true := by simpa using hlt
        obtain ⟨o, ho⟩ : ∃ o, ls[i]? = some o := ⟨_, List.getElem?_eq_getElem (by rw [HM.out.2.1]; exact hlt)⟩
        have hbel := hI.out.1.bel
        obtain ⟨b, off, B, c, R, d, rfl, hblt, hc0, hv0⟩ := HM.out.1 i o ho
        have hc : ∀ (j : Nat) (v : Value), (opC o B c R d)[j]? = some v → wr.cell? ⟨b, off + i * 10 + j, none⟩ = some v := fun j v hj => (hbel.cell (p := ⟨b, off + i * 10 + j, none⟩) hblt).trans (hc0 j v hj)
        have hv := hv0.below hbel
        obtain ⟨z0, z1, z2, z3, z4, z5, z6, z7, z8, z9⟩ := ops_cells hc
        have hfo := HFit.out o (List.mem_of_getElem? ho)
        have HU := Lib.hid (used_hr hI.out.1)
        have HD := does_hr hI.out.1 (by omega) (by have := hI.out.2.1; omega) hv hfo
        have hcnt := doF_counts H o
        have hkz : o.kind = 0 → doF H o = ((allocF H o.o).1, { noT with n := (allocF H o.o).2.1, e := (allocF H o.o).2.2 }) := fun e => by unfold doF; rw [if_pos e]
        have hac := allocF_cases H o.o
        rw [hcn] at hcnt
        obtain ⟨H2, hH2⟩ : ∃ H2, (doF H o).1 = H2 := ⟨_, rfl⟩
        obtain ⟨tv, htv⟩ : ∃ tv, (doF H o).2 = tv := ⟨_, rfl⟩
        have hte0 : o.kind = 0 → tv.e = (allocF H o.o).2.2 := fun e => by rw [← htv, hkz e]
        rw [hH2, htv] at HD hcnt
        clear hH2 htv hkz
        obtain ⟨⟨tk, ttag, tws, ttx⟩, ⟨twk, twn⟩, tn, tis, te⟩ := tv
        have htold : ∀ T c2, toldC ⟨⟨tk, ttag, tws, ttx⟩, ⟨twk, twn⟩, tn, tis, te⟩ T c2 = #[.int .u8 (tk : Int), .int .i64 ttag, .slice T tws.length c2, .string (str ttx), .int .u8 (twk : Int), .int .i64 twn, .int .i64 (tn : Int), .bool tis, .int .i64 (te : Int)] := fun T c2 => rfl
        have HTO := Lib.hid htold
        dsimp only at hcnt hte0
        -- the four ways
        have hways : (o.kind ≠ 0 ∧ H2.count = cn) ∨ (o.kind = 0 ∧ te = 0 ∧ H2.count = cn + 1 ∧ H.used + Hp.sizeO o.o ≤ 1 + lm) ∨ (o.kind = 0 ∧ (te = 1 ∨ te = 3) ∧ H2.count = cn) ∨ (o.kind = 0 ∧ te = 6 ∧ H2.count = cn ∧ 1 + lm < H.used + Hp.sizeO o.o) := by
          by_cases hk0 : o.kind = 0
          · have ht := hte0 hk0
            rcases hac with ⟨e, _, h2⟩ | ⟨e, e1, e2⟩
            · rw [e] at ht
              refine .inr (.inl ⟨hk0, ht, ?_, by rw [← hI.out.2.2]; exact h2⟩)
              rcases hcnt.2.2 with ⟨_, _, _, h4⟩ | ⟨h4, _⟩
              · rw [h4]; show H.count + 1 = _; rw [hcn]
              · rcases h4 with h4 | h4
                · exact absurd hk0 h4
                · exact absurd ht h4
            · have hc2 : te ≠ 0 → H2.count = cn := fun h0 => by
                rcases hcnt.2.2 with ⟨_, h1, _⟩ | ⟨_, _, h2⟩
                · exact absurd h1 h0
                · exact h2
              rw [← ht] at e2
              rcases e2 with e2 | e2 | ⟨e2, e3⟩
              · exact .inr (.inr (.inl ⟨hk0, .inl e2, hc2 (by omega)⟩))
              · exact .inr (.inr (.inl ⟨hk0, .inr e2, hc2 (by omega)⟩))
              · exact .inr (.inr (.inr ⟨hk0, e2, hc2 (by omega), by rw [← hI.out.2.2]; exact e3⟩))
          · refine .inl ⟨hk0, ?_⟩
            rcases hcnt.2.2 with ⟨h1, _⟩ | ⟨_, _, h2⟩
            · exact absurd h1 hk0
            · exact h2
        have hH2 : H2.limit = 1 + lm ∧ H2.L.length ≤ i + 1 := ⟨by rw [hcnt.1]; exact hI.out.2.2, by have := hcnt.2.1; have := hI.out.2.1; omega⟩
        obtain ⟨us, hus⟩ : ∃ us, H.used = us := ⟨_, rfl⟩
        rw [hus] at HU hways
        have husb : us ≤ 1 + lm := by rw [← hus, ← hI.out.2.2]; exact hI.out.1.ok.room.1
        have HSM : Hid (Hp.small o.o) := Lib.hid ⟨by have := hfo.1; omega, by have := hfo.2.1; omega, hv.ok⟩
        have HO := Lib.hid (And.intro hH2 (And.intro hblt (And.intro hc0 hv0)))
        unfold opC at HD
        replace HD := Lib.hid HD
        clear hbel hc hv hfo ho hcn htold hI hc0 hv0 hcnt hac hte0 hH2 hus
        go_wp2_with fail
        refine HU.out.mono ?_
        rintro e v1 ⟨rfl, rfl⟩
        go_wp2_with fail
        refine HD.out.mono ?_
        rintro e w3 ⟨T, c2, rfl, _, hr3, _⟩
        rw [HTO.out]
        have hr3 := hr3.less (Y := fun _ => False) (fun k h => h.elim)
        obtain ⟨m3, hm3⟩ : ∃ m3, tws.length = m3 := ⟨_, rfl⟩
        rw [hm3]
        clear hm3
        obtain ⟨w4, hw4⟩ : ∃ w4, w3.alloc (.cells #[.int .u8 (tk : Int), .int .i64 ttag, .slice T m3 c2, .string (str ttx), .int .u8 (twk : Int), .int .i64 twn, .int .i64 (tn : Int), .bool tis, .int .i64 (te : Int)] 39) = w4 := ⟨_, rfl⟩
        have hb4 : Below w3.heap.size w3 w4 := by rw [← hw4]; exact (Below.refl _ _).alloc (Nat.le_refl _) _
        have hB4 : Blk w4 w3.heap.size 39 #[.int .u8 (tk : Int), .int .i64 ttag, .slice T m3 c2, .string (str ttx), .int .u8 (twk : Int), .int .i64 twn, .int .i64 (tn : Int), .bool tis, .int .i64 (te : Int)] := by rw [← hw4]; exact Blk.new _ _ _
        have hr4 := (hr3.below hb4).1
        have x8 := hB4.cell 8
        simp only [List.getElem?_toArray, List.getElem?_cons_zero, List.getElem?_cons_succ] at x8
        have zz : ∀ (j : Nat) (v : Value), (opC o B c R d)[j]? = some v → w4.cell? ⟨b, off + i * 10 + j, none⟩ = some v := fun j v hj => (hr4.bel.cell (p := ⟨b, off + i * 10 + j, none⟩) HO.out.2.1).trans (HO.out.2.2.1 j v hj)
        obtain ⟨z0, _, _, z3, z4, z5, z6, _, _, _⟩ := ops_cells zz
        have hS0 : w4.drew.cell? ⟨b, off + i * 10, none⟩ = some (.int .i64 o.kind) ∧ w4.drew.cell? ⟨b, off + i * 10 + 3, none⟩ = some (.int .u8 (o.o.k : Int)) ∧ w4.drew.cell? ⟨b, off + i * 10 + 4, none⟩ = some (.int .i64 o.o.tag) ∧ w4.drew.cell? ⟨b, off + i * 10 + 5, none⟩ = some (.slice B o.o.ws.length c) ∧ w4.drew.cell? ⟨b, off + i * 10 + 6, none⟩ = some (.string (str o.o.t)) ∧ w4.drew.cell? ⟨w3.heap.size, 8, none⟩ = some (.int .i64 (te : Int)) := ⟨z0, z3, z4, z5, z6, x8⟩
        have HR4 := Lib.hid (And.intro hr4 HO.out.1)
        have HSZ := Lib.hid (size_any o.o B c w4.drew HSM.out)
        obtain ⟨cs, hcs⟩ : ∃ cs, H2.count = cs := ⟨_, rfl⟩
        rw [hcs] at hways
        have HCS := Lib.hid hcs
        have HBD : Hid (Below w4.heap.size w4 w4.drew) := Lib.hid ⟨rfl, rfl, rfl, Nat.le_refl _, fun _ _ => rfl⟩
        have HZ : Hid (Hp.sizeO o.o ≤ 120000) := Lib.hid (by
          have h1 := HSM.out
          have h2 := h1.1
          have h3 := h1.2.1
          unfold Hp.sizeO; split <;> omega)
        obtain ⟨sz, hsz⟩ : ∃ sz, Hp.sizeO o.o = sz := ⟨_, rfl⟩
        rw [hsz] at hways HSZ HZ
        have hzb := HZ.out
        clear hr3 hb4 hr4 hB4 HD HTO z1 z2 z7 z8 z9 zz HU hcs hsz HSM HZ
        rcases hways with ⟨hk0, hc2⟩ | ⟨hk0, ht, hc2, hle⟩ | ⟨hk0, ht, hc2⟩ | ⟨hk0, ht, hc2, hle⟩
        · have hkb : (o.kind == 0) = false := by simpa using hk0
          have HBX := HBD
          subst hc2
          go_upto_region 15 with fail
          refine wp_region_held_drew (S := fun W => W.cell? ⟨b, off + i * 10, none⟩ = some (.int .i64 o.kind) ∧ W.cell? ⟨b, off + i * 10 + 3, none⟩ = some (.int .u8 (o.o.k : Int)) ∧ W.cell? ⟨b, off + i * 10 + 4, none⟩ = some (.int .i64 o.o.tag) ∧ W.cell? ⟨b, off + i * 10 + 5, none⟩ = some (.slice B o.o.ws.length c) ∧ W.cell? ⟨b, off + i * 10 + 6, none⟩ = some (.string (str o.o.t)) ∧ W.cell? ⟨w3.heap.size, 8, none⟩ = some (.int .i64 (te : Int))) (by kernel_rfl) hS0 (fun hHeld => ?_)
          refine takeY 0 (some 61) rfl rfl (by kernel_rfl) (by kernel_rfl) (by kernel_rfl) (fun _ _ _ h => h) (by rfl) (v := _) (by (intro _ hSw; (try dsimp only at hSw); go_simp; try with_reducible rfl)) hHeld ?_
          simp only [Act.put, List.setIfInBounds_toArray, List.set_cons_zero, List.set_cons_succ]
          refine takeY 1 (some 62) rfl rfl (by kernel_rfl) (by kernel_rfl) (by kernel_rfl) (fun _ _ _ h => h) (by rfl) (v := _) (by (intro _ hSw; (try dsimp only at hSw); go_simp; try with_reducible rfl)) hHeld ?_
          simp only [Act.put, List.setIfInBounds_toArray, List.set_cons_zero, List.set_cons_succ]
          refine takeY 2 (some 63) rfl rfl (by kernel_rfl) (by kernel_rfl) (by kernel_rfl) (fun _ _ _ h => h) (by rfl) (v := _) (by (intro _ hSw; (try dsimp only at hSw); go_simp; try with_reducible rfl)) hHeld ?_
          simp only [Act.put, List.setIfInBounds_toArray, List.set_cons_zero, List.set_cons_succ]
          refine takeY 3 (some 64) rfl rfl (by kernel_rfl) (by kernel_rfl) (by kernel_rfl) (fun _ _ _ h => h) (by rfl) (v := _) (by (intro _ hSw; (try dsimp only at hSw); go_simp; try with_reducible rfl)) hHeld ?_
          simp only [Act.put, List.setIfInBounds_toArray, List.set_cons_zero, List.set_cons_succ]
          refine takeY 4 (some 65) rfl rfl (by kernel_rfl) (by kernel_rfl) (by kernel_rfl) (fun _ _ _ h => h) (by rfl) (v := _) (by (intro _ hSw; (try dsimp only at hSw); go_simp; try with_reducible rfl)) hHeld ?_
          simp only [Act.put, List.setIfInBounds_toArray, List.set_cons_zero, List.set_cons_succ]
          refine takeY 5 (some 66) rfl rfl (by kernel_rfl) (by kernel_rfl) (by kernel_rfl) (fun _ _ _ h => h) (by rfl) (v := _) (by (intro _ hSw; (try dsimp only at hSw); go_simp; try with_reducible rfl)) hHeld ?_
          simp only [Act.put, List.setIfInBounds_toArray, List.set_cons_zero, List.set_cons_succ]
          refine takeY 6 (some 67) rfl rfl (by kernel_rfl) (by kernel_rfl) (by kernel_rfl) (fun _ _ _ h => h) (by rfl) (v := _) (by (intro _ hSw; (try dsimp only at hSw); go_simp; try with_reducible rfl)) hHeld ?_
          simp only [Act.put, List.setIfInBounds_toArray, List.set_cons_zero, List.set_cons_succ]
          refine takeN 7 (some 68) rfl rfl (by kernel_rfl) (by kernel_rfl) (by kernel_rfl) (fun _ _ _ h => h) (by rfl) hHeld ?_
          simp only [Act.put, List.setIfInBounds_toArray, List.set_cons_zero, List.set_cons_succ]
          refine takeN 8 (some 69) rfl rfl (by kernel_rfl) (by kernel_rfl) (by kernel_rfl) (fun _ _ _ h => h) (by rfl) hHeld ?_
          simp only [Act.put, List.setIfInBounds_toArray, List.set_cons_zero, List.set_cons_succ]
          refine takeN 9 (some 70) rfl rfl (by kernel_rfl) (by kernel_rfl) (by kernel_rfl) (fun _ _ _ h => h) (by rfl) hHeld ?_
          simp only [Act.put, List.setIfInBounds_toArray, List.set_cons_zero, List.set_cons_succ]
          refine takeY 10 (some 71) rfl rfl (by kernel_rfl) (by kernel_rfl) (by kernel_rfl) (fun _ _ _ h => h) (by rfl) (v := _) (by (intro _ hSw; (try dsimp only at hSw); go_simp; try with_reducible rfl)) hHeld ?_
          simp only [Act.put, List.setIfInBounds_toArray, List.set_cons_zero, List.set_cons_succ]
          refine takeY 11 (some 72) rfl rfl (by kernel_rfl) (by kernel_rfl) (by kernel_rfl) (fun _ _ _ h => h) (by rfl) (v := _) (by (intro _ hSw; (try dsimp only at hSw); go_simp; try with_reducible rfl)) hHeld ?_
          simp only [Act.put, List.setIfInBounds_toArray, List.set_cons_zero, List.set_cons_succ]
          refine takeN 12 (some 73) rfl rfl (by kernel_rfl) (by kernel_rfl) (by kernel_rfl) (fun _ _ _ h => h) (by rfl) hHeld ?_
          simp only [Act.put, List.setIfInBounds_toArray, List.set_cons_zero, List.set_cons_succ]
          refine takeN 13 (some 74) rfl rfl (by kernel_rfl) (by kernel_rfl) (by kernel_rfl) (fun _ _ _ h => h) (by rfl) hHeld ?_
          simp only [Act.put, List.setIfInBounds_toArray, List.set_cons_zero, List.set_cons_succ]
          refine takeN 14 (some 75) rfl rfl (by kernel_rfl) (by kernel_rfl) (by kernel_rfl) (fun _ _ _ h => h) (by rfl) hHeld ?_
          simp only [Act.put, List.setIfInBounds_toArray, List.set_cons_zero, List.set_cons_succ]
          refine takeY 15 (some 76) rfl rfl (by kernel_rfl) (by kernel_rfl) (by kernel_rfl) (fun _ _ _ h => h) (by rfl) (v := _) (by (intro _ hSw; (try dsimp only at hSw); go_simp; try with_reducible rfl)) hHeld ?_
          simp only [Act.put, List.setIfInBounds_toArray, List.set_cons_zero, List.set_cons_succ]
          refine takeY 16 (some 77) rfl rfl (by kernel_rfl) (by kernel_rfl) (by kernel_rfl) (fun _ _ _ h => h) (by rfl) (v := _) (by (intro _ hSw; (try dsimp only at hSw); go_simp; try with_reducible rfl)) hHeld ?_
          simp only [Act.put, List.setIfInBounds_toArray, List.set_cons_zero, List.set_cons_succ]
          refine takeN 17 (some 78) rfl rfl (by kernel_rfl) (by kernel_rfl) (by kernel_rfl) (fun _ _ _ h => h) (by rfl) hHeld ?_
          simp only [Act.put, List.setIfInBounds_toArray, List.set_cons_zero, List.set_cons_succ]
          refine takeN 18 (some 79) rfl rfl (by kernel_rfl) (by kernel_rfl) (by kernel_rfl) (fun _ _ _ h => h) (by rfl) hHeld ?_
          simp only [Act.put, List.setIfInBounds_toArray, List.set_cons_zero, List.set_cons_succ]
          refine takeN 19 (some 80) rfl rfl (by kernel_rfl) (by kernel_rfl) (by kernel_rfl) (fun _ _ _ h => h) (by rfl) hHeld ?_
          simp only [Act.put, List.setIfInBounds_toArray, List.set_cons_zero, List.set_cons_succ]
          refine takeN 20 (some 81) rfl rfl (by kernel_rfl) (by kernel_rfl) (by kernel_rfl) (fun _ _ _ h => h) (by rfl) hHeld ?_
          simp only [Act.put, List.setIfInBounds_toArray, List.set_cons_zero, List.set_cons_succ]
          refine takeN 21 (some 82) rfl rfl (by kernel_rfl) (by kernel_rfl) (by kernel_rfl) (fun _ _ _ h => h) (by rfl) hHeld ?_
          simp only [Act.put, List.setIfInBounds_toArray, List.set_cons_zero, List.set_cons_succ]
          refine takeN 22 (some 83) rfl rfl (by kernel_rfl) (by kernel_rfl) (by kernel_rfl) (fun _ _ _ h => h) (by rfl) hHeld ?_
          simp only [Act.put, List.setIfInBounds_toArray, List.set_cons_zero, List.set_cons_succ]
          refine takeN 23 (some 84) rfl rfl (by kernel_rfl) (by kernel_rfl) (by kernel_rfl) (fun _ _ _ h => h) (by rfl) hHeld ?_
          simp only [Act.put, List.setIfInBounds_toArray, List.set_cons_zero, List.set_cons_succ]
          refine takeN 24 (some 85) rfl rfl (by kernel_rfl) (by kernel_rfl) (by kernel_rfl) (fun _ _ _ h => h) (by rfl) hHeld ?_
          simp only [Act.put, List.setIfInBounds_toArray, List.set_cons_zero, List.set_cons_succ]
          refine takeN 25 (some 86) rfl rfl (by kernel_rfl) (by kernel_rfl) (by kernel_rfl) (fun _ _ _ h => h) (by rfl) hHeld ?_
          simp only [Act.put, List.setIfInBounds_toArray, List.set_cons_zero, List.set_cons_succ]
          refine takeN 26 (some 87) rfl rfl (by kernel_rfl) (by kernel_rfl) (by kernel_rfl) (fun _ _ _ h => h) (by rfl) hHeld ?_
          simp only [Act.put, List.setIfInBounds_toArray, List.set_cons_zero, List.set_cons_succ]
          refine takeN 27 (some 88) rfl rfl (by kernel_rfl) (by kernel_rfl) (by kernel_rfl) (fun _ _ _ h => h) (by rfl) hHeld ?_
          simp only [Act.put, List.setIfInBounds_toArray, List.set_cons_zero, List.set_cons_succ]
          refine takeN 28 (some 89) rfl rfl (by kernel_rfl) (by kernel_rfl) (by kernel_rfl) (fun _ _ _ h => h) (by rfl) hHeld ?_
          simp only [Act.put, List.setIfInBounds_toArray, List.set_cons_zero, List.set_cons_succ]
          refine takeN 29 (some 90) rfl rfl (by kernel_rfl) (by kernel_rfl) (by kernel_rfl) (fun _ _ _ h => h) (by rfl) hHeld ?_
          simp only [Act.put, List.setIfInBounds_toArray, List.set_cons_zero, List.set_cons_succ]
          refine takeN 30 (some 91) rfl rfl (by kernel_rfl) (by kernel_rfl) (by kernel_rfl) (fun _ _ _ h => h) (by rfl) hHeld ?_
          simp only [Act.put, List.setIfInBounds_toArray, List.set_cons_zero, List.set_cons_succ]
          refine takeY 31 (some 92) rfl rfl (by kernel_rfl) (by kernel_rfl) (by kernel_rfl) (fun _ _ _ h => h) (by rfl) (v := _) (by (intro _ hSw; (try dsimp only at hSw); go_simp; try with_reducible rfl)) hHeld ?_
          simp only [Act.put, List.setIfInBounds_toArray, List.set_cons_zero, List.set_cons_succ]
          refine wpAnyH_done (by kernel_rfl) ?_ _
          go_wp2_with fail
          have HRX := Lib.hid (And.intro (HR4.out.1.below HBX.out).1 HR4.out.2)
          clear HBX HR4 HSZ HBD
          go_loopw [12, 13, 14] (fun sv nv kv wr => ∃ k s m : Nat, 1 ≤ k ∧ k ≤ cs + 1 ∧ kv = .int .i64 (k : Int) ∧ sv = .int .i64 (s : Int) ∧ nv = .int .i64 (m : Int) ∧ s ≤ 1 + lm ∧ m ≤ k ∧ Hid (HR w wr (fun _ => False) g (2 * i + 2) H2 ∧ s = Hp.total (lowL H2 k) ∧ m = (lowL H2 k).length)) (fun _ _ kv _ => cs + 1 - (intOf kv).toNat)
          case atStart => exact ⟨1, 0, 0, by omega, by omega, rfl, rfl, rfl, by omega, by omega, Lib.hid ⟨HRX.out.1, by rw [low_one HRX.out.1.ok]; rfl, by rw [low_one HRX.out.1.ok]; rfl⟩⟩
          case round =>
            obtain ⟨k, s, m, hk1, hk2, rfl, rfl, rfl, hsb, hmb, hJ⟩ := hrel
            by_cases hlk : k ≤ cs
            · have hdk : decide ((k : Int) ≤ (cs : Int)) = true := by simpa using hlk
              have HG := Lib.hid (get_hr hJ.out.1 (k : Int) (WalkArith.wf_i64 (by omega)))
              have hst := low_step hJ.out.1.ok k
              have htl := total_low H2 (k + 1)
              have hsum := hJ.out.1.ok.sum
              have hroom := hJ.out.1.ok.room.1
              have hlim : H2.limit = 1 + lm := HRX.out.2.1
              cases hob : H2.obj (k : Int) with
              | none =>
                have hgo : getO H2 (k : Int) = noOb := by unfold getO; rw [hob]
                rw [hgo, hob] at HG
                have HST := Lib.hid (hst.1 hob)
                clear hst htl hsum hroom hlim hob hgo
                go_wp2_with fail
                refine HG.out.mono ?_
                rintro e w5 ⟨v, G, gc, rfl, hob, hb5⟩
                obtain ⟨rfl, hrg⟩ := hob
                have hnv : (Value.agg #[.int .u8 (noOb.k : Int), .int .i64 noOb.tag, .slice G noOb.ws.length gc, .string (str noOb.t)]) = .agg #[.int .u8 0, .int .i64 0, .slice G 0 gc, .string ⟨#[]⟩] := rfl
                rw [hnv]
                dsimp only [Option.isSome]
                obtain ⟨w6, hw6⟩ : ∃ w6, w5.alloc (.cells #[.int .u8 0, .int .i64 0, .slice G 0 gc, .string ⟨#[]⟩] 35) = w6 := ⟨_, rfl⟩
                have hb6 : Below w5.heap.size w5 w6 := by rw [← hw6]; exact (Below.refl _ _).alloc (Nat.le_refl _) _
                have HJ6 := Lib.hid (And.intro (hJ.out.1.below (hb5.trans (hb6.mono hb5.size))).1 (And.intro hJ.out.2.1 hJ.out.2.2))
                have HW6 := Lib.hid hw6
                clear hb5 hb6 hrg hnv hw6 hJ HG
                go_upto_region 23 with fail
                rw [HW6.out]
                go_wp2_with fail
                go_roundw
                case rel => exact ⟨k + 1, s, m, by omega, by omega, by go_num, rfl, rfl, hsb, by omega, Lib.hid ⟨HJ6.out.1, by rw [HST.out]; exact HJ6.out.2.1, by rw [HST.out]; exact HJ6.out.2.2⟩⟩
                case measure => simp [intOf]; omega
              | some x =>
                have hgo : getO H2 (k : Int) = x.o := by unfold getO; rw [hob]
                rw [hgo, hob] at HG
                obtain ⟨hs1, hs2⟩ := hst.2 x hob
                have hxs := (hJ.out.1.ok.inn x (HS.obj_some hob).1).2.2.1
                obtain ⟨xz, hxz⟩ : ∃ xz, Hp.sizeO x.o = xz := ⟨_, rfl⟩
                rw [hxz] at hs1
                have hsx : s + xz ≤ 1 + lm := by have := hJ.out.2.1; omega
                have HST := Lib.hid (And.intro hs1 (And.intro hs2 (And.intro hxs hxz)))
                clear hst htl hsum hroom hlim hob hgo hs1 hs2 hxs hxz
                go_wp2_with fail
                refine HG.out.mono ?_
                rintro e w5 ⟨v, G, gc, rfl, hob, hb5⟩
                obtain ⟨rfl, hrg⟩ := hob
                dsimp only [Option.isSome]
                obtain ⟨w6, hw6⟩ : ∃ w6, w5.alloc (.cells #[.int .u8 (x.o.k : Int), .int .i64 x.o.tag, .slice G x.o.ws.length gc, .string (str x.o.t)] 35) = w6 := ⟨_, rfl⟩
                have hb6 : Below w5.heap.size w5 w6 := by rw [← hw6]; exact (Below.refl _ _).alloc (Nat.le_refl _) _
                have hB6 : Blk w6 w5.heap.size 35 #[.int .u8 (x.o.k : Int), .int .i64 x.o.tag, .slice G x.o.ws.length gc, .string (str x.o.t)] := by rw [← hw6]; exact Blk.new _ _ _
                have hr6 := (hJ.out.1.below (hb5.trans (hb6.mono hb5.size))).1
                have y0 := hB6.cell 0
                have y1 := hB6.cell 1
                have y2 := hB6.cell 2
                have y3 := hB6.cell 3
                simp only [List.getElem?_toArray, List.getElem?_cons_zero, List.getElem?_cons_succ] at y0 y1 y2 y3
                have hsz := size_any x.o G gc w6 HST.out.2.2.1
                rw [HST.out.2.2.2] at hsz
                have HSX := Lib.hid hsz
                have HJ6 := Lib.hid (And.intro hr6 (And.intro hJ.out.2.1 hJ.out.2.2))
                clear hb5 hb6 hB6 hr6 hrg hJ HG hsz
                go_wp2_with fail
                refine HSX.out.mono ?_
                rintro e w7 ⟨rfl, hb7⟩
                have HJ7 := Lib.hid (HJ6.out.1.below hb7).1
                clear hb7
                go_wp2_with fail
                go_roundw
                case rel => exact ⟨k + 1, s + xz, m + 1, by omega, by omega, by go_num, by go_num, by go_num, hsx, by omega, Lib.hid ⟨HJ7.out, by rw [HST.out.1, HJ6.out.2.1], by rw [HST.out.2.1, HJ6.out.2.2]⟩⟩
                case measure => simp [intOf]; omega
            · obtain rfl : k = cs + 1 := by omega
              have hdk : decide (((cs + 1 : Nat) : Int) ≤ (cs : Int)) = false := by simp; omega
              have hdk2 : decide ((cs : Int) + 1 ≤ (cs : Int)) = false := by simp; omega
              have hall := low_all hJ.out.1.ok
              rw [HCS.out] at hall
              have hs : s = H2.used := by rw [hJ.out.2.1, hall]; exact hJ.out.1.ok.sum.symm
              have hm : m = H2.L.length := by rw [hJ.out.2.2, hall]
              have HU := used_hr hJ.out.1
              rw [← hs] at HU
              have HC := count_hr hJ.out.1
              rw [← hm] at HC
              have HU := Lib.hid HU
              have HC := Lib.hid HC
              have hsl : decide ((s : Int) > 1 + (lm : Int)) = false := by simp; omega
              have HJ6 := Lib.hid hJ.out.1
              clear hall hs hm hJ
              go_wp2_with fail
              refine HU.out.mono ?_
              rintro e v1 ⟨rfl, rfl⟩
              go_wp2_with fail
              refine HC.out.mono ?_
              rintro e v1 ⟨rfl, rfl⟩
              go_wp2_with fail
              go_roundw
              case rel => exact ⟨i + 1, H2, by omega, by go_num, by rw [HCS.out], by rw [HCS.out]; omega, Lib.hid ⟨HJ6.out.mono (by omega), HRX.out.2.2, HRX.out.2.1⟩⟩
              case measure => simp [intOf]; omega
        · have hkb : (o.kind == 0) = true := by simpa using hk0
          have q0 : ((te : Int) == 0) = true := by simp; omega
          have q1 : ((te : Int) != 1) = true := by simp; omega
          have q3 : ((te : Int) != 3) = true := by simp; omega
          have ql : decide ((us : Int) + (sz : Int) ≤ 1 + (lm : Int)) = true := by simp; omega
          have qw : IntKind.i64.wrap ((us : Int) + (sz : Int)) = (us : Int) + (sz : Int) := IntWalk.i64_in _ (by omega)
          have hcast : (cn : Int) + 1 = (cs : Int) := by omega
          have hcsi : cs ≤ i + 1 := by omega
          have HCAST := Lib.hid hcast
          clear hcast hc2
          clear ht hk0
          go_upto_region 15 with fail
          rw [HCAST.out]
          refine wp_region_held_drew (S := fun W => W.cell? ⟨b, off + i * 10, none⟩ = some (.int .i64 o.kind) ∧ W.cell? ⟨b, off + i * 10 + 3, none⟩ = some (.int .u8 (o.o.k : Int)) ∧ W.cell? ⟨b, off + i * 10 + 4, none⟩ = some (.int .i64 o.o.tag) ∧ W.cell? ⟨b, off + i * 10 + 5, none⟩ = some (.slice B o.o.ws.length c) ∧ W.cell? ⟨b, off + i * 10 + 6, none⟩ = some (.string (str o.o.t)) ∧ W.cell? ⟨w3.heap.size, 8, none⟩ = some (.int .i64 (te : Int))) (by kernel_rfl) hS0 (fun hHeld => ?_)
          refine takeY 0 (some 61) rfl rfl (by kernel_rfl) (by kernel_rfl) (by kernel_rfl) (fun _ _ _ h => h) (by rfl) (v := _) (by (intro _ hSw; (try dsimp only at hSw); go_simp; try with_reducible rfl)) hHeld ?_
          simp only [Act.put, List.setIfInBounds_toArray, List.set_cons_zero, List.set_cons_succ]
          refine takeY 1 (some 62) rfl rfl (by kernel_rfl) (by kernel_rfl) (by kernel_rfl) (fun _ _ _ h => h) (by rfl) (v := _) (by (intro _ hSw; (try dsimp only at hSw); go_simp; try with_reducible rfl)) hHeld ?_
          simp only [Act.put, List.setIfInBounds_toArray, List.set_cons_zero, List.set_cons_succ]
          refine takeY 2 (some 63) rfl rfl (by kernel_rfl) (by kernel_rfl) (by kernel_rfl) (fun _ _ _ h => h) (by rfl) (v := _) (by (intro _ hSw; (try dsimp only at hSw); go_simp; try with_reducible rfl)) hHeld ?_
          simp only [Act.put, List.setIfInBounds_toArray, List.set_cons_zero, List.set_cons_succ]
          refine takeY 3 (some 64) rfl rfl (by kernel_rfl) (by kernel_rfl) (by kernel_rfl) (fun _ _ _ h => h) (by rfl) (v := _) (by (intro _ hSw; (try dsimp only at hSw); go_simp; try with_reducible rfl)) hHeld ?_
          simp only [Act.put, List.setIfInBounds_toArray, List.set_cons_zero, List.set_cons_succ]
          refine takeY 4 (some 65) rfl rfl (by kernel_rfl) (by kernel_rfl) (by kernel_rfl) (fun _ _ _ h => h) (by rfl) (v := _) (by (intro _ hSw; (try dsimp only at hSw); go_simp; try with_reducible rfl)) hHeld ?_
          simp only [Act.put, List.setIfInBounds_toArray, List.set_cons_zero, List.set_cons_succ]
          refine takeY 5 (some 66) rfl rfl (by kernel_rfl) (by kernel_rfl) (by kernel_rfl) (fun _ _ _ h => h) (by rfl) (v := _) (by (intro _ hSw; (try dsimp only at hSw); go_simp; try with_reducible rfl)) hHeld ?_
          simp only [Act.put, List.setIfInBounds_toArray, List.set_cons_zero, List.set_cons_succ]
          refine takeY 6 (some 67) rfl rfl (by kernel_rfl) (by kernel_rfl) (by kernel_rfl) (fun _ _ _ h => h) (by rfl) (v := _) (by (intro _ hSw; (try dsimp only at hSw); go_simp; try with_reducible rfl)) hHeld ?_
          simp only [Act.put, List.setIfInBounds_toArray, List.set_cons_zero, List.set_cons_succ]
          refine takeY 7 (some 68) rfl rfl (by kernel_rfl) (by kernel_rfl) (by kernel_rfl) (fun _ _ _ h => h) (by rfl) (v := _) (by (intro _ hSw; (try dsimp only at hSw); go_simp; try with_reducible rfl)) hHeld ?_
          simp only [Act.put, List.setIfInBounds_toArray, List.set_cons_zero, List.set_cons_succ]
          refine takeY 8 (some 69) rfl rfl (by kernel_rfl) (by kernel_rfl) (by kernel_rfl) (fun _ _ _ h => h) (by rfl) (v := _) (by (intro _ hSw; (try dsimp only at hSw); go_simp; try with_reducible rfl)) hHeld ?_
          simp only [Act.put, List.setIfInBounds_toArray, List.set_cons_zero, List.set_cons_succ]
          refine takeY 9 (some 70) rfl rfl (by kernel_rfl) (by kernel_rfl) (by kernel_rfl) (fun _ _ _ h => h) (by rfl) (v := _) (by (intro _ hSw; (try dsimp only at hSw); go_simp; try with_reducible rfl)) hHeld ?_
          simp only [Act.put, List.setIfInBounds_toArray, List.set_cons_zero, List.set_cons_succ]
          refine takeY 10 (some 71) rfl rfl (by kernel_rfl) (by kernel_rfl) (by kernel_rfl) (fun _ _ _ h => h) (by rfl) (v := _) (by (intro _ hSw; (try dsimp only at hSw); go_simp; try with_reducible rfl)) hHeld ?_
          simp only [Act.put, List.setIfInBounds_toArray, List.set_cons_zero, List.set_cons_succ]
          refine takeY 11 (some 72) rfl rfl (by kernel_rfl) (by kernel_rfl) (by kernel_rfl) (fun _ _ _ h => h) (by rfl) (v := _) (by (intro _ hSw; (try dsimp only at hSw); go_simp; try with_reducible rfl)) hHeld ?_
          simp only [Act.put, List.setIfInBounds_toArray, List.set_cons_zero, List.set_cons_succ]
          refine takeY 12 (some 73) rfl rfl (by kernel_rfl) (by kernel_rfl) (by kernel_rfl) (fun _ _ _ h => h) (by rfl) (v := _) (by (intro _ hSw; (try dsimp only at hSw); go_simp; try with_reducible rfl)) hHeld ?_
          simp only [Act.put, List.setIfInBounds_toArray, List.set_cons_zero, List.set_cons_succ]
          refine takeY 13 (some 74) rfl rfl (by kernel_rfl) (by kernel_rfl) (by kernel_rfl) (fun _ _ _ h => h) (by rfl) (v := _) (by (intro _ hSw; (try dsimp only at hSw); go_simp; try with_reducible rfl)) hHeld ?_
          simp only [Act.put, List.setIfInBounds_toArray, List.set_cons_zero, List.set_cons_succ]
          refine takeY 14 (some 75) rfl rfl (by kernel_rfl) (by kernel_rfl) (by kernel_rfl) (fun _ _ _ h => h) (by rfl) (v := _) (by (intro _ hSw; (try dsimp only at hSw); go_simp; try with_reducible rfl)) hHeld ?_
          simp only [Act.put, List.setIfInBounds_toArray, List.set_cons_zero, List.set_cons_succ]
          refine takeY 15 (some 76) rfl rfl (by kernel_rfl) (by kernel_rfl) (by kernel_rfl) (fun _ _ _ h => h) (by rfl) (v := _) (by (intro _ hSw; (try dsimp only at hSw); go_simp; try with_reducible rfl)) hHeld ?_
          simp only [Act.put, List.setIfInBounds_toArray, List.set_cons_zero, List.set_cons_succ]
          refine takeY 16 (some 77) rfl rfl (by kernel_rfl) (by kernel_rfl) (by kernel_rfl) (fun _ _ _ h => h) (by rfl) (v := _) (by (intro _ hSw; (try dsimp only at hSw); go_simp; try with_reducible rfl)) hHeld ?_
          simp only [Act.put, List.setIfInBounds_toArray, List.set_cons_zero, List.set_cons_succ]
          refine takeY 17 (some 78) rfl rfl (by kernel_rfl) (by kernel_rfl) (by kernel_rfl) (fun _ _ _ h => h) (by rfl) (v := _) (by (intro _ hSw; (try dsimp only at hSw); go_simp; try with_reducible rfl)) hHeld ?_
          simp only [Act.put, List.setIfInBounds_toArray, List.set_cons_zero, List.set_cons_succ]
          refine takeY 18 (some 79) rfl rfl (by kernel_rfl) (by kernel_rfl) (by kernel_rfl) (fun _ _ _ h => h) (by rfl) (v := _) (by (intro _ hSw; (try dsimp only at hSw); go_simp; try with_reducible rfl)) hHeld ?_
          simp only [Act.put, List.setIfInBounds_toArray, List.set_cons_zero, List.set_cons_succ]
          refine takeY 19 (some 80) rfl rfl (by kernel_rfl) (by kernel_rfl) (by kernel_rfl) (fun _ _ _ h => h) (by rfl) (v := _) (by (intro _ hSw; (try dsimp only at hSw); go_simp; try with_reducible rfl)) hHeld ?_
          simp only [Act.put, List.setIfInBounds_toArray, List.set_cons_zero, List.set_cons_succ]
          refine takeY 20 (some 81) rfl rfl (by kernel_rfl) (by kernel_rfl) (by kernel_rfl) (fun _ _ _ h => h) (by rfl) (v := _) (by (intro _ hSw; (try dsimp only at hSw); go_simp; try with_reducible rfl)) hHeld ?_
          simp only [Act.put, List.setIfInBounds_toArray, List.set_cons_zero, List.set_cons_succ]
          refine takeY 21 (some 82) rfl rfl (by kernel_rfl) (by kernel_rfl) (by kernel_rfl) (fun _ _ _ h => h) (by rfl) (v := _) (by (intro _ hSw; (try dsimp only at hSw); go_simp; try with_reducible rfl)) hHeld ?_
          simp only [Act.put, List.setIfInBounds_toArray, List.set_cons_zero, List.set_cons_succ]
          refine takeY 22 (some 83) rfl rfl (by kernel_rfl) (by kernel_rfl) (by kernel_rfl) (fun _ _ _ h => h) (by rfl) (v := _) (by (intro _ hSw; (try dsimp only at hSw); go_simp; try with_reducible rfl)) hHeld ?_
          simp only [Act.put, List.setIfInBounds_toArray, List.set_cons_zero, List.set_cons_succ]
          refine takeY 23 (some 84) rfl rfl (by kernel_rfl) (by kernel_rfl) (by kernel_rfl) (fun _ _ _ h => h) (by rfl) (v := _) (by (intro _ hSw; (try dsimp only at hSw); go_simp; try with_reducible rfl)) hHeld ?_
          simp only [Act.put, List.setIfInBounds_toArray, List.set_cons_zero, List.set_cons_succ]
          refine takeY 24 (some 85) rfl rfl (by kernel_rfl) (by kernel_rfl) (by kernel_rfl) (fun _ _ _ h => h) (by rfl) (v := _) (by (intro _ hSw; (try dsimp only at hSw); go_simp; try with_reducible rfl)) hHeld ?_
          simp only [Act.put, List.setIfInBounds_toArray, List.set_cons_zero, List.set_cons_succ]
          refine takeY 25 (some 86) rfl rfl (by kernel_rfl) (by kernel_rfl) (by kernel_rfl) (fun _ _ _ h => h) (by rfl) (v := _) (by (intro _ hSw; (try dsimp only at hSw); go_simp; try with_reducible rfl)) hHeld ?_
          simp only [Act.put, List.setIfInBounds_toArray, List.set_cons_zero, List.set_cons_succ]
          refine takeY 28 (some 89) rfl rfl (by kernel_rfl) (by kernel_rfl) (by kernel_rfl) (fun _ _ _ h => h) (by rfl) (v := _) (by (intro _ hSw; (try dsimp only at hSw); go_simp; try with_reducible rfl)) hHeld ?_
          simp only [Act.put, List.setIfInBounds_toArray, List.set_cons_zero, List.set_cons_succ]
          refine wpAnyH_ready (rs := [26]) (by kernel_rfl) (by simp) ?_
          refine AllReadyH.cons rfl (fun K hK => ?_) AllReadyH.nil
          clear hHeld
          go_simp
          go_wp2_with (go_at_call 34; refine Calls.mono HSZ.out ?_; rintro e w6 ⟨rfl, hb6⟩; have HBX : Hid (Below w4.heap.size w4 w6) := Lib.hid (HBD.out.trans hb6); clear hb6)
          refine hK.out _ _ ⟨(HBX.out.cell (World.block_lt_of_cell? _ _ (hS0.1))).trans hS0.1, (HBX.out.cell (World.block_lt_of_cell? _ _ (hS0.2.1))).trans hS0.2.1, (HBX.out.cell (World.block_lt_of_cell? _ _ (hS0.2.2.1))).trans hS0.2.2.1, (HBX.out.cell (World.block_lt_of_cell? _ _ (hS0.2.2.2.1))).trans hS0.2.2.2.1, (HBX.out.cell (World.block_lt_of_cell? _ _ (hS0.2.2.2.2.1))).trans hS0.2.2.2.2.1, (HBX.out.cell (World.block_lt_of_cell? _ _ (hS0.2.2.2.2.2))).trans hS0.2.2.2.2.2⟩ (fun hHeld => ?_)
          clear hK K
          refine takeY 27 (some 88) rfl rfl (by kernel_rfl) (by kernel_rfl) (by kernel_rfl) (fun _ _ _ h => h) (by rfl) (v := _) (by (intro _ hSw; (try dsimp only at hSw); go_simp; try with_reducible rfl)) hHeld ?_
          simp only [Act.put, List.setIfInBounds_toArray, List.set_cons_zero, List.set_cons_succ]
          refine takeY 29 (some 90) rfl rfl (by kernel_rfl) (by kernel_rfl) (by kernel_rfl) (fun _ _ _ h => h) (by rfl) (v := _) (by (intro _ hSw; (try dsimp only at hSw); go_simp; try with_reducible rfl)) hHeld ?_
          simp only [Act.put, List.setIfInBounds_toArray, List.set_cons_zero, List.set_cons_succ]
          refine takeY 30 (some 91) rfl rfl (by kernel_rfl) (by kernel_rfl) (by kernel_rfl) (fun _ _ _ h => h) (by rfl) (v := _) (by (intro _ hSw; (try dsimp only at hSw); go_simp; try with_reducible rfl)) hHeld ?_
          simp only [Act.put, List.setIfInBounds_toArray, List.set_cons_zero, List.set_cons_succ]
          refine takeY 31 (some 92) rfl rfl (by kernel_rfl) (by kernel_rfl) (by kernel_rfl) (fun _ _ _ h => h) (by rfl) (v := _) (by (intro _ hSw; (try dsimp only at hSw); go_simp; try with_reducible rfl)) hHeld ?_
          simp only [Act.put, List.setIfInBounds_toArray, List.set_cons_zero, List.set_cons_succ]
          refine wpAnyH_done (by kernel_rfl) ?_ _
          go_wp2_with fail
          have HRX := Lib.hid (And.intro (HR4.out.1.below HBX.out).1 HR4.out.2)
          clear HBX HR4 HSZ HBD
          go_loopw [12, 13, 14] (fun sv nv kv wr => ∃ k s m : Nat, 1 ≤ k ∧ k ≤ cs + 1 ∧ kv = .int .i64 (k : Int) ∧ sv = .int .i64 (s : Int) ∧ nv = .int .i64 (m : Int) ∧ s ≤ 1 + lm ∧ m ≤ k ∧ Hid (HR w wr (fun _ => False) g (2 * i + 2) H2 ∧ s = Hp.total (lowL H2 k) ∧ m = (lowL H2 k).length)) (fun _ _ kv _ => cs + 1 - (intOf kv).toNat)
          case atStart => exact ⟨1, 0, 0, by omega, by omega, rfl, rfl, rfl, by omega, by omega, Lib.hid ⟨HRX.out.1, by rw [low_one HRX.out.1.ok]; rfl, by rw [low_one HRX.out.1.ok]; rfl⟩⟩
          case round =>
            obtain ⟨k, s, m, hk1, hk2, rfl, rfl, rfl, hsb, hmb, hJ⟩ := hrel
            by_cases hlk : k ≤ cs
            · have hdk : decide ((k : Int) ≤ (cs : Int)) = true := by simpa using hlk
              have HG := Lib.hid (get_hr hJ.out.1 (k : Int) (WalkArith.wf_i64 (by omega)))
              have hst := low_step hJ.out.1.ok k
              have htl := total_low H2 (k + 1)
              have hsum := hJ.out.1.ok.sum
              have hroom := hJ.out.1.ok.room.1
              have hlim : H2.limit = 1 + lm := HRX.out.2.1
              cases hob : H2.obj (k : Int) with
              | none =>
                have hgo : getO H2 (k : Int) = noOb := by unfold getO; rw [hob]
                rw [hgo, hob] at HG
                have HST := Lib.hid (hst.1 hob)
                clear hst htl hsum hroom hlim hob hgo
                go_wp2_with fail
                refine HG.out.mono ?_
                rintro e w5 ⟨v, G, gc, rfl, hob, hb5⟩
                obtain ⟨rfl, hrg⟩ := hob
                have hnv : (Value.agg #[.int .u8 (noOb.k : Int), .int .i64 noOb.tag, .slice G noOb.ws.length gc, .string (str noOb.t)]) = .agg #[.int .u8 0, .int .i64 0, .slice G 0 gc, .string ⟨#[]⟩] := rfl
                rw [hnv]
                dsimp only [Option.isSome]
                obtain ⟨w6, hw6⟩ : ∃ w6, w5.alloc (.cells #[.int .u8 0, .int .i64 0, .slice G 0 gc, .string ⟨#[]⟩] 35) = w6 := ⟨_, rfl⟩
                have hb6 : Below w5.heap.size w5 w6 := by rw [← hw6]; exact (Below.refl _ _).alloc (Nat.le_refl _) _
                have HJ6 := Lib.hid (And.intro (hJ.out.1.below (hb5.trans (hb6.mono hb5.size))).1 (And.intro hJ.out.2.1 hJ.out.2.2))
                have HW6 := Lib.hid hw6
                clear hb5 hb6 hrg hnv hw6 hJ HG
                go_upto_region 23 with fail
                rw [HW6.out]
                go_wp2_with fail
                go_roundw
                case rel => exact ⟨k + 1, s, m, by omega, by omega, by go_num, rfl, rfl, hsb, by omega, Lib.hid ⟨HJ6.out.1, by rw [HST.out]; exact HJ6.out.2.1, by rw [HST.out]; exact HJ6.out.2.2⟩⟩
                case measure => simp [intOf]; omega
              | some x =>
                have hgo : getO H2 (k : Int) = x.o := by unfold getO; rw [hob]
                rw [hgo, hob] at HG
                obtain ⟨hs1, hs2⟩ := hst.2 x hob
                have hxs := (hJ.out.1.ok.inn x (HS.obj_some hob).1).2.2.1
                obtain ⟨xz, hxz⟩ : ∃ xz, Hp.sizeO x.o = xz := ⟨_, rfl⟩
                rw [hxz] at hs1
                have hsx : s + xz ≤ 1 + lm := by have := hJ.out.2.1; omega
                have HST := Lib.hid (And.intro hs1 (And.intro hs2 (And.intro hxs hxz)))
                clear hst htl hsum hroom hlim hob hgo hs1 hs2 hxs hxz
                go_wp2_with fail
                refine HG.out.mono ?_
                rintro e w5 ⟨v, G, gc, rfl, hob, hb5⟩
                obtain ⟨rfl, hrg⟩ := hob
                dsimp only [Option.isSome]
                obtain ⟨w6, hw6⟩ : ∃ w6, w5.alloc (.cells #[.int .u8 (x.o.k : Int), .int .i64 x.o.tag, .slice G x.o.ws.length gc, .string (str x.o.t)] 35) = w6 := ⟨_, rfl⟩
                have hb6 : Below w5.heap.size w5 w6 := by rw [← hw6]; exact (Below.refl _ _).alloc (Nat.le_refl _) _
                have hB6 : Blk w6 w5.heap.size 35 #[.int .u8 (x.o.k : Int), .int .i64 x.o.tag, .slice G x.o.ws.length gc, .string (str x.o.t)] := by rw [← hw6]; exact Blk.new _ _ _
                have hr6 := (hJ.out.1.below (hb5.trans (hb6.mono hb5.size))).1
                have y0 := hB6.cell 0
                have y1 := hB6.cell 1
                have y2 := hB6.cell 2
                have y3 := hB6.cell 3
                simp only [List.getElem?_toArray, List.getElem?_cons_zero, List.getElem?_cons_succ] at y0 y1 y2 y3
                have hsz := size_any x.o G gc w6 HST.out.2.2.1
                rw [HST.out.2.2.2] at hsz
                have HSX := Lib.hid hsz
                have HJ6 := Lib.hid (And.intro hr6 (And.intro hJ.out.2.1 hJ.out.2.2))
                clear hb5 hb6 hB6 hr6 hrg hJ HG hsz
                go_wp2_with fail
                refine HSX.out.mono ?_
                rintro e w7 ⟨rfl, hb7⟩
                have HJ7 := Lib.hid (HJ6.out.1.below hb7).1
                clear hb7
                go_wp2_with fail
                go_roundw
                case rel => exact ⟨k + 1, s + xz, m + 1, by omega, by omega, by go_num, by go_num, by go_num, hsx, by omega, Lib.hid ⟨HJ7.out, by rw [HST.out.1, HJ6.out.2.1], by rw [HST.out.2.1, HJ6.out.2.2]⟩⟩
                case measure => simp [intOf]; omega
            · obtain rfl : k = cs + 1 := by omega
              have hdk : decide (((cs + 1 : Nat) : Int) ≤ (cs : Int)) = false := by simp; omega
              have hdk2 : decide ((cs : Int) + 1 ≤ (cs : Int)) = false := by simp; omega
              have hall := low_all hJ.out.1.ok
              rw [HCS.out] at hall
              have hs : s = H2.used := by rw [hJ.out.2.1, hall]; exact hJ.out.1.ok.sum.symm
              have hm : m = H2.L.length := by rw [hJ.out.2.2, hall]
              have HU := used_hr hJ.out.1
              rw [← hs] at HU
              have HC := count_hr hJ.out.1
              rw [← hm] at HC
              have HU := Lib.hid HU
              have HC := Lib.hid HC
              have hsl : decide ((s : Int) > 1 + (lm : Int)) = false := by simp; omega
              have HJ6 := Lib.hid hJ.out.1
              clear hall hs hm hJ
              go_wp2_with fail
              refine HU.out.mono ?_
              rintro e v1 ⟨rfl, rfl⟩
              go_wp2_with fail
              refine HC.out.mono ?_
              rintro e v1 ⟨rfl, rfl⟩
              go_wp2_with fail
              go_roundw
              case rel => exact ⟨i + 1, H2, by omega, by go_num, by rw [HCS.out], by rw [HCS.out]; omega, Lib.hid ⟨HJ6.out.mono (by omega), HRX.out.2.2, HRX.out.2.1⟩⟩
              case measure => simp [intOf]; omega
        · have hkb : (o.kind == 0) = true := by simpa using hk0
          have q0 : ((te : Int) == 0) = false := by simp; omega
          have HBX := HBD
          have hcast : (cn : Int) = (cs : Int) := by omega
          have hcsi : cs ≤ i + 1 := by omega
          have HCAST := Lib.hid hcast
          clear hcast hc2
          rcases ht with ht | ht
          · have q1 : ((te : Int) != 1) = false := by simp; omega
            clear ht hk0
            go_upto_region 15 with fail
            rw [HCAST.out]
            refine wp_region_held_drew (S := fun W => W.cell? ⟨b, off + i * 10, none⟩ = some (.int .i64 o.kind) ∧ W.cell? ⟨b, off + i * 10 + 3, none⟩ = some (.int .u8 (o.o.k : Int)) ∧ W.cell? ⟨b, off + i * 10 + 4, none⟩ = some (.int .i64 o.o.tag) ∧ W.cell? ⟨b, off + i * 10 + 5, none⟩ = some (.slice B o.o.ws.length c) ∧ W.cell? ⟨b, off + i * 10 + 6, none⟩ = some (.string (str o.o.t)) ∧ W.cell? ⟨w3.heap.size, 8, none⟩ = some (.int .i64 (te : Int))) (by kernel_rfl) hS0 (fun hHeld => ?_)
            refine takeY 0 (some 61) rfl rfl (by kernel_rfl) (by kernel_rfl) (by kernel_rfl) (fun _ _ _ h => h) (by rfl) (v := _) (by (intro _ hSw; (try dsimp only at hSw); go_simp; try with_reducible rfl)) hHeld ?_
            simp only [Act.put, List.setIfInBounds_toArray, List.set_cons_zero, List.set_cons_succ]
            refine takeY 1 (some 62) rfl rfl (by kernel_rfl) (by kernel_rfl) (by kernel_rfl) (fun _ _ _ h => h) (by rfl) (v := _) (by (intro _ hSw; (try dsimp only at hSw); go_simp; try with_reducible rfl)) hHeld ?_
            simp only [Act.put, List.setIfInBounds_toArray, List.set_cons_zero, List.set_cons_succ]
            refine takeY 2 (some 63) rfl rfl (by kernel_rfl) (by kernel_rfl) (by kernel_rfl) (fun _ _ _ h => h) (by rfl) (v := _) (by (intro _ hSw; (try dsimp only at hSw); go_simp; try with_reducible rfl)) hHeld ?_
            simp only [Act.put, List.setIfInBounds_toArray, List.set_cons_zero, List.set_cons_succ]
            refine takeY 3 (some 64) rfl rfl (by kernel_rfl) (by kernel_rfl) (by kernel_rfl) (fun _ _ _ h => h) (by rfl) (v := _) (by (intro _ hSw; (try dsimp only at hSw); go_simp; try with_reducible rfl)) hHeld ?_
            simp only [Act.put, List.setIfInBounds_toArray, List.set_cons_zero, List.set_cons_succ]
            refine takeY 4 (some 65) rfl rfl (by kernel_rfl) (by kernel_rfl) (by kernel_rfl) (fun _ _ _ h => h) (by rfl) (v := _) (by (intro _ hSw; (try dsimp only at hSw); go_simp; try with_reducible rfl)) hHeld ?_
            simp only [Act.put, List.setIfInBounds_toArray, List.set_cons_zero, List.set_cons_succ]
            refine takeY 5 (some 66) rfl rfl (by kernel_rfl) (by kernel_rfl) (by kernel_rfl) (fun _ _ _ h => h) (by rfl) (v := _) (by (intro _ hSw; (try dsimp only at hSw); go_simp; try with_reducible rfl)) hHeld ?_
            simp only [Act.put, List.setIfInBounds_toArray, List.set_cons_zero, List.set_cons_succ]
            refine takeY 6 (some 67) rfl rfl (by kernel_rfl) (by kernel_rfl) (by kernel_rfl) (fun _ _ _ h => h) (by rfl) (v := _) (by (intro _ hSw; (try dsimp only at hSw); go_simp; try with_reducible rfl)) hHeld ?_
            simp only [Act.put, List.setIfInBounds_toArray, List.set_cons_zero, List.set_cons_succ]
            refine takeY 7 (some 68) rfl rfl (by kernel_rfl) (by kernel_rfl) (by kernel_rfl) (fun _ _ _ h => h) (by rfl) (v := _) (by (intro _ hSw; (try dsimp only at hSw); go_simp; try with_reducible rfl)) hHeld ?_
            simp only [Act.put, List.setIfInBounds_toArray, List.set_cons_zero, List.set_cons_succ]
            refine takeY 8 (some 69) rfl rfl (by kernel_rfl) (by kernel_rfl) (by kernel_rfl) (fun _ _ _ h => h) (by rfl) (v := _) (by (intro _ hSw; (try dsimp only at hSw); go_simp; try with_reducible rfl)) hHeld ?_
            simp only [Act.put, List.setIfInBounds_toArray, List.set_cons_zero, List.set_cons_succ]
            refine takeY 9 (some 70) rfl rfl (by kernel_rfl) (by kernel_rfl) (by kernel_rfl) (fun _ _ _ h => h) (by rfl) (v := _) (by (intro _ hSw; (try dsimp only at hSw); go_simp; try with_reducible rfl)) hHeld ?_
            simp only [Act.put, List.setIfInBounds_toArray, List.set_cons_zero, List.set_cons_succ]
            refine takeY 10 (some 71) rfl rfl (by kernel_rfl) (by kernel_rfl) (by kernel_rfl) (fun _ _ _ h => h) (by rfl) (v := _) (by (intro _ hSw; (try dsimp only at hSw); go_simp; try with_reducible rfl)) hHeld ?_
            simp only [Act.put, List.setIfInBounds_toArray, List.set_cons_zero, List.set_cons_succ]
            refine takeY 11 (some 72) rfl rfl (by kernel_rfl) (by kernel_rfl) (by kernel_rfl) (fun _ _ _ h => h) (by rfl) (v := _) (by (intro _ hSw; (try dsimp only at hSw); go_simp; try with_reducible rfl)) hHeld ?_
            simp only [Act.put, List.setIfInBounds_toArray, List.set_cons_zero, List.set_cons_succ]
            refine takeN 12 (some 73) rfl rfl (by kernel_rfl) (by kernel_rfl) (by kernel_rfl) (fun _ _ _ h => h) (by rfl) hHeld ?_
            simp only [Act.put, List.setIfInBounds_toArray, List.set_cons_zero, List.set_cons_succ]
            refine takeN 13 (some 74) rfl rfl (by kernel_rfl) (by kernel_rfl) (by kernel_rfl) (fun _ _ _ h => h) (by rfl) hHeld ?_
            simp only [Act.put, List.setIfInBounds_toArray, List.set_cons_zero, List.set_cons_succ]
            refine takeN 14 (some 75) rfl rfl (by kernel_rfl) (by kernel_rfl) (by kernel_rfl) (fun _ _ _ h => h) (by rfl) hHeld ?_
            simp only [Act.put, List.setIfInBounds_toArray, List.set_cons_zero, List.set_cons_succ]
            refine takeY 15 (some 76) rfl rfl (by kernel_rfl) (by kernel_rfl) (by kernel_rfl) (fun _ _ _ h => h) (by rfl) (v := _) (by (intro _ hSw; (try dsimp only at hSw); go_simp; try with_reducible rfl)) hHeld ?_
            simp only [Act.put, List.setIfInBounds_toArray, List.set_cons_zero, List.set_cons_succ]
            refine takeY 16 (some 77) rfl rfl (by kernel_rfl) (by kernel_rfl) (by kernel_rfl) (fun _ _ _ h => h) (by rfl) (v := _) (by (intro _ hSw; (try dsimp only at hSw); go_simp; try with_reducible rfl)) hHeld ?_
            simp only [Act.put, List.setIfInBounds_toArray, List.set_cons_zero, List.set_cons_succ]
            refine takeN 17 (some 78) rfl rfl (by kernel_rfl) (by kernel_rfl) (by kernel_rfl) (fun _ _ _ h => h) (by rfl) hHeld ?_
            simp only [Act.put, List.setIfInBounds_toArray, List.set_cons_zero, List.set_cons_succ]
            refine takeN 18 (some 79) rfl rfl (by kernel_rfl) (by kernel_rfl) (by kernel_rfl) (fun _ _ _ h => h) (by rfl) hHeld ?_
            simp only [Act.put, List.setIfInBounds_toArray, List.set_cons_zero, List.set_cons_succ]
            refine takeN 19 (some 80) rfl rfl (by kernel_rfl) (by kernel_rfl) (by kernel_rfl) (fun _ _ _ h => h) (by rfl) hHeld ?_
            simp only [Act.put, List.setIfInBounds_toArray, List.set_cons_zero, List.set_cons_succ]
            refine takeN 20 (some 81) rfl rfl (by kernel_rfl) (by kernel_rfl) (by kernel_rfl) (fun _ _ _ h => h) (by rfl) hHeld ?_
            simp only [Act.put, List.setIfInBounds_toArray, List.set_cons_zero, List.set_cons_succ]
            refine takeN 21 (some 82) rfl rfl (by kernel_rfl) (by kernel_rfl) (by kernel_rfl) (fun _ _ _ h => h) (by rfl) hHeld ?_
            simp only [Act.put, List.setIfInBounds_toArray, List.set_cons_zero, List.set_cons_succ]
            refine takeN 22 (some 83) rfl rfl (by kernel_rfl) (by kernel_rfl) (by kernel_rfl) (fun _ _ _ h => h) (by rfl) hHeld ?_
            simp only [Act.put, List.setIfInBounds_toArray, List.set_cons_zero, List.set_cons_succ]
            refine takeN 23 (some 84) rfl rfl (by kernel_rfl) (by kernel_rfl) (by kernel_rfl) (fun _ _ _ h => h) (by rfl) hHeld ?_
            simp only [Act.put, List.setIfInBounds_toArray, List.set_cons_zero, List.set_cons_succ]
            refine takeN 24 (some 85) rfl rfl (by kernel_rfl) (by kernel_rfl) (by kernel_rfl) (fun _ _ _ h => h) (by rfl) hHeld ?_
            simp only [Act.put, List.setIfInBounds_toArray, List.set_cons_zero, List.set_cons_succ]
            refine takeN 25 (some 86) rfl rfl (by kernel_rfl) (by kernel_rfl) (by kernel_rfl) (fun _ _ _ h => h) (by rfl) hHeld ?_
            simp only [Act.put, List.setIfInBounds_toArray, List.set_cons_zero, List.set_cons_succ]
            refine takeN 26 (some 87) rfl rfl (by kernel_rfl) (by kernel_rfl) (by kernel_rfl) (fun _ _ _ h => h) (by rfl) hHeld ?_
            simp only [Act.put, List.setIfInBounds_toArray, List.set_cons_zero, List.set_cons_succ]
            refine takeN 27 (some 88) rfl rfl (by kernel_rfl) (by kernel_rfl) (by kernel_rfl) (fun _ _ _ h => h) (by rfl) hHeld ?_
            simp only [Act.put, List.setIfInBounds_toArray, List.set_cons_zero, List.set_cons_succ]
            refine takeN 28 (some 89) rfl rfl (by kernel_rfl) (by kernel_rfl) (by kernel_rfl) (fun _ _ _ h => h) (by rfl) hHeld ?_
            simp only [Act.put, List.setIfInBounds_toArray, List.set_cons_zero, List.set_cons_succ]
            refine takeN 29 (some 90) rfl rfl (by kernel_rfl) (by kernel_rfl) (by kernel_rfl) (fun _ _ _ h => h) (by rfl) hHeld ?_
            simp only [Act.put, List.setIfInBounds_toArray, List.set_cons_zero, List.set_cons_succ]
            refine takeN 30 (some 91) rfl rfl (by kernel_rfl) (by kernel_rfl) (by kernel_rfl) (fun _ _ _ h => h) (by rfl) hHeld ?_
            simp only [Act.put, List.setIfInBounds_toArray, List.set_cons_zero, List.set_cons_succ]
            refine takeY 31 (some 92) rfl rfl (by kernel_rfl) (by kernel_rfl) (by kernel_rfl) (fun _ _ _ h => h) (by rfl) (v := _) (by (intro _ hSw; (try dsimp only at hSw); go_simp; try with_reducible rfl)) hHeld ?_
            simp only [Act.put, List.setIfInBounds_toArray, List.set_cons_zero, List.set_cons_succ]
            refine wpAnyH_done (by kernel_rfl) ?_ _
            go_wp2_with fail
            have HRX := Lib.hid (And.intro (HR4.out.1.below HBX.out).1 HR4.out.2)
            clear HBX HR4 HSZ HBD
            go_loopw [12, 13, 14] (fun sv nv kv wr => ∃ k s m : Nat, 1 ≤ k ∧ k ≤ cs + 1 ∧ kv = .int .i64 (k : Int) ∧ sv = .int .i64 (s : Int) ∧ nv = .int .i64 (m : Int) ∧ s ≤ 1 + lm ∧ m ≤ k ∧ Hid (HR w wr (fun _ => False) g (2 * i + 2) H2 ∧ s = Hp.total (lowL H2 k) ∧ m = (lowL H2 k).length)) (fun _ _ kv _ => cs + 1 - (intOf kv).toNat)
            case atStart => exact ⟨1, 0, 0, by omega, by omega, rfl, rfl, rfl, by omega, by omega, Lib.hid ⟨HRX.out.1, by rw [low_one HRX.out.1.ok]; rfl, by rw [low_one HRX.out.1.ok]; rfl⟩⟩
            case round =>
              obtain ⟨k, s, m, hk1, hk2, rfl, rfl, rfl, hsb, hmb, hJ⟩ := hrel
              by_cases hlk : k ≤ cs
              · have hdk : decide ((k : Int) ≤ (cs : Int)) = true := by simpa using hlk
                have HG := Lib.hid (get_hr hJ.out.1 (k : Int) (WalkArith.wf_i64 (by omega)))
                have hst := low_step hJ.out.1.ok k
                have htl := total_low H2 (k + 1)
                have hsum := hJ.out.1.ok.sum
                have hroom := hJ.out.1.ok.room.1
                have hlim : H2.limit = 1 + lm := HRX.out.2.1
                cases hob : H2.obj (k : Int) with
                | none =>
                  have hgo : getO H2 (k : Int) = noOb := by unfold getO; rw [hob]
                  rw [hgo, hob] at HG
                  have HST := Lib.hid (hst.1 hob)
                  clear hst htl hsum hroom hlim hob hgo
                  go_wp2_with fail
                  refine HG.out.mono ?_
                  rintro e w5 ⟨v, G, gc, rfl, hob, hb5⟩
                  obtain ⟨rfl, hrg⟩ := hob
                  have hnv : (Value.agg #[.int .u8 (noOb.k : Int), .int .i64 noOb.tag, .slice G noOb.ws.length gc, .string (str noOb.t)]) = .agg #[.int .u8 0, .int .i64 0, .slice G 0 gc, .string ⟨#[]⟩] := rfl
                  rw [hnv]
                  dsimp only [Option.isSome]
                  obtain ⟨w6, hw6⟩ : ∃ w6, w5.alloc (.cells #[.int .u8 0, .int .i64 0, .slice G 0 gc, .string ⟨#[]⟩] 35) = w6 := ⟨_, rfl⟩
                  have hb6 : Below w5.heap.size w5 w6 := by rw [← hw6]; exact (Below.refl _ _).alloc (Nat.le_refl _) _
                  have HJ6 := Lib.hid (And.intro (hJ.out.1.below (hb5.trans (hb6.mono hb5.size))).1 (And.intro hJ.out.2.1 hJ.out.2.2))
                  have HW6 := Lib.hid hw6
                  clear hb5 hb6 hrg hnv hw6 hJ HG
                  go_upto_region 23 with fail
                  rw [HW6.out]
                  go_wp2_with fail
                  go_roundw
                  case rel => exact ⟨k + 1, s, m, by omega, by omega, by go_num, rfl, rfl, hsb, by omega, Lib.hid ⟨HJ6.out.1, by rw [HST.out]; exact HJ6.out.2.1, by rw [HST.out]; exact HJ6.out.2.2⟩⟩
                  case measure => simp [intOf]; omega
                | some x =>
                  have hgo : getO H2 (k : Int) = x.o := by unfold getO; rw [hob]
                  rw [hgo, hob] at HG
                  obtain ⟨hs1, hs2⟩ := hst.2 x hob
                  have hxs := (hJ.out.1.ok.inn x (HS.obj_some hob).1).2.2.1
                  obtain ⟨xz, hxz⟩ : ∃ xz, Hp.sizeO x.o = xz := ⟨_, rfl⟩
                  rw [hxz] at hs1
                  have hsx : s + xz ≤ 1 + lm := by have := hJ.out.2.1; omega
                  have HST := Lib.hid (And.intro hs1 (And.intro hs2 (And.intro hxs hxz)))
                  clear hst htl hsum hroom hlim hob hgo hs1 hs2 hxs hxz
                  go_wp2_with fail
                  refine HG.out.mono ?_
                  rintro e w5 ⟨v, G, gc, rfl, hob, hb5⟩
                  obtain ⟨rfl, hrg⟩ := hob
                  dsimp only [Option.isSome]
                  obtain ⟨w6, hw6⟩ : ∃ w6, w5.alloc (.cells #[.int .u8 (x.o.k : Int), .int .i64 x.o.tag, .slice G x.o.ws.length gc, .string (str x.o.t)] 35) = w6 := ⟨_, rfl⟩
                  have hb6 : Below w5.heap.size w5 w6 := by rw [← hw6]; exact (Below.refl _ _).alloc (Nat.le_refl _) _
                  have hB6 : Blk w6 w5.heap.size 35 #[.int .u8 (x.o.k : Int), .int .i64 x.o.tag, .slice G x.o.ws.length gc, .string (str x.o.t)] := by rw [← hw6]; exact Blk.new _ _ _
                  have hr6 := (hJ.out.1.below (hb5.trans (hb6.mono hb5.size))).1
                  have y0 := hB6.cell 0
                  have y1 := hB6.cell 1
                  have y2 := hB6.cell 2
                  have y3 := hB6.cell 3
                  simp only [List.getElem?_toArray, List.getElem?_cons_zero, List.getElem?_cons_succ] at y0 y1 y2 y3
                  have hsz := size_any x.o G gc w6 HST.out.2.2.1
                  rw [HST.out.2.2.2] at hsz
                  have HSX := Lib.hid hsz
                  have HJ6 := Lib.hid (And.intro hr6 (And.intro hJ.out.2.1 hJ.out.2.2))
                  clear hb5 hb6 hB6 hr6 hrg hJ HG hsz
                  go_wp2_with fail
                  refine HSX.out.mono ?_
                  rintro e w7 ⟨rfl, hb7⟩
                  have HJ7 := Lib.hid (HJ6.out.1.below hb7).1
                  clear hb7
                  go_wp2_with fail
                  go_roundw
                  case rel => exact ⟨k + 1, s + xz, m + 1, by omega, by omega, by go_num, by go_num, by go_num, hsx, by omega, Lib.hid ⟨HJ7.out, by rw [HST.out.1, HJ6.out.2.1], by rw [HST.out.2.1, HJ6.out.2.2]⟩⟩
                  case measure => simp [intOf]; omega
              · obtain rfl : k = cs + 1 := by omega
                have hdk : decide (((cs + 1 : Nat) : Int) ≤ (cs : Int)) = false := by simp; omega
                have hdk2 : decide ((cs : Int) + 1 ≤ (cs : Int)) = false := by simp; omega
                have hall := low_all hJ.out.1.ok
                rw [HCS.out] at hall
                have hs : s = H2.used := by rw [hJ.out.2.1, hall]; exact hJ.out.1.ok.sum.symm
                have hm : m = H2.L.length := by rw [hJ.out.2.2, hall]
                have HU := used_hr hJ.out.1
                rw [← hs] at HU
                have HC := count_hr hJ.out.1
                rw [← hm] at HC
                have HU := Lib.hid HU
                have HC := Lib.hid HC
                have hsl : decide ((s : Int) > 1 + (lm : Int)) = false := by simp; omega
                have HJ6 := Lib.hid hJ.out.1
                clear hall hs hm hJ
                go_wp2_with fail
                refine HU.out.mono ?_
                rintro e v1 ⟨rfl, rfl⟩
                go_wp2_with fail
                refine HC.out.mono ?_
                rintro e v1 ⟨rfl, rfl⟩
                go_wp2_with fail
                go_roundw
                case rel => exact ⟨i + 1, H2, by omega, by go_num, by rw [HCS.out], by rw [HCS.out]; omega, Lib.hid ⟨HJ6.out.mono (by omega), HRX.out.2.2, HRX.out.2.1⟩⟩
                case measure => simp [intOf]; omega
          · have q1 : ((te : Int) != 1) = true := by simp; omega
            have q3 : ((te : Int) != 3) = false := by simp; omega
            clear ht hk0
            go_upto_region 15 with fail
            rw [HCAST.out]
            refine wp_region_held_drew (S := fun W => W.cell? ⟨b, off + i * 10, none⟩ = some (.int .i64 o.kind) ∧ W.cell? ⟨b, off + i * 10 + 3, none⟩ = some (.int .u8 (o.o.k : Int)) ∧ W.cell? ⟨b, off + i * 10 + 4, none⟩ = some (.int .i64 o.o.tag) ∧ W.cell? ⟨b, off + i * 10 + 5, none⟩ = some (.slice B o.o.ws.length c) ∧ W.cell? ⟨b, off + i * 10 + 6, none⟩ = some (.string (str o.o.t)) ∧ W.cell? ⟨w3.heap.size, 8, none⟩ = some (.int .i64 (te : Int))) (by kernel_rfl) hS0 (fun hHeld => ?_)
            refine takeY 0 (some 61) rfl rfl (by kernel_rfl) (by kernel_rfl) (by kernel_rfl) (fun _ _ _ h => h) (by rfl) (v := _) (by (intro _ hSw; (try dsimp only at hSw); go_simp; try with_reducible rfl)) hHeld ?_
            simp only [Act.put, List.setIfInBounds_toArray, List.set_cons_zero, List.set_cons_succ]
            refine takeY 1 (some 62) rfl rfl (by kernel_rfl) (by kernel_rfl) (by kernel_rfl) (fun _ _ _ h => h) (by rfl) (v := _) (by (intro _ hSw; (try dsimp only at hSw); go_simp; try with_reducible rfl)) hHeld ?_
            simp only [Act.put, List.setIfInBounds_toArray, List.set_cons_zero, List.set_cons_succ]
            refine takeY 2 (some 63) rfl rfl (by kernel_rfl) (by kernel_rfl) (by kernel_rfl) (fun _ _ _ h => h) (by rfl) (v := _) (by (intro _ hSw; (try dsimp only at hSw); go_simp; try with_reducible rfl)) hHeld ?_
            simp only [Act.put, List.setIfInBounds_toArray, List.set_cons_zero, List.set_cons_succ]
            refine takeY 3 (some 64) rfl rfl (by kernel_rfl) (by kernel_rfl) (by kernel_rfl) (fun _ _ _ h => h) (by rfl) (v := _) (by (intro _ hSw; (try dsimp only at hSw); go_simp; try with_reducible rfl)) hHeld ?_
            simp only [Act.put, List.setIfInBounds_toArray, List.set_cons_zero, List.set_cons_succ]
            refine takeY 4 (some 65) rfl rfl (by kernel_rfl) (by kernel_rfl) (by kernel_rfl) (fun _ _ _ h => h) (by rfl) (v := _) (by (intro _ hSw; (try dsimp only at hSw); go_simp; try with_reducible rfl)) hHeld ?_
            simp only [Act.put, List.setIfInBounds_toArray, List.set_cons_zero, List.set_cons_succ]
            refine takeY 5 (some 66) rfl rfl (by kernel_rfl) (by kernel_rfl) (by kernel_rfl) (fun _ _ _ h => h) (by rfl) (v := _) (by (intro _ hSw; (try dsimp only at hSw); go_simp; try with_reducible rfl)) hHeld ?_
            simp only [Act.put, List.setIfInBounds_toArray, List.set_cons_zero, List.set_cons_succ]
            refine takeY 6 (some 67) rfl rfl (by kernel_rfl) (by kernel_rfl) (by kernel_rfl) (fun _ _ _ h => h) (by rfl) (v := _) (by (intro _ hSw; (try dsimp only at hSw); go_simp; try with_reducible rfl)) hHeld ?_
            simp only [Act.put, List.setIfInBounds_toArray, List.set_cons_zero, List.set_cons_succ]
            refine takeY 7 (some 68) rfl rfl (by kernel_rfl) (by kernel_rfl) (by kernel_rfl) (fun _ _ _ h => h) (by rfl) (v := _) (by (intro _ hSw; (try dsimp only at hSw); go_simp; try with_reducible rfl)) hHeld ?_
            simp only [Act.put, List.setIfInBounds_toArray, List.set_cons_zero, List.set_cons_succ]
            refine takeY 8 (some 69) rfl rfl (by kernel_rfl) (by kernel_rfl) (by kernel_rfl) (fun _ _ _ h => h) (by rfl) (v := _) (by (intro _ hSw; (try dsimp only at hSw); go_simp; try with_reducible rfl)) hHeld ?_
            simp only [Act.put, List.setIfInBounds_toArray, List.set_cons_zero, List.set_cons_succ]
            refine takeY 9 (some 70) rfl rfl (by kernel_rfl) (by kernel_rfl) (by kernel_rfl) (fun _ _ _ h => h) (by rfl) (v := _) (by (intro _ hSw; (try dsimp only at hSw); go_simp; try with_reducible rfl)) hHeld ?_
            simp only [Act.put, List.setIfInBounds_toArray, List.set_cons_zero, List.set_cons_succ]
            refine takeY 10 (some 71) rfl rfl (by kernel_rfl) (by kernel_rfl) (by kernel_rfl) (fun _ _ _ h => h) (by rfl) (v := _) (by (intro _ hSw; (try dsimp only at hSw); go_simp; try with_reducible rfl)) hHeld ?_
            simp only [Act.put, List.setIfInBounds_toArray, List.set_cons_zero, List.set_cons_succ]
            refine takeY 11 (some 72) rfl rfl (by kernel_rfl) (by kernel_rfl) (by kernel_rfl) (fun _ _ _ h => h) (by rfl) (v := _) (by (intro _ hSw; (try dsimp only at hSw); go_simp; try with_reducible rfl)) hHeld ?_
            simp only [Act.put, List.setIfInBounds_toArray, List.set_cons_zero, List.set_cons_succ]
            refine takeY 12 (some 73) rfl rfl (by kernel_rfl) (by kernel_rfl) (by kernel_rfl) (fun _ _ _ h => h) (by rfl) (v := _) (by (intro _ hSw; (try dsimp only at hSw); go_simp; try with_reducible rfl)) hHeld ?_
            simp only [Act.put, List.setIfInBounds_toArray, List.set_cons_zero, List.set_cons_succ]
            refine takeY 13 (some 74) rfl rfl (by kernel_rfl) (by kernel_rfl) (by kernel_rfl) (fun _ _ _ h => h) (by rfl) (v := _) (by (intro _ hSw; (try dsimp only at hSw); go_simp; try with_reducible rfl)) hHeld ?_
            simp only [Act.put, List.setIfInBounds_toArray, List.set_cons_zero, List.set_cons_succ]
            refine takeY 14 (some 75) rfl rfl (by kernel_rfl) (by kernel_rfl) (by kernel_rfl) (fun _ _ _ h => h) (by rfl) (v := _) (by (intro _ hSw; (try dsimp only at hSw); go_simp; try with_reducible rfl)) hHeld ?_
            simp only [Act.put, List.setIfInBounds_toArray, List.set_cons_zero, List.set_cons_succ]
            refine takeY 15 (some 76) rfl rfl (by kernel_rfl) (by kernel_rfl) (by kernel_rfl) (fun _ _ _ h => h) (by rfl) (v := _) (by (intro _ hSw; (try dsimp only at hSw); go_simp; try with_reducible rfl)) hHeld ?_
            simp only [Act.put, List.setIfInBounds_toArray, List.set_cons_zero, List.set_cons_succ]
            refine takeY 16 (some 77) rfl rfl (by kernel_rfl) (by kernel_rfl) (by kernel_rfl) (fun _ _ _ h => h) (by rfl) (v := _) (by (intro _ hSw; (try dsimp only at hSw); go_simp; try with_reducible rfl)) hHeld ?_
            simp only [Act.put, List.setIfInBounds_toArray, List.set_cons_zero, List.set_cons_succ]
            refine takeN 17 (some 78) rfl rfl (by kernel_rfl) (by kernel_rfl) (by kernel_rfl) (fun _ _ _ h => h) (by rfl) hHeld ?_
            simp only [Act.put, List.setIfInBounds_toArray, List.set_cons_zero, List.set_cons_succ]
            refine takeN 18 (some 79) rfl rfl (by kernel_rfl) (by kernel_rfl) (by kernel_rfl) (fun _ _ _ h => h) (by rfl) hHeld ?_
            simp only [Act.put, List.setIfInBounds_toArray, List.set_cons_zero, List.set_cons_succ]
            refine takeN 19 (some 80) rfl rfl (by kernel_rfl) (by kernel_rfl) (by kernel_rfl) (fun _ _ _ h => h) (by rfl) hHeld ?_
            simp only [Act.put, List.setIfInBounds_toArray, List.set_cons_zero, List.set_cons_succ]
            refine takeN 20 (some 81) rfl rfl (by kernel_rfl) (by kernel_rfl) (by kernel_rfl) (fun _ _ _ h => h) (by rfl) hHeld ?_
            simp only [Act.put, List.setIfInBounds_toArray, List.set_cons_zero, List.set_cons_succ]
            refine takeN 21 (some 82) rfl rfl (by kernel_rfl) (by kernel_rfl) (by kernel_rfl) (fun _ _ _ h => h) (by rfl) hHeld ?_
            simp only [Act.put, List.setIfInBounds_toArray, List.set_cons_zero, List.set_cons_succ]
            refine takeN 22 (some 83) rfl rfl (by kernel_rfl) (by kernel_rfl) (by kernel_rfl) (fun _ _ _ h => h) (by rfl) hHeld ?_
            simp only [Act.put, List.setIfInBounds_toArray, List.set_cons_zero, List.set_cons_succ]
            refine takeN 23 (some 84) rfl rfl (by kernel_rfl) (by kernel_rfl) (by kernel_rfl) (fun _ _ _ h => h) (by rfl) hHeld ?_
            simp only [Act.put, List.setIfInBounds_toArray, List.set_cons_zero, List.set_cons_succ]
            refine takeN 24 (some 85) rfl rfl (by kernel_rfl) (by kernel_rfl) (by kernel_rfl) (fun _ _ _ h => h) (by rfl) hHeld ?_
            simp only [Act.put, List.setIfInBounds_toArray, List.set_cons_zero, List.set_cons_succ]
            refine takeN 25 (some 86) rfl rfl (by kernel_rfl) (by kernel_rfl) (by kernel_rfl) (fun _ _ _ h => h) (by rfl) hHeld ?_
            simp only [Act.put, List.setIfInBounds_toArray, List.set_cons_zero, List.set_cons_succ]
            refine takeN 26 (some 87) rfl rfl (by kernel_rfl) (by kernel_rfl) (by kernel_rfl) (fun _ _ _ h => h) (by rfl) hHeld ?_
            simp only [Act.put, List.setIfInBounds_toArray, List.set_cons_zero, List.set_cons_succ]
            refine takeN 27 (some 88) rfl rfl (by kernel_rfl) (by kernel_rfl) (by kernel_rfl) (fun _ _ _ h => h) (by rfl) hHeld ?_
            simp only [Act.put, List.setIfInBounds_toArray, List.set_cons_zero, List.set_cons_succ]
            refine takeN 28 (some 89) rfl rfl (by kernel_rfl) (by kernel_rfl) (by kernel_rfl) (fun _ _ _ h => h) (by rfl) hHeld ?_
            simp only [Act.put, List.setIfInBounds_toArray, List.set_cons_zero, List.set_cons_succ]
            refine takeN 29 (some 90) rfl rfl (by kernel_rfl) (by kernel_rfl) (by kernel_rfl) (fun _ _ _ h => h) (by rfl) hHeld ?_
            simp only [Act.put, List.setIfInBounds_toArray, List.set_cons_zero, List.set_cons_succ]
            refine takeN 30 (some 91) rfl rfl (by kernel_rfl) (by kernel_rfl) (by kernel_rfl) (fun _ _ _ h => h) (by rfl) hHeld ?_
            simp only [Act.put, List.setIfInBounds_toArray, List.set_cons_zero, List.set_cons_succ]
            refine takeY 31 (some 92) rfl rfl (by kernel_rfl) (by kernel_rfl) (by kernel_rfl) (fun _ _ _ h => h) (by rfl) (v := _) (by (intro _ hSw; (try dsimp only at hSw); go_simp; try with_reducible rfl)) hHeld ?_
            simp only [Act.put, List.setIfInBounds_toArray, List.set_cons_zero, List.set_cons_succ]
            refine wpAnyH_done (by kernel_rfl) ?_ _
            go_wp2_with fail
            have HRX := Lib.hid (And.intro (HR4.out.1.below HBX.out).1 HR4.out.2)
            clear HBX HR4 HSZ HBD
            go_loopw [12, 13, 14] (fun sv nv kv wr => ∃ k s m : Nat, 1 ≤ k ∧ k ≤ cs + 1 ∧ kv = .int .i64 (k : Int) ∧ sv = .int .i64 (s : Int) ∧ nv = .int .i64 (m : Int) ∧ s ≤ 1 + lm ∧ m ≤ k ∧ Hid (HR w wr (fun _ => False) g (2 * i + 2) H2 ∧ s = Hp.total (lowL H2 k) ∧ m = (lowL H2 k).length)) (fun _ _ kv _ => cs + 1 - (intOf kv).toNat)
            case atStart => exact ⟨1, 0, 0, by omega, by omega, rfl, rfl, rfl, by omega, by omega, Lib.hid ⟨HRX.out.1, by rw [low_one HRX.out.1.ok]; rfl, by rw [low_one HRX.out.1.ok]; rfl⟩⟩
            case round =>
              obtain ⟨k, s, m, hk1, hk2, rfl, rfl, rfl, hsb, hmb, hJ⟩ := hrel
              by_cases hlk : k ≤ cs
              · have hdk : decide ((k : Int) ≤ (cs : Int)) = true := by simpa using hlk
                have HG := Lib.hid (get_hr hJ.out.1 (k : Int) (WalkArith.wf_i64 (by omega)))
                have hst := low_step hJ.out.1.ok k
                have htl := total_low H2 (k + 1)
                have hsum := hJ.out.1.ok.sum
                have hroom := hJ.out.1.ok.room.1
                have hlim : H2.limit = 1 + lm := HRX.out.2.1
                cases hob : H2.obj (k : Int) with
                | none =>
                  have hgo : getO H2 (k : Int) = noOb := by unfold getO; rw [hob]
                  rw [hgo, hob] at HG
                  have HST := Lib.hid (hst.1 hob)
                  clear hst htl hsum hroom hlim hob hgo
                  go_wp2_with fail
                  refine HG.out.mono ?_
                  rintro e w5 ⟨v, G, gc, rfl, hob, hb5⟩
                  obtain ⟨rfl, hrg⟩ := hob
                  have hnv : (Value.agg #[.int .u8 (noOb.k : Int), .int .i64 noOb.tag, .slice G noOb.ws.length gc, .string (str noOb.t)]) = .agg #[.int .u8 0, .int .i64 0, .slice G 0 gc, .string ⟨#[]⟩] := rfl
                  rw [hnv]
                  dsimp only [Option.isSome]
                  obtain ⟨w6, hw6⟩ : ∃ w6, w5.alloc (.cells #[.int .u8 0, .int .i64 0, .slice G 0 gc, .string ⟨#[]⟩] 35) = w6 := ⟨_, rfl⟩
                  have hb6 : Below w5.heap.size w5 w6 := by rw [← hw6]; exact (Below.refl _ _).alloc (Nat.le_refl _) _
                  have HJ6 := Lib.hid (And.intro (hJ.out.1.below (hb5.trans (hb6.mono hb5.size))).1 (And.intro hJ.out.2.1 hJ.out.2.2))
                  have HW6 := Lib.hid hw6
                  clear hb5 hb6 hrg hnv hw6 hJ HG
                  go_upto_region 23 with fail
                  rw [HW6.out]
                  go_wp2_with fail
                  go_roundw
                  case rel => exact ⟨k + 1, s, m, by omega, by omega, by go_num, rfl, rfl, hsb, by omega, Lib.hid ⟨HJ6.out.1, by rw [HST.out]; exact HJ6.out.2.1, by rw [HST.out]; exact HJ6.out.2.2⟩⟩
                  case measure => simp [intOf]; omega
                | some x =>
                  have hgo : getO H2 (k : Int) = x.o := by unfold getO; rw [hob]
                  rw [hgo, hob] at HG
                  obtain ⟨hs1, hs2⟩ := hst.2 x hob
                  have hxs := (hJ.out.1.ok.inn x (HS.obj_some hob).1).2.2.1
                  obtain ⟨xz, hxz⟩ : ∃ xz, Hp.sizeO x.o = xz := ⟨_, rfl⟩
                  rw [hxz] at hs1
                  have hsx : s + xz ≤ 1 + lm := by have := hJ.out.2.1; omega
                  have HST := Lib.hid (And.intro hs1 (And.intro hs2 (And.intro hxs hxz)))
                  clear hst htl hsum hroom hlim hob hgo hs1 hs2 hxs hxz
                  go_wp2_with fail
                  refine HG.out.mono ?_
                  rintro e w5 ⟨v, G, gc, rfl, hob, hb5⟩
                  obtain ⟨rfl, hrg⟩ := hob
                  dsimp only [Option.isSome]
                  obtain ⟨w6, hw6⟩ : ∃ w6, w5.alloc (.cells #[.int .u8 (x.o.k : Int), .int .i64 x.o.tag, .slice G x.o.ws.length gc, .string (str x.o.t)] 35) = w6 := ⟨_, rfl⟩
                  have hb6 : Below w5.heap.size w5 w6 := by rw [← hw6]; exact (Below.refl _ _).alloc (Nat.le_refl _) _
                  have hB6 : Blk w6 w5.heap.size 35 #[.int .u8 (x.o.k : Int), .int .i64 x.o.tag, .slice G x.o.ws.length gc, .string (str x.o.t)] := by rw [← hw6]; exact Blk.new _ _ _
                  have hr6 := (hJ.out.1.below (hb5.trans (hb6.mono hb5.size))).1
                  have y0 := hB6.cell 0
                  have y1 := hB6.cell 1
                  have y2 := hB6.cell 2
                  have y3 := hB6.cell 3
                  simp only [List.getElem?_toArray, List.getElem?_cons_zero, List.getElem?_cons_succ] at y0 y1 y2 y3
                  have hsz := size_any x.o G gc w6 HST.out.2.2.1
                  rw [HST.out.2.2.2] at hsz
                  have HSX := Lib.hid hsz
                  have HJ6 := Lib.hid (And.intro hr6 (And.intro hJ.out.2.1 hJ.out.2.2))
                  clear hb5 hb6 hB6 hr6 hrg hJ HG hsz
                  go_wp2_with fail
                  refine HSX.out.mono ?_
                  rintro e w7 ⟨rfl, hb7⟩
                  have HJ7 := Lib.hid (HJ6.out.1.below hb7).1
                  clear hb7
                  go_wp2_with fail
                  go_roundw
                  case rel => exact ⟨k + 1, s + xz, m + 1, by omega, by omega, by go_num, by go_num, by go_num, hsx, by omega, Lib.hid ⟨HJ7.out, by rw [HST.out.1, HJ6.out.2.1], by rw [HST.out.2.1, HJ6.out.2.2]⟩⟩
                  case measure => simp [intOf]; omega
              · obtain rfl : k = cs + 1 := by omega
                have hdk : decide (((cs + 1 : Nat) : Int) ≤ (cs : Int)) = false := by simp; omega
                have hdk2 : decide ((cs : Int) + 1 ≤ (cs : Int)) = false := by simp; omega
                have hall := low_all hJ.out.1.ok
                rw [HCS.out] at hall
                have hs : s = H2.used := by rw [hJ.out.2.1, hall]; exact hJ.out.1.ok.sum.symm
                have hm : m = H2.L.length := by rw [hJ.out.2.2, hall]
                have HU := used_hr hJ.out.1
                rw [← hs] at HU
                have HC := count_hr hJ.out.1
                rw [← hm] at HC
                have HU := Lib.hid HU
                have HC := Lib.hid HC
                have hsl : decide ((s : Int) > 1 + (lm : Int)) = false := by simp; omega
                have HJ6 := Lib.hid hJ.out.1
                clear hall hs hm hJ
                go_wp2_with fail
                refine HU.out.mono ?_
                rintro e v1 ⟨rfl, rfl⟩
                go_wp2_with fail
                refine HC.out.mono ?_
                rintro e v1 ⟨rfl, rfl⟩
                go_wp2_with fail
                go_roundw
                case rel => exact ⟨i + 1, H2, by omega, by go_num, by rw [HCS.out], by rw [HCS.out]; omega, Lib.hid ⟨HJ6.out.mono (by omega), HRX.out.2.2, HRX.out.2.1⟩⟩
                case measure => simp [intOf]; omega
        · have hkb : (o.kind == 0) = true := by simpa using hk0
          have q0 : ((te : Int) == 0) = false := by simp; omega
          have q1 : ((te : Int) != 1) = true := by simp; omega
          have q3 : ((te : Int) != 3) = true := by simp; omega
          have ql : decide ((us : Int) + (sz : Int) ≤ 1 + (lm : Int)) = false := by simp; omega
          have qw : IntKind.i64.wrap ((us : Int) + (sz : Int)) = (us : Int) + (sz : Int) := IntWalk.i64_in _ (by omega)
          have hcast : (cn : Int) = (cs : Int) := by omega
          have hcsi : cs ≤ i + 1 := by omega
          have HCAST := Lib.hid hcast
          clear hcast hc2
          clear ht hk0
          go_upto_region 15 with fail
          rw [HCAST.out]
          refine wp_region_held_drew (S := fun W => W.cell? ⟨b, off + i * 10, none⟩ = some (.int .i64 o.kind) ∧ W.cell? ⟨b, off + i * 10 + 3, none⟩ = some (.int .u8 (o.o.k : Int)) ∧ W.cell? ⟨b, off + i * 10 + 4, none⟩ = some (.int .i64 o.o.tag) ∧ W.cell? ⟨b, off + i * 10 + 5, none⟩ = some (.slice B o.o.ws.length c) ∧ W.cell? ⟨b, off + i * 10 + 6, none⟩ = some (.string (str o.o.t)) ∧ W.cell? ⟨w3.heap.size, 8, none⟩ = some (.int .i64 (te : Int))) (by kernel_rfl) hS0 (fun hHeld => ?_)
          refine takeY 0 (some 61) rfl rfl (by kernel_rfl) (by kernel_rfl) (by kernel_rfl) (fun _ _ _ h => h) (by rfl) (v := _) (by (intro _ hSw; (try dsimp only at hSw); go_simp; try with_reducible rfl)) hHeld ?_
          simp only [Act.put, List.setIfInBounds_toArray, List.set_cons_zero, List.set_cons_succ]
          refine takeY 1 (some 62) rfl rfl (by kernel_rfl) (by kernel_rfl) (by kernel_rfl) (fun _ _ _ h => h) (by rfl) (v := _) (by (intro _ hSw; (try dsimp only at hSw); go_simp; try with_reducible rfl)) hHeld ?_
          simp only [Act.put, List.setIfInBounds_toArray, List.set_cons_zero, List.set_cons_succ]
          refine takeY 2 (some 63) rfl rfl (by kernel_rfl) (by kernel_rfl) (by kernel_rfl) (fun _ _ _ h => h) (by rfl) (v := _) (by (intro _ hSw; (try dsimp only at hSw); go_simp; try with_reducible rfl)) hHeld ?_
          simp only [Act.put, List.setIfInBounds_toArray, List.set_cons_zero, List.set_cons_succ]
          refine takeY 3 (some 64) rfl rfl (by kernel_rfl) (by kernel_rfl) (by kernel_rfl) (fun _ _ _ h => h) (by rfl) (v := _) (by (intro _ hSw; (try dsimp only at hSw); go_simp; try with_reducible rfl)) hHeld ?_
          simp only [Act.put, List.setIfInBounds_toArray, List.set_cons_zero, List.set_cons_succ]
          refine takeY 4 (some 65) rfl rfl (by kernel_rfl) (by kernel_rfl) (by kernel_rfl) (fun _ _ _ h => h) (by rfl) (v := _) (by (intro _ hSw; (try dsimp only at hSw); go_simp; try with_reducible rfl)) hHeld ?_
          simp only [Act.put, List.setIfInBounds_toArray, List.set_cons_zero, List.set_cons_succ]
          refine takeY 5 (some 66) rfl rfl (by kernel_rfl) (by kernel_rfl) (by kernel_rfl) (fun _ _ _ h => h) (by rfl) (v := _) (by (intro _ hSw; (try dsimp only at hSw); go_simp; try with_reducible rfl)) hHeld ?_
          simp only [Act.put, List.setIfInBounds_toArray, List.set_cons_zero, List.set_cons_succ]
          refine takeY 6 (some 67) rfl rfl (by kernel_rfl) (by kernel_rfl) (by kernel_rfl) (fun _ _ _ h => h) (by rfl) (v := _) (by (intro _ hSw; (try dsimp only at hSw); go_simp; try with_reducible rfl)) hHeld ?_
          simp only [Act.put, List.setIfInBounds_toArray, List.set_cons_zero, List.set_cons_succ]
          refine takeY 7 (some 68) rfl rfl (by kernel_rfl) (by kernel_rfl) (by kernel_rfl) (fun _ _ _ h => h) (by rfl) (v := _) (by (intro _ hSw; (try dsimp only at hSw); go_simp; try with_reducible rfl)) hHeld ?_
          simp only [Act.put, List.setIfInBounds_toArray, List.set_cons_zero, List.set_cons_succ]
          refine takeY 8 (some 69) rfl rfl (by kernel_rfl) (by kernel_rfl) (by kernel_rfl) (fun _ _ _ h => h) (by rfl) (v := _) (by (intro _ hSw; (try dsimp only at hSw); go_simp; try with_reducible rfl)) hHeld ?_
          simp only [Act.put, List.setIfInBounds_toArray, List.set_cons_zero, List.set_cons_succ]
          refine takeY 9 (some 70) rfl rfl (by kernel_rfl) (by kernel_rfl) (by kernel_rfl) (fun _ _ _ h => h) (by rfl) (v := _) (by (intro _ hSw; (try dsimp only at hSw); go_simp; try with_reducible rfl)) hHeld ?_
          simp only [Act.put, List.setIfInBounds_toArray, List.set_cons_zero, List.set_cons_succ]
          refine takeY 10 (some 71) rfl rfl (by kernel_rfl) (by kernel_rfl) (by kernel_rfl) (fun _ _ _ h => h) (by rfl) (v := _) (by (intro _ hSw; (try dsimp only at hSw); go_simp; try with_reducible rfl)) hHeld ?_
          simp only [Act.put, List.setIfInBounds_toArray, List.set_cons_zero, List.set_cons_succ]
          refine takeY 11 (some 72) rfl rfl (by kernel_rfl) (by kernel_rfl) (by kernel_rfl) (fun _ _ _ h => h) (by rfl) (v := _) (by (intro _ hSw; (try dsimp only at hSw); go_simp; try with_reducible rfl)) hHeld ?_
          simp only [Act.put, List.setIfInBounds_toArray, List.set_cons_zero, List.set_cons_succ]
          refine takeY 12 (some 73) rfl rfl (by kernel_rfl) (by kernel_rfl) (by kernel_rfl) (fun _ _ _ h => h) (by rfl) (v := _) (by (intro _ hSw; (try dsimp only at hSw); go_simp; try with_reducible rfl)) hHeld ?_
          simp only [Act.put, List.setIfInBounds_toArray, List.set_cons_zero, List.set_cons_succ]
          refine takeY 13 (some 74) rfl rfl (by kernel_rfl) (by kernel_rfl) (by kernel_rfl) (fun _ _ _ h => h) (by rfl) (v := _) (by (intro _ hSw; (try dsimp only at hSw); go_simp; try with_reducible rfl)) hHeld ?_
          simp only [Act.put, List.setIfInBounds_toArray, List.set_cons_zero, List.set_cons_succ]
          refine takeY 14 (some 75) rfl rfl (by kernel_rfl) (by kernel_rfl) (by kernel_rfl) (fun _ _ _ h => h) (by rfl) (v := _) (by (intro _ hSw; (try dsimp only at hSw); go_simp; try with_reducible rfl)) hHeld ?_
          simp only [Act.put, List.setIfInBounds_toArray, List.set_cons_zero, List.set_cons_succ]
          refine takeY 15 (some 76) rfl rfl (by kernel_rfl) (by kernel_rfl) (by kernel_rfl) (fun _ _ _ h => h) (by rfl) (v := _) (by (intro _ hSw; (try dsimp only at hSw); go_simp; try with_reducible rfl)) hHeld ?_
          simp only [Act.put, List.setIfInBounds_toArray, List.set_cons_zero, List.set_cons_succ]
          refine takeY 16 (some 77) rfl rfl (by kernel_rfl) (by kernel_rfl) (by kernel_rfl) (fun _ _ _ h => h) (by rfl) (v := _) (by (intro _ hSw; (try dsimp only at hSw); go_simp; try with_reducible rfl)) hHeld ?_
          simp only [Act.put, List.setIfInBounds_toArray, List.set_cons_zero, List.set_cons_succ]
          refine takeY 17 (some 78) rfl rfl (by kernel_rfl) (by kernel_rfl) (by kernel_rfl) (fun _ _ _ h => h) (by rfl) (v := _) (by (intro _ hSw; (try dsimp only at hSw); go_simp; try with_reducible rfl)) hHeld ?_
          simp only [Act.put, List.setIfInBounds_toArray, List.set_cons_zero, List.set_cons_succ]
          refine takeY 18 (some 79) rfl rfl (by kernel_rfl) (by kernel_rfl) (by kernel_rfl) (fun _ _ _ h => h) (by rfl) (v := _) (by (intro _ hSw; (try dsimp only at hSw); go_simp; try with_reducible rfl)) hHeld ?_
          simp only [Act.put, List.setIfInBounds_toArray, List.set_cons_zero, List.set_cons_succ]
          refine takeY 19 (some 80) rfl rfl (by kernel_rfl) (by kernel_rfl) (by kernel_rfl) (fun _ _ _ h => h) (by rfl) (v := _) (by (intro _ hSw; (try dsimp only at hSw); go_simp; try with_reducible rfl)) hHeld ?_
          simp only [Act.put, List.setIfInBounds_toArray, List.set_cons_zero, List.set_cons_succ]
          refine takeY 20 (some 81) rfl rfl (by kernel_rfl) (by kernel_rfl) (by kernel_rfl) (fun _ _ _ h => h) (by rfl) (v := _) (by (intro _ hSw; (try dsimp only at hSw); go_simp; try with_reducible rfl)) hHeld ?_
          simp only [Act.put, List.setIfInBounds_toArray, List.set_cons_zero, List.set_cons_succ]
          refine takeY 21 (some 82) rfl rfl (by kernel_rfl) (by kernel_rfl) (by kernel_rfl) (fun _ _ _ h => h) (by rfl) (v := _) (by (intro _ hSw; (try dsimp only at hSw); go_simp; try with_reducible rfl)) hHeld ?_
          simp only [Act.put, List.setIfInBounds_toArray, List.set_cons_zero, List.set_cons_succ]
          refine takeY 22 (some 83) rfl rfl (by kernel_rfl) (by kernel_rfl) (by kernel_rfl) (fun _ _ _ h => h) (by rfl) (v := _) (by (intro _ hSw; (try dsimp only at hSw); go_simp; try with_reducible rfl)) hHeld ?_
          simp only [Act.put, List.setIfInBounds_toArray, List.set_cons_zero, List.set_cons_succ]
          refine takeY 23 (some 84) rfl rfl (by kernel_rfl) (by kernel_rfl) (by kernel_rfl) (fun _ _ _ h => h) (by rfl) (v := _) (by (intro _ hSw; (try dsimp only at hSw); go_simp; try with_reducible rfl)) hHeld ?_
          simp only [Act.put, List.setIfInBounds_toArray, List.set_cons_zero, List.set_cons_succ]
          refine takeY 24 (some 85) rfl rfl (by kernel_rfl) (by kernel_rfl) (by kernel_rfl) (fun _ _ _ h => h) (by rfl) (v := _) (by (intro _ hSw; (try dsimp only at hSw); go_simp; try with_reducible rfl)) hHeld ?_
          simp only [Act.put, List.setIfInBounds_toArray, List.set_cons_zero, List.set_cons_succ]
          refine takeY 25 (some 86) rfl rfl (by kernel_rfl) (by kernel_rfl) (by kernel_rfl) (fun _ _ _ h => h) (by rfl) (v := _) (by (intro _ hSw; (try dsimp only at hSw); go_simp; try with_reducible rfl)) hHeld ?_
          simp only [Act.put, List.setIfInBounds_toArray, List.set_cons_zero, List.set_cons_succ]
          refine takeY 28 (some 89) rfl rfl (by kernel_rfl) (by kernel_rfl) (by kernel_rfl) (fun _ _ _ h => h) (by rfl) (v := _) (by (intro _ hSw; (try dsimp only at hSw); go_simp; try with_reducible rfl)) hHeld ?_
          simp only [Act.put, List.setIfInBounds_toArray, List.set_cons_zero, List.set_cons_succ]
          refine wpAnyH_ready (rs := [26]) (by kernel_rfl) (by simp) ?_
          refine AllReadyH.cons rfl (fun K hK => ?_) AllReadyH.nil
          clear hHeld
          go_simp
          go_wp2_with (go_at_call 34; refine Calls.mono HSZ.out ?_; rintro e w6 ⟨rfl, hb6⟩; have HBX : Hid (Below w4.heap.size w4 w6) := Lib.hid (HBD.out.trans hb6); clear hb6)
          refine hK.out _ _ ⟨(HBX.out.cell (World.block_lt_of_cell? _ _ (hS0.1))).trans hS0.1, (HBX.out.cell (World.block_lt_of_cell? _ _ (hS0.2.1))).trans hS0.2.1, (HBX.out.cell (World.block_lt_of_cell? _ _ (hS0.2.2.1))).trans hS0.2.2.1, (HBX.out.cell (World.block_lt_of_cell? _ _ (hS0.2.2.2.1))).trans hS0.2.2.2.1, (HBX.out.cell (World.block_lt_of_cell? _ _ (hS0.2.2.2.2.1))).trans hS0.2.2.2.2.1, (HBX.out.cell (World.block_lt_of_cell? _ _ (hS0.2.2.2.2.2))).trans hS0.2.2.2.2.2⟩ (fun hHeld => ?_)
          clear hK K
          refine takeY 27 (some 88) rfl rfl (by kernel_rfl) (by kernel_rfl) (by kernel_rfl) (fun _ _ _ h => h) (by rfl) (v := _) (by (intro _ hSw; (try dsimp only at hSw); go_simp; try with_reducible rfl)) hHeld ?_
          simp only [Act.put, List.setIfInBounds_toArray, List.set_cons_zero, List.set_cons_succ]
          refine takeY 29 (some 90) rfl rfl (by kernel_rfl) (by kernel_rfl) (by kernel_rfl) (fun _ _ _ h => h) (by rfl) (v := _) (by (intro _ hSw; (try dsimp only at hSw); go_simp; try with_reducible rfl)) hHeld ?_
          simp only [Act.put, List.setIfInBounds_toArray, List.set_cons_zero, List.set_cons_succ]
          refine takeY 30 (some 91) rfl rfl (by kernel_rfl) (by kernel_rfl) (by kernel_rfl) (fun _ _ _ h => h) (by rfl) (v := _) (by (intro _ hSw; (try dsimp only at hSw); go_simp; try with_reducible rfl)) hHeld ?_
          simp only [Act.put, List.setIfInBounds_toArray, List.set_cons_zero, List.set_cons_succ]
          refine takeY 31 (some 92) rfl rfl (by kernel_rfl) (by kernel_rfl) (by kernel_rfl) (fun _ _ _ h => h) (by rfl) (v := _) (by (intro _ hSw; (try dsimp only at hSw); go_simp; try with_reducible rfl)) hHeld ?_
          simp only [Act.put, List.setIfInBounds_toArray, List.set_cons_zero, List.set_cons_succ]
          refine wpAnyH_done (by kernel_rfl) ?_ _
          go_wp2_with fail
          have HRX := Lib.hid (And.intro (HR4.out.1.below HBX.out).1 HR4.out.2)
          clear HBX HR4 HSZ HBD
          go_loopw [12, 13, 14] (fun sv nv kv wr => ∃ k s m : Nat, 1 ≤ k ∧ k ≤ cs + 1 ∧ kv = .int .i64 (k : Int) ∧ sv = .int .i64 (s : Int) ∧ nv = .int .i64 (m : Int) ∧ s ≤ 1 + lm ∧ m ≤ k ∧ Hid (HR w wr (fun _ => False) g (2 * i + 2) H2 ∧ s = Hp.total (lowL H2 k) ∧ m = (lowL H2 k).length)) (fun _ _ kv _ => cs + 1 - (intOf kv).toNat)
          case atStart => exact ⟨1, 0, 0, by omega, by omega, rfl, rfl, rfl, by omega, by omega, Lib.hid ⟨HRX.out.1, by rw [low_one HRX.out.1.ok]; rfl, by rw [low_one HRX.out.1.ok]; rfl⟩⟩
          case round =>
            obtain ⟨k, s, m, hk1, hk2, rfl, rfl, rfl, hsb, hmb, hJ⟩ := hrel
            by_cases hlk : k ≤ cs
            · have hdk : decide ((k : Int) ≤ (cs : Int)) = true := by simpa using hlk
              have HG := Lib.hid (get_hr hJ.out.1 (k : Int) (WalkArith.wf_i64 (by omega)))
              have hst := low_step hJ.out.1.ok k
              have htl := total_low H2 (k + 1)
              have hsum := hJ.out.1.ok.sum
              have hroom := hJ.out.1.ok.room.1
              have hlim : H2.limit = 1 + lm := HRX.out.2.1
              cases hob : H2.obj (k : Int) with
              | none =>
                have hgo : getO H2 (k : Int) = noOb := by unfold getO; rw [hob]
                rw [hgo, hob] at HG
                have HST := Lib.hid (hst.1 hob)
                clear hst htl hsum hroom hlim hob hgo
                go_wp2_with fail
                refine HG.out.mono ?_
                rintro e w5 ⟨v, G, gc, rfl, hob, hb5⟩
                obtain ⟨rfl, hrg⟩ := hob
                have hnv : (Value.agg #[.int .u8 (noOb.k : Int), .int .i64 noOb.tag, .slice G noOb.ws.length gc, .string (str noOb.t)]) = .agg #[.int .u8 0, .int .i64 0, .slice G 0 gc, .string ⟨#[]⟩] := rfl
                rw [hnv]
                dsimp only [Option.isSome]
                obtain ⟨w6, hw6⟩ : ∃ w6, w5.alloc (.cells #[.int .u8 0, .int .i64 0, .slice G 0 gc, .string ⟨#[]⟩] 35) = w6 := ⟨_, rfl⟩
                have hb6 : Below w5.heap.size w5 w6 := by rw [← hw6]; exact (Below.refl _ _).alloc (Nat.le_refl _) _
                have HJ6 := Lib.hid (And.intro (hJ.out.1.below (hb5.trans (hb6.mono hb5.size))).1 (And.intro hJ.out.2.1 hJ.out.2.2))
                have HW6 := Lib.hid hw6
                clear hb5 hb6 hrg hnv hw6 hJ HG
                go_upto_region 23 with fail
                rw [HW6.out]
                go_wp2_with fail
                go_roundw
                case rel => exact ⟨k + 1, s, m, by omega, by omega, by go_num, rfl, rfl, hsb, by omega, Lib.hid ⟨HJ6.out.1, by rw [HST.out]; exact HJ6.out.2.1, by rw [HST.out]; exact HJ6.out.2.2⟩⟩
                case measure => simp [intOf]; omega
              | some x =>
                have hgo : getO H2 (k : Int) = x.o := by unfold getO; rw [hob]
                rw [hgo, hob] at HG
                obtain ⟨hs1, hs2⟩ := hst.2 x hob
                have hxs := (hJ.out.1.ok.inn x (HS.obj_some hob).1).2.2.1
                obtain ⟨xz, hxz⟩ : ∃ xz, Hp.sizeO x.o = xz := ⟨_, rfl⟩
                rw [hxz] at hs1
                have hsx : s + xz ≤ 1 + lm := by have := hJ.out.2.1; omega
                have HST := Lib.hid (And.intro hs1 (And.intro hs2 (And.intro hxs hxz)))
                clear hst htl hsum hroom hlim hob hgo hs1 hs2 hxs hxz
                go_wp2_with fail
                refine HG.out.mono ?_
                rintro e w5 ⟨v, G, gc, rfl, hob, hb5⟩
                obtain ⟨rfl, hrg⟩ := hob
                dsimp only [Option.isSome]
                obtain ⟨w6, hw6⟩ : ∃ w6, w5.alloc (.cells #[.int .u8 (x.o.k : Int), .int .i64 x.o.tag, .slice G x.o.ws.length gc, .string (str x.o.t)] 35) = w6 := ⟨_, rfl⟩
                have hb6 : Below w5.heap.size w5 w6 := by rw [← hw6]; exact (Below.refl _ _).alloc (Nat.le_refl _) _
                have hB6 : Blk w6 w5.heap.size 35 #[.int .u8 (x.o.k : Int), .int .i64 x.o.tag, .slice G x.o.ws.length gc, .string (str x.o.t)] := by rw [← hw6]; exact Blk.new _ _ _
                have hr6 := (hJ.out.1.below (hb5.trans (hb6.mono hb5.size))).1
                have y0 := hB6.cell 0
                have y1 := hB6.cell 1
                have y2 := hB6.cell 2
                have y3 := hB6.cell 3
                simp only [List.getElem?_toArray, List.getElem?_cons_zero, List.getElem?_cons_succ] at y0 y1 y2 y3
                have hsz := size_any x.o G gc w6 HST.out.2.2.1
                rw [HST.out.2.2.2] at hsz
                have HSX := Lib.hid hsz
                have HJ6 := Lib.hid (And.intro hr6 (And.intro hJ.out.2.1 hJ.out.2.2))
                clear hb5 hb6 hB6 hr6 hrg hJ HG hsz
                go_wp2_with fail
                refine HSX.out.mono ?_
                rintro e w7 ⟨rfl, hb7⟩
                have HJ7 := Lib.hid (HJ6.out.1.below hb7).1
                clear hb7
                go_wp2_with fail
                go_roundw
                case rel => exact ⟨k + 1, s + xz, m + 1, by omega, by omega, by go_num, by go_num, by go_num, hsx, by omega, Lib.hid ⟨HJ7.out, by rw [HST.out.1, HJ6.out.2.1], by rw [HST.out.2.1, HJ6.out.2.2]⟩⟩
                case measure => simp [intOf]; omega
            · obtain rfl : k = cs + 1 := by omega
              have hdk : decide (((cs + 1 : Nat) : Int) ≤ (cs : Int)) = false := by simp; omega
              have hdk2 : decide ((cs : Int) + 1 ≤ (cs : Int)) = false := by simp; omega
              have hall := low_all hJ.out.1.ok
              rw [HCS.out] at hall
              have hs : s = H2.used := by rw [hJ.out.2.1, hall]; exact hJ.out.1.ok.sum.symm
              have hm : m = H2.L.length := by rw [hJ.out.2.2, hall]
              have HU := used_hr hJ.out.1
              rw [← hs] at HU
              have HC := count_hr hJ.out.1
              rw [← hm] at HC
              have HU := Lib.hid HU
              have HC := Lib.hid HC
              have hsl : decide ((s : Int) > 1 + (lm : Int)) = false := by simp; omega
              have HJ6 := Lib.hid hJ.out.1
              clear hall hs hm hJ
              go_wp2_with fail
              refine HU.out.mono ?_
              rintro e v1 ⟨rfl, rfl⟩
              go_wp2_with fail
              refine HC.out.mono ?_
              rintro e v1 ⟨rfl, rfl⟩
              go_wp2_with fail
              go_roundw
              case rel => exact ⟨i + 1, H2, by omega, by go_num, by rw [HCS.out], by rw [HCS.out]; omega, Lib.hid ⟨HJ6.out.mono (by omega), HRX.out.2.2, HRX.out.2.1⟩⟩
              case measure => simp [intOf]; omega
      · obtain rfl : len = i := by omega
        have hd : decide ((len : Int) < (len : Int)) = false := by simp
        have HW := Lib.hid (works_any wr)
        have HB := Lib.hid hI.out.1.bel
        clear hI hcn
        go_wp2_with fail
        refine HW.out.mono ?_
        rintro e w7 ⟨rfl, hb7⟩
        have HB7 := Lib.hid (HB.out.trans (hb7.mono HB.out.size))
        clear hb7
        go_wp2_with fail
        go_ret
        exact ⟨rfl, HB7.out⟩
end Go.Proofs.Ytclkkfffecmjnaa
