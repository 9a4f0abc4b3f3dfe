/- HeapHandles. -/
import Derived.Test.YtclkkfffecmjnaaMd
import Derived.Test.YtclkkfffecmjnaaZ
import Derived.Test.YtclkkfffecmjnaaTake
namespace Go.Proofs.Ytclkkfffecmjnaa
open Go.RowKit
set_option linter.unusedVariables false
set_option linter.unusedSimpArgs false
attribute [local go_sem] Oper.semAt_some
set_option maxRecDepth 20000 in
set_option maxHeartbeats 4000000 in
theorem handles_any (A : Option Addr) (len cap : Nat) (ls : List Ov) (w : World) (hl : ls.length = len) (hcap : len ≤ maxLen) (hM : OpsM w A ls) (hlt : ∀ o ∈ ls, LtO o) :
    Calls Try.prog 6 #[.slice A len cap] w fun e w' => e = .returned (.bool true) ∧ Below w.heap.size w w' := by
  have HV := Lib.hid (vast_any A len cap ls w hl hcap hM hlt)
  have HM := Lib.hid (And.intro hM (And.intro hl hlt))
  clear hM hl hlt hcap
  go_enter Try.func6, Try.ntmps6
  go_wp2_with fail
  refine HV.out.mono ?_
  rintro e w1 ⟨b, rfl, hbf, hb1⟩
  cases b with
  | true =>
    have HW := Lib.hid (works_any w1)
    have HB := Lib.hid hb1
    clear hb1 hbf HV HM
    go_wp2_with fail
    refine HW.out.mono ?_
    rintro e w3 ⟨rfl, hb3⟩
    have HB3 := Lib.hid (HB.out.trans (hb3.mono HB.out.size))
    clear hb3 HW
    go_wp2_with fail
    go_ret
    exact ⟨rfl, HB3.out⟩
  | false =>
    obtain ⟨hlen, hfit⟩ := hbf rfl
    have H1 := Lib.hid (new_ok 1048576 w w1 (fun _ => False) (fun k h => h.elim) hb1 (by omega))
    have HFit := Lib.hid hfit
    have hlen : len ≤ 100 := by rw [← HM.out.2.1]; exact hlen
    clear hfit hbf hb1 HV
    go_wp2_with fail
    refine H1.out.mono ?_
    rintro e w2 ⟨g, rfl, hr, _⟩
    have HR2 := Lib.hid hr
    clear hr H1
    go_wp2_with fail
    go_loopw [5, 6] (fun nv iv wr => ∃ (i : Nat) (H : HS), i ≤ len ∧ iv = .int .i64 (i : Int) ∧ nv = .int .i64 (H.count : Int) ∧ H.count ≤ i ∧ Hid (HR w wr (fun _ => False) g (2 * i) H ∧ H.L.length ≤ i)) (fun _ iv _ => len - (intOf iv).toNat)
    case atStart => exact ⟨0, newH 1048576, Nat.zero_le _, rfl, rfl, Nat.le_refl _, Lib.hid ⟨HR2.out, Nat.le_refl _⟩⟩
    case round =>
      clear HR2
      obtain ⟨i, H, hi, rfl, rfl, hci, hI⟩ := hrel
      obtain ⟨cn, hcn⟩ : ∃ cn, H.count = cn := ⟨_, rfl⟩
      rw [hcn] at hci ⊢
      by_cases hlt : i < len
      · have hd : decide ((i : Int) < (len : Int)) = true := by simpa using hlt
        obtain ⟨o, ho⟩ : ∃ o, ls[i]? = some o := ⟨_, List.getElem?_eq_getElem (by rw [HM.out.2.1]; exact hlt)⟩
        have hbel := hI.out.1.bel
        obtain ⟨b, off, B, c, R, d, rfl, hblt, hc0, hv0⟩ := HM.out.1 i o ho
        have hc : ∀ (j : Nat) (v : Value), (opC o B c R d)[j]? = some v → wr.cell? ⟨b, off + i * 10 + j, none⟩ = some v := fun j v hj => (hbel.cell (p := ⟨b, off + i * 10 + j, none⟩) hblt).trans (hc0 j v hj)
        have hv := hv0.below hbel
        obtain ⟨z0, z1, z2, z3, z4, z5, z6, z7, z8, z9⟩ := ops_cells hc
        have hfo := HFit.out o (List.mem_of_getElem? ho)
        have HD := does_hr hI.out.1 (by omega) (by have := hI.out.2; omega) hv hfo
        have hcnt := doF_counts H o
        rw [hcn] at hcnt
        obtain ⟨H2, hH2⟩ : ∃ H2, (doF H o).1 = H2 := ⟨_, rfl⟩
        obtain ⟨tv, htv⟩ : ∃ tv, (doF H o).2 = tv := ⟨_, rfl⟩
        rw [hH2, htv] at HD hcnt
        clear hH2 htv
        obtain ⟨⟨tk, ttag, tws, ttx⟩, ⟨twk, twn⟩, tn, tis, te⟩ := tv
        have htold : ∀ T c2, toldC ⟨⟨tk, ttag, tws, ttx⟩, ⟨twk, twn⟩, tn, tis, te⟩ T c2 = #[.int .u8 (tk : Int), .int .i64 ttag, .slice T tws.length c2, .string (str ttx), .int .u8 (twk : Int), .int .i64 twn, .int .i64 (tn : Int), .bool tis, .int .i64 (te : Int)] := fun T c2 => rfl
        have HTO := Lib.hid htold
        dsimp only at hcnt
        have HLI := Lib.hid ho
        have HO := Lib.hid (And.intro hI.out (And.intro hcn (And.intro hblt (And.intro hc0 hv0))))
        unfold opC at HD
        replace HD := Lib.hid HD
        clear hbel hc hv hfo ho hcn htold hI hc0 hv0
        go_wp2_with fail
        refine HD.out.mono ?_
        rintro e w3 ⟨T, c2, rfl, _, hr3, _⟩
        rw [HTO.out]
        have hr3 := hr3.less (Y := fun _ => False) (fun k h => h.elim)
        obtain ⟨m3, hm3⟩ : ∃ m3, tws.length = m3 := ⟨_, rfl⟩
        rw [hm3]
        clear hm3
        obtain ⟨w4, hw4⟩ : ∃ w4, w3.alloc (.cells #[.int .u8 (tk : Int), .int .i64 ttag, .slice T m3 c2, .string (str ttx), .int .u8 (twk : Int), .int .i64 twn, .int .i64 (tn : Int), .bool tis, .int .i64 (te : Int)] 39) = w4 := ⟨_, rfl⟩
        have hb4 : Below w3.heap.size w3 w4 := by rw [← hw4]; exact (Below.refl _ _).alloc (Nat.le_refl _) _
        have hB4 : Blk w4 w3.heap.size 39 #[.int .u8 (tk : Int), .int .i64 ttag, .slice T m3 c2, .string (str ttx), .int .u8 (twk : Int), .int .i64 twn, .int .i64 (tn : Int), .bool tis, .int .i64 (te : Int)] := by rw [← hw4]; exact Blk.new _ _ _
        have hr4 := (hr3.below hb4).1
        have x6 := hB4.cell 6
        have x8 := hB4.cell 8
        simp only [List.getElem?_toArray, List.getElem?_cons_zero, List.getElem?_cons_succ] at x6 x8
        have z0 : w4.cell? ⟨b, off + i * 10, none⟩ = some (.int .i64 o.kind) := (hr4.bel.cell (p := ⟨b, off + i * 10, none⟩) HO.out.2.2.1).trans (HO.out.2.2.2.1 0 _ rfl)
        have HR4 := Lib.hid (And.intro hr4 hB4)
        clear hr3 hb4 hr4 hB4 HD HTO z1 z2 z3 z4 z5 z6 z7 z8 z9
        have hnext : ∀ (wx : World) (z : Int), Below w4.heap.size w4 wx → z = H2.count → H2.L.length ≤ H.L.length + 1 → H2.count ≤ i + 1 → ∃ (j : Nat) (H' : HS), j ≤ len ∧ Value.int .i64 ((i : Int) + 1) = .int .i64 (j : Int) ∧ Value.int .i64 z = .int .i64 (H'.count : Int) ∧ H'.count ≤ j ∧ Hid (HR w wx (fun _ => False) g (2 * j) H' ∧ H'.L.length ≤ j) := fun wx z hbx hk' hl' hle => by
          refine ⟨i + 1, H2, by omega, by go_num, by rw [hk'], by omega, Lib.hid ⟨((HR4.out.1.below hbx).1).mono (by omega), by have := HO.out.1.2; omega⟩⟩
        have HNX := Lib.hid hnext
        clear hnext
        by_cases hk0 : o.kind = 0
        · rw [hk0] at z0
          by_cases hte : te = 0
          · have hcnt' : H2 = allocH H o.o ∧ tn = cn + 1 ∧ H2.L.length ≤ H.L.length + 1 := by
              rcases hcnt.2.2 with ⟨_, _, h1, h2⟩ | ⟨h1, _⟩
              · exact ⟨h2, h1, hcnt.2.1⟩
              · rcases h1 with h1 | h1
                · exact absurd hk0 h1
                · exact absurd hte h1
            obtain ⟨hH2, htn, hll⟩ := hcnt'
            have q1 : ((te : Int) != 0) = false := by simp; omega
            have q2 : ((tn : Int) != (cn : Int) + 1) = false := by simp; omega
            have HTN := Lib.hid htn
            have hob : H2.obj ((cn + 1 : Nat) : Int) = some ⟨cn + 1, o.o, false⟩ := by
              have := alloc_obj HO.out.1.1.ok o.o
              rw [HO.out.2.1] at this
              rw [hH2]; exact this
            have hcount : H2.count = cn + 1 := by rw [hH2]; show H.count + 1 = _; rw [HO.out.2.1]
            have HG := get_hr HR4.out.1 (tn : Int) (WalkArith.wf_i64 (by omega))
            rw [← htn] at hob
            have hgo : getO H2 (tn : Int) = o.o := by unfold getO; rw [hob]
            rw [hgo, hob] at HG
            replace HG := Lib.hid HG
            have HH := Lib.hid (And.intro hcount hll)
            clear hcnt hH2 hob hcount hll hgo htn hte
            go_wp2_with fail
            refine HG.out.mono ?_
            rintro e w5 ⟨v, G, gc, rfl, hob, hb5⟩
            obtain ⟨rfl, hrg⟩ := hob
            dsimp only [Option.isSome]
            obtain ⟨n2, hn2⟩ : ∃ n2, o.o.ws.length = n2 := ⟨_, rfl⟩
            rw [hn2]
            obtain ⟨w6, hw6⟩ : ∃ w6, w5.alloc (.cells #[.int .u8 (o.o.k : Int), .int .i64 o.o.tag, .slice G n2 gc, .string (str o.o.t)] 35) = w6 := ⟨_, rfl⟩
            have hb6 : Below w5.heap.size w5 w6 := by rw [← hw6]; exact (Below.refl _ _).alloc (Nat.le_refl _) _
            have hB6 : Blk w6 w5.heap.size 35 #[.int .u8 (o.o.k : Int), .int .i64 o.o.tag, .slice G n2 gc, .string (str o.o.t)] := by rw [← hw6]; exact Blk.new _ _ _
            have hb46 := hb5.trans (hb6.mono hb5.size)
            have hbw6 := HR4.out.1.bel.trans (hb46.mono HR4.out.1.bel.size)
            have x6 := (hb46.cell (p := ⟨w3.heap.size, 6, none⟩) HR4.out.2.lt).trans x6
            have y0 := hB6.cell 0
            have y1 := hB6.cell 1
            have y2 := hB6.cell 2
            have y3 := hB6.cell 3
            simp only [List.getElem?_toArray, List.getElem?_cons_zero, List.getElem?_cons_succ] at y0 y1 y2 y3
            have z3 : w6.cell? ⟨b, off + i * 10 + 3, none⟩ = some (.int .u8 (o.o.k : Int)) := (hbw6.cell (p := ⟨b, off + i * 10 + 3, none⟩) HO.out.2.2.1).trans (HO.out.2.2.2.1 3 _ rfl)
            have z4 : w6.cell? ⟨b, off + i * 10 + 4, none⟩ = some (.int .i64 o.o.tag) := (hbw6.cell (p := ⟨b, off + i * 10 + 4, none⟩) HO.out.2.2.1).trans (HO.out.2.2.2.1 4 _ rfl)
            have z5 : w6.cell? ⟨b, off + i * 10 + 5, none⟩ = some (.slice B n2 c) := by rw [← hn2]; exact (hbw6.cell (p := ⟨b, off + i * 10 + 5, none⟩) HO.out.2.2.1).trans (HO.out.2.2.2.1 5 _ rfl)
            have z6 : w6.cell? ⟨b, off + i * 10 + 6, none⟩ = some (.string (str o.o.t)) := (hbw6.cell (p := ⟨b, off + i * 10 + 6, none⟩) HO.out.2.2.1).trans (HO.out.2.2.2.1 6 _ rfl)
            have hl5 : n2 ≤ 100000 := by
              rw [← hn2]
              have := HFit.out o (List.mem_of_getElem? (l := ls) (i := i) HLI.out)
              have := this.1
              omega
            have HS : Hid (∀ W, Below w6.heap.size w6 W → Calls Try.prog 33 #[.agg #[.int .u8 (o.o.k : Int), .int .i64 o.o.tag, .slice G n2 gc, .string (str o.o.t)], .agg #[.int .u8 (o.o.k : Int), .int .i64 o.o.tag, .slice B n2 c, .string (str o.o.t)]] W fun e w' => e = .returned (.bool true) ∧ Below W.heap.size W w') := Lib.hid fun W hW => by
              have := same_ok o.o G B gc c W ((hrg.words.below hb6).below hW) ((HO.out.2.2.2.2.words.below hbw6).below hW) (by rw [hn2]; exact hl5)
              rw [hn2] at this
              exact this
            have HB6 := Lib.hid hb46
            have hS0 : w6.drew.cell? ⟨w3.heap.size, 6, none⟩ = some (.int .i64 (tn : Int)) ∧ w6.drew.cell? ⟨w5.heap.size, 0, none⟩ = some (.int .u8 (o.o.k : Int)) ∧ w6.drew.cell? ⟨w5.heap.size, 1, none⟩ = some (.int .i64 o.o.tag) ∧ w6.drew.cell? ⟨w5.heap.size, 2, none⟩ = some (.slice G n2 gc) ∧ w6.drew.cell? ⟨w5.heap.size, 3, none⟩ = some (.string (str o.o.t)) ∧
              w6.drew.cell? ⟨b, off + i * 10 + 3, none⟩ = some (.int .u8 (o.o.k : Int)) ∧ w6.drew.cell? ⟨b, off + i * 10 + 4, none⟩ = some (.int .i64 o.o.tag) ∧ w6.drew.cell? ⟨b, off + i * 10 + 5, none⟩ = some (.slice B n2 c) ∧ w6.drew.cell? ⟨b, off + i * 10 + 6, none⟩ = some (.string (str o.o.t)) := ⟨x6, y0, y1, y2, y3, z3, z4, z5, z6⟩
            have HS2 := Lib.hid (HS.out w6.drew ⟨rfl, rfl, rfl, Nat.le_refl _, fun _ _ => rfl⟩)
            clear hb5 hrg hb6 hB6 hb46 hbw6 hn2 hl5 HG HS
            go_upto_region 17 with fail
            refine wp_region_held_drew (S := fun W => W.cell? ⟨w3.heap.size, 6, none⟩ = some (.int .i64 (tn : Int)) ∧ W.cell? ⟨w5.heap.size, 0, none⟩ = some (.int .u8 (o.o.k : Int)) ∧ W.cell? ⟨w5.heap.size, 1, none⟩ = some (.int .i64 o.o.tag) ∧ W.cell? ⟨w5.heap.size, 2, none⟩ = some (.slice G n2 gc) ∧ W.cell? ⟨w5.heap.size, 3, none⟩ = some (.string (str o.o.t)) ∧ W.cell? ⟨b, off + i * 10 + 3, none⟩ = some (.int .u8 (o.o.k : Int)) ∧ W.cell? ⟨b, off + i * 10 + 4, none⟩ = some (.int .i64 o.o.tag) ∧ W.cell? ⟨b, off + i * 10 + 5, none⟩ = some (.slice B n2 c) ∧ W.cell? ⟨b, off + i * 10 + 6, none⟩ = some (.string (str o.o.t))) (by kernel_rfl) hS0 (fun hHeld => ?_)
            refine takeY 0 (some 58) rfl rfl (by kernel_rfl) (by kernel_rfl) (by kernel_rfl) (fun _ _ _ h => h) (by rfl) (v := _) (by (intro _ hSw; (try dsimp only at hSw); go_simp; try with_reducible rfl)) hHeld ?_
            simp only [Act.put, List.setIfInBounds_toArray, List.set_cons_zero, List.set_cons_succ]
            refine takeY 1 (some 59) rfl rfl (by kernel_rfl) (by kernel_rfl) (by kernel_rfl) (fun _ _ _ h => h) (by rfl) (v := _) (by (intro _ hSw; (try dsimp only at hSw); go_simp; try with_reducible rfl)) hHeld ?_
            simp only [Act.put, List.setIfInBounds_toArray, List.set_cons_zero, List.set_cons_succ]
            refine takeY 2 (some 60) rfl rfl (by kernel_rfl) (by kernel_rfl) (by kernel_rfl) (fun _ _ _ h => h) (by rfl) (v := _) (by (intro _ hSw; (try dsimp only at hSw); go_simp; try with_reducible rfl)) hHeld ?_
            simp only [Act.put, List.setIfInBounds_toArray, List.set_cons_zero, List.set_cons_succ]
            refine takeY 3 (some 61) rfl rfl (by kernel_rfl) (by kernel_rfl) (by kernel_rfl) (fun _ _ _ h => h) (by rfl) (v := _) (by (intro _ hSw; (try dsimp only at hSw); go_simp; try with_reducible rfl)) hHeld ?_
            simp only [Act.put, List.setIfInBounds_toArray, List.set_cons_zero, List.set_cons_succ]
            refine takeY 4 (some 62) rfl rfl (by kernel_rfl) (by kernel_rfl) (by kernel_rfl) (fun _ _ _ h => h) (by rfl) (v := _) (by (intro _ hSw; (try dsimp only at hSw); go_simp; try with_reducible rfl)) hHeld ?_
            simp only [Act.put, List.setIfInBounds_toArray, List.set_cons_zero, List.set_cons_succ]
            refine takeY 5 (some 63) rfl rfl (by kernel_rfl) (by kernel_rfl) (by kernel_rfl) (fun _ _ _ h => h) (by rfl) (v := _) (by (intro _ hSw; (try dsimp only at hSw); go_simp; try with_reducible rfl)) hHeld ?_
            simp only [Act.put, List.setIfInBounds_toArray, List.set_cons_zero, List.set_cons_succ]
            refine takeY 6 (some 64) rfl rfl (by kernel_rfl) (by kernel_rfl) (by kernel_rfl) (fun _ _ _ h => h) (by rfl) (v := _) (by (intro _ hSw; (try dsimp only at hSw); go_simp; try with_reducible rfl)) hHeld ?_
            simp only [Act.put, List.setIfInBounds_toArray, List.set_cons_zero, List.set_cons_succ]
            refine takeY 7 (some 65) rfl rfl (by kernel_rfl) (by kernel_rfl) (by kernel_rfl) (fun _ _ _ h => h) (by rfl) (v := _) (by (intro _ hSw; (try dsimp only at hSw); go_simp; try with_reducible rfl)) hHeld ?_
            simp only [Act.put, List.setIfInBounds_toArray, List.set_cons_zero, List.set_cons_succ]
            refine takeY 8 (some 66) rfl rfl (by kernel_rfl) (by kernel_rfl) (by kernel_rfl) (fun _ _ _ h => h) (by rfl) (v := _) (by (intro _ hSw; (try dsimp only at hSw); go_simp; try with_reducible rfl)) hHeld ?_
            simp only [Act.put, List.setIfInBounds_toArray, List.set_cons_zero, List.set_cons_succ]
            refine takeY 9 (some 67) rfl rfl (by kernel_rfl) (by kernel_rfl) (by kernel_rfl) (fun _ _ _ h => h) (by rfl) (v := _) (by (intro _ hSw; (try dsimp only at hSw); go_simp; try with_reducible rfl)) hHeld ?_
            simp only [Act.put, List.setIfInBounds_toArray, List.set_cons_zero, List.set_cons_succ]
            refine takeY 10 (some 68) rfl rfl (by kernel_rfl) (by kernel_rfl) (by kernel_rfl) (fun _ _ _ h => h) (by rfl) (v := _) (by (intro _ hSw; (try dsimp only at hSw); go_simp; try with_reducible rfl)) hHeld ?_
            simp only [Act.put, List.setIfInBounds_toArray, List.set_cons_zero, List.set_cons_succ]
            refine takeY 11 (some 69) rfl rfl (by kernel_rfl) (by kernel_rfl) (by kernel_rfl) (fun _ _ _ h => h) (by rfl) (v := _) (by (intro _ hSw; (try dsimp only at hSw); go_simp; try with_reducible rfl)) hHeld ?_
            simp only [Act.put, List.setIfInBounds_toArray, List.set_cons_zero, List.set_cons_succ]
            refine takeY 12 (some 70) rfl rfl (by kernel_rfl) (by kernel_rfl) (by kernel_rfl) (fun _ _ _ h => h) (by rfl) (v := _) (by (intro _ hSw; (try dsimp only at hSw); go_simp; try with_reducible rfl)) hHeld ?_
            simp only [Act.put, List.setIfInBounds_toArray, List.set_cons_zero, List.set_cons_succ]
            refine takeY 13 (some 71) rfl rfl (by kernel_rfl) (by kernel_rfl) (by kernel_rfl) (fun _ _ _ h => h) (by rfl) (v := _) (by (intro _ hSw; (try dsimp only at hSw); go_simp; try with_reducible rfl)) hHeld ?_
            simp only [Act.put, List.setIfInBounds_toArray, List.set_cons_zero, List.set_cons_succ]
            refine takeY 14 (some 72) rfl rfl (by kernel_rfl) (by kernel_rfl) (by kernel_rfl) (fun _ _ _ h => h) (by rfl) (v := _) (by (intro _ hSw; (try dsimp only at hSw); go_simp; try with_reducible rfl)) hHeld ?_
            simp only [Act.put, List.setIfInBounds_toArray, List.set_cons_zero, List.set_cons_succ]
            refine wpAnyH_ready (rs := [15]) (by kernel_rfl) (by simp) ?_
            refine AllReadyH.cons rfl (fun K hK => ?_) AllReadyH.nil
            clear hHeld
            go_simp
            go_wp2_with (go_at_call 33; refine Calls.mono HS2.out ?_; rintro e v7 ⟨rfl, hb7⟩; have HB7 := Lib.hid (Below.trans (⟨rfl, rfl, rfl, Nat.le_refl _, fun _ _ => rfl⟩ : Below w6.heap.size w6 w6.drew) hb7); clear hb7)
            refine hK.out _ _ ⟨(HB7.out.cell (World.block_lt_of_cell? _ _ (hS0.1))).trans hS0.1, (HB7.out.cell (World.block_lt_of_cell? _ _ (hS0.2.1))).trans hS0.2.1, (HB7.out.cell (World.block_lt_of_cell? _ _ (hS0.2.2.1))).trans hS0.2.2.1, (HB7.out.cell (World.block_lt_of_cell? _ _ (hS0.2.2.2.1))).trans hS0.2.2.2.1, (HB7.out.cell (World.block_lt_of_cell? _ _ (hS0.2.2.2.2.1))).trans hS0.2.2.2.2.1, (HB7.out.cell (World.block_lt_of_cell? _ _ (hS0.2.2.2.2.2.1))).trans hS0.2.2.2.2.2.1, (HB7.out.cell (World.block_lt_of_cell? _ _ (hS0.2.2.2.2.2.2.1))).trans hS0.2.2.2.2.2.2.1, (HB7.out.cell (World.block_lt_of_cell? _ _ (hS0.2.2.2.2.2.2.2.1))).trans hS0.2.2.2.2.2.2.2.1, (HB7.out.cell (World.block_lt_of_cell? _ _ (hS0.2.2.2.2.2.2.2.2))).trans hS0.2.2.2.2.2.2.2.2⟩ (fun hHeld => ?_)
            clear hK K
            refine takeY 16 (some 74) rfl rfl (by kernel_rfl) (by kernel_rfl) (by kernel_rfl) (fun _ _ _ h => h) (by rfl) (v := _) (by (intro _ hSw; (try dsimp only at hSw); go_simp; try with_reducible rfl)) hHeld ?_
            simp only [Act.put, List.setIfInBounds_toArray, List.set_cons_zero, List.set_cons_succ]
            refine takeY 17 (some 75) rfl rfl (by kernel_rfl) (by kernel_rfl) (by kernel_rfl) (fun _ _ _ h => h) (by rfl) (v := _) (by (intro _ hSw; (try dsimp only at hSw); go_simp; try with_reducible rfl)) hHeld ?_
            simp only [Act.put, List.setIfInBounds_toArray, List.set_cons_zero, List.set_cons_succ]
            refine wpAnyH_done (by kernel_rfl) ?_ _
            go_wp2_with fail
            go_roundw
            case rel => exact HNX.out _ _ (HB6.out.trans (HB7.out.mono HB6.out.size)) (by rw [HH.out.1]; omega) HH.out.2 (by rw [HH.out.1]; omega)
            case measure => simp [intOf]; omega
          · have htn : tn = 0 ∧ H2 = H ∧ H2.count = cn ∧ H2.L.length ≤ H.L.length + 1 := by
              rcases hcnt.2.2 with ⟨_, h1, _⟩ | ⟨_, h1, h2⟩
              · exact absurd h1 hte
              · exact ⟨(h1 hk0).1, (h1 hk0).2, h2, hcnt.2.1⟩
            obtain ⟨htn0, _, hc2, hll⟩ := htn
            have q3 : ((tn : Int) != 0) = false := by simp; omega
            have hten : ((te : Int) != 0) = true := by simp; omega
            have HH := Lib.hid (And.intro hc2 hll)
            clear hcnt hc2 hll htn0
            go_wp2_with fail
            go_roundw
            case rel => exact HNX.out _ _ (Below.refl _ _) (by rw [HH.out.1]) HH.out.2 (by rw [HH.out.1]; omega)
            case measure => simp [intOf]; omega
        · have hkn : (o.kind != 0) = true := by simpa using hk0
          have hc2 : H2.count = cn ∧ H2.L.length ≤ H.L.length + 1 := by
            rcases hcnt.2.2 with ⟨h1, _⟩ | ⟨_, _, h2⟩
            · exact absurd h1 hk0
            · exact ⟨h2, hcnt.2.1⟩
          have HH := Lib.hid hc2
          clear hcnt hc2
          go_wp2_with fail
          go_roundw
          case rel => exact HNX.out _ _ (Below.refl _ _) (by rw [HH.out.1]) HH.out.2 (by rw [HH.out.1]; omega)
          case measure => simp [intOf]; omega
      · obtain rfl : len = i := by omega
        have hd : decide ((len : Int) < (len : Int)) = false := by simp
        have HG := get_hr hI.out.1 ((cn + 1 : Nat) : Int) (WalkArith.wf_i64 (by omega))
        have hob : H.obj ((cn + 1 : Nat) : Int) = none := obj_above hI.out.1.ok (.inl (by rw [hcn]; omega))
        have hgo : getO H ((cn + 1 : Nat) : Int) = noOb := by unfold getO; rw [hob]
        rw [hgo, hob] at HG
        replace HG := Lib.hid HG
        have HB := Lib.hid hI.out.1.bel
        clear hI hob hgo hcn
        go_wp2_with fail
        refine HG.out.mono ?_
        rintro e w5 ⟨v, G, gc, rfl, hob, hb5⟩
        obtain ⟨rfl, hrg⟩ := hob
        have hnv : (Value.agg #[.int .u8 (noOb.k : Int), .int .i64 noOb.tag, .slice G noOb.ws.length gc, .string (str noOb.t)]) = .agg #[.int .u8 0, .int .i64 0, .slice G 0 gc, .string ⟨#[]⟩] := rfl
        rw [hnv]
        dsimp only [Option.isSome]
        obtain ⟨w6, hw6⟩ : ∃ w6, w5.alloc (.cells #[.int .u8 0, .int .i64 0, .slice G 0 gc, .string ⟨#[]⟩] 35) = w6 := ⟨_, rfl⟩
        have hb6 : Below w5.heap.size w5 w6 := by rw [← hw6]; exact (Below.refl _ _).alloc (Nat.le_refl _) _
        have HB6 := Lib.hid (HB.out.trans ((hb5.trans (hb6.mono hb5.size)).mono HB.out.size))
        have HW := Lib.hid (works_any w6)
        have HW6 := Lib.hid hw6
        clear hb5 hb6 hrg hnv hw6
        go_upto_region 20 with fail
        rw [HW6.out]
        go_wp2_with fail
        refine HW.out.mono ?_
        rintro e w7 ⟨rfl, hb7⟩
        have HB7 := Lib.hid (HB6.out.trans (hb7.mono HB6.out.size))
        clear hb7
        go_wp2_with fail
        go_ret
        exact ⟨rfl, HB7.out⟩
end Go.Proofs.Ytclkkfffecmjnaa
