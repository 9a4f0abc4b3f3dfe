/- PagesRising. -/
import Derived.Test.YtcmaehilgeonjaaAO
namespace Go.Proofs.Ytcmaehilgeonjaa
open Go.RowKit Pgs
theorem pagesL_mem {L : List Nat} {k z : Nat} (h : (pagesL L)[k]? = some z) : z < 1024 ∧ L.getD z 0 ≠ 0 := pagesTo_lt L 1024 z (List.mem_of_getElem? h)
theorem pagesL_lt {L : List Nat} {j k y z : Nat} (hj : (pagesL L)[j]? = some y) (hk : (pagesL L)[k]? = some z) (hlt : j < k) : y < z := by
  have hp : (pagesL L).Pairwise (· < ·) := List.Pairwise.filter _ List.pairwise_lt_range
  obtain ⟨h1, rfl⟩ := List.getElem?_eq_some_iff.1 hj
  obtain ⟨h2, rfl⟩ := List.getElem?_eq_some_iff.1 hk
  exact List.pairwise_iff_getElem.1 hp j k h1 h2 hlt
theorem sectorsL_get {L : List Nat} {k z : Nat} (h : (pagesL L)[k]? = some z) : (sectorsL L)[k]? = some (L.getD z 0) := by
  unfold sectorsL
  rw [List.getElem?_map, h]; rfl
theorem sectorsL_len (L : List Nat) : (sectorsL L).length = (pagesL L).length := by unfold sectorsL; rw [List.length_map]
theorem pagesTo_end (L : List Nat) : pagesTo L 1024 = pagesL L := rfl
theorem hi1_below {W W' : World} {sv : Value} {zs : List Nat} (h : IntsO W sv zs) (hb : Below W.heap.size W W') : IntsO W' sv zs := h.same fun k hk => hb.block k (h.lt k hk)
set_option maxRecDepth 20000 in
set_option maxHeartbeats 4000000 in
theorem rising_any (len cap : Nat) (A : Option Addr) (ls : List Ou) (w : World) (hlen : ls.length = len) (hA : Ops w A ls) :
    Calls Try.prog 6 #[.slice A len cap] w fun e W' => e = .returned (.bool true) ∧ Below w.heap.size w W' := by
  have h0 := vast_any A len cap ls w hlen hA
  have HW := Lib.hid (fun W => works_any W)
  cases hv : vastB ls with
  | true =>
    rw [hv] at h0
    have H0 := Lib.hid h0
    have H1 := Lib.hid (HW.out w)
    clear hA hlen h0 hv
    go_enter Try.func6, Try.ntmps6
    go_wp2_with (first
      | (go_at_call 9; refine Calls.mono H0.out ?_; rintro e w' ⟨rfl, rfl⟩)
      | (go_at_call 10; refine Calls.mono H1.out ?_; rintro e w' ⟨rfl, hbw⟩))
    go_ret
    exact ⟨rfl, hbw⟩
  | false =>
    rw [hv] at h0
    have H0 := Lib.hid h0
    obtain ⟨hl200, hsm⟩ := vastB_no hv
    rw [hlen] at hl200
    have HSM := Lib.hid hsm
    have HA := Lib.hid hA
    have HL := Lib.hid hlen
    have H1 := Lib.hid (new_any w)
    clear hA hlen hv h0 hsm
    go_enter Try.func6, Try.ntmps6
    go_wp2_with (first
      | (go_at_call 9; refine Calls.mono H0.out ?_; rintro e w' ⟨rfl, rfl⟩)
      | (go_at_call 11; refine Calls.mono H1.out ?_; rintro e w1 ⟨rfl, hP, hb⟩))
    have HI : Hid (Pl w w1 w.heap.size (playL ls 0)) := Lib.hid ⟨hP, hb⟩
    clear hP hb H0 H1
    go_loopw [4] (fun iv wr => ∃ i : Nat, i ≤ len ∧ iv = .int .i64 (i : Int) ∧ Hid (Pl w wr w.heap.size (playL ls i))) (fun iv _ => len - (intOf iv).toNat)
    case atStart => exact ⟨0, Nat.zero_le _, rfl, HI⟩
    case round =>
      clear HI
      obtain ⟨i, hi, rfl, hI⟩ := hrel
      by_cases hlt : i < len
      · have hd : decide ((i : Int) < (len : Int)) = true := by simpa using hlt
        obtain ⟨o, ho⟩ : ∃ o, ls[i]? = some o := ⟨_, List.getElem?_eq_getElem (by rw [HL.out]; exact hlt)⟩
        obtain ⟨b, off, A2, n, c, rfl, _, hc, hn, hn1, hn2, hB⟩ := HA.out.at_ ho
        obtain ⟨k0, k1, k2, k3⟩ := hc wr hI.out.bel
        have hnb : n ≤ 1024 := by rw [← hn]; exact HSM.out o (List.mem_of_getElem? ho)
        have H1 := Lib.hid (does_some w.heap.size n c A2 (playL ls i) o wr hI.out.m hn hnb (hB.below hI.out.bel))
        have HS : Hid (∀ W, Stp wr W w.heap.size (doesL (playL ls i) o) → Pl w W w.heap.size (playL ls (i + 1))) := Lib.hid (fun W hW => by
          rw [playL_succ ho]; exact hI.out.step (Nat.le_refl _) hW)
        clear hc hn hB hI ho
        go_wp2_with (go_at_call 15; refine Calls.mono H1.out ?_; rintro e w3 ⟨rfl, hS⟩)
        have HI2 := Lib.hid (HS.out _ hS)
        clear hS
        go_roundw
        case rel => exact ⟨i + 1, by omega, by go_num, HI2⟩
        case measure => simp [intOf]; omega
      · obtain rfl : len = i := by omega
        have hd : decide ((len : Int) < (len : Int)) = false := by simp
        obtain ⟨L, hL⟩ : ∃ L, playL ls len = L := ⟨_, rfl⟩
        rw [hL] at hI
        have H1 := Lib.hid (pages_some w.heap.size L wr hI.out.m)
        have HI := hI
        clear hI hL
        go_wp2_with fail
        refine H1.out.mono ?_
        rintro e w2 ⟨lv, rfl, hi1, _, hb⟩
        have HI := Lib.hid (show Pl w w2 w.heap.size L from ⟨HI.out.m.below hb, HI.out.bel.trans (hb.mono HI.out.bel.size)⟩)
        have H1 := Lib.hid (sectors_some w.heap.size L w2 HI.out.m)
        have HI1 := Lib.hid hi1
        obtain ⟨A1, c1, rfl, _, _⟩ := hi1.shape
        clear hi1 hb
        obtain ⟨nl, hnl⟩ : ∃ nl, (pagesL L).length = nl := ⟨_, rfl⟩
        rw [hnl]
        rw [hnl] at HI1
        go_wp2_with fail
        refine H1.out.mono ?_
        rintro e w3 ⟨lv, rfl, hi2, _, hb⟩
        have HI := Lib.hid (show Pl w w3 w.heap.size L from ⟨HI.out.m.below hb, HI.out.bel.trans (hb.mono HI.out.bel.size)⟩)
        have HI1 := Lib.hid (hi1_below HI1.out hb)
        have HI2 := Lib.hid hi2
        obtain ⟨A2, c2, rfl, _, _⟩ := hi2.shape
        rw [sectorsL_len, hnl]
        rw [sectorsL_len, hnl] at HI2
        have HNL := Lib.hid hnl
        clear hi2 hb hnl H1
        have hnlb : nl ≤ 1024 := by rw [← HNL.out]; exact pagesTo_len L 1024
        have H3 : Hid (∀ k : Nat, k < 1024 → Calls Try.prog 17 #[.pointer (some ⟨w.heap.size, 0, none⟩), .int .i64 (k : Int)] w3 fun e w' => e = .returned (.tuple #[.int .i64 (L.getD k 0 : Int), .bool (decide (L.getD k 0 ≠ 0))]) ∧ w3 = w') := Lib.hid (fun k hk => by
          have := get_some w.heap.size L (k : Int) w3 HI.out.m
          rw [show got L (k : Int) = L.getD k 0 by unfold got; rw [if_pos (by omega), Int.toNat_natCast]] at this
          exact this)
        go_wp2_with fail
        go_loopw [7, 8, 9, 10] (fun nv iv _ _ wz => ∃ k n : Nat, k ≤ 1024 ∧ iv = .int .i64 (k : Int) ∧ nv = .int .i64 (n : Int) ∧ n ≤ k ∧ wz = w3 ∧ Hid (n = (pagesTo L k).length)) (fun _ iv _ _ _ => 1024 - (intOf iv).toNat)
        case atStart => exact ⟨0, 0, Nat.zero_le _, rfl, rfl, Nat.le_refl _, rfl, Lib.hid rfl⟩
        case round =>
          obtain ⟨k, n, hk, rfl, rfl, hnk, hwz, hN⟩ := hrel
          obtain rfl : w3 = _ := hwz.symm
          by_cases hlt : k < 1024
          · have hd2 : decide ((k : Int) < 1024) = true := by simp; omega
            have H4 := H3.out k hlt
            obtain ⟨x, hx⟩ : ∃ x, L.getD k 0 = x := ⟨_, rfl⟩
            rw [hx] at H4
            have hs := pagesTo_succ L k
            by_cases h0 : x = 0
            · rw [decide_eq_false (by simpa using h0)] at H4
              rw [hx, if_pos h0] at hs
              have HN2 : Hid (n = (pagesTo L (k + 1)).length) := Lib.hid (by rw [hs]; exact hN.out)
              have H4 := Lib.hid H4
              clear hs hx hN h0
              go_wp2_with (go_at_call 17; refine Calls.mono H4.out ?_; rintro e w' ⟨rfl, rfl⟩)
              go_roundw
              case rel => exact ⟨k + 1, n, by omega, by go_num, rfl, by omega, by trivial, HN2⟩
              case measure => simp [intOf]; omega
            · rw [decide_eq_true (by simpa using h0)] at H4
              rw [hx, if_neg h0] at hs
              have HN2 : Hid (n + 1 = (pagesTo L (k + 1)).length) := Lib.hid (by rw [hs, List.length_append, ← hN.out]; rfl)
              have H4 := Lib.hid H4
              clear hs hx hN h0
              go_wp2_with (go_at_call 17; refine Calls.mono H4.out ?_; rintro e w' ⟨rfl, rfl⟩)
              go_roundw
              case rel => exact ⟨k + 1, n + 1, by omega, by go_num, by go_num, by omega, by trivial, HN2⟩
              case measure => simp [intOf]; omega
          · obtain rfl : 1024 = k := by omega
            have hd2 : decide (((1024 : Nat) : Int) < 1024) = false := by simp
            obtain rfl : n = nl := by rw [hN.out, pagesTo_end, HNL.out]
            clear hN
            go_wp2_with fail
            have HB0 : Hid (Below w3.heap.size w3 w3) := Lib.hid (Below.refl _ _)
            clear H3
            go_loopw [11, 12, 13] (fun iv _ _ wr => ∃ k : Nat, k ≤ n ∧ iv = .int .i64 (k : Int) ∧ Hid (Below w3.heap.size w3 wr)) (fun iv _ _ _ => n - (intOf iv).toNat)
            case atStart => exact ⟨0, Nat.zero_le _, rfl, HB0⟩
            case round =>
              clear HB0
              obtain ⟨k, hk, rfl, hbel⟩ := hrel
              by_cases hlt : k < n
              · have hd3 : decide ((k : Int) < (n : Int)) = true := by simpa using hlt
                obtain ⟨z, hz⟩ : ∃ z, (pagesL L)[k]? = some z := ⟨_, List.getElem?_eq_getElem (by rw [HNL.out]; exact hlt)⟩
                obtain ⟨hz1, hz0⟩ := pagesL_mem hz
                have hsx := sectorsL_get hz
                obtain ⟨x, hx⟩ : ∃ x, L.getD z 0 = x := ⟨_, rfl⟩
                rw [hx] at hsx hz0
                have H4 := get_some w.heap.size L (z : Int) wr (HI.out.m.below hbel.out)
                rw [show got L (z : Int) = x by unfold got; rw [if_pos (by omega), Int.toNat_natCast]; exact hx, decide_eq_true hz0] at H4
                have H4 := Lib.hid H4
                obtain ⟨g1, d1, e1, hg1, hc1⟩ := HI1.out.get k z hz
                obtain ⟨g2, d2, e2, hg2, hc2⟩ := HI2.out.get k x hsx
                injection e1 with e11 e12 e13
                injection e2 with e21 e22 e23
                subst e11
                subst e21
                have k1 := (hbel.out.cell (p := ⟨g1, k, none⟩) hg1).trans hc1
                have k2 := (hbel.out.cell (p := ⟨g2, k, none⟩) hg2).trans hc2
                have hxx : ((x : Int) != (x : Int)) = false := by simp
                have HBN : Hid (∀ m, Below w3.heap.size w3 (wr.drewN m)) := Lib.hid (fun m => hbel.out.trans ((drewN_below wr m).mono hbel.out.size))
                clear e12 e13 e22 e23 hc2 hsx hx hz0
                by_cases hk0 : k = 0
                · subst hk0
                  clear hz hc1 hbel
                  go_wp2_with (go_at_call 17; refine Calls.mono H4.out ?_; rintro e w' ⟨rfl, rfl⟩)
                  go_quiet (fail)
                  go_wp2_with fail
                  go_roundw
                  case rel => exact ⟨1, by omega, by go_num, Lib.hid (HBN.out _)⟩
                  case measure => simp [intOf]; omega
                · obtain ⟨j, hj⟩ : ∃ j, j = k - 1 := ⟨_, rfl⟩
                  obtain ⟨y, hy⟩ : ∃ y, (pagesL L)[j]? = some y := ⟨_, List.getElem?_eq_getElem (by rw [HNL.out]; omega)⟩
                  have hyz := pagesL_lt hy hz (by omega)
                  obtain ⟨g3, d3, e3, hg3, hc3⟩ := HI1.out.get j y hy
                  injection e3 with e31 e32 e33
                  injection e31 with e34
                  injection e34 with e35
                  subst e35
                  have k3 := (hbel.out.cell (p := ⟨g1, j, none⟩) hg1).trans hc3
                  have f1 : (k : Int) - 1 = (j : Int) := by omega
                  have f2 : (0 : Int) < (k : Int) := by omega
                  have f5 : (j : Int) < (n : Int) := by omega
                  have f6 : 0 < k := by omega
                  have f7 : IntKind.i64.wrap ((k : Int) - 1) = (j : Int) := by rw [f1]; exact IntWalk.i64_in _ (by omega)
                  have f8 : decide (0 < k) = true := by simpa using f6
                  have f3 : decide ((y : Int) ≥ (z : Int)) = false := by simp; omega
                  have f4 : decide (z ≤ y) = false := by simp; omega
                  have f9 : decide ((0 : Int) < (k : Int)) = true := by simpa using f6
                  clear e32 e33 hg3 hc1 hc3 hz hy hyz hj hbel hk0
                  go_wp2_with (go_at_call 17; refine Calls.mono H4.out ?_; rintro e w' ⟨rfl, rfl⟩)
                  go_quiet (fail)
                  go_wp2_with fail
                  go_roundw
                  case rel => exact ⟨k + 1, by omega, by go_num, Lib.hid (HBN.out _)⟩
                  case measure => simp [intOf]; omega
              · obtain rfl : n = k := by omega
                have hd3 : decide ((n : Int) < (n : Int)) = false := by simp
                have hnn : ((n : Int) == (n : Int)) = true := by simp
                have HFB := Lib.hid (HI.out.bel.trans (hbel.out.mono HI.out.bel.size))
                clear hbel
                go_wp2_with (go_at_call 10; refine Calls.mono (HW.out _) ?_; rintro e w9 ⟨rfl, hbw⟩)
                go_ret
                exact ⟨rfl, HFB.out.trans (hbw.mono HFB.out.size)⟩
end Go.Proofs.Ytcmaehilgeonjaa
