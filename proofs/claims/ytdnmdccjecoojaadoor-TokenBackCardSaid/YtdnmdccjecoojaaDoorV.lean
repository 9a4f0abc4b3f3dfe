/- token: the reference's one. -/
import Derived.Test.YtdnmdccjecoojaaDoorU
import Derived.Test.YtdnmdccjecoojaaDoorZa
namespace Go.Proofs.YtdnmdccjecoojaaDoor
open Go.RowKit Tok
set_option maxHeartbeats 2000000 in
theorem rone_any (s : List UInt8) (c : UInt8) (w : World) (hc : s[0]? = some c) (hb : s.length < 4294967296) :
    Calls Tryd.prog 25 #[.string (str s)] w (OneP (oneN s) w) := by
  obtain ⟨n, hn⟩ : ∃ n, s.length = n := ⟨_, rfl⟩
  have h0 : 0 < n := by have := (List.getElem?_eq_some_iff.1 hc).1; omega
  have hsz := str_sizeN hn
  have hcc := str_at0 hc (by rw [hsz]; exact h0)
  obtain ⟨w0, hw0⟩ : ∃ w0, w.alloc (.cells #[.int .u8 0, .string ⟨#[]⟩, .int .i64 0, .int .i64 0] 34) = w0 := ⟨_, rfl⟩
  have hR0 : Blk w0 w.heap.size 34 #[.int .u8 0, .string ⟨#[]⟩, .int .i64 0, .int .i64 0] := by rw [← hw0]; exact Blk.new _ _ _
  have hb0 : Below w.heap.size w w0 := by rw [← hw0]; exact (Below.refl _ _).alloc (Nat.le_refl _) _
  have HR0 := Lib.hid hR0
  have HB0 := Lib.hid hb0
  obtain ⟨r0, r1, r2, r3, f0⟩ := hR0.told4
  have hON : oneN s = if smallB c || greatB c then nameN s else if c = 39 then tickN s else if digitB c then numN s else if c = 34 then strN s else signN s := by unfold oneN; rw [head_at hc]
  have H1 := rsmall_any c w0
  have H2 := rgreat_any c w0
  have H3 := rdigit_any c w0
  obtain ⟨p1, hp1⟩ : ∃ p, smallB c = p := ⟨_, rfl⟩
  obtain ⟨p2, hp2⟩ : ∃ p, greatB c = p := ⟨_, rfl⟩
  obtain ⟨p3, hp3⟩ : ∃ p, digitB c = p := ⟨_, rfl⟩
  rw [hp1, hp2, hp3] at hON
  rw [hp1] at H1
  rw [hp2] at H2
  rw [hp3] at H3
  unfold bv at H1 H2 H3
  have H1 := Lib.hid H1
  have H2 := Lib.hid H2
  have H3 := Lib.hid H3
  have HN := Lib.hid hn
  have HC := Lib.hid hc
  have HON := Lib.hid hON
  clear hR0 hb0 hc hON
  by_cases hsg : (p1 || p2) = true
  · have HX : Hid (oneN s = nameN s) := Lib.hid (by rw [HON.out, if_pos hsg])
    have H5 := Lib.hid (rname_any s c w0 HC.out hb)
    clear hp1 hp2 hp3 HON
    go_enter Tryd.func25, Tryd.ntmps25
    cases p1 <;> cases p2
    all_goals first
      | (exact absurd hsg (by decide))
      | (clear hsg
         go_wp2_with (first
           | (go_at_call 42; refine Calls.mono H1.out ?_; rintro e w' ⟨rfl, rfl⟩)
           | (go_at_call 43; refine Calls.mono H2.out ?_; rintro e w' ⟨rfl, rfl⟩))
         refine H5.out.mono ?_
         rintro e w1 ⟨hb1, t, m, rfl, hor⟩
         have HR1 := Lib.hid (HR0.out.below hb1 HR0.out.lt)
         obtain ⟨g0, g1, g2, g3, fg⟩ := HR1.out.told4
         have HB1 := Lib.hid (HB0.out.trans (hb1.mono HB0.out.size))
         have HOR := Lib.hid hor
         simp only [tkV, tkC, bv]
         clear hb1 hor
         go_wp2_with fail
         refine bodyPost_ret (results_cell_row2 rfl _ _ w.heap.size 34 _ (0, 0) _ rfl HR1.out.put4 Tryd.underlying34 rfl infoTk) rfl ?_
         exact ⟨below_put4 HB1.out (Nat.le_refl _), t, m, rfl, by rw [HX.out]; exact HOR.out⟩)
  · obtain ⟨rfl, rfl⟩ : p1 = false ∧ p2 = false := by cases p1 <;> cases p2 <;> simp_all
    have hON := HON.out
    rw [if_neg (by decide)] at hON
    cases p3 with
    | true =>
      have h39 : ¬ c.toNat = 39 := fun e => by
        unfold digitB at hp3
        rw [e] at hp3
        exact absurd hp3 (by decide)
      rw [if_neg (u8_ne (n := 39) 39 rfl h39), if_pos rfl] at hON
      have HX := Lib.hid hON
      have H5 := Lib.hid (rnumber_any s w0 hb)
      clear hp1 hp2 hp3 hON HON hsg h39
      go_enter Tryd.func25, Tryd.ntmps25
      go_wp2_with (first
           | (go_at_call 42; refine Calls.mono H1.out ?_; rintro e w' ⟨rfl, rfl⟩)
           | (go_at_call 43; refine Calls.mono H2.out ?_; rintro e w' ⟨rfl, rfl⟩)
           | (go_at_call 45; refine Calls.mono H3.out ?_; rintro e w' ⟨rfl, rfl⟩))
      refine H5.out.mono ?_
      rintro e w1 ⟨hb1, t, m, rfl, hor⟩
      have HR1 := Lib.hid (HR0.out.below hb1 HR0.out.lt)
      obtain ⟨g0, g1, g2, g3, fg⟩ := HR1.out.told4
      have HB1 := Lib.hid (HB0.out.trans (hb1.mono HB0.out.size))
      have HOR := Lib.hid hor
      simp only [tkV, tkC, bv]
      clear hb1 hor
      go_wp2_with fail
      refine bodyPost_ret (results_cell_row2 rfl _ _ w.heap.size 34 _ (0, 0) _ rfl HR1.out.put4 Tryd.underlying34 rfl infoTk) rfl ?_
      exact ⟨below_put4 HB1.out (Nat.le_refl _), t, m, rfl, by rw [HX.out]; exact HOR.out⟩
    | false =>
      by_cases h34 : c.toNat = 34
      · have e34 : ((c.toNat : Int) == 34) = true := by simp; omega
        rw [if_neg (u8_ne (n := 39) 39 rfl (by omega)), if_neg (by decide), if_pos (u8_of 34 rfl h34)] at hON
        have HX := Lib.hid hON
        have H5 := Lib.hid (rtext_any s w0 hb (by rw [HN.out]; exact h0))
        clear hp1 hp2 hp3 hON HON hsg h34
        go_enter Tryd.func25, Tryd.ntmps25
        go_wp2_with (first
           | (go_at_call 42; refine Calls.mono H1.out ?_; rintro e w' ⟨rfl, rfl⟩)
           | (go_at_call 43; refine Calls.mono H2.out ?_; rintro e w' ⟨rfl, rfl⟩)
           | (go_at_call 45; refine Calls.mono H3.out ?_; rintro e w' ⟨rfl, rfl⟩))
        refine H5.out.mono ?_
        rintro e w1 ⟨hb1, x, m, rfl, hor⟩
        have HR1 := Lib.hid (HR0.out.below hb1 HR0.out.lt)
        obtain ⟨g0, g1, g2, g3, fg⟩ := HR1.out.told4
        have HB1 := Lib.hid (HB0.out.trans (hb1.mono HB0.out.size))
        have HOR := Lib.hid hor
        clear hb1 hor
        go_wp2_with fail
        refine bodyPost_ret (results_cell_row2 rfl _ _ w.heap.size 34 _ (0, 0) _ rfl HR1.out.put4 Tryd.underlying34 rfl infoTk) rfl ?_
        exact ⟨below_put4 HB1.out (Nat.le_refl _), ⟨5, x, 0⟩, m, rfl, by
          rw [HX.out]
          rcases HOR.out with ⟨h1, _, h2⟩ | h1
          · exact .inl ⟨h1, h2⟩
          · exact .inr h1⟩
      · have e34 : ((c.toNat : Int) == 34) = false := by simp; omega
        by_cases h39 : c.toNat = 39
        · have e39 : ((c.toNat : Int) == 39) = true := by simp; omega
          rw [if_pos (u8_of 39 rfl h39)] at hON
          unfold tickN at hON
          have hrl := prt_le (s.drop 1)
          rw [List.length_drop, HN.out] at hrl
          have H4 := Lib.hid (show Calls Tryd.prog 48 #[.string (str (s.drop 1))] w0 fun e w' => e = .returned (.int .i64 (prtN (s.drop 1) : Int)) ∧ w0 = w' from rrun_any (s.drop 1) w0 (by rw [List.length_drop]; omega))
          obtain ⟨r, hr⟩ : ∃ r, prtN (s.drop 1) = r := ⟨_, rfl⟩
          rw [hr] at hON H4 hrl
          have hrb : r < 4294967296 := by omega
          obtain ⟨r1', hr1⟩ : ∃ r1, 1 + r = r1 := ⟨_, rfl⟩
          have hri : (1 : Int) + (r : Int) = (r1' : Int) := by omega
          have hri2 : (r : Int) + 1 = (r1' : Int) := by omega
          have hrn : r1' ≤ n := by omega
          rw [hr1] at hON
          have hex := str_pre s r1'
          have hex1 := run_drop1 s n HN.out
          obtain ⟨s1, hs1⟩ : ∃ s1, s.drop 1 = s1 := ⟨_, rfl⟩
          rw [hs1] at hex1 H4
          clear hs1 hr
          by_cases hr0 : r = 0
          · have er0 : ((r : Int) == 0) = true := by simp; omega
            have HX : Hid (oneN s = none) := Lib.hid (by rw [hON, if_pos (.inl hr0)])
            clear hp1 hp2 hp3 hON HON hsg h34 h39 hr1 hr0
            go_enter Tryd.func25, Tryd.ntmps25
            go_wp2_with (first
           | (go_at_call 42; refine Calls.mono H1.out ?_; rintro e w' ⟨rfl, rfl⟩)
           | (go_at_call 43; refine Calls.mono H2.out ?_; rintro e w' ⟨rfl, rfl⟩)
           | (go_at_call 45; refine Calls.mono H3.out ?_; rintro e w' ⟨rfl, rfl⟩)
           | (go_at_call 48; refine Calls.mono H4.out ?_; rintro e w' ⟨rfl, rfl⟩))
            refine bodyPost_ret (results_cell_row2 rfl _ _ w.heap.size 34 _ (0, 0) _ rfl HR0.out.put4 Tryd.underlying34 rfl infoTk) rfl ?_
            exact ⟨below_put4 HB0.out (Nat.le_refl _), noTk, 0, rfl, .inl ⟨HX.out, rfl⟩⟩
          · have er0 : ((r : Int) == 0) = false := by simp; omega
            by_cases hr32 : 32 < r
            · have er32 : decide ((r : Int) > 32) = true := by simp; omega
              have HX : Hid (oneN s = none) := Lib.hid (by rw [hON, if_pos (.inr (.inl hr32))])
              clear hp1 hp2 hp3 hON HON hsg h34 h39 hr1 hr0 hr32
              go_enter Tryd.func25, Tryd.ntmps25
              go_wp2_with (first
           | (go_at_call 42; refine Calls.mono H1.out ?_; rintro e w' ⟨rfl, rfl⟩)
           | (go_at_call 43; refine Calls.mono H2.out ?_; rintro e w' ⟨rfl, rfl⟩)
           | (go_at_call 45; refine Calls.mono H3.out ?_; rintro e w' ⟨rfl, rfl⟩)
           | (go_at_call 48; refine Calls.mono H4.out ?_; rintro e w' ⟨rfl, rfl⟩))
              refine bodyPost_ret (results_cell_row2 rfl _ _ w.heap.size 34 _ (0, 0) _ rfl HR0.out.put4 Tryd.underlying34 rfl infoTk) rfl ?_
              exact ⟨below_put4 HB0.out (Nat.le_refl _), noTk, 0, rfl, .inl ⟨HX.out, rfl⟩⟩
            · have er32 : decide ((r : Int) > 32) = false := by simp; omega
              obtain ⟨c1, hc1⟩ : ∃ c1, s[1]? = some c1 := ⟨_, List.getElem?_eq_getElem (by rw [HN.out]; omega)⟩
              have h1n : 1 < (str s).size := by rw [hsz]; omega
              have hcc1 := str_at hc1 h1n
              have hg : s.getD 1 0 = c1 := by rw [List.getD_eq_getElem?_getD, hc1]; rfl
              have H6 := rsmall_any c1 w0
              obtain ⟨p, hp⟩ : ∃ p, smallB c1 = p := ⟨_, rfl⟩
              rw [hp] at H6
              unfold bv at H6
              have H6 := Lib.hid H6
              rw [hg, hp] at hON
              cases p with
              | false =>
                have HX : Hid (oneN s = none) := Lib.hid (by rw [hON, if_pos (.inr (.inr rfl))])
                clear hp1 hp2 hp3 hON HON hsg h34 h39 hr1 hr0 hr32 hg hp hc1
                go_enter Tryd.func25, Tryd.ntmps25
                go_wp2_with fail
                refine H1.out.mono ?_
                rintro e w' ⟨rfl, rfl⟩
                go_wp2_with (first
                  | (go_at_call 43; refine Calls.mono H2.out ?_; rintro e w' ⟨rfl, rfl⟩)
                  | (go_at_call 45; refine Calls.mono H3.out ?_; rintro e w' ⟨rfl, rfl⟩)
                  | (go_at_call 48; refine Calls.mono H4.out ?_; rintro e w' ⟨rfl, rfl⟩))
                refine H6.out.mono ?_
                rintro e w' ⟨rfl, rfl⟩
                go_wp2_with fail
                refine bodyPost_ret (results_cell_row2 rfl _ _ w.heap.size 34 _ (0, 0) _ rfl HR0.out.put4 Tryd.underlying34 rfl infoTk) rfl ?_
                exact ⟨below_put4 HB0.out (Nat.le_refl _), noTk, 0, rfl, .inl ⟨HX.out, rfl⟩⟩
              | true =>
                have HX : Hid (oneN s = some (⟨3, s.take r1', 0⟩, r1')) := Lib.hid (by rw [hON, if_neg (fun h => by rcases h with h | h | h; exact hr0 h; exact hr32 h; exact absurd h (by decide))])
                clear hp1 hp2 hp3 hON HON hsg h34 h39 hr1 hr0 hr32 hg hp hc1
                go_enter Tryd.func25, Tryd.ntmps25
                go_wp2_with fail
                refine H1.out.mono ?_
                rintro e w' ⟨rfl, rfl⟩
                go_wp2_with (first
                  | (go_at_call 43; refine Calls.mono H2.out ?_; rintro e w' ⟨rfl, rfl⟩)
                  | (go_at_call 45; refine Calls.mono H3.out ?_; rintro e w' ⟨rfl, rfl⟩)
                  | (go_at_call 48; refine Calls.mono H4.out ?_; rintro e w' ⟨rfl, rfl⟩))
                refine H6.out.mono ?_
                rintro e w' ⟨rfl, rfl⟩
                go_wp2_with fail
                refine bodyPost_ret (results_cell_row2 rfl _ _ w.heap.size 34 _ (0, 0) _ rfl HR0.out.put4 Tryd.underlying34 rfl infoTk) rfl ?_
                exact ⟨below_put4 HB0.out (Nat.le_refl _), ⟨3, s.take r1', 0⟩, r1', rfl, .inr HX.out⟩
        · have e39 : ((c.toNat : Int) == 39) = false := by simp; omega
          rw [if_neg (u8_ne (n := 39) 39 rfl h39), if_neg (by decide), if_neg (u8_ne (n := 34) 34 rfl h34)] at hON
          have HX := Lib.hid hON
          have H7 := Lib.hid (rsigns_any w0)
          have HBG : Hid (∀ (x : List UInt8) W, Calls Tryd.prog 41 #[.string (str s), .string (str x)] W fun e w' => e = .returned (.bool (s.take x.length == x)) ∧ W = w') := Lib.hid (fun x W => rbegins_any s x W)
          clear hp1 hp2 hp3 hON HON hsg h39 h34
          go_enter Tryd.func25, Tryd.ntmps25
          go_wp2_with (first
           | (go_at_call 42; refine Calls.mono H1.out ?_; rintro e w' ⟨rfl, rfl⟩)
           | (go_at_call 43; refine Calls.mono H2.out ?_; rintro e w' ⟨rfl, rfl⟩)
           | (go_at_call 45; refine Calls.mono H3.out ?_; rintro e w' ⟨rfl, rfl⟩))
          refine H7.out.mono ?_
          rintro e w1 ⟨rfl, hS, hb1⟩
          have HR1 := Lib.hid (HR0.out.below hb1 HR0.out.lt)
          obtain ⟨g0, g1, g2, g3, fg⟩ := HR1.out.told4
          have HB1 := Lib.hid (HB0.out.trans (hb1.mono HB0.out.size))
          have HS := Lib.hid hS
          have HLT : Hid (w.heap.size < w0.heap.size) := Lib.hid HR0.out.lt
          obtain ⟨gs, hgs⟩ : ∃ gs, w0.heap.size = gs := ⟨_, rfl⟩
          rw [hgs] at HS HLT ⊢
          clear hb1 hS H7 r0 r1 r2 r3 f0 hgs
          go_wp2_with fail
          go_loopw [9] (fun iv wr => ∃ k : Nat, k ≤ 22 ∧ iv = .int .i64 (k : Int) ∧ wr = w1 ∧ Hid (∀ j x, j < k → signsL[j]? = some x → (s.take x.length == x) = false)) (fun iv _ => 22 - (intOf iv).toNat)
          case atStart => exact ⟨0, Nat.zero_le _, rfl, rfl, Lib.hid fun j x hj => by omega⟩
          case round =>
            obtain ⟨k, hk, rfl, hw, hI⟩ := hrel
            obtain rfl : w1 = _ := hw.symm
            by_cases hlt : k < 22
            · have hd : decide ((k : Int) < 22) = true := by simp; omega
              obtain ⟨x, hx⟩ : ∃ x, signsL[k]? = some x := ⟨_, List.getElem?_eq_getElem hlt⟩
              have hkc : w1.cell? ⟨gs, k, none⟩ = some (.string (str x)) := by rw [HS.out.cell]; exact rowS_get hx
              have H6 := HBG.out x w1
              obtain ⟨p, hp⟩ : ∃ p, (s.take x.length == x) = p := ⟨_, rfl⟩
              rw [hp] at H6
              have H6 := Lib.hid H6
              have hxs := str_size x
              have hkz : (k : Int) < 22 := by omega
              cases p with
              | true =>
                have HY : Hid (oneN s = some (⟨7, x, 0⟩, x.length)) := Lib.hid (by
                  rw [HX.out]; unfold signN
                  rw [find_at (p := fun x => s.take x.length == x) (fun j y hj hy => hI.out j y hj hy) hx hp]; rfl)
                obtain ⟨xl, hxl⟩ : ∃ xl, x.length = xl := ⟨_, rfl⟩
                rw [hxl] at hxs HY
                clear hI hx hp hxl
                go_wp2_with (go_at_call 41; refine Calls.mono H6.out ?_; rintro e w' ⟨rfl, rfl⟩)
                have HKEEP : Hid (∀ a b c d : Value, ((((w1.setCell ⟨w.heap.size, 0, none⟩ a).setCell ⟨w.heap.size, 1, none⟩ b).setCell ⟨w.heap.size, 2, none⟩ c).setCell ⟨w.heap.size, 3, none⟩ d).cell? ⟨gs, k, none⟩ = some (.string (str x))) := Lib.hid (fun a b c d => by
                  have hne : gs ≠ w.heap.size := by have := HLT.out; omega
                  have hB := (((HS.out.far (p := ⟨w.heap.size, 0, none⟩) hne a).far (p := ⟨w.heap.size, 1, none⟩) hne b).far (p := ⟨w.heap.size, 2, none⟩) hne c).far (p := ⟨w.heap.size, 3, none⟩) hne d
                  rw [hB.cell k, ← HS.out.cell k]; exact hkc)
                refine wp_region_held_drew (S := fun W => W.cell? ⟨gs, k, none⟩ = some (.string (str x))) (by kernel_rfl) hkc (fun hHeld => ?_)
                refine takeY 0 (some 80) rfl rfl (by kernel_rfl) (by kernel_rfl) (by kernel_rfl) (fun _ _ _ h => h) (by rfl) (v := _) (by (intro _ hSw; (try dsimp only at hSw); go_simp; try with_reducible rfl)) hHeld ?_
                simp only [Act.put, List.setIfInBounds_toArray, List.set_cons_zero, List.set_cons_succ]
                refine takeY 1 (some 81) rfl rfl (by kernel_rfl) (by kernel_rfl) (by kernel_rfl) (fun _ _ _ h => h) (by rfl) (v := _) (by (intro _ hSw; (try dsimp only at hSw); go_simp; try with_reducible rfl)) hHeld ?_
                simp only [Act.put, List.setIfInBounds_toArray, List.set_cons_zero, List.set_cons_succ]
                refine takeY 2 (some 82) rfl rfl (by kernel_rfl) (by kernel_rfl) (by kernel_rfl) (fun _ _ _ h => h) (by rfl) (v := _) (by (intro _ hSw; (try dsimp only at hSw); go_simp; try with_reducible rfl)) hHeld ?_
                simp only [Act.put, List.setIfInBounds_toArray, List.set_cons_zero, List.set_cons_succ]
                refine takeY 3 (some 83) rfl rfl (by kernel_rfl) (by kernel_rfl) (by kernel_rfl) (fun _ _ _ h => h) (by rfl) (v := _) (by (intro _ hSw; (try dsimp only at hSw); go_simp; try with_reducible rfl)) hHeld ?_
                simp only [Act.put, List.setIfInBounds_toArray, List.set_cons_zero, List.set_cons_succ]
                refine takeY 4 (some 84) rfl rfl (by kernel_rfl) (by kernel_rfl) (by kernel_rfl) (fun _ _ _ h => h) (by rfl) (v := _) (by (intro _ hSw; (try dsimp only at hSw); go_simp; try with_reducible rfl)) hHeld ?_
                simp only [Act.put, List.setIfInBounds_toArray, List.set_cons_zero, List.set_cons_succ]
                refine takeY 5 (some 85) rfl rfl (by kernel_rfl) (by kernel_rfl) (by kernel_rfl) (fun _ _ _ h => h) (by rfl) (v := _) (by (intro _ hSw; (try dsimp only at hSw); go_simp; try with_reducible rfl)) hHeld ?_
                simp only [Act.put, List.setIfInBounds_toArray, List.set_cons_zero, List.set_cons_succ]
                refine takeY 6 (some 86) rfl rfl (by kernel_rfl) (by kernel_rfl) (by kernel_rfl) (fun _ _ _ h => h) (by rfl) (v := _) (by (intro _ hSw; (try dsimp only at hSw); go_simp; try with_reducible rfl)) hHeld ?_
                simp only [Act.put, List.setIfInBounds_toArray, List.set_cons_zero, List.set_cons_succ]
                refine takeY 7 (some 87) rfl rfl (by kernel_rfl) (by kernel_rfl) (by kernel_rfl) (fun _ _ _ h => h) (by rfl) (v := _) (by (intro _ hSw; (try dsimp only at hSw); go_simp; try with_reducible rfl)) hHeld ?_
                simp only [Act.put, List.setIfInBounds_toArray, List.set_cons_zero, List.set_cons_succ]
                refine takeY 8 (some 88) rfl rfl (by kernel_rfl) (by kernel_rfl) (by kernel_rfl) (fun _ _ _ h => h) (by rfl) (v := _) (by (intro _ hSw; (try dsimp only at hSw); go_simp; try with_reducible rfl)) hHeld ?_
                simp only [Act.put, List.setIfInBounds_toArray, List.set_cons_zero, List.set_cons_succ]
                refine takeY 9 (some 89) rfl rfl (by kernel_rfl) (by kernel_rfl) (by kernel_rfl) (fun _ _ _ h => h) (by rfl) (v := _) (by (intro _ hSw; (try dsimp only at hSw); go_simp; try with_reducible rfl)) hHeld ?_
                simp only [Act.put, List.setIfInBounds_toArray, List.set_cons_zero, List.set_cons_succ]
                refine wpAnyH_ready (rs := [10]) (by kernel_rfl) (by simp) ?_
                refine AllReadyH.cons rfl (fun K hK => ?_) AllReadyH.nil
                go_simp
                refine hK.out _ _ (HKEEP.out _ _ _ _) (fun hHeld => ?_)
                clear hK K
                refine takeY 11 (some 3) rfl rfl (by kernel_rfl) (by kernel_rfl) (by kernel_rfl) (fun _ _ _ h => h) (by rfl) (v := _) (by (intro _ hSw; (try dsimp only at hSw); go_simp; try with_reducible rfl)) hHeld ?_
                simp only [Act.put, List.setIfInBounds_toArray, List.set_cons_zero, List.set_cons_succ]
                refine wpAnyH_done (by kernel_rfl) ?_ _
                go_wp2_with fail
                refine bodyPost_ret (results_cell_row2 rfl _ _ w.heap.size 34 _ (0, 0) _ rfl HR1.out.put4.drew Tryd.underlying34 rfl infoTk) rfl ?_
                exact ⟨(below_put4 HB1.out (Nat.le_refl _)).drew, ⟨7, x, 0⟩, xl, rfl, .inr HY.out⟩
              | false =>
                have hI2 : Hid (∀ j x, j < k + 1 → signsL[j]? = some x → (s.take x.length == x) = false) := Lib.hid fun j y hj hy => by
                  by_cases e : j = k
                  · subst e
                    rw [hx] at hy
                    cases hy
                    exact hp
                  · exact hI.out j y (by omega) hy
                clear hI hx hp
                go_wp2_with (go_at_call 41; refine Calls.mono H6.out ?_; rintro e w' ⟨rfl, rfl⟩)
                go_roundw
                case rel => exact ⟨k + 1, by omega, by go_num, by trivial, hI2⟩
                case measure => simp [intOf]; omega
            · obtain rfl : 22 = k := by omega
              have hd : decide (((22 : Nat) : Int) < 22) = false := by simp
              have HY : Hid (oneN s = none) := Lib.hid (by
                rw [HX.out]; unfold signN
                rw [find_no (L := signsL) (p := fun x => s.take x.length == x) (fun j y hy => hI.out j y (show j < 22 from (List.getElem?_eq_some_iff.1 hy).1) hy)]; rfl)
              clear hI
              go_wp2_with fail
              refine bodyPost_ret (results_cell_row2 rfl _ _ w.heap.size 34 _ (0, 0) _ rfl HR1.out.put4 Tryd.underlying34 rfl infoTk) rfl ?_
              exact ⟨below_put4 HB1.out (Nat.le_refl _), noTk, 0, rfl, .inl ⟨HY.out, rfl⟩⟩
end Go.Proofs.YtdnmdccjecoojaaDoor
