/- The reference's Extend: a long division. -/
import Derived.Test.YtlgoacpmacomnaaDoorCI
import Derived.Test.YtlgoacpmacomnaaDoorCO
import Derived.LoopTactic
namespace Go.Proofs.YtlgoacpmacomnaaDoor
open Go.RowKit Crc

/-- A row of the call's own, read and written. -/
theorem row_bit {w : World} {base g c N : Nat} {Z : Nat} (h : w.ownsRow base 4 1 (.slice (some ⟨g, 0, none⟩) N c) N (rowB (bl Z N))) (k : Nat) (hk : k < N) : w.cell? ⟨g, k, none⟩ = some (.bool (Z.testBit k)) ∧ w.frozen? ⟨g, k, none⟩ = false := by
  have hf := own_form h (by omega)
  obtain ⟨g', c', e, -, -, hc, hz⟩ := hf
  obtain ⟨rfl, rfl⟩ : g' = g ∧ c' = c := by simp at e; omega
  exact ⟨hc k _ (by rw [rowB, List.getElem?_map, bl_get _ _ _ hk]; rfl), hz k⟩
theorem row_set {w : World} {base g c N : Nat} {Z Z' : Nat} (h : w.ownsRow base 4 1 (.slice (some ⟨g, 0, none⟩) N c) N (rowB (bl Z N))) (k : Nat) (b : Bool) (hb : Z'.testBit k = b) (ho : ∀ j, j ≠ k → Z'.testBit j = Z.testBit j) :
    (w.setCell ⟨g, k, none⟩ (.bool b)).ownsRow base 4 1 (.slice (some ⟨g, 0, none⟩) N c) N (rowB (bl Z' N)) := by
  have h2 := own_set h k (.bool b)
  unfold rowB at h2 ⊢
  rw [← List.map_set, bl_set Z Z' N k b hb ho] at h2
  exact h2
theorem sum_test (s k : Nat) (b : Bool) (h : s.testBit k = b) : (((s : Int) / 2 ^ k).tmod 2 == 0) = !b := by
  have e : ((s : Int) / 2 ^ k) = ((s / 2 ^ k : Nat) : Int) := by push_cast; rfl
  have e2 : (((s / 2 ^ k : Nat) : Int)).tmod 2 = ((s / 2 ^ k % 2 : Nat) : Int) := by
    generalize s / 2 ^ k = m
    rw [Int.tmod_eq_emod_of_nonneg (by omega)]; omega
  rw [e, e2, ← h, Nat.testBit_eq_decide_div_mod_eq]
  rcases Nat.mod_two_eq_zero_or_one (s / 2 ^ k) with h1 | h1 <;> rw [h1] <;> decide

theorem u32_add (T k : Nat) (hk : (k : Int) < 32) (hS : T % 2 ^ (k + 1) = T % 2 ^ k + (if false = true then 0 else 2 ^ k)) (hok : T % 2 ^ (k + 1) < 4294967296) : (((T : Int) % 2 ^ k + 2 ^ k % 4294967296) % 4294967296) = ((T % 2 ^ (k + 1) : Nat) : Int) := by
  have h2k : 2 ^ k ≤ 2 ^ 31 := Nat.pow_le_pow_right (by decide) (by omega)
  have e1 : ((T : Int) % 2 ^ k) = ((T % 2 ^ k : Nat) : Int) := by push_cast; rfl
  have e2 : (2 : Int) ^ k = ((2 ^ k : Nat) : Int) := by push_cast; rfl
  rw [e1, e2]
  simp only [Bool.false_eq_true, if_false] at hS
  generalize T % 2 ^ (k + 1) = x at *
  generalize T % 2 ^ k = y at *
  generalize (2 ^ k : Nat) = z at *
  omega

set_option maxHeartbeats 800000 in
theorem refext_any (A : Option Addr) (n cap s : Nat) (bs : List UInt8) (w : World) (hn : bs.length = n) (hA : Bytes w A bs) (hl : n ≤ 4096) (hs : s < 4294967296) :
    Calls Tryd.prog 40 #[.int .u32 s, .slice A n cap] w fun e w' => e = .returned (.int .u32 (sumFrom s bs : Int)) ∧ Below w.heap.size w w' := by
  have hbits := bits_any A n cap bs w hn hA hl
  have hXl := bval_lt bs
  rw [hn] at hXl
  have hdiv := div_eq bs (s ^^^ ones)
  rw [hn] at hdiv
  obtain ⟨X, hX⟩ : ∃ X, bval bs = X := ⟨_, rfl⟩
  rw [hX] at hbits hXl hdiv
  have hfin : sumFrom s bs = F (s ^^^ ones) bs ^^^ ones := rfl
  rw [← hdiv] at hfin
  obtain ⟨V0, hV0⟩ : ∃ V0, X ^^^ (s ^^^ ones) = V0 := ⟨_, rfl⟩
  rw [hV0] at hfin
  have HFIN := Lib.hid hfin
  have HDV2 : Hid (Ln (8 * n) V0 = F (s ^^^ ones) bs) := Lib.hid (by rw [← hV0]; exact hdiv)
  have HV0 := Lib.hid hV0
  have HXL := Lib.hid hXl
  have HBITS := Lib.hid hbits
  obtain ⟨B, hB⟩ : ∃ B, w.heap.size = B := ⟨_, rfl⟩
  have HB := Lib.hid hB
  obtain ⟨N, hN⟩ : ∃ N, 8 * n + 32 = N := ⟨_, rfl⟩
  have HN := Lib.hid hN
  rw [hB]
  clear hbits hXl hdiv hfin hV0 hX hA hn hB
  go_enter Tryd.func40, Tryd.ntmps40
  go_wp2_with fail
  refine HBITS.out.mono ?_
  rintro e w1 ⟨v, rfl, hown1, hb1⟩
  rw [HB.out] at hown1 hb1
  have hsz1 : B ≤ w1.heap.size := by have := hb1.size; have := HB.out; omega
  obtain ⟨v2, w2, hrun, hown2, hgr⟩ := run_appZ w1 B v (8 * n) _ hown1 (by omega) hsz1
  have hz : bl X (8 * n) ++ noughts = bl X N := by rw [← HN.out]; exact bl_zeros X (8 * n) 32 HXL.out
  rw [hz, hN] at hown2
  have hb2 : Below B w w2 := hb1.grown hgr hsz1 (fun k e => (hown1.lt k e).1)
  obtain ⟨g, c, rfl, hg, hglt, -, -⟩ := own_form hown2 (by omega)
  have HRUN := Lib.hid hrun
  have HO := Lib.hid hown2
  have HB2 := Lib.hid hb2
  have hsz2 : B ≤ w2.heap.size := by omega
  have hNn : 32 ≤ N := by omega
  clear HBITS hown1 hb1 hsz1 hrun hown2 hgr hz hb2
  go_wp2_with (first
    | (at_builtin; refine Lib.wpList_append_run _ rfl _ _ 70 3 rfl _ _ rfl rfl _ _ HRUN.out ?_; clear HRUN))
  -- the first 32 are turned
  go_loopw [6] (fun i wr => ∃ k : Nat, k ≤ 32 ∧ i = .int .i64 k ∧ wr.ownsRow B 4 1 (.slice (some ⟨g, 0, none⟩) N c) N (rowB (bl (X ^^^ ((s ^^^ ones) % 2 ^ k)) N)) ∧ Below B w wr) (fun i _ => 32 - (intOf i).toNat)
  case atStart =>
    refine ⟨0, by omega, rfl, ?_, HB2.out⟩
    rw [Nat.pow_zero, Nat.mod_one, Nat.xor_zero]
    exact HO.out
  case round =>
    obtain ⟨k, hk, rfl, hown, hbw⟩ := hrel
    by_cases hlt : k < 32
    · have hst := flip_step X s k hlt
      have hot := fun j hj => flip_other X s k j hj
      obtain ⟨Y, hY⟩ : ∃ Y, X ^^^ ((s ^^^ ones) % 2 ^ k) = Y := ⟨_, rfl⟩
      obtain ⟨Y2, hY2⟩ : ∃ Y2, X ^^^ ((s ^^^ ones) % 2 ^ (k + 1)) = Y2 := ⟨_, rfl⟩
      rw [hY, hY2] at hst
      rw [hY] at hown
      simp only [hY, hY2] at hot
      obtain ⟨hc, hf⟩ := row_bit hown k (by omega)
      have HY2 := Lib.hid hY2
      cases hsb : s.testBit k
      · have htest := sum_test s k _ hsb
        rw [hsb] at hst
        obtain ⟨d, hd⟩ : ∃ d, Y.testBit k = d := ⟨_, rfl⟩
        rw [hd] at hst hc
        have hset := row_set hown k (!d) (by simpa using hst) hot
        have hb3 := hbw.setCell (p := ⟨g, k, none⟩) hg (.bool !d)
        have HS := Lib.hid hset
        have HB3 := Lib.hid hb3
        have hkN : k < N := by omega
        clear hst hot hY hY2 hsb hd hown hbw hset hb3
        simp only [Bool.not_false] at htest
        go_wp2
        go_roundw
        case rel => exact ⟨k + 1, by omega, by go_num, by rw [HY2.out]; exact HS.out, HB3.out⟩
        case measure => simp [intOf]; omega
      · have htest := sum_test s k _ hsb
        rw [hsb] at hst
        have hYY : Y2 = Y := by
          apply Nat.eq_of_testBit_eq
          intro j
          by_cases hj : j = k
          · subst hj; simpa using hst
          · exact hot j hj
        rw [← hYY] at hown
        have HO3 := Lib.hid hown
        have HB3 := Lib.hid hbw
        clear hst hot hY hY2 hsb hown hbw hYY hc hf
        simp only [Bool.not_true] at htest
        go_wp2
        go_roundw
        case rel => exact ⟨k + 1, by omega, by go_num, by rw [HY2.out]; exact HO3.out, HB3.out⟩
        case measure => simp [intOf]; omega
    · obtain rfl : k = 32 := by omega
      have hV : X ^^^ ((s ^^^ ones) % 2 ^ 32) = V0 := by rw [Nat.mod_eq_of_lt (Nat.xor_lt_two_pow hs ones_lt)]; exact HV0.out
      rw [hV] at hown
      have hdv := divisor_any wr
      have HDV := Lib.hid hdv
      have HO3 := Lib.hid hown
      have HB3 := Lib.hid hbw
      obtain ⟨_, _, e3, -, hglt3, -, -⟩ := own_form hown (by omega)
      have hgl3 : g < wr.heap.size := by simp at e3; omega
      clear hdv hown hbw hV HO HB2 e3 hglt3
      go_wp2_with fail
      refine HDV.out.mono ?_
      rintro e w3 ⟨rfl, hdown, hb3⟩
      obtain ⟨wo, rfl⟩ : ∃ wo : World, wo = wr := ⟨_, rfl⟩
      have hl3 := own_below HO3.out hb3
      have hb3' : Below B w w3 := HB3.out.trans (hb3.mono (by have := HB3.out.size; have := HB.out; omega))
      have HL3 := Lib.hid hl3
      have HD3 := Lib.hid hdown
      have HB4 := Lib.hid hb3'
      clear hl3 hdown hb3' hb3 HDV
      go_wp2
      go_loopw [8] (fun i wr => ∃ a : Nat, a ≤ 8 * n ∧ i = .int .i64 a ∧ wr.ownsRow B 4 1 (.slice (some ⟨g, 0, none⟩) N c) N (rowB (bl (2 ^ a * Ln a V0) N)) ∧ wr.ownsRow wo.heap.size 4 1 (.slice (some ⟨wo.heap.size, 0, none⟩) 33 33) 33 (rowB (bl dv 33)) ∧ Below B w wr) (fun i _ => 8 * n - (intOf i).toNat)
      case atStart =>
        refine ⟨0, by omega, rfl, ?_, HD3.out, HB4.out⟩
        rw [Nat.pow_zero, Nat.one_mul]
        exact HL3.out
      case round =>
        obtain ⟨a, ha, rfl, hl4, hd4, hbw⟩ := hrel
        have haN : a + 32 ≤ N := by omega
        by_cases hlt : a < 8 * n
        · have htl : (a : Int) + 32 < (N : Int) := by omega
          obtain ⟨Z, hZ⟩ : ∃ Z, 2 ^ a * Ln a V0 = Z := ⟨_, rfl⟩
          rw [hZ] at hl4
          have hnext : Ln (a + 1) V0 = L (Ln a V0) := by rw [Ln_add]; rfl
          obtain ⟨hc, hf⟩ := row_bit hl4 a (by omega)
          have haN2 : a < N := by omega
          cases hb : Z.testBit a
          · have hZ2 := round_even Z a _ hZ.symm hb
            rw [← hnext] at hZ2
            rw [hZ2] at hl4
            rw [hb] at hc
            have HL4 := Lib.hid hl4
            have HD4 := Lib.hid hd4
            have HBW := Lib.hid hbw
            clear hZ hnext hb hZ2 hl4 hd4 hbw hf
            go_wp2
            go_roundw
            case rel => exact ⟨a + 1, by omega, by go_num, HL4.out, HD4.out, HBW.out⟩
            case measure => simp [intOf]; omega
          · have hZ2 := round_odd Z a _ hZ.symm hb
            rw [← hnext] at hZ2
            rw [hb] at hc
            have HZ2 := Lib.hid hZ2
            have HL4 := Lib.hid hl4
            have HD4 := Lib.hid hd4
            have HBW := Lib.hid hbw
            clear hZ hnext hb hZ2 hl4 hd4 hbw hf
            go_wp2
            obtain ⟨wp, rfl⟩ : ∃ wp : World, wp = wr := ⟨_, rfl⟩
            go_loopw [9] (fun i wr => ∃ k : Nat, k ≤ 33 ∧ i = .int .i64 k ∧ wr.ownsRow B 4 1 (.slice (some ⟨g, 0, none⟩) N c) N (rowB (bl (Z ^^^ 2 ^ a * (dv % 2 ^ k)) N)) ∧ wr.ownsRow wo.heap.size 4 1 (.slice (some ⟨wo.heap.size, 0, none⟩) 33 33) 33 (rowB (bl dv 33)) ∧ Below B w wr) (fun i _ => 33 - (intOf i).toNat)
            case atStart =>
              refine ⟨0, by omega, rfl, ?_, HD4.out, HBW.out⟩
              rw [Nat.pow_zero, Nat.mod_one, Nat.mul_zero, Nat.xor_zero]
              exact HL4.out
            case round =>
              obtain ⟨k, hk, rfl, hl5, hd5, hb5⟩ := hrel
              by_cases hlk : k < 33
              · replace hl5 : wr.drew.ownsRow B 4 1 (.slice (some ⟨g, 0, none⟩) N c) N (rowB (bl (Z ^^^ 2 ^ a * (dv % 2 ^ k)) N)) := own_below hl5 (Below.refl _ wr).drew
                replace hd5 : wr.drew.ownsRow wo.heap.size 4 1 (.slice (some ⟨wo.heap.size, 0, none⟩) 33 33) 33 (rowB (bl dv 33)) := own_below hd5 (Below.refl _ wr).drew
                replace hb5 : Below B w wr.drew := hb5.drew
                have hib := inner_bit Z a k
                have hio := fun j hj => inner_other Z a k j hj
                obtain ⟨Y, hY⟩ : ∃ Y, Z ^^^ 2 ^ a * (dv % 2 ^ k) = Y := ⟨_, rfl⟩
                obtain ⟨Y2, hY2⟩ : ∃ Y2, Z ^^^ 2 ^ a * (dv % 2 ^ (k + 1)) = Y2 := ⟨_, rfl⟩
                rw [hY, hY2] at hib
                rw [hY] at hl5
                simp only [hY, hY2] at hio
                obtain ⟨m, hm⟩ : ∃ m, a + k = m := ⟨_, rfl⟩
                rw [hm] at hib hio
                have hmN : m < N := by omega
                obtain ⟨hc1, hf1⟩ := row_bit hl5 m hmN
                obtain ⟨hc2, -⟩ := row_bit hd5 k hlk
                obtain ⟨d1, hd1⟩ : ∃ d1, Y.testBit m = d1 := ⟨_, rfl⟩
                obtain ⟨d2, hd2⟩ : ∃ d2, dv.testBit k = d2 := ⟨_, rfl⟩
                rw [hd1] at hib hc1
                rw [hd2] at hib hc2
                have hset := row_set hl5 m _ hib hio
                have hdset := ownsRow_setCell_below hd5 (a := ⟨g, m, none⟩) hgl3 (.bool (d1 != d2))
                have hb6 := hb5.setCell (p := ⟨g, m, none⟩) hg (.bool (d1 != d2))
                have hmi : (a : Int) + (k : Int) = (m : Int) := by omega
                have hmw : IntKind.i64.wrap ((a : Int) + (k : Int)) = (m : Int) := by rw [hmi, IntKind.wrap_i64]; omega
                have HY2 := Lib.hid hY2
                have HS := Lib.hid hset
                have HDS := Lib.hid hdset
                have HB6 := Lib.hid hb6
                clear hib hio hY hY2 hm hd1 hd2 hl5 hd5 hb5 hset hdset hb6
                have hmNi : (m : Int) < (N : Int) := by omega
                have hk33 : (k : Int) < 33 := by omega
                go_wp2
                go_region
                go_wp2
                go_roundw
                case rel => exact ⟨k + 1, by omega, by go_num, by rw [HY2.out]; cases d1 <;> cases d2 <;> exact HS.out, by cases d1 <;> cases d2 <;> exact HDS.out, by cases d1 <;> cases d2 <;> exact HB6.out⟩
                case measure => simp [intOf]; omega
              · obtain rfl : k = 33 := by omega
                rw [dv_full, HZ2.out] at hl5
                have HL5 := Lib.hid hl5
                have HD5 := Lib.hid hd5
                have HB5 := Lib.hid hb5
                clear hl5 hd5 hb5
                go_wp2
                go_roundw
                case rel => exact ⟨a + 1, by omega, by go_num, HL5.out, HD5.out, HB5.out⟩
                case measure => simp [intOf]; omega
        · obtain rfl : a = 8 * n := by omega
          have htl : ¬ (((8 * n : Nat) : Int) + 32 < (N : Int)) := by omega
          have HL4 := Lib.hid hl4
          have HBW := Lib.hid hbw
          clear hl4 hd4 hbw
          go_wp2
          have hRl : Ln (8 * n) V0 < 4294967296 := by
            have h := F_lt (s := s ^^^ ones) (Nat.xor_lt_two_pow hs ones_lt) bs
            have h2 := HDV2.out
            rw [h2]; exact h
          obtain ⟨R, hR⟩ : ∃ R, Ln (8 * n) V0 = R := ⟨_, rfl⟩
          have HR := Lib.hid hR
          obtain ⟨M, hM⟩ : ∃ M, 8 * n = M := ⟨_, rfl⟩
          have HM := Lib.hid hM
          have hMi : (N : Int) - 32 = (M : Int) := by omega
          go_loop [10, 11] (fun o i => ∃ k : Nat, k ≤ 32 ∧ i = .int .i64 k ∧ o = .int .u32 (((R ^^^ ones) % 2 ^ k : Nat) : Int)) (fun _ i => 32 - (intOf i).toNat)
          case atStart =>
            refine ⟨0, by omega, rfl, ?_⟩
            rw [Nat.pow_zero, Nat.mod_one]; rfl
          case round =>
            obtain ⟨k, hk, rfl, rfl⟩ := hrel
            by_cases hlk : k < 32
            · have hcb := row_bit HL4.out (M + k) (by omega)
              rw [hR, hM, Nat.testBit_two_pow_mul, show M + k - M = k by omega] at hcb
              obtain ⟨hc, -⟩ := hcb
              have hge : decide (M + k ≥ M) = true := by simp
              rw [hge, Bool.true_and] at hc
              obtain ⟨m, hm⟩ : ∃ m, M + k = m := ⟨_, rfl⟩
              rw [hm] at hc
              have hmi : (M : Int) + (k : Int) = (m : Int) := by omega
              have hmN : m < N := by omega
              have hstep := out_step R k hlk
              have h2k : 2 ^ k ≤ 2 ^ 31 := Nat.pow_le_pow_right (by decide) (by omega)
              have hok : (R ^^^ ones) % 2 ^ (k + 1) < 4294967296 := Nat.lt_of_lt_of_le (Nat.mod_lt _ (Nat.two_pow_pos _)) (by have := Nat.pow_le_pow_right (n := 2) (by decide) (show k + 1 ≤ 32 by omega); omega)
              have hk32 : (k : Int) < 32 := by omega
              cases hb : R.testBit k
              · rw [hb] at hc hstep
                have hadd := u32_add (R ^^^ ones) k hk32 hstep hok
                have HADD := Lib.hid hadd
                clear hstep h2k hok hadd hb hm hR hM
                go_wp2
                go_round
                case rel => exact ⟨k + 1, by omega, by go_num, by rw [HADD.out]⟩
                case measure => simp [intOf]; omega
              · rw [hb] at hc hstep
                have HST := Lib.hid hstep
                clear hstep h2k hok hb hm hR hM
                go_wp2
                go_round
                case rel => exact ⟨k + 1, by omega, by go_num, by rw [HST.out]; simp⟩
                case measure => simp [intOf]; omega
            · obtain rfl : k = 32 := by omega
              have hend : (R ^^^ ones) % 2 ^ 32 = sumFrom s bs := by
                rw [HFIN.out, HR.out]
                exact Nat.mod_eq_of_lt (Nat.xor_lt_two_pow (by rw [← HR.out]; exact hRl) ones_lt)
              rw [hend]
              clear hend hR hM
              go_wp2
              go_ret
              exact ⟨rfl, HBW.out⟩

end Go.Proofs.YtlgoacpmacomnaaDoor
