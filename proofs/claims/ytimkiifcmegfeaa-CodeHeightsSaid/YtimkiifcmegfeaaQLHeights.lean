/- The law, walked. -/
import Derived.Test.YtimkiifcmegfeaaQHe
/- code: CodeHeights. -/
namespace Go.Proofs.Ytimkiifcmegfeaa
open Go.RowKit
set_option linter.unusedVariables false
set_option linter.unusedSimpArgs false
attribute [local go_sem] Oper.semAt_some
set_option maxRecDepth 20000 in
set_option maxHeartbeats 4000000 in
theorem heights_law (n t p : Nat) (hn : n < 256) (ht : t < 256) (hp : p < 256) (w : World) :
    Calls Try.prog 9 #[.int .u8 (n : Int), .int .u8 (t : Int), .int .u8 (p : Int)] w fun e w' => e = .returned (.bool true) ∧ Below w.heap.size w w' := by
  obtain ⟨a, ha⟩ : ∃ a, n % 60 = a := ⟨_, rfl⟩
  obtain ⟨s, hs⟩ : ∃ s, t % 60 = s := ⟨_, rfl⟩
  obtain ⟨q, hq⟩ : ∃ q, p % 60 = q := ⟨_, rfl⟩
  have ha60 : a < 60 := by omega
  have hs60 : s < 60 := by omega
  have hq60 : q < 60 := by omega
  have ia : (n : Int) % 60 = (a : Int) := by omega
  have is_ : (t : Int) % 60 = (s : Int) := by omega
  have iq : (p : Int) % 60 = (q : Int) := by omega
  have IQ := Lib.hid iq
  clear ha hs hq iq
  go_enter Try.func9, Try.ntmps9
  go_wp2_with fail
  rw [ia, is_]
  clear ia is_
  go_loopw [9, 10] (fun lv iv wr => ∃ (i : Nat) (A : Option Addr) (c : Nat), i ≤ a ∧ iv = .int .i64 (i : Int) ∧ lv = .slice A i c ∧ Hid (HeI w wr (.slice A i c) i (intsL i 0))) (fun _ iv _ => a - (intOf iv).toNat)
  case atStart => exact ⟨0, none, 0, Nat.zero_le _, rfl, rfl, Lib.hid (HeI.nil w (Below.refl _ _))⟩
  case round =>
    obtain ⟨i, A, c, hi, rfl, rfl, hX⟩ := hrel
    by_cases hli : i < a
    · have hd : decide ((i : Int) < (a : Int)) = true := by simpa using hli
      obtain ⟨A3, c3, w3, hrun, hN⟩ := hX.out.push [⟨1, (i : Int), 0, 0, []⟩] 1 rfl (by omega) (fun j hj => by rw [List.mem_singleton.1 hj]; exact ok_small 1 _ (by decide) (by omega))
      rw [← show intsL (i + 1) 0 = intsL i 0 ++ [⟨1, (i : Int), 0, 0, []⟩] by rw [intsL_snoc, Nat.zero_add]] at hN
      have HN := Lib.hid hN
      have HR := Lib.hid hrun
      clear hN hrun hX
      go_upto_region 7 with fail
      have hrun := HR.out
      go_wp2_with (at_builtin; refine wpList_app rfl _ _ 44 rfl _ _ _ _ rfl rfl hrun ?_)
      go_roundw
      case rel => exact ⟨i + 1, A3, c3, by omega, by go_num, rfl, HN⟩
      case measure => simp [intOf]; omega
    · obtain rfl : i = a := by omega
      have hd : decide ((i : Int) < (i : Int)) = false := by simp
      obtain ⟨A3, c3, w3, hrun, hN⟩ := hX.out.push [⟨11, (s : Int), 0, 0, []⟩, ⟨25, 0, 0, 0, []⟩] 2 rfl (by omega) (fun j hj => by
        simp only [List.mem_cons, List.not_mem_nil, or_false] at hj
        rcases hj with rfl | rfl
        · exact ok_small 11 _ (by decide) (by omega)
        · exact ok_small 25 _ (by decide) (by omega))
      have hat : Cl.At (fun b => b < (w3.alloc (.cells #[.slice A3 (i + 2) c3] 44)).heap.size) (w3.alloc (.cells #[.slice A3 (i + 2) c3] 44)) ⟨[⟨A3, c3, heiA i s⟩], some ⟨w3.heap.size, 0, none⟩, 1, [], none, 0⟩ := by
        have h9 := one_at hN.fe
        rw [show (Fe.mk A3 c3 (intsL i 0 ++ [⟨11, (s : Int), 0, 0, []⟩, ⟨25, 0, 0, 0, []⟩])).is.length = i + 2 from hN.len] at h9
        exact h9
      have hK := check_any _ _ hat (show (1 : Nat) ≤ 1000000 by decide) (show (0 : Nat) ≤ 1000000 by decide) (by show (heiA i s).length + 0 ≤ 400000; have h9 := hN.len; unfold heiA; omega)
      have hk1 : checkB (Cl.cd ⟨[⟨A3, c3, heiA i s⟩], some ⟨w3.heap.size, 0, none⟩, 1, [], none, 0⟩) = (decide (2 ≤ (s : Int)) && decide ((s : Int) ≤ (i : Int))) := checkA i s ha60 (by omega)
      rw [hk1] at hK
      have hK : Calls Try.prog 20 #[.agg #[.slice (some ⟨w3.heap.size, 0, none⟩) 1 1, .slice none 0 0]] (w3.alloc (.cells #[.slice A3 (i + 2) c3] 44)) fun e w' => e = .returned (.int .i64 (if (decide (2 ≤ (s : Int)) && decide ((s : Int) ≤ (i : Int))) = true then 0 else 17)) ∧ Below (w3.alloc (.cells #[.slice A3 (i + 2) c3] 44)).heap.size (w3.alloc (.cells #[.slice A3 (i + 2) c3] 44)) w' := hK
      have hb4 : Below w.heap.size w (w3.alloc (.cells #[.slice A3 (i + 2) c3] 44)) := hN.bel.alloc hN.bel.size _
      have HK := Lib.hid hK
      have HB4 := Lib.hid hb4
      have HR := Lib.hid hrun
      clear hN hrun hX hk1 hK hb4 hat
      go_upto_region 8 with fail
      have hrun := HR.out
      go_wp2_with (at_builtin; refine wpList_app rfl _ _ 44 rfl _ _ _ _ rfl rfl hrun ?_)
      clear hrun HR
      refine HK.out.mono ?_
      rintro e w5 ⟨rfl, hb5⟩
      have HB5 := Lib.hid (HB4.out.trans (hb5.mono HB4.out.size))
      clear hb5 HK HB4
      obtain ⟨e5, he5⟩ : ∃ z : Int, (if (decide (2 ≤ (s : Int)) && decide ((s : Int) ≤ (i : Int))) = true then 0 else 17) = z := ⟨_, rfl⟩
      rw [he5]
      go_upto_region 10 with fail
      go_cut [60] from 43 to 60 (fun x wx => x = .bool false ∧ wx = w5)
      case first =>
        by_cases h2 : 2 ≤ s
        · have d2 : decide ((s : Int) ≥ 2) = true := decide_eq_true (by omega)
          by_cases h3 : s ≤ i
          · have d3 : decide ((s : Int) ≤ (i : Int)) = true := decide_eq_true (by omega)
            rw [if_pos (by rw [decide_eq_true (by omega), decide_eq_true (by omega)]; rfl)] at he5
            subst he5
            go_wp2_with fail
            go_meet
            exact ⟨rfl, rfl⟩
          · have d3 : decide ((s : Int) ≤ (i : Int)) = false := decide_eq_false (by omega)
            rw [if_neg (by rw [d3, Bool.and_false]; simp)] at he5
            subst he5
            go_wp2_with fail
            go_meet
            exact ⟨rfl, rfl⟩
        · have d2 : decide ((s : Int) ≥ 2) = false := decide_eq_false (by omega)
          rw [if_neg (by rw [decide_eq_false (by omega), Bool.false_and]; simp)] at he5
          subst he5
          go_wp2_with fail
          go_meet
          exact ⟨rfl, rfl⟩
      case rest =>
        obtain ⟨rfl, e9⟩ := hcut
        obtain rfl : w5 = wc := e9.symm
        clear he5
        go_wp2_with fail
        go_loopw [12, 13] (fun lv iv wr => ∃ (k : Nat) (A : Option Addr) (c : Nat), k ≤ i ∧ iv = .int .i64 (k : Int) ∧ lv = .slice A k c ∧ Hid (HeI w wr (.slice A k c) k (locsL k 0))) (fun _ iv _ => i - (intOf iv).toNat)
        case atStart => exact ⟨0, none, 0, Nat.zero_le _, rfl, rfl, Lib.hid (HeI.nil w HB5.out)⟩
        case round =>
          obtain ⟨k, A, c, hk, rfl, rfl, hX⟩ := hrel
          by_cases hlk : k < i
          · have hd : decide ((k : Int) < (i : Int)) = true := by simpa using hlk
            obtain ⟨A3, c3, w3, hrun, hN⟩ := hX.out.push [⟨3, (k : Int), 0, 0, []⟩] 1 rfl (by omega) (fun j hj => by rw [List.mem_singleton.1 hj]; exact ok_small 3 _ (by decide) (by omega))
            rw [← show locsL (k + 1) 0 = locsL k 0 ++ [⟨3, (k : Int), 0, 0, []⟩] by rw [locsL_snoc, Nat.zero_add]] at hN
            have HN := Lib.hid hN
            have HR := Lib.hid hrun
            clear hN hrun hX
            go_upto_region 16 with fail
            have hrun := HR.out
            go_wp2_with (at_builtin; refine wpList_app rfl _ _ 44 rfl _ _ _ _ rfl rfl hrun ?_)
            go_roundw
            case rel => exact ⟨k + 1, A3, c3, by omega, by go_num, rfl, HN⟩
            case measure => simp [intOf]; omega
          · obtain rfl : k = i := by omega
            have hd : decide ((k : Int) < (k : Int)) = false := by simp
            go_upto_region 18 with fail
            rw [IQ.out]
            go_wp2_with fail
            go_loopw [12, 15] (fun lv iv wr => ∃ (j : Nat) (A : Option Addr) (c : Nat), j ≤ q ∧ iv = .int .i64 (j : Int) ∧ lv = .slice A (k + j) c ∧ Hid (HeI w wr (.slice A (k + j) c) (k + j) (locsL k 0 ++ popsL j))) (fun _ iv _ => q - (intOf iv).toNat)
            case atStart => exact ⟨0, A, c, Nat.zero_le _, rfl, rfl, by rw [show popsL 0 = [] from rfl, List.append_nil]; exact hX⟩
            case round =>
              clear hX
              obtain ⟨j, A, c, hj, rfl, rfl, hX⟩ := hrel
              by_cases hlj : j < q
              · have hd : decide ((j : Int) < (q : Int)) = true := by simpa using hlj
                obtain ⟨A3, c3, w3, hrun, hN⟩ := hX.out.push [⟨21, 0, 0, 0, []⟩] 1 rfl (by omega) (fun j hj => by rw [List.mem_singleton.1 hj]; exact ok_small 21 _ (by decide) (by omega))
                rw [List.append_assoc, ← show popsL (j + 1) = popsL j ++ [⟨21, 0, 0, 0, []⟩] from List.replicate_succ'] at hN
                have HN := Lib.hid hN
                have HR := Lib.hid hrun
                clear hN hrun hX
                go_upto_region 21 with fail
                have hrun := HR.out
                go_wp2_with (at_builtin; refine wpList_app rfl _ _ 44 rfl _ _ _ _ rfl rfl hrun ?_)
                go_roundw
                case rel => exact ⟨j + 1, A3, c3, by omega, by go_num, rfl, HN⟩
                case measure => simp [intOf]; omega
              · obtain rfl : j = q := by omega
                have hd : decide ((j : Int) < (j : Int)) = false := by simp
                obtain ⟨A3, c3, w6, hrun, hN⟩ := hX.out.push [⟨8, 0, 0, 0, []⟩] 1 rfl (by omega) (fun j hj => by rw [List.mem_singleton.1 hj]; exact ok_small 8 _ (by decide) (by omega))
                rw [List.append_assoc, show locsL k 0 ++ (popsL j ++ [⟨8, 0, 0, 0, []⟩]) = heiB k j from rfl] at hN
                obtain ⟨w7, hw7⟩ : ∃ V, w6.alloc (.cells (icl heiF).toArray 46) = V := ⟨_, rfl⟩
                have hb7 : Below w6.heap.size w6 w7 := by rw [← hw7]; exact (Below.refl _ _).alloc (Nat.le_refl _) _
                have hB7 : Blk w7 w6.heap.size 46 (icl heiF).toArray := by rw [← hw7]; exact Blk.new _ _ _
                have hsz7 : w7.heap.size = w6.heap.size + 1 := by rw [← hw7]; simp
                have hF : Fe.In (fun b => b < w7.heap.size) w7 ⟨some ⟨w6.heap.size, 0, none⟩, 2, heiF⟩ := ⟨show (2 : Nat) ≤ 2 by decide, show (2 : Nat) ≤ maxLen by decide, ⟨row_blk hB7 hB7.lt fun m x j v hx hj => icl_get heiF m x j v hx hj, fun x hx => by
                  simp only [heiF, List.mem_cons, List.not_mem_nil, or_false] at hx
                  rcases hx with rfl | rfl
                  · exact ⟨by decide, by decide, by decide, by decide, by decide⟩
                  · exact ⟨by decide, by decide, by decide, by decide, by decide⟩⟩⟩
                have hG : Fe.In (fun b => b < w7.heap.size) w7 ⟨A3, c3, heiB k j⟩ := (hN.fe.bel hb7).mono fun b hlt _ => hlt
                have hat : Cl.At (fun b => b < (w7.alloc (.cells #[.slice (some ⟨w6.heap.size, 0, none⟩) 2 2, .slice A3 (k + j + 1) c3] 44)).heap.size) (w7.alloc (.cells #[.slice (some ⟨w6.heap.size, 0, none⟩) 2 2, .slice A3 (k + j + 1) c3] 44)) ⟨[⟨some ⟨w6.heap.size, 0, none⟩, 2, heiF⟩, ⟨A3, c3, heiB k j⟩], some ⟨w7.heap.size, 0, none⟩, 2, [], none, 0⟩ := by
                  have h9 := two_at hF hG
                  rw [show (Fe.mk A3 c3 (heiB k j)).is.length = k + j + 1 from hN.len] at h9
                  exact h9
                have hK := check_any _ _ hat (show (2 : Nat) ≤ 1000000 by decide) (show (0 : Nat) ≤ 1000000 by decide) (by show 2 + ((heiB k j).length + 0) ≤ 400000; have h9 := hN.len; omega)
                have hk1 : checkB (Cl.cd ⟨[⟨some ⟨w6.heap.size, 0, none⟩, 2, heiF⟩, ⟨A3, c3, heiB k j⟩], some ⟨w7.heap.size, 0, none⟩, 2, [], none, 0⟩) = decide ((k : Int) - (j : Int) = 1) := checkH k j ha60
                rw [hk1] at hK
                have hb8 : Below w.heap.size w (w7.alloc (.cells #[.slice (some ⟨w6.heap.size, 0, none⟩) 2 2, .slice A3 (k + j + 1) c3] 44)) := by
                  have h9 := hN.bel.trans (hb7.mono hN.bel.size)
                  exact h9.alloc h9.size _
                rw [hsz7, ← hw7] at hK
                rw [← hw7] at hb8
                have hK : Calls Try.prog 20 #[.agg #[.slice (some ⟨w6.heap.size + 1, 0, none⟩) 2 2, .slice none 0 0]] ((w6.alloc (.cells (icl heiF).toArray 46)).alloc (.cells #[.slice (some ⟨w6.heap.size, 0, none⟩) 2 2, .slice A3 (k + j + 1) c3] 44)) fun e w' => e = .returned (.int .i64 (if decide ((k : Int) - (j : Int) = 1) = true then 0 else 17)) ∧ Below ((w6.alloc (.cells (icl heiF).toArray 46)).alloc (.cells #[.slice (some ⟨w6.heap.size, 0, none⟩) 2 2, .slice A3 (k + j + 1) c3] 44)).heap.size ((w6.alloc (.cells (icl heiF).toArray 46)).alloc (.cells #[.slice (some ⟨w6.heap.size, 0, none⟩) 2 2, .slice A3 (k + j + 1) c3] 44)) w' := hK
                have HK := Lib.hid hK
                have HB8 := Lib.hid hb8
                have HR := Lib.hid hrun
                clear hN hrun hX hk1 hK hb8 hat hF hG hB7 hb7 hsz7 hw7
                go_upto_region 22 with fail
                have hrun := HR.out
                go_wp2_with (at_builtin; refine wpList_app rfl _ _ 44 rfl _ _ _ _ rfl rfl hrun ?_)
                clear hrun HR
                refine HK.out.mono ?_
                rintro e w9 ⟨rfl, hb9⟩
                have HB9 := Lib.hid (HB8.out.trans (hb9.mono HB8.out.size))
                have HW := Lib.hid (works_any w9)
                clear hb9 HK HB8
                by_cases h1 : (k : Int) - (j : Int) = 1
                · rw [if_pos (decide_eq_true h1)]
                  have h2 : ((k : Int) - (j : Int) == 1) = true := by rw [beq_iff_eq]; exact h1
                  clear h1
                  go_wp2_with fail
                  refine HW.out.mono ?_
                  rintro e w10 ⟨rfl, hb10⟩
                  have HB := Lib.hid (HB9.out.trans (hb10.mono HB9.out.size))
                  clear hb10
                  go_wp2_with fail
                  go_ret
                  exact ⟨rfl, HB.out⟩
                · rw [if_neg (by rw [decide_eq_false h1]; simp)]
                  have h2 : ((k : Int) - (j : Int) == 1) = false := by rw [beq_eq_false_iff_ne]; exact h1
                  clear h1
                  go_wp2_with fail
                  refine HW.out.mono ?_
                  rintro e w10 ⟨rfl, hb10⟩
                  have HB := Lib.hid (HB9.out.trans (hb10.mono HB9.out.size))
                  clear hb10
                  go_wp2_with fail
                  go_ret
                  exact ⟨rfl, HB.out⟩
end Go.Proofs.Ytimkiifcmegfeaa
