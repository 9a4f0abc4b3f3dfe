/- stamp: StampLong. -/
import Derived.Test.YtadogebhkldeiaaDoorI
import Derived.Test.YtadogebhkldeiaaDoorRows
import Derived.Stop.LaidErr
namespace Go.Proofs.YtadogebhkldeiaaDoor
open Go.RowKit Ty
set_option linter.unusedVariables false
set_option linter.unusedSimpArgs false
attribute [local go_sem] Oper.semAt_some
/-- References to references .. to a number. -/
def tyR : Nat → Ty
  | 0 => tyInt
  | m + 1 => .node 2 [114, 101, 102] 0 [tyR m]
theorem tyR_k (m : Nat) : (tyR m).k = 2 := by cases m <;> rfl
theorem tyR_n (m : Nat) : (tyR m).n = 0 := by cases m <;> rfl
theorem tyR_ok (m : Nat) : (tyR m).ok := by
  cases m
  · exact ok_Int
  · exact ⟨by show 2 < 256; decide, by show (-9223372036854775808 : Int) ≤ 0 ∧ (0 : Int) < 9223372036854775808; decide, by show 3 ≤ maxLen; decide⟩
theorem tyR_text : ∀ m : Nat, (tyT (tyR m)).length = 3 + 4 * m
  | 0 => by decide +kernel
  | m + 1 => by
    have h := tyR_text m
    have ht : tightT (tyR m) = tyT (tyR m) := by unfold tightT; rw [tyR_k]; rfl
    have e : tyT (tyR (m + 1)) = (joinT [] [tightT (tyR m)] ++ [32]) ++ [114, 101, 102] := by rw [tyT_eq]; rfl
    rw [e, ht]
    show ((tyT (tyR m) ++ [32]) ++ [114, 101, 102]).length = _
    rw [List.length_append, List.length_append, h]
    show 3 + 4 * m + 1 + 3 = _
    omega
theorem tyR_kept (D : List UInt8 → Option Dc) (vs : List (List UInt8)) : ∀ m : Nat, keptB D vs (tyR m) = true
  | 0 => by
    show keptB D vs (.node 2 [105, 110, 116] 0 []) = true
    rw [keptB_eq, if_neg (by decide), keptBs]
    rfl
  | m + 1 => by
    show keptB D vs (.node 2 [114, 101, 102] 0 [tyR m]) = true
    rw [keptB_eq, if_neg (by decide), keptBs, keptBs, tyR_kept D vs m]
    rfl
theorem tyR_names : ∀ m : Nat, comeL [] (namesT (tyR m)) = [] ∧ (namesT (tyR m)).length = m + 1
  | 0 => ⟨by rfl, by rfl⟩
  | m + 1 => by
    obtain ⟨h1, h2⟩ := tyR_names m
    have e : namesT (tyR (m + 1)) = [114, 101, 102] :: namesT (tyR m) := by
      show namesT (.node 2 [114, 101, 102] 0 [tyR m]) = _
      rw [namesT, if_pos rfl, namesL, namesL, List.append_nil]
    rw [e]
    exact ⟨h1, by rw [List.length_cons, h2]⟩
theorem tyR_res (m : Nat) : resT (bookD []) 0 (tyR m) = some (tyT (tyR m)) := by
  unfold resT
  rw [if_pos (tyR_kept _ _ m), (tyR_names m).1]
  rfl
theorem tyR_pr : ∀ m : Nat, pr (tyR m) = true
  | 0 => by decide +kernel
  | m + 1 => by
    show pr (.node 2 [114, 101, 102] 0 [tyR m]) = true
    rw [pr, prs, prs, tyR_pr m]
    rfl
theorem tyR_sml : ∀ m : Nat, sml (tyR m) = true
  | 0 => by decide +kernel
  | m + 1 => by
    show sml (.node 2 [114, 101, 102] 0 [tyR m]) = true
    rw [sml, smls, smls, tyR_sml m]
    rfl
/-- The variable's box, in memory. -/
structure Bx (w : World) (q i : Nat) (A : Option Addr) (l c : Nat) : Prop where
  blk : Blk w q 24 #[.int .u8 2, .string (str (tyR i).nm), .int .i64 0, .slice A l c]
  len : (tyR i).ks.length = l
  in_ : Te.in_ (fun k => k ≠ q) w ⟨tyR i, A, c⟩
theorem Bx.step {w w2 w3 : World} {q i : Nat} {A : Option Addr} {l c g : Nat} (h : Bx w q i A l c) (h1 : w.alloc (.cells #[.int .u8 2, .string (str (tyR i).nm), .int .i64 0, .slice A l c] 24) = w2) (hg : w.heap.size = g) (h3 : Below w2.heap.size w2 w3) :
    ∃ w4, ((((w3.setCell ⟨q, 0, none⟩ (.int .u8 2)).setCell ⟨q, 1, none⟩ (.string ⟨#[114, 101, 102]⟩)).setCell ⟨q, 2, none⟩ (.int .i64 0)).setCell ⟨q, 3, none⟩ (.slice (some ⟨g, 0, none⟩) 1 1)) = w4 ∧ Bx w4 q (i + 1) (some ⟨g, 0, none⟩) 1 1 ∧ Off (fun k => k = q) w w4 ∧
      (∀ j, w3.frozen? ⟨q, j, none⟩ = false) ∧ w3.cell? ⟨q, 0, none⟩ = some (.int .u8 2) ∧ w3.cell? ⟨q, 1, none⟩ = some (.string (str (tyR i).nm)) ∧ w3.cell? ⟨q, 2, none⟩ = some (.int .i64 0) ∧ w3.cell? ⟨q, 3, none⟩ = some (.slice A l c) := by
  have hb : Below w.heap.size w w2 := by rw [← h1]; exact (Below.refl _ _).alloc (Nat.le_refl _) _
  have hB : Blk w2 w.heap.size 24 #[.int .u8 2, .string (str (tyR i).nm), .int .i64 0, .slice A l c] := by rw [← h1]; exact Blk.new _ _ _
  rw [hg] at hB
  have hbb := hb.trans (h3.mono hb.size)
  have hq := h.blk.lt
  have hB3 := hB.below h3 hB.lt
  have hq3 := h.blk.below hbb hq
  have hs := hq3.set4 (.int .u8 2) (.string ⟨#[114, 101, 102]⟩) (.int .i64 0) (.slice (some ⟨g, 0, none⟩) 1 1)
  have ho := off4 w3 q (.int .u8 2) (.string ⟨#[114, 101, 102]⟩) (.int .i64 0) (.slice (some ⟨g, 0, none⟩) 1 1)
  refine ⟨_, rfl, ⟨hs, rfl, ?_, tyR_ok _, (by show 1 ≤ 1; decide), (by show 1 ≤ maxLen; decide)⟩, (Off.of_new hbb _).trans ho, hq3.frozen, hq3.cell 0, hq3.cell 1, hq3.cell 2, hq3.cell 3⟩
  have hin := (h.in_.bel hbb).off ho (fun b h1 h2 => h1 h2)
  have hB4 := hB3.off ho (by omega)
  exact At_blk (es := [⟨tyR i, A, c⟩]) hB4 (fun j v hv => by
    have hv : [Value.int .u8 ((tyR i).k : Int), .string (str (tyR i).nm), .int .i64 (tyR i).n, .slice A (tyR i).ks.length c][j]? = some v := hv
    rw [tyR_k, tyR_n, h.len] at hv
    rw [List.getElem?_toArray]; exact hv) (fun e he => by rw [List.mem_singleton.1 he]; exact hin) (by omega)
set_option maxRecDepth 100000 in
set_option maxHeartbeats 8000000 in
theorem long_law (x : Nat) (hx : x < 256) (e0 : Addr) (w : World) (herr : w.cell? ⟨0, 0, none⟩ = some (errv e0)) : Calls Tryd.prog 5 #[.int .u8 (x : Int)] w fun e w' => e = .returned (.bool true) ∧ Below w.heap.size w w' := by
  obtain ⟨m, hm⟩ : ∃ m, x % 100 = m := ⟨_, rfl⟩
  have hm100 : m < 100 := by omega
  have hwx : IntKind.i64.wrap (x : Int) = (x : Int) := IntWalk.i64_in _ (by omega)
  have htm : ((x : Int)).tmod 100 = (m : Int) := by rw [Int.tmod_eq_emod_of_nonneg (by omega)]; omega
  have HE : Hid (∀ W, Below w.heap.size w W → W.cell? ⟨0, 0, none⟩ = some (errv e0)) := Lib.hid fun W hW => (hW.cell (World.block_lt_of_cell? _ _ herr)).trans herr
  have HC := Lib.hid (named_any ⟨#[105, 110, 116]⟩ none 0 0 w)
  clear herr
  go_enter Tryd.func5, Tryd.ntmps5
  go_wp2_with fail
  refine HC.out.mono ?_
  rintro e w1 ⟨rfl, hb1⟩
  obtain ⟨w2, hw2⟩ : ∃ W, w1.alloc (.cells #[.int .u8 2, .string ⟨#[105, 110, 116]⟩, .int .i64 0, .slice none 0 0] 24) = W := ⟨_, rfl⟩
  have hb2 : Below w1.heap.size w1 w2 := by rw [← hw2]; exact (Below.refl _ _).alloc (Nat.le_refl _) _
  have hB2 : Blk w2 w1.heap.size 24 #[.int .u8 2, .string ⟨#[105, 110, 116]⟩, .int .i64 0, .slice none 0 0] := by rw [← hw2]; exact Blk.new _ _ _
  obtain ⟨q, hq⟩ : ∃ g, w1.heap.size = g := ⟨_, rfl⟩
  rw [hq] at hB2
  have h02 : Below w.heap.size w w2 := hb1.trans (hb2.mono hb1.size)
  have hqw : w.heap.size ≤ q := by have := hb1.size; omega
  have hbx : Bx w2 q 0 none 0 0 := ⟨hB2, rfl, .nil _, ok_Int, Nat.le_refl _, Nat.zero_le _⟩
  have H2 := Lib.hid (And.intro hw2 (And.intro hq (And.intro hbx (And.intro h02 hqw))))
  clear HC hb1 hw2 hb2 hB2 hq h02 hbx hqw
  go_upto_region 2 with fail
  (try rw [H2.out.1])
  (try rw [H2.out.2.1])
  go_wp2_with fail
  go_loopw [4] (fun v4 wr => ∃ (i : Nat), i ≤ m ∧ v4 = .int .i64 (i : Int) ∧ Hid (Below w.heap.size w wr ∧ ∃ A l c, Bx wr q i A l c)) (fun v4 _ => m - (intOf v4).toNat)
  case atStart => exact ⟨0, Nat.zero_le _, rfl, Lib.hid ⟨H2.out.2.2.2.1, _, _, _, H2.out.2.2.1⟩⟩
  case round =>
    obtain ⟨i, hi, rfl, HJ⟩ := hrel
    obtain ⟨w3, rfl⟩ : ∃ v, v = wr := ⟨_, rfl⟩
    obtain ⟨hbw, A, l, c, hbx⟩ := HJ.out
    have x0 := hbx.blk.cell 0
    have x1 := hbx.blk.cell 1
    have x2 := hbx.blk.cell 2
    have x3 := hbx.blk.cell 3
    simp only [List.getElem?_toArray, List.getElem?_cons_zero, List.getElem?_cons_succ] at x0 x1 x2 x3
    by_cases hli : i < m
    · have hd : decide ((i : Int) < (m : Int)) = true := by simpa using hli
      obtain ⟨w4, hw4⟩ : ∃ W, w3.alloc (.cells #[.int .u8 2, .string (str (tyR i).nm), .int .i64 0, .slice A l c] 24) = W := ⟨_, rfl⟩
      obtain ⟨g, hg⟩ : ∃ g, w3.heap.size = g := ⟨_, rfl⟩
      have HC := Lib.hid (named_any ⟨#[114, 101, 102]⟩ (some ⟨g, 0, none⟩) 1 1 w4)
      have HST : Hid (∀ w5, Below w4.heap.size w4 w5 → ∃ w6, ((((w5.setCell ⟨q, 0, none⟩ (.int .u8 2)).setCell ⟨q, 1, none⟩ (.string ⟨#[114, 101, 102]⟩)).setCell ⟨q, 2, none⟩ (.int .i64 0)).setCell ⟨q, 3, none⟩ (.slice (some ⟨g, 0, none⟩) 1 1)) = w6 ∧ Bx w6 q (i + 1) (some ⟨g, 0, none⟩) 1 1 ∧ Off (fun k => k = q) w3 w6 ∧
      (∀ j, w5.frozen? ⟨q, j, none⟩ = false) ∧ w5.cell? ⟨q, 0, none⟩ = some (.int .u8 2) ∧ w5.cell? ⟨q, 1, none⟩ = some (.string (str (tyR i).nm)) ∧ w5.cell? ⟨q, 2, none⟩ = some (.int .i64 0) ∧ w5.cell? ⟨q, 3, none⟩ = some (.slice A l c)) := Lib.hid fun w5 h5 => hbx.step hw4 hg h5
      have HB := Lib.hid hbw
      have HW := Lib.hid (And.intro hw4 hg)
      have HI := Lib.hid (show i + 1 ≤ m by omega)
      clear hw4 hg hbx hbw HJ
      go_wp2_with fail
      (try rw [HW.out.1])
      (try rw [HW.out.2])
      refine HC.out.mono ?_
      rintro e w5 ⟨rfl, hb5⟩
      obtain ⟨w6, hw6, hbx6, ho6, rf, y0, y1, y2, y3⟩ := HST.out w5 hb5
      have HN : Hid (Below w.heap.size w w6 ∧ ∃ A l c, Bx w6 q (i + 1) A l c) := Lib.hid ⟨HB.out.trans (ho6.below HB.out.size fun k e => by rw [e]; exact H2.out.2.2.2.2), _, _, _, hbx6⟩
      have HW6 := Lib.hid hw6
      clear hb5 hw6 hbx6 ho6 HC HST HB HW x0 x1 x2 x3
      go_upto_region 4 with fail
      (try rw [HW6.out])
      clear y0 y1 y2 y3 rf
      go_wp2_with fail
      go_roundw
      case rel => exact ⟨i + 1, HI.out, by go_num, HN⟩
      case measure => simp [intOf]; omega
    · obtain rfl : m = i := by omega
      have hd : decide ((m : Int) < (m : Int)) = false := by simp
      have hT := Text_any [] none 0 0 rfl (by decide) (fun d hd => by cases hd) (tyR m) A c (tyR_ok m).2.2 (tyR_sml m) (by rw [(tyR_names m).2]; omega) (fun _ => tyR_pr m) (by rw [tyR_text]; omega) e0 w3 (HE.out w3 hbw) (fun r d hd => by simp at hd) ((hbx.in_.bnd).1.mono fun k h => h.2)
      rw [tyR_res] at hT
      unfold Ty.val at hT
      rw [tyR_k, tyR_n, hbx.len] at hT
      have HB := Lib.hid hbw
      have hlen := tyR_text m
      obtain ⟨tx, htx⟩ : ∃ tx, tyT (tyR m) = tx := ⟨_, rfl⟩
      rw [htx] at hT hlen
      have hsz : (str tx).size = 3 + 4 * m := by rw [str_size, hlen]
      have HLEN := Lib.hid hlen
      have HWK : Hid (∀ W, Below w3.heap.size w3 W → Calls Tryd.prog 7 #[] W fun e w' => e = .returned (.bool true) ∧ Below W.heap.size W w') := Lib.hid fun W hW => works_any e0 W (HE.out W (hbw.trans (hW.mono hbw.size)))
      clear hbw hbx HJ htx hlen
      by_cases h200 : 200 < tx.length
      · have ea : ansT (some tx) = ([], 16) := by simp only [ansT]; rw [if_pos h200]
        rw [ea] at hT
        have es : (str ([] : List UInt8)).toList = [] := str_toList []
        have HT := Lib.hid hT
        have hg : decide ((200 : Int) < 3 + 4 * (m : Int)) = true := by have := HLEN.out; simp; omega
        have hg2 : decide (3 + 4 * (m : Int) > 200) = true := by have := HLEN.out; simp; omega
        clear hT ea h200
        go_wp2_with fail
        refine HT.out.mono ?_
        rintro e w5 ⟨rfl, hb5⟩
        have HK := Lib.hid (HWK.out w5 hb5)
        have H5 : Hid (Below w.heap.size w w5) := Lib.hid (HB.out.trans (hb5.mono HB.out.size))
        clear hb5 HT HWK x0 x1 x2 x3
        go_wp2_with fail
        refine HK.out.mono ?_
        rintro e w6 ⟨rfl, hb6⟩
        have H6 : Hid (Below w.heap.size w w6) := Lib.hid (H5.out.trans (hb6.mono H5.out.size))
        clear hb6 HK
        go_wp2_with fail
        go_ret
        exact ⟨rfl, H6.out⟩
      · have ea : ansT (some tx) = (tx, 0) := by simp only [ansT]; rw [if_neg h200]
        rw [ea] at hT
        have HT := Lib.hid hT
        have hg : decide ((200 : Int) < 3 + 4 * (m : Int)) = false := by have := HLEN.out; simp; omega
        have hg2 : decide (3 + 4 * (m : Int) > 200) = false := by have := HLEN.out; simp; omega
        clear hT ea h200
        go_wp2_with fail
        refine HT.out.mono ?_
        rintro e w5 ⟨rfl, hb5⟩
        have HK := Lib.hid (HWK.out w5 hb5)
        have H5 : Hid (Below w.heap.size w w5) := Lib.hid (HB.out.trans (hb5.mono HB.out.size))
        clear hb5 HT HWK x0 x1 x2 x3
        go_wp2_with fail
        refine HK.out.mono ?_
        rintro e w6 ⟨rfl, hb6⟩
        have H6 : Hid (Below w.heap.size w w6) := Lib.hid (H5.out.trans (hb6.mono H5.out.size))
        clear hb6 HK
        go_wp2_with fail
        go_ret
        exact ⟨rfl, H6.out⟩
end Go.Proofs.YtadogebhkldeiaaDoor
