/- pages: the law's helpers: same; works. -/
import Derived.Test.YtcmaehilgeonjaaAG
namespace Go.Proofs.Ytcmaehilgeonjaa
open Go.RowKit Pgs
set_option maxRecDepth 20000 in
set_option maxHeartbeats 2000000 in
theorem same_any (a b : Value) (zs : List Nat) (w : World) (ha : IntsO w a zs) (hb : IntsO w b zs) :
    Calls Try.prog 19 #[a, b] w fun e w' => e = .returned (.bool true) ∧ Below w.heap.size w w' := by
  obtain ⟨A, c, rfl, hc, hm⟩ := ha.shape
  obtain ⟨B, d, rfl, hd, hm2⟩ := hb.shape
  obtain ⟨n, hn⟩ : ∃ n, zs.length = n := ⟨_, rfl⟩
  have hnm : n ≤ 9223372036854775807 := by unfold maxLen at hm; omega
  have HA := Lib.hid ha
  have HB := Lib.hid hb
  have HN := Lib.hid hn
  have HBe := Lib.hid (Below.refl w.heap.size w)
  have hnn : ((n : Int) != (n : Int)) = false := by simp
  rw [hn]
  rw [hn] at hc hd
  clear ha hb hn
  go_enter Try.func19, Try.ntmps19
  go_wp2_with fail
  go_loopw [5] (fun iv wr => ∃ i : Nat, i ≤ n ∧ iv = .int .i64 (i : Int) ∧ Hid (Below w.heap.size w wr)) (fun iv _ => n - (intOf iv).toNat)
  case atStart => exact ⟨0, Nat.zero_le _, rfl, HBe⟩
  case round =>
    clear HBe
    obtain ⟨i, hi, rfl, hbel⟩ := hrel
    have hbn : ∀ k, Hid (Below w.heap.size w (wr.drewN k)) := fun k => Lib.hid (hbel.out.trans ((drewN_below wr k).mono hbel.out.size))
    have HBN := Lib.hid hbn
    clear hbn
    by_cases hlt : i < n
    · have hd1 : decide ((i : Int) < (n : Int)) = true := by simpa using hlt
      obtain ⟨z, hz⟩ : ∃ z, zs[i]? = some z := ⟨_, List.getElem?_eq_getElem (by rw [HN.out]; exact hlt)⟩
      obtain ⟨ga, ca, ea, hga, hca⟩ := HA.out.get i z hz
      obtain ⟨gb, cb, eb, hgb, hcb⟩ := HB.out.get i z hz
      injection ea with e1 e2 e3
      injection eb with e4 e5 e6
      subst e1
      subst e4
      have c0 := (hbel.out.cell (p := ⟨ga, i, none⟩) hga).trans hca
      have c1 := (hbel.out.cell (p := ⟨gb, i, none⟩) hgb).trans hcb
      have hzz : ((z : Int) != (z : Int)) = false := by simp
      clear e2 e3 e5 e6 hca hcb hz hga hgb
      go_wp2_with fail
      go_quiet (fail)
      go_wp2_with fail
      go_roundw
      case rel => exact ⟨i + 1, by omega, by go_num, HBN.out _⟩
      case measure => simp [intOf]; omega
    · obtain rfl : n = i := by omega
      have hd1 : decide ((n : Int) < (n : Int)) = false := by simp
      go_wp2_with fail
      go_ret
      exact ⟨rfl, hbel.out⟩


namespace Pgs
def wk1 : List Nat := none_.set 0 5
def wk2 : List Nat := wk1.set 2 256
def wk3 : List Nat := wk2.set 130 7
theorem wk1_is : setL none_ 0 5 = wk1 := by kernel_rfl
theorem wk2_is : setL wk1 2 256 = wk2 := by kernel_rfl
theorem wk3_is : setL wk2 130 7 = wk3 := by kernel_rfl
theorem wk_part0 : partB wk3 0 = [5, 0, 0, 0, 0, 1] := by kernel_rfl
theorem wk_part1 : (partB wk3 1).length = 14 := by kernel_rfl
theorem wk_turned : turnedL wk3 none_ = [0, 1] := by kernel_rfl
theorem wk_lay : layB 0 [5] = false := by kernel_rfl
theorem wb1 : setB 0 5 = true := by decide
theorem wb2 : setB 2 256 = true := by decide
theorem wb3 : setB 130 7 = true := by decide
theorem wk_str : ((str [5, 0, 0, 0, 0, 1]).toList == [5, 0, 0, 0, 0, 1]) = true := by rw [str_toList]; rfl
end Pgs
set_option maxRecDepth 20000 in
set_option maxHeartbeats 2000000 in
theorem works_any (w : World) : Calls Try.prog 10 #[] w fun e w' => e = .returned (.bool true) ∧ Below w.heap.size w w' := by
  have HN := Lib.hid (fun W => new_any W)
  go_enter Try.func10, Try.ntmps10
  go_wp2_with fail
  refine (HN.out w).mono ?_
  rintro e w1 ⟨rfl, hP, hb⟩
  have H1 := Lib.hid (set_some _ none_ 0 5 w1 hP)
  have HB := Lib.hid hb
  clear hP hb
  go_wp2_with fail
  refine H1.out.mono ?_
  rintro e w2 ⟨rfl, hP, ho⟩
  rw [wk1_is] at hP
  rw [wb1]
  have H1 := Lib.hid (set_some _ wk1 2 256 w2 hP)
  have HB := Lib.hid (HB.out.trans (ho.below HB.out.size (fun k hk => Nat.le_of_eq hk.symm)))
  clear hP ho
  go_wp2_with fail
  refine H1.out.mono ?_
  rintro e w3 ⟨rfl, hP, ho⟩
  rw [wk2_is] at hP
  rw [wb2]
  have H1 := Lib.hid (set_some _ wk2 130 7 w3 hP)
  have HB := Lib.hid (HB.out.trans (ho.below HB.out.size (fun k hk => Nat.le_of_eq hk.symm)))
  clear hP ho
  go_wp2_with fail
  refine H1.out.mono ?_
  rintro e w4 ⟨rfl, hP, ho⟩
  rw [wk3_is] at hP
  rw [wb3]
  have H1 := Lib.hid (part_some _ 0 wk3 w4 hP (by decide))
  have HP := Lib.hid hP
  have HB := Lib.hid (HB.out.trans (ho.below HB.out.size (fun k hk => Nat.le_of_eq hk.symm)))
  clear hP ho
  go_wp2_with fail
  refine H1.out.mono ?_
  rintro e w5 ⟨A, n, c, rfl, _, _, hl, hBy, hb⟩
  rw [wk_part0] at hl hBy
  have hcv := run_str8L w5 A n c _ hl hBy
  have hws := wk_str
  obtain ⟨S, hS⟩ : ∃ S, str [5, 0, 0, 0, 0, 1] = S := ⟨_, rfl⟩
  rw [hS] at hcv hws
  have HP := Lib.hid (HP.out.below hb)
  have HB := Lib.hid (HB.out.trans (hb.mono HB.out.size))
  have H1 := Lib.hid (part_some _ 1 wk3 w5 HP.out (by decide))
  clear hb hBy hl hS
  go_wp2_with fail
  refine H1.out.mono ?_
  rintro e w6 ⟨A2, n2, c2, rfl, _, _, hl, hBy, hb⟩
  rw [wk_part1] at hl
  obtain rfl : n2 = 14 := hl.symm
  have HP := Lib.hid (HP.out.below hb)
  have HB := Lib.hid (HB.out.trans (hb.mono HB.out.size))
  clear hb hBy hcv hws
  go_wp2_with fail
  refine (HN.out w6).mono ?_
  rintro e w7 ⟨rfl, hP, hb⟩
  have HP := Lib.hid (HP.out.below hb)
  have HB := Lib.hid (HB.out.trans (hb.mono HB.out.size))
  have H1 := Lib.hid (turned_any _ _ wk3 none_ w7 (.inr ⟨_, rfl, HP.out⟩) (.inr ⟨_, rfl, hP⟩))
  clear hb hP
  go_wp2_with fail
  refine H1.out.mono ?_
  rintro e w8 ⟨lv, rfl, hi, _, hb⟩
  rw [wk_turned] at hi
  obtain ⟨A3, c3, rfl, _, _⟩ := hi.shape
  have HP := Lib.hid (HP.out.below hb)
  have HB := Lib.hid (HB.out.trans (hb.mono HB.out.size))
  clear hi hb
  have hbn : Below w8.heap.size w8 (w8.alloc (.cells #[bv 5] 5)) := (Below.refl _ _).alloc (Nat.le_refl _) _
  have H1 := Lib.hid (lay_some _ 1 1 0 (some ⟨w8.heap.size, 0, none⟩) wk3 [5] _ (HP.out.below hbn) rfl (Bytes.of_blk (Blk.new w8 5 #[bv 5]) (fun k c hk => by
    cases k with
    | zero => cases hk; rfl
    | succ k => exact absurd hk (by simp))))
  have HB := Lib.hid (HB.out.trans (hbn.mono HB.out.size))
  clear hbn
  go_wp2_with fail
  refine H1.out.mono ?_
  rintro e w9 ⟨rfl, hP, ho⟩
  have HB := Lib.hid (HB.out.trans (ho.below HB.out.size (fun k hk => Nat.le_of_eq hk.symm)))
  rw [wk_lay]
  clear hP ho
  go_wp2_with fail
  go_ret
  exact ⟨rfl, HB.out⟩
end Go.Proofs.Ytcmaehilgeonjaa
