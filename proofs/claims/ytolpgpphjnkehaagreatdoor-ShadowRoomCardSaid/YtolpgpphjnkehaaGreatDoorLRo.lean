/- The law, walked. -/
import Derived.Test.YtolpgpphjnkehaaGreatDoorLRm
/- ShadowRoom. -/
namespace Go.Proofs.YtolpgpphjnkehaaGreatDoor
set_option maxRecDepth 20000
open Go.RowKit Cac Dsk
open Pag.Pgs (none_)
/-- Between the rounds. -/
def RmI (w : World) (n wp sp : Nat) (Z : Array Value) (i q : Nat) (wr : World) : Prop :=
  ∃ S a v D Lc now last, Rm w wr n wp sp q (4 + 1100 * i) (1 + i) Z S a v D Lc now last ∧ Told S v
/-- Behind a write. -/
def RmJ (w : World) (n wp sp : Nat) (Z : Array Value) (i q : Nat) (wr : World) : Prop :=
  ∃ S a v D Lc now last, Rm w wr n wp sp q (5 + 1100 * i) (1 + i) Z S a v D Lc now last ∧ Told S v
set_option maxHeartbeats 4000000 in
theorem room_any (k a b c : Nat) (w : World) (hk : k < 256) (ha : a < 65536) (hb : b < 65536) (hc : c < 256) (hT : Blo.Tab w) : Calls Tryz.prog 7 #[.int .u8 (k : Int), .int .u16 (a : Int), .int .u16 (b : Int), .int .u8 (c : Int)] w fun e w' => e = .returned (.bool true) ∧ Below w.heap.size w w' := by
  obtain ⟨n, hn⟩ : ∃ n, 16 + k % 125 = n := ⟨_, rfl⟩
  have hn2 : 16 ≤ n ∧ n ≤ 140 := by omega
  have H1 := Lib.hid (start_any w hT n 9 (by omega) (by decide))
  have hr1 : (k : Int).tmod 125 = ((k % 125 : Nat) : Int) := by rw [Int.tmod_eq_emod_of_nonneg (by omega)]; omega
  have hr2 : (16 : Int) + (((k % 125 : Nat)) : Int) = (n : Int) := by omega
  have hr3 : (16 : Int) + (k : Int) % 125 = (n : Int) := by omega
  obtain ⟨s, hs⟩ : ∃ s, 1 + b % 40 = s := ⟨_, rfl⟩
  have hs2 : 1 ≤ s ∧ s ≤ 40 := by omega
  have hb1 : (b : Int).tmod 40 = ((b % 40 : Nat) : Int) := by rw [Int.tmod_eq_emod_of_nonneg (by omega)]; omega
  have hb2 : (1 : Int) + (((b % 40 : Nat)) : Int) = (s : Int) := by omega
  have hb3 : (1 : Int) + (b : Int) % 40 = (s : Int) := by omega
  obtain ⟨m, hm⟩ : ∃ m, 1 + c % 20 = m := ⟨_, rfl⟩
  have hm2 : 1 ≤ m ∧ m ≤ 20 := by omega
  have hc1 : (c : Int).tmod 20 = ((c % 20 : Nat) : Int) := by rw [Int.tmod_eq_emod_of_nonneg (by omega)]; omega
  have hc2 : (1 : Int) + (((c % 20 : Nat)) : Int) = (m : Int) := by omega
  have hc3 : (1 : Int) + (c : Int) % 20 = (m : Int) := by omega
  have hm3 : ((m : Int) == 0) = false := by simp; omega
  have hm4 : (m : Int) ≠ 0 := by omega
  have hmk := run_seen
  have HT := Lib.hid hT
  clear hT hn hs hm
  go_enter Tryz.func7, Tryz.ntmps7
  go_wp2_with fail
  refine H1.out.mono ?_
  rintro e w1 ⟨wp, ad, rfl, k1, k2, k3⟩
  obtain ⟨sp, hsp⟩ : ∃ sp, ad.sp = sp := ⟨_, rfl⟩
  have hZ1 := (wrow_two (some ⟨ad.dg, 0, none⟩) (some ⟨ad.sp, 0, none⟩)).2
  obtain ⟨Z, hZ⟩ : ∃ Z, wrow (some ⟨ad.dg, 0, none⟩) (some ⟨ad.sp, 0, none⟩) = Z := ⟨_, rfl⟩
  rw [hZ] at k1 hZ1
  rw [hsp] at hZ1
  have HZ1 := Lib.hid hZ1
  obtain ⟨w2, hw2⟩ : ∃ w2, w1.alloc (.cells (rowb seen0) 4) = w2 := ⟨_, rfl⟩
  obtain ⟨q0, hq0⟩ : ∃ q0, w1.heap.size = q0 := ⟨_, rfl⟩
  have hmk1 := run_seen w1
  have HI0 : Hid (RmI w n wp sp Z 0 q0 w2) := Lib.hid (by
    have hal : Below w1.heap.size w1 w2 := by rw [← hw2]; exact (Below.refl _ _).alloc (Nat.le_refl _) _
    have hsz : w2.heap.size = w1.heap.size + 1 := by rw [← hw2]; exact World.size_alloc _ _
    refine ⟨seen0, ad, _, _, _, _, _, ⟨k3.more hal _ (fun k e => e.elim .inl fun e => .inr (by omega)), hsp, k1.below hal k1.lt, by rw [← hw2, ← hq0]; exact Blk.new _ _ _, ⟨by have := k1.lt; omega, by have := k3.spc.bel.size; omega⟩, by unfold seen0; rw [List.length_replicate], Nat.le_refl _⟩, told_new trn_none⟩)
  rw [hw2, hq0] at hmk1
  clear k1 k2 k3 hsp hZ1 hZ H1 hmk
  go_wp2_with fail
  go_loopw [11, 12] (fun sv iv wr => ∃ i q : Nat, i ≤ 200 ∧ sv = .slice (some ⟨q, 0, none⟩) 1024 1024 ∧ iv = .int .i64 (i : Int) ∧ Hid (RmI w n wp sp Z i q wr)) (fun _ iv _ => 200 - (intOf iv).toNat)
  case atStart => exact ⟨0, q0, by omega, rfl, rfl, HI0⟩
  case round =>
    clear HI0 hmk1
    obtain ⟨i, q, hi, rfl, rfl, hI⟩ := hrel
    obtain ⟨S, a2, v, D, Lc, now, last, hW, hS⟩ := hI.out
    have c1 := hW.cell HZ1.out
    by_cases hlt : i < 200
    · have hd : decide ((i : Int) < 200) = true := decide_eq_true (by omega)
      obtain ⟨x, hx⟩ : ∃ x, i * s = x := ⟨_, rfl⟩
      have hx2 : x ≤ 8000 := by rw [← hx]; exact Nat.le_trans (Nat.mul_le_mul (Nat.le_of_lt hlt) hs2.2) (by decide)
      have hx1 : (i : Int) * (s : Int) = (x : Int) := by rw [← hx]; push_cast; rfl
      obtain ⟨p, hp⟩ : ∃ p, (a + x) % 1024 = p := ⟨_, rfl⟩
      have hp2 : p < 1024 := by omega
      have hp1 : ((a : Int) + (x : Int)).tmod 1024 = (p : Int) := by rw [Int.tmod_eq_emod_of_nonneg (by omega)]; omega
      have hp3 : ((a : Int) + (x : Int)) % 1024 = (p : Int) := by omega
      have hi8 : (i : Int) % 256 = (i : Int) := by omega
      obtain ⟨r, hr⟩ : ∃ r, i % m = r := ⟨_, rfl⟩
      have hm1 : (i : Int).tmod (m : Int) = (r : Int) := by rw [Int.tmod_eq_emod_of_nonneg (by omega), ← hr]; push_cast; rfl
      have hm5 : (i : Int) % (m : Int) = (r : Int) := by rw [← hr]; push_cast; rfl
      have HR := hW.sp_.room
      obtain ⟨R, hR⟩ : ∃ R, (freeL n v.P v.L v.O).length - 18 = R := ⟨_, rfl⟩
      rw [hW.asp, hR] at HR
      have hR140 : R ≤ 140 := by
        have h1 := free_le n v.P v.L v.O
        have h2 := avail_le n v.L v.O
        omega
      have HR := Lib.hid HR
      have HW := Lib.hid (And.intro hW (And.intro hS hR))
      clear hI hW hS hx hp hr hR
      go_wp2_with fail
      refine HR.out.mono ?_
      rintro e w3 ⟨rfl, k4, k5⟩
      have hW3 := HW.out.1.next (ep' := 1 + i) k4 rfl k5 HW.out.1.ep_
      have c2 := hW3.cell HZ1.out
      have HWR := Lib.hid (hW3.write (show Told S { v with fr := true } from HW.out.2.1) HT.out (by omega) p i hp2 (by omega))
      clear k4 k5 hW3 HR c1
      go_wp2_with fail
      refine HWR.out.mono ?_
      rintro e w4 ⟨a4, v4, D4, L4, now4, hW4, hc⟩
      have c4 := hW4.cell HZ1.out
      have fr4 := hW4.row.frozen p
      clear HWR c2
      rcases hc with ⟨rfl, g1, g2, g3⟩ | ⟨rfl, g1, g3⟩ | ⟨rfl, g1, g3, g2⟩
      · have x4 : w4.cell? ⟨q, p, none⟩ = some (.bool false) := by rw [hW4.row.cell, rowb_get g1]
        have hR0 : R = 0 := by rw [← HW.out.2.2]; exact g2
        have hRd : decide ((R : Int) > 0) = false := by simp; omega
        have hRe : decide ((0 : Int) < (R : Int)) = false := by simp; omega
        have HJ := Lib.hid (And.intro hW4 g3)
        clear g1 g2 g3 hW4 HW
        by_cases hr0 : r = 0
        · have hz : ((r : Int) == 0) = true := by rw [hr0]; rfl
          have HC := Lib.hid (HJ.out.1.commit HT.out (by omega) (by omega))
          have cB := HJ.out.1.cell HZ1.out
          clear HJ
          go_wp2_with fail
          refine HC.out.mono ?_
          rintro e w6 ⟨rfl, a6, v6, D6, L6, h1, h2⟩
          have hmk6 := run_seen w6
          have HNX : Hid (RmI w n wp sp Z (i + 1) w6.heap.size (w6.alloc (.cells (rowb seen0) 4))) := Lib.hid ⟨_, _, _, _, _, _, _, h1.fresh.mono (by omega) (by omega), told_new h2⟩
          clear h1 h2 HC
          go_wp2_with fail
          go_roundw
          case rel => exact ⟨i + 1, w6.heap.size, by omega, rfl, by go_num, HNX⟩
          case measure => simp [intOf]; omega
        · have hz : ((r : Int) == 0) = false := by simp; omega
          have HNX : Hid (RmI w n wp sp Z (i + 1) q w4) := Lib.hid (by
            obtain ⟨h1, h2⟩ := HJ.out
            exact ⟨_, _, _, _, _, _, _, h1.mono (by omega) (by omega), h2⟩)
          clear HJ
          go_wp2_with fail
          go_roundw
          case rel => exact ⟨i + 1, q, by omega, rfl, by go_num, HNX⟩
          case measure => simp [intOf]; omega
      · have x4 : w4.cell? ⟨q, p, none⟩ = some (.bool true) := by rw [hW4.row.cell, rowb_get g1]
        have HJ := Lib.hid (And.intro (hW4.put p) g3)
        clear g1 g3 hW4 HW
        by_cases hr0 : r = 0
        · have hz : ((r : Int) == 0) = true := by rw [hr0]; rfl
          have HC := Lib.hid (HJ.out.1.commit HT.out (by omega) (by omega))
          have cB := HJ.out.1.cell HZ1.out
          clear HJ
          go_wp2_with fail
          refine HC.out.mono ?_
          rintro e w6 ⟨rfl, a6, v6, D6, L6, h1, h2⟩
          have hmk6 := run_seen w6
          have HNX : Hid (RmI w n wp sp Z (i + 1) w6.heap.size (w6.alloc (.cells (rowb seen0) 4))) := Lib.hid ⟨_, _, _, _, _, _, _, h1.fresh.mono (by omega) (by omega), told_new h2⟩
          clear h1 h2 HC
          go_wp2_with fail
          go_roundw
          case rel => exact ⟨i + 1, w6.heap.size, by omega, rfl, by go_num, HNX⟩
          case measure => simp [intOf]; omega
        · have hz : ((r : Int) == 0) = false := by simp; omega
          have HNX : Hid (RmI w n wp sp Z (i + 1) q (w4.setCell ⟨q, p, none⟩ (.bool true))) := Lib.hid (by
            obtain ⟨h1, h2⟩ := HJ.out
            exact ⟨_, _, _, _, _, _, _, h1.mono (by omega) (by omega), h2⟩)
          clear HJ
          go_wp2_with fail
          go_roundw
          case rel => exact ⟨i + 1, q, by omega, rfl, by go_num, HNX⟩
          case measure => simp [intOf]; omega
      · have x4 : w4.cell? ⟨q, p, none⟩ = some (.bool false) := by rw [hW4.row.cell, rowb_get g1]
        obtain ⟨R2, hR2⟩ : ∃ R2, (freeL n v4.P v4.L v4.O).length - 18 = R2 := ⟨_, rfl⟩
        have hRR : R2 + 1 = R := by have := HW.out.2.2; rw [← hR2]; omega
        have hRs : (R : Int) - 1 = (R2 : Int) := by omega
        have hRd : decide ((R : Int) > 0) = true := by simp; omega
        have hRe : decide ((0 : Int) < (R : Int)) = true := by simp; omega
        have HR4 := hW4.sp_.room
        rw [hW4.asp, hR2] at HR4
        have HR4 := Lib.hid HR4
        have HJ4 := Lib.hid (And.intro hW4 g3)
        clear g1 g2 g3 hW4 HW hR2
        go_wp2_with fail
        refine HR4.out.mono ?_
        rintro e w5 ⟨rfl, k4, k5⟩
        have hW5 := HJ4.out.1.next (ep' := 1 + i) k4 rfl k5 HJ4.out.1.ep_
        have x5 : w5.cell? ⟨q, p, none⟩ = some (.bool false) := (hW5.row.cell p).trans ((HJ4.out.1.row.cell p).symm.trans x4)
        have fr5 := hW5.row.frozen p
        have HJ := Lib.hid (And.intro (hW5.put p) (show Told (S.set p true) { v4 with fr := true } from HJ4.out.2))
        clear k4 k5 hW5 HR4 HJ4 c4 x4 fr4
        by_cases hr0 : r = 0
        · have hz : ((r : Int) == 0) = true := by rw [hr0]; rfl
          have HC := Lib.hid (HJ.out.1.commit HT.out (by omega) (by omega))
          have cB := HJ.out.1.cell HZ1.out
          clear HJ
          go_wp2_with fail
          refine HC.out.mono ?_
          rintro e w6 ⟨rfl, a6, v6, D6, L6, h1, h2⟩
          have hmk6 := run_seen w6
          have HNX : Hid (RmI w n wp sp Z (i + 1) w6.heap.size (w6.alloc (.cells (rowb seen0) 4))) := Lib.hid ⟨_, _, _, _, _, _, _, h1.fresh.mono (by omega) (by omega), told_new h2⟩
          clear h1 h2 HC
          go_wp2_with fail
          go_roundw
          case rel => exact ⟨i + 1, w6.heap.size, by omega, rfl, by go_num, HNX⟩
          case measure => simp [intOf]; omega
        · have hz : ((r : Int) == 0) = false := by simp; omega
          have HNX : Hid (RmI w n wp sp Z (i + 1) q (w5.setCell ⟨q, p, none⟩ (.bool true))) := Lib.hid (by
            obtain ⟨h1, h2⟩ := HJ.out
            exact ⟨_, _, _, _, _, _, _, h1.mono (by omega) (by omega), h2⟩)
          clear HJ
          go_wp2_with fail
          go_roundw
          case rel => exact ⟨i + 1, q, by omega, rfl, by go_num, HNX⟩
          case measure => simp [intOf]; omega
    · obtain rfl : i = 200 := by omega
      have HWK := Lib.hid (works_any wr (tab_at HT.out hW.sp_.spc.bel))
      have HB := Lib.hid hW.sp_.spc.bel
      clear hI hW hS hlt
      go_wp2_with fail
      refine HWK.out.mono ?_
      rintro e w12 ⟨rfl, r1⟩
      go_wp2_with fail
      go_ret
      exact ⟨rfl, HB.out.trans (r1.mono HB.out.size)⟩
end Go.Proofs.YtolpgpphjnkehaaGreatDoor
