/- held. -/
import Derived.Test.YtabledlkpmlcbaaS
import Derived.WalkSmall
namespace Go.Proofs.Ytabledlkpmlcbaa
open Go.RowKit

set_option maxHeartbeats 800000 in
theorem held_any (g : Nat) (A : Option Addr) (len cap t : Nat) (bs : List UInt8) (w : World) (hbl : bs.length = len) (hl : len ≤ 1048576) (ht : t < 256) (hS : Bytes w (some ⟨g, 0, none⟩) (spreadB bs (UInt8.ofNat t))) (hA : Bytes w A bs) :
    Calls Try.prog 18 #[.slice (some ⟨g, 0, none⟩) len (len + 16), .slice A len cap, .int .u8 t] w fun e w' => e = .returned (.bool true) ∧ Below w.heap.size w w' := by
  have hT : (UInt8.ofNat t).toNat = t := by
    have : (UInt8.ofNat t).toNat = t % 256 := UInt8.toNat_ofNat'
    rw [this]; omega
  obtain ⟨T, hTe⟩ : ∃ T, UInt8.ofNat t = T := ⟨_, rfl⟩
  rw [hTe] at hT hS
  obtain ⟨N, hN⟩ : ∃ N, len + 16 = N := ⟨_, rfl⟩
  have hNi : (len : Int) + 16 = (N : Int) := by omega
  have HA := Lib.hid hA
  have HS := Lib.hid hS
  have HBL := Lib.hid hbl
  have HT := Lib.hid hT
  rw [hN]
  clear hA hbl hTe hS hT
  go_enter Try.func18, Try.ntmps18
  go_wp2
  go_loopw [8] (fun i wr => ∃ k : Nat, k ≤ N ∧ i = .int .i64 k ∧ Below w.heap.size w wr) (fun i _ => N - (intOf i).toNat)
  case atStart => exact ⟨0, Nat.zero_le _, rfl, Below.refl _ _⟩
  case round =>
    obtain ⟨k, hk, rfl, hbw⟩ := hrel
    by_cases hlt : k < N
    · have hkn : (k : Int) < (N : Int) := by omega
      by_cases hkl : k < len
      · have hkb : k < bs.length := by rw [HBL.out]; exact hkl
        obtain ⟨b, off, rfl, _, hc⟩ := (HA.out.below hbw).at_ hkb
        have hc1 := hc _ _ (List.getElem?_eq_getElem hkb)
        have hsp : (spreadB bs T)[k]? = some bs[k] := by unfold spreadB; rw [List.getElem?_append_left hkb]; exact List.getElem?_eq_getElem hkb
        obtain ⟨b2, off2, e2, _, hc2⟩ := (HS.out.below hbw).at_ (k := k) (by rw [spreadB_length]; omega)
        cases e2
        have hc3 := hc2 _ _ hsp
        rw [Nat.zero_add] at hc3
        generalize bs[k].toNat = c at *
        have hkli : decide ((k : Int) < (len : Int)) = true := by simp; omega
        have hkli2 : (k : Int) < (len : Int) := by omega
        have hge : decide ((len : Int) ≤ (k : Int)) = false := by simp; omega
        have hge2 : ¬ ((len : Int) ≤ (k : Int)) := by omega
        have hge3 : decide (len ≤ k) = false := by simp; omega
        have hkl3 : decide (k < len) = true := by simp; omega
        have HBW := Lib.hid hbw
        clear hc hc2 hsp hbw
        go_wp2
        go_quiet (fail)
        go_wp2
        go_roundw
        case rel => exact ⟨k + 1, by omega, by go_num, below_drewN HBW.out _⟩
        case measure => simp [intOf]; omega
      · have hsp : (spreadB bs T)[k]? = some T := by
          unfold spreadB
          rw [List.getElem?_append_right (by rw [HBL.out]; omega), List.getElem?_replicate, if_pos (by rw [HBL.out]; omega)]
        obtain ⟨b2, off2, e2, _, hc2⟩ := (HS.out.below hbw).at_ (k := k) (by rw [spreadB_length, HBL.out]; omega)
        cases e2
        have hc3 := hc2 _ _ hsp
        rw [Nat.zero_add, HT.out] at hc3
        have hkli : decide ((k : Int) < (len : Int)) = false := by simp; omega
        have hkli2 : ¬ ((k : Int) < (len : Int)) := by omega
        have hge : decide ((len : Int) ≤ (k : Int)) = true := by simp; omega
        have hge2 : (len : Int) ≤ (k : Int) := by omega
        have hge3 : decide (len ≤ k) = true := by simp; omega
        have hkl3 : decide (k < len) = false := by simp; omega
        have HBW := Lib.hid hbw
        clear hc2 hsp hbw
        go_wp2
        go_quiet (fail)
        go_wp2
        go_roundw
        case rel => exact ⟨k + 1, by omega, by go_num, below_drewN HBW.out _⟩
        case measure => simp [intOf]; omega
    · obtain rfl : k = N := by omega
      have HBW := Lib.hid hbw
      have hkm : ¬ ((k : Int) < (k : Int)) := by omega
      clear hbw
      go_wp2
      go_ret
      exact ⟨rfl, HBW.out⟩

end Go.Proofs.Ytabledlkpmlcbaa
