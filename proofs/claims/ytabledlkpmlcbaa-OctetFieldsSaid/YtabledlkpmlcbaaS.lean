/- spread and held. -/
import Derived.Test.YtabledlkpmlcbaaK
import Derived.Deep.QuietTactic
import Derived.BigQuiet
namespace Go.Proofs.Ytabledlkpmlcbaa
open Go.RowKit

/-- Bytes at the front of 16 more that are all alike. -/
def spreadB (bs : List UInt8) (t : UInt8) : List UInt8 := bs ++ List.replicate 16 t
theorem spreadB_length (bs : List UInt8) (t : UInt8) : (spreadB bs t).length = bs.length + 16 := by simp [spreadB]
/-- .. of which the first k are laid. -/
def spreadP (bs : List UInt8) (t : UInt8) (k : Nat) : Array Value := row8 ((spreadB bs t).take k ++ List.replicate (bs.length + 16 - k) 0)
theorem spreadP_zero (bs : List UInt8) (t : UInt8) : spreadP bs t 0 = mk8 (bs.length + 16) := by
  unfold spreadP row8
  rw [mk8_eq]
  simp
theorem spreadP_size (bs : List UInt8) (t : UInt8) (k : Nat) (hk : k ≤ bs.length + 16) : (spreadP bs t k).size = bs.length + 16 := by simp [spreadP, row8, spreadB]; omega
theorem spreadP_set (bs : List UInt8) (t c : UInt8) (k : Nat) (hk : k < bs.length + 16) (hc : (spreadB bs t)[k]? = some c) : (spreadP bs t k).setIfInBounds k (bv c) = spreadP bs t (k + 1) := by
  have hkl : k < (spreadB bs t).length := by rw [spreadB_length]; exact hk
  rw [List.getElem?_eq_getElem hkl] at hc
  have hce : (spreadB bs t)[k] = c := by simpa using hc
  unfold spreadP row8
  rw [List.setIfInBounds_toArray, ← List.map_set]
  congr 2
  rw [show bs.length + 16 - k = (bs.length + 16 - (k + 1)) + 1 by omega, List.replicate_succ, List.set_append_right _ _ (by simp; omega)]
  simp only [List.length_take, Nat.min_eq_left (Nat.le_of_lt hkl), Nat.sub_self, List.set_cons_zero]
  rw [List.take_succ_eq_append_getElem hkl, List.append_assoc, hce]
  rfl

set_option maxHeartbeats 400000 in
theorem spread_any (A : Option Addr) (len cap t : Nat) (bs : List UInt8) (w : World) (hbl : bs.length = len) (hl : len ≤ 1048576) (ht : t < 256) (hA : Bytes w A bs) :
    Calls Try.prog 9 #[.slice A len cap, .int .u8 t] w fun e w' => e = .returned (.slice (some ⟨w.heap.size, 0, none⟩) len (len + 16)) ∧ Blk w' w.heap.size 5 (row8 (spreadB bs (UInt8.ofNat t))) ∧ Below w.heap.size w w' := by
  have hT : (UInt8.ofNat t).toNat = t := by
    have : (UInt8.ofNat t).toNat = t % 256 := UInt8.toNat_ofNat'
    rw [this]; omega
  obtain ⟨T, hTe⟩ : ∃ T, UInt8.ofNat t = T := ⟨_, rfl⟩
  rw [hTe] at hT ⊢
  obtain ⟨N, hN⟩ : ∃ N, len + 16 = N := ⟨_, rfl⟩
  have hmk := run_mk8 N (by omega)
  have hNi : (len : Int) + 16 = (N : Int) := by omega
  have HA := Lib.hid hA
  have HBL := Lib.hid hbl
  have HN : Hid (bs.length + 16 = N) := Lib.hid (by omega)
  rw [hN]
  clear hA hbl hTe
  go_enter Try.func9, Try.ntmps9
  go_wp2
  go_loopw [6] (fun i wr => ∃ k : Nat, k ≤ N ∧ i = .int .i64 k ∧ Blk wr w.heap.size 5 (spreadP bs T k) ∧ Below w.heap.size w wr) (fun i _ => N - (intOf i).toNat)
  case atStart => exact ⟨0, Nat.zero_le _, rfl, by rw [spreadP_zero, HN.out]; exact Blk.new w _ _, (Below.refl _ w).alloc (Nat.le_refl _) _⟩
  case round =>
    obtain ⟨k, hk, rfl, hblk, hbw⟩ := hrel
    by_cases hlt : k < N
    · have hsz : k < (spreadP bs T k).size := by rw [spreadP_size bs T k (by rw [HN.out]; exact hk), HN.out]; exact hlt
      obtain ⟨u, hu⟩ : ∃ u, wr.cell? ⟨w.heap.size, k, none⟩ = some u := ⟨_, (hblk.cell k).trans (Array.getElem?_eq_getElem hsz)⟩
      have hf := hblk.frozen k
      have hkn : (k : Int) < (N : Int) := by omega
      by_cases hkl : k < len
      · have hkb : k < bs.length := by rw [HBL.out]; exact hkl
        obtain ⟨b, off, rfl, hblt, hc⟩ := (HA.out).at_ hkb
        have hc1 := hc _ _ (List.getElem?_eq_getElem hkb)
        have hc2 := (hbw.cell (p := ⟨b, off + k, none⟩) hblt).trans hc1
        have hne : b ≠ w.heap.size := by omega
        have hsp : (spreadB bs T)[k]? = some bs[k] := by unfold spreadB; rw [List.getElem?_append_left hkb]; exact List.getElem?_eq_getElem hkb
        have hstep := spreadP_set bs T bs[k] k (by rw [HN.out]; exact hlt) hsp
        obtain ⟨c, hce⟩ : ∃ c, bs[k] = c := ⟨_, rfl⟩
        rw [hce] at hc2 hstep
        have hb1 := hblk.set_ k (bv T)
        have hb2 := hb1.set_ k (bv c)
        have hq : ((spreadP bs T k).setIfInBounds k (bv T)).setIfInBounds k (bv c) = spreadP bs T (k + 1) := by rw [← hstep]; simp
        rw [hq] at hb2
        have hbw1 := hbw.setCell (p := ⟨w.heap.size, k, none⟩) (Nat.le_refl _) (bv T)
        have hbw2 := hbw1.setCell (p := ⟨w.heap.size, k, none⟩) (Nat.le_refl _) (bv c)
        have hcc := (hbw1.cell (p := ⟨b, off + k, none⟩) hblt).trans hc1
        rw [hce] at hcc
        simp only [bv] at hb2 hbw2 hcc
        rw [hT] at hb2 hbw2 hcc
        obtain ⟨w5, hw5⟩ : ∃ w5, wr.setCell ⟨w.heap.size, k, none⟩ (.int .u8 (t : Int)) = w5 := ⟨_, rfl⟩
        have hb5 : Blk w5 w.heap.size 5 ((spreadP bs T k).setIfInBounds k (bv T)) := by rw [← hw5, ← hT]; exact hb1
        rw [hw5] at hb2 hbw2 hcc
        have hcu : w5.cell? ⟨w.heap.size, k, none⟩ = some (bv T) := (hb5.cell k).trans (by simp [hsz])
        have hfu := hb5.frozen k
        have hkli : (k : Int) < (len : Int) := by omega
        have HB2 := Lib.hid hb2
        have HBW2 := Lib.hid hbw2
        clear hc hc1 hsp hstep hsz hce hb1 hb2 hq hbw1 hbw2 hblk hbw hb5
        go_wp2
        go_roundw
        case rel => exact ⟨k + 1, by omega, by go_num, HB2.out, HBW2.out⟩
        case measure => simp [intOf]; omega
      · have hsp : (spreadB bs T)[k]? = some T := by
          unfold spreadB
          rw [List.getElem?_append_right (by rw [HBL.out]; omega), List.getElem?_replicate, if_pos (by rw [HBL.out]; omega)]
        have hstep := spreadP_set bs T T k (by rw [HN.out]; exact hlt) hsp
        have hb2 := hblk.set_ k (bv T)
        rw [hstep] at hb2
        have hbw2 := hbw.setCell (p := ⟨w.heap.size, k, none⟩) (Nat.le_refl _) (bv T)
        simp only [bv] at hb2 hbw2
        rw [hT] at hb2 hbw2
        have hkli : ¬ ((k : Int) < (len : Int)) := by omega
        have HB2 := Lib.hid hb2
        have HBW2 := Lib.hid hbw2
        clear hsp hstep hsz hb2 hbw2 hblk hbw
        go_wp2
        go_roundw
        case rel => exact ⟨k + 1, by omega, by go_num, HB2.out, HBW2.out⟩
        case measure => simp [intOf]; omega
    · obtain rfl : k = N := by omega
      have hfin : spreadP bs T k = row8 (spreadB bs T) := by
        unfold spreadP
        rw [List.take_of_length_le (by rw [spreadB_length, HN.out]; exact Nat.le_refl _), HN.out, Nat.sub_self]
        simp
      rw [hfin] at hblk
      have HB3 := Lib.hid hblk
      have HBW3 := Lib.hid hbw
      have hkm : ¬ ((k : Int) < (k : Int)) := by omega
      have hlk : len ≤ k := by omega
      clear hblk hbw hfin
      go_wp2
      go_ret
      exact ⟨rfl, HB3.out, HBW3.out⟩

end Go.Proofs.Ytabledlkpmlcbaa
