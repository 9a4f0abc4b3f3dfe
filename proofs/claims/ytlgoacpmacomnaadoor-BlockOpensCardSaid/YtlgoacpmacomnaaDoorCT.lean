/- Burst. -/
import Derived.Test.YtlgoacpmacomnaaDoorCS
namespace Go.Proofs.YtlgoacpmacomnaaDoor
open Go.RowKit Crc

theorem turn_anyL (A : Option Addr) (len cap p : Nat) (bs : List UInt8) (w : World) (hlen : bs.length = len) (hA : Bytes w A bs) (hl : len ≤ 70368744177664) (hp : p < 8 * len) :
    Calls Tryd.prog 33 #[.slice A len cap, .int .i64 p] w fun e w' => ∃ v, e = .returned v ∧ w'.ownsRow w.heap.size 5 1 v len ((bitTurned bs p).map bv) ∧ Below w.heap.size w w' := by subst hlen; exact turn_any A cap p bs w hA hl hp

theorem and1 (m k : Nat) (hm : m < 4294967296) : bits .and .u32 ((m : Int) / 2 ^ k) 1 = ((m / 2 ^ k % 2 : Nat) : Int) := by
  have hlt : m / 2 ^ k < 4294967296 := Nat.lt_of_le_of_lt (Nat.div_le_self _ _) hm
  have h := u32_and_nat (m / 2 ^ k) 1 hlt (by decide)
  have e : ((m : Int) / 2 ^ k) = ((m / 2 ^ k : Nat) : Int) := by push_cast; rfl
  rw [e]
  refine h.trans ?_
  rw [Nat.and_one_is_mod]

set_option maxHeartbeats 400000 in
theorem burst_any (A : Option Addr) (len cap p m : Nat) (bs : List UInt8) (w : World) (hlen : bs.length = len) (hA : Bytes w A bs) (hl : len ≤ 70368744177664) (hm : m < 4294967296) (hp : p + 32 ≤ 8 * len) :
    Calls Tryd.prog 18 #[.slice A len cap, .int .i64 p, .int .u32 m] w fun e w' => ∃ v, e = .returned v ∧ w'.ownsRow w.heap.size 5 1 v len ((burst bs p m 32).map bv) ∧ Below w.heap.size w w' := by
  obtain ⟨B, hB⟩ : ∃ B, w.heap.size = B := ⟨_, rfl⟩
  rw [hB]
  have HA := Lib.hid hA
  have HLEN := Lib.hid hlen
  have HB := Lib.hid hB
  clear hA hlen hB
  go_enter Tryd.func18, Tryd.ntmps18
  go_wp2
  go_loopw [0, 7] (fun b i wr => ∃ k : Nat, k ≤ 32 ∧ i = .int .i64 k ∧ ∃ C cp, b = .slice C len cp ∧ Bytes wr C (burst bs p m k) ∧ Below B w wr ∧ B ≤ wr.heap.size) (fun _ i _ => 32 - (intOf i).toNat)
  case atStart => exact ⟨0, by omega, rfl, A, cap, rfl, HA.out, Below.refl _ _, Nat.le_of_eq HB.out.symm⟩
  case round =>
    obtain ⟨k, hk, rfl, C, cp, rfl, hC, hbl, hsz⟩ := hrel
    have HC := Lib.hid hC
    have HBL := Lib.hid hbl
    clear hC hbl
    by_cases hlt : k < 32
    · have hmask := and1 m k hm
      have hlen' : (burst bs p m k).length = len := by rw [burst_length]; exact HLEN.out
      have hstep : burst bs p m (k + 1) = if m / 2 ^ k % 2 = 1 then bitTurned (burst bs p m k) (p + k) else burst bs p m k := rfl
      by_cases ht : m / 2 ^ k % 2 = 1
      · rw [ht] at hmask
        rw [if_pos ht] at hstep
        have hturn := turn_anyL C len cp (p + k) _ wr hlen' HC.out hl (by omega)
        rw [← hstep] at hturn
        have HTURN := Lib.hid hturn
        clear ht hstep hlen' hturn HC
        go_wp2_with (go_at_call 33; refine HTURN.out.mono ?_; rintro e w1 ⟨v, rfl, hown, hb1⟩; obtain ⟨g, c1, rfl, hg, hglt, hcell, hfz⟩ := own_form hown (by omega); have HBY := Lib.hid (Bytes.of_own hown); have HB1 := Lib.hid ((HBL.out).trans (hb1.mono hsz)); clear hown hcell hfz hb1 HTURN)
        have hsz1 := HB1.out.size
        have hw : B ≤ w1.heap.size := by have := HB.out; omega
        clear hsz1
        go_roundw
        case rel => exact ⟨k + 1, by omega, by go_num, _, _, rfl, HBY.out, HB1.out, hw⟩
        case measure => simp [intOf]; omega
      · rw [if_neg ht] at hstep
        obtain ht0 : m / 2 ^ k % 2 = 0 := by omega
        rw [ht0] at hmask
        rw [← hstep] at HC
        clear ht ht0 hstep hlen'
        go_wp2
        go_roundw
        case rel => exact ⟨k + 1, by omega, by go_num, _, _, rfl, HC.out, HBL.out, hsz⟩
        case measure => simp [intOf]; omega
    · obtain rfl : k = 32 := by omega
      have hb0 : Below B w (wr.alloc (.cells #[] 5)) := HBL.out.alloc hsz _
      obtain ⟨v1, w1, hrun1, hown1, hgr1⟩ := run_app8 (wr.alloc (.cells #[] 5)) B _ 0 [] (own_new wr B hsz) C len cp (burst bs p m 32) (by rw [burst_length]; exact HLEN.out) (HC.out.below ((Below.refl _ wr).alloc (Nat.le_refl _) _)) (by omega) (by simp; omega)
      rw [List.nil_append, Nat.zero_add] at hown1
      have hb1 : Below B w w1 := hb0.grown hgr1 (by simp; omega) (fun k e => by simp [Value.ownBlock] at e; omega)
      have HRUN1 := Lib.hid hrun1
      have HB1 := Lib.hid hb1
      have HO := Lib.hid hown1
      clear hb0 hrun1 hown1 hgr1 hb1 HC
      go_wp2_with (first
        | (at_builtin; refine wpList_app rfl _ _ 22 rfl _ _ _ _ rfl rfl HRUN1.out ?_; clear HRUN1))
      go_ret
      exact ⟨v1, rfl, HO.out, HB1.out⟩

end Go.Proofs.YtlgoacpmacomnaaDoor
