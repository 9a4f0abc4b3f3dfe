/- Bits turned wherever; a burst leaves no block. -/
import Derived.Test.YtlgoacpmacomnaaDoorLengths
namespace Go.Proofs.YtlgoacpmacomnaaDoor
open Go.RowKit Crc

theorem bitTurned_out (bs : List UInt8) (p : Nat) (h : 8 * bs.length ≤ p) : bitTurned bs p = bs := by
  unfold bitTurned turned
  exact List.modify_eq_self (by omega)

theorem burst_out (bs : List UInt8) (p m i : Nat) (h : 8 * bs.length ≤ p + i) : ∀ j, burst bs p m (i + j) = burst bs p m i
  | 0 => rfl
  | j + 1 => by
    have ih := burst_out bs p m i h j
    show (if m / 2 ^ (i + j) % 2 = 1 then bitTurned (burst bs p m (i + j)) (p + (i + j)) else burst bs p m (i + j)) = _
    rw [bitTurned_out _ _ (by rw [burst_length]; omega), ite_self]
    exact ih

theorem burst_zero (bs : List UInt8) (p m : Nat) : ∀ i, m % 2 ^ i = 0 → burst bs p m i = bs
  | 0, _ => rfl
  | i + 1, h => by
    rw [mod_succ_pow] at h
    have h1 : m % 2 ^ i = 0 := by omega
    have h2 : m / 2 ^ i % 2 = 0 := by
      have hp := Nat.two_pow_pos i
      rcases Nat.eq_zero_or_pos (m / 2 ^ i % 2) with e | e
      · exact e
      · have := Nat.mul_pos hp e
        omega
    unfold burst
    rw [if_neg (by omega)]
    exact burst_zero bs p m i h1

theorem lePut_four (x : Nat) : lePut x 4 = le4 x := by
  unfold le4
  simp [lePut, Nat.div_div_eq_div_mul]

theorem blockOf_sum (k : Nat) (body : List UInt8) : sumFrom 0 (blockOf k body) = 558161692 := by
  have := sum_sealed (base k body)
  unfold sealed at this
  rw [← lePut_four] at this
  exact this

/-- What a burst turned, and is a block yet, was not turned. -/
theorem burst_blk {bs : List UInt8} {k k' p m : Nat} {b b' : List UInt8} (h : IsBlk bs k b) (hp : p < 2048) (h' : IsBlk (burst bs p m 32) k' b') : burst bs p m 32 = bs := by
  have hl : bs.length = 256 := by rw [h.2.2.2]; exact blockOf_length k b h.2.2.1
  have hs : sumFrom 0 (burst bs p m 32) = sumFrom 0 bs := by
    rw [h'.2.2.2, blockOf_sum, h.2.2.2, blockOf_sum]
  obtain ⟨i, j, hi, hij, hor⟩ : ∃ i j, p + i ≤ 2048 ∧ i + j = 32 ∧ (j = 0 ∨ 2048 ≤ p + i) := by
    by_cases hc : p + 32 ≤ 2048
    · exact ⟨32, 0, hc, rfl, .inl rfl⟩
    · exact ⟨2048 - p, 32 - (2048 - p), by omega, by omega, .inr (by omega)⟩
  have hb : burst bs p m 32 = burst bs p m i := by
    rw [← hij]
    rcases hor with e | e
    · rw [e]; rfl
    · exact burst_out bs p m i (by omega) j
  rw [hb] at hs ⊢
  have hF := F_burst (0 ^^^ ones) bs p m i (by omega)
  have hz := (sum_eq_iff bs (burst bs p m i) hF).1 hs
  have hi32 : i ≤ 32 := by omega
  have hlt : m % 2 ^ i < 2 ^ 32 := Nat.lt_of_lt_of_le (Nat.mod_lt _ (Nat.two_pow_pos i)) (Nat.pow_le_pow_right (by decide) hi32)
  exact burst_zero bs p m i (Ln_inj _ hlt hz)

set_option maxHeartbeats 400000 in
theorem turn_all (A : Option Addr) (len cap p : Nat) (bs : List UInt8) (w : World) (hlen : bs.length = len) (hA : Bytes w A bs) (hl : len ≤ 70368744177664) :
    Calls Tryd.prog 33 #[.slice A len cap, .int .i64 p] w fun e w' => ∃ v, e = .returned v ∧ w'.ownsRow w.heap.size 5 1 v len ((bitTurned bs p).map bv) ∧ Below w.heap.size w w' := by
  by_cases hp : p < 8 * len
  · exact turn_anyL A len cap p bs w hlen hA hl hp
  · rw [bitTurned_out bs p (by omega)]
    have hb0 : Below w.heap.size w (w.alloc (.cells #[] 5)) := (Below.refl _ w).alloc (Nat.le_refl _) _
    obtain ⟨v1, w1, hrun1, hown1, hgr1⟩ := run_app8 (w.alloc (.cells #[] 5)) w.heap.size _ 0 [] (own_new w w.heap.size (Nat.le_refl _)) A len cap bs hlen (hA.below hb0) (by omega) (by simp)
    rw [List.nil_append, Nat.zero_add] at hown1
    have hb1 : Below w.heap.size w w1 := hb0.grown hgr1 (by simp) (fun k e => by simp [Value.ownBlock] at e; omega)
    obtain ⟨A1, c1, rfl⟩ := own_shape hown1
    have hd : decide ((p : Int) < 8 * (len : Int)) = false := by simp; omega
    have HRUN1 := Lib.hid hrun1
    have HB := Lib.hid hb1
    have HO := Lib.hid hown1
    clear hrun1 hA hgr1 hb0 hb1 hown1
    go_enter Tryd.func33, Tryd.ntmps33
    go_wp2_with (first
      | (at_builtin; refine wpList_app rfl _ _ 22 rfl _ _ _ _ rfl rfl HRUN1.out ?_; clear HRUN1))
    go_ret
    exact ⟨_, rfl, HO.out, HB.out⟩

set_option maxHeartbeats 400000 in
theorem burst_all (A : Option Addr) (len cap p m : Nat) (bs : List UInt8) (w : World) (hlen : bs.length = len) (hA : Bytes w A bs) (hl : len ≤ 70368744177664) (hm : m < 4294967296) (hp : p < 4611686018427387000) :
    Calls Tryd.prog 18 #[.slice A len cap, .int .i64 p, .int .u32 m] w fun e w' => ∃ v, e = .returned v ∧ w'.ownsRow w.heap.size 5 1 v len ((burst bs p m 32).map bv) ∧ Below w.heap.size w w' := by
  obtain ⟨B, hB⟩ : ∃ B, w.heap.size = B := ⟨_, rfl⟩
  rw [hB]
  have HA := Lib.hid hA
  have HLEN := Lib.hid hlen
  have HB := Lib.hid hB
  clear hA hlen hB
  go_enter Tryd.func18, Tryd.ntmps18
  go_wp2
  go_loopw [0, 7] (fun b i wr => ∃ k : Nat, k ≤ 32 ∧ i = .int .i64 k ∧ ∃ C cp, b = .slice C len cp ∧ Bytes wr C (burst bs p m k) ∧ Below B w wr ∧ B ≤ wr.heap.size) (fun _ i _ => 32 - (intOf i).toNat)
  case atStart => exact ⟨0, by omega, rfl, A, cap, rfl, HA.out, Below.refl _ _, Nat.le_of_eq HB.out.symm⟩
  case round =>
    obtain ⟨k, hk, rfl, C, cp, rfl, hC, hbl, hsz⟩ := hrel
    have HC := Lib.hid hC
    have HBL := Lib.hid hbl
    clear hC hbl
    by_cases hlt : k < 32
    · have hmask := and1 m k hm
      have hlen' : (burst bs p m k).length = len := by rw [burst_length]; exact HLEN.out
      have hstep : burst bs p m (k + 1) = if m / 2 ^ k % 2 = 1 then bitTurned (burst bs p m k) (p + k) else burst bs p m k := rfl
      by_cases ht : m / 2 ^ k % 2 = 1
      · rw [ht] at hmask
        rw [if_pos ht] at hstep
        have hturn := turn_all C len cp (p + k) _ wr hlen' HC.out hl
        rw [← hstep] at hturn
        have HTURN := Lib.hid hturn
        clear ht hstep hlen' hturn HC
        go_wp2_with (go_at_call 33; refine HTURN.out.mono ?_; rintro e w1 ⟨v, rfl, hown, hb1⟩; obtain ⟨A1, c1, rfl⟩ := own_shape hown; have HBY := Lib.hid (Bytes.of_own hown); have HB1 := Lib.hid ((HBL.out).trans (hb1.mono hsz)); clear hown hb1 HTURN)
        have hsz1 := HB1.out.size
        have hw : B ≤ w1.heap.size := by have := HB.out; omega
        clear hsz1
        go_roundw
        case rel => exact ⟨k + 1, by omega, by go_num, _, _, rfl, HBY.out, HB1.out, hw⟩
        case measure => simp [intOf]; omega
      · rw [if_neg ht] at hstep
        obtain ht0 : m / 2 ^ k % 2 = 0 := by omega
        rw [ht0] at hmask
        rw [← hstep] at HC
        clear ht ht0 hstep hlen'
        go_wp2
        go_roundw
        case rel => exact ⟨k + 1, by omega, by go_num, _, _, rfl, HC.out, HBL.out, hsz⟩
        case measure => simp [intOf]; omega
    · obtain rfl : k = 32 := by omega
      have hb0 : Below B w (wr.alloc (.cells #[] 5)) := HBL.out.alloc hsz _
      obtain ⟨v1, w1, hrun1, hown1, hgr1⟩ := run_app8 (wr.alloc (.cells #[] 5)) B _ 0 [] (own_new wr B hsz) C len cp (burst bs p m 32) (by rw [burst_length]; exact HLEN.out) (HC.out.below ((Below.refl _ wr).alloc (Nat.le_refl _) _)) (by omega) (by simp; omega)
      rw [List.nil_append, Nat.zero_add] at hown1
      have hb1 : Below B w w1 := hb0.grown hgr1 (by simp; omega) (fun k e => by simp [Value.ownBlock] at e; omega)
      have HRUN1 := Lib.hid hrun1
      have HB1 := Lib.hid hb1
      have HO := Lib.hid hown1
      clear hb0 hrun1 hown1 hgr1 hb1 HC
      go_wp2_with (first
        | (at_builtin; refine wpList_app rfl _ _ 22 rfl _ _ _ _ rfl rfl HRUN1.out ?_; clear HRUN1))
      go_ret
      exact ⟨v1, rfl, HO.out, HB1.out⟩

end Go.Proofs.YtlgoacpmacomnaaDoor
