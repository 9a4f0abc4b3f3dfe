/- OctetGrows: a field that says one more differs from the first byte on that is not full. -/
import Derived.Test.YtabledlkpmlcbaaG
import Derived.LoopTactic
namespace Go.Proofs.Ytabledlkpmlcbaa
open Go.RowKit

/-- Are the first k bytes of a number full? -/
def full (x k : Nat) : Bool := decide (x % 256 ^ k = 256 ^ k - 1)
theorem full_zero (x : Nat) : full x 0 = true := by simp [full, Nat.mod_one]
theorem pow_pos256 (k : Nat) : 0 < 256 ^ k := Nat.pow_pos (by decide)
theorem full_succ (x k : Nat) : full x (k + 1) = (full x k && decide (x / 256 ^ k % 256 = 255)) := by
  have hP := pow_pos256 k
  have e : x % 256 ^ (k + 1) = x % 256 ^ k + 256 ^ k * (x / 256 ^ k % 256) := by rw [Nat.pow_succ]; exact Nat.mod_mul
  unfold full
  rw [e, Nat.pow_succ]
  generalize 256 ^ k = P at *
  have hr : x % P < P := Nat.mod_lt _ hP
  have hm : x / P % 256 < 256 := Nat.mod_lt _ (by decide)
  generalize x % P = r at *
  generalize x / P % 256 = m at *
  rw [← Bool.decide_and, decide_eq_decide]
  constructor
  · intro h
    have : m = 255 := by
      rcases Nat.lt_or_ge m 255 with hlt | hge
      · have : P * m ≤ P * 254 := Nat.mul_le_mul_left _ (by omega)
        omega
      · omega
    subst this
    omega
  · rintro ⟨h1, h2⟩
    subst h2
    omega
theorem next_byte (x k : Nat) (hk : k < 8) : (x + 1) % 18446744073709551616 / 256 ^ k % 256 = if full x k then (x / 256 ^ k % 256 + 1) % 256 else x / 256 ^ k % 256 := by
  have hP := pow_pos256 k
  have hd : 256 ^ k * 256 ∣ 18446744073709551616 := by
    rw [← Nat.pow_succ, show (18446744073709551616 : Nat) = 256 ^ 8 by decide]
    exact Nat.pow_dvd_pow 256 (by omega)
  have e : (x + 1) % 18446744073709551616 / 256 ^ k % 256 = (x + 1) / 256 ^ k % 256 := by
    rw [← Nat.mod_mul_right_div_self, Nat.mod_mod_of_dvd _ hd, Nat.mod_mul_right_div_self]
  rw [e]
  have hr : x % 256 ^ k < 256 ^ k := Nat.mod_lt _ hP
  have hx := Nat.div_add_mod x (256 ^ k)
  unfold full
  generalize 256 ^ k = P at *
  by_cases hf : x % P = P - 1
  · have h1 : (x + 1) / P = x / P + 1 := by
      rw [show x + 1 = P * (x / P + 1) by rw [Nat.mul_add]; omega]
      exact Nat.mul_div_cancel_left _ hP
    simp [hf, h1]
  · have h1 : (x + 1) / P = x / P := by
      refine Nat.div_eq_of_lt_le ?_ ?_
      · rw [Nat.mul_comm]; omega
      · rw [Nat.add_mul, Nat.mul_comm]; omega
    simp [hf, h1]

theorem lePut_byte (x n k : Nat) (hk : k < n) : ∃ c : UInt8, (lePut x n)[k]? = some c ∧ c.toNat = x / 256 ^ k % 256 := by
  refine ⟨_, lePut_get x n k hk, ?_⟩
  rw [UInt8.toNat_ofNat', Nat.pow_mul]

set_option maxHeartbeats 1000000 in
theorem grows_any (x s n : Nat) (w : World) (hs : s < 256) (hn : n = [1, 2, 4, 8].getD (s % 4) 0) (hn' : n = 1 ∨ n = 2 ∨ n = 4 ∨ n = 8) :
    Calls Try.prog 7 #[.int .u64 x, .int .u8 s] w fun e W' => e = .returned (.bool true) ∧ Below w.heap.size w W' := by
  have hsz : sizeB n = true := (sizeB_iff n).2 hn'
  obtain ⟨w0, hw0⟩ : ∃ w0, w.alloc (.cells #[.int .i64 1, .int .i64 2, .int .i64 4, .int .i64 8] 3) = w0 := ⟨_, rfl⟩
  have hB0 : Below w.heap.size w w0 := by rw [← hw0]; exact (Below.refl _ w).alloc (Nat.le_refl _) _
  have hs0 : w.heap.size < w0.heap.size := by rw [← hw0]; simp
  have hc : w0.cell? ⟨w.heap.size, s % 4, none⟩ = some (.int .i64 (n : Int)) := by
    rw [← hw0, (Blk.new w 3 #[.int .i64 1, .int .i64 2, .int .i64 4, .int .i64 8]).cell, hn]
    have h4 : s % 4 < 4 := Nat.mod_lt _ (by decide)
    rcases (by omega : s % 4 = 0 ∨ s % 4 = 1 ∨ s % 4 = 2 ∨ s % 4 = 3) with h | h | h | h <;> rw [h] <;> rfl
  have hn8 : n ≤ 8 := by omega
  clear hn hn'
  have p1 := put_okL none 0 0 n x [] w0 rfl hsz (by decide) (Bytes.nil _ _)
  rw [Nat.zero_add, List.nil_append] at p1
  have P1 := Lib.hid p1
  have HB0 := Lib.hid hB0
  clear p1 hB0
  go_enter Try.func7, Try.ntmps7
  go_wp2_with fail
  refine P1.out.mono ?_
  rintro e W1 ⟨rfl, hR1, hB1⟩
  have hB01 : Below w.heap.size w W1 := HB0.out.trans (hB1.mono (by omega))
  have hlt1 : w0.heap.size + 2 < W1.heap.size := hR1.lt
  have hy : (x + 1) % 18446744073709551616 < 18446744073709551616 := Nat.mod_lt _ (by decide)
  have p2 := put_okL none 0 0 n ((x + 1) % 18446744073709551616) [] W1 rfl hsz (by decide) (Bytes.nil _ _)
  rw [Nat.zero_add, List.nil_append] at p2
  have P2 := Lib.hid p2
  have HR1 := Lib.hid hR1
  have HB01 := Lib.hid hB01
  clear p2 hR1 hB1 hB01 P1 hc hw0 hy HB0
  go_wp2_with fail
  refine P2.out.mono ?_
  rintro e W2 ⟨rfl, hR2, hB2⟩
  have hB02 : Below w.heap.size w W2 := HB01.out.trans (hB2.mono (by omega))
  have hlt2 : W1.heap.size + 2 < W2.heap.size := hR2.lt
  have hR12 : Blk W2 (w0.heap.size + 2) 5 (row8 (lePut x n)) := HR1.out.below hB2 (by omega)
  have HB02 := Lib.hid hB02
  have HR12 := Lib.hid hR12
  have HR2 := Lib.hid hR2
  clear hB02 hR12 hR2 hB2 P2 HR1 HB01
  go_wp2
  go_loop [8, 9] (fun c i => ∃ k : Nat, k ≤ n ∧ i = .int .i64 k ∧ c = .bool (full x k)) (fun _ i => n - (intOf i).toNat)
  case atStart => exact ⟨0, Nat.zero_le _, rfl, by rw [full_zero]⟩
  case round =>
    obtain ⟨k, hk, rfl, hcv⟩ := hrel
    by_cases hlt : k < n
    · obtain ⟨ca, h1, h2⟩ := lePut_byte x n k hlt
      obtain ⟨cb, h3, h4⟩ := lePut_byte ((x + 1) % 18446744073709551616) n k hlt
      have ga : W2.cell? ⟨w0.heap.size + 2, k, none⟩ = some (.int .u8 (ca.toNat : Int)) := by rw [HR12.out.cell, row8_get k ca h1]; rfl
      have gb : W2.cell? ⟨W1.heap.size + 2, k, none⟩ = some (.int .u8 (cb.toNat : Int)) := by rw [HR2.out.cell, row8_get k cb h3]; rfl
      have h5 := next_byte x k (by omega)
      have h6 := full_succ x k
      rw [← h4, ← h2] at h5
      rw [← h2] at h6
      have hca : ca.toNat < 256 := ca.toNat_lt
      clear h1 h2 h3 h4
      generalize ca.toNat = va at *
      generalize cb.toNat = vb at *
      by_cases hf : full x k = true
      · rw [hf] at h5 h6 hcv
        subst hcv
        simp only [if_true, Bool.true_and] at h5 h6
        have ht : ((vb : Int) != ((va : Int) + 1) % 256) = false := by rw [bne_eq_false_iff_eq]; omega
        have H6 := Lib.hid h6
        clear h5 h6 hf
        go_wp2
        go_round
        case rel => exact ⟨k + 1, by omega, by go_num, by rw [H6.out]; congr 1; rw [Bool.eq_iff_iff]; simp; omega⟩
        case measure => simp [intOf]; omega
      · have hf' : full x k = false := by simpa using hf
        rw [hf'] at h5 h6 hcv
        subst hcv
        simp only [Bool.false_eq_true, if_false, Bool.false_and] at h5 h6
        have ht : ((vb : Int) != (va : Int)) = false := by rw [bne_eq_false_iff_eq]; omega
        have H6 := Lib.hid h6
        clear h5 h6 hf hf'
        go_wp2
        go_round
        case rel => exact ⟨k + 1, by omega, by go_num, by rw [H6.out]⟩
        case measure => simp [intOf]; omega
    · obtain rfl : k = n := by omega
      subst hcv
      go_wp2_with (go_at_call 8; refine (works_any _).mono ?_; rintro e w' ⟨rfl, hB⟩)
      go_ret
      exact ⟨rfl, HB02.out.trans (hB.mono (by omega))⟩

end Go.Proofs.Ytabledlkpmlcbaa
