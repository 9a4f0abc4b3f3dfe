/- Plain mathematics of sets of bits: words, how many are in, the lowest that is not. -/
import Derived.Lib.TrailingZeros
import Derived.Laws.Bits64b
namespace Bts

/-! ### How many bits a word has -/

/-- How many of the first n are in. -/
def card (S : Nat → Bool) : Nat → Nat
  | 0 => 0
  | n + 1 => card S n + (S n).toNat

theorem card_le (S : Nat → Bool) : ∀ n, card S n ≤ n
  | 0 => Nat.le_refl _
  | n + 1 => by have := card_le S n; have : (S n).toNat ≤ 1 := by cases S n <;> decide
                simp only [card]; omega
theorem card_add (S : Nat → Bool) (a : Nat) : ∀ b, card S (a + b) = card S a + card (fun k => S (a + k)) b
  | 0 => by simp [card]
  | b + 1 => by rw [← Nat.add_assoc]; simp only [card]; rw [card_add S a b]; omega
theorem card_congr {S T : Nat → Bool} : ∀ n, (∀ k, k < n → S k = T k) → card S n = card T n
  | 0, _ => rfl
  | n + 1, h => by simp only [card]; rw [card_congr n fun k hk => h k (by omega), h n (by omega)]
theorem card_zero {S : Nat → Bool} (n : Nat) (h : ∀ k, k < n → S k = false) : card S n = 0 := by
  induction n with
  | zero => rfl
  | succ n ih => simp only [card]; rw [ih fun k hk => h k (by omega), h n (by omega)]; rfl

/-- A byte's eight bits, counted. -/
def pop8 (c : Nat) : Nat := c % 2 + c / 2 % 2 + c / 4 % 2 + c / 8 % 2 + c / 16 % 2 + c / 32 % 2 + c / 64 % 2 + c / 128 % 2
theorem toNat_testBit (x k : Nat) : (x.testBit k).toNat = x / 2 ^ k % 2 := by
  rw [Nat.testBit_eq_decide_div_mod_eq]
  rcases Nat.mod_two_eq_zero_or_one (x / 2 ^ k) with h | h <;> simp [h]
theorem card_byte (c : Nat) : card c.testBit 8 = pop8 c := by
  simp only [card, toNat_testBit, pop8, Nat.reducePow, Nat.zero_add, Nat.div_one]
theorem card_shift (x : Nat) (j : Nat) : card (fun k => x.testBit (8 * j + k)) 8 = pop8 (x / 2 ^ (8 * j) % 256) := by
  rw [← card_byte]
  refine card_congr 8 fun k hk => ?_
  rw [show (256 : Nat) = 2 ^ 8 by decide, Nat.testBit_mod_two_pow, Nat.testBit_div_two_pow]
  simp [hk, Nat.add_comm]
theorem card_word (x : Nat) : card x.testBit 64 = pop8 (x % 256) + pop8 (x / 256 % 256) + pop8 (x / 65536 % 256) + pop8 (x / 16777216 % 256) + pop8 (x / 4294967296 % 256) + pop8 (x / 1099511627776 % 256) + pop8 (x / 281474976710656 % 256) + pop8 (x / 72057594037927936 % 256) := by
  have h : ∀ j, card x.testBit (8 * (j + 1)) = card x.testBit (8 * j) + pop8 (x / 2 ^ (8 * j) % 256) := fun j => by
    rw [show 8 * (j + 1) = 8 * j + 8 by omega, card_add, card_shift]
  rw [show (64 : Nat) = 8 * (7 + 1) from rfl, h 7, h 6, h 5, h 4, h 3, h 2, h 1, h 0]
  simp [card]

/-- And with a mask, byte by byte. -/
theorem and_byte (a r m M : Nat) (ha : a < 256) (hm : m < 256) : (a + 256 * r) &&& (m + 256 * M) = (a &&& m) + 256 * (r &&& M) := by
  have h1 := Nat.and_div_two_pow (a := a + 256 * r) (b := m + 256 * M) (n := 8)
  have h2 := Nat.and_mod_two_pow (a := a + 256 * r) (b := m + 256 * M) (n := 8)
  rw [show (2 : Nat) ^ 8 = 256 by decide] at h1 h2
  rw [show (a + 256 * r) / 256 = r by omega, show (m + 256 * M) / 256 = M by omega] at h1
  rw [show (a + 256 * r) % 256 = a by omega, show (m + 256 * M) % 256 = m by omega] at h2
  omega

/-- Eight bytes as a number. -/
def w8 (a0 a1 a2 a3 a4 a5 a6 a7 : Nat) : Nat := a0 + 256 * (a1 + 256 * (a2 + 256 * (a3 + 256 * (a4 + 256 * (a5 + 256 * (a6 + 256 * a7))))))
theorem and_w8 {a0 a1 a2 a3 a4 a5 a6 a7 m : Nat} (h0 : a0 < 256) (h1 : a1 < 256) (h2 : a2 < 256) (h3 : a3 < 256) (h4 : a4 < 256) (h5 : a5 < 256) (h6 : a6 < 256) (hm : m < 256) :
    w8 a0 a1 a2 a3 a4 a5 a6 a7 &&& w8 m m m m m m m m = w8 (a0 &&& m) (a1 &&& m) (a2 &&& m) (a3 &&& m) (a4 &&& m) (a5 &&& m) (a6 &&& m) (a7 &&& m) := by
  unfold w8
  rw [and_byte _ _ _ _ h0 hm, and_byte _ _ _ _ h1 hm, and_byte _ _ _ _ h2 hm, and_byte _ _ _ _ h3 hm, and_byte _ _ _ _ h4 hm, and_byte _ _ _ _ h5 hm, and_byte _ _ _ _ h6 hm]

theorem b85 : ∀ c, c < 256 → ∀ d, d < 2 → (c / 2 + 128 * d) &&& 85 = (c / 2) &&& 85 := by decide +kernel
theorem b51 : ∀ c, c < 256 → ∀ d, d < 4 → (c / 4 + 64 * d) &&& 51 = (c / 4) &&& 51 := by decide +kernel
def t1 (c : Nat) : Nat := (c / 2 &&& 85) + (c &&& 85)
def t2 (c : Nat) : Nat := (c / 4 &&& 51) + (c &&& 51)
theorem t1_lt : ∀ c, c < 256 → t1 c < 256 := by decide +kernel
theorem t2_lt : ∀ c, c < 256 → t2 (t1 c) ≤ 68 ∧ t2 (t1 c) % 16 ≤ 4 := by decide +kernel
theorem t3_pop : ∀ c, c < 256 → (t2 (t1 c) / 16 + t2 (t1 c)) % 16 = pop8 c ∧ pop8 c ≤ 8 := by decide +kernel
theorem and15 (x : Nat) : x &&& 15 = x % 16 := Nat.and_two_pow_sub_one_eq_mod x 4

/-- The library's way to count, in plain numbers. -/
def oc1 (x : Nat) : Nat := (x / 2 &&& 6148914691236517205) + (x &&& 6148914691236517205)
def oc2 (x : Nat) : Nat := (x / 4 &&& 3689348814741910323) + (x &&& 3689348814741910323)
def oc3 (x : Nat) : Nat := (x / 16 + x) &&& 1085102592571150095

theorem oc_split (x : Nat) (hx : x < 18446744073709551616) : ∃ a0 a1 a2 a3 a4 a5 a6 a7, x = w8 a0 a1 a2 a3 a4 a5 a6 a7 ∧ a0 < 256 ∧ a1 < 256 ∧ a2 < 256 ∧ a3 < 256 ∧ a4 < 256 ∧ a5 < 256 ∧ a6 < 256 ∧ a7 < 256 := by
  refine ⟨x % 256, x / 256 % 256, x / 65536 % 256, x / 16777216 % 256, x / 4294967296 % 256, x / 1099511627776 % 256, x / 281474976710656 % 256, x / 72057594037927936, ?_, ?_, ?_, ?_, ?_, ?_, ?_, ?_, ?_⟩ <;> (try unfold w8) <;> omega

theorem oc1_w8 {a0 a1 a2 a3 a4 a5 a6 a7 : Nat} (h0 : a0 < 256) (h1 : a1 < 256) (h2 : a2 < 256) (h3 : a3 < 256) (h4 : a4 < 256) (h5 : a5 < 256) (h6 : a6 < 256) (_h7 : a7 < 256) :
    oc1 (w8 a0 a1 a2 a3 a4 a5 a6 a7) = w8 (t1 a0) (t1 a1) (t1 a2) (t1 a3) (t1 a4) (t1 a5) (t1 a6) (t1 a7) := by
  unfold oc1
  have e : w8 a0 a1 a2 a3 a4 a5 a6 a7 / 2 = w8 (a0 / 2 + 128 * (a1 % 2)) (a1 / 2 + 128 * (a2 % 2)) (a2 / 2 + 128 * (a3 % 2)) (a3 / 2 + 128 * (a4 % 2)) (a4 / 2 + 128 * (a5 % 2)) (a5 / 2 + 128 * (a6 % 2)) (a6 / 2 + 128 * (a7 % 2)) (a7 / 2) := by unfold w8; omega
  rw [e, show (6148914691236517205 : Nat) = w8 85 85 85 85 85 85 85 85 from rfl, and_w8 (by omega) (by omega) (by omega) (by omega) (by omega) (by omega) (by omega) (by decide), and_w8 h0 h1 h2 h3 h4 h5 h6 (by decide),
    b85 _ h0 _ (Nat.mod_lt _ (by decide)), b85 _ h1 _ (Nat.mod_lt _ (by decide)), b85 _ h2 _ (Nat.mod_lt _ (by decide)), b85 _ h3 _ (Nat.mod_lt _ (by decide)), b85 _ h4 _ (Nat.mod_lt _ (by decide)), b85 _ h5 _ (Nat.mod_lt _ (by decide)), b85 _ h6 _ (Nat.mod_lt _ (by decide))]
  unfold w8 t1; omega

theorem oc2_w8 {a0 a1 a2 a3 a4 a5 a6 a7 : Nat} (h0 : a0 < 256) (h1 : a1 < 256) (h2 : a2 < 256) (h3 : a3 < 256) (h4 : a4 < 256) (h5 : a5 < 256) (h6 : a6 < 256) (_h7 : a7 < 256) :
    oc2 (w8 a0 a1 a2 a3 a4 a5 a6 a7) = w8 (t2 a0) (t2 a1) (t2 a2) (t2 a3) (t2 a4) (t2 a5) (t2 a6) (t2 a7) := by
  unfold oc2
  have e : w8 a0 a1 a2 a3 a4 a5 a6 a7 / 4 = w8 (a0 / 4 + 64 * (a1 % 4)) (a1 / 4 + 64 * (a2 % 4)) (a2 / 4 + 64 * (a3 % 4)) (a3 / 4 + 64 * (a4 % 4)) (a4 / 4 + 64 * (a5 % 4)) (a5 / 4 + 64 * (a6 % 4)) (a6 / 4 + 64 * (a7 % 4)) (a7 / 4) := by unfold w8; omega
  rw [e, show (3689348814741910323 : Nat) = w8 51 51 51 51 51 51 51 51 from rfl, and_w8 (by omega) (by omega) (by omega) (by omega) (by omega) (by omega) (by omega) (by decide), and_w8 h0 h1 h2 h3 h4 h5 h6 (by decide),
    b51 _ h0 _ (Nat.mod_lt _ (by decide)), b51 _ h1 _ (Nat.mod_lt _ (by decide)), b51 _ h2 _ (Nat.mod_lt _ (by decide)), b51 _ h3 _ (Nat.mod_lt _ (by decide)), b51 _ h4 _ (Nat.mod_lt _ (by decide)), b51 _ h5 _ (Nat.mod_lt _ (by decide)), b51 _ h6 _ (Nat.mod_lt _ (by decide))]
  unfold w8 t2; omega

theorem oc3_w8 {a0 a1 a2 a3 a4 a5 a6 a7 : Nat} (h0 : a0 ≤ 68 ∧ a0 % 16 ≤ 4) (h1 : a1 ≤ 68 ∧ a1 % 16 ≤ 4) (h2 : a2 ≤ 68 ∧ a2 % 16 ≤ 4) (h3 : a3 ≤ 68 ∧ a3 % 16 ≤ 4) (h4 : a4 ≤ 68 ∧ a4 % 16 ≤ 4) (h5 : a5 ≤ 68 ∧ a5 % 16 ≤ 4) (h6 : a6 ≤ 68 ∧ a6 % 16 ≤ 4) (h7 : a7 ≤ 68 ∧ a7 % 16 ≤ 4) :
    oc3 (w8 a0 a1 a2 a3 a4 a5 a6 a7) = w8 ((a0 / 16 + a0) % 16) ((a1 / 16 + a1) % 16) ((a2 / 16 + a2) % 16) ((a3 / 16 + a3) % 16) ((a4 / 16 + a4) % 16) ((a5 / 16 + a5) % 16) ((a6 / 16 + a6) % 16) ((a7 / 16 + a7) % 16) := by
  unfold oc3
  have e : w8 a0 a1 a2 a3 a4 a5 a6 a7 / 16 + w8 a0 a1 a2 a3 a4 a5 a6 a7 = w8 (a0 / 16 + 16 * (a1 % 16) + a0) (a1 / 16 + 16 * (a2 % 16) + a1) (a2 / 16 + 16 * (a3 % 16) + a2) (a3 / 16 + 16 * (a4 % 16) + a3) (a4 / 16 + 16 * (a5 % 16) + a4) (a5 / 16 + 16 * (a6 % 16) + a5) (a6 / 16 + 16 * (a7 % 16) + a6) (a7 / 16 + a7) := by unfold w8; omega
  rw [e, show (1085102592571150095 : Nat) = w8 15 15 15 15 15 15 15 15 from rfl, and_w8 (by omega) (by omega) (by omega) (by omega) (by omega) (by omega) (by omega) (by decide)]
  simp only [and15]
  congr 1 <;> omega

/-- The sum of eight small bytes stands in the lowest, behind three shifts. -/
theorem oc_sum {p0 p1 p2 p3 p4 p5 p6 p7 : Nat} (h0 : p0 ≤ 8) (h1 : p1 ≤ 8) (h2 : p2 ≤ 8) (h3 : p3 ≤ 8) (h4 : p4 ≤ 8) (h5 : p5 ≤ 8) (h6 : p6 ≤ 8) (h7 : p7 ≤ 8) :
    ∃ y z u, w8 p0 p1 p2 p3 p4 p5 p6 p7 + w8 p0 p1 p2 p3 p4 p5 p6 p7 / 256 = y ∧ y < 18446744073709551616 ∧ y + y / 65536 = z ∧ z < 18446744073709551616 ∧ z + z / 4294967296 = u ∧ u < 9223372036854775808 ∧ u % 128 = p0 + p1 + p2 + p3 + p4 + p5 + p6 + p7 := by
  refine ⟨w8 (p0 + p1) (p1 + p2) (p2 + p3) (p3 + p4) (p4 + p5) (p5 + p6) (p6 + p7) p7, w8 (p0 + p1 + (p2 + p3)) (p1 + p2 + (p3 + p4)) (p2 + p3 + (p4 + p5)) (p3 + p4 + (p5 + p6)) (p4 + p5 + (p6 + p7)) (p5 + p6 + p7) (p6 + p7) p7, 
    w8 (p0 + p1 + (p2 + p3) + (p4 + p5 + (p6 + p7))) (p1 + p2 + (p3 + p4) + (p5 + p6 + p7)) (p2 + p3 + (p4 + p5) + (p6 + p7)) (p3 + p4 + (p5 + p6) + p7) (p4 + p5 + (p6 + p7)) (p5 + p6 + p7) (p6 + p7) p7, ?_, ?_, ?_, ?_, ?_, ?_, ?_⟩ <;> unfold w8 <;> omega

theorem w8_lt {a0 a1 a2 a3 a4 a5 a6 a7 : Nat} (h0 : a0 < 256) (h1 : a1 < 256) (h2 : a2 < 256) (h3 : a3 < 256) (h4 : a4 < 256) (h5 : a5 < 256) (h6 : a6 < 256) (h7 : a7 < 256) : w8 a0 a1 a2 a3 a4 a5 a6 a7 < 18446744073709551616 := by unfold w8; omega
set_option maxHeartbeats 2000000 in
theorem card_w8 {a0 a1 a2 a3 a4 a5 a6 a7 : Nat} (h0 : a0 < 256) (h1 : a1 < 256) (h2 : a2 < 256) (h3 : a3 < 256) (h4 : a4 < 256) (h5 : a5 < 256) (h6 : a6 < 256) (h7 : a7 < 256) :
    card (w8 a0 a1 a2 a3 a4 a5 a6 a7).testBit 64 = pop8 a0 + pop8 a1 + pop8 a2 + pop8 a3 + pop8 a4 + pop8 a5 + pop8 a6 + pop8 a7 := by
  have hc := card_word (w8 a0 a1 a2 a3 a4 a5 a6 a7)
  generalize hx : w8 a0 a1 a2 a3 a4 a5 a6 a7 = x at hc ⊢
  unfold w8 at hx
  have c0 : x % 256 = a0 := by omega
  have c1 : x / 256 % 256 = a1 := by omega
  have c2 : x / 65536 % 256 = a2 := by omega
  have c3 : x / 16777216 % 256 = a3 := by omega
  have c4 : x / 4294967296 % 256 = a4 := by omega
  have c5 : x / 1099511627776 % 256 = a5 := by omega
  have c6 : x / 281474976710656 % 256 = a6 := by omega
  have c7 : x / 72057594037927936 % 256 = a7 := by omega
  rw [c0, c1, c2, c3, c4, c5, c6, c7] at hc
  exact hc

/-- The first three steps. -/
theorem oc_three (x : Nat) (hx : x < 18446744073709551616) : ∃ p0 p1 p2 p3 p4 p5 p6 p7, oc3 (oc2 (oc1 x)) = w8 p0 p1 p2 p3 p4 p5 p6 p7 ∧ card x.testBit 64 = p0 + p1 + p2 + p3 + p4 + p5 + p6 + p7 ∧ (p0 ≤ 8 ∧ p1 ≤ 8 ∧ p2 ≤ 8 ∧ p3 ≤ 8 ∧ p4 ≤ 8 ∧ p5 ≤ 8 ∧ p6 ≤ 8 ∧ p7 ≤ 8) ∧
    oc1 x < 18446744073709551616 ∧ oc2 (oc1 x) < 18446744073709551616 ∧ oc2 (oc1 x) / 16 + oc2 (oc1 x) < 18446744073709551616 := by
  obtain ⟨a0, a1, a2, a3, a4, a5, a6, a7, rfl, h0, h1, h2, h3, h4, h5, h6, h7⟩ := oc_split x hx
  have l0 := t1_lt _ h0; have l1 := t1_lt _ h1; have l2 := t1_lt _ h2; have l3 := t1_lt _ h3; have l4 := t1_lt _ h4; have l5 := t1_lt _ h5; have l6 := t1_lt _ h6; have l7 := t1_lt _ h7
  have k0 := t2_lt _ h0; have k1 := t2_lt _ h1; have k2 := t2_lt _ h2; have k3 := t2_lt _ h3; have k4 := t2_lt _ h4; have k5 := t2_lt _ h5; have k6 := t2_lt _ h6; have k7 := t2_lt _ h7
  have q0 := t3_pop _ h0; have q1 := t3_pop _ h1; have q2 := t3_pop _ h2; have q3 := t3_pop _ h3; have q4 := t3_pop _ h4; have q5 := t3_pop _ h5; have q6 := t3_pop _ h6; have q7 := t3_pop _ h7
  rw [oc1_w8 h0 h1 h2 h3 h4 h5 h6 h7, oc2_w8 l0 l1 l2 l3 l4 l5 l6 l7, oc3_w8 k0 k1 k2 k3 k4 k5 k6 k7, q0.1, q1.1, q2.1, q3.1, q4.1, q5.1, q6.1, q7.1]
  refine ⟨_, _, _, _, _, _, _, _, rfl, card_w8 h0 h1 h2 h3 h4 h5 h6 h7, ⟨q0.2, q1.2, q2.2, q3.2, q4.2, q5.2, q6.2, q7.2⟩, w8_lt l0 l1 l2 l3 l4 l5 l6 l7, ?_, ?_⟩
  · exact w8_lt (by omega) (by omega) (by omega) (by omega) (by omega) (by omega) (by omega) (by omega)
  · clear q0 q1 q2 q3 q4 q5 q6 q7 l0 l1 l2 l3 l4 l5 l6 l7 h0 h1 h2 h3 h4 h5 h6 h7
    generalize t2 (t1 a0) = b0 at *
    generalize t2 (t1 a1) = b1 at *
    generalize t2 (t1 a2) = b2 at *
    generalize t2 (t1 a3) = b3 at *
    generalize t2 (t1 a4) = b4 at *
    generalize t2 (t1 a5) = b5 at *
    generalize t2 (t1 a6) = b6 at *
    generalize t2 (t1 a7) = b7 at *
    unfold w8; omega

/-- All steps of the library's OnesCount64. -/
theorem oc_all (x : Nat) (hx : x < 18446744073709551616) :
    oc1 x < 18446744073709551616 ∧ oc2 (oc1 x) < 18446744073709551616 ∧ oc2 (oc1 x) / 16 + oc2 (oc1 x) < 18446744073709551616 ∧ oc3 (oc2 (oc1 x)) < 18446744073709551616 ∧
    ∃ y z u, oc3 (oc2 (oc1 x)) + oc3 (oc2 (oc1 x)) / 256 = y ∧ y < 18446744073709551616 ∧ y + y / 65536 = z ∧ z < 18446744073709551616 ∧ z + z / 4294967296 = u ∧ u < 9223372036854775808 ∧ u % 128 = card x.testBit 64 := by
  obtain ⟨p0, p1, p2, p3, p4, p5, p6, p7, e, hc, ⟨q0, q1, q2, q3, q4, q5, q6, q7⟩, h1, h2, h3⟩ := oc_three x hx
  rw [e, hc]
  exact ⟨h1, h2, h3, w8_lt (by omega) (by omega) (by omega) (by omega) (by omega) (by omega) (by omega) (by omega), oc_sum q0 q1 q2 q3 q4 q5 q6 q7⟩

/-! ### The lowest bit -/

theorem ctz_spec (x : Nat) (h0 : x ≠ 0) (hx : x < 2 ^ 64) : Go.Lib.ctz 64 x < 64 ∧ x.testBit (Go.Lib.ctz 64 x) = true ∧ ∀ k, k < Go.Lib.ctz 64 x → x.testBit k = false := by
  obtain ⟨m, hm, hk⟩ := Go.Lib.ctzFrom_spec 64 x (by omega) hx
  have e : Go.Lib.ctz 64 x = Go.Lib.ctzFrom 64 x := by simp [Go.Lib.ctz, h0]
  rw [e]
  generalize Go.Lib.ctzFrom 64 x = c at hm hk
  refine ⟨hk, ?_, fun k hkc => ?_⟩
  · rw [hm, Nat.mul_comm, Nat.testBit_mul_two_pow]; simp
  · rw [hm, Nat.mul_comm, Nat.testBit_mul_two_pow]; simp; omega

end Bts
