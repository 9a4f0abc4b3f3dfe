/- Plain mathematics of the long division: the bits of a text as one number, and what a round of the division makes of it. -/
import Derived.Test.YtlgoacpmacomnaaDoorCN
namespace Go.Proofs.YtlgoacpmacomnaaDoor.Crc

/-- The bytes as one number. -/
def bval : List UInt8 → Nat
  | [] => 0
  | c :: r => c.toNat + 256 * bval r
theorem bval_append (a b : List UInt8) : bval (a ++ b) = bval a + 256 ^ a.length * bval b := by
  induction a with
  | nil => simp [bval]
  | cons c a ih =>
    simp only [List.cons_append, bval, ih, List.length_cons, Nat.pow_succ, Nat.mul_add]
    rw [Nat.mul_comm (256 ^ a.length) 256, Nat.mul_assoc, Nat.add_assoc]
theorem byte_xor (c : UInt8) (r : Nat) : c.toNat + 256 * r = c.toNat ^^^ 256 * r := by
  have h := split_xor (c.toNat + 256 * r) 8
  have hc := c.toNat_lt
  rw [show (2 : Nat) ^ 8 = 256 by decide, show (c.toNat + 256 * r) / 256 = r by omega, show (c.toNat + 256 * r) % 256 = c.toNat by omega] at h
  rw [Nat.xor_comm]; exact h
theorem div_eq (bs : List UInt8) (s : Nat) : Ln (8 * bs.length) (bval bs ^^^ s) = F s bs := by
  induction bs generalizing s with
  | nil => simp [bval, F_nil, Ln]
  | cons c r ih =>
    rw [List.length_cons, show 8 * (r.length + 1) = 8 + 8 * r.length by omega, Ln_add, F_cons, bval, byte_xor, Nat.xor_assoc, Nat.xor_comm (256 * bval r) s, ← Nat.xor_assoc, Nat.xor_comm c.toNat s, Ln_xor]
    have h := Ln_shift 8 (bval r)
    rw [show (2 : Nat) ^ 8 = 256 by decide] at h
    rw [h, Nat.xor_comm, ih]

/-- Bit k of byte i. -/
theorem bval_bit (bs : List UInt8) (i k : Nat) (hk : k < 8) (hi : i < bs.length) : (bval bs).testBit (8 * i + k) = bs[i].toNat.testBit k := by
  induction bs generalizing i with
  | nil => simp at hi
  | cons c r ih =>
    have hc := c.toNat_lt
    rw [bval, byte_xor, Nat.testBit_xor, show (256 : Nat) = 2 ^ 8 by decide, Nat.testBit_two_pow_mul]
    cases i with
    | zero =>
      have h8 : decide (8 ≤ k) = false := by simp; omega
      simp [h8]
    | succ i =>
      have h1 : c.toNat.testBit (8 * (i + 1) + k) = false := Nat.testBit_lt_two_pow (Nat.lt_of_lt_of_le hc (Nat.pow_le_pow_right (by decide) (by omega)))
      rw [h1, show 8 * (i + 1) + k - 8 = 8 * i + k by omega, ih i (by simpa using hi)]
      simp; omega
theorem bval_lt (bs : List UInt8) : bval bs < 2 ^ (8 * bs.length) := by
  induction bs with
  | nil => simp [bval]
  | cons c r ih =>
    have hc := c.toNat_lt
    rw [bval, List.length_cons, Nat.mul_add, Nat.pow_add]
    have : (2 : Nat) ^ (8 * 1) = 256 := by decide
    rw [this]
    omega

/-- The bits of a number, from the lowest on. -/
def bl (x n : Nat) : List Bool := (List.range n).map fun i => x.testBit i
theorem bl_length (x n : Nat) : (bl x n).length = n := by simp [bl]
theorem bl_get (x n i : Nat) (h : i < n) : (bl x n)[i]? = some (x.testBit i) := by simp [bl, h]
theorem bl_succ (x n : Nat) : bl x n ++ [x.testBit n] = bl x (n + 1) := by simp [bl, List.range_succ]
theorem bl_set (x y n i : Nat) (b : Bool) (hb : y.testBit i = b) (h : ∀ j, j ≠ i → y.testBit j = x.testBit j) : (bl x n).set i b = bl y n := by
  apply List.ext_getElem
  · simp [bl]
  · intro j h1 h2
    rw [List.getElem_set]
    by_cases hj : i = j
    · subst hj; simp [bl, hb]
    · simp [bl, hj, h j (Ne.symm hj)]
theorem bl_zeros (x n m : Nat) (hx : x < 2 ^ n) : bl x n ++ List.replicate m false = bl x (n + m) := by
  apply List.ext_getElem
  · simp [bl]
  · intro j h1 h2
    rw [List.getElem_append]
    split
    · simp [bl]
    · rename_i h
      simp [bl] at h
      simp [bl, Nat.testBit_lt_two_pow (Nat.lt_of_lt_of_le hx (Nat.pow_le_pow_right (by decide) h))]

/-- The divisor, all its bits. -/
def dv : Nat := 2 * poly + 1
theorem round_even (X at_ V : Nat) (hX : X = 2 ^ at_ * V) (h : X.testBit at_ = false) : X = 2 ^ (at_ + 1) * L V := by
  rw [hX, Nat.testBit_two_pow_mul] at h
  simp at h
  have hv : V % 2 = 0 := by
    rcases Nat.mod_two_eq_zero_or_one V with h' | h'
    · exact h'
    · omega
  have hL : L V = V / 2 := by unfold L; rw [if_neg (by omega), Nat.xor_zero, Nat.shiftRight_eq_div_pow]
  rw [hX, hL, Nat.pow_succ, Nat.mul_assoc]
  congr 1
  omega
theorem round_odd (X at_ V : Nat) (hX : X = 2 ^ at_ * V) (h : X.testBit at_ = true) : X ^^^ 2 ^ at_ * dv = 2 ^ (at_ + 1) * L V := by
  rw [hX, Nat.testBit_two_pow_mul] at h
  simp at h
  have hv : V % 2 = 1 := by
    rcases Nat.mod_two_eq_zero_or_one V with h' | h'
    · omega
    · exact h'
  have hL : L V = V / 2 ^^^ poly := by unfold L; rw [if_pos hv, Nat.shiftRight_eq_div_pow]
  have e : V ^^^ dv = 2 * (V / 2 ^^^ poly) := by
    apply Nat.eq_of_testBit_eq
    intro j
    cases j with
    | zero => rw [Nat.testBit_xor]; simp [dv, hv]
    | succ j =>
      rw [Nat.testBit_xor, Nat.testBit_succ, Nat.testBit_succ, Nat.testBit_succ, show 2 * (V / 2 ^^^ poly) / 2 = V / 2 ^^^ poly by omega, Nat.testBit_xor, show dv / 2 = poly by decide]
  rw [hX, hL, Nat.pow_succ, Nat.mul_assoc, ← e]
  apply Nat.eq_of_testBit_eq
  intro j
  simp only [Nat.testBit_xor, Nat.testBit_two_pow_mul]
  cases decide (j ≥ at_) <;> simp
/-- One step of the subtraction. -/
theorem inner_bit (X at_ i : Nat) : (X ^^^ 2 ^ at_ * (dv % 2 ^ (i + 1))).testBit (at_ + i) = ((X ^^^ 2 ^ at_ * (dv % 2 ^ i)).testBit (at_ + i) != dv.testBit i) := by
  simp only [Nat.testBit_xor, Nat.testBit_two_pow_mul, Nat.testBit_mod_two_pow]
  simp
theorem inner_other (X at_ i j : Nat) (hj : j ≠ at_ + i) : (X ^^^ 2 ^ at_ * (dv % 2 ^ (i + 1))).testBit j = (X ^^^ 2 ^ at_ * (dv % 2 ^ i)).testBit j := by
  simp only [Nat.testBit_xor, Nat.testBit_two_pow_mul, Nat.testBit_mod_two_pow]
  by_cases h : at_ ≤ j
  · have : (j - at_ < i + 1) = (j - at_ < i) := by rw [eq_iff_iff]; omega
    simp only [this]
  · simp [h]
theorem dv_full : dv % 2 ^ 33 = dv := by decide

/-- The turning of the first 32 by a sum. -/
theorem flip_bit (s i : Nat) (h : i < 32) : (s ^^^ ones).testBit i = !s.testBit i := by
  rw [Nat.testBit_xor, show ones = 2 ^ 32 - 1 by decide, Nat.testBit_two_pow_sub_one]
  simp [h]
theorem flip_step (B s i : Nat) (h : i < 32) : (B ^^^ ((s ^^^ ones) % 2 ^ (i + 1))).testBit i = (if s.testBit i then (B ^^^ ((s ^^^ ones) % 2 ^ i)).testBit i else !(B ^^^ ((s ^^^ ones) % 2 ^ i)).testBit i) := by
  simp only [Nat.testBit_xor, Nat.testBit_mod_two_pow]
  have := flip_bit s i h
  rw [Nat.testBit_xor] at this
  rw [this]
  cases s.testBit i <;> simp
theorem flip_other (B s i j : Nat) (hj : j ≠ i) : (B ^^^ ((s ^^^ ones) % 2 ^ (i + 1))).testBit j = (B ^^^ ((s ^^^ ones) % 2 ^ i)).testBit j := by
  simp only [Nat.testBit_xor, Nat.testBit_mod_two_pow]
  have : (j < i + 1) = (j < i) := by rw [eq_iff_iff]; omega
  simp only [this]
/-- What is read off at the end. -/
theorem out_step (R i : Nat) (h : i < 32) : (R ^^^ ones) % 2 ^ (i + 1) = (R ^^^ ones) % 2 ^ i + (if R.testBit i then 0 else 2 ^ i) := by
  rw [mod_succ_pow]
  have hb := flip_bit R i h
  have e : (R ^^^ ones) / 2 ^ i % 2 = if R.testBit i then 0 else 1 := by
    have h2 := Nat.testBit_eq_decide_div_mod_eq (x := R ^^^ ones) (i := i)
    rw [hb] at h2
    cases hR : R.testBit i <;> rw [hR] at h2 <;> simp at h2 ⊢ <;> omega
  rw [e]
  split <;> simp

end Go.Proofs.YtlgoacpmacomnaaDoor.Crc
