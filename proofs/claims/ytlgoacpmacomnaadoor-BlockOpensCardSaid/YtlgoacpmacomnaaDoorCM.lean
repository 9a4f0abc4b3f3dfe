/- Plain mathematics of CRC-32: one bit's step is linear, and has no short period. Nothing of the program stands here. -/
namespace Go.Proofs.YtlgoacpmacomnaaDoor.Crc

/-- The divisor, turned round, without its highest bit. -/
def poly : Nat := 3988292384
/-- One bit's step. -/
def L (x : Nat) : Nat := (x >>> 1) ^^^ (if x % 2 = 1 then poly else 0)
/-- So many steps. -/
def Ln : Nat → Nat → Nat
  | 0, x => x
  | n + 1, x => Ln n (L x)

theorem L_zero : L 0 = 0 := by decide
theorem xor_mod2 (x y : Nat) : (x ^^^ y) % 2 = (x % 2) ^^^ (y % 2) := Nat.xor_mod_two_pow (n := 1)
theorem L_xor (x y : Nat) : L (x ^^^ y) = L x ^^^ L y := by
  unfold L
  rw [Nat.shiftRight_xor_distrib, xor_mod2]
  rcases Nat.mod_two_eq_zero_or_one x with hx | hx <;> rcases Nat.mod_two_eq_zero_or_one y with hy | hy <;> simp [hx, hy]
  · simp only [Nat.xor_assoc]
  · rw [Nat.xor_assoc, Nat.xor_assoc]; congr 1; exact Nat.xor_comm _ _
  · rw [Nat.xor_assoc, ← Nat.xor_assoc poly, Nat.xor_comm poly (y >>> 1), Nat.xor_assoc, Nat.xor_self, Nat.xor_zero]
theorem L_lt {x : Nat} (h : x < 2 ^ 32) : L x < 2 ^ 32 := by
  unfold L
  refine Nat.xor_lt_two_pow ?_ ?_
  · rw [Nat.shiftRight_eq_div_pow]; omega
  · split <;> decide
theorem L_inj {x : Nat} (h : x < 2 ^ 32) (h0 : L x = 0) : x = 0 := by
  unfold L at h0
  have h1 : x >>> 1 = x / 2 := by rw [Nat.shiftRight_eq_div_pow]
  rw [h1] at h0
  split at h0
  · have e : x / 2 = poly := by
      have := congrArg (· ^^^ poly) h0
      simpa [Nat.xor_assoc] using this
    have : poly = 3988292384 := rfl
    omega
  · simp at h0
    omega
theorem L_double {x : Nat} : L (2 * x) = x := by
  unfold L
  rw [Nat.shiftRight_eq_div_pow, if_neg (by omega), Nat.xor_zero]
  omega

theorem Ln_xor (n x y : Nat) : Ln n (x ^^^ y) = Ln n x ^^^ Ln n y := by
  induction n generalizing x y with
  | zero => rfl
  | succ n ih => simp only [Ln, L_xor, ih]
theorem Ln_zero (n : Nat) : Ln n 0 = 0 := by
  induction n with
  | zero => rfl
  | succ n ih => simp only [Ln, L_zero, ih]
theorem Ln_lt (n : Nat) {x : Nat} (h : x < 2 ^ 32) : Ln n x < 2 ^ 32 := by
  induction n generalizing x with
  | zero => exact h
  | succ n ih => exact ih (L_lt h)
theorem Ln_inj (n : Nat) {x : Nat} (h : x < 2 ^ 32) (h0 : Ln n x = 0) : x = 0 := by
  induction n generalizing x with
  | zero => exact h0
  | succ n ih => exact L_inj h (ih (L_lt h) h0)
theorem Ln_add (m n x : Nat) : Ln (m + n) x = Ln n (Ln m x) := by
  induction m generalizing x with
  | zero => simp [Ln]
  | succ m ih => rw [show m + 1 + n = (m + n) + 1 by omega]; exact ih (L x)
theorem xor_eq_zero' {x y : Nat} (h : x ^^^ y = 0) : x = y := by
  have := congrArg (· ^^^ y) h
  simpa [Nat.xor_assoc] using this
theorem Ln_inj2 (n : Nat) {x y : Nat} (hx : x < 2 ^ 32) (hy : y < 2 ^ 32) (h : Ln n x = Ln n y) : x = y := by
  refine xor_eq_zero' (Ln_inj n (Nat.xor_lt_two_pow hx hy) ?_)
  rw [Ln_xor, h, Nat.xor_self]
theorem Ln_shift (n x : Nat) : Ln n (2 ^ n * x) = x := by
  induction n generalizing x with
  | zero => simp [Ln]
  | succ n ih =>
    simp only [Ln]
    rw [Nat.pow_succ, Nat.mul_comm (2 ^ n) 2, Nat.mul_assoc, L_double]
    exact ih x

/-! ### The period -/
/-- The highest bit: all others come of it by steps. -/
def e31 : Nat := 2147483648
/-- A number, as steps: of s. (k bits are still to come, the highest first.) -/
def act : Nat → Nat → Nat → Nat
  | 0, _, _ => 0
  | k + 1, v, s => (if v.testBit k then s else 0) ^^^ act k v (L s)

theorem act_xor_right (k v s t : Nat) : act k v (s ^^^ t) = act k v s ^^^ act k v t := by
  induction k generalizing s t with
  | zero => simp [act]
  | succ k ih =>
    simp only [act, L_xor, ih]
    split
    · rw [Nat.xor_assoc, Nat.xor_assoc]; congr 1
      rw [← Nat.xor_assoc, ← Nat.xor_assoc]; congr 1; exact Nat.xor_comm _ _
    · simp
theorem act_zero_right (k v : Nat) : act k v 0 = 0 := by
  induction k with
  | zero => rfl
  | succ k ih => simp [act, L_zero, ih]
theorem act_L (k v s : Nat) : L (act k v s) = act k v (L s) := by
  induction k generalizing s with
  | zero => exact L_zero
  | succ k ih =>
    simp only [act, L_xor, ih]
    split
    · rfl
    · rw [L_zero]
theorem act_Ln (n k v s : Nat) : Ln n (act k v s) = act k v (Ln n s) := by
  induction n generalizing s with
  | zero => rfl
  | succ n ih => simp only [Ln]; rw [act_L, ih]
theorem act_act (k j v u s : Nat) : act k v (act j u s) = act j u (act k v s) := by
  induction k generalizing s with
  | zero => simp [act, act_zero_right]
  | succ k ih =>
    simp only [act]
    rw [act_L, ih, act_xor_right]
    split
    · rfl
    · rw [act_zero_right]
theorem L_pow (k : Nat) : L (2 ^ (k + 1)) = 2 ^ k := by rw [Nat.pow_succ, Nat.mul_comm, L_double]
theorem act_e (k v : Nat) (hv : v < 2 ^ k) (hk : 0 < k) : act k v (2 ^ (k - 1)) = v := by
  induction k generalizing v with
  | zero => omega
  | succ k ih =>
    simp only [act, Nat.add_sub_cancel]
    cases k with
    | zero =>
      have : v = 0 ∨ v = 1 := by omega
      rcases this with rfl | rfl <;> decide
    | succ k =>
      rw [L_pow]
      have hm : act (k + 1) v (2 ^ k) = act (k + 1) (v % 2 ^ (k + 1)) (2 ^ k) := by
        have : ∀ j s, j ≤ k + 1 → act j v s = act j (v % 2 ^ (k + 1)) s := by
          intro j
          induction j with
          | zero => intros; rfl
          | succ j ihj =>
            intro s hj
            simp only [act]
            rw [ihj _ (by omega), Nat.testBit_mod_two_pow]
            simp [show j < k + 1 by omega]
        exact this _ _ (Nat.le_refl _)
      rw [hm]
      have := ih (v % 2 ^ (k + 1)) (Nat.mod_lt _ (Nat.two_pow_pos _)) (by omega)
      rw [Nat.add_sub_cancel] at this
      rw [this]
      have hd := Nat.div_add_mod v (2 ^ (k + 1))
      have hlt := Nat.mod_lt v (Nat.two_pow_pos (k + 1))
      have hq : v / 2 ^ (k + 1) < 2 := Nat.div_lt_of_lt_mul (by rw [← Nat.pow_succ]; exact hv)
      rw [Nat.testBit_eq_decide_div_mod_eq]
      have hq' : v / 2 ^ (k + 1) = 0 ∨ v / 2 ^ (k + 1) = 1 := by
        generalize v / 2 ^ (k + 1) = q at hq ⊢
        omega
      rcases hq' with h | h
      · rw [h] at hd ⊢
        simp; omega
      · rw [h] at hd ⊢
        simp only [Nat.one_mod, decide_true, if_true]
        rw [show 2 ^ (k + 1) = 1 <<< (k + 1) by rw [Nat.shiftLeft_eq, Nat.one_mul]]
        rw [show 1 <<< (k + 1) = 2 ^ (k + 1) by rw [Nat.shiftLeft_eq, Nat.one_mul]]
        have hx : 2 ^ (k + 1) ^^^ v % 2 ^ (k + 1) = 2 ^ (k + 1) + v % 2 ^ (k + 1) := by
          have ho := Nat.two_pow_add_eq_or_of_lt hlt 1
          rw [Nat.mul_one] at ho
          rw [ho]
          apply Nat.eq_of_testBit_eq
          intro i
          rw [Nat.testBit_xor, Nat.testBit_or]
          by_cases hi : i = k + 1
          · subst hi
            rw [Nat.testBit_lt_two_pow hlt]; simp
          · rw [Nat.testBit_two_pow_of_ne (by omega)]; simp
        rw [hx]; omega

theorem act_e31 {v : Nat} (hv : v < 2 ^ 32) : act 32 v e31 = v := act_e 32 v hv (by decide)

/-- What n steps do to any number hangs on what they do to the highest bit. -/
theorem Ln_act (n : Nat) {s : Nat} (hs : s < 2 ^ 32) : Ln n s = act 32 s (Ln n e31) := by
  rw [← act_Ln, act_e31 hs]

/-- Twice as many steps, and one. -/
theorem step2 {m v : Nat} (h : Ln m e31 = v) (hv : v < 2 ^ 32) : Ln (2 * m + 1) e31 = L (act 32 v v) := by
  have e : Ln (2 * m) e31 = act 32 v v := by
    rw [show 2 * m = m + m by omega, Ln_add, h, Ln_act m hv, h]
  have : Ln (2 * m + 1) e31 = L (Ln (2 * m) e31) := by rw [Ln_add]; rfl
  rw [this, e]

def dbl : Nat → Nat × Nat
  | 0 => (1, L e31)
  | k + 1 => let p := dbl k; (2 * p.1 + 1, L (act 32 p.2 p.2))
theorem dbl_ok (k : Nat) : Ln (dbl k).1 e31 = (dbl k).2 ∧ (dbl k).2 < 2 ^ 32 := by
  induction k with
  | zero => exact ⟨rfl, by decide⟩
  | succ k ih =>
    have h := step2 ih.1 ih.2
    refine ⟨h, ?_⟩
    show L (act 32 (dbl k).2 (dbl k).2) < 2 ^ 32
    rw [← h]
    exact Ln_lt _ (by decide)

theorem big : (dbl 31).2 = e31 := by decide +kernel
theorem big1 : (dbl 31).1 = 4294967295 := by decide +kernel
theorem mid : (dbl 15).2 = 3699072095 := by decide +kernel
theorem mid1 : (dbl 15).1 = 65535 := by decide +kernel

theorem Ln_big {s : Nat} (hs : s < 2 ^ 32) : Ln 4294967295 s = s := by
  have h := (dbl_ok 31).1
  rw [big, big1] at h
  rw [Ln_act _ hs, h, act_e31 hs]

theorem inv : act 32 3571894474 (3699072095 ^^^ e31) = e31 := by decide +kernel

theorem Ln_mid {s : Nat} (hs : s < 2 ^ 32) (h : Ln 65535 s = s) : s = 0 := by
  have h1 := (dbl_ok 15).1
  rw [mid, mid1] at h1
  have h2 : act 32 s (3699072095 ^^^ e31) = 0 := by
    rw [act_xor_right, ← h1, ← Ln_act _ hs, h, act_e31 hs, Nat.xor_self]
  have h3 := act_act 32 32 3571894474 s (3699072095 ^^^ e31)
  rw [h2, inv, act_zero_right, act_e31 hs] at h3
  exact h3.symm

/-- What comes back behind a steps and behind b comes back behind their greatest common divisor. -/
theorem Ln_mul {a s : Nat} (h : Ln a s = s) (k : Nat) : Ln (k * a) s = s := by
  induction k with
  | zero => simp [Ln]
  | succ k ih => rw [Nat.succ_mul, Ln_add, ih, h]
theorem Ln_gcd {s : Nat} : ∀ (a b : Nat), Ln a s = s → Ln b s = s → Ln (Nat.gcd a b) s = s := by
  intro a b
  induction a, b using Nat.gcd.induction with
  | H0 n => intro _ h; rw [Nat.gcd_zero_left]; exact h
  | H1 m n hm ih =>
    intro ha hb
    rw [Nat.gcd_rec]
    refine ih ?_ ha
    have e := Nat.div_add_mod n m
    have h2 : Ln (n / m * m + n % m) s = s := by rw [Nat.mul_comm, e]; exact hb
    rw [Ln_add, Ln_mul ha] at h2
    exact h2

theorem prime17 : ∀ h, h ≤ 256 → 2 ≤ h → 65537 % h ≠ 0 := by decide +kernel
theorem coprime17 {g : Nat} (h0 : 0 < g) (hg : g < 65537) : Nat.gcd g 65537 = 1 := by
  have hd := Nat.gcd_dvd_right g 65537
  have hle := Nat.le_of_dvd h0 (Nat.gcd_dvd_left g 65537)
  have hpos : 0 < Nat.gcd g 65537 := Nat.gcd_pos_of_pos_left _ h0
  generalize Nat.gcd g 65537 = h at *
  obtain ⟨q, hq⟩ := hd
  rcases Nat.lt_or_ge h 257 with h1 | h1
  · rcases Nat.lt_or_ge h 2 with h2 | h2
    · omega
    · exact absurd (by rw [hq]; exact Nat.mul_mod_right h q) (prime17 h (by omega) h2)
  · have hq1 : q < 257 := by
      rcases Nat.lt_or_ge q 257 with h2 | h2
      · exact h2
      · have := Nat.mul_le_mul h1 h2
        omega
    have hq2 : 2 ≤ q := by
      rcases Nat.lt_or_ge q 2 with h2 | h2
      · have : q = 0 ∨ q = 1 := by omega
        rcases this with rfl | rfl <;> omega
      · exact h2
    exact absurd (by rw [hq]; exact Nat.mul_mod_left h q) (prime17 q (by omega) hq2)

/-- No number but 0 comes back behind few steps. -/
theorem no_period {s d : Nat} (hs : s < 2 ^ 32) (h0 : 0 < d) (hd : d < 65535) (h : Ln d s = s) : s = 0 := by
  have hg := Ln_gcd d 4294967295 h (Ln_big hs)
  have hgp : 0 < Nat.gcd d 4294967295 := Nat.gcd_pos_of_pos_left _ h0
  have hgl : Nat.gcd d 4294967295 ≤ d := Nat.le_of_dvd h0 (Nat.gcd_dvd_left _ _)
  have hgd : Nat.gcd d 4294967295 ∣ 65535 * 65537 := Nat.gcd_dvd_right d 4294967295
  generalize Nat.gcd d 4294967295 = g at *
  have hc : Nat.Coprime g 65537 := coprime17 hgp (by omega)
  obtain ⟨k, hk⟩ := hc.dvd_of_dvd_mul_right hgd
  refine Ln_mid hs ?_
  rw [hk, Nat.mul_comm]
  exact Ln_mul hg k

end Go.Proofs.YtlgoacpmacomnaaDoor.Crc
