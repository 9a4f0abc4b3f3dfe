/- Plain mathematics of CRC-32, second part: bytes, turned bits, sealed texts. Nothing of the program stands here. -/
import Derived.Test.YtlgoacpmacomnaaDoorCM
namespace Go.Proofs.YtlgoacpmacomnaaDoor.Crc

/-- The rests of four bits each. -/
def tabL : List Nat := [0, 498536548, 997073096, 651767980, 1994146192, 1802195444, 1303535960, 1342533948, 3988292384, 4027552580, 3604390888, 3412177804, 2607071920, 2262029012, 2685067896, 3183342108]
def tab (i : Nat) : Nat := tabL.getD i 0
theorem tab_ok : ∀ i, i < 16 → Ln 4 i = tab i := by decide
theorem tab_lt : ∀ i, i < 16 → tab i < 4294967296 := by decide
theorem and15 (x : Nat) : x &&& 15 = x % 16 := Nat.and_two_pow_sub_one_eq_mod x 4

theorem split_xor (x k : Nat) : x = (2 ^ k * (x / 2 ^ k)) ^^^ (x % 2 ^ k) := by
  apply Nat.eq_of_testBit_eq
  intro i
  rw [Nat.testBit_xor, Nat.testBit_two_pow_mul, Nat.testBit_mod_two_pow, Nat.testBit_div_two_pow]
  by_cases h : k ≤ i
  · simp [h, show ¬ i < k by omega]
  · simp [h, show i < k by omega]

theorem nib (x : Nat) : (x / 16) ^^^ tab (x % 16) = Ln 4 x := by
  have h := split_xor x 4
  have e : Ln 4 x = Ln 4 ((2 ^ 4 * (x / 2 ^ 4)) ^^^ (x % 2 ^ 4)) := by rw [← h]
  rw [e, Ln_xor, Ln_shift]
  rw [show (2 : Nat) ^ 4 = 16 by decide, tab_ok _ (Nat.mod_lt _ (by decide))]
theorem nib2 (x : Nat) : ((x / 16) ^^^ tab (x % 16)) / 16 ^^^ tab (((x / 16) ^^^ tab (x % 16)) % 16) = Ln 8 x := by
  rw [nib x, nib (Ln 4 x), ← Ln_add]

/-- What a state comes to behind some bytes. -/
def F (s : Nat) (bs : List UInt8) : Nat := bs.foldl (fun s c => Ln 8 (s ^^^ c.toNat)) s
theorem F_nil (s : Nat) : F s [] = s := rfl
theorem F_cons (s : Nat) (c : UInt8) (bs : List UInt8) : F s (c :: bs) = F (Ln 8 (s ^^^ c.toNat)) bs := rfl
theorem F_append (s : Nat) (a b : List UInt8) : F s (a ++ b) = F (F s a) b := by simp [F, List.foldl_append]
theorem byte_lt (c : UInt8) : c.toNat < 2 ^ 32 := by have := c.toNat_lt; omega
theorem F_lt {s : Nat} (hs : s < 2 ^ 32) (bs : List UInt8) : F s bs < 2 ^ 32 := by
  induction bs generalizing s with
  | nil => exact hs
  | cons c bs ih => exact ih (Ln_lt 8 (Nat.xor_lt_two_pow hs (byte_lt c)))
theorem xor_right_comm (a b c : Nat) : (a ^^^ b) ^^^ c = (a ^^^ c) ^^^ b := by rw [Nat.xor_assoc, Nat.xor_comm b c, ← Nat.xor_assoc]
theorem F_xor (s t : Nat) (bs : List UInt8) : F (s ^^^ t) bs = F s bs ^^^ Ln (8 * bs.length) t := by
  induction bs generalizing s t with
  | nil => rfl
  | cons c bs ih =>
    rw [F_cons, F_cons, xor_right_comm, Ln_xor, ih, ← Ln_add]
    congr 2
    simp only [List.length_cons]; omega
theorem F_zeros (s n : Nat) : F s (List.replicate n 0) = Ln (8 * n) s := by
  induction n generalizing s with
  | zero => rfl
  | succ n ih =>
    rw [List.replicate_succ, F_cons, ih, show (0 : UInt8).toNat = 0 from rfl, Nat.xor_zero, ← Ln_add]
    congr 1; omega

/-- A text with one byte turned. -/
def turned (bs : List UInt8) (k : Nat) (t : UInt8) : List UInt8 := bs.modify k (· ^^^ t)
theorem turned_length (bs : List UInt8) (k : Nat) (t : UInt8) : (turned bs k t).length = bs.length := by simp [turned]
theorem F_turned (s : Nat) (bs : List UInt8) (k : Nat) (t : UInt8) (hk : k < bs.length) : F s (turned bs k t) = F s bs ^^^ Ln (8 * (bs.length - k)) t.toNat := by
  unfold turned
  induction bs generalizing s k with
  | nil => simp at hk
  | cons c bs ih =>
    cases k with
    | zero =>
      rw [List.modify_zero_cons, F_cons, F_cons, UInt8.toNat_xor, ← Nat.xor_assoc, Ln_xor, F_xor, ← Ln_add]
      congr 2
      simp only [List.length_cons]; omega
    | succ k =>
      rw [List.modify_succ_cons, F_cons, F_cons, ih _ k (by simpa using hk)]
      congr 2
      simp only [List.length_cons]; omega

/-- A text with one bit turned. -/
def bitTurned (bs : List UInt8) (p : Nat) : List UInt8 := turned bs (p / 8) (UInt8.ofNat (2 ^ (p % 8)))
theorem bitTurned_length (bs : List UInt8) (p : Nat) : (bitTurned bs p).length = bs.length := turned_length _ _ _
theorem ofNat_pow (j : Nat) (hj : j < 8) : (UInt8.ofNat (2 ^ j)).toNat = 2 ^ j := by
  rw [UInt8.toNat_ofNat']
  have : 2 ^ j < 2 ^ 8 := Nat.pow_lt_pow_right (by decide) hj
  exact Nat.mod_eq_of_lt this
theorem F_bit (s : Nat) (bs : List UInt8) (p : Nat) (hp : p < 8 * bs.length) : F s (bitTurned bs p) = F s bs ^^^ Ln (8 * bs.length - p) 1 := by
  unfold bitTurned
  have hj : p % 8 < 8 := Nat.mod_lt _ (by decide)
  rw [F_turned s bs (p / 8) _ (by omega), ofNat_pow _ hj]
  congr 1
  rw [show 8 * (bs.length - p / 8) = p % 8 + (8 * bs.length - p) by omega, Ln_add]
  have := Ln_shift (p % 8) 1
  rw [Nat.mul_one] at this
  rw [this]

/-- The bits of a mask, from a place on, turned, the first i of them. -/
def burst (bs : List UInt8) (at_ mask : Nat) : Nat → List UInt8
  | 0 => bs
  | i + 1 => if mask / 2 ^ i % 2 = 1 then bitTurned (burst bs at_ mask i) (at_ + i) else burst bs at_ mask i
theorem burst_length (bs : List UInt8) (at_ mask i : Nat) : (burst bs at_ mask i).length = bs.length := by
  induction i with
  | zero => rfl
  | succ i ih => unfold burst; split
                 · rw [bitTurned_length, ih]
                 · exact ih
theorem mod_succ_pow (x i : Nat) : x % 2 ^ (i + 1) = x % 2 ^ i + 2 ^ i * (x / 2 ^ i % 2) := by rw [Nat.pow_succ]; exact Nat.mod_mul
theorem F_burst (s : Nat) (bs : List UInt8) (at_ mask i : Nat) (h : at_ + i ≤ 8 * bs.length) : F s (burst bs at_ mask i) = F s bs ^^^ Ln (8 * bs.length - at_) (mask % 2 ^ i) := by
  induction i with
  | zero => rw [Nat.pow_zero, Nat.mod_one, Ln_zero, Nat.xor_zero]; rfl
  | succ i ih =>
    unfold burst
    rw [mod_succ_pow]
    split
    · rename_i hb
      rw [F_bit _ _ _ (by rw [burst_length]; omega), ih (by omega), burst_length, Nat.xor_assoc, hb, Nat.mul_one]
      congr 1
      have e : mask % 2 ^ i + 2 ^ i = mask % 2 ^ i ^^^ 2 ^ i := by
        have hlt := Nat.mod_lt mask (Nat.two_pow_pos i)
        have ho := Nat.two_pow_add_eq_or_of_lt hlt 1
        rw [Nat.mul_one] at ho
        rw [Nat.add_comm, ho]
        apply Nat.eq_of_testBit_eq
        intro j
        rw [Nat.testBit_or, Nat.testBit_xor]
        by_cases hj : j = i
        · subst hj; rw [Nat.testBit_lt_two_pow hlt]; simp
        · rw [Nat.testBit_two_pow_of_ne (by omega)]; simp
      rw [e, Ln_xor]
      congr 1
      rw [show 8 * bs.length - at_ = i + (8 * bs.length - (at_ + i)) by omega, Ln_add]
      have := Ln_shift i 1
      rw [Nat.mul_one] at this
      rw [this]
    · rename_i hb
      have : mask / 2 ^ i % 2 = 0 := by omega
      rw [ih (by omega), this, Nat.mul_zero, Nat.add_zero]

/-- The sum of some bytes, as it goes on from another one. -/
def ones : Nat := 4294967295
def sumFrom (x : Nat) (bs : List UInt8) : Nat := F (x ^^^ ones) bs ^^^ ones
theorem ones_lt : ones < 2 ^ 32 := by decide
theorem sumFrom_lt {x : Nat} (hx : x < 2 ^ 32) (bs : List UInt8) : sumFrom x bs < 2 ^ 32 := Nat.xor_lt_two_pow (F_lt (Nat.xor_lt_two_pow hx ones_lt) bs) ones_lt
theorem xor_xor_cancel (a b : Nat) : (a ^^^ b) ^^^ b = a := by rw [Nat.xor_assoc, Nat.xor_self, Nat.xor_zero]
theorem sumFrom_append (x : Nat) (a b : List UInt8) : sumFrom x (a ++ b) = sumFrom (sumFrom x a) b := by
  unfold sumFrom
  rw [F_append, xor_xor_cancel]
theorem xor_cancel_right {a b c : Nat} (h : a ^^^ c = b ^^^ c) : a = b := by
  have := congrArg (· ^^^ c) h
  simpa [Nat.xor_assoc] using this

/-- What is turned by a difference of the states is turned in the sum. -/
theorem sum_eq_iff {s d : Nat} (bs cs : List UInt8) (h : F s cs = F s bs ^^^ d) : (F s cs ^^^ ones = F s bs ^^^ ones) ↔ d = 0 := by
  constructor
  · intro e
    have e2 := xor_cancel_right e
    rw [h] at e2
    have := congrArg (F s bs ^^^ ·) e2
    simp only [← Nat.xor_assoc, Nat.xor_self, Nat.zero_xor] at this
    exact this
  · intro e; rw [h, e, Nat.xor_zero]

/-- The four bytes of a sum. -/
def le4 (x : Nat) : List UInt8 := [UInt8.ofNat x, UInt8.ofNat (x / 256), UInt8.ofNat (x / 65536), UInt8.ofNat (x / 16777216)]
theorem toNat_ofNat8 (x : Nat) : (UInt8.ofNat x).toNat = x % 256 := UInt8.toNat_ofNat'
theorem F_le4 (s x : Nat) (hx : x < 2 ^ 32) : F s (le4 x) = Ln 32 (s ^^^ x) := by
  have h0 : F s (le4 x) = F s (List.replicate 4 0) ^^^ F 0 (le4 x) := by
    have : F s (le4 x) = F (0 ^^^ s) (le4 x) := by rw [Nat.zero_xor]
    rw [this, F_xor, F_zeros, Nat.xor_comm]; rfl
  rw [h0, F_zeros, Ln_xor]
  congr 1
  unfold le4
  simp only [F_cons, F_nil, toNat_ofNat8, Nat.zero_xor]
  have step : ∀ y, Ln 8 y = Ln 8 (y / 256 * 256) ^^^ Ln 8 (y % 256) := fun y => by
    rw [← Ln_xor]
    congr 1
    have := split_xor y 8
    rw [Nat.mul_comm] at this
    exact this
  have down : ∀ y, Ln 8 (y * 256) = y := fun y => by have := Ln_shift 8 y; rw [Nat.mul_comm] at this; exact this
  have e1 : Ln 8 x = x / 256 ^^^ Ln 8 (x % 256) := by rw [step, down]
  have e2 : Ln 16 x = x / 65536 ^^^ Ln 8 (Ln 8 (x % 256) ^^^ x / 256 % 256) := by
    rw [show (16 : Nat) = 8 + 8 by decide, Ln_add, e1, Ln_xor, step (x / 256), down, Nat.div_div_eq_div_mul, Ln_xor, Nat.xor_assoc]
    congr 1; exact Nat.xor_comm _ _
  have e3 : Ln 24 x = x / 16777216 ^^^ Ln 8 (Ln 8 (Ln 8 (x % 256) ^^^ x / 256 % 256) ^^^ x / 65536 % 256) := by
    rw [show (24 : Nat) = 16 + 8 by decide, Ln_add, e2, Ln_xor, step (x / 65536), down, Nat.div_div_eq_div_mul, Ln_xor (x := Ln 8 _) (y := x / 65536 % 256), Nat.xor_assoc]
    congr 1; exact Nat.xor_comm _ _
  rw [show (32 : Nat) = 24 + 8 by decide, Ln_add, e3, show x / 16777216 % 256 = x / 16777216 by omega, Nat.xor_comm]

/-- A sealed text. -/
def sealed (bs : List UInt8) : List UInt8 := bs ++ le4 (sumFrom 0 bs)
theorem sum_sealed (bs : List UInt8) : sumFrom 0 (sealed bs) = 558161692 := by
  unfold sealed sumFrom
  rw [F_append, F_le4 _ _ (Nat.xor_lt_two_pow (F_lt (Nat.xor_lt_two_pow (by decide) ones_lt) bs) ones_lt), ← Nat.xor_assoc, Nat.xor_self, Nat.zero_xor]
  decide +kernel

end Go.Proofs.YtlgoacpmacomnaaDoor.Crc
