/- Has, Set, Clear. -/
import Derived.Test.YtfkhgdhfelfegaaDoorB
import Derived.Deep.RegionWith
namespace Go.Proofs.YtfkhgdhfelfegaaDoor
open Go.RowKit Bts

def hasB (S : Nat → Bool) (n : Nat) (i : Int) : Bool := decide (0 ≤ i) && decide (i < n) && S i.toNat

theorem hasB_in (S : Nat → Bool) (n i : Nat) (h : i < n) : hasB S n (i : Int) = S i := by simp [hasB, h]
theorem hasB_out (S : Nat → Bool) (n : Nat) (i : Int) (h : i < 0 ∨ (n : Int) ≤ i) : hasB S n i = false := by
  simp only [hasB, Bool.and_eq_false_iff, decide_eq_false_iff_not]
  omega

set_option maxHeartbeats 400000 in
theorem at_nil (f : Value) (i : Int) (w : World) : Calls Tryd.prog 27 #[.pointer none, .int .i64 i, f] w fun e w' => e = .returned (.bool false) ∧ w = w' := by
  have hs := size_nil w
  by_cases h : i < 0
  · go_enter Tryd.func27, Tryd.ntmps27
    go_wp2_with (go_at_call 23; refine hs.mono ?_; rintro e w' ⟨rfl, rfl⟩)
    go_ret
    exact ⟨rfl, rfl⟩
  · have h' : 0 ≤ i := by omega
    go_enter Tryd.func27, Tryd.ntmps27
    go_wp2_with (go_at_call 23; refine hs.mono ?_; rintro e w' ⟨rfl, rfl⟩)
    go_ret
    exact ⟨rfl, rfl⟩

set_option maxHeartbeats 400000 in
theorem at_out (f : Value) (p n : Nat) (i : Int) (w : World) (hh : w.cell? ⟨p, 0, none⟩ = some (.int .i64 (n : Int))) (hi : i < 0 ∨ (n : Int) ≤ i) :
    Calls Tryd.prog 27 #[.pointer (some ⟨p, 0, none⟩), .int .i64 i, f] w fun e w' => e = .returned (.bool false) ∧ w = w' := by
  have hs := Lib.hid (size_of w p n hh)
  clear hh
  by_cases h : i < 0
  · go_enter Tryd.func27, Tryd.ntmps27
    go_wp2_with (go_at_call 23; refine hs.out.mono ?_; rintro e w' ⟨rfl, rfl⟩)
    go_ret
    exact ⟨rfl, rfl⟩
  · have h' : (n : Int) ≤ i := by omega
    have h2 : 0 ≤ i := by omega
    clear hi
    go_enter Tryd.func27, Tryd.ntmps27
    go_wp2_with (go_at_call 23; refine hs.out.mono ?_; rintro e w' ⟨rfl, rfl⟩)
    go_ret
    exact ⟨rfl, rfl⟩

/-! ### The closures, at one word -/

theorem shl1 (k : Nat) (hk : k < 64) : IntKind.u64.wrap ((2 : Int) ^ k) = ((2 ^ k : Nat) : Int) := by
  have h : (2 : Nat) ^ k < 2 ^ 64 := Nat.pow_lt_pow_right (by decide) hk
  have e : ((2 : Int) ^ k) = ((2 ^ k : Nat) : Int) := by push_cast; rfl
  rw [e]
  generalize (2 : Nat) ^ k = y at *
  exact IntWalk.u64_in _ (by omega)

theorem and_bit (x k : Nat) : (x &&& 2 ^ k = 0) ↔ x.testBit k = false := by
  constructor
  · intro h
    have := congrArg (fun y => Nat.testBit y k) h
    simpa [Nat.testBit_and, Nat.testBit_two_pow] using this
  · intro h
    apply Nat.eq_of_testBit_eq
    intro j
    simp only [Nat.testBit_and, Nat.testBit_two_pow, Nat.zero_testBit]
    by_cases e : k = j
    · subst e; simp [h]
    · simp [e]

theorem has1 (q j x m : Nat) (w : World) (hm : m < 18446744073709551616) (hx : x < 18446744073709551616) (hc : w.cell? ⟨q, j, none⟩ = some (.int .u64 (x : Int))) :
    Calls Tryd.prog 28 #[.pointer (some ⟨q, j, none⟩), .int .u64 (m : Int)] w fun e w' => e = .returned (.bool (!decide (x &&& m = 0))) ∧ w = w' := by
  have ha := bits_and_u64_nat x m hx hm
  have hb : (((x &&& m : Nat) : Int) != 0) = (!decide (x &&& m = 0)) := by
    by_cases h : x &&& m = 0 <;> simp [h]
  clear hx hm
  go_enter Tryd.func28, Tryd.ntmps28
  go_wp2
  go_ret
  exact ⟨rfl, rfl⟩

theorem andnot64 (x m : Nat) (hx : x < 18446744073709551616) (hm : m < 18446744073709551616) : bits .andNot .u64 (x : Int) (m : Int) = ((x ^^^ (x &&& m) : Nat) : Int) := by
  have h1 : (BitVec.ofInt 64 (x : Int)).toNat = x := by
    rw [BitVec.ofInt_natCast, BitVec.toNat_ofNat]; exact Nat.mod_eq_of_lt (by omega)
  have h2 : (BitVec.ofInt 64 (m : Int)).toNat = m := by
    rw [BitVec.ofInt_natCast, BitVec.toNat_ofNat]; exact Nat.mod_eq_of_lt (by omega)
  have e : x &&& (2 ^ 64 - (m + 1)) = x ^^^ (x &&& m) := by
    apply Nat.eq_of_testBit_eq
    intro i
    rw [Nat.testBit_and, Nat.testBit_two_pow_sub_succ (show m < 2 ^ 64 by omega), Nat.testBit_xor, Nat.testBit_and]
    by_cases hi : i < 64
    · cases x.testBit i <;> cases m.testBit i <;> simp [hi]
    · have hxi : x.testBit i = false := Nat.testBit_lt_two_pow (Nat.lt_of_lt_of_le (show x < 2 ^ 64 by omega) (Nat.pow_le_pow_right (by decide) (by omega)))
      simp [hxi]
  have hlt : x ^^^ (x &&& m) < 2 ^ 64 := Nat.xor_lt_two_pow (by omega) (Nat.and_lt_two_pow _ (by omega))
  show IntKind.u64.wrap ((BitVec.ofInt 64 (x : Int) &&& ~~~(BitVec.ofInt 64 (m : Int))).toNat : Int) = _
  rw [BitVec.toNat_and, BitVec.toNat_not, h1, h2, show 2 ^ 64 - 1 - m = 2 ^ 64 - (m + 1) by omega, e]
  generalize x ^^^ (x &&& m) = y at *
  exact IntWalk.u64_in _ (by omega)

theorem bne_nat (x y : Nat) : ((x : Int) != (y : Int)) = (!decide (x = y)) := by
  by_cases h : x = y
  · subst h; simp
  · have : ¬ (x : Int) = (y : Int) := by omega
    simp [h, this]

set_option maxHeartbeats 400000 in
theorem set1 (q j x m y : Nat) (w : World) (ha : bits .or .u64 (x : Int) (m : Int) = (y : Int)) (hc : w.cell? ⟨q, j, none⟩ = some (.int .u64 (x : Int))) (hf : w.frozen? ⟨q, j, none⟩ = false) :
    Calls Tryd.prog 31 #[.pointer (some ⟨q, j, none⟩), .int .u64 (m : Int)] w fun e w' => e = .returned (.bool (!decide (x = y))) ∧ w.setCell ⟨q, j, none⟩ (.int .u64 (y : Int)) = w' := by
  have hb := bne_nat x y
  go_enter Tryd.func31, Tryd.ntmps31
  go_wp2
  go_ret
  exact ⟨rfl, rfl⟩

set_option maxHeartbeats 400000 in
theorem clear1 (q j x m y : Nat) (w : World) (ha : bits .andNot .u64 (x : Int) (m : Int) = (y : Int)) (hc : w.cell? ⟨q, j, none⟩ = some (.int .u64 (x : Int))) (hf : w.frozen? ⟨q, j, none⟩ = false) :
    Calls Tryd.prog 30 #[.pointer (some ⟨q, j, none⟩), .int .u64 (m : Int)] w fun e w' => e = .returned (.bool (!decide (x = y))) ∧ w.setCell ⟨q, j, none⟩ (.int .u64 (y : Int)) = w' := by
  have hb := bne_nat x y
  go_enter Tryd.func30, Tryd.ntmps30
  go_wp2
  go_ret
  exact ⟨rfl, rfl⟩

/-! ### at, where there is a bit -/

theorem pow64 (k : Nat) (hk : k < 64) : 2 ^ k < 18446744073709551616 := by
  have h : (2 : Nat) ^ k < 2 ^ 64 := Nat.pow_lt_pow_right (by decide) hk
  exact h

set_option maxHeartbeats 1000000 in
theorem at_has (p q n i L c x : Nat) (S : Nat → Bool) (w : World) (hi : i < n) (hn : n ≤ 65536) (hL : L = (n + 63) / 64) (hA : At w p q n (i / 64) S L c x) :
    Calls Tryd.prog 27 #[.pointer (some ⟨p, 0, none⟩), .int .i64 (i : Int), .func (.func 28) #[] #[]] w fun e w' => e = .returned (.bool (!decide (x &&& 2 ^ (i % 64) = 0))) ∧ w.drew = w' := by
  have hd := hA.hd
  have sl := hA.sl
  have fz := hA.fz
  have hs := Lib.hid (size_of w p n hd)
  have hsh := shl1 (i % 64) (Nat.mod_lt _ (by decide))
  have hm := pow64 (i % 64) (Nat.mod_lt _ (by decide))
  have h1 : ∀ w' : World, w'.cell? ⟨q, i / 64, none⟩ = some (.int .u64 (x : Int)) → w'.frozen? ⟨q, i / 64, none⟩ = false → _ := fun w' hw _ => has1 q (i / 64) x (2 ^ (i % 64)) w' hm hA.lt hw
  generalize hmm : 2 ^ (i % 64) = m at *
  have H1 := Lib.hid h1
  have wd := hA.wd
  have hil : i / 64 < L := by omega
  clear hA h1 hd hL hm hmm
  obtain ⟨j, hj⟩ : ∃ j, i / 64 = j := ⟨_, rfl⟩
  obtain ⟨k, hk⟩ : ∃ k, i % 64 = k := ⟨_, rfl⟩
  rw [hj] at hil wd fz H1
  try rw [hj]
  rw [hk] at hsh
  have k1 : IntKind.i64.wrap ((i : Int) / 64) = (j : Int) := by rw [IntWalk.i64_in _ (by omega)]; omega
  have k2 : (i : Int) % 64 = (k : Int) := by omega
  have k3 : (i : Int).tmod 64 = (k : Int) := by rw [Int.tmod_eq_emod_of_nonneg (by omega)]; exact k2
  have K1 := Lib.hid k1
  have K2 := Lib.hid k2
  have K3 := Lib.hid k3
  clear hj hk k1 k2 k3
  go_enter Tryd.func27, Tryd.ntmps27
  go_wp2_with (go_at_call 23; refine hs.out.mono ?_; rintro e w' ⟨rfl, rfl⟩)
  have k1 := K1.out
  have k2 := K2.out
  have k3 := K3.out
  go_still_tail 11, (by kernel_rfl)
  go_wp2_with (go_at_call 28; refine (H1.out w.drew wd fz).mono ?_; rintro e w' ⟨rfl, rfl⟩)
  go_ret
  exact ⟨rfl, rfl⟩

set_option maxHeartbeats 1000000 in
theorem at_set (p q n i L c x y : Nat) (S : Nat → Bool) (w : World) (hi : i < n) (hn : n ≤ 65536) (hL : L = (n + 63) / 64) (hA : At w p q n (i / 64) S L c x) (hy : bits .or .u64 (x : Int) ((2 ^ (i % 64) : Nat) : Int) = (y : Int)) :
    Calls Tryd.prog 27 #[.pointer (some ⟨p, 0, none⟩), .int .i64 (i : Int), .func (.func 31) #[] #[]] w fun e w' => e = .returned (.bool (!decide (x = y))) ∧ (w.setCell ⟨q, i / 64, none⟩ (.int .u64 (y : Int))).drew = w' := by
  have hd := hA.hd
  have sl := hA.sl
  have fz := hA.fz
  have hs := Lib.hid (size_of w p n hd)
  have hsh := shl1 (i % 64) (Nat.mod_lt _ (by decide))
  have hm := pow64 (i % 64) (Nat.mod_lt _ (by decide))
  have h1 : ∀ w' : World, w'.cell? ⟨q, i / 64, none⟩ = some (.int .u64 (x : Int)) → w'.frozen? ⟨q, i / 64, none⟩ = false → _ := fun w' hw hf => set1 q (i / 64) x (2 ^ (i % 64)) y w' hy hw hf
  generalize hmm : 2 ^ (i % 64) = m at *
  have H1 := Lib.hid h1
  have wd := hA.wd
  have hil : i / 64 < L := by omega
  clear hA h1 hd hL hm hmm hy
  obtain ⟨j, hj⟩ : ∃ j, i / 64 = j := ⟨_, rfl⟩
  obtain ⟨k, hk⟩ : ∃ k, i % 64 = k := ⟨_, rfl⟩
  rw [hj] at hil wd fz H1
  try rw [hj]
  rw [hk] at hsh
  have k1 : IntKind.i64.wrap ((i : Int) / 64) = (j : Int) := by rw [IntWalk.i64_in _ (by omega)]; omega
  have k2 : (i : Int) % 64 = (k : Int) := by omega
  have k3 : (i : Int).tmod 64 = (k : Int) := by rw [Int.tmod_eq_emod_of_nonneg (by omega)]; exact k2
  have K1 := Lib.hid k1
  have K2 := Lib.hid k2
  have K3 := Lib.hid k3
  clear hj hk k1 k2 k3
  go_enter Tryd.func27, Tryd.ntmps27
  go_wp2_with (go_at_call 23; refine hs.out.mono ?_; rintro e w' ⟨rfl, rfl⟩)
  have k1 := K1.out
  have k2 := K2.out
  have k3 := K3.out
  go_still_tail 11, (by kernel_rfl)
  go_wp2_with (go_at_call 31; refine (H1.out w.drew wd fz).mono ?_; rintro e w' ⟨rfl, rfl⟩)
  go_ret
  exact ⟨rfl, rfl⟩

set_option maxHeartbeats 1000000 in
theorem at_clear (p q n i L c x y : Nat) (S : Nat → Bool) (w : World) (hi : i < n) (hn : n ≤ 65536) (hL : L = (n + 63) / 64) (hA : At w p q n (i / 64) S L c x) (hy : bits .andNot .u64 (x : Int) ((2 ^ (i % 64) : Nat) : Int) = (y : Int)) :
    Calls Tryd.prog 27 #[.pointer (some ⟨p, 0, none⟩), .int .i64 (i : Int), .func (.func 30) #[] #[]] w fun e w' => e = .returned (.bool (!decide (x = y))) ∧ (w.setCell ⟨q, i / 64, none⟩ (.int .u64 (y : Int))).drew = w' := by
  have hd := hA.hd
  have sl := hA.sl
  have fz := hA.fz
  have hs := Lib.hid (size_of w p n hd)
  have hsh := shl1 (i % 64) (Nat.mod_lt _ (by decide))
  have hm := pow64 (i % 64) (Nat.mod_lt _ (by decide))
  have h1 : ∀ w' : World, w'.cell? ⟨q, i / 64, none⟩ = some (.int .u64 (x : Int)) → w'.frozen? ⟨q, i / 64, none⟩ = false → _ := fun w' hw hf => clear1 q (i / 64) x (2 ^ (i % 64)) y w' hy hw hf
  generalize hmm : 2 ^ (i % 64) = m at *
  have H1 := Lib.hid h1
  have wd := hA.wd
  have hil : i / 64 < L := by omega
  clear hA h1 hd hL hm hmm hy
  obtain ⟨j, hj⟩ : ∃ j, i / 64 = j := ⟨_, rfl⟩
  obtain ⟨k, hk⟩ : ∃ k, i % 64 = k := ⟨_, rfl⟩
  rw [hj] at hil wd fz H1
  try rw [hj]
  rw [hk] at hsh
  have k1 : IntKind.i64.wrap ((i : Int) / 64) = (j : Int) := by rw [IntWalk.i64_in _ (by omega)]; omega
  have k2 : (i : Int) % 64 = (k : Int) := by omega
  have k3 : (i : Int).tmod 64 = (k : Int) := by rw [Int.tmod_eq_emod_of_nonneg (by omega)]; exact k2
  have K1 := Lib.hid k1
  have K2 := Lib.hid k2
  have K3 := Lib.hid k3
  clear hj hk k1 k2 k3
  go_enter Tryd.func27, Tryd.ntmps27
  go_wp2_with (go_at_call 23; refine hs.out.mono ?_; rintro e w' ⟨rfl, rfl⟩)
  have k1 := K1.out
  have k2 := K2.out
  have k3 := K3.out
  go_still_tail 11, (by kernel_rfl)
  go_wp2_with (go_at_call 30; refine (H1.out w.drew wd fz).mono ?_; rintro e w' ⟨rfl, rfl⟩)
  go_ret
  exact ⟨rfl, rfl⟩

end Go.Proofs.YtfkhgdhfelfegaaDoor
