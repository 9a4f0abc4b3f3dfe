/- Has, Set, Clear, Count, Low of a set as it lies in memory. -/
import Derived.Test.YtfkhgdhfelfegaaDoorC
namespace Go.Proofs.YtfkhgdhfelfegaaDoor
open Go.RowKit Bts

def ins (S : Nat → Bool) (n : Nat) (i : Int) : Nat → Bool := fun j => S j || (decide ((j : Int) = i) && decide (j < n))
def del (S : Nat → Bool) (i : Int) : Nat → Bool := fun j => S j && !decide ((j : Int) = i)
def setB (S : Nat → Bool) (n : Nat) (i : Int) : Bool := decide (0 ≤ i) && decide (i < n) && !S i.toNat

theorem bit_of {w : World} {p q n i L c x : Nat} {S : Nat → Bool} (hA : At w p q n (i / 64) S L c x) : x.testBit (i % 64) = S i := by
  rw [hA.bit _ (Nat.mod_lt _ (by decide)), show 64 * (i / 64) + i % 64 = i by omega]

theorem or_same (x k : Nat) : x = x ||| 2 ^ k ↔ x.testBit k = true := by
  constructor
  · intro h
    rw [h, Nat.testBit_or, Nat.testBit_two_pow]; simp
  · intro h
    apply Nat.eq_of_testBit_eq
    intro j
    rw [Nat.testBit_or, Nat.testBit_two_pow]
    by_cases e : k = j
    · subst e; simp [h]
    · simp [e]
theorem xor_same (x k : Nat) : x = x ^^^ (x &&& 2 ^ k) ↔ x.testBit k = false := by
  constructor
  · intro h
    have := congrArg (fun y => Nat.testBit y k) h
    simp only [Nat.testBit_xor, Nat.testBit_and, Nat.testBit_two_pow] at this
    cases hx : x.testBit k <;> simp [hx] at this ⊢
  · intro h
    apply Nat.eq_of_testBit_eq
    intro j
    rw [Nat.testBit_xor, Nat.testBit_and, Nat.testBit_two_pow]
    by_cases e : k = j
    · subst e; simp [h]
    · simp [e]

theorem grown_sd (w : World) (q j : Nat) (v : Value) : w.grownBy (w.setCell ⟨q, j, none⟩ v).drew (some q) := grown_trans (grown_set w q j v) (grown_drew _ _)

theorem has_any (p q n : Nat) (i : Int) (S : Nat → Bool) (w : World) (h : Bs w p q n S) :
    Calls Tryd.prog 12 #[.pointer (some ⟨p, 0, none⟩), .int .i64 i] w fun e w' => e = .returned (.bool (hasB S n i)) ∧ (w' = w ∨ w' = w.drew) := by
  by_cases hi : 0 ≤ i ∧ i < n
  · obtain ⟨i, rfl⟩ : ∃ k : Nat, i = k := ⟨i.toNat, by omega⟩
    have hin : i < n := by omega
    obtain ⟨L, c, x, hL, hc1, hc2, hA, _⟩ := h.at_ hin
    have hc := at_has p q n i L c x S w hin h.top hL hA
    have hr : (!decide (x &&& 2 ^ (i % 64) = 0)) = hasB S n (i : Int) := by
      rw [hasB_in S n i hin, ← bit_of hA]
      have := and_bit x (i % 64)
      by_cases e : x.testBit (i % 64) = true
      · rw [e] at this ⊢; simp [this]
      · have e' : x.testBit (i % 64) = false := by simpa using e
        rw [e'] at this ⊢; simp [this]
    rw [hr] at hc
    have H := Lib.hid hc
    clear hc hr hA h hi hin hL hc1 hc2
    go_enter Tryd.func12, Tryd.ntmps12
    go_wp2_with (go_at_call 27; refine H.out.mono ?_; rintro e w' ⟨rfl, rfl⟩)
    go_ret
    exact ⟨rfl, .inr rfl⟩
  · have hc := at_out (.func (.func 28) #[] #[]) p n i w h.head (by omega)
    have hr := hasB_out S n i (by omega)
    rw [← hr] at hc
    have H := Lib.hid hc
    clear hc hr h hi
    go_enter Tryd.func12, Tryd.ntmps12
    go_wp2_with (go_at_call 27; refine H.out.mono ?_; rintro e w' ⟨rfl, rfl⟩)
    go_ret
    exact ⟨rfl, .inl rfl⟩

theorem has_nil (i : Int) (w : World) :
    Calls Tryd.prog 12 #[.pointer none, .int .i64 i] w fun e w' => e = .returned (.bool false) ∧ w = w' := by
  have H := Lib.hid (at_nil (.func (.func 28) #[] #[]) i w)
  go_enter Tryd.func12, Tryd.ntmps12
  go_wp2_with (go_at_call 27; refine H.out.mono ?_; rintro e w' ⟨rfl, rfl⟩)
  go_ret
  exact ⟨rfl, rfl⟩
theorem set_nil (i : Int) (w : World) :
    Calls Tryd.prog 18 #[.pointer none, .int .i64 i] w fun e w' => e = .returned (.bool false) ∧ w = w' := by
  have H := Lib.hid (at_nil (.func (.func 31) #[] #[]) i w)
  go_enter Tryd.func18, Tryd.ntmps18
  go_wp2_with (go_at_call 27; refine H.out.mono ?_; rintro e w' ⟨rfl, rfl⟩)
  go_ret
  exact ⟨rfl, rfl⟩
theorem clear_nil (i : Int) (w : World) :
    Calls Tryd.prog 16 #[.pointer none, .int .i64 i] w fun e w' => e = .returned (.bool false) ∧ w = w' := by
  have H := Lib.hid (at_nil (.func (.func 30) #[] #[]) i w)
  go_enter Tryd.func16, Tryd.ntmps16
  go_wp2_with (go_at_call 27; refine H.out.mono ?_; rintro e w' ⟨rfl, rfl⟩)
  go_ret
  exact ⟨rfl, rfl⟩

theorem or_lt (x k : Nat) (hx : x < 18446744073709551616) (hk : k < 64) : x ||| 2 ^ k < 18446744073709551616 :=
  Nat.or_lt_two_pow (n := 64) hx (Nat.pow_lt_pow_right (by decide) hk)

theorem set_any (p q n : Nat) (i : Int) (S : Nat → Bool) (w : World) (h : Bs w p q n S) :
    Calls Tryd.prog 18 #[.pointer (some ⟨p, 0, none⟩), .int .i64 i] w fun e w' => e = .returned (.bool (setB S n i)) ∧ Bs w' p q n (ins S n i) ∧ w.grownBy w' (some q) := by
  by_cases hi : 0 ≤ i ∧ i < n
  · obtain ⟨i, rfl⟩ : ∃ k : Nat, i = k := ⟨i.toNat, by omega⟩
    have hin : i < n := by omega
    obtain ⟨L, c, x, hL, hc1, hc2, hA, hset⟩ := h.at_ hin
    have hk : i % 64 < 64 := Nat.mod_lt _ (by decide)
    have hc := at_set p q n i L c x (x ||| 2 ^ (i % 64)) S w hin h.top hL hA (bits_or_u64_nat _ _ hA.lt (pow64 _ hk))
    have hr : (!decide (x = x ||| 2 ^ (i % 64))) = setB S n (i : Int) := by
      have e := or_same x (i % 64)
      rw [bit_of hA] at e
      simp only [setB, Int.toNat_natCast]
      cases hS : S i
      · rw [hS] at e; simp [e, hi]
      · rw [hS] at e; simpa using e.2 rfl
    rw [hr] at hc
    have hT := hset (x ||| 2 ^ (i % 64)) (or_lt _ _ hA.lt hk) (ins S n (i : Int)) (fun k hk => by
        rw [Nat.testBit_or, Nat.testBit_two_pow, hA.bit k hk]
        simp only [ins]
        by_cases e : i % 64 = k
        · have e2 : 64 * (i / 64) + k = i := by omega
          simp [e, e2, hin]
        · have e2 : ¬ ((64 * (i / 64) + k : Nat) : Int) = (i : Int) := by omega
          simp only [e, e2, decide_false, Bool.false_and])
      (fun j hj => by
        have : ¬ ((j : Int) = (i : Int)) := fun e => hj (by rw [show j = i by omega])
        simp [ins, this])
      (fun j hj => by
        have : ¬ (j < n) := by omega
        simp [ins, this, h.out j hj])
    have HT := Lib.hid (hT.kept (grown_drew _ none) (by simp) (by simp))
    have H := Lib.hid hc
    clear hc hr hA h hi hin hL hc1 hc2 hset hT
    go_enter Tryd.func18, Tryd.ntmps18
    go_wp2_with (go_at_call 27; refine H.out.mono ?_; rintro e w' ⟨rfl, rfl⟩)
    go_ret
    exact ⟨rfl, HT.out, grown_sd _ _ _ _⟩
  · have hc := at_out (.func (.func 31) #[] #[]) p n i w h.head (by omega)
    have hr : setB S n i = false := by
      simp only [setB, Bool.and_eq_false_iff, decide_eq_false_iff_not]; omega
    rw [← hr] at hc
    have HT := Lib.hid (h.congr (T := ins S n i) fun j => by
      have : (decide ((j : Int) = i) && decide (j < n)) = false := by simp only [Bool.and_eq_false_iff, decide_eq_false_iff_not]; omega
      simp [ins, this])
    have H := Lib.hid hc
    clear hc hr h hi
    go_enter Tryd.func18, Tryd.ntmps18
    go_wp2_with (go_at_call 27; refine H.out.mono ?_; rintro e w' ⟨rfl, rfl⟩)
    go_ret
    exact ⟨rfl, HT.out, World.grownBy.refl w _⟩

theorem clear_any (p q n : Nat) (i : Int) (S : Nat → Bool) (w : World) (h : Bs w p q n S) :
    Calls Tryd.prog 16 #[.pointer (some ⟨p, 0, none⟩), .int .i64 i] w fun e w' => e = .returned (.bool (hasB S n i)) ∧ Bs w' p q n (del S i) ∧ w.grownBy w' (some q) := by
  by_cases hi : 0 ≤ i ∧ i < n
  · obtain ⟨i, rfl⟩ : ∃ k : Nat, i = k := ⟨i.toNat, by omega⟩
    have hin : i < n := by omega
    obtain ⟨L, c, x, hL, hc1, hc2, hA, hset⟩ := h.at_ hin
    have hk : i % 64 < 64 := Nat.mod_lt _ (by decide)
    have hc := at_clear p q n i L c x (x ^^^ (x &&& 2 ^ (i % 64))) S w hin h.top hL hA (andnot64 _ _ hA.lt (pow64 _ hk))
    have hr : (!decide (x = x ^^^ (x &&& 2 ^ (i % 64)))) = hasB S n (i : Int) := by
      have e := xor_same x (i % 64)
      rw [bit_of hA] at e
      rw [hasB_in S n i hin]
      cases hS : S i
      · rw [hS] at e; simpa using e.2 rfl
      · rw [hS] at e; simp [e]
    rw [hr] at hc
    have hT := hset (x ^^^ (x &&& 2 ^ (i % 64))) (Nat.xor_lt_two_pow (n := 64) hA.lt (Nat.and_lt_two_pow _ (pow64 _ hk))) (del S (i : Int)) (fun k hk => by
        rw [Nat.testBit_xor, Nat.testBit_and, Nat.testBit_two_pow, hA.bit k hk]
        simp only [del]
        by_cases e : i % 64 = k
        · have e2 : 64 * (i / 64) + k = i := by omega
          simp [e, e2]
        · have e2 : ¬ ((64 * (i / 64) + k : Nat) : Int) = (i : Int) := by omega
          simp only [e, e2, decide_false, Bool.and_false, Bool.xor_false, Bool.not_false, Bool.and_true])
      (fun j hj => by
        have : ¬ ((j : Int) = (i : Int)) := fun e => hj (by rw [show j = i by omega])
        simp [del, this])
      (fun j hj => by simp [del, h.out j hj])
    have HT := Lib.hid (hT.kept (grown_drew _ none) (by simp) (by simp))
    have H := Lib.hid hc
    clear hc hr hA h hi hin hL hc1 hc2 hset hT
    go_enter Tryd.func16, Tryd.ntmps16
    go_wp2_with (go_at_call 27; refine H.out.mono ?_; rintro e w' ⟨rfl, rfl⟩)
    go_ret
    exact ⟨rfl, HT.out, grown_sd _ _ _ _⟩
  · have hc := at_out (.func (.func 30) #[] #[]) p n i w h.head (by omega)
    have hr := hasB_out S n i (by omega)
    rw [← hr] at hc
    have ho := h.out
    have HT := Lib.hid (h.congr (T := del S i) fun j => by
      by_cases e : (j : Int) = i
      · simp [del, e, ho j (by omega)]
      · simp [del, e])
    have H := Lib.hid hc
    clear hc hr h hi ho
    go_enter Tryd.func16, Tryd.ntmps16
    go_wp2_with (go_at_call 27; refine H.out.mono ?_; rintro e w' ⟨rfl, rfl⟩)
    go_ret
    exact ⟨rfl, HT.out, World.grownBy.refl w _⟩

end Go.Proofs.YtfkhgdhfelfegaaDoor
