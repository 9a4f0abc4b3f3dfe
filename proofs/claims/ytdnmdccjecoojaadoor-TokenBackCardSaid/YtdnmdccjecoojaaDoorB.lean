/- token: bytes, and what a text begins with. -/
import Derived.Test.YtdnmdccjecoojaaDoorF
import Derived.IntWalk
namespace Go.Proofs.YtdnmdccjecoojaaDoor
open Go.RowKit
namespace Tok
def blankB (c : UInt8) : Bool := decide (c.toNat = 9) || decide (c.toNat = 10) || decide (c.toNat = 13) || decide (c.toNat = 32)
def smallB (c : UInt8) : Bool := decide (97 ≤ c.toNat) && decide (c.toNat ≤ 122)
def greatB (c : UInt8) : Bool := decide (65 ≤ c.toNat) && decide (c.toNat ≤ 90)
def digitB (c : UInt8) : Bool := decide (48 ≤ c.toNat) && decide (c.toNat ≤ 57)
def partB (c : UInt8) : Bool := smallB c || greatB c || digitB c || decide (c.toNat = 95)
end Tok
open Tok
theorem small_any (c : UInt8) (w : World) : Calls Tryd.prog 32 #[bv c] w fun e w' => e = .returned (.bool (smallB c)) ∧ w = w' := by
  unfold bv smallB
  obtain ⟨n, hn⟩ : ∃ n, c.toNat = n := ⟨_, rfl⟩
  rw [hn]
  have e1 : decide ((n : Int) ≥ 97) = decide (97 ≤ n) := by simp; omega
  have e2 : decide ((n : Int) ≤ 122) = decide (n ≤ 122) := by simp; omega
  obtain ⟨p, hp⟩ : ∃ p, decide (97 ≤ n) = p := ⟨_, rfl⟩
  obtain ⟨q, hq⟩ : ∃ q, decide (n ≤ 122) = q := ⟨_, rfl⟩
  rw [hp] at e1 ⊢
  rw [hq] at e2 ⊢
  clear hp hq hn
  go_enter Tryd.func32, Tryd.ntmps32
  cases p <;> cases q
  all_goals
    go_wp2_with fail
    go_ret
    exact ⟨rfl, rfl⟩
theorem great_any (c : UInt8) (w : World) : Calls Tryd.prog 33 #[bv c] w fun e w' => e = .returned (.bool (greatB c)) ∧ w = w' := by
  unfold bv greatB
  obtain ⟨n, hn⟩ : ∃ n, c.toNat = n := ⟨_, rfl⟩
  rw [hn]
  have e1 : decide ((n : Int) ≥ 65) = decide (65 ≤ n) := by simp; omega
  have e2 : decide ((n : Int) ≤ 90) = decide (n ≤ 90) := by simp; omega
  obtain ⟨p, hp⟩ : ∃ p, decide (65 ≤ n) = p := ⟨_, rfl⟩
  obtain ⟨q, hq⟩ : ∃ q, decide (n ≤ 90) = q := ⟨_, rfl⟩
  rw [hp] at e1 ⊢
  rw [hq] at e2 ⊢
  clear hp hq hn
  go_enter Tryd.func33, Tryd.ntmps33
  cases p <;> cases q
  all_goals
    go_wp2_with fail
    go_ret
    exact ⟨rfl, rfl⟩
theorem digit_any (c : UInt8) (w : World) : Calls Tryd.prog 37 #[bv c] w fun e w' => e = .returned (.bool (digitB c)) ∧ w = w' := by
  unfold bv digitB
  obtain ⟨n, hn⟩ : ∃ n, c.toNat = n := ⟨_, rfl⟩
  rw [hn]
  have e1 : decide ((n : Int) ≥ 48) = decide (48 ≤ n) := by simp; omega
  have e2 : decide ((n : Int) ≤ 57) = decide (n ≤ 57) := by simp; omega
  obtain ⟨p, hp⟩ : ∃ p, decide (48 ≤ n) = p := ⟨_, rfl⟩
  obtain ⟨q, hq⟩ : ∃ q, decide (n ≤ 57) = q := ⟨_, rfl⟩
  rw [hp] at e1 ⊢
  rw [hq] at e2 ⊢
  clear hp hq hn
  go_enter Tryd.func37, Tryd.ntmps37
  cases p <;> cases q
  all_goals
    go_wp2_with fail
    go_ret
    exact ⟨rfl, rfl⟩
theorem rsmall_any (c : UInt8) (w : World) : Calls Tryd.prog 42 #[bv c] w fun e w' => e = .returned (.bool (smallB c)) ∧ w = w' := by
  unfold bv smallB
  obtain ⟨n, hn⟩ : ∃ n, c.toNat = n := ⟨_, rfl⟩
  rw [hn]
  have e1 : decide ((n : Int) ≥ 97) = decide (97 ≤ n) := by simp; omega
  have e2 : decide ((n : Int) ≤ 122) = decide (n ≤ 122) := by simp; omega
  obtain ⟨p, hp⟩ : ∃ p, decide (97 ≤ n) = p := ⟨_, rfl⟩
  obtain ⟨q, hq⟩ : ∃ q, decide (n ≤ 122) = q := ⟨_, rfl⟩
  rw [hp] at e1 ⊢
  rw [hq] at e2 ⊢
  clear hp hq hn
  go_enter Tryd.func42, Tryd.ntmps42
  cases p <;> cases q
  all_goals
    go_wp2_with fail
    go_ret
    exact ⟨rfl, rfl⟩
theorem rgreat_any (c : UInt8) (w : World) : Calls Tryd.prog 43 #[bv c] w fun e w' => e = .returned (.bool (greatB c)) ∧ w = w' := by
  unfold bv greatB
  obtain ⟨n, hn⟩ : ∃ n, c.toNat = n := ⟨_, rfl⟩
  rw [hn]
  have e1 : decide ((n : Int) ≥ 65) = decide (65 ≤ n) := by simp; omega
  have e2 : decide ((n : Int) ≤ 90) = decide (n ≤ 90) := by simp; omega
  obtain ⟨p, hp⟩ : ∃ p, decide (65 ≤ n) = p := ⟨_, rfl⟩
  obtain ⟨q, hq⟩ : ∃ q, decide (n ≤ 90) = q := ⟨_, rfl⟩
  rw [hp] at e1 ⊢
  rw [hq] at e2 ⊢
  clear hp hq hn
  go_enter Tryd.func43, Tryd.ntmps43
  cases p <;> cases q
  all_goals
    go_wp2_with fail
    go_ret
    exact ⟨rfl, rfl⟩
theorem rdigit_any (c : UInt8) (w : World) : Calls Tryd.prog 45 #[bv c] w fun e w' => e = .returned (.bool (digitB c)) ∧ w = w' := by
  unfold bv digitB
  obtain ⟨n, hn⟩ : ∃ n, c.toNat = n := ⟨_, rfl⟩
  rw [hn]
  have e1 : decide ((n : Int) ≥ 48) = decide (48 ≤ n) := by simp; omega
  have e2 : decide ((n : Int) ≤ 57) = decide (n ≤ 57) := by simp; omega
  obtain ⟨p, hp⟩ : ∃ p, decide (48 ≤ n) = p := ⟨_, rfl⟩
  obtain ⟨q, hq⟩ : ∃ q, decide (n ≤ 57) = q := ⟨_, rfl⟩
  rw [hp] at e1 ⊢
  rw [hq] at e2 ⊢
  clear hp hq hn
  go_enter Tryd.func45, Tryd.ntmps45
  cases p <;> cases q
  all_goals
    go_wp2_with fail
    go_ret
    exact ⟨rfl, rfl⟩
theorem blank_any (c : UInt8) (w : World) : Calls Tryd.prog 29 #[bv c] w fun e w' => e = .returned (.bool (blankB c)) ∧ w = w' := by
  unfold bv blankB
  obtain ⟨n, hn⟩ : ∃ n, c.toNat = n := ⟨_, rfl⟩
  rw [hn]
  have e1 : ((n : Int) == 9) = decide (n = 9) := by rw [Bool.eq_iff_iff]; simp; omega
  have e2 : ((n : Int) == 10) = decide (n = 10) := by rw [Bool.eq_iff_iff]; simp; omega
  have e3 : ((n : Int) == 13) = decide (n = 13) := by rw [Bool.eq_iff_iff]; simp; omega
  have e4 : ((n : Int) == 32) = decide (n = 32) := by rw [Bool.eq_iff_iff]; simp; omega
  obtain ⟨p, hp⟩ : ∃ p, decide (n = 9) = p := ⟨_, rfl⟩
  obtain ⟨q, hq⟩ : ∃ q, decide (n = 10) = q := ⟨_, rfl⟩
  obtain ⟨r, hr⟩ : ∃ r, decide (n = 13) = r := ⟨_, rfl⟩
  obtain ⟨s, hs⟩ : ∃ s, decide (n = 32) = s := ⟨_, rfl⟩
  rw [hp] at e1 ⊢
  rw [hq] at e2 ⊢
  rw [hr] at e3 ⊢
  rw [hs] at e4 ⊢
  clear hp hq hr hs hn
  go_enter Tryd.func29, Tryd.ntmps29
  cases p <;> cases q <;> cases r <;> cases s
  all_goals
    go_wp2_with fail
    go_ret
    exact ⟨rfl, rfl⟩
theorem rpart_any (c : UInt8) (w : World) : Calls Tryd.prog 54 #[bv c] w fun e w' => e = .returned (.bool (partB c)) ∧ w = w' := by
  have H1 := Lib.hid (rsmall_any c w)
  have H2 := Lib.hid (rgreat_any c w)
  have H3 := Lib.hid (rdigit_any c w)
  unfold partB
  have e4 : ((c.toNat : Int) == 95) = decide (c.toNat = 95) := by rw [Bool.eq_iff_iff]; simp; omega
  obtain ⟨p, hp⟩ : ∃ p, smallB c = p := ⟨_, rfl⟩
  obtain ⟨q, hq⟩ : ∃ q, greatB c = q := ⟨_, rfl⟩
  obtain ⟨r, hr⟩ : ∃ r, digitB c = r := ⟨_, rfl⟩
  obtain ⟨s, hs⟩ : ∃ s, decide (c.toNat = 95) = s := ⟨_, rfl⟩
  rw [hp] at H1 ⊢
  rw [hq] at H2 ⊢
  rw [hr] at H3 ⊢
  rw [hs] at e4 ⊢
  unfold bv at H1 H2 H3 ⊢
  obtain ⟨n, hn⟩ : ∃ n, c.toNat = n := ⟨_, rfl⟩
  rw [hn] at H1 H2 H3 e4 ⊢
  clear hp hq hr hs hn
  go_enter Tryd.func54, Tryd.ntmps54
  cases p <;> cases q <;> cases r <;> cases s
  all_goals
    go_wp2_with (first
      | (go_at_call 42; refine Calls.mono H1.out ?_; rintro e w' ⟨rfl, rfl⟩)
      | (go_at_call 43; refine Calls.mono H2.out ?_; rintro e w' ⟨rfl, rfl⟩)
      | (go_at_call 45; refine Calls.mono H3.out ?_; rintro e w' ⟨rfl, rfl⟩))
    go_ret
    exact ⟨rfl, rfl⟩
end Go.Proofs.YtdnmdccjecoojaaDoor
