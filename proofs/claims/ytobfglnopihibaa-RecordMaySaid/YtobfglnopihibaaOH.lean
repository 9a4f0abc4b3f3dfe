/- The reference's small functions: power, there. -/
import Derived.Test.YtobfglnopihibaaOF
import Derived.LoopTactic
namespace Go.Proofs.Ytobfglnopihibaa
open Go.RowKit

def powI (n : Int) : Int := if n = 1 then 256 else if n = 2 then 65536 else if n = 4 then 4294967296 else 0

theorem power_any (n : Int) (w : World) : Calls Try.prog 38 #[.int .i64 n] w fun e w' => e = .returned (.tuple #[.int .u64 (powI n), .bool (sizeB n)]) ∧ w = w' := by
  by_cases h1 : n = 1
  · subst h1
    go_enter Try.func38, Try.ntmps38
    go_wp2
    go_ret2
    exact ⟨rfl, rfl⟩
  by_cases h2 : n = 2
  · subst h2
    go_enter Try.func38, Try.ntmps38
    go_wp2
    go_ret2
    exact ⟨rfl, rfl⟩
  by_cases h4 : n = 4
  · subst h4
    go_enter Try.func38, Try.ntmps38
    go_wp2
    go_ret2
    exact ⟨rfl, rfl⟩
  have e1 : (n == 1) = false := by simpa using h1
  have e2 : (n == 2) = false := by simpa using h2
  have e4 : (n == 4) = false := by simpa using h4
  have hs : sizeB n = (n == 8) := by unfold sizeB; rw [e1, e2, e4]; simp
  have hp : powI n = 0 := by unfold powI; rw [if_neg h1, if_neg h2, if_neg h4]
  rw [hs, hp]
  clear hs hp
  go_enter Try.func38, Try.ntmps38
  go_wp2
  go_ret2
  exact ⟨rfl, rfl⟩

set_option maxHeartbeats 400000 in
theorem there_any (A : Option Addr) (len cap : Nat) (at_ n : Int) (w : World) (hl : len ≤ 281474976710656) (ha : at_ ≤ len) (_hn : -9223372036854775808 ≤ n ∧ n < 9223372036854775808) :
    Calls Try.prog 40 #[.slice A len cap, .int .i64 at_, .int .i64 n] w fun e w' => e = .returned (.bool (insideB len at_ n)) ∧ w = w' := by
  by_cases h0 : at_ < 0
  · have hi : insideB len at_ n = false := by
      have h : decide (0 ≤ at_) = false := by simp; omega
      unfold insideB; rw [h]; simp
    rw [hi]
    clear hi
    go_enter Try.func40, Try.ntmps40
    go_wp2
    go_ret
    exact ⟨rfl, rfl⟩
  by_cases h1 : n < 0
  · have hi : insideB len at_ n = false := by
      have h : decide (0 ≤ n) = false := by simp; omega
      unfold insideB; rw [h]; simp
    rw [hi]
    clear hi
    go_enter Try.func40, Try.ntmps40
    go_wp2
    go_ret
    exact ⟨rfl, rfl⟩
  obtain ⟨a, rfl⟩ : ∃ a : Nat, at_ = a := ⟨at_.toNat, by omega⟩
  obtain ⟨m, rfl⟩ : ∃ m : Nat, n = m := ⟨n.toNat, by omega⟩
  have hal : a ≤ len := by omega
  have hi : insideB len a m = decide ((m : Int) ≤ (len : Int) - (a : Int)) := by
    unfold insideB
    have q1 : decide ((0 : Int) ≤ (a : Int)) = true := by simp
    have q2 : decide ((0 : Int) ≤ (m : Int)) = true := by simp
    have q3 : decide ((a : Int) ≤ (len : Int)) = true := by simp; omega
    rw [q1, q2, q3]; simp
  have HI := Lib.hid hi
  clear hi ha
  go_enter Try.func40, Try.ntmps40
  go_wp2
  go_loop [7, 8] (fun l i => ∃ k : Nat, k ≤ a ∧ i = .int .i64 k ∧ l = .int .i64 ((len - k : Nat) : Int)) (fun _ i => a - (intOf i).toNat)
  case atStart => exact ⟨0, Nat.zero_le _, rfl, rfl⟩
  case round =>
    obtain ⟨k, hk, rfl, rfl⟩ := hrel
    by_cases hlt : k < a
    · obtain ⟨q, hq⟩ : ∃ q, len - k = q := ⟨_, rfl⟩
      have hq0 : ((q : Int) == 0) = false := by rw [beq_eq_false_iff_ne]; omega
      have hq1 : ¬ ((q : Int) = 0) := by omega
      have hqs : len - (k + 1) = q - 1 := by omega
      have HQ := Lib.hid hqs
      have hka : (k : Int) < (a : Int) := by omega
      have hq2 : 1 ≤ q := by omega
      have hqb : q ≤ 281474976710656 := by omega
      rw [hq]
      clear hqs hq
      go_wp2
      go_round
      case rel => exact ⟨k + 1, by omega, by go_num, by rw [HQ.out]; go_num⟩
      case measure => simp [intOf]; omega
    · obtain rfl : k = a := by omega
      have hka : ¬ ((k : Int) < (k : Int)) := by omega
      have e : ((len - k : Nat) : Int) = (len : Int) - (k : Int) := by omega
      rw [e]
      clear e
      go_wp2
      go_ret
      exact ⟨by rw [HI.out]; rfl, rfl⟩

end Go.Proofs.Ytobfglnopihibaa
