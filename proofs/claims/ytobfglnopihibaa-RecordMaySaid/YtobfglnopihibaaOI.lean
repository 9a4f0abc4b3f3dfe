/- The reference's Get. -/
import Derived.Test.YtobfglnopihibaaOH
namespace Go.Proofs.Ytobfglnopihibaa
open Go.RowKit

theorem inside_nat {len : Nat} {at_ n : Int} (h : insideB len at_ n = true) : ∃ a m : Nat, at_ = a ∧ n = m ∧ a + m ≤ len := by
  simp [insideB] at h
  obtain ⟨⟨⟨h1, h2⟩, h3⟩, h4⟩ := h
  exact ⟨at_.toNat, n.toNat, by omega, by omega, by omega⟩

set_option maxHeartbeats 400000 in
theorem refget_no (A : Option Addr) (len cap : Nat) (at_ n : Int) (w : World) (hl : len ≤ 281474976710656) (hn : -9223372036854775808 ≤ n ∧ n < 9223372036854775808) (h : sizeB n = false ∨ insideB len at_ n = false) :
    Calls Try.prog 32 #[.slice A len cap, .int .i64 at_, .int .i64 n] w fun e w' => e = .returned (.tuple #[.int .u64 0, .int .i64 1]) ∧ w = w' := by
  have HP := Lib.hid (power_any n w)
  by_cases hs : sizeB n = true
  · have hi : insideB len at_ n = false := by
      rcases h with h | h
      · rw [hs] at h; cases h
      · exact h
    rw [hs] at HP
    by_cases ha : at_ ≤ len
    · have ht := there_any A len cap at_ n w hl ha hn
      rw [hi] at ht
      have HT := Lib.hid ht
      clear ht hi h hs
      go_enter Try.func32, Try.ntmps32
      go_wp2_with (first
        | (go_at_call 38; refine HP.out.mono ?_; rintro e w' ⟨rfl, rfl⟩)
        | (go_at_call 40; refine HT.out.mono ?_; rintro e w' ⟨rfl, rfl⟩))
      go_ret2
      exact ⟨rfl, rfl⟩
    · have ha2 : (len : Int) < at_ := by omega
      clear hi h hs
      go_enter Try.func32, Try.ntmps32
      go_wp2_with (first
        | (go_at_call 38; refine HP.out.mono ?_; rintro e w' ⟨rfl, rfl⟩))
      go_ret2
      exact ⟨rfl, rfl⟩
  · have hs' : sizeB n = false := by simpa using hs
    rw [hs'] at HP
    clear h hs hs'
    go_enter Try.func32, Try.ntmps32
    go_wp2_with (first
      | (go_at_call 38; refine HP.out.mono ?_; rintro e w' ⟨rfl, rfl⟩))
    go_ret2
    exact ⟨rfl, rfl⟩

theorem refget_step (l : List UInt8) (q : Nat) (hq : q < l.length) (h8 : l.length ≤ 8) : ((256 * (leN (l.drop (q + 1)) : Int)) % 18446744073709551616 + (l[q].toNat : Int)) % 18446744073709551616 = (leN (l.drop q) : Int) := by
  have e : l.drop q = l[q] :: l.drop (q + 1) := List.drop_eq_getElem_cons hq
  have hlt := leN_lt (l.drop q)
  have hp : 256 ^ (l.drop q).length ≤ 256 ^ 8 := Nat.pow_le_pow_right (by decide) (by simp; omega)
  rw [e, leN] at hlt
  rw [e, leN]
  have : (256 : Nat) ^ 8 = 18446744073709551616 := by decide
  have h2 : l[q].toNat + 256 * leN (l.drop (q + 1)) < 18446744073709551616 := by rw [e] at hp; omega
  omega

set_option maxHeartbeats 400000 in
theorem refget_ok (A : Option Addr) (len cap at_ n : Nat) (bs : List UInt8) (w : World) (hbl : bs.length = len) (hn : sizeB n = true) (hle : at_ + n ≤ len) (hl : len ≤ 281474976710656) (hA : Bytes w A bs) :
    Calls Try.prog 32 #[.slice A len cap, .int .i64 at_, .int .i64 n] w fun e w' => e = .returned (.tuple #[.int .u64 (leN (fieldOf bs at_ n) : Int), .int .i64 0]) ∧ w = w' := by
  have hn8 : n ≤ 8 ∧ 1 ≤ n := by have := (sizeB_iff n).1 hn; omega
  have HP := Lib.hid (power_any n w)
  rw [hn] at HP
  have ht := there_any A len cap at_ n w hl (by omega) (by omega)
  have hi : insideB len at_ n = true := by simp [insideB]; omega
  rw [hi] at ht
  have HT := Lib.hid ht
  obtain ⟨fb, hfb⟩ : ∃ fb, fieldOf bs at_ n = fb := ⟨_, rfl⟩
  have hfl : fb.length = n := by rw [← hfb]; unfold fieldOf; simp; omega
  have hget : ∀ q (hq : q < fb.length), bs[at_ + q]? = some fb[q] := by
    intro q hq
    have h1 : fb[q]? = some fb[q] := List.getElem?_eq_getElem hq
    rw [← h1, ← hfb]
    unfold fieldOf
    rw [List.getElem?_take_of_lt (by omega), List.getElem?_drop]
  rw [hfb]
  have HG := Lib.hid hget
  have HFL := Lib.hid hfl
  have HA := Lib.hid hA
  have hal : ¬ ((len : Int) < (at_ : Int)) := by omega
  clear hn ht hi hfb hget hfl hA
  go_enter Try.func32, Try.ntmps32
  go_wp2_with (first
    | (go_at_call 38; refine HP.out.mono ?_; rintro e w' ⟨rfl, rfl⟩)
    | (go_at_call 40; refine HT.out.mono ?_; rintro e w' ⟨rfl, rfl⟩))
  go_loop [10, 11] (fun x i => ∃ j : Nat, j ≤ n ∧ i = .int .i64 ((j : Int) - 1) ∧ x = .int .u64 (leN (fb.drop j) : Int)) (fun _ i => (intOf i + 1).toNat)
  case atStart => exact ⟨n, Nat.le_refl _, rfl, by rw [List.drop_eq_nil_of_le (Nat.le_of_eq HFL.out)]; rfl⟩
  case round =>
    obtain ⟨j, hj, rfl, rfl⟩ := hrel
    cases j with
    | zero =>
      go_wp2
      go_ret2
      exact ⟨rfl, rfl⟩
    | succ q =>
      have hq : q < fb.length := by rw [HFL.out]; omega
      have hb := HG.out q hq
      obtain ⟨b, off, rfl, _, hc⟩ := HA.out.at_ (k := at_ + q) (by omega)
      have hc2 := hc _ _ hb
      have hstep := refget_step fb q hq (by rw [HFL.out]; omega)
      have hcl := fb[q].toNat_lt
      obtain ⟨p, hp⟩ : ∃ p, at_ + q = p := ⟨_, rfl⟩
      rw [hp] at hc2
      generalize fb[q].toNat = c at *
      have e1 : (((q + 1 : Nat) : Int) - 1) = (q : Int) := by omega
      have e2 : (at_ : Int) + (q : Int) = (p : Int) := by omega
      have hpl : (p : Int) < (len : Int) := by omega
      have HST := Lib.hid hstep
      rw [e1]
      clear hb hc hstep hp e1
      go_wp2
      go_round
      case rel => exact ⟨q, by omega, rfl, by rw [← HST.out, IntKind.wrap_u64, IntKind.wrap_u64]⟩
      case measure => simp [intOf]

end Go.Proofs.Ytobfglnopihibaa
