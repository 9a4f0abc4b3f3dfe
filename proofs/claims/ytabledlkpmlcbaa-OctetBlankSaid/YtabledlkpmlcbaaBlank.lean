/- OctetBlank: to fill up twice is to fill up once, to the greater number; what is blank says 0. -/
import Derived.Test.YtabledlkpmlcbaaG
import Derived.Lib.MinMax
namespace Go.Proofs.Ytabledlkpmlcbaa
open Go.RowKit

theorem leN_zero (n : Nat) : leN (List.replicate n 0) = 0 := by
  induction n with
  | zero => rfl
  | succ n ih => simp [List.replicate_succ, leN, ih]
theorem filled_field {bs : List UInt8} {n at_ : Nat} (h : bs.length + at_ + 4 ≤ n) : leN (fieldOf (filled bs n) (bs.length + at_) 4) = 0 := by
  have e : fieldOf (filled bs n) (bs.length + at_) 4 = List.replicate 4 0 := by
    unfold fieldOf filled
    rw [List.drop_append, List.drop_eq_nil_of_le (by omega), List.nil_append, List.drop_replicate, List.take_replicate]
    congr 1; omega
  rw [e, leN_zero]
theorem filled_length {bs : List UInt8} {n : Nat} (h : bs.length ≤ n) : (filled bs n).length = n := by unfold filled; simp; omega
theorem filled_filled {bs : List UInt8} {n m : Nat} (h : bs.length ≤ n) (hm : n ≤ m) : filled (filled bs n) m = filled bs (max n m) := by
  unfold filled
  simp [Nat.max_eq_right hm]
  omega

set_option maxHeartbeats 1000000 in
theorem blank_any (A : Option Addr) (cap n m at_ : Nat) (bs : List UInt8) (w : World) (hA : Bytes w A bs) (hn : n < 65536) (hm : m < 65536) (ha : at_ < 65536) :
    Calls Try.prog 6 #[.slice A bs.length cap, .int .u16 n, .int .u16 m, .int .u16 at_] w fun e W' => e = .returned (.bool true) ∧ Below w.heap.size w W' := by
  by_cases h0 : bs.length > 16384
  · go_enter Try.func6, Try.ntmps6
    go_wp2_with (go_at_call 8; refine (works_any _).mono ?_; rintro e w' ⟨rfl, hB⟩)
    go_ret
    exact ⟨rfl, hB⟩
  · by_cases h1 : bs.length ≤ n
    · have HA := Lib.hid hA
      clear hA
      go_enter Try.func6, Try.ntmps6
      go_wp2_with fail
      refine (fill_ok A cap n bs w h1 (by omega) HA.out).mono ?_
      rintro e W1 ⟨rfl, hR1, hB1⟩
      have hl1 : (filled bs n).length = n := filled_length h1
      have hA1 : Bytes W1 (some ⟨w.heap.size, 0, none⟩) (filled bs n) := Bytes.row hR1
      have hAb1 : Bytes W1 A bs := HA.out.below hB1
      have hlt1 : w.heap.size < W1.heap.size := hR1.lt
      by_cases h2 : n ≤ m
      · have f2 := fill_okL (some ⟨w.heap.size, 0, none⟩) n n m (filled bs n) W1 hl1 h2 (by omega) hA1
        have F2 := Lib.hid f2
        have HA1 := Lib.hid hA1
        have HAb1 := Lib.hid hAb1
        have HB1 := Lib.hid hB1
        have HL1 := Lib.hid hl1
        clear f2 hA1 hAb1 hB1 hl1 hR1
        go_wp2_with fail
        refine F2.out.mono ?_
        rintro e W2 ⟨rfl, hR2, hB2⟩
        have hB02 : Below w.heap.size w W2 := HB1.out.trans (hB2.mono (by omega))
        have hlt2 : W1.heap.size < W2.heap.size := hR2.lt
        have hmx : max n m = m := Nat.max_eq_right h2
        have hmxi : max (n : Int) (m : Int) = (m : Int) := by omega
        have f3 := fill_ok A cap m bs W2 (by omega) (by omega) (HAb1.out.below hB2)
        have F3 := Lib.hid f3
        have HA12 := Lib.hid (HA1.out.below hB2)
        have HA2 : Hid (Bytes W2 (some ⟨W1.heap.size, 0, none⟩) (filled (filled bs n) m)) := Lib.hid (Bytes.row hR2)
        have HB02 := Lib.hid hB02
        clear f3 hR2 hB2 hB02 F2 HAb1 hmx
        go_wp2_with fail
        refine F3.out.mono ?_
        rintro e W3 ⟨rfl, hR3, hB3⟩
        have hB03 : Below w.heap.size w W3 := HB02.out.trans (hB3.mono (by omega))
        have hlt3 : W2.heap.size < W3.heap.size := hR3.lt
        have hc1 := run_str8L W3 (some ⟨W1.heap.size, 0, none⟩) m m (filled (filled bs n) m) (filled_length (by rw [HL1.out]; exact h2)) (HA2.out.below hB3)
        have hc2 := run_str8L W3 (some ⟨W2.heap.size, 0, none⟩) m m (filled bs m) (filled_length (by omega)) (Bytes.row hR3)
        have heq := str_eq (a := filled (filled bs n) m) (b := filled bs m) (by rw [filled_filled h1 h2, Nat.max_eq_right h2])
        have hA3 : Bytes W3 (some ⟨w.heap.size, 0, none⟩) (filled bs n) := HA12.out.below hB3
        by_cases hg : bs.length + at_ + 4 ≤ n
        · have g := get_okL (some ⟨w.heap.size, 0, none⟩) n n (bs.length + at_) 4 (filled bs n) W3 HL1.out (by decide) (by omega) (by unfold maxLen; omega) hA3
          rw [filled_field hg, show ((bs.length + at_ : Nat) : Int) = (bs.length : Int) + (at_ : Int) by omega] at g
          have G := Lib.hid g
          have HB03 := Lib.hid hB03
          clear g hA3 hR3 hB3 hB03 F3 HA12 HA2 HA1
          go_wp2_with fail
          refine G.out.mono ?_
          rintro e W4 ⟨rfl, hB4⟩
          have hB04 : Below w.heap.size w W4 := HB03.out.trans (hB4.mono (by omega))
          have HB04 := Lib.hid hB04
          have hw4 := hB4.size
          clear hB4 hB04 hc1 hc2 heq
          go_wp2_with (go_at_call 8; refine (works_any _).mono ?_; rintro e w' ⟨rfl, hB⟩)
          go_ret
          exact ⟨rfl, HB04.out.trans (hB.mono (by omega))⟩
        · have g := get_no (some ⟨w.heap.size, 0, none⟩) n n ((bs.length : Int) + (at_ : Int)) 4 W3 (by unfold maxLen; omega) (by omega) (by omega) (.inr (by simp [insideB]; omega))
          have hgb : decide ((bs.length : Int) + (at_ : Int) + 4 ≤ (n : Int)) = false := by simp; omega
          have G := Lib.hid g
          have HB03 := Lib.hid hB03
          clear g hA3 hR3 hB3 hB03 F3 HA12 HA2 HA1
          go_wp2_with fail
          refine G.out.mono ?_
          rintro e W4 ⟨rfl, rfl⟩
          clear hc1 hc2 heq
          go_wp2_with (go_at_call 8; refine (works_any _).mono ?_; rintro e w' ⟨rfl, hB⟩)
          go_ret
          exact ⟨rfl, HB03.out.trans (hB.mono (by omega))⟩
      · have f2 := fill_no (some ⟨w.heap.size, 0, none⟩) n n m W1 (.inl (by omega))
        have F2 := Lib.hid f2
        have HA1 := Lib.hid hA1
        have HAb1 := Lib.hid hAb1
        have HB1 := Lib.hid hB1
        have HL1 := Lib.hid hl1
        clear f2 hA1 hAb1 hB1 hl1 hR1
        go_wp2_with fail
        refine F2.out.mono ?_
        rintro e W2 ⟨rfl, rfl⟩
        have hmxi : max (n : Int) (m : Int) = (n : Int) := by omega
        have f3 := fill_ok A cap n bs W1 (by omega) (by omega) HAb1.out
        have F3 := Lib.hid f3
        clear f3 F2
        go_wp2_with fail
        refine F3.out.mono ?_
        rintro e W3 ⟨rfl, hR3, hB3⟩
        have hB03 : Below w.heap.size w W3 := HB1.out.trans (hB3.mono (by omega))
        have hlt3 : W1.heap.size < W3.heap.size := hR3.lt
        have hA3 : Bytes W3 (some ⟨w.heap.size, 0, none⟩) (filled bs n) := HA1.out.below hB3
        by_cases hg : bs.length + at_ + 4 ≤ n
        · have g := get_okL (some ⟨w.heap.size, 0, none⟩) n n (bs.length + at_) 4 (filled bs n) W3 HL1.out (by decide) (by omega) (by unfold maxLen; omega) hA3
          rw [filled_field hg, show ((bs.length + at_ : Nat) : Int) = (bs.length : Int) + (at_ : Int) by omega] at g
          have G := Lib.hid g
          have HB03 := Lib.hid hB03
          clear g hA3 hR3 hB3 hB03 F3 HA1
          go_wp2_with fail
          refine G.out.mono ?_
          rintro e W4 ⟨rfl, hB4⟩
          have hB04 : Below w.heap.size w W4 := HB03.out.trans (hB4.mono (by omega))
          have HB04 := Lib.hid hB04
          have hw4 := hB4.size
          clear hB4 hB04
          go_wp2_with (go_at_call 8; refine (works_any _).mono ?_; rintro e w' ⟨rfl, hB⟩)
          go_ret
          exact ⟨rfl, HB04.out.trans (hB.mono (by omega))⟩
        · have g := get_no (some ⟨w.heap.size, 0, none⟩) n n ((bs.length : Int) + (at_ : Int)) 4 W3 (by unfold maxLen; omega) (by omega) (by omega) (.inr (by simp [insideB]; omega))
          have hgb : decide ((bs.length : Int) + (at_ : Int) + 4 ≤ (n : Int)) = false := by simp; omega
          have G := Lib.hid g
          have HB03 := Lib.hid hB03
          clear g hA3 hR3 hB3 hB03 F3 HA1
          go_wp2_with fail
          refine G.out.mono ?_
          rintro e W4 ⟨rfl, rfl⟩
          go_wp2_with (go_at_call 8; refine (works_any _).mono ?_; rintro e w' ⟨rfl, hB⟩)
          go_ret
          exact ⟨rfl, HB03.out.trans (hB.mono (by omega))⟩
    · have hno := fill_no A bs.length cap n w (.inl (by omega))
      have HNO := Lib.hid hno
      clear hno
      go_enter Try.func6, Try.ntmps6
      go_wp2_with fail
      refine HNO.out.mono ?_
      rintro e W1 ⟨rfl, rfl⟩
      go_wp2_with (go_at_call 8; refine (works_any _).mono ?_; rintro e w' ⟨rfl, hB⟩)
      go_ret
      exact ⟨rfl, hB⟩

end Go.Proofs.Ytabledlkpmlcbaa
