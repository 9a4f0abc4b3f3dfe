/- token: texts; what a text begins with; how many of a text's first bytes. -/
import Derived.Test.YtdnmdccjecoojaaDoorB
namespace Go.Proofs.YtdnmdccjecoojaaDoor
open Go.RowKit Tok
theorem str_size (s : List UInt8) : (str s).size = s.length := by unfold str; simp [ByteArray.size]
theorem str_sizeN {s : List UInt8} {n : Nat} (h : s.length = n) : (str s).size = n := by rw [str_size]; exact h
theorem str_extract (s : List UInt8) (i j : Nat) : (str s).extract i j = str ((s.drop i).take (j - i)) := by
  apply ByteArray.ext
  unfold str
  simp [ByteArray.data_extract, List.extract_toArray, List.extract_eq_take_drop]
theorem str_pre (s : List UInt8) (j : Nat) : (str s).extract 0 j = str (s.take j) := by rw [str_extract, List.drop_zero, Nat.sub_zero]
theorem str_suf {s : List UInt8} {n : Nat} (h : s.length = n) (i : Nat) : (str s).extract i n = str (s.drop i) := by
  rw [str_extract, List.take_of_length_le (by rw [List.length_drop]; omega)]
theorem str_at {s : List UInt8} {k : Nat} {c : UInt8} (h : s[k]? = some c) (hk : k < (str s).size) : (str s)[k] = c := by
  obtain ⟨h1, h2⟩ := List.getElem?_eq_some_iff.1 h
  rw [← h2]
  unfold str
  rfl
theorem str_at0 {s : List UInt8} {c : UInt8} (h : s[0]? = some c) (hk : 0 < (str s).size) : (str s)[0] = c := str_at h hk
namespace Tok
theorem tw_yes {p : UInt8 → Bool} {s : List UInt8} : ∀ {k : Nat} {c : UInt8}, k ≤ (s.takeWhile p).length → s[k]? = some c → p c = true → k + 1 ≤ (s.takeWhile p).length := by
  induction s with
  | nil => intro k c _ h; simp at h
  | cons a l ih =>
    intro k c hk hc hp
    cases k with
    | zero =>
      simp at hc
      subst hc
      simp [List.takeWhile, hp]
    | succ k =>
      cases ha : p a with
      | true =>
        simp only [List.takeWhile, ha, List.length_cons] at hk ⊢
        have := ih (k := k) (c := c) (by omega) (by simpa using hc) hp
        omega
      | false => simp [List.takeWhile, ha] at hk
theorem tw_no {p : UInt8 → Bool} {s : List UInt8} : ∀ {k : Nat} {c : UInt8}, k ≤ (s.takeWhile p).length → s[k]? = some c → p c = false → (s.takeWhile p).length = k := by
  induction s with
  | nil => intro k c _ h; simp at h
  | cons a l ih =>
    intro k c hk hc hp
    cases k with
    | zero =>
      simp at hc
      subst hc
      simp [List.takeWhile, hp]
    | succ k =>
      cases ha : p a with
      | true =>
        simp only [List.takeWhile, ha, List.length_cons] at hk ⊢
        have := ih (k := k) (c := c) (by omega) (by simpa using hc) hp
        omega
      | false => simp [List.takeWhile, ha] at hk
theorem tw_le (p : UInt8 → Bool) (s : List UInt8) : (s.takeWhile p).length ≤ s.length := by
  induction s with
  | nil => simp
  | cons a l ih => simp only [List.takeWhile]; split <;> simp <;> omega
end Tok
theorem rbegins_any (s t : List UInt8) (w : World) : Calls Tryd.prog 41 #[.string (str s), .string (str t)] w fun e w' => e = .returned (.bool (s.take t.length == t)) ∧ w = w' := by
  have h1 := str_size s
  have h2 := str_size t
  obtain ⟨n, hn⟩ : ∃ n, s.length = n := ⟨_, rfl⟩
  obtain ⟨m, hm⟩ : ∃ m, t.length = m := ⟨_, rfl⟩
  have h3 := str_pre s m
  rw [hn] at h1
  rw [hm] at h2 ⊢
  have h4 := str_toList t
  have h5 := str_toList (s.take m)
  by_cases hl : m ≤ n
  · clear hn hm
    go_enter Tryd.func41, Tryd.ntmps41
    go_wp2_with fail
    go_ret
    exact ⟨rfl, rfl⟩
  · have e : (s.take m == t) = false := by
      rw [Bool.eq_false_iff]
      intro e
      have e := congrArg List.length (beq_iff_eq.1 e)
      rw [List.length_take] at e
      omega
    rw [e]
    clear hn hm e
    go_enter Tryd.func41, Tryd.ntmps41
    go_wp2_with fail
    go_ret
    exact ⟨rfl, rfl⟩
theorem begins0 (s t : List UInt8) (w : World) : Calls Tryd.prog 50 #[.string (str s), .string (str t)] w fun e w' => e = .returned (.bool (s.take t.length == t)) ∧ w = w' := by
  have h1 := str_size s
  have h2 := str_size t
  obtain ⟨n, hn⟩ : ∃ n, s.length = n := ⟨_, rfl⟩
  obtain ⟨m, hm⟩ : ∃ m, t.length = m := ⟨_, rfl⟩
  have h3 := str_pre s m
  rw [hn] at h1
  rw [hm] at h2 ⊢
  have h4 := str_toList t
  have h5 := str_toList (s.take m)
  by_cases hl : m ≤ n
  · clear hn hm
    go_enter Tryd.func50, Tryd.ntmps50
    go_wp2_with fail
    go_ret
    exact ⟨rfl, rfl⟩
  · have e : (s.take m == t) = false := by
      rw [Bool.eq_false_iff]
      intro e
      have e := congrArg List.length (beq_iff_eq.1 e)
      rw [List.length_take] at e
      omega
    rw [e]
    clear hn hm e
    go_enter Tryd.func50, Tryd.ntmps50
    go_wp2_with fail
    go_ret
    exact ⟨rfl, rfl⟩
theorem begins_any (s t : List UInt8) (w : World) : Calls Tryd.prog 30 #[.string (str s), .string (str t)] w fun e w' => e = .returned (.bool (s.take t.length == t)) ∧ w = w' := by
  have H := Lib.hid (begins0 s t w)
  go_enter Tryd.func30, Tryd.ntmps30
  go_wp2_with fail
  refine H.out.mono ?_
  rintro e w' ⟨rfl, rfl⟩
  go_wp2_with fail
  go_ret
  exact ⟨rfl, rfl⟩
theorem rrun_any (s : List UInt8) (w : World) (hb : s.length < 4294967296) : Calls Tryd.prog 48 #[.string (str s)] w fun e w' => e = .returned (.int .i64 ((s.takeWhile partB).length : Int)) ∧ w = w' := by
  have h1 := str_size s
  have HLE := Lib.hid (tw_le partB s)
  obtain ⟨n, hn⟩ : ∃ n, s.length = n := ⟨_, rfl⟩
  rw [hn] at hb
  obtain ⟨r, hr⟩ : ∃ r, (s.takeWhile partB).length = r := ⟨_, rfl⟩
  have HY : Hid (∀ k c, k ≤ r → s[k]? = some c → partB c = true → k + 1 ≤ r) := Lib.hid (fun k c h h2 h3 => by subst hr; exact tw_yes h h2 h3)
  have HZ : Hid (∀ k c, k ≤ r → s[k]? = some c → partB c = false → r = k) := Lib.hid (fun k c h h2 h3 => by subst hr; exact tw_no h h2 h3)
  rw [hn, hr] at HLE
  have hrb : r < 4294967296 := by have := HLE.out; omega
  rw [hn] at h1
  rw [hr]
  have HN := Lib.hid hn
  clear hr hn
  go_enter Tryd.func48, Tryd.ntmps48
  go_wp2_with fail
  go_loopw [3] (fun iv wr => ∃ k : Nat, k ≤ r ∧ iv = .int .i64 (k : Int) ∧ wr = w) (fun iv _ => r - (intOf iv).toNat)
  case atStart => exact ⟨0, Nat.zero_le _, rfl, rfl⟩
  case round =>
    obtain ⟨k, hk, rfl, hw⟩ := hrel
    obtain rfl : w = _ := hw.symm
    by_cases hlt : k < n
    · have hd : decide ((k : Int) < (n : Int)) = true := by simpa using hlt
      obtain ⟨c, hc⟩ : ∃ c, s[k]? = some c := ⟨_, List.getElem?_eq_getElem (by rw [HN.out]; exact hlt)⟩
      have hcc := str_at hc (by rw [h1]; exact hlt)
      have HY1 := Lib.hid (HY.out k c hk hc)
      have HZ1 := Lib.hid (HZ.out k c hk hc)
      clear hc HY HZ
      have H1 := rpart_any c w
      cases hp : partB c with
      | true =>
        have hk1 := HY1.out hp
        rw [hp] at H1
        have H1 := Lib.hid H1
        unfold bv at H1
        clear hp
        go_wp2_with (go_at_call 54; refine Calls.mono H1.out ?_; rintro e w' ⟨rfl, rfl⟩)
        go_roundw
        case rel => exact ⟨k + 1, hk1, by go_num, by trivial⟩
        case measure => simp [intOf]; omega
      | false =>
        obtain rfl : r = k := HZ1.out hp
        rw [hp] at H1
        have H1 := Lib.hid H1
        unfold bv at H1
        clear hp
        go_wp2_with (go_at_call 54; refine Calls.mono H1.out ?_; rintro e w' ⟨rfl, rfl⟩)
        go_ret
        exact ⟨rfl, rfl⟩
    · have hd : decide ((k : Int) < (n : Int)) = false := by simpa using hlt
      obtain rfl : k = r := by have := HLE.out; omega
      clear HY HZ
      go_wp2_with fail
      go_ret
      exact ⟨rfl, rfl⟩
theorem digits_any (s : List UInt8) (w : World) (hb : s.length < 4294967296) : Calls Tryd.prog 39 #[.string (str s)] w fun e w' => e = .returned (.int .i64 ((s.takeWhile digitB).length : Int)) ∧ w = w' := by
  have h1 := str_size s
  have HLE := Lib.hid (tw_le digitB s)
  obtain ⟨n, hn⟩ : ∃ n, s.length = n := ⟨_, rfl⟩
  rw [hn] at hb
  obtain ⟨r, hr⟩ : ∃ r, (s.takeWhile digitB).length = r := ⟨_, rfl⟩
  have HY : Hid (∀ k c, k ≤ r → s[k]? = some c → digitB c = true → k + 1 ≤ r) := Lib.hid (fun k c h h2 h3 => by subst hr; exact tw_yes h h2 h3)
  have HZ : Hid (∀ k c, k ≤ r → s[k]? = some c → digitB c = false → r = k) := Lib.hid (fun k c h h2 h3 => by subst hr; exact tw_no h h2 h3)
  rw [hn, hr] at HLE
  have hrb : r < 4294967296 := by have := HLE.out; omega
  rw [hn] at h1
  rw [hr]
  have HN := Lib.hid hn
  clear hr hn
  go_enter Tryd.func39, Tryd.ntmps39
  go_wp2_with fail
  go_loopw [3] (fun iv wr => ∃ k : Nat, k ≤ r ∧ iv = .int .i64 (k : Int) ∧ wr = w) (fun iv _ => r - (intOf iv).toNat)
  case atStart => exact ⟨0, Nat.zero_le _, rfl, rfl⟩
  case round =>
    obtain ⟨k, hk, rfl, hw⟩ := hrel
    obtain rfl : w = _ := hw.symm
    by_cases hlt : k < n
    · have hd : decide ((k : Int) < (n : Int)) = true := by simpa using hlt
      obtain ⟨c, hc⟩ : ∃ c, s[k]? = some c := ⟨_, List.getElem?_eq_getElem (by rw [HN.out]; exact hlt)⟩
      have hcc := str_at hc (by rw [h1]; exact hlt)
      have HY1 := Lib.hid (HY.out k c hk hc)
      have HZ1 := Lib.hid (HZ.out k c hk hc)
      clear hc HY HZ
      have H1 := digit_any c w
      cases hp : digitB c with
      | true =>
        have hk1 := HY1.out hp
        rw [hp] at H1
        have H1 := Lib.hid H1
        unfold bv at H1
        clear hp
        go_wp2_with (go_at_call 37; refine Calls.mono H1.out ?_; rintro e w' ⟨rfl, rfl⟩)
        go_roundw
        case rel => exact ⟨k + 1, hk1, by go_num, by trivial⟩
        case measure => simp [intOf]; omega
      | false =>
        obtain rfl : r = k := HZ1.out hp
        rw [hp] at H1
        have H1 := Lib.hid H1
        unfold bv at H1
        clear hp
        go_wp2_with (go_at_call 37; refine Calls.mono H1.out ?_; rintro e w' ⟨rfl, rfl⟩)
        go_ret
        exact ⟨rfl, rfl⟩
    · have hd : decide ((k : Int) < (n : Int)) = false := by simpa using hlt
      obtain rfl : k = r := by have := HLE.out; omega
      clear HY HZ
      go_wp2_with fail
      go_ret
      exact ⟨rfl, rfl⟩
theorem parts_any (s : List UInt8) (w : World) (hb : s.length < 4294967296) : Calls Tryd.prog 35 #[.string (str s)] w fun e w' => e = .returned (.int .i64 ((s.takeWhile partB).length : Int)) ∧ w = w' := by
  have h1 := str_size s
  have HLE := Lib.hid (tw_le partB s)
  obtain ⟨n, hn⟩ : ∃ n, s.length = n := ⟨_, rfl⟩
  rw [hn] at hb
  obtain ⟨r, hr⟩ : ∃ r, (s.takeWhile partB).length = r := ⟨_, rfl⟩
  have HY : Hid (∀ k c, k ≤ r → s[k]? = some c → partB c = true → k + 1 ≤ r) := Lib.hid (fun k c h h2 h3 => by subst hr; exact tw_yes h h2 h3)
  have HZ : Hid (∀ k c, k ≤ r → s[k]? = some c → partB c = false → r = k) := Lib.hid (fun k c h h2 h3 => by subst hr; exact tw_no h h2 h3)
  rw [hn, hr] at HLE
  have hrb : r < 4294967296 := by have := HLE.out; omega
  rw [hn] at h1
  rw [hr]
  have HN := Lib.hid hn
  clear hr hn
  go_enter Tryd.func35, Tryd.ntmps35
  go_wp2_with fail
  go_loopw [3] (fun iv wr => ∃ k : Nat, k ≤ r ∧ iv = .int .i64 (k : Int) ∧ wr = w) (fun iv _ => r - (intOf iv).toNat)
  case atStart => exact ⟨0, Nat.zero_le _, rfl, rfl⟩
  case round =>
    obtain ⟨k, hk, rfl, hw⟩ := hrel
    obtain rfl : w = _ := hw.symm
    by_cases hlt : k < n
    · have hd : decide ((k : Int) < (n : Int)) = true := by simpa using hlt
      obtain ⟨c, hc⟩ : ∃ c, s[k]? = some c := ⟨_, List.getElem?_eq_getElem (by rw [HN.out]; exact hlt)⟩
      have hcc := str_at hc (by rw [h1]; exact hlt)
      have HY1 := Lib.hid (HY.out k c hk hc)
      have HZ1 := Lib.hid (HZ.out k c hk hc)
      clear hc HY HZ
      have H1 := small_any c w
      have H2 := great_any c w
      have H3 := digit_any c w
      have e4 : ((c.toNat : Int) == 95) = decide (c.toNat = 95) := by rw [Bool.eq_iff_iff]; simp; omega
      have HPP : Hid (partB c = (smallB c || greatB c || digitB c || decide (c.toNat = 95))) := Lib.hid rfl
      obtain ⟨x1, hx1⟩ : ∃ x, smallB c = x := ⟨_, rfl⟩
      obtain ⟨x2, hx2⟩ : ∃ x, greatB c = x := ⟨_, rfl⟩
      obtain ⟨x3, hx3⟩ : ∃ x, digitB c = x := ⟨_, rfl⟩
      obtain ⟨x4, hx4⟩ : ∃ x, decide (c.toNat = 95) = x := ⟨_, rfl⟩
      rw [hx1] at H1
      rw [hx2] at H2
      rw [hx3] at H3
      rw [hx4] at e4
      rw [hx1, hx2, hx3, hx4] at HPP
      have H1 := Lib.hid H1
      have H2 := Lib.hid H2
      have H3 := Lib.hid H3
      unfold bv at H1 H2 H3
      clear hx1 hx2 hx3 hx4
      cases hp : partB c with
      | true =>
        have hk1 := HY1.out hp
        rw [hp] at HPP
        clear hp
        cases x1 <;> cases x2 <;> cases x3 <;> cases x4
        all_goals first
          | (exact absurd HPP.out (by decide))
          | (clear HPP
             go_wp2_with (first
            | (go_at_call 32; refine Calls.mono H1.out ?_; rintro e w' ⟨rfl, rfl⟩)
            | (go_at_call 33; refine Calls.mono H2.out ?_; rintro e w' ⟨rfl, rfl⟩)
            | (go_at_call 37; refine Calls.mono H3.out ?_; rintro e w' ⟨rfl, rfl⟩))
             go_roundw
             case rel => exact ⟨k + 1, hk1, by go_num, by trivial⟩
             case measure => simp [intOf]; omega)
      | false =>
        obtain rfl : r = k := HZ1.out hp
        rw [hp] at HPP
        clear hp
        cases x1 <;> cases x2 <;> cases x3 <;> cases x4
        all_goals first
          | (exact absurd HPP.out (by decide))
          | (clear HPP
             go_wp2_with (first
            | (go_at_call 32; refine Calls.mono H1.out ?_; rintro e w' ⟨rfl, rfl⟩)
            | (go_at_call 33; refine Calls.mono H2.out ?_; rintro e w' ⟨rfl, rfl⟩)
            | (go_at_call 37; refine Calls.mono H3.out ?_; rintro e w' ⟨rfl, rfl⟩))
             go_ret
             exact ⟨rfl, rfl⟩)
    · have hd : decide ((k : Int) < (n : Int)) = false := by simpa using hlt
      obtain rfl : k = r := by have := HLE.out; omega
      clear HY HZ
      go_wp2_with fail
      go_ret
      exact ⟨rfl, rfl⟩
end Go.Proofs.YtdnmdccjecoojaaDoor
