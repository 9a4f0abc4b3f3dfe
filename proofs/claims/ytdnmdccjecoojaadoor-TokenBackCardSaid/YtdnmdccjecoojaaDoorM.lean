/- token, apart from memory: comments, tokens, what a source comes to. -/
import Derived.Test.YtdnmdccjecoojaaDoorD
namespace Go.Proofs.YtdnmdccjecoojaaDoor
namespace Tok
/-- How long the rest of a comment is that is so deep; none: it has no end. -/
def comS (r : List UInt8) (d : Nat) : Option Nat :=
  if h : r = [] then none
  else if r.take 2 = [40, 42] then (comS (r.drop 2) (d + 1)).map (2 + ·)
  else if r.take 2 = [42, 41] then if d = 1 then some 2 else (comS (r.drop 2) (d - 1)).map (2 + ·)
  else (comS (r.drop 1) d).map (1 + ·)
termination_by r.length
decreasing_by
  all_goals
    have := List.length_pos_iff.2 h
    rw [List.length_drop]
    omega
theorem comS_nil (d : Nat) : comS [] d = none := by rw [comS, dif_pos rfl]
theorem take2_ne {r : List UInt8} {a b : UInt8} (h : r.take 2 = [a, b]) : r ≠ [] ∧ 2 ≤ r.length := by
  have := congrArg List.length h
  rw [List.length_take] at this
  simp at this
  exact ⟨fun e => by rw [e] at this; simp at this, by omega⟩
theorem comS_open {r : List UInt8} (d : Nat) (h : r.take 2 = [40, 42]) : comS r d = (comS (r.drop 2) (d + 1)).map (2 + ·) := by
  rw [comS, dif_neg (take2_ne h).1, if_pos h]
theorem comS_end {r : List UInt8} (h : r.take 2 = [42, 41]) : comS r 1 = some 2 := by
  rw [comS, dif_neg (take2_ne h).1, if_neg (by rw [h]; decide), if_pos h, if_pos rfl]
theorem comS_close {r : List UInt8} {d : Nat} (h : r.take 2 = [42, 41]) (hd : d ≠ 1) : comS r d = (comS (r.drop 2) (d - 1)).map (2 + ·) := by
  rw [comS, dif_neg (take2_ne h).1, if_neg (by rw [h]; decide), if_pos h, if_neg hd]
theorem comS_else {r : List UInt8} (d : Nat) (hr : r ≠ []) (h1 : r.take 2 ≠ [40, 42]) (h2 : r.take 2 ≠ [42, 41]) : comS r d = (comS (r.drop 1) d).map (1 + ·) := by
  rw [comS, dif_neg hr, if_neg h1, if_neg h2]
theorem comS_le (m : Nat) : ∀ (r : List UInt8) (d n : Nat), r.length ≤ m → comS r d = some n → 2 ≤ n ∧ n ≤ r.length := by
  induction m with
  | zero =>
    intro r d n hm h
    obtain rfl : r = [] := List.eq_nil_of_length_eq_zero (by omega)
    rw [comS_nil] at h; cases h
  | succ m ih =>
    intro r d n hm h
    by_cases hr : r = []
    · subst hr; rw [comS_nil] at h; cases h
    · have hp := List.length_pos_iff.2 hr
      by_cases h1 : r.take 2 = [40, 42]
      · rw [comS_open d h1] at h
        obtain ⟨x, hx, rfl⟩ := Option.map_eq_some_iff.1 h
        have := ih _ _ _ (by rw [List.length_drop]; omega) hx
        rw [List.length_drop] at this
        have := (take2_ne h1).2
        omega
      · by_cases h2 : r.take 2 = [42, 41]
        · have := (take2_ne h2).2
          by_cases hd : d = 1
          · subst hd
            rw [comS_end h2] at h
            cases h
            omega
          · rw [comS_close h2 hd] at h
            obtain ⟨x, hx, rfl⟩ := Option.map_eq_some_iff.1 h
            have := ih _ _ _ (by rw [List.length_drop]; omega) hx
            rw [List.length_drop] at this
            omega
        · rw [comS_else d hr h1 h2] at h
          obtain ⟨x, hx, rfl⟩ := Option.map_eq_some_iff.1 h
          have := ih _ _ _ (by rw [List.length_drop]; omega) hx
          rw [List.length_drop] at this
          omega
/-- How long the blank or the comment is with which a text begins. -/
def blankN (s : List UInt8) : Option Nat :=
  match s with
  | [] => some 0
  | c :: r => if blankB c then some 1 else if (c :: r).take 2 = [40, 42] then comS (c :: r) 0 else some 0
/-- A token apart from its place. -/
structure Tk where
  k : UInt8
  t : List UInt8
  n : Nat
def prtN (s : List UInt8) : Nat := (s.takeWhile partB).length
def nameN (s : List UInt8) : Option (Tk × Nat) :=
  if 32 < prtN s then none
  else some (⟨if greatB (s.headD 0) then 2 else if s.take (prtN s) ∈ wordsL then 6 else 1, s.take (prtN s), 0⟩, prtN s)
def tickN (s : List UInt8) : Option (Tk × Nat) :=
  if prtN (s.drop 1) = 0 ∨ 32 < prtN (s.drop 1) ∨ smallB (s.getD 1 0) = false then none
  else some (⟨3, s.take (1 + prtN (s.drop 1)), 0⟩, 1 + prtN (s.drop 1))
/-- The greatest number. -/
def big : Nat := 4611686018427387903
def numL : Nat → List UInt8 → Option Nat
  | x, [] => some x
  | x, c :: r => if (big - (c.toNat - 48)) / 10 < x then none else numL (10 * x + (c.toNat - 48)) r
def numN (s : List UInt8) : Option (Tk × Nat) := (numL 0 (s.takeWhile digitB)).map fun v => (⟨4, [], v⟩, (s.takeWhile digitB).length)
/-- What a string says behind its first quote, and how long that is, with the last one. -/
def strL : List UInt8 → Option (List UInt8 × Nat)
  | [] => none
  | c :: r =>
    if c = 34 then some ([], 1)
    else if c < 32 ∨ 126 < c then none
    else if c = 92 then
      match r with
      | [] => none
      | e :: q => if e = 110 then (strL q).map fun x => (10 :: x.1, x.2 + 2) else if e = 92 ∨ e = 34 then (strL q).map fun x => (e :: x.1, x.2 + 2) else none
    else (strL r).map fun x => (c :: x.1, x.2 + 1)
def strN (s : List UInt8) : Option (Tk × Nat) := (strL (s.drop 1)).map fun x => (⟨5, x.1, 0⟩, x.2 + 1)
def signN (s : List UInt8) : Option (Tk × Nat) := (signsL.find? fun x => s.take x.length == x).map fun x => (⟨7, x, 0⟩, x.length)
def oneN (s : List UInt8) : Option (Tk × Nat) :=
  let c := s.headD 0
  if smallB c || greatB c then nameN s
  else if c = 39 then tickN s
  else if digitB c then numN s
  else if c = 34 then strN s
  else signN s
inductive Res where
  | ok (l : List (Tk × Nat))
  | err (at_ : Nat)
def res (s : List UInt8) (i : Nat) (l : List (Tk × Nat)) : Res :=
  if _h : s.length ≤ i then .ok l
  else match blankN (s.drop i) with
    | none => .err i
    | some (n + 1) => res s (i + (n + 1)) l
    | some 0 =>
      match oneN (s.drop i) with
      | none => .err i
      | some (_, 0) => .err i
      | some (t, n + 1) => res s (i + (n + 1)) (l ++ [(t, i)])
termination_by s.length - i
theorem res_end {s : List UInt8} {i : Nat} (h : s.length ≤ i) (l : List (Tk × Nat)) : res s i l = .ok l := by rw [res, dif_pos h]
theorem res_open {s : List UInt8} {i : Nat} (h : i < s.length) (hb : blankN (s.drop i) = none) (l : List (Tk × Nat)) : res s i l = .err i := by
  rw [res, dif_neg (by omega), hb]
theorem res_blank {s : List UInt8} {i n : Nat} (h : i < s.length) (hb : blankN (s.drop i) = some n) (hn : 0 < n) (l : List (Tk × Nat)) : res s i l = res s (i + n) l := by
  obtain ⟨m, rfl⟩ : ∃ m, n = m + 1 := ⟨n - 1, by omega⟩
  rw [res, dif_neg (by omega), hb]
theorem res_none {s : List UInt8} {i : Nat} (h : i < s.length) (hb : blankN (s.drop i) = some 0) (ho : oneN (s.drop i) = none) (l : List (Tk × Nat)) : res s i l = .err i := by
  rw [res, dif_neg (by omega), hb]; simp only [ho]
theorem res_one {s : List UInt8} {i n : Nat} {t : Tk} (h : i < s.length) (hb : blankN (s.drop i) = some 0) (ho : oneN (s.drop i) = some (t, n)) (hn : 0 < n) (l : List (Tk × Nat)) : res s i l = res s (i + n) (l ++ [(t, i)]) := by
  obtain ⟨m, rfl⟩ : ∃ m, n = m + 1 := ⟨n - 1, by omega⟩
  rw [res, dif_neg (by omega), hb]; simp only [ho]
end Tok
end Go.Proofs.YtdnmdccjecoojaaDoor
