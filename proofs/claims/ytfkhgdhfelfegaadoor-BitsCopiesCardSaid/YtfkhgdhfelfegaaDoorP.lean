/- What steps make of a set: in is what was set last. -/
import Derived.Test.YtfkhgdhfelfegaaDoorQ
namespace Go.Proofs.YtfkhgdhfelfegaaDoor
open Go.RowKit Bts

def app (n : Nat) (S : Nat → Bool) (s : Bool × Int) : Nat → Bool := if s.1 then del S s.2 else ins S n s.2
def after (n : Nat) (S : Nat → Bool) (l : List (Bool × Int)) : Nat → Bool := l.foldl (app n) S
theorem after_snoc (n : Nat) (S : Nat → Bool) (l : List (Bool × Int)) (s : Bool × Int) : after n S (l ++ [s]) = app n (after n S l) s := by simp [after]
theorem after_append (n : Nat) (S : Nat → Bool) (l r : List (Bool × Int)) : after n S (l ++ r) = after n (after n S l) r := by simp [after]
theorem after_cons (n : Nat) (S : Nat → Bool) (x : Bool × Int) (r : List (Bool × Int)) : after n S (x :: r) = after n (app n S x) r := rfl

/-- Is a number asked for in some steps? -/
def asks (l : List (Bool × Int)) (i : Int) : Bool := l.any fun s => s.2 == i
def isIn (n : Nat) (s : Bool × Int) : Bool := !s.1 && decide (0 ≤ s.2) && decide (s.2 < n)

theorem app_other {n : Nat} {S : Nat → Bool} {s : Bool × Int} {j : Nat} (h : s.2 ≠ (j : Int)) : app n S s j = S j := by
  have h' : ¬ (j : Int) = s.2 := fun e => h e.symm
  unfold app
  split <;> simp [ins, del, h']
theorem after_other {n : Nat} {j : Nat} : ∀ (l : List (Bool × Int)) (S : Nat → Bool), asks l (j : Int) = false → after n S l j = S j
  | [], _, _ => rfl
  | x :: r, S, h => by
    simp only [asks, List.any_cons, Bool.or_eq_false_iff] at h
    rw [after_cons, after_other r _ h.2, app_other (by simpa using h.1)]
theorem app_self {n : Nat} {S : Nat → Bool} {s : Bool × Int} {j : Nat} (h : s.2 = (j : Int)) (hj : j < n) : app n S s j = !s.1 := by
  unfold app
  cases hs : s.1 <;> simp [ins, del, h, hj]

theorem has_last (n : Nat) (pre r : List (Bool × Int)) (x : Bool × Int) (h : asks r x.2 = false) : hasB (after n none_ (pre ++ x :: r)) n x.2 = isIn n x := by
  unfold hasB isIn
  by_cases h0 : 0 ≤ x.2 ∧ x.2 < n
  · obtain ⟨j, hj⟩ : ∃ j : Nat, x.2 = j := ⟨x.2.toNat, by omega⟩
    rw [hj] at h ⊢
    rw [after_append, after_cons, Int.toNat_natCast, after_other r _ h, app_self hj (by omega)]
    have : j < n := by omega
    simp [this]
  · have : (decide (0 ≤ x.2) && decide (x.2 < n)) = false := by simp only [Bool.and_eq_false_iff, decide_eq_false_iff_not]; omega
    rw [this, Bool.and_assoc, this]; simp

/-- The steps behind which no other one has the same number. -/
def lasts : List (Bool × Int) → List (Bool × Int)
  | [] => []
  | x :: r => if asks r x.2 then lasts r else x :: lasts r
def cIn (n : Nat) (l : List (Bool × Int)) : Nat := (lasts l).countP (isIn n)
theorem cIn_cons_yes {n : Nat} {x : Bool × Int} {r : List (Bool × Int)} (h : asks r x.2 = true) : cIn n (x :: r) = cIn n r := by simp [cIn, lasts, h]
theorem cIn_cons_no {n : Nat} {x : Bool × Int} {r : List (Bool × Int)} (h : asks r x.2 = false) : cIn n (x :: r) = cIn n r + (isIn n x).toNat := by
  simp only [cIn, lasts, h, Bool.false_eq_true, if_false, List.countP_cons]
  cases isIn n x <;> simp

theorem card_add_one {S : Nat → Bool} {n j : Nat} (hj : j < n) (h : S j = false) : card (fun k => S k || decide (k = j)) n = card S n + 1 := by
  induction n with
  | zero => omega
  | succ n ih =>
    simp only [card]
    by_cases e : j = n
    · subst e
      rw [card_congr (T := S) j fun k hk => by
        have : ¬ k = j := by omega
        simp [this]]
      simp [h]
    · rw [ih (by omega)]
      have : ¬ n = j := fun e' => e e'.symm
      simp only [this, decide_false, Bool.or_false]
      omega

theorem card_after (n : Nat) : ∀ (l : List (Bool × Int)) (S : Nat → Bool), card (after n S l) n = cIn n l + card (fun j => S j && !asks l (j : Int)) n
  | [], S => by simp [after, cIn, lasts, asks]
  | x :: r, S => by
    rw [after_cons, card_after n r]
    cases hx : asks r x.2
    · rw [cIn_cons_no hx]
      have hT : ∀ k, k < n → k ≠ x.2.toNat ∨ x.2 < 0 → (app n S x k && !asks r (k : Int)) = (S k && !asks (x :: r) (k : Int)) := fun k hk hne => by
        have h1 : x.2 ≠ (k : Int) := by omega
        have h2 : (x.2 == (k : Int)) = false := by simpa using h1
        rw [app_other h1]
        simp only [asks, List.any_cons, h2, Bool.false_or]
      by_cases hin : isIn n x = true
      · have hin' := hin
        simp only [isIn, Bool.and_eq_true, Bool.not_eq_true', decide_eq_true_eq] at hin'
        obtain ⟨⟨hc, h0⟩, hlt⟩ := hin'
        obtain ⟨j, hj⟩ : ∃ j : Nat, x.2 = j := ⟨x.2.toNat, by omega⟩
        have hjn : j < n := by omega
        have hfalse : (S j && !asks (x :: r) (j : Int)) = false := by simp [asks, hj]
        have hone := card_add_one (S := fun k => S k && !asks (x :: r) (k : Int)) hjn hfalse
        rw [hin, card_congr (T := fun k => (S k && !asks (x :: r) (k : Int)) || decide (k = j)) n fun k hk => by
          by_cases e : k = j
          · subst e
            rw [app_self hj hk, ← hj, hx, hc]; simp
          · rw [hT k hk (by omega)]; simp [e], hone]
        simp only [Bool.toNat_true]; omega
      · have hin' : isIn n x = false := by simpa using hin
        rw [hin', card_congr n fun k hk => ?_]
        · rfl
        · by_cases e : x.2 = (k : Int)
          · have hc : x.1 = true := by
              unfold isIn at hin'
              rw [e] at hin'
              cases hx1 : x.1
              · have : ((k : Int) < (n : Int)) := by omega
                simp [hx1, this] at hin'
              · rfl
            rw [app_self e hk, hc]
            simp [asks, e]
          · exact hT k hk (by omega)
    · rw [cIn_cons_yes hx]
      congr 1
      refine card_congr n fun k _ => ?_
      by_cases e : x.2 = (k : Int)
      · rw [e] at hx
        have h2 : asks (x :: r) (k : Int) = true := by simp [asks, e]
        simp [hx, h2]
      · have h2 : (x.2 == (k : Int)) = false := by simpa using e
        rw [app_other e]
        simp only [asks, List.any_cons, h2, Bool.false_or]
theorem card_all (n : Nat) (l : List (Bool × Int)) : card (after n none_ l) n = cIn n l := by
  rw [card_after, card_zero n fun k _ => by simp [none_]]
  rfl
theorem asks_take_succ (l : List (Bool × Int)) (i : Int) (k : Nat) (s : Bool × Int) (h : l[k]? = some s) : asks (l.take (k + 1)) i = (asks (l.take k) i || (s.2 == i)) := by
  have hk := (List.getElem?_eq_some_iff.1 h).1
  have he := (List.getElem?_eq_some_iff.1 h).2
  rw [List.take_succ_eq_append_getElem hk, he]
  simp [asks]

end Go.Proofs.YtfkhgdhfelfegaaDoor
