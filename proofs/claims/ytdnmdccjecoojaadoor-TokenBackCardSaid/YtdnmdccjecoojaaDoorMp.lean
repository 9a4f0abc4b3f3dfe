/- token, apart from memory: where tokens stand. -/
import Derived.Test.YtdnmdccjecoojaaDoorMi
namespace Go.Proofs.YtdnmdccjecoojaaDoor
namespace Tok
theorem numL_le : ∀ (ds : List UInt8) (x v : Nat), x ≤ big → numL x ds = some v → v ≤ big
  | [], x, v, h, e => by cases e; exact h
  | c :: r, x, v, h, e => by
    have e2 : (if (big - (c.toNat - 48)) / 10 < x then none else numL (10 * x + (c.toNat - 48)) r) = some v := e
    by_cases hb : (big - (c.toNat - 48)) / 10 < x
    · rw [if_pos hb] at e2; cases e2
    · rw [if_neg hb] at e2
      have hc : c.toNat < 256 := c.toNat_lt
      exact numL_le r _ v (by unfold big at hb h ⊢; omega) e2
theorem strL_long (m : Nat) : ∀ (r x : List UInt8) (k : Nat), r.length ≤ m → strL r = some (x, k) → x.length + 1 ≤ k := by
  induction m with
  | zero =>
    intro r x k hm h
    obtain rfl : r = [] := List.eq_nil_of_length_eq_zero (by omega)
    cases h
  | succ m ih =>
    intro r x k hm h
    cases r with
    | nil => cases h
    | cons c r =>
      have hm2 : r.length ≤ m := by simpa using hm
      unfold strL at h
      split at h
      · cases h; simp
      · split at h
        · cases h
        · split at h
          · cases r with
            | nil => cases h
            | cons e q =>
              have hm3 : q.length ≤ m := by simp at hm2; omega
              simp only at h
              split at h
              · obtain ⟨⟨y, j⟩, hy, he⟩ := Option.map_eq_some_iff.1 h
                cases he
                have := ih q y j hm3 hy
                simp; omega
              · split at h
                · obtain ⟨⟨y, j⟩, hy, he⟩ := Option.map_eq_some_iff.1 h
                  cases he
                  have := ih q y j hm3 hy
                  simp; omega
                · cases h
          · obtain ⟨⟨y, j⟩, hy, he⟩ := Option.map_eq_some_iff.1 h
            cases he
            have := ih r y j hm2 hy
            simp; omega
def width (t : Tk) : Nat := if t.k = 4 then 1 else if t.k = 5 then 2 + t.t.length else t.t.length
def ends (l : List (Tk × Nat)) : Nat → Nat
  | 0 => 0
  | k + 1 => match l[k]? with | some x => x.2 + width x.1 | none => 0
theorem ends_app {l : List (Tk × Nat)} {y : Tk × Nat} {k : Nat} (h : k ≤ l.length) : ends (l ++ [y]) k = ends l k := by
  cases k with
  | zero => rfl
  | succ k =>
    show (match (l ++ [y])[k]? with | some x => x.2 + width x.1 | none => 0) = (match l[k]? with | some x => x.2 + width x.1 | none => 0)
    rw [List.getElem?_append_left (by omega)]
theorem ends_succ {l : List (Tk × Nat)} {y : Tk × Nat} {k : Nat} (h : l[k]? = some y) : ends l (k + 1) = y.2 + width y.1 := by
  show (match l[k]? with | some x => x.2 + width x.1 | none => 0) = _
  rw [h]
/-- A token that stands where it says. -/
structure Good (s : List UInt8) (y : Tk × Nat) : Prop where
  lt : y.2 < s.length
  le : y.2 + width y.1 ≤ s.length
  sort : ((y.1.k = 1 ∨ y.1.k = 2 ∨ y.1.k = 3 ∨ y.1.k = 6 ∨ y.1.k = 7) ∧ y.1.n = 0 ∧ y.1.t ≠ [] ∧ y.1.t = (s.drop y.2).take y.1.t.length) ∨
    (y.1.k = 4 ∧ y.1.t = [] ∧ y.1.n ≤ big ∧ ∃ c, s[y.2]? = some c ∧ digitB c = true) ∨ (y.1.k = 5 ∧ y.1.n = 0 ∧ s[y.2]? = some 34)
theorem oneN_num {s : List UInt8} {t : Tk} {n : Nat} (h : oneN s = some (t, n)) (hk : t.k = 4) : t.n ≤ big := by
  have hON : oneN s = if smallB (s.headD 0) || greatB (s.headD 0) then nameN s else if s.headD 0 = 39 then tickN s else if digitB (s.headD 0) then numN s else if s.headD 0 = 34 then strN s else signN s := rfl
  have hz : ∀ {k : UInt8} {x : List UInt8}, (⟨k, x, 0⟩ : Tk).n ≤ big := Nat.zero_le _
  rw [hON] at h
  split at h
  · unfold nameN at h
    split at h
    · cases h
    · cases h; exact hz
  · split at h
    · unfold tickN at h
      split at h
      · cases h
      · cases h; exact hz
    · split at h
      · obtain ⟨v, hv, he⟩ := Option.map_eq_some_iff.1 h
        cases he
        exact numL_le _ 0 v (Nat.zero_le _) hv
      · split at h
        · obtain ⟨⟨y, j⟩, hy, he⟩ := Option.map_eq_some_iff.1 h
          cases he; exact hz
        · obtain ⟨x, hx, he⟩ := Option.map_eq_some_iff.1 h
          cases he; exact hz
theorem oneN_str {s : List UInt8} {t : Tk} {n : Nat} (h : oneN s = some (t, n)) (hk : t.k = 5) : 2 + t.t.length ≤ n := by
  have hON : oneN s = if smallB (s.headD 0) || greatB (s.headD 0) then nameN s else if s.headD 0 = 39 then tickN s else if digitB (s.headD 0) then numN s else if s.headD 0 = 34 then strN s else signN s := rfl
  rw [hON] at h
  split at h
  · unfold nameN at h
    split at h
    · cases h
    · cases h
      dsimp only at hk
      split at hk
      · exact absurd hk (by decide)
      · split at hk
        · exact absurd hk (by decide)
        · exact absurd hk (by decide)
  · split at h
    · unfold tickN at h
      split at h
      · cases h
      · cases h; exact absurd hk (show (3 : UInt8) ≠ 5 by decide)
    · split at h
      · obtain ⟨v, hv, he⟩ := Option.map_eq_some_iff.1 h
        cases he
        exact absurd hk (show (4 : UInt8) ≠ 5 by decide)
      · split at h
        · obtain ⟨⟨y, j⟩, hy, he⟩ := Option.map_eq_some_iff.1 h
          cases he
          have := strL_long _ _ _ _ (Nat.le_refl _) hy
          show 2 + y.length ≤ j + 1
          omega
        · obtain ⟨x, hx, he⟩ := Option.map_eq_some_iff.1 h
          cases he; exact absurd hk (show (7 : UInt8) ≠ 5 by decide)
theorem head_drop {s : List UInt8} {i : Nat} (hi : i < s.length) : s[i]? = some ((s.drop i).headD 0) := by
  obtain ⟨c, hc⟩ : ∃ c, s[i]? = some c := ⟨_, List.getElem?_eq_getElem hi⟩
  rw [drop_cons hc]; exact hc
theorem good_one {s : List UInt8} {i n : Nat} {t : Tk} (hi : i < s.length) (h : oneN (s.drop i) = some (t, n)) : Good s (t, i) ∧ i + width t ≤ i + n := by
  have hl := oneN_len hi h
  obtain ⟨_, hk⟩ := oneN_kind h
  rcases hk with ⟨hk, h0, ht⟩ | ⟨hk, ht, hd⟩ | ⟨hk, h0, hd⟩
  · have hlen : t.t.length = n := by rw [ht, List.length_take, List.length_drop]; omega
    have hw : width t = n := by
      unfold width
      rw [if_neg (by rintro e; rw [e] at hk; revert hk; decide), if_neg (by rintro e; rw [e] at hk; revert hk; decide), hlen]
    refine ⟨⟨hi, by show i + width t ≤ _; omega, .inl ⟨hk, h0, fun e => by rw [e] at hlen; simp at hlen; omega, ?_⟩⟩, by omega⟩
    rw [hlen]; exact ht
  · have hw : width t = 1 := by unfold width; rw [if_pos hk]
    exact ⟨⟨hi, by show i + width t ≤ _; omega, .inr (.inl ⟨hk, ht, oneN_num h hk, _, head_drop hi, hd⟩)⟩, by omega⟩
  · have hw : width t = 2 + t.t.length := by unfold width; rw [if_neg (by rw [hk]; decide), if_pos hk]
    have h2 := oneN_str h hk
    exact ⟨⟨hi, by show i + width t ≤ _; omega, .inr (.inr ⟨hk, h0, by rw [← hd]; exact head_drop hi⟩)⟩, by omega⟩
structure PlI (s : List UInt8) (i : Nat) (l : List (Tk × Nat)) : Prop where
  at_ : ∀ k y, l[k]? = some y → ends l k ≤ y.2 ∧ Good s y
  last : ends l l.length ≤ i
theorem places {s : List UInt8} (hs : s.length ≤ 16384) {l : List (Tk × Nat)} (h : scanR s = .ok l) : PlI s s.length l :=
  (scan_ind hs (PlI s) ⟨fun k y h => by simp at h, Nat.zero_le _⟩ (fun i l n _ _ _ h => ⟨h.at_, by have := h.last; omega⟩) (fun i l t n hi hb ho h => by
    obtain ⟨g1, g2⟩ := good_one hi ho
    refine ⟨fun k y hk => ?_, ?_⟩
    · rcases Nat.lt_or_ge k l.length with hlt | hge
      · rw [List.getElem?_append_left hlt] at hk
        rw [ends_app (by omega)]
        exact h.at_ k y hk
      · obtain rfl : k = l.length := by
          have := (List.getElem?_eq_some_iff.1 hk).1
          rw [List.length_append] at this
          simp at this
          omega
        rw [List.getElem?_append_right (Nat.le_refl _), Nat.sub_self] at hk
        simp at hk
        subst hk
        rw [ends_app (Nat.le_refl _)]
        exact ⟨h.last, g1⟩
    · rw [List.length_append]
      have := ends_succ (l := l ++ [(t, i)]) (k := l.length) (y := (t, i)) (by rw [List.getElem?_append_right (by simp)]; simp)
      show ends (l ++ [(t, i)]) (l.length + 1) ≤ i + n
      rw [this]
      exact g2)).1 l h
theorem scan_err {s : List UInt8} (hs : s.length ≤ 16384) {i : Nat} (h : scanR s = .err i) : i < s.length :=
  ((scan_ind hs (fun _ _ => True) trivial (fun _ _ _ _ _ _ h => h) (fun _ _ _ _ _ _ _ h => h)).2 i h).1
end Tok
end Go.Proofs.YtdnmdccjecoojaaDoor
