/- token, apart from memory: what holds of whatever is scanned. -/
import Derived.Test.YtdnmdccjecoojaaDoorLa
namespace Go.Proofs.YtdnmdccjecoojaaDoor
namespace Tok
theorem blankN_le {s : List UInt8} {n : Nat} (h : blankN s = some n) : n ≤ s.length := by
  cases s with
  | nil => cases h; exact Nat.le_refl _
  | cons c r =>
    have h2 : (if blankB c then some 1 else if (c :: r).take 2 = [40, 42] then comS (c :: r) 0 else some 0) = some n := h
    by_cases hb : blankB c = true
    · rw [if_pos hb] at h2; cases h2; simp
    · rw [if_neg hb] at h2
      by_cases hc : (c :: r).take 2 = [40, 42]
      · rw [if_pos hc] at h2; exact (comS_le _ _ _ _ (Nat.le_refl _) h2).2
      · rw [if_neg hc] at h2; cases h2; exact Nat.zero_le _
theorem oneN_len {s : List UInt8} {t : Tk} {n i : Nat} (hi : i < s.length) (h : oneN (s.drop i) = some (t, n)) : 1 ≤ n ∧ i + n ≤ s.length := by
  obtain ⟨c, hc⟩ : ∃ c, s[i]? = some c := ⟨_, List.getElem?_eq_getElem hi⟩
  have hd := drop_cons hc
  have hl := congrArg List.length hd
  rw [List.length_drop, List.length_cons] at hl
  rw [hd] at h
  have := oneN_size h
  omega
/-- An invariant of scanning. -/
theorem res_ind {s : List UInt8} (I : Nat → List (Tk × Nat) → Prop)
    (hb : ∀ i l n, i < s.length → blankN (s.drop i) = some n → 0 < n → I i l → I (i + n) l)
    (ho : ∀ i l t n, i < s.length → blankN (s.drop i) = some 0 → oneN (s.drop i) = some (t, n) → I i l → I (i + n) (l ++ [(t, i)])) :
    ∀ m i l, s.length ≤ i + m → i ≤ s.length → I i l → (∀ l', res s i l = .ok l' → I s.length l') ∧
      (∀ j, res s i l = .err j → j < s.length ∧ ∃ l', I j l' ∧ res s i l = res s j l' ∧ (blankN (s.drop j) = none ∨ blankN (s.drop j) = some 0 ∧ oneN (s.drop j) = none)) := by
  intro m
  induction m with
  | zero =>
    intro i l h1 h2 hI
    obtain rfl : i = s.length := by omega
    rw [res_end (Nat.le_refl _)]
    exact ⟨fun l' e => by cases e; exact hI, fun j e => by cases e⟩
  | succ m ih =>
    intro i l h1 h2 hI
    rcases Nat.lt_or_ge i s.length with hlt | hge
    · cases hbl : blankN (s.drop i) with
      | none =>
        rw [res_open hlt hbl]
        exact ⟨fun l' e => (by cases e), fun j e => by cases e; exact ⟨hlt, l, hI, by rw [res_open hlt hbl], .inl hbl⟩⟩
      | some n =>
        have hn := blankN_le hbl
        rw [List.length_drop] at hn
        rcases Nat.eq_zero_or_pos n with h0 | h0
        · subst h0
          cases hon : oneN (s.drop i) with
          | none =>
            rw [res_none hlt hbl hon]
            exact ⟨fun l' e => (by cases e), fun j e => by cases e; exact ⟨hlt, l, hI, by rw [res_none hlt hbl hon], .inr ⟨hbl, hon⟩⟩⟩
          | some x =>
            obtain ⟨t, k⟩ := x
            have hk := oneN_len hlt hon
            rw [res_one hlt hbl hon hk.1]
            exact ih (i + k) _ (by omega) hk.2 (ho i l t k hlt hbl hon hI)
        · rw [res_blank hlt hbl h0]
          exact ih (i + n) _ (by omega) (by omega) (hb i l n hlt hbl h0 hI)
    · obtain rfl : i = s.length := by omega
      rw [res_end (Nat.le_refl _)]
      exact ⟨fun l' e => by cases e; exact hI, fun j e => by cases e⟩
theorem scan_ind {s : List UInt8} (hs : s.length ≤ 16384) (I : Nat → List (Tk × Nat) → Prop) (h0 : I 0 [])
    (hb : ∀ i l n, i < s.length → blankN (s.drop i) = some n → 0 < n → I i l → I (i + n) l)
    (ho : ∀ i l t n, i < s.length → blankN (s.drop i) = some 0 → oneN (s.drop i) = some (t, n) → I i l → I (i + n) (l ++ [(t, i)])) :
    (∀ l', scanR s = .ok l' → I s.length l') ∧
      (∀ j, scanR s = .err j → j < s.length ∧ ∃ l', I j l' ∧ scanR s = res s j l' ∧ (blankN (s.drop j) = none ∨ blankN (s.drop j) = some 0 ∧ oneN (s.drop j) = none)) := by
  have e : scanR s = res s 0 [] := by unfold scanR; rw [if_neg (by omega)]
  rw [e]
  exact res_ind I hb ho s.length 0 [] (by omega) (Nat.zero_le _) h0
/-- What sort of token a text begins with. -/
theorem oneN_kind {s : List UInt8} {t : Tk} {n : Nat} (h : oneN s = some (t, n)) :
    (t.k = 6 → t.t ∈ wordsL) ∧ (((t.k = 1 ∨ t.k = 2 ∨ t.k = 3 ∨ t.k = 6 ∨ t.k = 7) ∧ t.n = 0 ∧ t.t = s.take n) ∨ (t.k = 4 ∧ t.t = [] ∧ digitB (s.headD 0) = true) ∨ (t.k = 5 ∧ t.n = 0 ∧ s.headD 0 = 34)) := by
  have hON : oneN s = if smallB (s.headD 0) || greatB (s.headD 0) then nameN s else if s.headD 0 = 39 then tickN s else if digitB (s.headD 0) then numN s else if s.headD 0 = 34 then strN s else signN s := rfl
  rw [hON] at h
  by_cases hsg : (smallB (s.headD 0) || greatB (s.headD 0)) = true
  · rw [if_pos hsg] at h
    unfold nameN at h
    by_cases h32 : 32 < prtN s
    · rw [if_pos h32] at h; cases h
    · rw [if_neg h32] at h
      cases h
      by_cases hg : greatB (s.headD 0) = true
      · rw [if_pos hg]
        exact ⟨fun e => absurd e (show (2 : UInt8) ≠ 6 by decide), .inl ⟨.inr (.inl rfl), rfl, rfl⟩⟩
      · rw [if_neg hg]
        by_cases hw : s.take (prtN s) ∈ wordsL
        · rw [if_pos hw]
          exact ⟨fun _ => hw, .inl ⟨.inr (.inr (.inr (.inl rfl))), rfl, rfl⟩⟩
        · rw [if_neg hw]
          exact ⟨fun e => absurd e (show (1 : UInt8) ≠ 6 by decide), .inl ⟨.inl rfl, rfl, rfl⟩⟩
  · rw [if_neg hsg] at h
    by_cases h39 : s.headD 0 = 39
    · rw [if_pos h39] at h
      unfold tickN at h
      split at h
      · cases h
      · cases h
        exact ⟨fun e => absurd e (show (3 : UInt8) ≠ 6 by decide), .inl ⟨.inr (.inr (.inl rfl)), rfl, rfl⟩⟩
    · rw [if_neg h39] at h
      by_cases hd : digitB (s.headD 0) = true
      · rw [if_pos hd] at h
        obtain ⟨v, hv, he⟩ := Option.map_eq_some_iff.1 h
        cases he
        exact ⟨fun e => absurd e (show (4 : UInt8) ≠ 6 by decide), .inr (.inl ⟨rfl, rfl, hd⟩)⟩
      · rw [if_neg hd] at h
        by_cases h34 : s.headD 0 = 34
        · rw [if_pos h34] at h
          obtain ⟨⟨y, j⟩, hy, he⟩ := Option.map_eq_some_iff.1 h
          cases he
          exact ⟨fun e => absurd e (show (5 : UInt8) ≠ 6 by decide), .inr (.inr ⟨rfl, rfl, h34⟩)⟩
        · rw [if_neg h34] at h
          obtain ⟨x, hx, he⟩ := Option.map_eq_some_iff.1 h
          cases he
          have h2 := List.find?_some hx
          exact ⟨fun e => absurd e (show (7 : UInt8) ≠ 6 by decide), .inl ⟨.inr (.inr (.inr (.inr rfl))), rfl, (beq_iff_eq.1 h2).symm⟩⟩
/-- Is a text scanned as just one word? -/
def oneWord (s : List UInt8) : Bool := match resF s.length s 0 [] with | .ok [(⟨k, t, n⟩, a)] => k == 6 && t == s && n == 0 && a == 0 | _ => false
theorem words_one : wordsL.all oneWord = true := by kernel_rfl
theorem words_len : ∀ s ∈ wordsL, s.length ≤ 9 := by decide
theorem scan_word {s : List UInt8} (h : s ∈ wordsL) : scanR s = .ok [(⟨6, s, 0⟩, 0)] := by
  have h1 := List.all_eq_true.1 words_one s h
  have h2 := words_len s h
  rw [scanF (by omega)]
  unfold oneWord at h1
  split at h1
  · rename_i k t n a he
    simp only [Bool.and_eq_true, beq_iff_eq] at h1
    obtain ⟨⟨⟨rfl, rfl⟩, rfl⟩, rfl⟩ := h1
    exact he
  · cases h1
theorem scan_words {s : List UInt8} (hs : s.length ≤ 16384) {l : List (Tk × Nat)} (h : scanR s = .ok l) : ∀ x ∈ l, x.1.k = 6 → x.1.t ∈ wordsL :=
  (scan_ind hs (fun _ l => ∀ x ∈ l, x.1.k = 6 → x.1.t ∈ wordsL) (fun x hx => by simp at hx) (fun _ _ _ _ _ _ h => h) (fun i l t n hi hb ho h x hx => by
    rcases List.mem_append.1 hx with hx | hx
    · exact h x hx
    · simp at hx
      subst hx
      exact (oneN_kind ho).1)).1 l h
end Tok
end Go.Proofs.YtdnmdccjecoojaaDoor
