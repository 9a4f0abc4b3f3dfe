/- token, apart from memory: what is scanned hangs on no more than what it reads. -/
import Derived.Test.YtdnmdccjecoojaaDoorMp
namespace Go.Proofs.YtdnmdccjecoojaaDoor
namespace Tok
/-- Two texts that are alike over n bytes, and the second has no other one behind them. -/
structure Agree (r r' : List UInt8) (n : Nat) : Prop where
  is : ∀ k, k < n → r'[k]? = r[k]?
  at_ : r'[n]? = none ∨ r'[n]? = r[n]?
theorem Agree.take {r r' : List UInt8} {n m : Nat} (h : Agree r r' n) (hm : m ≤ n) : r'.take m = r.take m := by
  apply List.ext_getElem?
  intro k
  rw [List.getElem?_take, List.getElem?_take]
  split
  · exact h.is k (by omega)
  · rfl
theorem Agree.drop1 {r r' : List UInt8} {n : Nat} (h : Agree r r' (1 + n)) : Agree (r.drop 1) (r'.drop 1) n :=
  ⟨fun k hk => by rw [List.getElem?_drop, List.getElem?_drop]; exact h.is _ (by omega), by rw [List.getElem?_drop, List.getElem?_drop]; exact h.at_⟩
theorem tw_of {p : UInt8 → Bool} : ∀ {n : Nat} {r : List UInt8}, (∀ k, k < n → ∃ c, r[k]? = some c ∧ p c = true) → (r[n]? = none ∨ ∃ c, r[n]? = some c ∧ p c = false) → (r.takeWhile p).length = n
  | 0, r, _, h => by
    cases r with
    | nil => rfl
    | cons a l =>
      rcases h with h | ⟨c, h, hp⟩
      · simp at h
      · simp at h
        subst h
        simp [List.takeWhile, hp]
  | n + 1, r, hk, h => by
    cases r with
    | nil =>
      obtain ⟨c, hc, _⟩ := hk 0 (by omega)
      simp at hc
    | cons a l =>
      obtain ⟨c, hc, hp⟩ := hk 0 (by omega)
      simp at hc
      subst hc
      simp only [List.takeWhile, hp, List.length_cons]
      rw [tw_of (n := n) (r := l) (fun k hkn => by
        obtain ⟨c, hc, hp⟩ := hk (k + 1) (by omega)
        exact ⟨c, by simpa using hc, hp⟩) (by simpa using h)]
theorem tw_is (p : UInt8 → Bool) : ∀ (r : List UInt8), (∀ k, k < (r.takeWhile p).length → ∃ c, r[k]? = some c ∧ p c = true) ∧ (r[(r.takeWhile p).length]? = none ∨ ∃ c, r[(r.takeWhile p).length]? = some c ∧ p c = false)
  | [] => ⟨fun k hk => by simp at hk, .inl rfl⟩
  | a :: l => by
    cases ha : p a with
    | false =>
      simp only [List.takeWhile, ha]
      exact ⟨fun k hk => by simp at hk, .inr ⟨a, rfl, ha⟩⟩
    | true =>
      simp only [List.takeWhile, ha, List.length_cons]
      obtain ⟨h1, h2⟩ := tw_is p l
      refine ⟨fun k hk => ?_, by simpa using h2⟩
      cases k with
      | zero => exact ⟨a, rfl, ha⟩
      | succ k =>
        obtain ⟨c, hc, hp⟩ := h1 k (by omega)
        exact ⟨c, by simpa using hc, hp⟩
theorem tw_local {p : UInt8 → Bool} {r r' : List UInt8} (h : Agree r r' (r.takeWhile p).length) : (r'.takeWhile p).length = (r.takeWhile p).length := by
  obtain ⟨h1, h2⟩ := tw_is p r
  refine tw_of (fun k hk => ?_) ?_
  · rw [h.is k hk]; exact h1 k hk
  · rcases h.at_ with e | e
    · exact .inl e
    · rw [e]; exact h2
theorem tw_more {p : UInt8 → Bool} {r r' : List UInt8} (h : ∀ (k : Nat) (c : UInt8), r[k]? = some c → r'[k]? = some c) : (r.takeWhile p).length ≤ (r'.takeWhile p).length := by
  obtain ⟨h1, _⟩ := tw_is p r
  obtain ⟨_, h2⟩ := tw_is p r'
  rcases Nat.lt_or_ge (r'.takeWhile p).length (r.takeWhile p).length with hlt | hge
  · obtain ⟨c, hc, hp⟩ := h1 _ hlt
    have hc' := h _ c hc
    rcases h2 with e | ⟨d, hd, hq⟩
    · rw [e] at hc'; cases hc'
    · rw [hd] at hc'
      cases hc'
      rw [hp] at hq; cases hq
  · exact hge
theorem cons_of {r' : List UInt8} {c : UInt8} (h : r'[0]? = some c) : ∃ q, r' = c :: q := by
  cases r' with
  | nil => simp at h
  | cons a l => simp at h; subst h; exact ⟨l, rfl⟩
theorem strL_local (m : Nat) : ∀ (r r' x : List UInt8) (k : Nat), r.length ≤ m → strL r = some (x, k) → (∀ j, j < k → r'[j]? = r[j]?) → strL r' = some (x, k) := by
  induction m with
  | zero =>
    intro r r' x k hm h
    obtain rfl : r = [] := List.eq_nil_of_length_eq_zero (by omega)
    cases h
  | succ m ih =>
    intro r r' x k hm h hj
    cases r with
    | nil => cases h
    | cons c r =>
      have hm2 : r.length ≤ m := by simpa using hm
      have hk := (strL_le _ _ _ _ (Nat.le_refl _) h).1
      obtain ⟨q', rfl⟩ := cons_of ((hj 0 (by omega)).trans rfl)
      have hq' : ∀ j, j + 1 < k → q'[j]? = r[j]? := fun j hjk => by simpa using hj (j + 1) hjk
      unfold strL at h ⊢
      by_cases c1 : c = 34
      · rw [if_pos c1] at h ⊢; exact h
      · rw [if_neg c1] at h ⊢
        by_cases c2 : c < 32 ∨ 126 < c
        · rw [if_pos c2] at h; cases h
        · rw [if_neg c2] at h ⊢
          by_cases c3 : c = 92
          · rw [if_pos c3] at h ⊢
            cases r with
            | nil => cases h
            | cons e q =>
              have hm3 : q.length ≤ m := by simp at hm2; omega
              simp only at h
              by_cases e1 : e = 110
              · rw [if_pos e1] at h
                obtain ⟨⟨y, j⟩, hy, he⟩ := Option.map_eq_some_iff.1 h
                cases he
                obtain ⟨q2, rfl⟩ := cons_of ((hq' 0 (by omega)).trans rfl)
                simp only
                rw [if_pos e1, ih q q2 y j hm3 hy (fun i hi => by simpa using hq' (i + 1) (by omega))]; rfl
              · rw [if_neg e1] at h
                by_cases e2 : e = 92 ∨ e = 34
                · rw [if_pos e2] at h
                  obtain ⟨⟨y, j⟩, hy, he⟩ := Option.map_eq_some_iff.1 h
                  cases he
                  obtain ⟨q2, rfl⟩ := cons_of ((hq' 0 (by omega)).trans rfl)
                  simp only
                  rw [if_neg e1, if_pos e2, ih q q2 y j hm3 hy (fun i hi => by simpa using hq' (i + 1) (by omega))]; rfl
                · rw [if_neg e2] at h; cases h
          · rw [if_neg c3] at h ⊢
            obtain ⟨⟨y, j⟩, hy, he⟩ := Option.map_eq_some_iff.1 h
            cases he
            rw [ih r q' y j hm2 hy (fun i hi => hq' i (by omega))]; rfl
theorem take_of {r r' : List UInt8} {n : Nat} (h : ∀ j, j < n → r'[j]? = r[j]?) : r'.take n = r.take n := by
  apply List.ext_getElem?
  intro k
  rw [List.getElem?_take, List.getElem?_take]
  split
  · exact h k (by omega)
  · rfl
theorem comS_local (m : Nat) : ∀ (r r' : List UInt8) (d n : Nat), r.length ≤ m → comS r d = some n → (∀ j, j < n → r'[j]? = r[j]?) → comS r' d = some n := by
  induction m with
  | zero =>
    intro r r' d n hm h
    obtain rfl : r = [] := List.eq_nil_of_length_eq_zero (by omega)
    rw [comS_nil] at h; cases h
  | succ m ih =>
    intro r r' d n hm h hj
    have hn := comS_le _ _ _ _ (Nat.le_refl _) h
    have hr : r ≠ [] := fun e => by rw [e, comS_nil] at h; cases h
    have hp := List.length_pos_iff.2 hr
    have ht : r'.take 2 = r.take 2 := take_of (fun j h => hj j (by omega))
    have hd : ∀ q x, n = q + x → ∀ j, j < x → (r'.drop q)[j]? = (r.drop q)[j]? := fun q x e j h => by
      rw [List.getElem?_drop, List.getElem?_drop]; exact hj _ (by omega)
    by_cases h1 : r.take 2 = [40, 42]
    · rw [comS_open d h1] at h
      obtain ⟨x, hx, rfl⟩ := Option.map_eq_some_iff.1 h
      rw [comS_open d (ht.trans h1), ih _ _ _ _ (by rw [List.length_drop]; omega) hx (hd 2 x rfl)]; rfl
    · by_cases h2 : r.take 2 = [42, 41]
      · by_cases hd1 : d = 1
        · subst hd1
          rw [comS_end h2] at h
          rw [comS_end (ht.trans h2)]; exact h
        · rw [comS_close h2 hd1] at h
          obtain ⟨x, hx, rfl⟩ := Option.map_eq_some_iff.1 h
          rw [comS_close (ht.trans h2) hd1, ih _ _ _ _ (by rw [List.length_drop]; omega) hx (hd 2 x rfl)]; rfl
      · rw [comS_else d hr h1 h2] at h
        obtain ⟨x, hx, rfl⟩ := Option.map_eq_some_iff.1 h
        have hr' : r' ≠ [] := fun e => by
          have := hj 0 (by omega)
          rw [e] at this
          exact hr (List.eq_nil_of_length_eq_zero (by
            have h0 : r[0]? = none := this.symm
            have := List.getElem?_eq_none_iff.1 h0
            omega))
        rw [comS_else d hr' (fun e => h1 (ht.symm.trans e)) (fun e => h2 (ht.symm.trans e)), ih _ _ _ _ (by rw [List.length_drop]; omega) hx (hd 1 x rfl)]; rfl
theorem blankN_cons (c : UInt8) (r : List UInt8) : blankN (c :: r) = if blankB c then some 1 else if (c :: r).take 2 = [40, 42] then comS (c :: r) 0 else some 0 := rfl
theorem blank_local {r r' : List UInt8} {n : Nat} (h : blankN r = some n) (hn : 0 < n) (hj : ∀ j, j < n → r'[j]? = r[j]?) : blankN r' = some n := by
  cases r with
  | nil => cases h; omega
  | cons c q =>
    obtain ⟨q', rfl⟩ := cons_of ((hj 0 hn).trans rfl)
    rw [blankN_cons] at h ⊢
    by_cases hb : blankB c = true
    · rw [if_pos hb] at h ⊢; exact h
    · rw [if_neg hb] at h ⊢
      by_cases h2 : (c :: q).take 2 = [40, 42]
      · rw [if_pos h2] at h
        have := comS_le _ _ _ _ (Nat.le_refl _) h
        have ht : (c :: q').take 2 = (c :: q).take 2 := take_of (fun j h => hj j (by omega))
        rw [if_pos (ht.trans h2)]
        exact comS_local _ _ _ _ _ (Nat.le_refl _) h hj
      · rw [if_neg h2] at h; cases h; omega
theorem blank_none {r r' : List UInt8} {c : UInt8} (h : blankN r = some 0) (h0 : r[0]? = some c) (h0' : r'[0]? = some c) (h1 : r'[1]? = none ∨ r'[1]? = r[1]?) : blankN r' = some 0 := by
  obtain ⟨q, rfl⟩ := cons_of h0
  obtain ⟨q', rfl⟩ := cons_of h0'
  rw [blankN_cons] at h ⊢
  by_cases hb : blankB c = true
  · rw [if_pos hb] at h; cases h
  · rw [if_neg hb] at h ⊢
    by_cases h2 : (c :: q').take 2 = [40, 42]
    · have e2 : (c :: q).take 2 = [40, 42] := by
        have e : (c :: q')[1]? = some 42 := by
          have := congrArg (·[1]?) h2
          simpa [List.getElem?_take] using this
        rcases h1 with h1 | h1
        · rw [e] at h1; cases h1
        · rw [e] at h1
          have hc : c = 40 := by
            have := congrArg (·[0]?) h2
            simpa using this
          obtain ⟨q2, hq2⟩ : ∃ q2, q = 42 :: q2 := cons_of (by simpa using h1.symm)
          rw [hc, hq2]; rfl
      rw [if_pos e2] at h
      have := comS_le _ _ _ _ (Nat.le_refl _) h
      omega
    · rw [if_neg h2]
theorem head_local {r r' : List UInt8} {n : Nat} (h : Agree r r' n) (hn : 0 < n) : r'.headD 0 = r.headD 0 := by
  have := h.is 0 hn
  cases r with
  | nil => cases r' with | nil => rfl | cons a l => simp at this
  | cons c q => cases r' with | nil => simp at this | cons a l => simpa using this
theorem one_local {r r' : List UInt8} {t : Tk} {n : Nat} (h : oneN r = some (t, n)) (hn : 0 < n) (ha : Agree r r' n) : oneN r' = some (t, n) := by
  have hON : ∀ s, oneN s = if smallB (s.headD 0) || greatB (s.headD 0) then nameN s else if s.headD 0 = 39 then tickN s else if digitB (s.headD 0) then numN s else if s.headD 0 = 34 then strN s else signN s := fun _ => rfl
  rw [hON] at h ⊢
  rw [head_local ha hn]
  by_cases c1 : (smallB (r.headD 0) || greatB (r.headD 0)) = true
  · rw [if_pos c1] at h ⊢
    unfold nameN at h ⊢
    by_cases h32 : 32 < prtN r
    · rw [if_pos h32] at h; cases h
    · rw [if_neg h32] at h
      cases h
      have hp : prtN r' = prtN r := tw_local ha
      rw [hp, if_neg h32, head_local ha hn, ha.take (Nat.le_refl _)]
  · rw [if_neg c1] at h ⊢
    by_cases c2 : r.headD 0 = 39
    · rw [if_pos c2] at h ⊢
      unfold tickN at h ⊢
      by_cases hb : prtN (r.drop 1) = 0 ∨ 32 < prtN (r.drop 1) ∨ smallB (r.getD 1 0) = false
      · rw [if_pos hb] at h; cases h
      · rw [if_neg hb] at h
        cases h
        have hp : prtN (r'.drop 1) = prtN (r.drop 1) := tw_local ha.drop1
        have hg : r'.getD 1 0 = r.getD 1 0 := by
          have : 1 < 1 + prtN (r.drop 1) := by
            rcases Nat.eq_zero_or_pos (prtN (r.drop 1)) with e | e
            · exact absurd (.inl e) hb
            · omega
          rw [List.getD_eq_getElem?_getD, List.getD_eq_getElem?_getD, ha.is 1 this]
        rw [hp, hg, if_neg hb, ha.take (Nat.le_refl _)]
    · rw [if_neg c2] at h ⊢
      by_cases c3 : digitB (r.headD 0) = true
      · rw [if_pos c3] at h ⊢
        unfold numN at h ⊢
        obtain ⟨v, hv, he⟩ := Option.map_eq_some_iff.1 h
        cases he
        have hp := tw_local ha
        have ht : r'.takeWhile digitB = r.takeWhile digitB := by rw [← take_tw, ← take_tw digitB r, hp]; exact ha.take (Nat.le_refl _)
        rw [ht, hv]; rfl
      · rw [if_neg c3] at h ⊢
        by_cases c4 : r.headD 0 = 34
        · rw [if_pos c4] at h ⊢
          unfold strN at h ⊢
          obtain ⟨⟨y, j⟩, hy, he⟩ := Option.map_eq_some_iff.1 h
          cases he
          rw [strL_local _ _ (r'.drop 1) _ _ (Nat.le_refl _) hy (fun i hi => by
            rw [List.getElem?_drop, List.getElem?_drop]; exact ha.is _ (by omega))]; rfl
        · rw [if_neg c4] at h ⊢
          unfold signN at h ⊢
          obtain ⟨x, hx, he⟩ := Option.map_eq_some_iff.1 h
          cases he
          have hf : signsL.find? (fun y => r'.take y.length == y) = some x := by
            rw [List.find?_eq_some_iff_append] at hx ⊢
            obtain ⟨hx1, l1, l2, hab, hno⟩ := hx
            refine ⟨by rw [ha.take (Nat.le_refl _)]; exact hx1, l1, l2, hab, fun y hy => ?_⟩
            have h1 := hno y hy
            rcases Nat.lt_or_ge x.length y.length with hlt | hge
            · have hy2 : y.length ≤ 2 ∧ 1 ≤ x.length := by
                have hs : ∀ z ∈ signsL, z.length ≤ 2 ∧ 1 ≤ z.length := by decide
                exact ⟨(hs y (by rw [hab]; exact List.mem_append_left _ hy)).1, (hs x (by rw [hab]; simp)).2⟩
              have hx1l : x.length = 1 := by omega
              rw [hx1l] at ha
              have hyl : y.length = 2 := by omega
              rw [hyl] at h1 ⊢
              rcases ha.at_ with e | e
              · have : (r'.take 2).length ≤ 1 := by
                  rw [List.length_take]
                  have := List.getElem?_eq_none_iff.1 e
                  omega
                have hne : r'.take 2 ≠ y := fun e => by rw [e, hyl] at this; omega
                simpa using hne
              · have : r'.take 2 = r.take 2 := take_of (fun j hj => by
                  rcases (by omega : j = 0 ∨ j = 1) with rfl | rfl
                  · exact ha.is 0 (by omega)
                  · exact e)
                rw [this]; exact h1
            · rw [ha.take hge]; exact h1
          rw [hf]; rfl
end Tok
end Go.Proofs.YtdnmdccjecoojaaDoor
