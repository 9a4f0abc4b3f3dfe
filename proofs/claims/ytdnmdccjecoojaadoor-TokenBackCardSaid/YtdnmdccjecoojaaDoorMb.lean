/- token, apart from memory: where a text has no token it has none there whatever stands behind it. -/
import Derived.Test.YtdnmdccjecoojaaDoorMa
namespace Go.Proofs.YtdnmdccjecoojaaDoor
namespace Tok
theorem res_mono {s : List UInt8} {i : Nat} {l : List (Tk × Nat)} (hi : i ≤ s.length) : (∀ m, res s i l = .ok m → ∃ e, m = l ++ e) ∧ ∀ k, res s i l = .err k → i ≤ k := by
  have h := res_ind (s := s) (fun j m => i ≤ j ∧ ∃ e, m = l ++ e) (fun j m n _ _ _ h => ⟨by omega, h.2⟩) (fun j m t n _ _ _ h => ⟨by omega, by
    obtain ⟨_, e, rfl⟩ := h
    exact ⟨e ++ [(t, j)], by rw [List.append_assoc]⟩⟩) s.length i l (by omega) hi ⟨Nat.le_refl _, [], by simp⟩
  exact ⟨fun m e => (h.1 m e).2, fun k e => by obtain ⟨_, l', h', _⟩ := h.2 k e; exact h'.1⟩
theorem app_at {s more : List UInt8} {i k : Nat} (h : i + k < s.length) : ((s ++ more).drop i)[k]? = (s.drop i)[k]? := by
  rw [List.getElem?_drop, List.getElem?_drop, List.getElem?_append_left h]
theorem cut_at {s : List UInt8} {i j k : Nat} (h : j + k < i) : ((s.take i).drop j)[k]? = (s.drop j)[k]? := by
  rw [List.getElem?_drop, List.getElem?_drop, List.getElem?_take_of_lt h]
theorem cut_none {s : List UInt8} {i j k : Nat} (h : i ≤ j + k) : ((s.take i).drop j)[k]? = none := by
  rw [List.getElem?_drop, List.getElem?_take]
  rw [if_neg (by omega)]
theorem cut_or {s : List UInt8} {i j k : Nat} : ((s.take i).drop j)[k]? = none ∨ ((s.take i).drop j)[k]? = (s.drop j)[k]? := by
  rcases Nat.lt_or_ge (j + k) i with h | h
  · exact .inr (cut_at h)
  · exact .inl (cut_none h)
theorem aheadS {s : List UInt8} (hs : s.length ≤ 16384) {i : Nat} (h : scanR s = .err i) :
    i < s.length ∧ ∃ l, scanR (s.take i) = .ok l ∧ (∀ more, res (s ++ more) 0 [] = res (s ++ more) i l) ∧ (blankN (s.drop i) = none ∨ blankN (s.drop i) = some 0 ∧ oneN (s.drop i) = none) := by
  obtain ⟨hi, l, hI, _, hor⟩ := (scan_ind hs (fun j l => ∀ i', j ≤ i' → i' < s.length → res (s.take i') 0 [] = res (s.take i') j l ∧ ∀ more, res (s ++ more) 0 [] = res (s ++ more) j l)
    (fun i' _ _ => ⟨rfl, fun _ => rfl⟩)
    (fun j l n hj hb hn hI i' h1 h2 => by
      obtain ⟨e1, e2⟩ := hI i' (by omega) h2
      refine ⟨?_, fun more => ?_⟩
      · rw [e1, res_blank (by rw [List.length_take]; omega) (blank_local hb hn fun k hk => cut_at (by omega)) hn]
      · rw [e2, res_blank (by rw [List.length_append]; omega) (blank_local hb hn fun k hk => app_at (by omega)) hn])
    (fun j l t n hj hb ho hI i' h1 h2 => by
      have hn := oneN_len hj ho
      obtain ⟨e1, e2⟩ := hI i' (by omega) h2
      obtain ⟨c, hc⟩ : ∃ c, s[j]? = some c := ⟨_, List.getElem?_eq_getElem hj⟩
      have hd0 : (s.drop j)[0]? = some c := by rw [List.getElem?_drop]; exact hc
      refine ⟨?_, fun more => ?_⟩
      · rw [e1, res_one (by rw [List.length_take]; omega) (blank_none hb hd0 ((cut_at (by omega)).trans hd0) cut_or) (one_local ho hn.1 ⟨fun k hk => cut_at (by omega), cut_or⟩) hn.1]
      · rw [e2, res_one (by rw [List.length_append]; omega) (blank_none hb hd0 ((app_at (by omega)).trans hd0) (.inr (app_at (by omega)))) (one_local ho hn.1 ⟨fun k hk => app_at (by omega), .inr (app_at (by omega))⟩) hn.1])).2 i h
  obtain ⟨e1, e2⟩ := hI i (Nat.le_refl _) hi
  refine ⟨hi, l, ?_, e2, hor⟩
  unfold scanR
  rw [List.length_take, if_neg (by omega), e1, res_end (by rw [List.length_take]; omega)]
theorem numL_app : ∀ (a b : List UInt8) (x : Nat), numL x (a ++ b) = (numL x a).bind fun y => numL y b
  | [], b, x => rfl
  | c :: a, b, x => by
    show (if (big - (c.toNat - 48)) / 10 < x then none else numL (10 * x + (c.toNat - 48)) (a ++ b)) = (if (big - (c.toNat - 48)) / 10 < x then none else numL (10 * x + (c.toNat - 48)) a).bind fun y => numL y b
    by_cases h : (big - (c.toNat - 48)) / 10 < x
    · rw [if_pos h, if_pos h]; rfl
    · rw [if_neg h, if_neg h]; exact numL_app a b _
theorem tw_app {p : UInt8 → Bool} {r r' : List UInt8} (h : ∀ (k : Nat) (c : UInt8), r[k]? = some c → r'[k]? = some c) : ∃ e, r'.takeWhile p = r.takeWhile p ++ e := by
  have h1 := tw_more (p := p) h
  have e1 : r'.take (r.takeWhile p).length = r.takeWhile p := by
    conv => rhs; rw [← take_tw p r]
    apply take_of
    intro j hj
    have := tw_le p r
    obtain ⟨c, hc⟩ : ∃ c, r[j]? = some c := ⟨_, List.getElem?_eq_getElem (by omega)⟩
    rw [hc]; exact h j c hc
  have e2 := take_tw p r'
  obtain ⟨n, hn⟩ : ∃ n, (r.takeWhile p).length = n := ⟨_, rfl⟩
  obtain ⟨m, hm⟩ : ∃ m, (r'.takeWhile p).length = m := ⟨_, rfl⟩
  rw [hn] at e1 h1
  rw [hm] at e2 h1
  refine ⟨(r'.drop n).take (m - n), ?_⟩
  rw [← e2, ← e1, ← List.take_add, show n + (m - n) = m by omega]
theorem signs_head : ∀ x ∈ signsL, ∃ c, x[0]? = some c ∧ [c] ∈ signsL := by
  intro x hx
  have : ∀ x ∈ signsL, signsL.contains [x.headD 0] = true ∧ x ≠ [] := by decide
  obtain ⟨h1, h2⟩ := this x hx
  cases x with
  | nil => exact absurd rfl h2
  | cons a l => exact ⟨a, rfl, by simpa using h1⟩
theorem stuckS {s more : List UInt8} {i : Nat} {c : UInt8} (hc : s[i]? = some c) (h34 : c.toNat ≠ 34) (h40 : c.toNat ≠ 40) (h39 : c.toNat ≠ 39)
    (h : blankN (s.drop i) = none ∨ blankN (s.drop i) = some 0 ∧ oneN (s.drop i) = none) : blankN ((s ++ more).drop i) = some 0 ∧ oneN ((s ++ more).drop i) = none := by
  have hi := (List.getElem?_eq_some_iff.1 hc).1
  obtain ⟨q, hq⟩ : ∃ q, s.drop i = c :: q := ⟨_, drop_cons hc⟩
  have hd : (s ++ more).drop i = c :: (q ++ more) := by
    rw [List.drop_append_of_le_length (by omega), hq]; rfl
  have hext : ∀ (k : Nat) (d : UInt8), (c :: q)[k]? = some d → (c :: (q ++ more))[k]? = some d := fun k d h => by
    cases k with
    | zero => simpa using h
    | succ k =>
      have h : q[k]? = some d := by simpa using h
      show (q ++ more)[k]? = some d
      rw [List.getElem?_append_left (List.getElem?_eq_some_iff.1 h).1]; exact h
  have hn40 : ∀ z : List UInt8, (c :: z).take 2 ≠ [40, 42] := fun z e => by
    have : c = 40 := by
      have := congrArg (·[0]?) e
      simpa using this
    rw [this] at h40
    exact h40 rfl
  rw [hq] at h
  rw [hd]
  rw [blankN_cons, if_neg (hn40 _)] at h
  rw [blankN_cons, if_neg (hn40 _)]
  by_cases hb : blankB c = true
  · rw [if_pos hb] at h
    rcases h with h | ⟨h, _⟩ <;> cases h
  · rw [if_neg hb] at h ⊢
    refine ⟨rfl, ?_⟩
    obtain ⟨_, h⟩ : _ ∧ oneN (c :: q) = none := by
      rcases h with h | h
      · cases h
      · exact h
    have hON : ∀ z, oneN (c :: z) = if smallB c || greatB c then nameN (c :: z) else if c = 39 then tickN (c :: z) else if digitB c then numN (c :: z) else if c = 34 then strN (c :: z) else signN (c :: z) := fun _ => rfl
    rw [hON] at h ⊢
    rw [if_neg (c := c = 39) (fun e => by rw [e] at h39; exact h39 rfl), if_neg (c := c = 34) (fun e => by rw [e] at h34; exact h34 rfl)] at h ⊢
    by_cases c1 : (smallB c || greatB c) = true
    · rw [if_pos c1] at h ⊢
      unfold nameN at h ⊢
      by_cases h32 : 32 < prtN (c :: q)
      · have := tw_more (p := partB) hext
        rw [if_pos (show 32 < prtN (c :: (q ++ more)) from Nat.lt_of_lt_of_le h32 this)]
      · rw [if_neg h32] at h; cases h
    · rw [if_neg c1] at h ⊢
      by_cases c3 : digitB c = true
      · rw [if_pos c3] at h ⊢
        unfold numN at h ⊢
        have hnone : numL 0 ((c :: q).takeWhile digitB) = none := by
          cases hh : numL 0 ((c :: q).takeWhile digitB) with
          | none => rfl
          | some v => rw [hh] at h; cases h
        obtain ⟨e, he⟩ := tw_app (p := digitB) hext
        rw [he, numL_app, hnone]; rfl
      · rw [if_neg c3] at h ⊢
        unfold signN at h ⊢
        have hnone : signsL.find? (fun x => (c :: q).take x.length == x) = none := by
          cases hh : signsL.find? (fun x => (c :: q).take x.length == x) with
          | none => rfl
          | some v => rw [hh] at h; cases h
        have hf : signsL.find? (fun x => (c :: (q ++ more)).take x.length == x) = none := by
          rw [List.find?_eq_none] at hnone ⊢
          intro x hx hp
          obtain ⟨d, hd0, hd1⟩ := signs_head x hx
          have hx1 := signs_pos x hx
          have hcd : d = c := by
            have := beq_iff_eq.1 hp
            rw [← this, List.getElem?_take_of_lt (by omega)] at hd0
            simpa using hd0.symm
          subst hcd
          exact hnone [d] hd1 (by simp)
        rw [hf]; rfl
end Tok
end Go.Proofs.YtdnmdccjecoojaaDoor
