/- token, apart from memory: a token, as it is written; what is written is scanned again. -/
import Derived.Test.YtdnmdccjecoojaaDoorMb
import Derived.Test.YtdnmdccjecoojaaDoorX
namespace Go.Proofs.YtdnmdccjecoojaaDoor
namespace Tok
def sepB (b : UInt8) : Prop := b = 32 ∨ b = 10 ∨ b = 9 ∨ b = 40
theorem sepB_not {b : UInt8} (h : sepB b) : partB b = false ∧ digitB b = false ∧ b ≠ 42 ∧ [61, 62, 45].contains b = false := by
  rcases h with rfl | rfl | rfl | rfl <;> decide
/-- Two texts alike over n bytes, and then what stands between tokens. -/
structure Sep (r r' : List UInt8) (n : Nat) : Prop where
  is : ∀ k, k < n → r'[k]? = r[k]?
  at_ : ∃ b, r'[n]? = some b ∧ sepB b
theorem Sep.take {r r' : List UInt8} {n m : Nat} (h : Sep r r' n) (hm : m ≤ n) : r'.take m = r.take m := take_of (fun j hj => h.is j (by omega))
theorem Sep.drop1 {r r' : List UInt8} {n : Nat} (h : Sep r r' (1 + n)) : Sep (r.drop 1) (r'.drop 1) n := by
  obtain ⟨b, hb, hs⟩ := h.at_
  exact ⟨fun k hk => by rw [List.getElem?_drop, List.getElem?_drop]; exact h.is _ (by omega), b, by rw [List.getElem?_drop]; exact hb, hs⟩
theorem tw_sep {p : UInt8 → Bool} (hp : ∀ b, sepB b → p b = false) {r r' : List UInt8} (h : Sep r r' (r.takeWhile p).length) : (r'.takeWhile p).length = (r.takeWhile p).length := by
  obtain ⟨h1, _⟩ := tw_is p r
  obtain ⟨b, hb, hs⟩ := h.at_
  exact tw_of (fun k hk => by rw [h.is k hk]; exact h1 k hk) (.inr ⟨b, hb, hp b hs⟩)
theorem head_sep {r r' : List UInt8} {n : Nat} (h : Sep r r' n) (hn : 0 < n) : r'.headD 0 = r.headD 0 := by
  have := h.is 0 hn
  cases r with
  | nil => cases r' with | nil => rfl | cons a l => simp at this
  | cons c q => cases r' with | nil => simp at this | cons a l => simpa using this
theorem signs_second : ∀ y ∈ signsL, y.length ≤ 2 ∧ (y.length = 2 → [61, 62, 45].contains (y.getD 1 0) = true) ∧ 1 ≤ y.length := by decide
theorem one_sep {r r' : List UInt8} {t : Tk} {n : Nat} (h : oneN r = some (t, n)) (hn : 0 < n) (ha : Sep r r' n) : oneN r' = some (t, n) := by
  have hON : ∀ s, oneN s = if smallB (s.headD 0) || greatB (s.headD 0) then nameN s else if s.headD 0 = 39 then tickN s else if digitB (s.headD 0) then numN s else if s.headD 0 = 34 then strN s else signN s := fun _ => rfl
  rw [hON] at h ⊢
  rw [head_sep ha hn]
  by_cases c1 : (smallB (r.headD 0) || greatB (r.headD 0)) = true
  · rw [if_pos c1] at h ⊢
    unfold nameN at h ⊢
    by_cases h32 : 32 < prtN r
    · rw [if_pos h32] at h; cases h
    · rw [if_neg h32] at h
      cases h
      have hp : prtN r' = prtN r := tw_sep (fun b hb => (sepB_not hb).1) ha
      rw [hp, if_neg h32, head_sep ha hn, ha.take (Nat.le_refl _)]
  · rw [if_neg c1] at h ⊢
    by_cases c2 : r.headD 0 = 39
    · rw [if_pos c2] at h ⊢
      unfold tickN at h ⊢
      by_cases hb : prtN (r.drop 1) = 0 ∨ 32 < prtN (r.drop 1) ∨ smallB (r.getD 1 0) = false
      · rw [if_pos hb] at h; cases h
      · rw [if_neg hb] at h
        cases h
        have hp : prtN (r'.drop 1) = prtN (r.drop 1) := tw_sep (fun b hb => (sepB_not hb).1) ha.drop1
        have hg : r'.getD 1 0 = r.getD 1 0 := by
          have : 1 < 1 + prtN (r.drop 1) := by
            rcases Nat.eq_zero_or_pos (prtN (r.drop 1)) with e | e
            · exact absurd (.inl e) hb
            · omega
          rw [List.getD_eq_getElem?_getD, List.getD_eq_getElem?_getD, ha.is 1 this]
        rw [hp, hg, if_neg hb, ha.take (Nat.le_refl _)]
    · rw [if_neg c2] at h ⊢
      by_cases c3 : digitB (r.headD 0) = true
      · rw [if_pos c3] at h ⊢
        unfold numN at h ⊢
        obtain ⟨v, hv, he⟩ := Option.map_eq_some_iff.1 h
        cases he
        have hp := tw_sep (p := digitB) (fun b hb => (sepB_not hb).2.1) ha
        have ht : r'.takeWhile digitB = r.takeWhile digitB := by rw [← take_tw, ← take_tw digitB r, hp]; exact ha.take (Nat.le_refl _)
        rw [ht, hv]; rfl
      · rw [if_neg c3] at h ⊢
        by_cases c4 : r.headD 0 = 34
        · rw [if_pos c4] at h ⊢
          unfold strN at h ⊢
          obtain ⟨⟨y, j⟩, hy, he⟩ := Option.map_eq_some_iff.1 h
          cases he
          rw [strL_local _ _ (r'.drop 1) _ _ (Nat.le_refl _) hy (fun i hi => by
            rw [List.getElem?_drop, List.getElem?_drop]; exact ha.is _ (by omega))]; rfl
        · rw [if_neg c4] at h ⊢
          unfold signN at h ⊢
          obtain ⟨x, hx, he⟩ := Option.map_eq_some_iff.1 h
          cases he
          have hf : signsL.find? (fun y => r'.take y.length == y) = some x := by
            rw [List.find?_eq_some_iff_append] at hx ⊢
            obtain ⟨hx1, l1, l2, hab, hno⟩ := hx
            refine ⟨by rw [ha.take (Nat.le_refl _)]; exact hx1, l1, l2, hab, fun y hy => ?_⟩
            have h1 := hno y hy
            rcases Nat.lt_or_ge x.length y.length with hlt | hge
            · obtain ⟨y2, y3, _⟩ := signs_second y (by rw [hab]; exact List.mem_append_left _ hy)
              obtain ⟨_, _, x1⟩ := signs_second x (by rw [hab]; simp)
              obtain ⟨b, hb, hs⟩ := ha.at_
              have hyl : y.length = 2 := by omega
              rw [show x.length = 1 by omega] at hb
              have hne : r'.take y.length ≠ y := fun e => by
                have e1 : y[1]? = some b := by rw [← e, hyl, List.getElem?_take_of_lt (by omega)]; exact hb
                have e2 := y3 hyl
                rw [List.getD_eq_getElem?_getD, e1] at e2
                rw [Option.getD_some, (sepB_not hs).2.2.2] at e2
                cases e2
              simpa using hne
            · rw [ha.take hge]; exact h1
          rw [hf]; rfl
theorem blank_sep {r r' : List UInt8} {n : Nat} (h : blankN r = some 0) (hr : r ≠ []) (hn : 0 < n) (ha : Sep r r' n) : blankN r' = some 0 := by
  cases r with
  | nil => exact absurd rfl hr
  | cons c q =>
    have h0 : r'[0]? = some c := (ha.is 0 hn).trans rfl
    rcases Nat.lt_or_ge 1 n with h1 | h1
    · exact blank_none h rfl h0 (.inr (ha.is 1 h1))
    · obtain rfl : n = 1 := by omega
      obtain ⟨b, hb, hs⟩ := ha.at_
      obtain ⟨q', rfl⟩ := cons_of h0
      rw [blankN_cons] at h ⊢
      by_cases hbk : blankB c = true
      · rw [if_pos hbk] at h; cases h
      · rw [if_neg hbk, if_neg (fun e => (sepB_not hs).2.2.1 (by
          have := congrArg (·[1]?) e
          rw [List.getElem?_take_of_lt (by omega), hb] at this
          simpa using this))]
/-- What a string says, as it is written. -/
def esc : List UInt8 → List UInt8
  | [] => []
  | c :: r => (if c = 10 then [92, 110] else if c = 34 ∨ c = 92 then [92, c] else [c]) ++ esc r
theorem esc_app : ∀ a b : List UInt8, esc (a ++ b) = esc a ++ esc b
  | [], b => rfl
  | c :: a, b => by
    show _ ++ esc (a ++ b) = (_ ++ esc a) ++ esc b
    rw [esc_app a b, List.append_assoc]
theorem esc_len : ∀ a : List UInt8, (esc a).length ≤ 2 * a.length
  | [] => Nat.le_refl _
  | c :: a => by
    have := esc_len a
    show (_ ++ esc a).length ≤ _
    rw [List.length_append, List.length_cons]
    have : (if c = 10 then [92, 110] else if c = 34 ∨ c = 92 then [92, c] else [c] : List UInt8).length ≤ 2 := by
      split
      · exact Nat.le_refl _
      · split
        · exact Nat.le_refl _
        · exact Nat.le_succ _
    omega
def plainB (c : UInt8) : Prop := c = 10 ∨ (32 ≤ c.toNat ∧ c.toNat ≤ 126)
theorem strL_esc (m : Nat) : ∀ (r x : List UInt8) (k : Nat), r.length ≤ m → strL r = some (x, k) → r.take k = esc x ++ [34] ∧ ∀ c ∈ x, plainB c := by
  induction m with
  | zero =>
    intro r x k hm h
    obtain rfl : r = [] := List.eq_nil_of_length_eq_zero (by omega)
    cases h
  | succ m ih =>
    intro r x k hm h
    cases r with
    | nil => cases h
    | cons c r =>
      have hm2 : r.length ≤ m := by simpa using hm
      unfold strL at h
      by_cases c1 : c = 34
      · rw [if_pos c1] at h
        cases h
        exact ⟨by rw [c1]; rfl, fun c hc => by simp at hc⟩
      · rw [if_neg c1] at h
        by_cases c2 : c < 32 ∨ 126 < c
        · rw [if_pos c2] at h; cases h
        · rw [if_neg c2] at h
          by_cases c3 : c = 92
          · rw [if_pos c3] at h
            cases r with
            | nil => cases h
            | cons e q =>
              have hm3 : q.length ≤ m := by simp at hm2; omega
              simp only at h
              by_cases e1 : e = 110
              · rw [if_pos e1] at h
                obtain ⟨⟨y, j⟩, hy, he⟩ := Option.map_eq_some_iff.1 h
                cases he
                obtain ⟨i1, i2⟩ := ih q y j hm3 hy
                refine ⟨?_, fun d hd => ?_⟩
                · show c :: e :: q.take j = ([92, 110] ++ esc y) ++ [34]
                  rw [i1, c3, e1]; rfl
                · rcases List.mem_cons.1 hd with rfl | hd
                  · exact .inl rfl
                  · exact i2 d hd
              · rw [if_neg e1] at h
                by_cases e2 : e = 92 ∨ e = 34
                · rw [if_pos e2] at h
                  obtain ⟨⟨y, j⟩, hy, he⟩ := Option.map_eq_some_iff.1 h
                  cases he
                  obtain ⟨i1, i2⟩ := ih q y j hm3 hy
                  refine ⟨?_, fun d hd => ?_⟩
                  · show c :: e :: q.take j = ((if e = 10 then [92, 110] else if e = 34 ∨ e = 92 then [92, e] else [e]) ++ esc y) ++ [34]
                    rw [i1, c3, if_neg (by rcases e2 with rfl | rfl <;> decide), if_pos e2.symm]; rfl
                  · rcases List.mem_cons.1 hd with rfl | hd
                    · rcases e2 with rfl | rfl <;> exact .inr (by decide)
                    · exact i2 d hd
                · rw [if_neg e2] at h; cases h
          · rw [if_neg c3] at h
            obtain ⟨⟨y, j⟩, hy, he⟩ := Option.map_eq_some_iff.1 h
            cases he
            obtain ⟨i1, i2⟩ := ih r y j hm2 hy
            have hpl : 32 ≤ c.toNat ∧ c.toNat ≤ 126 := by
              have a1 : ¬ c < 32 := fun h => c2 (.inl h)
              have a2 : ¬ 126 < c := fun h => c2 (.inr h)
              rw [UInt8.lt_iff_toNat_lt] at a1 a2
              have b1 : (32 : UInt8).toNat = 32 := rfl
              have b2 : (126 : UInt8).toNat = 126 := rfl
              omega
            refine ⟨?_, fun d hd => ?_⟩
            · show c :: r.take j = ((if c = 10 then [92, 110] else if c = 34 ∨ c = 92 then [92, c] else [c]) ++ esc y) ++ [34]
              rw [i1, if_neg (fun e => by rw [e] at hpl; revert hpl; decide), if_neg (fun e => by rcases e with e | e; exact c1 e; exact c3 e)]; rfl
            · rcases List.mem_cons.1 hd with rfl | hd
              · exact .inr hpl
              · exact i2 d hd
/-- The digits of a number. -/
def digs (x : Nat) : List UInt8 := if h : x < 10 then [UInt8.ofNat (48 + x)] else digs (x / 10) ++ [UInt8.ofNat (48 + x % 10)]
theorem digs_small {x : Nat} (h : x < 10) : digs x = [UInt8.ofNat (48 + x)] := by rw [digs, dif_pos h]
theorem digs_more {x : Nat} (h : ¬ x < 10) : digs x = digs (x / 10) ++ [UInt8.ofNat (48 + x % 10)] := by rw [digs, dif_neg h]
theorem dig_nat {d : Nat} (h : d < 10) : (UInt8.ofNat (48 + d)).toNat = 48 + d := by rw [UInt8.toNat_ofNat']; omega
theorem dig_is {d : Nat} (h : d < 10) : digitB (UInt8.ofNat (48 + d)) = true := by
  unfold digitB
  rw [dig_nat h]
  simp; omega
theorem numL_one {c : UInt8} {x : Nat} (h : ¬ (big - (c.toNat - 48)) / 10 < x) : numL x [c] = some (10 * x + (c.toNat - 48)) := by
  show (if (big - (c.toNat - 48)) / 10 < x then none else some (10 * x + (c.toNat - 48))) = _
  rw [if_neg h]
theorem digs_num (m : Nat) : ∀ x, x < m → x ≤ big → numL 0 (digs x) = some x ∧ (∀ c ∈ digs x, digitB c = true) ∧ digs x ≠ [] := by
  induction m with
  | zero => intro x h; omega
  | succ m ih =>
    intro x hx hb
    by_cases h : x < 10
    · rw [digs_small h]
      refine ⟨?_, fun c hc => ?_, by simp⟩
      · rw [numL_one (by omega), dig_nat h]; congr 1; omega
      · rw [List.mem_singleton.1 hc]; exact dig_is h
    · rw [digs_more h]
      obtain ⟨i1, i2, _⟩ := ih (x / 10) (by omega) (by omega)
      have hm : x % 10 < 10 := Nat.mod_lt _ (by omega)
      refine ⟨?_, fun c hc => ?_, by simp⟩
      · rw [numL_app, i1]
        show numL (x / 10) _ = _
        rw [numL_one (by rw [dig_nat hm]; unfold big at hb ⊢; omega), dig_nat hm]; congr 1; omega
      · rcases List.mem_append.1 hc with hc | hc
        · exact i2 c hc
        · rw [List.mem_singleton.1 hc]; exact dig_is hm
theorem digs_len (j : Nat) : ∀ x, x < 10 ^ (j + 1) → (digs x).length ≤ j + 1 := by
  induction j with
  | zero => intro x h; rw [digs_small (by omega)]; simp
  | succ j ih =>
    intro x h
    by_cases hx : x < 10
    · rw [digs_small hx]; simp
    · rw [digs_more hx, List.length_append]
      have := ih (x / 10) (by rw [Nat.pow_succ] at h; omega)
      simp; omega
/-- A token, as it is written. -/
def wr (t : Tk) : List UInt8 := if t.k = 4 then digs t.n else if t.k = 5 then 34 :: (esc t.t ++ [34]) else t.t
/-- A token that can be written. -/
structure Wr (t : Tk) : Prop where
  num : t.k = 4 → t.n ≤ big
  says : t.k = 5 → ∀ c ∈ t.t, plainB c
  ne : wr t ≠ []
  tl : t.t.length ≤ 2048
  len : (wr t).length ≤ 5000
  back : ∀ b rest, sepB b → blankN (wr t ++ b :: rest) = some 0 ∧ oneN (wr t ++ b :: rest) = some (t, (wr t).length)
theorem oneN_str2 {s : List UInt8} {t : Tk} {n : Nat} (h : oneN s = some (t, n)) (hk : t.k = 5) : ∃ j, strL (s.drop 1) = some (t.t, j) ∧ n = j + 1 ∧ t.n = 0 := by
  have hON : oneN s = if smallB (s.headD 0) || greatB (s.headD 0) then nameN s else if s.headD 0 = 39 then tickN s else if digitB (s.headD 0) then numN s else if s.headD 0 = 34 then strN s else signN s := rfl
  rw [hON] at h
  split at h
  · unfold nameN at h
    split at h
    · cases h
    · cases h
      dsimp only at hk
      split at hk
      · exact absurd hk (by decide)
      · split at hk
        · exact absurd hk (by decide)
        · exact absurd hk (by decide)
  · split at h
    · unfold tickN at h
      split at h
      · cases h
      · cases h; exact absurd hk (show (3 : UInt8) ≠ 5 by decide)
    · split at h
      · obtain ⟨v, hv, he⟩ := Option.map_eq_some_iff.1 h
        cases he
        exact absurd hk (show (4 : UInt8) ≠ 5 by decide)
      · split at h
        · obtain ⟨⟨y, j⟩, hy, he⟩ := Option.map_eq_some_iff.1 h
          cases he
          exact ⟨j, hy, rfl, rfl⟩
        · obtain ⟨x, hx, he⟩ := Option.map_eq_some_iff.1 h
          cases he; exact absurd hk (show (7 : UInt8) ≠ 5 by decide)
theorem sep_app {r : List UInt8} {n : Nat} (hn : n ≤ r.length) {b : UInt8} (hb : sepB b) (rest : List UInt8) : Sep r (r.take n ++ b :: rest) n := by
  have hl : (r.take n).length = n := by rw [List.length_take]; omega
  refine ⟨fun k hk => ?_, b, ?_, hb⟩
  · rw [List.getElem?_append_left (by omega), List.getElem?_take_of_lt hk]
  · rw [List.getElem?_append_right (by omega), hl, Nat.sub_self]; rfl
theorem wr_of {s : List UInt8} {i n : Nat} {t : Tk} (hs : s.length ≤ 2048) (hi : i < s.length) (hb : blankN (s.drop i) = some 0) (h : oneN (s.drop i) = some (t, n)) : Wr t := by
  have hl := oneN_len hi h
  obtain ⟨_, hk⟩ := oneN_kind h
  have hdl : (s.drop i).length = s.length - i := List.length_drop
  have hne : s.drop i ≠ [] := fun e => by rw [e] at hdl; simp at hdl; omega
  have key : wr t = (s.drop i).take n → (t.k = 4 → t.n ≤ big) → (t.k = 5 → ∀ c ∈ t.t, plainB c) → t.t.length ≤ 2048 → Wr t := fun hw h4 h5 ht => by
    have hwl : (wr t).length = n := by rw [hw, List.length_take]; omega
    refine ⟨h4, h5, fun e => by rw [e] at hwl; simp at hwl; omega, ht, by omega, fun b rest hsb => ?_⟩
    have hse := sep_app (r := s.drop i) (n := n) (by omega) hsb rest
    rw [hwl, hw]
    exact ⟨blank_sep hb hne hl.1 hse, one_sep h hl.1 hse⟩
  rcases hk with ⟨hk, h0, ht⟩ | ⟨hk, ht, hd⟩ | ⟨hk, h0, hd⟩
  · have n4 : t.k ≠ 4 := fun e => by rw [e] at hk; revert hk; decide
    have n5 : t.k ≠ 5 := fun e => by rw [e] at hk; revert hk; decide
    exact key (by unfold wr; rw [if_neg n4, if_neg n5]; exact ht) (fun e => absurd e n4) (fun e => absurd e n5) (by rw [ht, List.length_take]; omega)
  · have hn4 := oneN_num h hk
    obtain ⟨d1, d2, d3⟩ := digs_num (t.n + 1) t.n (by omega) hn4
    have hw : wr t = digs t.n := by unfold wr; rw [if_pos hk]
    have h5 : t.k ≠ 5 := by rw [hk]; decide
    refine ⟨fun _ => hn4, fun e => absurd e h5, by rw [hw]; exact d3, by rw [ht]; exact Nat.zero_le _, ?_, fun b rest hsb => ?_⟩
    · rw [hw]
      have := digs_len 18 t.n (by unfold big at hn4; omega)
      omega
    · rw [hw]
      obtain ⟨c, q, hcq⟩ : ∃ c q, digs t.n = c :: q := by
        cases hh : digs t.n with
        | nil => exact absurd hh d3
        | cons c q => exact ⟨c, q, rfl⟩
      have hdc := d2 c (by rw [hcq]; exact List.mem_cons_self ..)
      have hdc2 : 48 ≤ c.toNat ∧ c.toNat ≤ 57 := by unfold digitB at hdc; simpa using hdc
      have htw : ((digs t.n ++ b :: rest).takeWhile digitB).length = (digs t.n).length := tw_of (fun k hk => by
        rw [List.getElem?_append_left hk]
        exact ⟨_, List.getElem?_eq_getElem hk, d2 _ (List.getElem_mem hk)⟩) (.inr ⟨b, by rw [List.getElem?_append_right (Nat.le_refl _), Nat.sub_self]; rfl, (sepB_not hsb).2.1⟩)
      have htk : (digs t.n ++ b :: rest).takeWhile digitB = digs t.n := by
        rw [← take_tw, htw, List.take_left]
      refine ⟨?_, ?_⟩
      · rw [hcq]
        show blankN (c :: (q ++ b :: rest)) = _
        rw [blankN_cons, if_neg (by unfold blankB; simp; omega), if_neg (fun e => by
          have := congrArg (·[0]?) e
          have e40 : c = 40 := by simpa using this
          rw [e40] at hdc2; revert hdc2; decide)]
      · have hON : oneN (digs t.n ++ b :: rest) = if smallB ((digs t.n ++ b :: rest).headD 0) || greatB ((digs t.n ++ b :: rest).headD 0) then nameN (digs t.n ++ b :: rest) else if (digs t.n ++ b :: rest).headD 0 = 39 then tickN (digs t.n ++ b :: rest) else if digitB ((digs t.n ++ b :: rest).headD 0) then numN (digs t.n ++ b :: rest) else if (digs t.n ++ b :: rest).headD 0 = 34 then strN (digs t.n ++ b :: rest) else signN (digs t.n ++ b :: rest) := rfl
        have hh : (digs t.n ++ b :: rest).headD 0 = c := by rw [hcq]; rfl
        rw [hON, hh, if_neg (by unfold smallB greatB; simp; omega), if_neg (fun e => by rw [e] at hdc2; revert hdc2; decide), if_pos hdc]
        unfold numN
        rw [htk, d1]
        show some ((⟨4, [], t.n⟩ : Tk), (digs t.n).length) = some (t, _)
        congr 2
        obtain ⟨tk, tt, tn⟩ := t
        dsimp only at hk ht
        rw [hk, ht]
  · obtain ⟨j, hj, rfl, hn0⟩ := oneN_str2 h hk
    obtain ⟨e1, e2⟩ := strL_esc _ _ _ _ (Nat.le_refl _) hj
    have n4 : t.k ≠ 4 := by rw [hk]; decide
    have h2 := oneN_str h hk
    refine key ?_ (fun e => absurd e n4) (fun _ => e2) (by omega)
    unfold wr
    rw [if_neg n4, if_pos hk, ← e1]
    cases hq : s.drop i with
    | nil => exact absurd hq hne
    | cons c q =>
      rw [hq] at hd
      have : c = 34 := hd
      rw [this]; rfl
theorem wr_all {s : List UInt8} (hs : s.length ≤ 2048) {l : List (Tk × Nat)} (h : scanR s = .ok l) : ∀ x ∈ l, Wr x.1 :=
  (scan_ind (by omega) (fun _ l => ∀ x ∈ l, Wr x.1) (fun x hx => by simp at hx) (fun _ _ _ _ _ _ h => h) (fun i l t n hi hb ho h x hx => by
    rcases List.mem_append.1 hx with hx | hx
    · exact h x hx
    · simp at hx
      subst hx
      exact wr_of hs hi hb ho)).1 l h
/-- What may stand between two tokens, piece by piece. -/
def pieces : List (List (List UInt8)) := [[[32]], [[10]], [[9], [13]], [[40, 42, 42, 41]], [[32], [40, 42, 32, 97, 32, 40, 42, 32, 98, 32, 42, 41, 32, 34, 32, 39, 32, 42, 41], [32]]]
def betwL : List (List UInt8) := [[32], [10], [9, 13], [40, 42, 42, 41], [32, 40, 42, 32, 97, 32, 40, 42, 32, 98, 32, 42, 41, 32, 34, 32, 39, 32, 42, 41, 32]]
theorem pieces_betw : pieces.map List.flatten = betwL := by decide
theorem pieces_blank : pieces.all (fun ps => ps.all fun p => decide (0 < p.length) && decide (blankF p = some p.length)) = true := by kernel_rfl
theorem skip_pieces {S rest : List UInt8} (m : List (Tk × Nat)) : ∀ (ps : List (List UInt8)) (i : Nat), (∀ p ∈ ps, 0 < p.length ∧ blankN p = some p.length) → S.drop i = ps.flatten ++ rest → res S i m = res S (i + ps.flatten.length) m
  | [], i, _, _ => rfl
  | p :: ps, i, h, hd => by
    obtain ⟨h1, h2⟩ := h p (List.mem_cons_self ..)
    rw [List.flatten_cons, List.append_assoc] at hd
    have hl := congrArg List.length hd
    rw [List.length_drop, List.length_append] at hl
    have hb : blankN (S.drop i) = some p.length := by
      rw [hd]
      exact blank_local h2 h1 (fun j hj => by rw [List.getElem?_append_left hj])
    rw [res_blank (by omega) hb h1, skip_pieces m ps (i + p.length) (fun q hq => h q (List.mem_cons_of_mem _ hq)) (by
      rw [← List.drop_drop, hd, List.drop_left]), List.flatten_cons, List.length_append, Nat.add_assoc]
theorem skip_betw {b : List UInt8} (hb : b ∈ betwL) {S rest : List UInt8} (m : List (Tk × Nat)) (i : Nat) (hd : S.drop i = b ++ rest) : res S i m = res S (i + b.length) m := by
  rw [← pieces_betw] at hb
  obtain ⟨ps, hps, rfl⟩ := List.mem_map.1 hb
  have h := List.all_eq_true.1 pieces_blank ps hps
  refine skip_pieces m ps i (fun p hp => ?_) hd
  have h2 := List.all_eq_true.1 h p hp
  simp only [Bool.and_eq_true, decide_eq_true_eq] at h2
  exact ⟨h2.1, by rw [← blankF_eq]; exact h2.2⟩
theorem betw_head : ∀ b ∈ betwL, ∃ c q, b = c :: q ∧ sepB c := by
  intro b hb
  simp only [betwL, List.mem_cons, List.not_mem_nil, or_false] at hb
  rcases hb with rfl | rfl | rfl | rfl | rfl
  · exact ⟨_, _, rfl, .inl rfl⟩
  · exact ⟨_, _, rfl, .inr (.inl rfl)⟩
  · exact ⟨_, _, rfl, .inr (.inr (.inl rfl))⟩
  · exact ⟨_, _, rfl, .inr (.inr (.inr rfl))⟩
  · exact ⟨_, _, rfl, .inl rfl⟩
def outL (b : List UInt8) (l : List (Tk × Nat)) : List UInt8 := b ++ (l.map fun x => wr x.1 ++ b).flatten
theorem outL_snoc (b : List UInt8) (l : List (Tk × Nat)) (x : Tk × Nat) : outL b (l ++ [x]) = outL b l ++ wr x.1 ++ b := by
  unfold outL
  rw [List.map_append, List.flatten_append]
  simp [List.append_assoc]
theorem outL_len {b : List UInt8} (hb : b.length ≤ 21) : ∀ l : List (Tk × Nat), (∀ x ∈ l, (wr x.1).length ≤ 5000) → (outL b l).length ≤ 21 + 5021 * l.length := by
  intro l h
  have : ((l.map fun x => wr x.1 ++ b).flatten).length ≤ 5021 * l.length := by
    induction l with
    | nil => simp
    | cons x l ih =>
      rw [List.map_cons, List.flatten_cons, List.length_append, List.length_append, List.length_cons]
      have h1 := h x (List.mem_cons_self ..)
      have h2 := ih (fun y hy => h y (List.mem_cons_of_mem _ hy))
      omega
  unfold outL
  rw [List.length_append]
  omega
theorem rest_scan {b : List UInt8} (hb : b ∈ betwL) {S : List UInt8} : ∀ (l : List (Tk × Nat)) (i : Nat) (m : List (Tk × Nat)), (∀ x ∈ l, Wr x.1) → S.drop i = (l.map fun x => wr x.1 ++ b).flatten → ∃ l', res S i m = .ok (m ++ l') ∧ l'.map (·.1) = l.map (·.1)
  | [], i, m, _, hd => by
    have := congrArg List.length hd
    rw [List.length_drop] at this
    simp at this
    exact ⟨[], by rw [res_end (by omega), List.append_nil], rfl⟩
  | x :: l, i, m, h, hd => by
    have hx := h x (List.mem_cons_self ..)
    obtain ⟨c, q, hcq, hsc⟩ := betw_head b hb
    rw [List.map_cons, List.flatten_cons, List.append_assoc] at hd
    obtain ⟨R, hR⟩ : ∃ R, (l.map fun x => wr x.1 ++ b).flatten = R := ⟨_, rfl⟩
    rw [hR] at hd
    have hl := congrArg List.length hd
    rw [List.length_drop, List.length_append] at hl
    have hw := List.length_pos_iff.2 hx.ne
    have hd2 : S.drop i = wr x.1 ++ c :: (q ++ R) := by rw [hd, hcq]; rfl
    obtain ⟨k1, k2⟩ := hx.back c (q ++ R) hsc
    rw [← hd2] at k1 k2
    have hd3 : S.drop (i + (wr x.1).length) = b ++ R := by rw [← List.drop_drop, hd, List.drop_left]
    have hd4 : S.drop (i + (wr x.1).length + b.length) = R := by rw [← List.drop_drop, hd3, List.drop_left]
    obtain ⟨l', e1, e2⟩ := rest_scan hb l (i + (wr x.1).length + b.length) (m ++ [(x.1, i)]) (fun y hy => h y (List.mem_cons_of_mem _ hy)) (hd4.trans hR.symm)
    refine ⟨(x.1, i) :: l', ?_, by rw [List.map_cons, List.map_cons, e2]⟩
    rw [res_one (by omega) k1 k2 hw, skip_betw hb _ _ hd3, e1, List.append_assoc]; rfl
theorem back_scan {b : List UInt8} (hb : b ∈ betwL) {l : List (Tk × Nat)} (h : ∀ x ∈ l, Wr x.1) (hl : (outL b l).length ≤ 16384) : ∃ m, scanR (outL b l) = .ok m ∧ m.map (·.1) = l.map (·.1) := by
  have h0 : (outL b l).drop 0 = b ++ (l.map fun x => wr x.1 ++ b).flatten := rfl
  obtain ⟨l', e1, e2⟩ := rest_scan hb (S := outL b l) l (0 + b.length) [] h (by rw [← List.drop_drop, h0, List.drop_left])
  refine ⟨l', ?_, e2⟩
  unfold scanR
  rw [if_neg (by omega), skip_betw hb [] 0 h0, e1]; rfl
end Tok
end Go.Proofs.YtdnmdccjecoojaaDoor
