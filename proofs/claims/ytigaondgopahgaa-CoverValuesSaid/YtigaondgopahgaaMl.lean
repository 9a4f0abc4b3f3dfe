/- cover: fewer rows, apart from memory. -/
import Derived.Test.YtigaondgopahgaaAp
namespace Go.Proofs.Ytigaondgopahgaa
open Ty
set_option linter.unusedVariables false
set_option linter.unusedSimpArgs false
theorem kidsAt_tame (h : Head) (k : Nat) (ps : List Ty) : kidsAt h k ps = kidsAt h k (ps.filter tame) := by
  unfold kidsAt
  induction ps with
  | nil => rfl
  | cons p ps ih =>
    cases hw : p.wild with
    | true => simp [tame, hw, ih]
    | false => simp [tame, hw, List.filterMap_cons, ih]
theorem heads_tame (ps : List Ty) : heads ps = heads (ps.filter tame) := by
  have : (ps.filter tame).filter (fun p => !p.wild) = ps.filter tame := List.filter_eq_self.2 fun p hp => by
    have := (List.mem_filter.1 hp).2
    unfold tame at this
    exact this
  unfold heads
  rw [this]
  rfl
theorem heads_mem_iff (ps : List Ty) (h : Head) : h ∈ heads ps ↔ ∃ p ∈ ps, p.wild = false ∧ p.head = h := by
  refine ⟨heads_mem, fun ⟨p, hp, hw, he⟩ => ?_⟩
  have key : ∀ n, n ≤ ps.length → ∀ i, i < n → ps[i]? = some p → h ∈ heads (ps.take n) := by
    intro n
    induction n with
    | zero => intro _ i hi; omega
    | succ n ih =>
      intro hn i hi hip
      rw [List.take_add_one, List.getElem?_eq_getElem (by omega)]
      show h ∈ heads (ps.take n ++ [ps[n]])
      rw [heads_snoc]
      by_cases e : i = n
      · subst e
        have : ps[i] = p := by have := List.getElem?_eq_getElem (show i < ps.length by omega); rw [hip] at this; exact (Option.some.inj this).symm
        rw [this, hw]
        simp only [Bool.false_eq_true, if_false]
        split
        · rename_i h2; rw [he] at h2; exact h2
        · rw [← he]; exact List.mem_append_right _ (List.mem_singleton.2 rfl)
      · have := ih (by omega) i (by omega) hip
        split
        · exact this
        · split
          · exact this
          · exact List.mem_append_left _ this
  obtain ⟨i, hi⟩ := List.getElem?_of_mem hp
  have := key ps.length (Nat.le_refl _) i (List.getElem?_eq_some_iff.1 hi).1 hi
  rwa [List.take_length] at this
theorem heads_nodup (ps : List Ty) : (heads ps).Nodup := by
  have key : ∀ n, n ≤ ps.length → (heads (ps.take n)).Nodup := by
    intro n
    induction n with
    | zero => intro _; rw [List.take_zero]; exact List.nodup_nil
    | succ n ih =>
      intro hn
      have h1 := ih (by omega)
      rw [List.take_add_one, List.getElem?_eq_getElem (by omega)]
      show (heads (ps.take n ++ [ps[n]])).Nodup
      rw [heads_snoc]
      split
      · exact h1
      · split
        · exact h1
        · rename_i h2
          rw [List.nodup_append]
          exact ⟨h1, by simp, fun a ha b hb e => h2 (by rw [List.mem_singleton.1 hb] at e; rw [← e]; exact ha)⟩
  have := key ps.length (Nat.le_refl _)
  rwa [List.take_length] at this
/-- Fewer patterns fit. -/
theorem fit_sub (l : List Inf) : ∀ (n : Nat) (ps qs : List Ty), partss ps ≤ n → (qs.filter tame).Sublist (ps.filter tame) → fit l ps = true → fit l qs = true := by
  intro n
  induction n with
  | zero =>
    intro ps qs hn hs hf
    cases ps with
    | cons p ps => have := parts_eq p; rw [partss] at hn; omega
    | nil =>
      have hq : qs.filter tame = [] := by simpa using hs
      rw [fit_eq, Bool.and_eq_true, Bool.and_eq_true]
      have hall : ∀ q ∈ qs, q.wild = true := fun q hq2 => by
        cases hw : q.wild with
        | true => rfl
        | false =>
          have : q ∈ qs.filter tame := List.mem_filter.2 ⟨hq2, by simp [tame, hw]⟩
          rw [hq] at this; cases this
      refine ⟨⟨List.all_eq_true.2 fun q hq2 => ?_, by rw [sorted_def, hq]⟩, ?_⟩
      · have := hall q hq2
        unfold right
        unfold Ty.wild at this
        rw [if_pos (by simpa using this)]
      · rw [heads_tame, hq]; rfl
  | succ n ih =>
    intro ps qs hn hs hf
    rw [fit_eq, Bool.and_eq_true, Bool.and_eq_true] at hf
    obtain ⟨⟨h1, h2⟩, h3⟩ := hf
    have hmem : ∀ q ∈ qs, q.wild = false → q ∈ ps := fun q hq hw => (List.mem_filter.1 (hs.subset (List.mem_filter.2 ⟨hq, by simp [tame, hw]⟩))).1
    rw [fit_eq, Bool.and_eq_true, Bool.and_eq_true]
    refine ⟨⟨List.all_eq_true.2 fun q hq => ?_, ?_⟩, ?_⟩
    · cases hw : q.wild with
      | true =>
        unfold right
        unfold Ty.wild at hw
        rw [if_pos (by simpa using hw)]
      | false => exact List.all_eq_true.1 h1 q (hmem q hq hw)
    · rw [sorted_def] at h2 ⊢
      cases hp : ps.filter tame with
      | nil =>
        rw [hp] at hs
        have hq : qs.filter tame = [] := by simpa using hs
        rw [hq]
      | cons x xs =>
        rw [hp] at h2 hs
        have hx : ∀ y ∈ x :: xs, sort l y = sort l x := fun y hy => by
          rcases List.mem_cons.1 hy with rfl | hy
          · rfl
          · have := List.all_eq_true.1 h2 y hy
            simpa using this
        cases hq : qs.filter tame with
        | nil => rfl
        | cons y ys =>
          rw [hq] at hs
          show List.all _ _ = true
          rw [List.all_eq_true]
          intro z hz
          have e1 := hx z (hs.subset (List.mem_cons_of_mem _ hz))
          have e2 := hx y (hs.subset List.mem_cons_self)
          simp [e1, e2]
    · rw [List.all_eq_true] at h3 ⊢
      intro h hh
      rw [List.all_eq_true]
      intro k hk
      obtain ⟨q, hq, hw, he⟩ := heads_mem hh
      have hhp : h ∈ heads ps := (heads_mem_iff ps h).2 ⟨q, hmem q hq hw, hw, he⟩
      have h4 := List.all_eq_true.1 (h3 h hhp) k hk
      have hlt := partss_kidsAt_lt k hhp
      refine ih (kidsAt h k ps) (kidsAt h k qs) (by omega) ?_ h4
      rw [kidsAt_tame h k ps, kidsAt_tame h k qs]
      exact (List.Sublist.filterMap _ hs).filter _
theorem right_wild {l : List Inf} {p : Ty} (h : p.wild = true) : right l p = true := by
  unfold right
  unfold Ty.wild at h
  rw [if_pos (by simpa using h)]
/-- The columns of rows fit. -/
structure MF (l : List Inf) (n : Nat) (M : List (List Ty)) : Prop where
  len : ∀ r ∈ M, r.length = n
  col : ∀ j, j < n → fit l (M.filterMap fun r => r[j]?) = true
  nam : ∀ r ∈ M, ∀ p ∈ r, named l p = true
theorem MF.sub {l : List Inf} {n : Nat} {M M' : List (List Ty)} (h : MF l n M) (hs : M'.Sublist M) : MF l n M' :=
  ⟨fun r hr => h.len r (hs.subset hr), fun j hj => fit_sub l _ _ _ (Nat.le_refl _) ((List.Sublist.filterMap _ hs).filter _) (h.col j hj), fun r hr => h.nam r (hs.subset hr)⟩
theorem col0 (M : List (List Ty)) : (M.filterMap fun r => r[0]?) = M.filterMap List.head? := by
  congr 1
  funext r
  cases r <;> rfl
theorem MF.rest {l : List Inf} {n : Nat} {M : List (List Ty)} (h : MF l (n + 1) M) : MF l n (M.filterMap rest) := by
  refine ⟨fun r hr => ?_, fun j hj => ?_, fun r hr p hp => ?_⟩
  · obtain ⟨r1, h1, h2⟩ := List.mem_filterMap.1 hr
    have := rest_len h2
    have := h.len r1 h1
    omega
  · refine fit_sub l _ _ _ (Nat.le_refl _) (List.Sublist.filter _ ?_) (h.col (j + 1) (by omega))
    have hlen := h.len
    clear h
    induction M with
    | nil => exact List.Sublist.slnil
    | cons r M ih =>
      have ih := ih fun r hr => hlen r (List.mem_cons_of_mem _ hr)
      have hr := hlen r List.mem_cons_self
      cases r with
      | nil => simp at hr
      | cons p r =>
        have hj1 : (p :: r)[j + 1]? = some (r[j]'(by simp at hr; omega)) := by rw [List.getElem?_cons_succ]; exact List.getElem?_eq_getElem _
        rw [List.filterMap_cons, List.filterMap_cons, rest_cons, hj1]
        cases hw : p.wild with
        | true =>
          simp only [if_true]
          rw [List.filterMap_cons, List.getElem?_eq_getElem (by simp at hr; omega)]
          exact List.Sublist.cons_cons _ ih
        | false =>
          simp only [Bool.false_eq_true, if_false]
          exact List.Sublist.cons _ ih
  · obtain ⟨r1, h1, h2⟩ := List.mem_filterMap.1 hr
    cases r1 with
    | nil => cases h2
    | cons x y =>
      rw [rest_cons] at h2
      split at h2
      · cases h2; exact h.nam _ h1 p (List.mem_cons_of_mem _ hp)
      · cases h2
theorem named_any2 (l : List Inf) : named l any = true := by simp [named, any, nameds]
theorem named_kid {l : List Inf} {p q : Ty} (h : named l p = true) (hq : q ∈ p.ks) : named l q = true := by
  rw [named_eq, Bool.and_eq_true] at h
  have := h.2
  rw [nameds_all, List.all_eq_true] at this
  exact this q hq
theorem MF.opened {l : List Inf} {n : Nat} {M : List (List Ty)} (h : MF l (n + 1) M) {hd : Head} (hh : hd ∈ heads (M.filterMap List.head?)) : MF l (hd.many + n) (M.filterMap (opened hd)) := by
  have hlen := h.len
  refine ⟨fun r hr => ?_, fun j hj => ?_, fun r hr p hp => ?_⟩
  · obtain ⟨r1, h1, h2⟩ := List.mem_filterMap.1 hr
    have := opened_len h2
    have := h.len r1 h1
    omega
  · by_cases hjm : j < hd.many
    · have hf := h.col 0 (by omega)
      rw [col0, fit_eq, Bool.and_eq_true, List.all_eq_true] at hf
      have h4 := List.all_eq_true.1 (hf.2 hd hh) j (List.mem_range.2 hjm)
      refine fit_sub l _ _ _ (Nat.le_refl _) ?_ h4
      clear h hf h4 hh
      induction M with
      | nil => exact List.Sublist.slnil
      | cons r M ih =>
        have ih := ih fun r hr => hlen r (List.mem_cons_of_mem _ hr)
        have hr := hlen r List.mem_cons_self
        cases r with
        | nil => simp at hr
        | cons p r =>
          rw [List.filterMap_cons, List.filterMap_cons, opened_cons]
          show (List.filter tame _).Sublist (List.filter tame (kidsAt hd j (p :: M.filterMap List.head?)))
          rw [kidsAt_cons]
          cases hw : p.wild with
          | true =>
            simp only [if_true]
            rw [List.filterMap_cons, List.getElem?_append_left (by rw [List.length_replicate]; exact hjm), List.getElem?_replicate, if_pos hjm]
            have : tame any = false := rfl
            simp only [List.filter_cons, this, Bool.false_eq_true, if_false]
            exact ih
          | false =>
            simp only [Bool.false_eq_true, if_false]
            by_cases he : p.head = hd
            · have hk : j < p.ks.length := by rw [← he] at hjm; exact hjm
              rw [if_pos he, if_pos he, List.getElem?_eq_getElem hk]
              simp only
              rw [List.filterMap_cons, List.getElem?_append_left hk, List.getElem?_eq_getElem hk]
              simp only
              rw [List.filter_cons, List.filter_cons]
              split
              · exact List.Sublist.cons_cons _ ih
              · exact ih
            · rw [if_neg he, if_neg he]
              exact ih
    · refine fit_sub l _ _ _ (Nat.le_refl _) (List.Sublist.filter _ ?_) (h.col (j - hd.many + 1) (by omega))
      clear h hh
      induction M with
      | nil => exact List.Sublist.slnil
      | cons r M ih =>
        have ih := ih fun r hr => hlen r (List.mem_cons_of_mem _ hr)
        have hr := hlen r List.mem_cons_self
        cases r with
        | nil => simp at hr
        | cons p r =>
          have hjr : j - hd.many < r.length := by simp at hr; omega
          have hj1 : (p :: r)[j - hd.many + 1]? = some (r[j - hd.many]'hjr) := by rw [List.getElem?_cons_succ]; exact List.getElem?_eq_getElem _
          rw [List.filterMap_cons, List.filterMap_cons, opened_cons, hj1]
          cases hw : p.wild with
          | true =>
            simp only [if_true]
            rw [List.filterMap_cons, List.getElem?_append_right (by rw [List.length_replicate]; omega), List.length_replicate, List.getElem?_eq_getElem hjr]
            exact List.Sublist.cons_cons _ ih
          | false =>
            simp only [Bool.false_eq_true, if_false]
            by_cases he : p.head = hd
            · have hk : p.ks.length = hd.many := by rw [← he]; rfl
              rw [if_pos he]
              simp only
              rw [List.filterMap_cons, List.getElem?_append_right (by omega), hk, List.getElem?_eq_getElem hjr]
              exact List.Sublist.cons_cons _ ih
            · rw [if_neg he]
              exact List.Sublist.cons _ ih
  · obtain ⟨r1, h1, h2⟩ := List.mem_filterMap.1 hr
    cases r1 with
    | nil => cases h2
    | cons x y =>
      rw [opened_cons] at h2
      split at h2
      · cases h2
        rcases List.mem_append.1 hp with hp | hp
        · rw [(List.mem_replicate.1 hp).2]; exact named_any2 l
        · exact h.nam _ h1 p (List.mem_cons_of_mem _ hp)
      · split at h2
        · cases h2
          rcases List.mem_append.1 hp with hp | hp
          · exact named_kid (h.nam _ h1 x List.mem_cons_self) hp
          · exact h.nam _ h1 p (List.mem_cons_of_mem _ hp)
        · cases h2
end Go.Proofs.Ytigaondgopahgaa
