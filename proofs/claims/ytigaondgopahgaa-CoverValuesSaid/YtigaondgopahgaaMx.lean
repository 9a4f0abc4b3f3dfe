/- cover: what is told of rows of patterns, by values. -/
import Derived.Test.YtigaondgopahgaaMv
namespace Go.Proofs.Ytigaondgopahgaa
open Ty
set_option linter.unusedVariables false
set_option linter.unusedSimpArgs false
def pX : Ty := .node 2 [120] 0 []
/-- The patterns of a sort. -/
def pats : So → List Ty
  | .bool => [any, pX, pF, pT, pT]
  | .num => [any, pX, num 0, num 1, num 2]
  | .opt => [any, pNone, someT pX, someT pT, someT pF]
  | .exn => [any, pX, pE, pFx, pFx]
theorem pats_ok {s : So} {p : Ty} (h : p ∈ pats s) : Pok s p := by
  cases s with
  | bool => simp only [pats, List.mem_cons, List.not_mem_nil, or_false] at h; rcases h with rfl | rfl | rfl | rfl | rfl <;> first | exact .inl rfl | exact .inr (.inl rfl) | exact .inr (.inr rfl)
  | num => simp only [pats, List.mem_cons, List.not_mem_nil, or_false] at h; rcases h with rfl | rfl | rfl | rfl | rfl <;> first | exact .inl rfl | exact .inr (.inl rfl) | exact .inr (.inr (.inl rfl)) | exact .inr (.inr (.inr rfl))
  | opt => simp only [pats, List.mem_cons, List.not_mem_nil, or_false] at h; rcases h with rfl | rfl | rfl | rfl | rfl <;> first | exact .inl rfl | exact .inr (.inl rfl) | exact .inr (.inr ⟨_, .inl rfl, rfl⟩) | exact .inr (.inr ⟨_, .inr (.inl rfl), rfl⟩) | exact .inr (.inr ⟨_, .inr (.inr rfl), rfl⟩)
  | exn => simp only [pats, List.mem_cons, List.not_mem_nil, or_false] at h; rcases h with rfl | rfl | rfl | rfl | rfl <;> first | exact .inl rfl | exact .inr (.inl rfl) | exact .inr (.inr rfl)
theorem pats_small {s : So} {p : Ty} (h : p ∈ pats s) : parts p ≤ 2 ∧ named infosL p = true := by
  have : (pats s).all (fun p => decide (parts p ≤ 2) && named infosL p) = true := by cases s <;> decide +kernel
  have := List.all_eq_true.1 this p h
  rw [Bool.and_eq_true] at this
  exact ⟨of_decide_eq_true this.1, this.2⟩
theorem pats_len (s : So) : (pats s).length = 5 := by cases s <;> rfl
/-- A row of the patterns. -/
def RowIn : List So → List Ty → Prop
  | [], [] => True
  | s :: σ, p :: ps => p ∈ pats s ∧ RowIn σ ps
  | _, _ => False
theorem RowIn.ok : ∀ {σ : List So} {r : List Ty}, RowIn σ r → PsOk σ r
  | [], [], _ => trivial
  | s :: σ, p :: ps, h => ⟨pats_ok h.1, h.2.ok⟩
  | [], _ :: _, h => h.elim
  | _ :: _, [], h => h.elim
theorem RowIn.small : ∀ {σ : List So} {r : List Ty}, RowIn σ r → partss r ≤ 2 * σ.length ∧ nameds infosL r = true
  | [], [], _ => ⟨Nat.zero_le _, by rw [nameds]⟩
  | s :: σ, p :: ps, h => by
    obtain ⟨h1, h2⟩ := h.2.small
    obtain ⟨h3, h4⟩ := pats_small h.1
    rw [partss, nameds, List.length_cons, h4, h2]
    exact ⟨by omega, rfl⟩
  | [], _ :: _, h => h.elim
  | _ :: _, [], h => h.elim
theorem fit_col : ∀ {s : So} {C : List Ty}, (∀ p ∈ C, Pok s p) → fit infosL C = true := by
  have hb : ∀ {s : So} {C : List Ty}, (∀ p ∈ C, Pok s p) → C.all (right infosL) = true ∧ sorted infosL C = true := fun {s C} hC => by
    have key : ∃ z : Head, ∀ p ∈ C, p.wild = false → right infosL p = true ∧ sort infosL p = z := by
      cases s with
      | bool => exact ⟨sort infosL pF, fun p hp hw => by
          rcases (hC p hp).resolve_left (by rw [hw]; decide) with rfl | rfl <;> exact ⟨by decide +kernel, by decide +kernel⟩⟩
      | num => exact ⟨sort infosL (num 0), fun p hp hw => by
          rcases (hC p hp).resolve_left (by rw [hw]; decide) with rfl | rfl | rfl <;> exact ⟨by decide +kernel, by decide +kernel⟩⟩
      | opt => exact ⟨sort infosL pNone, fun p hp hw => by
          rcases (hC p hp).resolve_left (by rw [hw]; decide) with rfl | ⟨x, _, rfl⟩
          · exact ⟨by decide +kernel, rfl⟩
          · refine ⟨?_, ?_⟩
            · show (if hasOf infosL [83, 111, 109, 101] then ([x].length == 1) else [x].isEmpty) = true
              rw [show hasOf infosL [83, 111, 109, 101] = true by decide +kernel]; rfl
            · show (⟨6, ofOf infosL [83, 111, 109, 101], 0, 0⟩ : Head) = _
              decide +kernel⟩
      | exn => exact ⟨sort infosL pE, fun p hp hw => by
          rcases (hC p hp).resolve_left (by rw [hw]; decide) with rfl | rfl <;> exact ⟨by decide +kernel, by decide +kernel⟩⟩
    obtain ⟨z, hz⟩ := key
    refine ⟨List.all_eq_true.2 fun p hp => ?_, ?_⟩
    · cases hw : p.wild with
      | true => exact right_wild hw
      | false => exact (hz p hp hw).1
    · unfold sorted
      cases e : C.filter (fun p => !p.wild) with
      | nil => rfl
      | cons x xs =>
        have hm : ∀ y ∈ x :: xs, sort infosL y = z := fun y hy => by
          rw [← e] at hy
          have := List.mem_filter.1 hy
          exact (hz y this.1 (by simpa using this.2)).2
        show xs.all _ = true
        rw [List.all_eq_true]
        intro y hy
        rw [hm y (List.mem_cons_of_mem _ hy), hm x List.mem_cons_self]
        exact beq_self_eq_true _
  have h0 : ∀ {s : So} {C : List Ty}, (∀ h ∈ hds s, h.many = 0) → (∀ p ∈ C, Pok s p) → fit infosL C = true := fun {s C} hs hC => by
    rw [fit_eq, (hb hC).1, (hb hC).2, Bool.and_self, Bool.true_and, List.all_eq_true]
    intro h hh
    rw [hs h (heads_in hC hh)]
    rfl
  intro s C hC
  cases s with
  | bool => exact h0 (s := .bool) (fun h hh => by simp only [hds, List.mem_cons, List.not_mem_nil, or_false] at hh; rcases hh with rfl | rfl <;> rfl) hC
  | num => exact h0 (s := .num) (fun h hh => by simp only [hds, List.mem_cons, List.not_mem_nil, or_false] at hh; rcases hh with rfl | rfl | rfl <;> rfl) hC
  | exn => exact h0 (s := .exn) (fun h hh => by simp only [hds, List.mem_cons, List.not_mem_nil, or_false] at hh; rcases hh with rfl | rfl <;> rfl) hC
  | opt =>
    rw [fit_eq, (hb hC).1, (hb hC).2, Bool.and_self, Bool.true_and, List.all_eq_true]
    intro h hh
    rw [List.all_eq_true]
    intro k hk
    refine h0 (s := .bool) (fun h hh => by simp only [hds, List.mem_cons, List.not_mem_nil, or_false] at hh; rcases hh with rfl | rfl <;> rfl) fun q hq => ?_
    unfold kidsAt at hq
    obtain ⟨p, hp, e⟩ := List.mem_filterMap.1 hq
    cases hw : p.wild with
    | true => rw [hw] at e; cases e
    | false =>
      rw [hw] at e
      simp only [Bool.false_eq_true, if_false] at e
      split at e
      · rcases (hC p hp).resolve_left (by rw [hw]; decide) with rfl | ⟨x, hx, rfl⟩
        · cases e
        · have : q ∈ [x] := List.mem_of_getElem? e
          rw [List.mem_singleton.1 this]
          exact hx
      · cases e
theorem col_ok : ∀ {σ : List So} {r : List Ty} {k : Nat} {s : So} {p : Ty}, PsOk σ r → σ[k]? = some s → r[k]? = some p → Pok s p
  | s :: σ, p :: r, 0, _, _, h, h1, h2 => by simp at h1 h2; subst h1; subst h2; exact h.1
  | s :: σ, p :: r, k + 1, _, _, h, h1, h2 => col_ok (k := k) h.2 (by simpa using h1) (by simpa using h2)
  | [], _, _, _, _, _, h1, _ => by simp at h1
  | _ :: _, [], _, _, _, h, _, _ => h.elim
section
variable {σ : List So} {R : List (List Ty)}
theorem tup_head (r : List Ty) : (tup r).head = ⟨5, [], 0, r.length⟩ := rfl
theorem tup_tame (r : List Ty) : (tup r).wild = false := rfl
theorem tups_fit (h2 : 2 ≤ σ.length) (hR : ∀ r ∈ R, PsOk σ r) : fit infosL (R.map tup) = true := by
  rw [fit_eq]
  have e1 : (R.map tup).all (right infosL) = true := by
    rw [List.all_eq_true]
    intro p hp
    obtain ⟨r, hr, rfl⟩ := List.mem_map.1 hp
    show decide (2 ≤ r.length) = true
    rw [(hR r hr).len]
    exact decide_eq_true h2
  have e2 : sorted infosL (R.map tup) = true := by
    unfold sorted
    have : (R.map tup).filter (fun p => !p.wild) = R.map tup := List.filter_eq_self.2 fun p hp => by
      obtain ⟨r, _, rfl⟩ := List.mem_map.1 hp; rfl
    rw [this]
    have hs : ∀ p ∈ R.map tup, sort infosL p = ⟨5, [], 0, σ.length⟩ := fun p hp => by
      obtain ⟨r, hr, rfl⟩ := List.mem_map.1 hp
      rw [← (hR r hr).len]; rfl
    cases e : R.map tup with
    | nil => rfl
    | cons x xs =>
      rw [e] at hs
      show xs.all _ = true
      rw [List.all_eq_true]
      intro y hy
      rw [hs y (List.mem_cons_of_mem _ hy), hs x List.mem_cons_self]
      exact beq_self_eq_true _
  rw [e1, e2, Bool.and_self, Bool.true_and, List.all_eq_true]
  intro h hh
  rw [List.all_eq_true]
  intro k hk
  obtain ⟨p, hp, _, rfl⟩ := heads_mem hh
  obtain ⟨r0, hr0, rfl⟩ := List.mem_map.1 hp
  have hkl : k < σ.length := by have := List.mem_range.1 hk; rw [← (hR r0 hr0).len]; exact this
  refine fit_col (s := σ[k]) fun q hq => ?_
  unfold kidsAt at hq
  obtain ⟨x, hx, e⟩ := List.mem_filterMap.1 hq
  obtain ⟨r, hr, rfl⟩ := List.mem_map.1 hx
  rw [tup_tame] at e
  simp only [Bool.false_eq_true, if_false] at e
  split at e
  · exact col_ok (hR r hr) (List.getElem?_eq_getElem hkl) e
  · cases e
theorem tups_small (h4 : σ.length ≤ 4) : ∀ {R : List (List Ty)}, (∀ r ∈ R, RowIn σ r) → partss (R.map tup) ≤ 9 * R.length ∧ nameds infosL (R.map tup) = true
  | [], _ => ⟨Nat.zero_le _, by rw [List.map_nil, nameds]⟩
  | r :: R, h => by
    obtain ⟨h1, h2⟩ := tups_small h4 (R := R) fun x hx => h x (List.mem_cons_of_mem _ hx)
    obtain ⟨h3, h5⟩ := (h r List.mem_cons_self).small
    have hp : parts (tup r) = partss r + 1 := rfl
    have hn : named infosL (tup r) = true := by
      unfold tup
      rw [named, h5]; rfl
    rw [List.map_cons, partss, nameds, hn, h2, hp, List.length_cons]
    exact ⟨by omega, rfl⟩
/-- Rows of patterns opened. -/
theorem opened_tups (n : Nat) : ∀ {R : List (List Ty)}, (∀ r ∈ R, r.length = n) → (R.map fun r => [tup r]).filterMap (opened ⟨5, [], 0, n⟩) = R
  | [], _ => rfl
  | r :: R, h => by
    have e : opened ⟨5, [], 0, n⟩ [tup r] = some (r ++ []) := by
      rw [opened_cons, tup_tame, tup_head, h r List.mem_cons_self]
      simp only [Bool.false_eq_true, if_false, if_true]
      rfl
    rw [List.map_cons, List.filterMap_cons, e, opened_tups n fun x hx => h x (List.mem_cons_of_mem _ hx), List.append_nil]
theorem useful_tup (hR : ∀ r ∈ R, PsOk σ r) {q : List Ty} (hq : PsOk σ q) : (useful infosL (R.map fun r => [tup r]) [tup q] = true ↔ ∃ vs, RowsOf σ vs ∧ takesL q vs = true ∧ ∀ r ∈ R, takesL r vs = false) := by
  cases R with
  | nil =>
    rw [List.map_nil, useful_nil]
    obtain ⟨vs, h1, h2⟩ := inhab hq
    exact ⟨fun _ => ⟨vs, h1, h2, fun r hr => by cases hr⟩, fun _ => rfl⟩
  | cons r R =>
    rw [List.map_cons, useful_tame _ (tup_tame q), ← List.map_cons (f := fun r => [tup r]), tup_head, hq.len, opened_tups σ.length fun x hx => (hR x hx).len]
    show useful infosL (r :: R) (q ++ []) = true ↔ _
    rw [List.append_nil]
    exact useful_vals _ σ _ _ (Nat.lt_succ_self _) hq hR
theorem useful_all (hR : ∀ r ∈ R, PsOk σ r) : (useful infosL ((R.map tup).map fun p => [p]) [any] = true ↔ ∃ vs, RowsOf σ vs ∧ ∀ r ∈ R, takesL r vs = false) := by
  rw [List.map_map]
  show useful infosL (R.map fun r => [tup r]) [any] = true ↔ _
  have ha := PsOk.anys σ
  cases R with
  | nil =>
    rw [List.map_nil, useful_nil]
    obtain ⟨vs, h1, h2⟩ := inhab ha
    exact ⟨fun _ => ⟨vs, h1, fun r hr => by cases hr⟩, fun _ => rfl⟩
  | cons r R =>
    have hl : ∀ x ∈ r :: R, x.length = σ.length := fun x hx => (hR x hx).len
    have hmem : ∀ h, h ∈ heads (((r :: R).map fun r => [tup r]).filterMap List.head?) ↔ h = ⟨5, [], 0, σ.length⟩ := fun h => by
      rw [heads_mem_iff]
      constructor
      · rintro ⟨p, hp, _, rfl⟩
        obtain ⟨y, hy, e⟩ := List.mem_filterMap.1 hp
        obtain ⟨x, hx, rfl⟩ := List.mem_map.1 hy
        cases e
        rw [tup_head, hl x hx]
      · rintro rfl
        exact ⟨tup r, List.mem_filterMap.2 ⟨[tup r], List.mem_map.2 ⟨r, List.mem_cons_self, rfl⟩, rfl⟩, tup_tame r, by rw [tup_head, hl r List.mem_cons_self]⟩
    have hw : wholeOf infosL (heads (((r :: R).map fun r => [tup r]).filterMap List.head?)) = true := by
      cases e : heads (((r :: R).map fun r => [tup r]).filterMap List.head?) with
      | nil => have := (hmem ⟨5, [], 0, σ.length⟩).2 rfl; rw [e] at this; cases this
      | cons h hs =>
        have : h = ⟨5, [], 0, σ.length⟩ := (hmem h).1 (by rw [e]; exact List.mem_cons_self)
        rw [this]; rfl
    have hu := useful_whole infosL (p := any) rfl [] [tup r] (R.map fun r => [tup r]) hw
    rw [List.map_cons, hu, List.any_eq_true]
    have key := useful_vals _ σ (r :: R) (List.replicate σ.length any) (Nat.lt_succ_self _) ha hR
    have e2 := opened_tups σ.length hl
    rw [List.map_cons] at e2
    constructor
    · rintro ⟨h, hh, hu⟩
      obtain rfl := (hmem h).1 hh
      rw [e2, List.append_nil] at hu
      obtain ⟨vs, h1, _, h3⟩ := key.1 hu
      exact ⟨vs, h1, h3⟩
    · rintro ⟨vs, h1, h3⟩
      refine ⟨_, (hmem _).2 rfl, ?_⟩
      rw [e2, List.append_nil]
      exact key.2 ⟨vs, h1, takesL_any _ _ h1.len.symm, h3⟩
end
/-! All rows of values. -/
def allF : List So → List (List Vl)
  | σ => σ.foldl (fun a s => a.flatMap fun k => (vals s).map fun q => k ++ [q]) [[]]
theorem allF_snoc (σ : List So) (s : So) : allF (σ ++ [s]) = (allF σ).flatMap fun k => (vals s).map fun q => k ++ [q] := by
  unfold allF
  rw [List.foldl_append]; rfl
theorem RowsOf.snoc {σ : List So} {s : So} {vs : List Vl} : RowsOf (σ ++ [s]) vs ↔ ∃ a b, vs = a ++ [b] ∧ RowsOf σ a ∧ b ∈ vals s := by
  constructor
  · intro h
    obtain ⟨a, b, rfl, h1, h2⟩ := h.cut
    cases b with
    | nil => exact h2.elim
    | cons x b =>
      cases b with
      | nil => exact ⟨a, x, rfl, h1, h2.1⟩
      | cons y b => exact h2.2.elim
  · rintro ⟨a, b, rfl, h1, h2⟩
    exact h1.app ⟨h2, trivial⟩
theorem allF_mem (σ : List So) : ∀ vs, vs ∈ allF σ ↔ RowsOf σ vs := by
  refine snoc_ind (P := fun σ => ∀ vs, vs ∈ allF σ ↔ RowsOf σ vs) (fun vs => ?_) (fun σ s ih vs => ?_) σ
  · show vs ∈ [[]] ↔ _
    rw [List.mem_singleton]
    cases vs with
    | nil => exact ⟨fun _ => trivial, fun _ => rfl⟩
    | cons x xs => exact ⟨(fun h => by cases h), fun h => h.elim⟩
  · rw [allF_snoc, List.mem_flatMap, RowsOf.snoc]
    constructor
    · rintro ⟨a, ha, h⟩
      obtain ⟨b, hb, rfl⟩ := List.mem_map.1 h
      exact ⟨a, b, rfl, (ih a).1 ha, hb⟩
    · rintro ⟨a, b, rfl, h1, h2⟩
      exact ⟨a, (ih a).2 h1, List.mem_map.2 ⟨b, h2, rfl⟩⟩
theorem vals_len (s : So) : (vals s).length ≤ 4 := by cases s <;> decide
theorem allF_len (σ : List So) : (allF σ).length ≤ 4 ^ σ.length := by
  refine snoc_ind (P := fun σ => (allF σ).length ≤ 4 ^ σ.length) (by decide) (fun σ s ih => ?_) σ
  rw [allF_snoc, List.length_append]
  have : ∀ a : List (List Vl), (a.flatMap fun k => (vals s).map fun q => k ++ [q]).length ≤ 4 * a.length := fun a => by
    induction a with
    | nil => exact Nat.zero_le _
    | cons x a ih =>
      rw [List.flatMap_cons, List.length_append, List.length_map, List.length_cons]
      have := vals_len s
      omega
  have h2 := this (allF σ)
  show _ ≤ 4 ^ (σ.length + 1)
  rw [Nat.pow_succ]
  omega
/-- Was it taken by one of the rows? -/
def tkn (R : List (List Ty)) (vs : List Vl) : Bool := R.any fun r => takesL r vs
theorem tkn_iff (R : List (List Ty)) (vs : List Vl) : tkn R vs = false ↔ ∀ r ∈ R, takesL r vs = false := by
  unfold tkn
  rw [List.any_eq_false]
  constructor
  · intro h r hr; have := h r hr; simpa using this
  · intro h r hr; rw [h r hr]; decide
theorem tkn_snoc (R : List (List Ty)) (r : List Ty) (vs : List Vl) : tkn (R ++ [r]) vs = (tkn R vs || takesL r vs) := by
  unfold tkn
  rw [List.any_append]
  simp
def freshB (σ : List So) (R : List (List Ty)) (q : List Ty) : Bool := (allF σ).any fun vs => takesL q vs && !tkn R vs
theorem fresh_eq {σ : List So} {R : List (List Ty)} (hR : ∀ r ∈ R, PsOk σ r) {q : List Ty} (hq : PsOk σ q) : useful infosL (R.map fun r => [tup r]) [tup q] = freshB σ R q := by
  rw [Bool.eq_iff_iff, useful_tup hR hq]
  unfold freshB
  rw [List.any_eq_true]
  constructor
  · rintro ⟨vs, h1, h2, h3⟩
    exact ⟨vs, (allF_mem σ vs).2 h1, by rw [h2, (tkn_iff R vs).2 h3]; rfl⟩
  · rintro ⟨vs, h1, h2⟩
    rw [Bool.and_eq_true] at h2
    exact ⟨vs, (allF_mem σ vs).1 h1, h2.1, (tkn_iff R vs).1 (by simpa using h2.2)⟩
def wholeB (σ : List So) (R : List (List Ty)) : Bool := (allF σ).all fun vs => tkn R vs
theorem whole_eq {σ : List So} {R : List (List Ty)} (hR : ∀ r ∈ R, PsOk σ r) : useful infosL ((R.map tup).map fun p => [p]) [any] = !wholeB σ R := by
  rw [Bool.eq_iff_iff, useful_all hR]
  unfold wholeB
  rw [Bool.not_eq_true', List.all_eq_false]
  constructor
  · rintro ⟨vs, h1, h3⟩
    exact ⟨vs, (allF_mem σ vs).2 h1, by rw [(tkn_iff R vs).2 h3]; decide⟩
  · rintro ⟨vs, h1, h2⟩
    exact ⟨vs, (allF_mem σ vs).1 h1, (tkn_iff R vs).1 (by simpa using h2)⟩
/-- Is each of use? -/
def eachB (σ : List So) (R : List (List Ty)) : Bool := eachOf infosL [] (R.map tup)
theorem eachB_nil (σ : List So) : eachB σ [] = true := rfl
theorem eachB_snoc {σ : List So} {R : List (List Ty)} (hR : ∀ r ∈ R, PsOk σ r) {q : List Ty} (hq : PsOk σ q) : eachB σ (R ++ [q]) = (eachB σ R && freshB σ R q) := by
  unfold eachB
  rw [List.map_append, eachOf_append, List.nil_append, List.map_map]
  show (_ && eachOf infosL (R.map fun r => [tup r]) [tup q]) = _
  rw [eachOf, eachOf, Bool.and_true, fresh_eq hR hq]
/-- What CoverValues asks. -/
theorem told_vals {σ : List So} {R : List (List Ty)} (h2 : 2 ≤ σ.length) (h4 : σ.length ≤ 4) (hR : ∀ r ∈ R, RowIn σ r) (hl : R.length ≤ 12) (b : Bool) : told infosL (R.map tup) b = if eachB σ R && (!b || wholeB σ R) then 0 else 4 := by
  obtain ⟨s1, s2⟩ := tups_small h4 hR
  have hok : ∀ r ∈ R, PsOk σ r := fun r hr => (hR r hr).ok
  rw [told_of (by omega) s2 (tups_fit h2 hok), whole_eq hok]
  unfold eachB
  cases eachOf infosL [] (R.map tup) <;> cases b <;> cases wholeB σ R <;> rfl
end Go.Proofs.Ytigaondgopahgaa
