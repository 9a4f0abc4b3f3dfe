/- cover: fit; and what a wild one behind does. -/
import Derived.Test.YtigaondgopahgaaM
namespace Go.Proofs.Ytigaondgopahgaa
open Ty
theorem kidsAt_cons (h : Head) (k : Nat) (p : Ty) (l : List Ty) : kidsAt h k (p :: l) = (match (if p.wild then none else if p.head = h then p.ks[k]? else none) with | none => kidsAt h k l | some x => x :: kidsAt h k l) := by
  unfold kidsAt
  rw [List.filterMap_cons]
  generalize (if p.wild then none else if p.head = h then p.ks[k]? else none) = o
  cases o <;> rfl
theorem partss_kidsAt (h : Head) (k : Nat) : ∀ l : List Ty, partss (kidsAt h k l) ≤ partss l
  | [] => Nat.le_refl _
  | p :: l => by
    have ih := partss_kidsAt h k l
    rw [kidsAt_cons, partss]
    split
    · omega
    · rename_i x e
      rw [partss]
      split at e
      · cases e
      · split at e
        · have := partss_mem (List.mem_of_getElem? e)
          have := parts_eq p
          omega
        · cases e
theorem partss_kidsAt_lt {h : Head} (k : Nat) : ∀ {l : List Ty}, h ∈ heads l → partss (kidsAt h k l) + 1 ≤ partss l := by
  intro l hh
  obtain ⟨p, hp, hw, rfl⟩ := heads_mem hh
  clear hh
  induction l with
  | nil => cases hp
  | cons x l ih =>
    rw [kidsAt_cons, partss]
    have hx := parts_eq x
    rcases List.mem_cons.1 hp with rfl | hp
    · have h2 := partss_kidsAt p.head k l
      split
      · omega
      · rename_i y e
        rw [if_neg (by simp [hw]), if_pos rfl] at e
        have := partss_mem (List.mem_of_getElem? e)
        rw [partss]
        omega
    · have := ih hp
      split
      · omega
      · rename_i y e
        split at e
        · cases e
        · split at e
          · have := partss_mem (List.mem_of_getElem? e)
            rw [partss]
            omega
          · cases e
theorem all_congr {α : Type} {P R : α → Bool} : ∀ {hs : List α}, (∀ h ∈ hs, P h = R h) → hs.all P = hs.all R
  | [], _ => rfl
  | x :: xs, h => by rw [List.all_cons, List.all_cons, h x List.mem_cons_self, all_congr fun y hy => h y (List.mem_cons_of_mem _ hy)]
theorem fitF_succ (l : List Inf) (f : Nat) (ps : List Ty) : fitF l (f + 1) ps = (ps.all (right l) && sorted l ps && (heads ps).all fun h => (List.range h.many).all fun k => fitF l f (kidsAt h k ps)) := rfl
theorem fitF_more (l : List Inf) : ∀ (f g : Nat) (ps : List Ty), partss ps ≤ f → f ≤ g → fitF l f ps = fitF l g ps := by
  intro f
  induction f with
  | zero =>
    intro g ps h1 h2
    cases ps with
    | nil => cases g <;> rfl
    | cons p ps => have := parts_eq p; rw [partss] at h1; omega
  | succ f ih =>
    intro g ps h1 h2
    obtain ⟨g, rfl⟩ : ∃ g', g = g' + 1 := ⟨g - 1, by omega⟩
    rw [fitF_succ, fitF_succ]
    congr 1
    refine all_congr fun h hh => all_congr fun k hk => ih g _ ?_ (by omega)
    have := partss_kidsAt_lt k hh
    omega
theorem fit_eq (l : List Inf) (ps : List Ty) : fit l ps = (ps.all (right l) && sorted l ps && (heads ps).all fun h => (List.range h.many).all fun k => fit l (kidsAt h k ps)) := by
  unfold fit
  rw [fitF_more l _ (partss ps + 1) ps (Nat.le_refl _) (by omega), fitF_succ]
  congr 1
  refine all_congr fun h hh => all_congr fun k hk => (fitF_more l _ _ _ (Nat.le_refl _) ?_).symm
  have := partss_kidsAt_lt k hh
  omega
/-! Behind some a wild one. -/
theorem heads_wild (ps : List Ty) : heads (ps ++ [any]) = heads ps := by
  unfold heads
  rw [List.filter_append]
  simp [wild, any, Ty.k]
theorem kidsAt_wild (h : Head) (k : Nat) (ps : List Ty) : kidsAt h k (ps ++ [any]) = kidsAt h k ps := by
  unfold kidsAt
  rw [List.filterMap_append]
  simp [wild, any, Ty.k]
theorem sorted_wild (l : List Inf) (ps : List Ty) : sorted l (ps ++ [any]) = sorted l ps := by
  unfold sorted
  rw [List.filter_append]
  simp [wild, any, Ty.k]
theorem fit_wild (l : List Inf) (ps : List Ty) : fit l (ps ++ [any]) = fit l ps := by
  rw [fit_eq, fit_eq l ps, heads_wild, sorted_wild, List.all_append]
  have : [any].all (right l) = true := rfl
  rw [this, Bool.and_true]
  congr 1
  refine all_congr fun h _ => all_congr fun k _ => ?_
  rw [kidsAt_wild]
theorem nameds_append (l : List Inf) : ∀ ps qs : List Ty, nameds l (ps ++ qs) = (nameds l ps && nameds l qs)
  | [], qs => by simp [nameds]
  | p :: ps, qs => by rw [List.cons_append, nameds, nameds, nameds_append l ps qs, Bool.and_assoc]
theorem eachOf_append (l : List Inf) : ∀ (rows : List (List Ty)) (ps qs : List Ty), eachOf l rows (ps ++ qs) = (eachOf l rows ps && eachOf l (rows ++ ps.map fun p => [p]) qs)
  | rows, [], qs => by simp [eachOf]
  | rows, p :: ps, qs => by
    rw [List.cons_append, eachOf, eachOf, eachOf_append l _ ps qs, Bool.and_assoc, List.map_cons, List.append_assoc]
    rfl
/-- Behind one that is wild all over nothing is of use. -/
theorem useful_wilds (l : List Inf) : ∀ (n : Nat) (rows : List (List Ty)) (q : List Ty), wtss rows + wts q + q.length ≤ n → (∃ r ∈ rows, r.length = q.length ∧ ∀ p ∈ r, p.wild = true) → useful l rows q = false := by
  intro n
  induction n with
  | zero =>
    intro rows q hn ⟨r, hr, hl, hw⟩
    have hq : q = [] := List.length_eq_zero_iff.1 (by omega)
    subst hq
    cases rows with
    | nil => cases hr
    | cons x rows => exact useful_none l x rows
  | succ n ih =>
    intro rows q hn ⟨r, hr, hl, hw⟩
    cases rows with
    | nil => cases hr
    | cons x rows =>
      cases q with
      | nil => exact useful_none l x rows
      | cons p q =>
        obtain ⟨y, r, rfl⟩ : ∃ y r', r = y :: r' := by cases r with
          | nil => cases hl
          | cons y r => exact ⟨y, r, rfl⟩
        have hy := hw y List.mem_cons_self
        have ho : ∀ h : Head, (List.replicate h.many any ++ r) ∈ (x :: rows).filterMap (opened h) := fun h => List.mem_filterMap.2 ⟨y :: r, hr, by rw [opened_cons, if_pos hy]⟩
        have hl' : r.length = q.length := by simpa using hl
        have hww : ∀ (n : Nat) (z : Ty), z ∈ List.replicate n any ++ r → z.wild = true := fun n z hz => by
          rcases List.mem_append.1 hz with hz | hz
          · rw [(List.mem_replicate.1 hz).2]; rfl
          · exact hw z (List.mem_cons_of_mem _ hz)
        rw [wts, List.length_cons] at hn
        cases hp : p.wild with
        | false =>
          rw [useful_tame l hp]
          refine ih _ _ ?_ ⟨_, ho p.head, ?_, hww _⟩
          · have := wtss_opened p.head (x :: rows)
            rw [wts_append, List.length_append]
            rw [wt_tame hp] at hn
            omega
          · rw [List.length_append, List.length_append, List.length_replicate, hl']
            rfl
        | true =>
          rw [wt_wild hp] at hn
          cases hh : wholeOf l (heads ((x :: rows).filterMap List.head?)) with
          | false =>
            rw [useful_rest l hp q x rows hh]
            refine ih _ _ ?_ ⟨r, List.mem_filterMap.2 ⟨y :: r, hr, by rw [rest_cons, if_pos hy]⟩, hl', fun z hz => hw z (List.mem_cons_of_mem _ hz)⟩
            have := wtss_rest (x :: rows)
            omega
          | true =>
            rw [useful_whole l hp q x rows hh, List.any_eq_false]
            intro h hm
            have : useful l ((x :: rows).filterMap (opened h)) (List.replicate h.many any ++ q) = false := by
              refine ih _ _ ?_ ⟨_, ho h, ?_, hww _⟩
              · have := wtss_opened_lt hm
                rw [wts_append, wts_any, List.length_append, List.length_replicate]
                omega
              · rw [List.length_append, List.length_append, List.length_replicate, hl']
            rw [this]; simp
/-- What is told where all is of use. -/
theorem told_zero {l : List Inf} {ps : List Ty} {b : Bool} (h : told l ps b = 0) : partss ps ≤ 200 ∧ nameds l ps = true ∧ fit l ps = true ∧ eachOf l [] ps = true := by
  unfold told at h
  split at h
  · cases h
  · rename_i hn
    split at h
    · cases h
    · rename_i h1
      split at h
      · cases h
      · rename_i h2
        split at h
        · cases h
        · rename_i h3
          exact ⟨by omega, by simpa using h1, by simpa using h2, by simpa using h3⟩
theorem told_of {l : List Inf} {ps : List Ty} (hn : partss ps ≤ 200) (h1 : nameds l ps = true) (h2 : fit l ps = true) (b : Bool) : told l ps b = if !eachOf l [] ps then 4 else if b && useful l (ps.map fun p => [p]) [any] then 4 else 0 := by
  unfold told
  rw [if_neg (by omega), h1, h2]
  simp
theorem nameds_wild {l : List Inf} {ps : List Ty} (h : nameds l ps = true) : nameds l (ps ++ [any]) = true := by
  rw [nameds_append, h]
  simp [nameds, named, any]
theorem each_wild {l : List Inf} {ps : List Ty} (h : eachOf l [] ps = true) : eachOf l [] (ps ++ [any]) = useful l (ps.map fun p => [p]) [any] := by
  rw [eachOf_append, h]
  simp [eachOf]
theorem useful_wild (l : List Inf) (ps : List Ty) : useful l ((ps ++ [any]).map fun p => [p]) [any] = false :=
  useful_wilds l _ _ _ (Nat.le_refl _) ⟨[any], by simp, rfl, by simp [wild, any, Ty.k]⟩
/-- What CoverWild asks. -/
theorem told_wild (l : List Inf) (ps : List Ty) (hn : partss ps ≤ 199) (h0 : told l ps false = 0) :
    (told l ps true = 0 ∨ told l ps true = 4) ∧ (told l (ps ++ [any]) false = 0 ↔ told l ps true = 4) ∧ (told l ps true = 4 → told l (ps ++ [any]) true = 0) := by
  have hpa : partss [any] = 1 := rfl
  obtain ⟨_, h1, h2, h3⟩ := told_zero h0
  have m2 : fit l (ps ++ [any]) = true := by rw [fit_wild, h2]
  have v1 := told_of (l := l) (ps := ps ++ [any]) (by rw [partss_append]; omega) (nameds_wild h1) m2
  rw [each_wild h3, useful_wild] at v1
  have u1 := told_of (l := l) (ps := ps) (by omega) h1 h2 true
  rw [h3] at u1
  rw [v1 true, v1 false, u1]
  cases useful l (ps.map fun p => [p]) [any] <;> simp
theorem told_wild2 (l : List Inf) (ps : List Ty) (hn : partss ps ≤ 198) (h0 : told l ps false = 0) : told l (ps ++ [any] ++ [any]) false = 4 := by
  have hpa : partss [any] = 1 := rfl
  obtain ⟨_, h1, h2, h3⟩ := told_zero h0
  rw [told_of (by rw [partss_append, partss_append]; omega) (nameds_wild (nameds_wild h1)) (by rw [fit_wild, fit_wild, h2])]
  have : eachOf l [] (ps ++ [any] ++ [any]) = false := by
    rw [eachOf_append, List.nil_append, eachOf, useful_wild]
    simp
  rw [this]
  simp
/-! Numbers. -/
def num (i : Int) : Ty := .node 3 [] i []
theorem num_opened (i : Int) : ∀ js : List Int, (js.map fun j => [num j]).filterMap (opened (num i).head) = (js.filter fun j => decide (j = i)).map fun _ => []
  | [] => rfl
  | j :: js => by
    rw [List.map_cons, List.filterMap_cons, List.filter_cons, num_opened i js]
    have e : opened (num i).head [num j] = if j = i then some [] else none := by
      rw [opened_cons]
      have hw : (num j).wild = false := rfl
      rw [hw]
      simp only [Bool.false_eq_true, if_false]
      by_cases h : j = i
      · subst h; simp [num, Ty.ks]
      · have : ¬ (num j).head = (num i).head := fun e => h (by have := congrArg Head.n e; simpa [num, head, Ty.k, Ty.n] using this)
        rw [if_neg this, if_neg h]
    rw [e]
    by_cases h : j = i
    · simp [h]
    · simp [h]
theorem useful_num (l : List Inf) (i : Int) (js : List Int) : useful l (js.map fun j => [num j]) [num i] = !decide (i ∈ js) := by
  cases js with
  | nil => rw [List.map_nil, useful_nil]; simp
  | cons j js =>
    rw [List.map_cons, useful_tame l (p := num i) rfl, ← List.map_cons (f := fun j => [num j]), num_opened]
    show useful l _ [] = _
    cases e : (j :: js).filter fun j => decide (j = i) with
    | nil =>
      rw [List.map_nil, useful_nil]
      have : i ∉ j :: js := fun h => by
        have := List.filter_eq_nil_iff.1 e i h
        simp at this
      rw [decide_eq_false this]
      rfl
    | cons x xs =>
      rw [List.map_cons, useful_none]
      have hx : x ∈ (j :: js).filter fun j => decide (j = i) := by rw [e]; exact List.mem_cons_self
      have := List.mem_filter.1 hx
      have hi : i ∈ j :: js := by
        have h2 : x = i := by simpa using this.2
        exact h2 ▸ this.1
      rw [decide_eq_true hi]
      rfl
theorem each_num (l : List Inf) : ∀ (js is : List Int), eachOf l (js.map fun j => [num j]) (is.map num) = decide (is.Nodup ∧ ∀ i ∈ is, i ∉ js)
  | js, [] => by simp [eachOf]
  | js, i :: is => by
    rw [List.map_cons, eachOf, useful_num]
    have := each_num l (js ++ [i]) is
    rw [List.map_append] at this
    rw [show (js.map fun j => [num j]) ++ [[num i]] = (js.map fun j => [num j]) ++ [i].map (fun j => [num j]) from rfl, this]
    by_cases h : i ∈ js
    · rw [decide_eq_true h]
      simp [h]
    · rw [decide_eq_false h]
      simp only [Bool.not_false, Bool.true_and, decide_eq_decide, List.nodup_cons, List.mem_append, List.mem_cons, List.not_mem_nil, or_false]
      constructor
      · rintro ⟨h1, h2⟩
        exact ⟨⟨fun hi => (h2 i hi) (.inr rfl), h1⟩, fun k hk => by
          rcases hk with rfl | hk
          · exact h
          · exact fun hj => h2 k hk (.inl hj)⟩
      · rintro ⟨⟨h1, h2⟩, h3⟩
        exact ⟨h2, fun k hk hj => by
          rcases hj with hj | rfl
          · exact h3 k (.inr hk) hj
          · exact h1 hk⟩
theorem partss_num : ∀ is : List Int, partss (is.map num) = is.length
  | [] => rfl
  | i :: is => by rw [List.map_cons, partss, partss_num is, List.length_cons]; show (0 + 1) + _ = _; omega
theorem nameds_num (l : List Inf) : ∀ is : List Int, nameds l (is.map num) = true
  | [] => by simp [nameds]
  | i :: is => by rw [List.map_cons, nameds, nameds_num l is]; simp [named, num, nameds]
theorem fit_num (l : List Inf) (is : List Int) : fit l (is.map num) = true := by
  rw [fit_eq, Bool.and_eq_true, Bool.and_eq_true]
  refine ⟨⟨?_, ?_⟩, ?_⟩
  · rw [List.all_eq_true]
    intro p hp
    obtain ⟨i, _, rfl⟩ := List.mem_map.1 hp
    rfl
  · unfold sorted
    have : (is.map num).filter (fun p => !p.wild) = is.map num := List.filter_eq_self.2 fun p hp => by
      obtain ⟨i, _, rfl⟩ := List.mem_map.1 hp
      rfl
    rw [this]
    cases is with
    | nil => rfl
    | cons i is =>
      rw [List.map_cons]
      simp only
      rw [List.all_eq_true]
      intro p hp
      obtain ⟨j, _, rfl⟩ := List.mem_map.1 hp
      simp [sort, num, Ty.k]
  · rw [List.all_eq_true]
    intro h hh
    obtain ⟨p, hp, _, rfl⟩ := heads_mem hh
    obtain ⟨j, _, rfl⟩ := List.mem_map.1 hp
    rfl
theorem whole_num (l : List Inf) (is : List Int) : useful l ((is.map num).map fun p => [p]) [any] = true := by
  cases is with
  | nil => exact useful_nil _ _
  | cons i is =>
    rw [List.map_cons, List.map_cons, useful_rest l (p := any) rfl]
    · have : ([num i] :: ((is.map num).map fun p => [p])).filterMap rest = [] := List.filterMap_eq_nil_iff.2 fun r hr => by
        rcases List.mem_cons.1 hr with rfl | hr
        · rfl
        · obtain ⟨p, hp, rfl⟩ := List.mem_map.1 hr
          obtain ⟨j, _, rfl⟩ := List.mem_map.1 hp
          rfl
      rw [this, useful_nil]
    · cases e : heads (([num i] :: ((is.map num).map fun p => [p])).filterMap List.head?) with
      | nil => rfl
      | cons h hs =>
        obtain ⟨p, hp, _, hk⟩ := heads_mem (h := h) (by rw [e]; exact List.mem_cons_self)
        obtain ⟨r, hr, hrp⟩ := List.mem_filterMap.1 hp
        have : ∃ j, p = num j := by
          rcases List.mem_cons.1 hr with rfl | hr
          · exact ⟨i, by simpa using hrp.symm⟩
          · obtain ⟨q, hq, rfl⟩ := List.mem_map.1 hr
            obtain ⟨j, _, rfl⟩ := List.mem_map.1 hq
            exact ⟨j, by simpa using hrp.symm⟩
        obtain ⟨j, rfl⟩ := this
        have : h.k = 3 := by rw [← hk]; rfl
        show (if h.k = 4 ∨ h.k = 5 then true else if h.k = 6 then _ else false) = false
        rw [if_neg (by omega), if_neg (by omega)]
theorem told_num (l : List Inf) (is : List Int) (b : Bool) : told l (is.map num) b = if 200 < is.length then 1 else if !decide is.Nodup then 4 else if b then 4 else 0 := by
  by_cases h : 200 < is.length
  · rw [if_pos h]
    unfold told
    rw [if_pos (by rw [partss_num]; exact h)]
  · rw [if_neg h, told_of (by rw [partss_num]; omega) (nameds_num l is) (fit_num l is), whole_num]
    have := each_num l [] is
    rw [List.map_nil] at this
    rw [this]
    simp
end Go.Proofs.Ytigaondgopahgaa
