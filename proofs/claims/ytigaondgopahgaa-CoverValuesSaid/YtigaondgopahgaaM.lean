/- cover: what is asked of patterns, apart from memory. -/
import Derived.Test.YtigaondgopahgaaT
namespace Go.Proofs.Ytigaondgopahgaa
set_option linter.unusedVariables false
/-- What is known of a constructor. -/
structure Inf where
  nm : List UInt8
  of : List UInt8
  has : Bool
/-- What a pattern that is not wild begins with. -/
structure Head where
  k : Nat
  nm : List UInt8
  n : Int
  many : Nat
deriving DecidableEq
namespace Ty
def any : Ty := node 1 [] 0 []
def wild (p : Ty) : Bool := p.k == 1 || p.k == 2
def head (p : Ty) : Head := ⟨p.k, if p.k = 6 then p.nm else [], if p.k = 3 then p.n else 0, p.ks.length⟩
/-! How much a pattern weighs. -/
mutual
def wt : Ty → Nat
  | node k _ _ ks => if k = 1 ∨ k = 2 then 0 else wts ks + ks.length + 1
def wts : List Ty → Nat
  | [] => 0
  | t :: ts => wt t + wts ts
end
theorem wt_wild {p : Ty} (h : p.wild = true) : wt p = 0 := by
  obtain ⟨k, nm, n, ks⟩ := p
  rw [wt, if_pos (by simpa [wild, Ty.k] using h)]
theorem wt_tame {p : Ty} (h : p.wild = false) : wt p = wts p.ks + p.ks.length + 1 := by
  obtain ⟨k, nm, n, ks⟩ := p
  rw [wt, if_neg (by simpa [wild, Ty.k] using h)]
  rfl
theorem wts_append : ∀ l m : List Ty, wts (l ++ m) = wts l + wts m
  | [], m => by simp [wts]
  | t :: l, m => by rw [List.cons_append, wts, wts, wts_append l m, Nat.add_assoc]
theorem wts_any : ∀ n : Nat, wts (List.replicate n any) = 0
  | 0 => by simp [wts]
  | n + 1 => by rw [List.replicate_succ, wts, wts_any n]; rfl
end Ty
open Ty
/-- The heads of patterns, each once. -/
def heads (l : List Ty) : List Head := (l.filter fun p => !p.wild).foldl (fun a p => if p.head ∈ a then a else a ++ [p.head]) []
/-- A row behind a value of a head. -/
def opened (h : Head) : List Ty → Option (List Ty)
  | [] => none
  | p :: r => if p.wild then some (List.replicate h.many any ++ r) else if p.head = h then some (p.ks ++ r) else none
/-- A row behind a value of none of the heads. -/
def rest : List Ty → Option (List Ty)
  | [] => none
  | p :: r => if p.wild then some r else none
/-- The first of a name. -/
def inf (l : List Inf) (s : List UInt8) : Option Inf := l.find? fun i => i.nm == s
/-- The first of each name. -/
def firsts (l : List Inf) : List Inf := l.foldl (fun a i => if a.any (fun x => x.nm == i.nm) then a else a ++ [i]) []
/-- What a constructor is one of, and whether it has another one. -/
def ofOf (l : List Inf) (s : List UInt8) : List UInt8 := ((inf l s).map (·.of)).getD []
def hasOf (l : List Inf) (s : List UInt8) : Bool := ((inf l s).map (·.has)).getD false
/-- How many a datatype has. -/
def manyOf (l : List Inf) (s : List UInt8) : Nat := ((firsts l).filter fun i => i.of == s).length
/-- Does each value have one of the heads? -/
def wholeOf (l : List Inf) : List Head → Bool
  | [] => false
  | h :: hs => if h.k = 4 ∨ h.k = 5 then true else if h.k = 6 then (ofOf l h.nm != [101, 120, 110] && (hs.length + 1 == manyOf l (ofOf l h.nm))) else false
/-- How much rows weigh. -/
def wtss : List (List Ty) → Nat
  | [] => 0
  | r :: rs => wts r + wtss rs
/-- Does one more row take what no row takes? With so much to go on. -/
def useF (l : List Inf) : Nat → List (List Ty) → List Ty → Bool
  | 0, rows, _ => rows.isEmpty
  | f + 1, rows, q => match rows, q with
    | [], _ => true
    | _ :: _, [] => false
    | rows, p :: q =>
      if p.wild then
        if wholeOf l (heads (rows.filterMap List.head?)) then
          (heads (rows.filterMap List.head?)).any fun h => useF l f (rows.filterMap (opened h)) (List.replicate h.many any ++ q)
        else useF l f (rows.filterMap rest) q
      else useF l f (rows.filterMap (opened p.head)) (p.ks ++ q)
def useful (l : List Inf) (rows : List (List Ty)) (q : List Ty) : Bool := useF l (wtss rows + wts q + q.length) rows q
/-- Is a pattern right in itself? -/
def right (l : List Inf) (p : Ty) : Bool :=
  if p.k = 1 ∨ p.k = 2 then true else if p.k = 3 ∨ p.k = 4 then p.ks.isEmpty else if p.k = 5 then decide (2 ≤ p.ks.length) else if p.k = 6 then (if hasOf l p.nm then p.ks.length == 1 else p.ks.isEmpty) else false
/-- What patterns of a place have in common. -/
def sort (l : List Inf) (p : Ty) : Head := ⟨p.k, if p.k = 6 then ofOf l p.nm else [], 0, if p.k = 5 then p.ks.length else 0⟩
/-- The kids at a place of those with a head. -/
def kidsAt (h : Head) (k : Nat) (l : List Ty) : List Ty := l.filterMap fun p => if p.wild then none else if p.head = h then p.ks[k]? else none
def sorted (l : List Inf) (ps : List Ty) : Bool := match ps.filter fun p => !p.wild with
  | [] => true
  | p :: ps => ps.all fun x => sort l x == sort l p
def fitF (l : List Inf) : Nat → List Ty → Bool
  | 0, _ => true
  | f + 1, ps => ps.all (right l) && sorted l ps && (heads ps).all fun h => (List.range h.many).all fun k => fitF l f (kidsAt h k ps)
def fit (l : List Inf) (ps : List Ty) : Bool := fitF l (partss ps) ps
mutual
def named (l : List Inf) : Ty → Bool
  | .node k nm _ ks => !(k == 6 && (inf l nm).isNone) && nameds l ks
def nameds (l : List Inf) : List Ty → Bool
  | [] => true
  | t :: ts => named l t && nameds l ts
end
/-- Is each of use, behind some? -/
def eachOf (l : List Inf) : List (List Ty) → List Ty → Bool
  | _, [] => true
  | rows, p :: ps => useful l rows [p] && eachOf l (rows ++ [[p]]) ps
/-- What is told: 0, or what is wrong: 1 too deep, 2 a name, 3 a type, 4 what is not of use or not covered. -/
def told (l : List Inf) (ps : List Ty) (whole : Bool) : Nat :=
  if 200 < partss ps then 1 else if !nameds l ps then 2 else if !fit l ps then 3 else if !eachOf l [] ps then 4 else if whole && useful l (ps.map fun p => [p]) [any] then 4 else 0
theorem useF_cons (l : List Inf) (f : Nat) (r : List Ty) (rows : List (List Ty)) (p : Ty) (q : List Ty) : useF l (f + 1) (r :: rows) (p :: q) =
    if p.wild then
      if wholeOf l (heads ((r :: rows).filterMap List.head?)) then
        (heads ((r :: rows).filterMap List.head?)).any fun h => useF l f ((r :: rows).filterMap (opened h)) (List.replicate h.many any ++ q)
      else useF l f ((r :: rows).filterMap rest) q
    else useF l f ((r :: rows).filterMap (opened p.head)) (p.ks ++ q) := rfl
/-! It goes on. -/
theorem opened_cons (h : Head) (p : Ty) (r : List Ty) : opened h (p :: r) = if p.wild then some (List.replicate h.many any ++ r) else if p.head = h then some (p.ks ++ r) else none := rfl
theorem rest_cons (p : Ty) (r : List Ty) : rest (p :: r) = if p.wild then some r else none := rfl
theorem wts_opened {h : Head} {r r' : List Ty} (e : opened h r = some r') : wts r' ≤ wts r := by
  cases r with
  | nil => cases e
  | cons p r =>
    rw [opened_cons] at e
    split at e
    · rename_i hw
      cases e
      rw [wts_append, wts_any, wts, wt_wild hw]
      exact Nat.le_refl _
    · rename_i hw
      split at e
      · cases e
        rw [wts_append, wts, wt_tame (by simpa using hw)]
        omega
      · cases e
theorem wts_opened_lt {h : Head} {p : Ty} {r r' : List Ty} (hw : p.wild = false) (e : opened h (p :: r) = some r') : p.head = h ∧ wts r' + h.many + 1 = wts (p :: r) := by
  rw [opened_cons, if_neg (by simp [hw])] at e
  split at e
  · rename_i hh
    cases e
    refine ⟨hh, ?_⟩
    rw [wts_append, wts, wt_tame hw, ← hh]
    show _ + p.ks.length + 1 = _
    omega
  · cases e
theorem wtss_opened (h : Head) : ∀ rows : List (List Ty), wtss (rows.filterMap (opened h)) ≤ wtss rows
  | [] => Nat.le_refl _
  | r :: rows => by
    rw [List.filterMap_cons, wtss]
    have ih := wtss_opened h rows
    cases e : opened h r with
    | none => show wtss (rows.filterMap (opened h)) ≤ _; omega
    | some r' =>
      show wtss (r' :: rows.filterMap (opened h)) ≤ _
      rw [wtss]
      have := wts_opened e
      omega
theorem wts_rest {r r' : List Ty} (e : rest r = some r') : wts r' = wts r := by
  cases r with
  | nil => cases e
  | cons p r =>
    rw [rest_cons] at e
    split at e
    · rename_i hw
      cases e
      rw [wts, wt_wild hw, Nat.zero_add]
    · cases e
theorem wtss_rest : ∀ rows : List (List Ty), wtss (rows.filterMap rest) ≤ wtss rows
  | [] => Nat.le_refl _
  | r :: rows => by
    rw [List.filterMap_cons, wtss]
    have ih := wtss_rest rows
    cases e : rest r with
    | none => show wtss (rows.filterMap rest) ≤ _; omega
    | some r' =>
      show wtss (r' :: rows.filterMap rest) ≤ _
      rw [wtss, wts_rest e]
      omega
theorem heads_mem {l : List Ty} {h : Head} (hh : h ∈ heads l) : ∃ p ∈ l, p.wild = false ∧ p.head = h := by
  have key : ∀ (m : List Ty) (a : List Head), h ∈ m.foldl (fun a p => if p.head ∈ a then a else a ++ [p.head]) a → h ∈ a ∨ ∃ p ∈ m, p.head = h := by
    intro m
    induction m with
    | nil => exact fun a h => .inl h
    | cons p m ih =>
      intro a hm
      rw [List.foldl_cons] at hm
      rcases ih _ hm with hm | ⟨q, hq, e⟩
      · split at hm
        · exact .inl hm
        · rcases List.mem_append.1 hm with hm | hm
          · exact .inl hm
          · exact .inr ⟨p, List.mem_cons_self, (List.mem_singleton.1 hm).symm⟩
      · exact .inr ⟨q, List.mem_cons_of_mem _ hq, e⟩
  rcases key _ _ hh with h0 | ⟨p, hp, e⟩
  · cases h0
  · have := List.mem_filter.1 hp
    exact ⟨p, this.1, by simpa using this.2, e⟩
theorem wtss_opened_lt {h : Head} : ∀ {rows : List (List Ty)}, h ∈ heads (rows.filterMap List.head?) → wtss (rows.filterMap (opened h)) + h.many + 1 ≤ wtss rows := by
  intro rows hh
  obtain ⟨p, hp, hw, rfl⟩ := heads_mem hh
  clear hh
  induction rows with
  | nil => cases hp
  | cons r rows ih =>
    rw [List.filterMap_cons, wtss]
    cases r with
    | nil =>
      have hp : p ∈ rows.filterMap List.head? := hp
      have := ih hp
      show wtss (rows.filterMap (opened p.head)) + _ + _ ≤ _
      omega
    | cons x r =>
      have hp : p ∈ x :: rows.filterMap List.head? := hp
      rcases List.mem_cons.1 hp with rfl | hp
      · have e : opened p.head (p :: r) = some (p.ks ++ r) := by simp [opened_cons, hw]
        have := (wts_opened_lt hw e).2
        have h2 := wtss_opened p.head rows
        rw [e]
        show wtss ((p.ks ++ r) :: rows.filterMap (opened p.head)) + _ + _ ≤ _
        rw [wtss]
        omega
      · have := ih hp
        cases e : opened p.head (x :: r) with
        | none => show wtss (rows.filterMap (opened p.head)) + _ + _ ≤ _; omega
        | some r' =>
          show wtss (r' :: rows.filterMap (opened p.head)) + _ + _ ≤ _
          rw [wtss]
          have := wts_opened e
          omega
/-- With enough to go on it is the same. -/
theorem useF_more (l : List Inf) : ∀ (f g : Nat) (rows : List (List Ty)) (q : List Ty), wtss rows + wts q + q.length ≤ f → f ≤ g → useF l f rows q = useF l g rows q := by
  intro f
  induction f with
  | zero =>
    intro g rows q h1 h2
    have hq : q = [] := List.length_eq_zero_iff.1 (by omega)
    subst hq
    cases g with
    | zero => rfl
    | succ g => cases rows <;> simp [useF]
  | succ f ih =>
    intro g rows q h1 h2
    obtain ⟨g, rfl⟩ : ∃ g', g = g' + 1 := ⟨g - 1, by omega⟩
    cases rows with
    | nil => simp [useF]
    | cons r rows =>
      cases q with
      | nil => simp [useF]
      | cons p q =>
        rw [useF_cons, useF_cons]
        rw [wts, List.length_cons] at h1
        cases hw : p.wild with
        | false =>
          simp only [Bool.false_eq_true, if_false]
          refine ih g _ _ ?_ (by omega)
          have := wtss_opened p.head (r :: rows)
          rw [wts_append, List.length_append]
          rw [wt_tame hw] at h1
          omega
        | true =>
          simp only [if_true]
          rw [wt_wild hw] at h1
          split
          · have hany : ∀ (hs : List Head) (P R : Head → Bool), (∀ h ∈ hs, P h = R h) → hs.any P = hs.any R := fun hs P R hPR => by
              induction hs with
              | nil => rfl
              | cons x xs ih2 => rw [List.any_cons, List.any_cons, hPR x List.mem_cons_self, ih2 fun h hm => hPR h (List.mem_cons_of_mem _ hm)]
            refine hany _ _ _ fun h hh => ih g _ _ ?_ (by omega)
            have := wtss_opened_lt hh
            rw [wts_append, wts_any, List.length_append, List.length_replicate]
            omega
          · refine ih g _ _ ?_ (by omega)
            have := wtss_rest (r :: rows)
            omega
theorem useF_eq (l : List Inf) {f : Nat} {rows : List (List Ty)} {q : List Ty} (h : wtss rows + wts q + q.length ≤ f) : useF l f rows q = useful l rows q := (useF_more l _ f rows q (Nat.le_refl _) h).symm
theorem useful_nil (l : List Inf) (q : List Ty) : useful l [] q = true := by
  unfold useful
  cases wtss [] + wts q + q.length <;> simp [useF]
theorem useful_none (l : List Inf) (r : List Ty) (rows : List (List Ty)) : useful l (r :: rows) [] = false := by
  unfold useful
  cases wtss (r :: rows) + wts [] + List.length ([] : List Ty) <;> simp [useF]
theorem useful_tame (l : List Inf) {p : Ty} (hw : p.wild = false) (q : List Ty) (r : List Ty) (rows : List (List Ty)) : useful l (r :: rows) (p :: q) = useful l ((r :: rows).filterMap (opened p.head)) (p.ks ++ q) := by
  rw [← useF_eq l (rows := r :: rows) (q := p :: q) (f := wtss (r :: rows) + wts (p :: q) + (p :: q).length + 1) (by omega), useF_cons]
  simp only [hw, Bool.false_eq_true, if_false]
  refine useF_eq l ?_
  have := wtss_opened p.head (r :: rows)
  rw [wts_append, List.length_append, wts, wt_tame hw, List.length_cons]
  omega
theorem useful_rest (l : List Inf) {p : Ty} (hw : p.wild = true) (q : List Ty) (r : List Ty) (rows : List (List Ty)) (hh : wholeOf l (heads ((r :: rows).filterMap List.head?)) = false) : useful l (r :: rows) (p :: q) = useful l ((r :: rows).filterMap rest) q := by
  rw [← useF_eq l (rows := r :: rows) (q := p :: q) (f := wtss (r :: rows) + wts (p :: q) + (p :: q).length + 1) (by omega), useF_cons]
  simp only [hw, hh, Bool.false_eq_true, if_false, if_true]
  refine useF_eq l ?_
  have := wtss_rest (r :: rows)
  rw [wts, List.length_cons]
  omega
theorem useful_whole (l : List Inf) {p : Ty} (hw : p.wild = true) (q : List Ty) (r : List Ty) (rows : List (List Ty)) (hh : wholeOf l (heads ((r :: rows).filterMap List.head?)) = true) : useful l (r :: rows) (p :: q) = (heads ((r :: rows).filterMap List.head?)).any fun h => useful l ((r :: rows).filterMap (opened h)) (List.replicate h.many any ++ q) := by
  rw [← useF_eq l (rows := r :: rows) (q := p :: q) (f := wtss (r :: rows) + wts (p :: q) + (p :: q).length + 1) (by omega), useF_cons]
  simp only [hw, hh, if_true]
  have hany : ∀ (hs : List Head) (P R : Head → Bool), (∀ h ∈ hs, P h = R h) → hs.any P = hs.any R := fun hs P R hPR => by
    induction hs with
    | nil => rfl
    | cons x xs ih2 => rw [List.any_cons, List.any_cons, hPR x List.mem_cons_self, ih2 fun h hm => hPR h (List.mem_cons_of_mem _ hm)]
  refine hany _ _ _ fun h hm => useF_eq l ?_
  have := wtss_opened_lt hm
  rw [wts_append, wts_any, List.length_append, List.length_replicate, wts, wt_wild hw, List.length_cons]
  omega
end Go.Proofs.Ytigaondgopahgaa
