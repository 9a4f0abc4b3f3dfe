/- cover: the names of variables and the order of infos say nothing, apart from memory. -/
import Derived.Test.YtigaondgopahgaaM
namespace Go.Proofs.Ytigaondgopahgaa
open Ty
set_option linter.unusedVariables false
set_option linter.unusedSimpArgs false
set_option linter.unusedSectionVars false
/-! Two lists that know the same. -/
section
variable {l l' : List Inf} (hi : ∀ s, inf l s = inf l' s) (hm : ∀ s, manyOf l s = manyOf l' s)
include hi
theorem hasOf_same (s : List UInt8) : hasOf l s = hasOf l' s := by unfold hasOf; rw [hi]
theorem ofOf_same (s : List UInt8) : ofOf l s = ofOf l' s := by unfold ofOf; rw [hi]
theorem right_same : right l = right l' := by
  funext p
  unfold right
  rw [hasOf_same hi]
theorem sort_same : sort l = sort l' := by
  funext p
  unfold sort
  rw [ofOf_same hi]
theorem sorted_same : sorted l = sorted l' := by
  funext ps
  unfold sorted
  rw [sort_same hi]
theorem fitF_same : ∀ (f : Nat) (ps : List Ty), fitF l f ps = fitF l' f ps
  | 0, ps => rfl
  | f + 1, ps => by
    unfold fitF
    rw [right_same hi, sorted_same hi]
    simp only [fitF_same f]
theorem fit_same (ps : List Ty) : fit l ps = fit l' ps := fitF_same hi _ ps
mutual
theorem named_same : ∀ t : Ty, named l t = named l' t
  | .node k nm n ks => by unfold named; rw [hi, nameds_same ks]
theorem nameds_same : ∀ ts : List Ty, nameds l ts = nameds l' ts
  | [] => by unfold nameds; rfl
  | t :: ts => by unfold nameds; rw [named_same t, nameds_same ts]
end
include hm
theorem wholeOf_same (hs : List Head) : wholeOf l hs = wholeOf l' hs := by
  cases hs with
  | nil => rfl
  | cons h hs => simp only [wholeOf, ofOf_same hi, hm]
theorem useF_same : ∀ (f : Nat) (rows : List (List Ty)) (q : List Ty), useF l f rows q = useF l' f rows q := by
  intro f
  induction f with
  | zero => intro rows q; rfl
  | succ f ih =>
    intro rows q
    cases rows with
    | nil => rfl
    | cons r rows =>
      cases q with
      | nil => rfl
      | cons p q =>
        rw [useF_cons, useF_cons, wholeOf_same hi hm]
        simp only [ih]
theorem useful_same (rows : List (List Ty)) (q : List Ty) : useful l rows q = useful l' rows q := useF_same hi hm _ rows q
theorem eachOf_same : ∀ (ps : List Ty) (rows : List (List Ty)), eachOf l rows ps = eachOf l' rows ps
  | [], rows => rfl
  | p :: ps, rows => by unfold eachOf; rw [useful_same hi hm, eachOf_same ps]
theorem told_same (ps : List Ty) (w : Bool) : told l ps w = told l' ps w := by
  unfold told
  rw [nameds_same hi, fit_same hi, eachOf_same hi hm, useful_same hi hm]
end
/-! The other way round. -/
theorem inf_mem {l : List Inf} (hd : l.Pairwise fun a b => a.nm ≠ b.nm) {i : Inf} (h : i ∈ l) : inf l i.nm = some i := by
  induction l with
  | nil => cases h
  | cons a l ih =>
    rw [List.pairwise_cons] at hd
    unfold inf
    rw [List.find?_cons]
    rcases List.mem_cons.1 h with rfl | h
    · simp
    · have : (a.nm == i.nm) = false := by simpa using hd.1 i h
      rw [this]
      exact ih hd.2 h
theorem inf_of {l : List Inf} {s : List UInt8} {i : Inf} (h : inf l s = some i) : i ∈ l ∧ i.nm = s := by
  have h1 := List.mem_of_find?_eq_some h
  have h2 := List.find?_some h
  exact ⟨h1, by simpa using h2⟩
theorem inf_reverse {l : List Inf} (hd : l.Pairwise fun a b => a.nm ≠ b.nm) (s : List UInt8) : inf l.reverse s = inf l s := by
  have hr : l.reverse.Pairwise fun a b => a.nm ≠ b.nm := by
    rw [List.pairwise_reverse]
    exact hd.imp fun h => Ne.symm h
  cases h : inf l s with
  | some i =>
    obtain ⟨hi, rfl⟩ := inf_of h
    exact inf_mem hr (List.mem_reverse.2 hi)
  | none =>
    unfold inf at h ⊢
    rw [List.find?_eq_none] at h ⊢
    intro x hx
    exact h x (List.mem_reverse.1 hx)
theorem firsts_same {l : List Inf} (hd : l.Pairwise fun a b => a.nm ≠ b.nm) : firsts l = l := by
  have key : ∀ (m a : List Inf), (∀ x ∈ a, ∀ y ∈ m, x.nm ≠ y.nm) → m.Pairwise (fun a b => a.nm ≠ b.nm) → m.foldl (fun a i => if a.any (fun x => x.nm == i.nm) then a else a ++ [i]) a = a ++ m := by
    intro m
    induction m with
    | nil => intro a _ _; simp
    | cons y m ih =>
      intro a ha hm
      rw [List.pairwise_cons] at hm
      have h0 : a.any (fun x => x.nm == y.nm) = false := by
        rw [List.any_eq_false]
        intro x hx
        simpa using ha x hx y List.mem_cons_self
      rw [List.foldl_cons, h0]
      simp only [Bool.false_eq_true, if_false]
      rw [ih (a ++ [y]) ?_ hm.2, List.append_assoc]
      · rfl
      · intro x hx z hz
        rcases List.mem_append.1 hx with hx | hx
        · exact ha x hx z (List.mem_cons_of_mem _ hz)
        · rw [List.mem_singleton.1 hx]
          exact hm.1 z hz
  have := key l [] (fun x hx => absurd hx (List.not_mem_nil)) hd
  rw [List.nil_append] at this
  exact this
theorem manyOf_reverse {l : List Inf} (hd : l.Pairwise fun a b => a.nm ≠ b.nm) (s : List UInt8) : manyOf l.reverse s = manyOf l s := by
  have hr : l.reverse.Pairwise fun a b => a.nm ≠ b.nm := by
    rw [List.pairwise_reverse]
    exact hd.imp fun h => Ne.symm h
  unfold manyOf
  rw [firsts_same hd, firsts_same hr, List.filter_reverse, List.length_reverse]
theorem told_reverse {l : List Inf} (hd : l.Pairwise fun a b => a.nm ≠ b.nm) (ps : List Ty) (w : Bool) : told l.reverse ps w = told l ps w := told_same (inf_reverse hd) (manyOf_reverse hd) ps w
/-! Wild ones in the place of variables. -/
namespace Ty
mutual
def plain : Ty → Ty
  | node k nm n ks => node (if k = 2 then 1 else k) (if k = 2 then [] else nm) n (plains ks)
def plains : List Ty → List Ty
  | [] => []
  | t :: ts => plain t :: plains ts
end
theorem plains_map : ∀ ts : List Ty, plains ts = ts.map plain
  | [] => by unfold plains; rfl
  | t :: ts => by unfold plains; rw [plains_map ts]; rfl
theorem plain_any : plain any = any := by
  unfold any
  rw [plain]
  simp [plains]
theorem plain_wild (p : Ty) : (plain p).wild = p.wild := by
  obtain ⟨k, nm, n, ks⟩ := p
  rw [plain]
  unfold wild
  simp only [Ty.k]
  by_cases h : k = 2 <;> simp [h]
theorem plain_ks (p : Ty) : (plain p).ks = p.ks.map plain := by
  obtain ⟨k, nm, n, ks⟩ := p
  rw [plain]
  exact plains_map ks
theorem plain_len (p : Ty) : (plain p).ks.length = p.ks.length := by rw [plain_ks, List.length_map]
theorem plain_not {p : Ty} (h : p.k ≠ 2) : (plain p).k = p.k ∧ (plain p).nm = p.nm ∧ (plain p).n = p.n := by
  obtain ⟨k, nm, n, ks⟩ := p
  have h : k ≠ 2 := h
  rw [plain]
  simp [Ty.k, Ty.nm, Ty.n, h]
theorem tame_not {p : Ty} (h : p.wild = false) : p.k ≠ 2 := by
  intro h2
  simp [wild, h2] at h
theorem plain_head {p : Ty} (h : p.wild = false) : (plain p).head = p.head := by
  obtain ⟨h1, h2, h3⟩ := plain_not (tame_not h)
  unfold head
  rw [h1, h2, h3, plain_len]
end Ty
theorem heads_plain (l : List Ty) : heads (l.map plain) = heads l := by
  have key : ∀ (l : List Ty) (a : List Head), ((l.map plain).filter fun p => !p.wild).foldl (fun a p => if p.head ∈ a then a else a ++ [p.head]) a = (l.filter fun p => !p.wild).foldl (fun a p => if p.head ∈ a then a else a ++ [p.head]) a := by
    intro l
    induction l with
    | nil => intro a; rfl
    | cons p l ih =>
      intro a
      rw [List.map_cons, List.filter_cons, List.filter_cons, plain_wild]
      cases h : p.wild with
      | true => simpa using ih a
      | false =>
        simp only [Bool.not_false, if_true, List.foldl_cons]
        rw [plain_head h]
        exact ih _
  exact key l []
theorem replicate_plain (n : Nat) : (List.replicate n any).map plain = List.replicate n any := by rw [List.map_replicate, plain_any]
theorem opened_plain (h : Head) (r : List Ty) : opened h (r.map plain) = (opened h r).map (List.map plain) := by
  cases r with
  | nil => rfl
  | cons p r =>
    rw [List.map_cons, opened_cons, opened_cons, plain_wild]
    cases hw : p.wild with
    | true =>
      simp only [if_true, Option.map_some, List.map_append]
      rw [replicate_plain]
    | false =>
      simp only [Bool.false_eq_true, if_false]
      rw [plain_head hw]
      split
      · simp only [Option.map_some, List.map_append]
        rw [plain_ks]
      · rfl
theorem rest_plain (r : List Ty) : rest (r.map plain) = (rest r).map (List.map plain) := by
  cases r with
  | nil => rfl
  | cons p r =>
    rw [List.map_cons, rest_cons, rest_cons, plain_wild]
    split <;> rfl
theorem fm_plain (f : List Ty → Option (List Ty)) (hf : ∀ r, f (r.map plain) = (f r).map (List.map plain)) : ∀ rows : List (List Ty), (rows.map (List.map plain)).filterMap f = (rows.filterMap f).map (List.map plain)
  | [] => rfl
  | r :: rows => by
    rw [List.map_cons, List.filterMap_cons, List.filterMap_cons, hf, fm_plain f hf rows]
    cases f r <;> rfl
theorem fmh_plain : ∀ rows : List (List Ty), (rows.map (List.map plain)).filterMap List.head? = (rows.filterMap List.head?).map plain
  | [] => rfl
  | r :: rows => by
    rw [List.map_cons, List.filterMap_cons, List.filterMap_cons, fmh_plain rows]
    cases r <;> rfl
theorem useF_plain (l : List Inf) : ∀ (f : Nat) (rows : List (List Ty)) (q : List Ty), useF l f (rows.map (List.map plain)) (q.map plain) = useF l f rows q := by
  intro f
  induction f with
  | zero =>
    intro rows q
    cases rows <;> rfl
  | succ f ih =>
    intro rows q
    cases rows with
    | nil => rfl
    | cons r rows =>
      cases q with
      | nil => rfl
      | cons p q =>
        have e : (r :: rows).map (List.map plain) = r.map plain :: rows.map (List.map plain) := rfl
        rw [e, List.map_cons, useF_cons, useF_cons, ← e, plain_wild, fmh_plain, heads_plain, fm_plain rest rest_plain]
        simp only [fm_plain (opened _) (opened_plain _)]
        have ia : ∀ h : Head, List.replicate h.many any ++ q.map plain = (List.replicate h.many any ++ q).map plain := fun h => by rw [List.map_append, replicate_plain]
        simp only [ia, ih]
        cases hw : p.wild with
        | true => rfl
        | false =>
          simp only [Bool.false_eq_true, if_false]
          rw [plain_head hw, plain_ks, ← List.map_append, ih]
theorem useful_plain (l : List Inf) (rows : List (List Ty)) (q : List Ty) : useful l (rows.map (List.map plain)) (q.map plain) = useful l rows q := by
  obtain ⟨a, ha⟩ : ∃ a, wtss rows + wts q + q.length = a := ⟨_, rfl⟩
  obtain ⟨b, hb⟩ : ∃ b, wtss (rows.map (List.map plain)) + wts (q.map plain) + (q.map plain).length = b := ⟨_, rfl⟩
  rw [← useF_eq l (f := a + b) (rows := rows) (q := q) (by omega), ← useF_eq l (f := a + b) (by omega)]
  exact useF_plain l _ rows q
theorem eachOf_plain (l : List Inf) : ∀ (ps : List Ty) (rows : List (List Ty)), eachOf l (rows.map (List.map plain)) (ps.map plain) = eachOf l rows ps
  | [], rows => rfl
  | p :: ps, rows => by
    have h1 := useful_plain l rows [p]
    have h2 := eachOf_plain l ps (rows ++ [[p]])
    rw [List.map_append] at h2
    rw [List.map_cons]
    unfold eachOf
    exact congr (congrArg _ h1) h2
mutual
theorem parts_plain : ∀ t : Ty, parts (plain t) = parts t
  | .node k nm n ks => by rw [plain]; unfold parts; rw [partss_plain ks]
theorem partss_plain : ∀ ts : List Ty, partss (plains ts) = partss ts
  | [] => by rw [plains]
  | t :: ts => by rw [plains]; unfold partss; rw [parts_plain t, partss_plain ts]
end
mutual
theorem named_plain (l : List Inf) : ∀ t : Ty, named l (plain t) = named l t
  | .node k nm n ks => by
    rw [plain]
    unfold named
    rw [nameds_plain l ks]
    by_cases h : k = 2
    · simp [h]
    · simp [h]
theorem nameds_plain (l : List Inf) : ∀ ts : List Ty, nameds l (plains ts) = nameds l ts
  | [] => by rw [plains]
  | t :: ts => by rw [plains]; unfold nameds; rw [named_plain l t, nameds_plain l ts]
end
theorem right_plain (l : List Inf) (p : Ty) : right l (plain p) = right l p := by
  cases hw : p.wild with
  | true =>
    have h1 : p.k = 1 ∨ p.k = 2 := by simpa [wild] using hw
    have h2 : (plain p).k = 1 ∨ (plain p).k = 2 := by have := plain_wild p; rw [hw] at this; simpa [wild] using this
    unfold right
    rw [if_pos h1, if_pos h2]
  | false =>
    obtain ⟨h1, h2, h3⟩ := plain_not (tame_not hw)
    have he : (plain p).ks.isEmpty = p.ks.isEmpty := by
      rw [plain_ks]
      cases p.ks <;> rfl
    unfold right
    rw [h1, h2, plain_len, he]
theorem sort_plain (l : List Inf) {p : Ty} (h : p.wild = false) : sort l (plain p) = sort l p := by
  obtain ⟨h1, h2, h3⟩ := plain_not (tame_not h)
  unfold sort
  rw [h1, h2, plain_len]
theorem filter_plain : ∀ ps : List Ty, (ps.map plain).filter (fun p => !p.wild) = (ps.filter fun p => !p.wild).map plain
  | [] => rfl
  | p :: ps => by
    rw [List.map_cons, List.filter_cons, List.filter_cons, plain_wild, filter_plain ps]
    cases p.wild <;> rfl
theorem sorted_plain (l : List Inf) (ps : List Ty) : sorted l (ps.map plain) = sorted l ps := by
  have hall : ∀ x ∈ ps.filter (fun p => !p.wild), x.wild = false := fun x hx => by simpa using (List.mem_filter.1 hx).2
  unfold sorted
  rw [filter_plain]
  cases hf : ps.filter (fun p => !p.wild) with
  | nil => rfl
  | cons p qs =>
    rw [hf] at hall
    show (qs.map plain).all (fun x => sort l x == sort l (plain p)) = qs.all fun x => sort l x == sort l p
    rw [sort_plain l (hall p List.mem_cons_self)]
    have hq : ∀ x ∈ qs, x.wild = false := fun x hx => hall x (List.mem_cons_of_mem _ hx)
    clear hf hall
    induction qs with
    | nil => rfl
    | cons x qs ih =>
      rw [List.map_cons, List.all_cons, List.all_cons, sort_plain l (hq x List.mem_cons_self), ih fun y hy => hq y (List.mem_cons_of_mem _ hy)]
theorem kidsAt_plain (h : Head) (k : Nat) : ∀ ps : List Ty, kidsAt h k (ps.map plain) = (kidsAt h k ps).map plain
  | [] => rfl
  | p :: ps => by
    have ih := kidsAt_plain h k ps
    unfold kidsAt at ih ⊢
    rw [List.map_cons, List.filterMap_cons, List.filterMap_cons, ih, plain_wild]
    cases hw : p.wild with
    | true => rfl
    | false =>
      simp only [Bool.false_eq_true, if_false]
      rw [plain_head hw, plain_ks, List.getElem?_map]
      by_cases hh : p.head = h
      · rw [if_pos hh, if_pos hh]
        cases p.ks[k]? <;> rfl
      · rw [if_neg hh, if_neg hh]
theorem fitF_plain (l : List Inf) : ∀ (f : Nat) (ps : List Ty), fitF l f (ps.map plain) = fitF l f ps
  | 0, ps => rfl
  | f + 1, ps => by
    unfold fitF
    rw [sorted_plain, heads_plain, List.all_map]
    have : (right l ∘ plain) = right l := funext fun p => right_plain l p
    rw [this]
    simp only [kidsAt_plain, fitF_plain l f]
theorem told_plain (l : List Inf) (ps : List Ty) (w : Bool) : told l (ps.map plain) w = told l ps w := by
  have h1 : partss (ps.map plain) = partss ps := by rw [← plains_map, partss_plain]
  have h2 : nameds l (ps.map plain) = nameds l ps := by rw [← plains_map, nameds_plain]
  have h3 : fit l (ps.map plain) = fit l ps := by unfold fit; rw [h1, fitF_plain]
  have h4 := eachOf_plain l ps []
  have h5 := useful_plain l (ps.map fun p => [p]) [any]
  have e1 : (ps.map fun p => [p]).map (List.map plain) = (ps.map plain).map fun p => [p] := by
    rw [List.map_map, List.map_map]; rfl
  have e2 : ([any] : List Ty).map plain = [any] := by rw [List.map_cons, plain_any]; rfl
  rw [e1, e2] at h5
  have h4 : eachOf l [] (ps.map plain) = eachOf l [] ps := h4
  unfold told
  rw [h1, h2, h3, h4, h5]
end Go.Proofs.Ytigaondgopahgaa
