/- cover: fit, what it leans on. -/
import Derived.Test.YtigaondgopahgaaUd
import Derived.Test.YtigaondgopahgaaTake
namespace Go.Proofs.Ytigaondgopahgaa
open Go.RowKit Ty
set_option linter.unusedVariables false
set_option linter.unusedSimpArgs false
theorem partss_len : ∀ ts : List Ty, ts.length ≤ partss ts
  | [] => Nat.le_refl _
  | t :: ts => by
    rw [partss, List.length_cons]
    have := partss_len ts
    have := parts_eq t
    omega
def tame (p : Ty) : Bool := !p.wild
theorem sorted_def (l : List Inf) (ps : List Ty) : sorted l ps = match ps.filter tame with | [] => true | p :: ps => ps.all fun x => sort l x == sort l p := rfl
theorem ft_snoc {ps : List Ty} {i : Nat} {t : Ty} (ht : ps[i]? = some t) : (ps.take (i + 1)).filter tame = (ps.take i).filter tame ++ (if t.wild then [] else [t]) := by
  rw [List.take_add_one, ht, List.filter_append]
  cases hw : t.wild <;> simp [tame, hw]
theorem sorted_no {l : List Inf} {ps : List Ty} {i : Nat} {t x : Ty} {xs : List Ty} (ht : ps[i]? = some t) (hw : t.wild = false) (h : (ps.take i).filter tame = x :: xs) (hs : ¬ sort l t = sort l x) : sorted l ps = false := by
  have e : ps.filter tame = (ps.take i).filter tame ++ (ps.drop i).filter tame := by rw [← List.filter_append, List.take_append_drop]
  rw [sorted_def, e, h]
  show List.all _ _ = false
  rw [List.all_eq_false]
  refine ⟨t, List.mem_append_right _ ?_, by simpa using hs⟩
  rw [List.mem_filter]
  refine ⟨?_, by simp [tame, hw]⟩
  rw [List.mem_iff_getElem?]
  exact ⟨0, by rw [List.getElem?_drop]; exact ht⟩
/-- How far the first loop of fit has come. -/
structure FiI (w0 wr : World) (l : List Inf) (ps : List Ty) (i : Nat) (fv : Value) (b off : Nat) : Prop where
  bel : Below w0.heap.size w0 wr
  ok : ∀ (r : Nat) (t : Ty), r < i → ps[r]? = some t → right l t = true
  fst : (fv = .pointer none ∧ (ps.take i).filter tame = []) ∨ ∃ (r : Nat) (x : Ty) (xs : List Ty), fv = .pointer (some ⟨b, off + r * 4, none⟩) ∧ ps[r]? = some x ∧ (ps.take i).filter tame = x :: xs ∧ ∀ y ∈ xs, sort l y = sort l x
theorem FiI.wild {w0 wr w' : World} {l : List Inf} {ps : List Ty} {i : Nat} {fv : Value} {b off : Nat} {t : Ty} (h : FiI w0 wr l ps i fv b off) (hb : Below wr.heap.size wr w') (ht : ps[i]? = some t) (hr : right l t = true) (hw : t.wild = true) : FiI w0 w' l ps (i + 1) fv b off :=
  ⟨h.bel.trans (hb.mono h.bel.size), fun r t' hr' ht' => by
    by_cases e : r = i
    · subst e; rw [ht] at ht'; cases ht'; exact hr
    · exact h.ok r t' (by omega) ht', by rw [ft_snoc ht, hw, if_pos rfl, List.append_nil]; exact h.fst⟩
theorem FiI.one {w0 wr w' : World} {l : List Inf} {ps : List Ty} {i : Nat} {b off : Nat} {t : Ty} (h : FiI w0 wr l ps i (.pointer none) b off) (hb : Below wr.heap.size wr w') (ht : ps[i]? = some t) (hr : right l t = true) (hw : t.wild = false) : FiI w0 w' l ps (i + 1) (.pointer (some ⟨b, off + i * 4, none⟩)) b off :=
  ⟨h.bel.trans (hb.mono h.bel.size), fun r t' hr' ht' => by
    by_cases e : r = i
    · subst e; rw [ht] at ht'; cases ht'; exact hr
    · exact h.ok r t' (by omega) ht', .inr ⟨i, t, [], rfl, ht, (by
      rcases h.fst with ⟨_, h2⟩ | ⟨r, x, xs, h2, _⟩
      · rw [ft_snoc ht, h2, hw]; rfl
      · cases h2), (fun y hy => by cases hy)⟩⟩
theorem FiI.more {w0 wr w' : World} {l : List Inf} {ps : List Ty} {i r : Nat} {b off : Nat} {t x : Ty} {xs : List Ty} {fv : Value} (h : FiI w0 wr l ps i fv b off) (hb : Below wr.heap.size wr w') (ht : ps[i]? = some t) (hr : right l t = true) (hw : t.wild = false) (h1 : fv = .pointer (some ⟨b, off + r * 4, none⟩)) (h2 : ps[r]? = some x) (h3 : (ps.take i).filter tame = x :: xs) (h4 : ∀ y ∈ xs, sort l y = sort l x) (hs : sort l t = sort l x) : FiI w0 w' l ps (i + 1) fv b off :=
  ⟨h.bel.trans (hb.mono h.bel.size), fun r t' hr' ht' => by
    by_cases e : r = i
    · subst e; rw [ht] at ht'; cases ht'; exact hr
    · exact h.ok r t' (by omega) ht', .inr ⟨r, x, xs ++ [t], h1, h2, by rw [ft_snoc ht, h3, hw]; rfl, fun y hy => by
      rcases List.mem_append.1 hy with hy | hy
      · exact h4 y hy
      · rw [List.mem_singleton.1 hy]; exact hs⟩⟩
theorem FiI.fin {w0 wr : World} {l : List Inf} {ps : List Ty} {i : Nat} {fv : Value} {b off : Nat} (h : FiI w0 wr l ps i fv b off) (hi : ps.length ≤ i) : ps.all (right l) = true ∧ sorted l ps = true := by
  refine ⟨List.all_eq_true.2 fun t ht => ?_, ?_⟩
  · obtain ⟨r, hr⟩ := List.getElem?_of_mem ht
    exact h.ok r t (by have := (List.getElem?_eq_some_iff.1 hr).1; omega) hr
  · have hf := h.fst
    rw [List.take_of_length_le hi] at hf
    rw [sorted_def]
    rcases hf with ⟨_, h2⟩ | ⟨r, x, xs, _, _, h3, h4⟩
    · rw [h2]
    · rw [h3]
      show List.all _ _ = true
      rw [List.all_eq_true]
      intro y hy
      simpa using h4 y hy
/-- fit, of so many. -/
def FitOk (l : List Inf) (b1 b2 en m : Nat) : Prop := ∀ (ps : List Ty) (A : Option Addr) (n c : Nat) (w : World), partss ps < m → PAt Everywhere w A n c ps → Ask Everywhere w b1 b2 en l →
  Calls Try.prog 22 #[.agg #[.map (some b1), .map (some b2)], .slice A n c] w fun e w' => e = .returned (.bool (fit l ps)) ∧ Below w.heap.size w w'
theorem fit_right {l : List Inf} {ps : List Ty} {t : Ty} (h : t ∈ ps) (hr : right l t = false) : fit l ps = false := by
  rw [fit_eq]
  have : ps.all (right l) = false := List.all_eq_false.2 ⟨t, h, by rw [hr]; simp⟩
  rw [this]; rfl
theorem fit_sorted {l : List Inf} {ps : List Ty} (h : sorted l ps = false) : fit l ps = false := by
  rw [fit_eq, h, Bool.and_false]; rfl
theorem fit_kids {l : List Inf} {ps : List Ty} {h : Head} {k : Nat} (hh : h ∈ heads ps) (hk : k < h.many) (hf : fit l (kidsAt h k ps) = false) : fit l ps = false := by
  rw [fit_eq]
  have : ((heads ps).all fun h => (List.range h.many).all fun k => fit l (kidsAt h k ps)) = false := by
    rw [List.all_eq_false]
    refine ⟨h, hh, ?_⟩
    rw [Bool.not_eq_true, List.all_eq_false]
    exact ⟨k, List.mem_range.2 hk, by rw [hf]; simp⟩
  rw [this, Bool.and_false]
theorem fit_yes {l : List Inf} {ps : List Ty} (h1 : ps.all (right l) = true) (h2 : sorted l ps = true) (h3 : ∀ h ∈ heads ps, ∀ k, k < h.many → fit l (kidsAt h k ps) = true) : fit l ps = true := by
  rw [fit_eq, h1, h2, Bool.true_and, Bool.true_and, List.all_eq_true]
  intro h hh
  rw [List.all_eq_true]
  intro k hk
  exact h3 h hh k (List.mem_range.1 hk)
/-- The kids at a place, as they are collected. -/
structure KdI (w wr : World) (h : Head) (k : Nat) (ps : List Ty) (i : Nat) (lv : Value) (es : List Te) : Prop where
  bel : Below w.heap.size w wr
  own : PtO (fun b => b < w.heap.size) w.heap.size wr lv es
  is : es.map Te.t = kidsAt h k (ps.take i)
theorem kidsAt_snoc {h : Head} {k i : Nat} {ps : List Ty} {t : Ty} (ht : ps[i]? = some t) : kidsAt h k (ps.take (i + 1)) = kidsAt h k (ps.take i) ++ (if t.wild then none else if t.head = h then t.ks[k]? else none).toList := fm_snoc _ ps i t ht
theorem KdI.skip {w wr w' : World} {h : Head} {k : Nat} {ps : List Ty} {i : Nat} {lv : Value} {es : List Te} {t : Ty} (hI : KdI w wr h k ps i lv es) (hb : Below wr.heap.size wr w') (ht : ps[i]? = some t) (hn : t.wild = true ∨ (t.wild = false ∧ ¬ t.head = h)) : KdI w w' h k ps (i + 1) lv es :=
  ⟨hI.bel.trans (hb.mono hI.bel.size), hI.own.below hb, by
    rw [kidsAt_snoc ht, hI.is]
    rcases hn with hn | ⟨hn, h2⟩
    · rw [hn]; simp
    · rw [hn, if_neg h2]; simp⟩
theorem KdI.next {w wr w5 w6 : World} {h : Head} {k : Nat} {ps : List Ty} {i : Nat} {lv : Value} {es : List Te} {t x : Ty} {A' : Option Addr} {c' tl : Nat} (hI : KdI w wr h k ps i lv es) (ht : ps[i]? = some t) (hw : t.wild = false) (hh : t.head = h) (hx : t.ks[k]? = some x) (hn : ps.length ≤ 100000)
    (hb5 : Below wr.heap.size wr w5) (hb : Below w5.heap.size w5 w6) (hB : Blk w6 w5.heap.size 40 #[.int .u8 (x.k : Int), .string (str x.nm), .int .i64 x.n, .slice A' tl c']) (htl : x.ks.length = tl) (hA : Ty.At Everywhere w A' x.ks) (hlc : x.ks.length ≤ c') (hcm : c' ≤ maxLen) (hok : x.ok) :
    ∃ A3 c3 w7, (Builtin.append_ #[22, 22] 22 #[lv, .slice (some ⟨w5.heap.size, 0, none⟩) 1 1]).run Try.prog w6 = .ok (.slice A3 (es.length + 1) c3) w7 ∧ KdI w w7 h k ps (i + 1) (.slice A3 (es.length + 1) c3) (es ++ [⟨x, A', c'⟩]) := by
  have hb56 : Below wr.heap.size wr w6 := hb5.trans (hb.mono hb5.size)
  have hO := hI.own.below hb56
  have hsz := hb56.size
  have hsz2 := hI.bel.size
  have hes : es.length ≤ 100000 := by
    have h1 := congrArg List.length hI.is
    rw [List.length_map] at h1
    have h2 := fm_len (fun p : Ty => if p.wild then none else if p.head = h then p.ks[k]? else none) (ps.take i)
    rw [List.length_take] at h2
    have h3 : (kidsAt h k (ps.take i)).length = ((ps.take i).filterMap fun p : Ty => if p.wild then none else if p.head = h then p.ks[k]? else none).length := rfl
    omega
  obtain ⟨v', w7, hrun, hO2, hgr⟩ := hO.app (by omega) [⟨x, A', c'⟩] ⟨w5.heap.size, 0, none⟩ 1 1 rfl (fun j u hj => by
    have e : flatE [⟨x, A', c'⟩] = [.int .u8 (x.k : Int), .string (str x.nm), .int .i64 x.n, .slice A' tl c'] := by rw [← htl]; rfl
    rw [e] at hj
    rw [add_off, Nat.zero_add, hB.cell j]
    have hjl : j < 4 := (List.getElem?_eq_some_iff.1 hj).1
    match j, hjl with
    | 0, _ => exact hj
    | 1, _ => exact hj
    | 2, _ => exact hj
    | 3, _ => exact hj) (fun e he => by
    rw [List.mem_singleton.1 he]
    exact ⟨((hA.bnd.off (Off.of_new (hI.bel.trans (hb56.mono hI.bel.size)) (fun _ => False)) (fun _ _ h => h)).mono fun k hk => ⟨hk.2, fun e2 => by have := (hI.own.own.lt k e2).1; have := hk.2; omega⟩), hok, hlc, hcm⟩) (by omega)
  obtain ⟨A3, c3, rfl, _⟩ := hO2.shape
  rw [List.length_append, List.length_singleton] at hrun hO2
  refine ⟨A3, c3, w7, hrun, ⟨(hI.bel.trans (hb56.mono hI.bel.size)).trans (hO.bel hgr (Nat.le_refl _) (by omega)), hO2, ?_⟩⟩
  rw [List.map_append, hI.is, kidsAt_snoc ht, hw, hh, hx]
  simp
end Go.Proofs.Ytigaondgopahgaa
