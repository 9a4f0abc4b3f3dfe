/- types: what Unify comes to, apart from memory. -/
import Derived.Test.YtndhojnfjlkojaaO
namespace Go.Proofs.Ytndhojnfjlkojaa
open Ty
set_option linter.unusedVariables false
set_option linter.unusedSimpArgs false
def look : List (Int × Ty) → Int → Option Ty
  | [], _ => none
  | p :: l, x => if p.1 = x then some p.2 else look l x
theorem look_app (n : Int) (t : Ty) : ∀ (l : List (Int × Ty)) (x : Int), look l n = none → look (l ++ [(n, t)]) x = if n = x then some t else look l x
  | [], x, _ => rfl
  | p :: l, x, h => by
    rw [look] at h
    by_cases e : p.1 = n
    · rw [if_pos e] at h; cases h
    · rw [if_neg e] at h
      rw [List.cons_append, look, look]
      by_cases e2 : p.1 = x
      · rw [if_pos e2, if_pos e2, if_neg (fun h => e (e2.trans h.symm))]
      · rw [if_neg e2, if_neg e2, look_app n t l x h]
/-- How many unknowns are free. -/
def nfree (N : Nat) (σ : Int → Option Ty) : Nat := ((List.range N).filter fun (x : Nat) => (σ (x : Int)).isNone).length
theorem filter_less {p q : Nat → Bool} : ∀ {l : List Nat}, (∀ x, q x = true → p x = true) → (l.filter q).length ≤ (l.filter p).length
  | [], _ => Nat.le_refl _
  | y :: l, h => by
    have ih := filter_less (l := l) h
    rw [List.filter_cons, List.filter_cons]
    by_cases h1 : q y = true
    · rw [if_pos h1, if_pos (h y h1), List.length_cons, List.length_cons]; omega
    · rw [if_neg h1]
      split
      · rw [List.length_cons]; omega
      · exact ih
theorem filter_lt {p q : Nat → Bool} : ∀ {l : List Nat} {x : Nat}, (∀ x, q x = true → p x = true) → x ∈ l → p x = true → q x = false → (l.filter q).length < (l.filter p).length
  | [], _, _, h, _, _ => by cases h
  | y :: l, x, h, hx, h1, h2 => by
    rw [List.filter_cons, List.filter_cons]
    rcases List.mem_cons.1 hx with rfl | hx
    · rw [if_pos h1, if_neg (by rw [h2]; decide), List.length_cons]
      have := filter_less (l := l) h
      omega
    · have ih := filter_lt h hx h1 h2
      by_cases h3 : q y = true
      · rw [if_pos h3, if_pos (h y h3), List.length_cons, List.length_cons]; omega
      · rw [if_neg h3]
        split
        · rw [List.length_cons]; omega
        · exact ih
theorem nfree_bind {N : Nat} {l : List (Int × Ty)} {n : Int} (t : Ty) (h : look l n = none) (h0 : 0 ≤ n) (h1 : n < (N : Int)) : nfree N (look (l ++ [(n, t)])) < nfree N (look l) := by
  refine filter_lt (x := n.toNat) (fun x hx => ?_) (List.mem_range.2 (by omega)) ?_ ?_
  · rw [look_app n t l _ h] at hx
    split at hx
    · cases hx
    · exact hx
  · rw [show ((n.toNat : Nat) : Int) = n by omega, h]; rfl
  · rw [show ((n.toNat : Nat) : Int) = n by omega, look_app n t l _ h, if_pos rfl]; rfl
def great (t : Ty) : Prop := 1000 < t.parts ∨ 100 < t.depth
instance (t : Ty) : Decidable (great t) := by unfold great; infer_instance
/-- What unify comes to. -/
structure Uni (N : Nat) (a b s t : Ty) (l : List (Int × Ty)) (S : Int → Ty) (e : Nat) (l' : List (Int × Ty)) (S' : Int → Ty) : Prop where
  slv : Slv N (look l') S'
  ext : ∀ x, S' x = (S x).sub S'
  grow : ∃ m, l' = l ++ m
  same : e = 0 → s.sub S' = t.sub S'
  stay : s.sub S = t.sub S → e = 0 ∧ l' = l ∧ S' = S
  best : ∀ θ : Int → Ty, (∀ x, θ x = (S x).sub θ) → s.sub θ = t.sub θ → e ≠ 13 ∧ ∀ x, θ x = (S' x).sub θ
  code : e = 0 ∨ e = 13 ∨ e = 16
  deep : e = 16 → great (a.sub S') ∨ great (b.sub S')
  less : (l' = l ∧ S' = S) ∨ nfree N (look l') < nfree N (look l)
  small : e = 0 → (¬ great (a.sub S) ∧ ¬ great (b.sub S)) → ¬ great (a.sub S') ∧ ¬ great (b.sub S')
theorem sub_via {S T : Int → Ty} (h : ∀ x, T x = (S x).sub T) (t : Ty) : t.sub T = (t.sub S).sub T := by
  rw [sub_sub]
  exact sub_congr _ _ t fun m _ => h m
namespace Uni
variable {N : Nat} {a b s t : Ty} {l l' : List (Int × Ty)} {S S' : Int → Ty} {e : Nat}
theorem symm (h : Uni N a b s t l S e l' S') : Uni N a b t s l S e l' S' :=
  ⟨h.slv, h.ext, h.grow, fun e => (h.same e).symm, fun e => h.stay e.symm, fun θ h1 h2 => h.best θ h1 h2.symm, h.code, h.deep, h.less, h.small⟩
theorem heads {s2 t2 : Ty} (h : Uni N a b s t l S e l' S') (hs : s2.sub S = s.sub S) (ht : t2.sub S = t.sub S) : Uni N a b s2 t2 l S e l' S' :=
  ⟨h.slv, h.ext, h.grow, fun e => by rw [sub_via h.ext, hs, ← sub_via h.ext, sub_via h.ext (t := t2), ht, ← sub_via h.ext]; exact h.same e,
    fun e => h.stay (by rw [← hs, ← ht]; exact e), fun θ h1 h2 => h.best θ h1 (by rw [sub_via h1, ← hs, ← sub_via h1, sub_via h1 (t := t), ← ht, ← sub_via h1]; exact h2), h.code, h.deep, h.less, h.small⟩
theorem refl (hS : Slv N (look l) S) (h : s.sub S = t.sub S) : Uni N a b s t l S 0 l S :=
  ⟨hS, fun x => (hS.idem1 x).symm, ⟨[], by simp⟩, fun _ => h, fun _ => ⟨rfl, rfl, rfl⟩, fun θ h1 _ => ⟨by decide, h1⟩, .inl rfl, (fun h => by cases h), .inl ⟨rfl, rfl⟩, fun _ h => h⟩
/-- No types make them the same. -/
theorem never (hS : Slv N (look l) S) (h : ∀ θ : Int → Ty, (∀ x, θ x = (S x).sub θ) → s.sub θ ≠ t.sub θ) : Uni N a b s t l S 13 l S :=
  ⟨hS, fun x => (hS.idem1 x).symm, ⟨[], by simp⟩, (fun h => by cases h), fun h2 => absurd h2 (h S fun x => (hS.idem1 x).symm), fun θ h1 h2 => absurd h2 (h θ h1), .inr (.inl rfl), (fun h => by cases h), .inl ⟨rfl, rfl⟩, fun h => by cases h⟩
end Uni
section
variable {N : Nat} {a b t : Ty} {l : List (Int × Ty)} {S : Int → Ty} {n : Int}
theorem bind_in (hS : Slv N (look l) S) (hn : look l n = none) (hg : good N t) (hv : t.k = 1 → t.n < n ∧ look l t.n = none) (hin : n ∈ (t.sub S).nums) : Uni N a b (tvar n) t l S 13 l S := by
  refine .never hS fun θ h1 h2 => ?_
  by_cases e : t.k = 1
  · obtain ⟨e1, _⟩ := good_var hg e
    obtain ⟨h3, h4⟩ := hv e
    rw [e1, sub_tvar, hS.free _ h4, nums_tvar, List.mem_singleton] at hin
    omega
  · rw [sub_tvar, sub_via h1 t] at h2
    have hk : (t.sub S).k ≠ 1 := by
      obtain ⟨k, nm, m, ks⟩ := t
      rw [sub_node S (show k ≠ 1 from e)]
      exact e
    have := (parts_num θ (t.sub S) n hin).2 hk
    rw [h2] at this
    omega
def step1 (n : Int) (r : Ty) (y : Int) : Ty := if y = n then r else tvar y
theorem step1_id {n : Int} {r t : Ty} (h : t.right = true) (hn : n ∉ t.nums) : t.sub (step1 n r) = t := by
  refine sub_var_self h fun m hm => ?_
  unfold step1
  exact if_neg fun (e : m = n) => hn (e ▸ hm)
theorem bind_slv (hS : Slv N (look l) S) (hn : look l n = none) (h0 : 0 ≤ n) (h1 : n < (N : Int)) (hg : good N t) (hv : t.k = 1 → t.n < n ∧ look l t.n = none) (hin : n ∉ (t.sub S).nums) :
    Slv N (look (l ++ [(n, t)])) (fun x => (S x).sub (step1 n (t.sub S))) := by
  have hr := hS.good_sub hg
  have hl := look_app n t l
  have hsub : ∀ u : Ty, u.sub (fun x => (S x).sub (step1 n (t.sub S))) = (u.sub S).sub (step1 n (t.sub S)) := fun u => (sub_sub _ _ u).symm
  refine ⟨fun x u hx => ?_, fun x hx => ?_, fun x hx0 hx1 => ?_⟩
  · rw [hl x hn] at hx
    by_cases e : n = x
    · subst e
      rw [if_pos rfl] at hx
      cases hx
      refine ⟨h0, h1, hg, ?_, fun e => (hv e).1⟩
      rw [hsub, step1_id hr.1.1 hin]
      show (S n).sub _ = _
      rw [hS.free n hn, sub_tvar]
      unfold step1
      rw [if_pos rfl]
    · rw [if_neg e] at hx
      obtain ⟨k0, k1, k2, k3, k4⟩ := hS.dom x u hx
      refine ⟨k0, k1, k2, ?_, k4⟩
      rw [hsub, ← k3]
  · rw [hl x hn] at hx
    by_cases e : n = x
    · rw [if_pos e] at hx; cases hx
    · rw [if_neg e] at hx
      show (S x).sub _ = _
      rw [hS.free x hx, sub_tvar]
      unfold step1
      rw [if_neg (fun h => e h.symm)]
  · obtain ⟨k1, k2⟩ := hS.res x hx0 hx1
    have hst : ∀ m ∈ (S x).nums, (step1 n (t.sub S) m).right = true ∧ ∀ y ∈ (step1 n (t.sub S) m).nums, y < (N : Int) ∧ look (l ++ [(n, t)]) y = none := fun m hm => by
      unfold step1
      by_cases e : m = n
      · rw [if_pos e]
        refine ⟨hr.1.1, fun y hy => ⟨hr.1.2 y hy, ?_⟩⟩
        rw [hl y hn, if_neg (fun (e : n = y) => hin (by rw [e]; exact hy))]
        exact hr.2 y hy
      · rw [if_neg e]
        have hm0 := nums_nonneg _ k1.1 m hm
        refine ⟨(good_tvar (N := N) hm0 (k1.2 m hm)).1, fun y hy => ?_⟩
        rw [nums_tvar, List.mem_singleton] at hy
        subst hy
        exact ⟨k1.2 _ hm, by rw [hl _ hn, if_neg (fun h => e h.symm)]; exact k2 _ hm⟩
    refine ⟨⟨right_sub _ _ k1.1 fun m hm => (hst m hm).1, fun y hy => ?_⟩, fun y hy => ?_⟩
    · obtain ⟨m, hm, h3⟩ := (nums_sub _ _ y).1 hy
      exact ((hst m hm).2 y h3).1
    · obtain ⟨m, hm, h3⟩ := (nums_sub _ _ y).1 hy
      exact ((hst m hm).2 y h3).2
theorem bind_out (hS : Slv N (look l) S) (hn : look l n = none) (h0 : 0 ≤ n) (h1 : n < (N : Int)) (hg : good N t) (hv : t.k = 1 → t.n < n ∧ look l t.n = none) (hin : n ∉ (t.sub S).nums) (e : Nat)
    (he : (e = 16 ∧ (great (a.sub (fun x => (S x).sub (step1 n (t.sub S)))) ∨ great (b.sub (fun x => (S x).sub (step1 n (t.sub S)))))) ∨ (e = 0 ∧ ¬ great (a.sub (fun x => (S x).sub (step1 n (t.sub S)))) ∧ ¬ great (b.sub (fun x => (S x).sub (step1 n (t.sub S)))))) :
    Uni N a b (tvar n) t l S e (l ++ [(n, t)]) (fun x => (S x).sub (step1 n (t.sub S))) := by
  have hr := hS.good_sub hg
  have hslv := bind_slv hS hn h0 h1 hg hv hin
  have hsub : ∀ u : Ty, u.sub (fun x => (S x).sub (step1 n (t.sub S))) = (u.sub S).sub (step1 n (t.sub S)) := fun u => (sub_sub _ _ u).symm
  refine ⟨hslv, fun x => ?_, ⟨_, rfl⟩, fun _ => ?_, fun h => ?_, fun θ k1 k2 => ⟨by rcases he with h | h <;> omega, fun x => ?_⟩, by rcases he with h | h <;> omega, fun h => ?_, .inr (nfree_bind t hn h0 h1), fun h _ => ?_⟩
  · rw [hsub, hS.idem1]
  · rw [hsub, hsub, sub_tvar, hS.free n hn, sub_tvar, step1_id hr.1.1 hin]
    unfold step1
    rw [if_pos rfl]
  · rw [sub_tvar, hS.free n hn] at h
    exact absurd (by rw [← h, nums_tvar]; exact List.mem_singleton.2 rfl) hin
  · rw [sub_sub]
    refine (k1 x).trans (sub_congr _ _ _ fun m _ => ?_)
    unfold step1
    by_cases e : m = n
    · rw [if_pos e, e, ← sub_via k1]
      rw [sub_tvar] at k2
      exact k2
    · rw [if_neg e, sub_tvar]
  · rcases he with h2 | h2
    · exact h2.2
    · omega
  · rcases he with h2 | h2
    · omega
    · exact h2.2
end
/-- The first kids are done. -/
structure UniK (N : Nat) (a b : Ty) (ks1 ks2 : List Ty) (l : List (Int × Ty)) (S : Int → Ty) (i : Nat) (l' : List (Int × Ty)) (S' : Int → Ty) : Prop where
  slv : Slv N (look l') S'
  ext : ∀ x, S' x = (S x).sub S'
  grow : ∃ m, l' = l ++ m
  same : ∀ (r : Nat) (x y : Ty), r < i → ks1[r]? = some x → ks2[r]? = some y → x.sub S' = y.sub S'
  stay : (∀ (r : Nat) (x y : Ty), ks1[r]? = some x → ks2[r]? = some y → x.sub S = y.sub S) → l' = l ∧ S' = S
  best : ∀ θ : Int → Ty, (∀ x, θ x = (S x).sub θ) → (∀ (r : Nat) (x y : Ty), ks1[r]? = some x → ks2[r]? = some y → x.sub θ = y.sub θ) → ∀ x, θ x = (S' x).sub θ
  less : (l' = l ∧ S' = S) ∨ nfree N (look l') < nfree N (look l)
  small : (¬ great (a.sub S) ∧ ¬ great (b.sub S)) → ¬ great (a.sub S') ∧ ¬ great (b.sub S')
namespace UniK
variable {N : Nat} {a b x y : Ty} {ks1 ks2 : List Ty} {l l1 l2 : List (Int × Ty)} {S S1 S2 : Int → Ty} {i e : Nat}
theorem start (hS : Slv N (look l) S) : UniK N a b ks1 ks2 l S 0 l S :=
  ⟨hS, fun x => (hS.idem1 x).symm, ⟨[], by simp⟩, fun r x y h => by omega, fun _ => ⟨rfl, rfl⟩, fun θ h _ => h, .inl ⟨rfl, rfl⟩, fun h => h⟩
theorem ext2 (h : UniK N a b ks1 ks2 l S i l1 S1) (hu : Uni N a b x y l1 S1 e l2 S2) : ∀ z, S2 z = (S z).sub S2 := fun z => by
  rw [sub_via hu.ext (S z), ← h.ext z]
  exact hu.ext z
theorem step (h : UniK N a b ks1 ks2 l S i l1 S1) (hx : ks1[i]? = some x) (hy : ks2[i]? = some y) (hu : Uni N a b x y l1 S1 0 l2 S2) : UniK N a b ks1 ks2 l S (i + 1) l2 S2 := by
  refine ⟨hu.slv, h.ext2 hu, ?_, fun r u v hr hu1 hv1 => ?_, fun hs => ?_, fun θ h1 h2 => ?_, ?_, fun h1 => hu.small rfl (h.small h1)⟩
  · obtain ⟨m, rfl⟩ := h.grow
    obtain ⟨m2, rfl⟩ := hu.grow
    exact ⟨m ++ m2, List.append_assoc _ _ _⟩
  · by_cases e : r = i
    · subst e
      rw [hx] at hu1
      rw [hy] at hv1
      cases hu1
      cases hv1
      exact hu.same rfl
    · rw [sub_via hu.ext u, sub_via hu.ext v, h.same r u v (by omega) hu1 hv1]
  · obtain ⟨rfl, rfl⟩ := h.stay hs
    obtain ⟨_, h1, h2⟩ := hu.stay (hs i x y hx hy)
    exact ⟨h1, h2⟩
  · exact (hu.best θ (h.best θ h1 h2) (h2 i x y hx hy)).2
  · rcases h.less with ⟨rfl, rfl⟩ | h1
    · exact hu.less
    · rcases hu.less with ⟨rfl, rfl⟩ | h2
      · exact .inr h1
      · exact .inr (by omega)
theorem kids_eq {k : Nat} {nm : List UInt8} {n : Int} (hk : k ≠ 1) {T : Int → Ty} (h : (Ty.node k nm n ks1).sub T = (Ty.node k nm n ks2).sub T) : ∀ (r : Nat) (x y : Ty), ks1[r]? = some x → ks2[r]? = some y → x.sub T = y.sub T := fun r x y hx hy => by
  rw [sub_node T hk, sub_node T hk] at h
  injection h with _ _ _ h
  have := congrArg (fun (l : List Ty) => l[r]?) h
  simpa [List.getElem?_map, hx, hy] using this
theorem fail {k : Nat} {nm : List UInt8} {n : Int} (hk : k ≠ 1) (h : UniK N a b ks1 ks2 l S i l1 S1) (hx : ks1[i]? = some x) (hy : ks2[i]? = some y) (hu : Uni N a b x y l1 S1 e l2 S2) (he : e ≠ 0) : Uni N a b (.node k nm n ks1) (.node k nm n ks2) l S e l2 S2 := by
  refine ⟨hu.slv, h.ext2 hu, ?_, fun h => absurd h he, fun hs => ?_, fun θ h1 h2 => ?_, hu.code, hu.deep, ?_, fun h => absurd h he⟩
  · obtain ⟨m, rfl⟩ := h.grow
    obtain ⟨m2, rfl⟩ := hu.grow
    exact ⟨m ++ m2, List.append_assoc _ _ _⟩
  · obtain ⟨rfl, rfl⟩ := h.stay (kids_eq hk hs)
    exact absurd (hu.stay (kids_eq hk hs i x y hx hy)).1 he
  · exact hu.best θ (h.best θ h1 (kids_eq hk h2)) (kids_eq hk h2 i x y hx hy)
  · rcases h.less with ⟨rfl, rfl⟩ | h1
    · exact hu.less
    · rcases hu.less with ⟨rfl, rfl⟩ | h2
      · exact .inr h1
      · exact .inr (by omega)
theorem done {k : Nat} {nm : List UInt8} {n : Int} (hk : k ≠ 1) (hl1 : ks1.length = i) (hl2 : ks2.length = i) (h : UniK N a b ks1 ks2 l S i l1 S1) : Uni N a b (.node k nm n ks1) (.node k nm n ks2) l S 0 l1 S1 := by
  refine ⟨h.slv, h.ext, h.grow, fun _ => ?_, fun hs => ⟨rfl, h.stay (kids_eq hk hs)⟩, fun θ h1 h2 => ⟨by decide, h.best θ h1 (kids_eq hk h2)⟩, .inl rfl, (fun h => by cases h), h.less, fun _ => h.small⟩
  rw [sub_node _ hk, sub_node _ hk]
  congr 1
  refine List.ext_getElem? fun r => ?_
  rw [List.getElem?_map, List.getElem?_map]
  rcases Nat.lt_or_ge r i with hr | hr
  · have h1 : ks1[r]? = some (ks1[r]'(by omega)) := List.getElem?_eq_getElem _
    have h2 : ks2[r]? = some (ks2[r]'(by omega)) := List.getElem?_eq_getElem _
    rw [h1, h2, Option.map_some, Option.map_some, h.same r _ _ hr h1 h2]
  · rw [List.getElem?_eq_none (by omega), List.getElem?_eq_none (by omega)]
end UniK
theorem uni_apart {N : Nat} {a b : Ty} {l : List (Int × Ty)} {S : Int → Ty} (hS : Slv N (look l) S) {k k' : Nat} {nm nm' : List UInt8} {n n' : Int} {ks ks' : List Ty} (hk : k ≠ 1) (hk' : k' ≠ 1) (h : k ≠ k' ∨ nm ≠ nm' ∨ ks.length ≠ ks'.length) : Uni N a b (.node k nm n ks) (.node k' nm' n' ks') l S 13 l S := by
  refine .never hS fun θ _ h2 => ?_
  rw [sub_node _ hk, sub_node _ hk'] at h2
  injection h2 with h3 h4 h5 h6
  rcases h with h | h | h
  · exact h h3
  · exact h h4
  · have := congrArg List.length h6
    rw [List.length_map, List.length_map] at this
    exact h this
/-- What Unify comes to. -/
structure UniT (N : Nat) (s t : Ty) (l : List (Int × Ty)) (S : Int → Ty) (e : Nat) (l' : List (Int × Ty)) (S' : Int → Ty) : Prop where
  arg : ¬ (good N s ∧ good N t) → e = 1 ∧ l' = l ∧ S' = S
  deep : good N s → good N t → (great (s.sub S) ∨ great (t.sub S)) → e = 16 ∧ l' = l ∧ S' = S
  main : good N s → good N t → ¬ great (s.sub S) → ¬ great (t.sub S) → ∃ l2 S2, Uni N (s.sub S) (t.sub S) (s.sub S) (t.sub S) l S e l2 S2 ∧ (e = 0 → l' = l2 ∧ S' = S2) ∧ (e ≠ 0 → l' = l ∧ S' = S)
end Go.Proofs.Ytndhojnfjlkojaa
