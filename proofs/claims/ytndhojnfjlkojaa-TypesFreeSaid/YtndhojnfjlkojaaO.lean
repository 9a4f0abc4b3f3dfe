/- types: what is put in the place of unknowns, apart from memory. -/
import Derived.Test.YtndhojnfjlkojaaK
namespace Go.Proofs.Ytndhojnfjlkojaa
set_option linter.unusedVariables false
set_option linter.unusedSimpArgs false
mutual
def Ty.sub (S : Int → Ty) : Ty → Ty
  | .node k nm n ks => if k = 1 then S n else .node k nm n (Ty.subs S ks)
def Ty.subs (S : Int → Ty) : List Ty → List Ty
  | [] => []
  | t :: ts => Ty.sub S t :: Ty.subs S ts
end
def tvar (n : Int) : Ty := .node 1 [] n []
namespace Ty
theorem subs_map (S : Int → Ty) : ∀ ts, subs S ts = ts.map (sub S)
  | [] => by simp [subs]
  | t :: ts => by rw [subs, subs_map S ts, List.map_cons]
theorem sub_tvar (S : Int → Ty) (n : Int) : sub S (tvar n) = S n := by unfold tvar; rw [sub, if_pos rfl]
theorem sub_node (S : Int → Ty) {k : Nat} (h : k ≠ 1) (nm : List UInt8) (n : Int) (ks : List Ty) : sub S (.node k nm n ks) = .node k nm n (ks.map (sub S)) := by rw [sub, if_neg h, subs_map]
theorem nums_tvar (n : Int) : (tvar n).nums = [n] := by unfold tvar; rw [nums, if_pos rfl]
theorem mem_numss {ts : List Ty} {m : Int} : m ∈ numss ts ↔ ∃ t ∈ ts, m ∈ t.nums := by
  induction ts with
  | nil => simp [numss]
  | cons t ts ih => rw [numss, List.mem_append, ih]; simp
theorem sub_congr (S S' : Int → Ty) : ∀ t : Ty, (∀ m ∈ t.nums, S m = S' m) → sub S t = sub S' t := ind fun k nm n ks ih h => by
  by_cases e : k = 1
  · subst e; rw [sub, sub, if_pos rfl, if_pos rfl]; exact h n (by rw [nums, if_pos rfl]; exact List.mem_singleton.2 rfl)
  · rw [sub_node _ e, sub_node _ e]
    congr 1
    exact List.map_congr_left fun t ht => ih t ht fun m hm => h m (by rw [nums, if_neg e]; exact mem_numss.2 ⟨t, ht, hm⟩)
theorem sub_sub (T S : Int → Ty) : ∀ t : Ty, sub T (sub S t) = sub (fun x => sub T (S x)) t := ind fun k nm n ks ih => by
  by_cases e : k = 1
  · subst e; rw [sub, sub, if_pos rfl, if_pos rfl]
  · rw [sub_node _ e, sub_node _ e, sub_node _ e, List.map_map]
    congr 1
    exact List.map_congr_left fun t ht => ih t ht
/-- A type of a book of N unknowns. -/
def good (N : Nat) (t : Ty) : Prop := t.right = true ∧ ∀ m ∈ t.nums, m < (N : Int)
theorem right_var {nm : List UInt8} {n : Int} {ks : List Ty} (h : right (.node 1 nm n ks) = true) : 0 ≤ n ∧ nm = [] ∧ ks = [] := by
  rw [right_eq, if_pos rfl] at h
  simp [List.isEmpty_iff] at h
  exact ⟨h.1.1, h.1.2, h.2⟩
theorem right_kids {k : Nat} {nm : List UInt8} {n : Int} {ks : List Ty} (h : right (.node k nm n ks) = true) (e : k ≠ 1) : (∀ t ∈ ks, t.right = true) ∧ n = 0 := by
  rw [right_eq, if_neg e] at h
  split at h
  · simp at h; exact ⟨h.2, h.1.2⟩
  · split at h
    · simp at h; exact ⟨h.2, h.1.1.2⟩
    · split at h
      · simp at h; exact ⟨h.2, h.1.1.2⟩
      · cases h
theorem good_var {N : Nat} {t : Ty} (h : good N t) (e : t.k = 1) : t = tvar t.n ∧ 0 ≤ t.n ∧ t.n < (N : Int) := by
  obtain ⟨k, nm, n, ks⟩ := t
  obtain rfl : k = 1 := e
  obtain ⟨h0, rfl, rfl⟩ := right_var h.1
  exact ⟨rfl, h0, h.2 n (by rw [nums, if_pos rfl]; exact List.mem_singleton.2 rfl)⟩
theorem good_tvar {N : Nat} {n : Int} (h0 : 0 ≤ n) (h1 : n < (N : Int)) : good N (tvar n) :=
  ⟨by unfold tvar; rw [right_eq, if_pos rfl]; simpa using h0, fun m hm => by rw [nums_tvar] at hm; rw [List.mem_singleton.1 hm]; exact h1⟩
theorem good_kid {N : Nat} {k : Nat} {nm : List UInt8} {n : Int} {ks : List Ty} (h : good N (.node k nm n ks)) (e : k ≠ 1) {t : Ty} (ht : t ∈ ks) : good N t :=
  ⟨(right_kids h.1 e).1 t ht, fun m hm => h.2 m (by rw [nums, if_neg e]; exact mem_numss.2 ⟨t, ht, hm⟩)⟩
theorem nums_nonneg : ∀ t : Ty, t.right = true → ∀ m ∈ t.nums, 0 ≤ m := ind fun k nm n ks ih h m hm => by
  by_cases e : k = 1
  · subst e
    rw [nums, if_pos rfl] at hm
    rw [List.mem_singleton.1 hm]
    exact (right_var h).1
  · rw [nums, if_neg e] at hm
    obtain ⟨t, ht, h2⟩ := mem_numss.1 hm
    exact ih t ht ((right_kids h e).1 t ht) m h2
theorem sub_id : ∀ t : Ty, t.right = true → sub tvar t = t := ind fun k nm n ks ih h => by
  by_cases e : k = 1
  · subst e
    obtain ⟨_, rfl, rfl⟩ := right_var h
    exact sub_tvar _ _
  · rw [sub_node _ e]
    congr 1
    rw [List.map_congr_left (g := id) fun t ht => ih t ht ((right_kids h e).1 t ht), List.map_id]
theorem nums_sub (S : Int → Ty) : ∀ (t : Ty) (m : Int), m ∈ (sub S t).nums ↔ ∃ x ∈ t.nums, m ∈ (S x).nums := ind fun k nm n ks ih m => by
  by_cases e : k = 1
  · subst e
    rw [sub, if_pos rfl, nums, if_pos rfl]
    simp
  · rw [sub_node _ e, nums, if_neg e, nums, if_neg e, mem_numss]
    constructor
    · rintro ⟨t, ht, hm⟩
      obtain ⟨u, hu, rfl⟩ := List.mem_map.1 ht
      obtain ⟨x, hx, h2⟩ := (ih u hu m).1 hm
      exact ⟨x, mem_numss.2 ⟨u, hu, hx⟩, h2⟩
    · rintro ⟨x, hx, h2⟩
      obtain ⟨u, hu, h3⟩ := mem_numss.1 hx
      exact ⟨_, List.mem_map.2 ⟨u, hu, rfl⟩, (ih u hu m).2 ⟨x, h3, h2⟩⟩
theorem right_sub (S : Int → Ty) : ∀ t : Ty, t.right = true → (∀ m ∈ t.nums, (S m).right = true) → (sub S t).right = true := ind fun k nm n ks ih h hS => by
  by_cases e : k = 1
  · subst e
    rw [sub, if_pos rfl]
    exact hS n (by rw [nums, if_pos rfl]; exact List.mem_singleton.2 rfl)
  · rw [sub_node _ e]
    have hk := right_kids h e
    have ha : (ks.map (sub S)).all right = true := List.all_eq_true.2 fun t ht => by
      obtain ⟨u, hu, rfl⟩ := List.mem_map.1 ht
      exact ih u hu (hk.1 u hu) fun m hm => hS m (by rw [nums, if_neg e]; exact mem_numss.2 ⟨u, hu, hm⟩)
    have hb : ks.all right = true := List.all_eq_true.2 hk.1
    rw [right_eq] at h ⊢
    rw [if_neg e] at h ⊢
    rw [ha, List.length_map]
    rw [hb] at h
    exact h
theorem parts_pos (t : Ty) : 1 ≤ t.parts := by obtain ⟨k, nm, n, ks⟩ := t; rw [parts]; omega
theorem partss_get {ts : List Ty} {t : Ty} (h : t ∈ ts) : t.parts ≤ partss ts := partss_mem h
theorem parts_kid (S : Int → Ty) {k : Nat} (e : k ≠ 1) (nm : List UInt8) (n : Int) {ks : List Ty} {t : Ty} (ht : t ∈ ks) : (sub S t).parts < (sub S (.node k nm n ks)).parts := by
  rw [sub_node _ e, parts]
  have := partss_get (List.mem_map.2 ⟨t, ht, rfl⟩ : sub S t ∈ ks.map (sub S))
  omega
theorem parts_num (S : Int → Ty) : ∀ (t : Ty) (m : Int), m ∈ t.nums → (S m).parts ≤ (sub S t).parts ∧ (t.k ≠ 1 → (S m).parts < (sub S t).parts) := ind fun k nm n ks ih m hm => by
  by_cases e : k = 1
  · subst e
    rw [nums, if_pos rfl] at hm
    rw [List.mem_singleton.1 hm, sub, if_pos rfl]
    exact ⟨Nat.le_refl _, fun h => absurd rfl h⟩
  · rw [nums, if_neg e] at hm
    obtain ⟨t, ht, h2⟩ := mem_numss.1 hm
    have h3 := (ih t ht m h2).1
    have h4 := parts_kid S e nm n ht
    exact ⟨by omega, fun _ => by omega⟩
theorem depth_kid (S : Int → Ty) {k : Nat} (e : k ≠ 1) (nm : List UInt8) (n : Int) {ks : List Ty} {t : Ty} (ht : t ∈ ks) : (sub S t).depth < (sub S (.node k nm n ks)).depth := by
  rw [sub_node _ e, depth]
  have := depths_mem (List.mem_map.2 ⟨t, ht, rfl⟩ : sub S t ∈ ks.map (sub S))
  omega
theorem depth_pos (t : Ty) : 1 ≤ t.depth := by obtain ⟨k, nm, n, ks⟩ := t; rw [depth]; omega
theorem partss_sub_ge (S : Int → Ty) : ∀ ts : List Ty, (∀ t ∈ ts, t.parts ≤ (sub S t).parts) → partss ts ≤ partss (ts.map (sub S))
  | [], _ => by simp [partss]
  | t :: ts, h => by
    rw [List.map_cons, partss, partss]
    have := h t (List.mem_cons_self ..)
    have := partss_sub_ge S ts fun u hu => h u (List.mem_cons_of_mem _ hu)
    omega
theorem depths_sub_ge (S : Int → Ty) : ∀ ts : List Ty, (∀ t ∈ ts, t.depth ≤ (sub S t).depth) → depths ts ≤ depths (ts.map (sub S))
  | [], _ => by simp [depths]
  | t :: ts, h => by
    rw [List.map_cons, depths, depths]
    have := h t (List.mem_cons_self ..)
    have := depths_sub_ge S ts fun u hu => h u (List.mem_cons_of_mem _ hu)
    omega
theorem parts_ge (S : Int → Ty) : ∀ t : Ty, t.right = true → t.parts ≤ (sub S t).parts ∧ t.depth ≤ (sub S t).depth := ind fun k nm n ks ih h => by
  by_cases e : k = 1
  · subst e
    obtain ⟨_, rfl, rfl⟩ := right_var h
    have h1 : parts (.node 1 [] n []) = 1 := by rw [parts, partss]
    have h2 : depth (.node 1 [] n []) = 1 := by rw [depth, depths]
    rw [h1, h2]
    exact ⟨parts_pos _, depth_pos _⟩
  · rw [sub_node _ e, parts, parts, depth, depth]
    have h1 := partss_sub_ge S ks fun t ht => (ih t ht ((right_kids h e).1 t ht)).1
    have h2 := depths_sub_ge S ks fun t ht => (ih t ht ((right_kids h e).1 t ht)).2
    omega
theorem sub_var_self {S : Int → Ty} {t : Ty} (h : t.right = true) (hS : ∀ m ∈ t.nums, S m = tvar m) : sub S t = t := by
  rw [sub_congr S tvar t hS, sub_id t h]
end Ty
open Ty
/-- Bindings, and what they make of each unknown in the end. -/
structure Slv (N : Nat) (σ : Int → Option Ty) (S : Int → Ty) : Prop where
  dom : ∀ x t, σ x = some t → 0 ≤ x ∧ x < (N : Int) ∧ good N t ∧ S x = t.sub S ∧ (t.k = 1 → t.n < x)
  free : ∀ x, σ x = none → S x = tvar x
  res : ∀ x, 0 ≤ x → x < (N : Int) → good N (S x) ∧ ∀ y ∈ (S x).nums, σ y = none
theorem Slv.start (N : Nat) : Slv N (fun _ => none) tvar := ⟨(fun x t h => by cases h), fun _ _ => rfl, fun x h0 h1 => ⟨good_tvar h0 h1, fun _ _ => rfl⟩⟩
namespace Slv
variable {N : Nat} {σ : Int → Option Ty} {S : Int → Ty}
theorem idem1 (h : Slv N σ S) (x : Int) : (S x).sub S = S x := by
  cases hx : σ x with
  | none => rw [h.free x hx, sub_tvar, h.free x hx]
  | some t =>
    obtain ⟨h0, h1, _⟩ := h.dom x t hx
    obtain ⟨hg, hn⟩ := h.res x h0 h1
    exact sub_var_self hg.1 fun m hm => h.free m (hn m hm)
theorem idem (h : Slv N σ S) (t : Ty) : (t.sub S).sub S = t.sub S := by
  rw [sub_sub]
  exact sub_congr _ _ t fun m _ => h.idem1 m
theorem good_sub (h : Slv N σ S) {t : Ty} (ht : good N t) : good N (t.sub S) ∧ ∀ y ∈ (t.sub S).nums, σ y = none := by
  have hn := nums_nonneg t ht.1
  refine ⟨⟨right_sub S t ht.1 fun m hm => (h.res m (hn m hm) (ht.2 m hm)).1.1, fun m hm => ?_⟩, fun y hy => ?_⟩
  · obtain ⟨x, hx, h2⟩ := (nums_sub S t m).1 hm
    exact (h.res x (hn x hx) (ht.2 x hx)).1.2 m h2
  · obtain ⟨x, hx, h2⟩ := (nums_sub S t y).1 hy
    exact (h.res x (hn x hx) (ht.2 x hx)).2 y h2
end Slv
/-- How much is left to do at a type. -/
def meas (N : Nat) (S : Int → Ty) (t : Ty) : Nat := (t.sub S).parts * (N + 2) + if t.k = 1 then t.n.toNat + 1 else 0
theorem meas_kid {N : Nat} {S : Int → Ty} {k : Nat} (e : k ≠ 1) {nm : List UInt8} {n : Int} {ks : List Ty} {t : Ty} (ht : t ∈ ks) (hg : good N t) : meas N S t < meas N S (.node k nm n ks) := by
  have h1 := parts_kid S e nm n ht
  unfold meas
  have h2 : (t.sub S).parts * (N + 2) + (N + 2) ≤ (Ty.sub S (.node k nm n ks)).parts * (N + 2) := by
    have := Nat.mul_le_mul_right (N + 2) h1
    rw [Nat.succ_mul] at this
    omega
  have h3 : (if t.k = 1 then t.n.toNat + 1 else 0) ≤ N + 1 := by
    split
    · rename_i h; have := (good_var hg h).2; omega
    · omega
  omega
theorem meas_bound {N : Nat} {σ : Int → Option Ty} {S : Int → Ty} (h : Slv N σ S) {x : Int} {t : Ty} (hx : σ x = some t) : meas N S t < meas N S (tvar x) := by
  obtain ⟨h0, h1, hg, he, hv⟩ := h.dom x t hx
  unfold meas
  rw [sub_tvar, he]
  have : (if (tvar x).k = 1 then (tvar x).n.toNat + 1 else 0) = x.toNat + 1 := by unfold tvar; rfl
  rw [this]
  split
  · rename_i h; have := hv h; have := (good_var hg h).2; omega
  · omega
theorem meas_num {N : Nat} {S : Int → Ty} {t : Ty} (hg : good N t) {x : Int} (hx : x ∈ t.nums) : meas N S (tvar x) ≤ meas N S t := by
  have h0 := nums_nonneg t hg.1 x hx
  have h1 := hg.2 x hx
  have h2 := parts_num S t x hx
  unfold meas
  rw [sub_tvar]
  have h3 : (if (tvar x).k = 1 then (tvar x).n.toNat + 1 else 0) = x.toNat + 1 := by unfold tvar; rfl
  rw [h3]
  by_cases e : t.k = 1
  · obtain ⟨e1, _⟩ := good_var hg e
    rw [e1, nums_tvar] at hx
    rw [if_pos e, ← List.mem_singleton.1 hx]
    have := Nat.mul_le_mul_right (N + 2) h2.1
    omega
  · have := Nat.mul_le_mul_right (N + 2) (h2.2 e)
    rw [Nat.succ_mul] at this
    omega
theorem thr_sub {N : Nat} {σ : Int → Option Ty} {S : Int → Ty} (h : Slv N σ S) : ∀ t : Ty, good N t → thr (fun n => (σ n).map fun _ => S n) t = t.sub S := Ty.ind fun k nm n ks ih hg => by
  by_cases e : k = 1
  · subst e
    obtain ⟨_, rfl, rfl⟩ := right_var hg.1
    rw [thr, if_pos rfl, sub, if_pos rfl]
    cases hx : σ n with
    | none => rw [Option.map_none, Option.getD_none, h.free n hx]; rfl
    | some t => rw [Option.map_some, Option.getD_some]
  · rw [thr, if_neg e, thrs_map, sub_node _ e]
    congr 1
    exact List.map_congr_left fun t ht => ih t ht (good_kid hg e ht)
theorem allnums_right : ∀ t : Ty, t.right = true → t.allnums = t.nums := Ty.ind fun k nm n ks ih h => by
  have hl : ∀ ts : List Ty, (∀ t ∈ ts, t.allnums = t.nums) → Ty.allnumss ts = Ty.numss ts := fun ts => by
    induction ts with
    | nil => intro _; rfl
    | cons t ts ih2 =>
      intro h2
      rw [Ty.allnumss, Ty.numss, h2 t (List.mem_cons_self ..), ih2 fun u hu => h2 u (List.mem_cons_of_mem _ hu)]
  by_cases e : k = 1
  · subst e
    obtain ⟨_, rfl, rfl⟩ := right_var h
    rw [Ty.allnums, Ty.nums, if_pos rfl, if_pos rfl, Ty.allnumss, List.append_nil]
  · rw [Ty.allnums, Ty.nums, if_neg e, if_neg e, List.nil_append]
    exact hl ks fun t ht => ih t ht ((right_kids h e).1 t ht)
theorem put_sub (l : List Ty) : ∀ t : Ty, t.right = true → t.put l = t.sub (fun x => (tvar x).put l) := Ty.ind fun k nm n ks ih h => by
  by_cases e : k = 1
  · subst e
    obtain ⟨_, rfl, rfl⟩ := right_var h
    rw [sub, if_pos rfl]
    rfl
  · rw [sub_node _ e, Ty.put, if_neg (fun h => e h.1), Ty.puts_map]
    congr 1
    exact List.map_congr_left fun t ht => ih t ht ((right_kids h e).1 t ht)
end Go.Proofs.Ytndhojnfjlkojaa
