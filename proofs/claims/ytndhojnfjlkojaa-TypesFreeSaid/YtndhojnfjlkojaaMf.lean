/- types: TypesFree, apart from memory. -/
import Derived.Test.YtndhojnfjlkojaaMm
namespace Go.Proofs.Ytndhojnfjlkojaa
open Go.RowKit
set_option linter.unusedVariables false
set_option linter.unusedSimpArgs false
open Ty
theorem right_k {t : Ty} (h : t.right = true) : t.k ≠ 0 := by
  obtain ⟨k, nm, n, ks⟩ := t
  intro e
  obtain rfl : k = 0 := e
  rw [right_eq] at h
  simp at h
theorem free_none {N : Nat} {S : Int → Ty} {t : Ty} {fs : List Int} (h : ∀ f ∈ fs, good N t ∧ ¬ great (t.sub S) ∧ f ∈ (t.sub S).nums) (hn : ¬ (good N t ∧ ¬ great (t.sub S))) : fs = [] := by
  cases fs with
  | nil => rfl
  | cons f fs =>
    have := h f (List.mem_cons_self ..)
    exact absurd ⟨this.1, this.2.1⟩ hn
theorem free_zero {N : Nat} {l : List (Int × Ty)} {S : Int → Ty} {t : Ty} {fs : List Int} (hS : Slv N (look l) S) (h : ∀ f ∈ fs, good N t ∧ ¬ great (t.sub S) ∧ f ∈ (t.sub S).nums) (hk : (applyT N S t).k = 0) : fs = [] := free_none h fun hh => by
  unfold applyT at hk
  rw [if_pos hh.1, if_neg hh.2] at hk
  exact right_k (hS.good_sub hh.1).1.1 hk
theorem free_in {N : Nat} {l : List (Int × Ty)} {S : Int → Ty} {t : Ty} {f : Int} (hS : Slv N (look l) S) (h : good N t ∧ ¬ great (t.sub S) ∧ f ∈ (t.sub S).nums) : 0 ≤ f ∧ f < (N : Int) ∧ f ∈ (applyT N S t).nums ∧ applyT N S (tvar f) = tvar f := by
  have hg := hS.good_sub h.1
  have h0 := nums_nonneg _ hg.1.1 f h.2.2
  have h1 := hg.1.2 f h.2.2
  refine ⟨h0, h1, ?_, ?_⟩
  · unfold applyT
    rw [if_pos h.1, if_neg h.2.1]
    exact h.2.2
  · unfold applyT
    rw [if_pos (good_tvar h0 h1), sub_tvar, hS.free f (hg.2 f h.2.2), if_neg (ng_of (by show Ty.parts (.node 1 [] f []) ≤ 1000; simp [parts, partss]) (by show Ty.depth (.node 1 [] f []) ≤ 100; simp [depth, depths]))]
theorem apply_twice {N : Nat} {l : List (Int × Ty)} {S : Int → Ty} {t : Ty} (hS : Slv N (look l) S) (hk : (applyT N S t).k ≠ 0) : applyT N S (applyT N S t) = applyT N S t := by
  by_cases hg : good N t
  · by_cases hd : great (t.sub S)
    · have : applyT N S t = zeroTy := by unfold applyT; rw [if_pos hg, if_pos hd]
      rw [this] at hk
      exact absurd rfl hk
    · have : applyT N S t = t.sub S := by unfold applyT; rw [if_pos hg, if_neg hd]
      rw [this]
      unfold applyT
      rw [if_pos (hS.good_sub hg).1, hS.idem, if_neg hd]
  · have : applyT N S t = t := by unfold applyT; rw [if_neg hg]
    rw [this, this]
theorem apply_parts {N : Nat} {S : Int → Ty} {t : Ty} (h : small t) : (applyT N S t).parts ≤ 1000 := by
  unfold applyT
  split
  · split
    · show Ty.parts (.node 0 [] 0 []) ≤ 1000
      simp [parts, partss]
    · rename_i hg
      unfold great at hg
      omega
  · have := h.1; omega
end Go.Proofs.Ytndhojnfjlkojaa
