/- types: what the unifications of works come to. -/
import Derived.Test.YtndhojnfjlkojaaUy
import Derived.Test.YtndhojnfjlkojaaBo
namespace Go.Proofs.Ytndhojnfjlkojaa
open Go.RowKit
set_option linter.unusedVariables false
set_option linter.unusedSimpArgs false
open Ty
theorem not_great_sub {θ : Int → Ty} {t : Ty} (hr : t.right = true) (h : ¬ great (t.sub θ)) : ¬ great t := by
  have := parts_ge θ t hr
  unfold great at h ⊢
  omega
/-- Where some types make both the same, and not too great, Unify has no error. -/
theorem uni_ok {N : Nat} {s t : Ty} {l l' : List (Int × Ty)} {S S' θ : Int → Ty} {e : Nat} (hS : Slv N (look l) S) (h : UniT N s t l S e l' S') (hs : good N s) (ht : good N t) (hθ : ∀ x, θ x = (S x).sub θ) (heq : s.sub θ = t.sub θ) (hng : ¬ great (s.sub θ)) :
    e = 0 ∧ (∀ x, θ x = (S' x).sub θ) ∧ s.sub S' = t.sub S' ∧ ∀ x, S' x = (S x).sub S' := by
  have gs := (hS.good_sub hs).1
  have gt := (hS.good_sub ht).1
  have e1 : (s.sub S).sub θ = s.sub θ := (sub_via hθ s).symm
  have e2 : (t.sub S).sub θ = t.sub θ := (sub_via hθ t).symm
  have n1 : ¬ great (s.sub S) := not_great_sub gs.1 (θ := θ) (by rw [e1]; exact hng)
  have n2 : ¬ great (t.sub S) := not_great_sub gt.1 (θ := θ) (by rw [e2, ← heq]; exact hng)
  obtain ⟨l2, S2, hu, h0, h1⟩ := h.main hs ht n1 n2
  obtain ⟨b1, b2⟩ := hu.best θ hθ (by rw [e1, e2, heq])
  have hnd : e ≠ 16 := fun h16 => by
    have gs2 := (hu.slv.good_sub gs).1
    have gt2 := (hu.slv.good_sub gt).1
    rcases hu.deep h16 with hd | hd
    · exact not_great_sub gs2.1 (θ := θ) (by rw [← sub_via b2, e1]; exact hng) hd
    · exact not_great_sub gt2.1 (θ := θ) (by rw [← sub_via b2, e2, ← heq]; exact hng) hd
  have he : e = 0 := by rcases hu.code with h | h | h; exact h; exact absurd h b1; exact absurd h hnd
  obtain ⟨rfl, rfl⟩ := h0 he
  exact ⟨he, b2, by rw [sub_via hu.ext, hu.same he, ← sub_via hu.ext], hu.ext⟩
/-- Where no types make both the same, and neither is too great as it is, Unify has an error. -/
theorem uni_no {N : Nat} {s t : Ty} {l l' : List (Int × Ty)} {S S' : Int → Ty} {e : Nat} (h : UniT N s t l S e l' S') (hs : good N s) (ht : good N t) (n1 : ∀ T, ¬ great ((s.sub S).sub T)) (n2 : ∀ T, ¬ great ((t.sub S).sub T)) (m1 : ¬ great (s.sub S)) (m2 : ¬ great (t.sub S)) (hne : ∀ T : Int → Ty, (s.sub S).sub T ≠ (t.sub S).sub T) : e = 13 ∧ l' = l ∧ S' = S := by
  obtain ⟨l2, S2, hu, h0, h1⟩ := h.main hs ht m1 m2
  have e0 : e ≠ 0 := fun he => hne S2 (by rw [← sub_via hu.ext, ← sub_via hu.ext]; exact (by have := hu.same he; rwa [← sub_via hu.ext, ← sub_via hu.ext] at this))
  have e16 : e ≠ 16 := fun he => by rcases hu.deep he with h | h; exact n1 _ h; exact n2 _ h
  exact ⟨by rcases hu.code with h | h | h; exact absurd h e0; exact h; exact absurd h e16, h1 e0⟩
def tint : Ty := .node 2 [105, 110, 116] 0 []
def tstr : Ty := .node 2 [115, 116, 114, 105, 110, 103] 0 []
def tlist (x : Ty) : Ty := .node 2 [108, 105, 115, 116] 0 [x]
theorem sub_tint (S : Int → Ty) : tint.sub S = tint := by unfold tint; rw [sub_node S (by decide)]; rfl
theorem sub_tstr (S : Int → Ty) : tstr.sub S = tstr := by unfold tstr; rw [sub_node S (by decide)]; rfl
theorem sub_tlist (S : Int → Ty) (x : Ty) : (tlist x).sub S = tlist (x.sub S) := by unfold tlist; rw [sub_node S (by decide)]; rfl
theorem sub_tfun (S : Int → Ty) (x y : Ty) : (tfun x y).sub S = tfun (x.sub S) (y.sub S) := by unfold tfun; rw [sub_node S (by decide)]; rfl
def thw (x : Int) : Ty := if x = 0 then tstr else if x = 1 then tfun tstr tint else if x = 2 then tint else tvar x
theorem good_tint : good 3 tint := ⟨by simp [tint, right, rights], by simp [tint, nums, numss]⟩
theorem good_tstr : good 3 tstr := ⟨by simp [tstr, right, rights], by simp [tstr, nums, numss]⟩
theorem good_tlist {x : Ty} (h : good 3 x) : good 3 (tlist x) := ⟨by have := h.1; simp [tlist, right, rights, this], by have := h.2; simpa [tlist, nums, numss] using this⟩
theorem good_tfun {x y : Ty} (h : good 3 x) (k : good 3 y) : good 3 (tfun x y) := ⟨by have := h.1; have := k.1; simp_all [tfun, right, rights], fun m hm => by
  unfold tfun at hm
  rw [nums, if_neg (by decide), mem_numss] at hm
  obtain ⟨t, ht, hm⟩ := hm
  simp at ht
  rcases ht with rfl | rfl
  · exact h.2 m hm
  · exact k.2 m hm⟩
theorem ng_of {t : Ty} (h : t.parts ≤ 1000) (k : t.depth ≤ 100) : ¬ great t := by unfold great; omega
theorem p_tint : tint.parts = 1 ∧ tint.depth = 1 := ⟨by simp [tint, parts, partss], by simp [tint, depth, depths]⟩
theorem p_tstr : tstr.parts = 1 ∧ tstr.depth = 1 := ⟨by simp [tstr, parts, partss], by simp [tstr, depth, depths]⟩
theorem p_fsi : (tfun tstr tint).parts = 3 ∧ (tfun tstr tint).depth = 2 := ⟨by simp [tfun, tstr, tint, parts, partss], by simp [tfun, tstr, tint, depth, depths]⟩
theorem p_ls : (tlist tstr).parts = 2 ∧ (tlist tstr).depth = 2 := ⟨by simp [tlist, tstr, parts, partss], by simp [tlist, tstr, depth, depths]⟩
theorem works1 {e : Nat} {l1 : List (Int × Ty)} {S1 : Int → Ty} (h : UniT 3 (tfun (tvar 0) tint) (tvar 1) [] tvar e l1 S1) : e = 0 ∧ (∀ x, thw x = (S1 x).sub thw) ∧ tfun (S1 0) tint = S1 1 := by
  have hS : Slv 3 (look []) tvar := Slv.start 3
  obtain ⟨h0, h1, h2, h3⟩ := uni_ok (θ := thw) hS h (good_tfun (good_tvar (by decide) (by decide)) good_tint) (good_tvar (by decide) (by decide)) (fun x => by rw [sub_tvar]) (by rw [sub_tfun, sub_tvar, sub_tvar, sub_tint]; rfl)
    (by rw [sub_tfun, sub_tvar, sub_tint]; show ¬ great (tfun tstr tint); exact ng_of (by rw [p_fsi.1]; decide) (by rw [p_fsi.2]; decide))
  rw [sub_tfun, sub_tvar, sub_tvar, sub_tint] at h2
  exact ⟨h0, h1, h2⟩
theorem works2 {e : Nat} {l1 l2 : List (Int × Ty)} {S1 S2 : Int → Ty} (hS : Slv 3 (look l1) S1) (hth : ∀ x, thw x = (S1 x).sub thw) (hf : tfun (S1 0) tint = S1 1) (h : UniT 3 (tvar 1) (tfun tstr (tvar 2)) l1 S1 e l2 S2) : e = 0 ∧ S2 0 = tstr ∧ S2 1 = tfun tstr tint := by
  obtain ⟨h0, h1, h2, h3⟩ := uni_ok (θ := thw) hS h (good_tvar (by decide) (by decide)) (good_tfun good_tstr (good_tvar (by decide) (by decide))) hth (by rw [sub_tfun, sub_tvar, sub_tvar, sub_tstr]; rfl)
    (by rw [sub_tvar]; show ¬ great (tfun tstr tint); exact ng_of (by rw [p_fsi.1]; decide) (by rw [p_fsi.2]; decide))
  rw [sub_tfun, sub_tvar, sub_tvar, sub_tstr] at h2
  have h4 : tfun (S2 0) tint = S2 1 := by
    rw [h3 1, ← hf, sub_tfun, sub_tint, ← h3 0]
  rw [← h4] at h2
  unfold tfun at h2
  injection h2 with _ _ _ h2
  injection h2 with h5 h2
  exact ⟨h0, h5, by rw [← h4, h5]⟩
theorem works3 {e : Nat} {l l' : List (Int × Ty)} {S S' : Int → Ty} (h : UniT 3 tint tstr l S e l' S') : e = 13 ∧ l' = l ∧ S' = S :=
  uni_no h good_tint good_tstr (fun T => by rw [sub_tint, sub_tint]; exact ng_of (by rw [p_tint.1]; decide) (by rw [p_tint.2]; decide)) (fun T => by rw [sub_tstr, sub_tstr]; exact ng_of (by rw [p_tstr.1]; decide) (by rw [p_tstr.2]; decide))
    (by rw [sub_tint]; exact ng_of (by rw [p_tint.1]; decide) (by rw [p_tint.2]; decide)) (by rw [sub_tstr]; exact ng_of (by rw [p_tstr.1]; decide) (by rw [p_tstr.2]; decide)) fun T h => by
    rw [sub_tint, sub_tint, sub_tstr, sub_tstr] at h
    unfold tint tstr at h
    injection h with _ h
    exact absurd h (by decide)
theorem works4 {e : Nat} {l l' : List (Int × Ty)} {S S' : Int → Ty} (hx : S 0 = tstr) (h : UniT 3 (tvar 0) (tlist (tvar 0)) l S e l' S') : e = 13 ∧ l' = l ∧ S' = S :=
  uni_no h (good_tvar (by decide) (by decide)) (good_tlist (good_tvar (by decide) (by decide))) (fun T => by rw [sub_tvar, hx, sub_tstr]; exact ng_of (by rw [p_tstr.1]; decide) (by rw [p_tstr.2]; decide)) (fun T => by rw [sub_tlist, sub_tlist, sub_tvar, hx, sub_tstr]; exact ng_of (by rw [p_ls.1]; decide) (by rw [p_ls.2]; decide))
    (by rw [sub_tvar, hx]; exact ng_of (by rw [p_tstr.1]; decide) (by rw [p_tstr.2]; decide)) (by rw [sub_tlist, sub_tvar, hx]; exact ng_of (by rw [p_ls.1]; decide) (by rw [p_ls.2]; decide)) fun T h => by
    rw [sub_tlist, sub_tlist, sub_tvar, hx, sub_tstr] at h
    unfold tstr tlist at h
    injection h with _ h
    exact absurd h (by decide)
theorem works5 {S : Int → Ty} (hx : S 1 = tfun tstr tint) : applyT 3 S (tvar 1) = tfun tstr tint := by
  unfold applyT
  rw [if_pos (good_tvar (by decide) (by decide)), sub_tvar, hx, if_neg (ng_of (by rw [p_fsi.1]; decide) (by rw [p_fsi.2]; decide))]
end Go.Proofs.Ytndhojnfjlkojaa
