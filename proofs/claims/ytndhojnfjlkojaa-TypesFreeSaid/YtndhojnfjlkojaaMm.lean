/- types: TypesMeet, TypesBest, apart from memory. -/
import Derived.Test.YtndhojnfjlkojaaWm
import Derived.Test.YtndhojnfjlkojaaVa
namespace Go.Proofs.Ytndhojnfjlkojaa
open Go.RowKit
set_option linter.unusedVariables false
set_option linter.unusedSimpArgs false
open Ty
theorem small_great {t : Ty} (h : small t) : ¬ great t := by unfold small at h; unfold great; omega
def thl (ts : List Ty) (x : Int) : Ty := (tvar x).put ts
theorem put_thl (ts : List Ty) {t : Ty} (h : t.right = true) : t.put ts = t.sub (thl ts) := put_sub ts t h
theorem uniT_good {N : Nat} {s t : Ty} {l l' : List (Int × Ty)} {S S' : Int → Ty} {e : Nat} (h : UniT N s t l S e l' S') (he : e ≠ 1) : good N s ∧ good N t := by
  rcases Decidable.em (good N s ∧ good N t) with hg | hg
  · exact hg
  · exact absurd (h.arg hg).1 he
theorem uniT_deep {N : Nat} {s t : Ty} {l l' : List (Int × Ty)} {S S' : Int → Ty} {e : Nat} (h : UniT N s t l S e l' S') (hg : good N s ∧ good N t) (he : e ≠ 16) : ¬ great (s.sub S) ∧ ¬ great (t.sub S) :=
  ⟨fun h1 => he (h.deep hg.1 hg.2 (.inl h1)).1, fun h1 => he (h.deep hg.1 hg.2 (.inr h1)).1⟩
theorem uniT_err {N : Nat} {s t : Ty} {l l' : List (Int × Ty)} {S S' : Int → Ty} {e : Nat} (h : UniT N s t l S e l' S') (he : e ≠ 0) : l' = l ∧ S' = S := by
  rcases Decidable.em (good N s ∧ good N t) with hg | hg
  · by_cases hd : great (s.sub S) ∨ great (t.sub S)
    · exact (h.deep hg.1 hg.2 hd).2
    · obtain ⟨l2, S2, _, _, h1⟩ := h.main hg.1 hg.2 (fun h => hd (.inl h)) (fun h => hd (.inr h))
      exact h1 he
  · exact (h.arg hg).2
theorem meet_err {N : Nat} {s t : Ty} {l' : List (Int × Ty)} {S' : Int → Ty} {e : Nat} (h : UniT N s t [] tvar e l' S') (he : e = 13) (ts : List Ty) : s.put ts ≠ t.put ts := fun heq => by
  have hg := uniT_good h (by omega)
  have hd := uniT_deep h hg (by omega)
  obtain ⟨l2, S2, hu, _, _⟩ := h.main hg.1 hg.2 hd.1 hd.2
  rw [put_thl ts hg.1.1, put_thl ts hg.2.1] at heq
  have hθ : ∀ x, thl ts x = (tvar x).sub (thl ts) := fun x => (sub_tvar _ _).symm
  exact (hu.best (thl ts) hθ (by rw [← sub_via hθ, ← sub_via hθ]; exact heq)).1 he
theorem meet_ok {N : Nat} {s t : Ty} {l l' : List (Int × Ty)} {S S' : Int → Ty} (hS : Slv N (look l) S) (h : UniT N s t l S 0 l' S') : good N s ∧ good N t ∧ s.sub S' = t.sub S' ∧ ¬ great (s.sub S') ∧ ¬ great (t.sub S') := by
  have hg := uniT_good h (by decide)
  have hd := uniT_deep h hg (by decide)
  obtain ⟨l2, S2, hu, h0, _⟩ := h.main hg.1 hg.2 hd.1 hd.2
  obtain ⟨rfl, rfl⟩ := h0 rfl
  have hi : ∀ x : Ty, (x.sub S).sub S' = x.sub S' := fun x => (sub_via hu.ext x).symm
  have hid := hu.same rfl
  rw [hi, hi] at hid
  have hng := hu.small rfl ⟨by rw [hS.idem]; exact hd.1, by rw [hS.idem]; exact hd.2⟩
  rw [hi, hi] at hng
  exact ⟨hg.1, hg.2, hid, hng.1, hng.2⟩
/-- Where both are the same, nothing more is bound. -/
theorem meet_again {N : Nat} {s t : Ty} {l l' : List (Int × Ty)} {S S' : Int → Ty} {e : Nat} (hS : Slv N (look l) S) (gs : good N s) (gt : good N t) (heq : s.sub S = t.sub S) (ng : ¬ great (s.sub S)) (h : UniT N s t l S e l' S') : e = 0 ∧ l' = l ∧ S' = S := by
  obtain ⟨l2, S2, hu, h0, h1⟩ := h.main gs gt ng (by rw [← heq]; exact ng)
  obtain ⟨he, h2, h3⟩ := hu.stay (by rw [hS.idem, hS.idem]; exact heq)
  subst h2 h3
  obtain ⟨rfl, rfl⟩ := h0 he
  exact ⟨he, rfl, rfl⟩
theorem apply_same {N : Nat} {s t : Ty} {S : Int → Ty} (gs : good N s) (gt : good N t) (heq : s.sub S = t.sub S) : applyT N S s = applyT N S t := by
  unfold applyT
  rw [if_pos gs, if_pos gt, heq]
theorem apply_start {N : Nat} {s : Ty} (h : small s) : applyT N tvar s = s := by
  unfold applyT
  split
  · rename_i hg
    rw [sub_id s hg.1, if_neg (small_great h)]
  · rfl
/-- Where types put in make both the same, they make each unknown the same as what it is bound to. -/
theorem best_of {N : Nat} {s t : Ty} {l' : List (Int × Ty)} {S' : Int → Ty} (h : UniT N s t [] tvar 0 l' S') (ts : List Ty) (heq : s.put ts = t.put ts) {x : Nat} (hx : x < N) (hxl : x < ts.length) (hk : (applyT N S' (tvar (x : Int))).k ≠ 0) (hr : (S' (x : Int)).right = true) : ts[x]? = some ((applyT N S' (tvar (x : Int))).put ts) := by
  have hg := uniT_good h (by decide)
  have hd := uniT_deep h hg (by decide)
  obtain ⟨l2, S2, hu, h0, _⟩ := h.main hg.1 hg.2 hd.1 hd.2
  obtain ⟨rfl, rfl⟩ := h0 rfl
  rw [put_thl ts hg.1.1, put_thl ts hg.2.1] at heq
  have hθ : ∀ x, thl ts x = (tvar x).sub (thl ts) := fun x => (sub_tvar _ _).symm
  have hb := (hu.best (thl ts) hθ (by rw [← sub_via hθ, ← sub_via hθ]; exact heq)).2
  have hgx : good N (tvar (x : Int)) := good_tvar (Int.natCast_nonneg x) (by omega)
  unfold applyT at hk ⊢
  rw [if_pos hgx, sub_tvar] at hk ⊢
  split at hk
  · exact absurd rfl hk
  · rename_i hng
    rw [if_neg hng, put_thl ts hr, ← hb (x : Int)]
    unfold thl tvar
    rw [Ty.put, if_pos ⟨rfl, Int.natCast_nonneg x, by omega⟩]
    rw [List.getElem?_eq_getElem (by omega : x < ts.length)]
    simp [List.getElem?_eq_getElem hxl]
end Go.Proofs.Ytndhojnfjlkojaa
