/- heap: Collect: what is left. -/
import Derived.Test.YtclkkfffecmjnaaRc
namespace Go.Proofs.Ytclkkfffecmjnaa
open Go.RowKit
set_option linter.unusedVariables false
set_option linter.unusedSimpArgs false
/-- Whether it is seen. -/
def sn (B : List Bool) (j : Nat) : Bool := B[j]?.getD false
theorem sn_iff {B : List Bool} {j : Nat} : sn B j = true ↔ B[j]? = some true := by
  unfold sn
  cases h : B[j]? with
  | none => simp
  | some b => simp
theorem seen_iff {H : HS} {t : Nat} (hok : H.Ok t) {zs : List Int} {B : List Bool} {n : Nat} (hE : Ext H (List.replicate n false) B) (hs : ∀ j : Nat, B[j]? = some true → Reach H (rootC H zs) j) (hd : ∀ z, rootC H zs z → ∀ x, H.obj z = some x → B[x.h]? = some true) :
    ∀ x ∈ H.L, sn B x.h = true ↔ Reach H (rootC H zs) x.h := fun x hx => by
  rw [sn_iff]
  have h : ∀ j, Reach H (rootC H zs) j → B[j]? = some true := fun j hr => by
    induction hr with
    | root hx h0 => exact hd _ h0 _ (HS.obj_of hok hx)
    | @step x y z hx hr hz hk hy e ih =>
      obtain ⟨x', hx', h⟩ := hE.clos x.h ih (by
        rw [List.getElem?_replicate]; split <;> simp)
      rw [HS.obj_of hok hx] at hx'
      cases hx'
      exact h z hz hk y (by rw [← e]; exact HS.obj_of hok hy)
  exact ⟨hs x.h, h x.h⟩
theorem cut_obj (H : HS) (K : Nat → Bool) (k : Nat) : (cutH H K).obj (k : Int) = if K k then H.obj (k : Int) else none := by
  show (H.L.filter fun x => K x.h).find? (fun x => (x.h : Int) == (k : Int)) = if K k then H.L.find? (fun x => (x.h : Int) == (k : Int)) else none
  rw [find_filter]
  by_cases hK : K k = true
  · rw [if_pos hK]
    congr 1
    funext x
    by_cases e : x.h = k
    · rw [e, hK]; simp
    · have : ((x.h : Int) == (k : Int)) = false := by simp; omega
      simp [this]
  · rw [if_neg hK, List.find?_eq_none]
    intro x hx
    by_cases e : x.h = k
    · rw [e]; simp [hK]
    · have : ((x.h : Int) == (k : Int)) = false := by simp; omega
      simp [this]
theorem cut_oid (H : HS) (K : Nat → Bool) (k : Nat) : (cutH H K).oidOf (k : Int) = if K k then H.oidOf (k : Int) else none := by
  show ((H.T.filter fun p => K p.1).find? (fun p => (p.1 : Int) == (k : Int))).map _ = if K k then (H.T.find? (fun p => (p.1 : Int) == (k : Int))).map _ else none
  rw [find_filter]
  by_cases hK : K k = true
  · rw [if_pos hK]
    congr 2
    funext x
    by_cases e : x.1 = k
    · rw [e, hK]; simp
    · have : ((x.1 : Int) == (k : Int)) = false := by simp; omega
      simp [this]
  · rw [if_neg hK, List.find?_eq_none.2]
    · rfl
    · intro x hx
      by_cases e : x.1 = k
      · rw [e]; simp [hK]
      · have : ((x.1 : Int) == (k : Int)) = false := by simp; omega
        simp [this]
theorem no_oid {H : HS} {t : Nat} (hok : H.Ok t) {k : Nat} (h : H.obj (k : Int) = none) : H.oidOf (k : Int) = none := by
  cases ho : H.oidOf (k : Int) with
  | none => rfl
  | some v =>
    obtain ⟨p, hp, e, _⟩ := HS.oid_some ho
    obtain ⟨⟨x, hx, e2⟩, _⟩ := hok.tied p hp
    have := HS.obj_none h x hx
    omega
theorem dirtyL_collect {H : HS} (zs : List Int) : dirtyL (collectH H zs) = dirtyL H := by
  unfold dirtyL
  have e : (collectH H zs).L.filter (fun x => x.dirty) = H.L.filter fun x => x.dirty := by
    unfold collectH cutH
    rw [List.filter_filter]
    refine List.filter_congr fun x hx => ?_
    by_cases hd : x.dirty = true
    · have : Reach H (rootC H zs) x.h := .root hx (.inr (nums_mem.2 ⟨x.h, dirtyL_mem.2 ⟨x, hx, hd, rfl⟩, rfl⟩))
      simp [this, hd]
    · simp [hd]
  rw [e]
theorem reach_again {H : HS} {zs : List Int} {j : Nat} (h : Reach H (rootC H zs) j) : Reach (collectH H zs) (rootC (collectH H zs) zs) j := by
  have hin : ∀ x ∈ H.L, Reach H (rootC H zs) x.h → x ∈ (collectH H zs).L := fun x hx hr => by
    unfold collectH cutH
    exact List.mem_filter.2 ⟨hx, by simpa using hr⟩
  induction h with
  | root hx h0 =>
    refine .root (hin _ hx (.root hx h0)) ?_
    rcases h0 with h0 | h0
    · exact .inl h0
    · exact .inr (by rw [dirtyL_collect]; exact h0)
  | step hx hr hz hk hy e ih => exact .step (hin _ hx hr) ih hz hk (hin _ hy (.step hx hr hz hk hy e)) e
theorem collect_all {G : HS} {zs : List Int} (h : ∀ x ∈ G.L, Reach G (rootC G zs) x.h) : (collectH G zs).L = G.L := by
  unfold collectH cutH
  refine List.filter_eq_self.2 fun x hx => ?_
  simpa using h x hx
theorem collect_in {G : HS} {zs : List Int} {x : Ho} (h : x ∈ (collectH G zs).L) : Reach G (rootC G zs) x.h := by
  unfold collectH cutH at h
  simpa using (List.mem_filter.1 h).2
theorem collect_twice (H : HS) (zs : List Int) : (collectH (collectH H zs) zs).L.length = (collectH H zs).L.length := by
  rw [collect_all fun x hx => reach_again (collect_in hx)]
/-- How many below k are not seen. -/
def wn (H : HS) (B : List Bool) (k : Nat) : Nat := ((lowL H k).filter fun x => !sn B x.h).length
theorem wn_one {H : HS} {t : Nat} (hok : H.Ok t) (B : List Bool) : wn H B 1 = 0 := by unfold wn; rw [low_one hok]; rfl
theorem wn_succ {H : HS} {t : Nat} (hok : H.Ok t) (B : List Bool) (k : Nat) : wn H B (k + 1) = wn H B k + (if (H.obj (k : Int)).isSome && !sn B k then 1 else 0) := by
  unfold wn
  rw [low_succ hok, List.filter_append, List.length_append]
  congr 1
  cases hx : H.obj (k : Int) with
  | none => rfl
  | some x =>
    have e : x.h = k := by have := (HS.obj_some hx).2; omega
    dsimp only
    rw [List.filter_cons, e]
    cases sn B k <;> rfl
theorem wn_le {H : HS} {t : Nat} (hok : H.Ok t) (B : List Bool) (k : Nat) : wn H B k ≤ H.L.length := by
  unfold wn lowL
  exact Nat.le_trans (List.length_filter_le _ _) (List.length_filter_le _ _)
theorem filter_parts {α : Type} (p : α → Bool) : ∀ L : List α, (L.filter fun x => !p x).length + (L.filter p).length = L.length
  | [] => rfl
  | x :: L => by
    have ih := filter_parts p L
    rw [List.filter_cons, List.filter_cons, List.length_cons]
    cases p x <;> simp <;> omega
theorem wn_all {H : HS} {t : Nat} (hok : H.Ok t) (B : List Bool) : wn H B (H.count + 1) + (cutH H (sn B)).L.length = H.L.length := by
  have e : lowL H (H.count + 1) = H.L := by
    unfold lowL
    exact List.filter_eq_self.2 fun x hx => by have := hok.inn x hx; simp; omega
  unfold wn
  rw [e]
  exact filter_parts (fun x : Ho => sn B x.h) H.L
end Go.Proofs.Ytclkkfffecmjnaa
