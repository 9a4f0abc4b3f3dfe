/- HeapDirty: what is dirty, apart from memory. -/
import Derived.Test.YtclkkfffecmjnaaMd
namespace Go.Proofs.Ytclkkfffecmjnaa
open Go.RowKit
set_option linter.unusedVariables false
def isD (H : HS) (k : Int) : Bool := match H.obj k with
  | some x => x.dirty
  | none => false
theorem isD_of {H : HS} {k : Int} {x : Ho} (h : H.obj k = some x) : isD H k = x.dirty := by unfold isD; rw [h]
theorem isD_no {H : HS} {k : Int} (h : H.obj k = none) : isD H k = false := by unfold isD; rw [h]
theorem updL_find (y : Ho) (j : Int) : ∀ L : List Ho, (updL y L).find? (fun x => (x.h : Int) == j) = (L.find? (fun x => (x.h : Int) == j)).map fun x => if x.h = y.h then y else x
  | [] => rfl
  | z :: L => by
    have ih := updL_find y j L
    unfold updL at ih ⊢
    rw [List.map_cons, List.find?_cons, List.find?_cons]
    have e : (((if z.h = y.h then y else z).h : Int) == j) = ((z.h : Int) == j) := by
      split
      · rename_i h; rw [h]
      · rfl
    rw [e]
    cases ((z.h : Int) == j) with
    | true => rfl
    | false => exact ih
theorem isD_upd {H H' : HS} {t : Nat} (hok : H.Ok t) {x y : Ho} (hx : x ∈ H.L) (hy : y.h = x.h) (hL : H'.L = updL y H.L) (j : Int) : isD H' j = if j = (x.h : Int) then y.dirty else isD H j := by
  have ho : H'.obj j = (H.obj j).map fun x => if x.h = y.h then y else x := by
    unfold HS.obj
    rw [hL, updL_find]
  unfold isD
  rw [ho]
  by_cases e : j = (x.h : Int)
  · rw [if_pos e, e, HS.obj_of hok hx, Option.map_some, if_pos hy.symm]
  · rw [if_neg e]
    cases hz : H.obj j with
    | none => rfl
    | some z =>
      rw [Option.map_some, if_neg (fun e' => e (by rw [← (HS.obj_some hz).2, e', hy]))]
theorem isD_alloc (H : HS) (o : Ob) (j : Int) : isD (allocH H o) j = isD H j := by
  unfold isD HS.obj allocH
  dsimp only
  rw [List.find?_append]
  cases h : H.L.find? (fun x => (x.h : Int) == j) with
  | some x => rfl
  | none =>
    rw [Option.none_or]
    cases he : (((H.count + 1 : Nat) : Int) == j) with
    | true => simp only [List.find?_cons, he]
    | false => simp only [List.find?_cons, he, List.find?_nil]
theorem isD_cut {H : HS} {t : Nat} (hok : H.Ok t) (K : Nat → Bool) (hK : ∀ x ∈ H.L, x.dirty = true → K x.h = true) (j : Int) : isD (cutH H K) j = isD H j := by
  cases hz : H.obj j with
  | none =>
    rw [isD_no hz]
    refine isD_no ?_
    unfold HS.obj cutH
    dsimp only
    rw [List.find?_eq_none]
    intro x hx
    have := HS.obj_none hz x (List.mem_filter.1 hx).1
    simpa using this
  | some x =>
    obtain ⟨hx, hj⟩ := HS.obj_some hz
    rw [isD_of hz]
    have hcok := cutH_ok hok K
    by_cases hk : K x.h = true
    · have : (cutH H K).obj (x.h : Int) = some x := HS.obj_of hcok (List.mem_filter.2 ⟨hx, hk⟩)
      rw [hj] at this
      exact isD_of this
    · cases hd : x.dirty with
      | true => exact absurd (hK x hx hd) hk
      | false =>
        cases hz2 : (cutH H K).obj j with
        | none => exact isD_no hz2
        | some y =>
          obtain ⟨hy, hyj⟩ := HS.obj_some hz2
          have : y = x := HS.uniq hok.rise (List.mem_filter.1 hy).1 hx (by omega)
          rw [this] at hy
          exact absurd (List.mem_filter.1 hy).2 hk
theorem isD_collect {H : HS} {t : Nat} (hok : H.Ok t) (zs : List Int) (j : Int) : isD (collectH H zs) j = isD H j := by
  unfold collectH
  refine isD_cut hok _ (fun x hx hd => ?_) j
  simp only [decide_eq_true_eq]
  refine .root hx (.inr (nums_mem.2 ⟨x.h, dirtyL_mem.2 ⟨x, hx, hd, rfl⟩, rfl⟩))
/-- What becomes of what is dirty. -/
theorem doF_dirty {H : HS} {t : Nat} (hok : H.Ok t) (o : Ov) :
    (o.kind = 3 ∧ (doF H o).2.is = true → ∀ j, isD (doF H o).1 j = if j = o.k then ((doF H o).1.oidOf o.k).isSome else isD H j) ∧
    (o.kind = 9 → (doF H o).2.is = isD H o.k) ∧
    (o.kind = 9 ∨ (o.kind = 5 ∧ (doF H o).2.is = true) ∨ (o.kind = 4 ∧ (doF H o).2.e = 0) → ∀ j, isD (doF H o).1 j = if j = o.k then false else isD H j) ∧
    (¬ (o.kind = 3 ∧ (doF H o).2.is = true) → o.kind ≠ 9 → ¬ (o.kind = 5 ∧ (doF H o).2.is = true) → ¬ (o.kind = 4 ∧ (doF H o).2.e = 0) → ∀ j, isD (doF H o).1 j = isD H j) := by
  by_cases k3 : o.kind = 3
  · have e : doF H o = ((setF H o.k o.i o.w).1, { noT with is := (setF H o.k o.i o.w).2 }) := by unfold doF; rw [k3]; rfl
    rw [e]
    dsimp only
    refine ⟨fun ⟨_, h⟩ j => ?_, fun h => by omega, fun h => by omega, fun h _ _ _ j => ?_⟩
    · unfold setF at h ⊢
      cases hx : H.obj o.k with
      | none => rw [hx] at h; cases h
      | some x =>
        rw [hx] at h
        dsimp only at h ⊢
        split at h
        · cases h
        · rename_i hc
          rw [if_neg hc]
          obtain ⟨hxl, hxk⟩ := HS.obj_some hx
          have := isD_upd (H' := setH H x o.i.toNat o.w) hok hxl (y := ⟨x.h, { x.o with ws := x.o.ws.set o.i.toNat o.w }, (H.oidOf x.h).isSome⟩) rfl rfl j
          rw [hxk] at this
          rw [this]
          rfl
    · have h : ¬ (setF H o.k o.i o.w).2 = true := fun h' => h ⟨k3, h'⟩
      unfold setF at h ⊢
      cases hx : H.obj o.k with
      | none => rfl
      | some x =>
        rw [hx] at h
        dsimp only at h ⊢
        split
        · rfl
        · rename_i hc
          rw [if_neg hc] at h
          exact absurd rfl h
  by_cases k9 : o.kind = 9
  · have e : doF H o = ((cleanF H o.k).1, { noT with is := (cleanF H o.k).2 }) := by unfold doF; rw [k9]; rfl
    rw [e]
    dsimp only
    refine ⟨fun h => by omega, fun _ => ?_, fun _ j => ?_, fun _ h => absurd k9 h⟩
    · unfold cleanF
      cases hx : H.obj o.k with
      | none => rw [isD_no hx]
      | some x =>
        rw [isD_of hx]
        dsimp only
        split
        · rename_i hd; rw [hd]
        · rename_i hd; simpa using hd
    · unfold cleanF
      cases hx : H.obj o.k with
      | none =>
        dsimp only
        split
        · rename_i e; rw [e, isD_no hx]
        · rfl
      | some x =>
        dsimp only
        obtain ⟨hxl, hxk⟩ := HS.obj_some hx
        split
        · have := isD_upd (H' := cleanH H x) hok hxl (y := { x with dirty := false }) rfl rfl j
          rw [hxk] at this
          exact this
        · rename_i hd
          split
          · rename_i e
            rw [e, isD_of hx]
            simpa using hd
          · rfl
  by_cases k5 : o.kind = 5
  · have e : doF H o = ((untieF H o.k).1, { noT with is := (untieF H o.k).2 }) := by unfold doF; rw [k5]; rfl
    rw [e]
    dsimp only
    refine ⟨fun h => by omega, fun h => absurd h k9, fun h j => ?_, fun _ _ h _ j => ?_⟩
    · have h : (untieF H o.k).2 = true := by
        rcases h with h | h | h
        · omega
        · exact h.2
        · omega
      unfold untieF at h ⊢
      cases hx : H.obj o.k with
      | none => rw [hx] at h; cases h
      | some x =>
        rw [hx] at h
        dsimp only at h ⊢
        split at h
        · cases h
        · rename_i hc
          rw [if_neg hc]
          obtain ⟨hxl, hxk⟩ := HS.obj_some hx
          have := isD_upd (H' := untieH H x) hok hxl (y := { x with dirty := false }) rfl rfl j
          rw [hxk] at this
          exact this
    · have h : ¬ (untieF H o.k).2 = true := fun h' => h ⟨k5, h'⟩
      unfold untieF at h ⊢
      cases hx : H.obj o.k with
      | none => rfl
      | some x =>
        rw [hx] at h
        dsimp only at h ⊢
        split
        · rfl
        · rename_i hc
          rw [if_neg hc] at h
          exact absurd rfl h
  by_cases k4 : o.kind = 4
  · have e : doF H o = ((tieF H o.k o.i).1, { noT with e := (tieF H o.k o.i).2 }) := by unfold doF; rw [k4]; rfl
    rw [e]
    dsimp only
    have hL : (tieF H o.k o.i).1.L = H.L := by
      unfold tieF
      cases H.obj o.k with
      | none => rfl
      | some x =>
        dsimp only
        split
        · rfl
        · split <;> rfl
    have hs : ∀ j, isD (tieF H o.k o.i).1 j = isD H j := fun j => by unfold isD HS.obj; rw [hL]
    refine ⟨fun h => by omega, fun h => absurd h k9, fun h j => ?_, fun _ _ _ _ j => hs j⟩
    rw [hs]
    split
    · rename_i hj
      rw [hj]
      have h : (tieF H o.k o.i).2 = 0 := by
        rcases h with h | h | h
        · omega
        · omega
        · exact h.2
      unfold tieF at h
      cases hx : H.obj o.k with
      | none => exact isD_no hx
      | some x =>
        rw [hx] at h
        dsimp only at h
        rw [isD_of hx]
        obtain ⟨hxl, hxk⟩ := HS.obj_some hx
        cases hd : x.dirty with
        | false => rfl
        | true =>
          exfalso
          obtain ⟨p, hp, hpx⟩ := hok.dirty x hxl hd
          split at h
          · cases h
          · rename_i h1
            split at h
            · cases h
            · rename_i h2
              refine h2 (.inl ?_)
              cases ho : H.oidOf o.k with
              | some v => rfl
              | none =>
                have := HS.oid_none ho p hp
                omega
    · rfl
  refine ⟨fun h => absurd h.1 k3, fun h => absurd h k9, fun h => ?_, fun _ _ _ _ j => ?_⟩
  · rcases h with h | h | h
    · exact absurd h k9
    · exact absurd h.1 k5
    · exact absurd h.1 k4
  · unfold doF
    split
    · dsimp only
      rcases allocF_cases H o.o with ⟨e, _⟩ | ⟨e, _⟩
      · rw [e]; exact isD_alloc H o.o j
      · rw [e]
    · split
      · rfl
      · split
        · rfl
        · split
          · rfl
          · split
            · rfl
            · split
              · dsimp only
                unfold fillF
                cases hx : H.obj o.k with
                | none => rfl
                | some x =>
                  dsimp only
                  obtain ⟨hxl, hxk⟩ := HS.obj_some hx
                  split
                  · rfl
                  · split
                    · rfl
                    · split
                      · rfl
                      · have := isD_upd (H' := fillH H x o.o) hok hxl (y := ⟨x.h, o.o, x.dirty⟩) rfl rfl j
                        rw [this]
                        split
                        · rename_i e; rw [e, hxk, isD_of hx]
                        · rfl
              · split
                · exact isD_collect hok o.roots j
                · rfl
/-- The row of what is dirty. -/
def dB (H : HS) : List Bool := (List.range 101).map fun (j : Nat) => isD H (j : Int)
theorem dB_len (H : HS) : (dB H).length = 101 := by unfold dB; simp
theorem dB_get (H : HS) {j : Nat} (hj : j ≤ 100) : (dB H)[j]? = some (isD H (j : Int)) := by
  unfold dB
  rw [List.getElem?_map, List.getElem?_range (by omega)]
  rfl
theorem dB_same {H H2 : HS} (h : ∀ j, isD H2 j = isD H j) : dB H2 = dB H := by
  unfold dB
  exact List.map_congr_left fun j _ => h _
theorem dB_set {H H2 : HS} {k : Nat} {v : Bool} (hk : k ≤ 100) (h : ∀ j, isD H2 j = if j = (k : Int) then v else isD H j) : dB H2 = (dB H).set k v := by
  apply List.ext_getElem?
  intro j
  by_cases hj : j ≤ 100
  · rw [dB_get H2 hj, h]
    by_cases e : j = k
    · subst e
      rw [if_pos rfl, List.getElem?_set_self (by rw [dB_len]; omega)]
    · rw [if_neg (by omega), List.getElem?_set_ne (fun e' => e e'.symm), dB_get H hj]
  · rw [List.getElem?_eq_none (by rw [dB_len]; omega), List.getElem?_eq_none (by rw [List.length_set, dB_len]; omega)]
theorem dB_new (l : Nat) : dB (newH l) = List.replicate 101 false := by
  apply List.ext_getElem?
  intro j
  by_cases hj : j ≤ 100
  · rw [dB_get _ hj, List.getElem?_replicate, if_pos (by omega)]
    rfl
  · rw [List.getElem?_eq_none (by rw [dB_len]; omega), List.getElem?_eq_none (by simp; omega)]
end Go.Proofs.Ytclkkfffecmjnaa
