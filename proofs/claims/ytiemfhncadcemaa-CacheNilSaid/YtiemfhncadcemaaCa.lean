/- cache: a map from sectors to frames, in memory. -/
import Derived.Test.YtiemfhncadcemaaImg
import Derived.Maps.OwnSet
namespace Go.Proofs.Ytiemfhncadcemaa
open Go.RowKit Dsk

/-- How a pointer reads: the block that it points to. -/
def refD : Option Nat → DataW Unit
  | none => .lit (.int .i64 (-1))
  | some g => .lit (.int .i64 (g : Int))
theorem refD_inj {a b : Option Nat} (h : refD a = refD b) : a = b := by
  cases a with
  | none =>
    cases b with
    | none => rfl
    | some y =>
      have h : (DataW.lit (.int .i64 (-1)) : DataW Unit) = .lit (.int .i64 (y : Int)) := h
      simp only [DataW.lit.injEq, Lit.int.injEq, true_and] at h
      omega
  | some x =>
    cases b with
    | none =>
      have h : (DataW.lit (.int .i64 (x : Int)) : DataW Unit) = .lit (.int .i64 (-1)) := h
      simp only [DataW.lit.injEq, Lit.int.injEq, true_and] at h
      omega
    | some y =>
      have h : (DataW.lit (.int .i64 (x : Int)) : DataW Unit) = .lit (.int .i64 (y : Int)) := h
      simp only [DataW.lit.injEq, Lit.int.injEq, true_and] at h
      congr 1
      omega
def ptrR (v : Value) : Option (DataW Unit × List MemPlace) := match v with
  | .pointer none => some (refD none, [])
  | .pointer (some ⟨g, 0, none⟩) => some (refD (some g), [])
  | _ => none
def ptrV (o : Option Nat) : Value := .pointer (o.map fun g => ⟨g, 0, none⟩)
theorem ptrR_V (o : Option Nat) : ptrR (ptrV o) = some (refD o, []) := by cases o <;> rfl
theorem ptrR_inv {v : Value} {o : Option Nat} {ps : List MemPlace} (h : ptrR v = some (refD o, ps)) : v = ptrV o := by
  unfold ptrR at h
  split at h
  · injection h with h
    injection h with h1 h2
    rw [← refD_inj h1]; rfl
  · rename_i g
    injection h with h
    injection h with h1 h2
    rw [← refD_inj h1]; rfl
  · cases h
/-- Block b is a map of k entries that says S: which block a key has. -/
def PMap (w : World) (b n k : Nat) (S : Int → Option Nat) : Prop :=
  ∃ D : DataW Unit, w.ownsMap Try.prog 3 ptrR b n D ∧ Maps.size D = k ∧ ∀ i : Int, (Lit.int .i64 i).wf = true → D.atKey (.int .i64 i) (refD none) = refD (S i) ∧ Maps.has D (.int .i64 i) = (S i).isSome
theorem PMap.same {w w' : World} {b n k : Nat} {S : Int → Option Nat} (h : PMap w b n k S) (hb : w'.heap[b]? = w.heap[b]?) : PMap w' b n k S := by
  obtain ⟨D, ⟨es, clock, h1, h2⟩, h3⟩ := h
  exact ⟨D, ⟨es, clock, hb.trans h1, h2⟩, h3⟩
theorem PMap.lt {w : World} {b n k : Nat} {S : Int → Option Nat} (h : PMap w b n k S) : b < w.heap.size := by obtain ⟨D, h1, _⟩ := h; exact h1.lt
theorem PMap.le {w : World} {b n k : Nat} {S : Int → Option Nat} (h : PMap w b n k S) : k ≤ n := by obtain ⟨D, h1, h2, _⟩ := h; rw [← h2]; exact h1.size_le
theorem PMap.made (w : World) : PMap (w.alloc (.map #[] 0)) w.heap.size 0 0 (fun _ => none) := ⟨_, World.ownsMap_made w _ _ _, rfl, fun _ _ => ⟨rfl, rfl⟩⟩
theorem PMap.look {w : World} {b n k : Nat} {S : Int → Option Nat} (h : PMap w b n k S) (i : Int) (hi : (Lit.int .i64 i).wf = true) :
    (Instr.lookup 63 (.map (some b)) (.int .i64 i) false).run Try.prog w = .ok (ptrV (S i)) w := by
  obtain ⟨D, h1, _, h2⟩ := h
  have hz : (zeroValue 68).run Try.prog w = .ok (.pointer none) w := by kernel_rfl
  obtain ⟨v, ps, hr, hv⟩ := h1.lookup (Maps.int_keyed Try.underlying3) Try.underlying63 hz (zd := refD none) (zp := []) rfl (Maps.keyOf_int_mk Try.underlying3 hi)
  rw [(h2 i hi).1] at hv
  rw [ptrR_inv hv] at hr
  exact hr
theorem PMap.len {w : World} {b n k : Nat} {S : Int → Option Nat} (h : PMap w b n k S) (ty : TypeId) :
    (Builtin.len_ #[63] ty #[.map (some b)]).run Try.prog w = .ok (.int .i64 (k : Int)) w := by
  obtain ⟨D, h1, h2, _⟩ := h
  rw [← h2]
  exact h1.len Try.underlying63 ty
theorem PMap.put {w : World} {b n k : Nat} {S : Int → Option Nat} (h : PMap w b n k S) (i : Int) (g : Nat) (hi : (Lit.int .i64 i).wf = true) (hn : n < 1000000) :
    ∃ w', (Instr.mapUpdate 63 (.map (some b)) (.int .i64 i) (.pointer (some ⟨g, 0, none⟩))).run Try.prog w = .ok () w' ∧ PMap w' b (n + 1) (if (S i).isSome then k else k + 1) (fun j => if j = i then some g else S j) ∧ Off (fun k => k = b) w w' := by
  obtain ⟨D, h1, hs, h2⟩ := h
  obtain ⟨w', hr, h3, h4⟩ := h1.update (Maps.int_keyed Try.underlying3) Try.underlying63 (by unfold maxLen; omega) (Maps.keyOf_int_mk Try.underlying3 hi) (ptrR_V (some g))
  have hT := h1.tidy (Maps.int_keyed Try.underlying3)
  refine ⟨w', hr, ⟨_, h3, ?_, fun j hj => ?_⟩, (Off.of_grown h4).mono fun k _ e => by cases e; rfl⟩
  · rw [Maps.size_put hT, (h2 i hi).2, hs]
  · have hM : Maps.IsMap D := h1.isMap
    by_cases e : j = i
    · subst e
      dsimp only
      rw [if_pos rfl]
      exact ⟨Maps.atKey_put_same hM (by simp [WideAt.IsKeyLit]) _ _, Maps.has_put_same hM (by simp [WideAt.IsKeyLit]) _⟩
    · dsimp only
      rw [if_neg e]
      exact ⟨(Maps.atKey_put_other (by simpa using e) _ _).trans (h2 j hj).1, (Maps.has_put_other (by simpa using e) _).trans (h2 j hj).2⟩
theorem PMap.drop {w : World} {b n k : Nat} {S : Int → Option Nat} (h : PMap w b n k S) (i : Int) (hi : (Lit.int .i64 i).wf = true) (ty : TypeId) :
    ∃ w', (Builtin.delete_ #[63, 3] ty #[.map (some b), .int .i64 i]).run Try.prog w = .ok (.tuple #[]) w' ∧ PMap w' b n (if (S i).isSome then k - 1 else k) (fun j => if j = i then none else S j) ∧ Off (fun k => k = b) w w' := by
  obtain ⟨D, h1, hs, h2⟩ := h
  obtain ⟨w', hr, h3, h4⟩ := h1.drop (Maps.int_keyed Try.underlying3) Try.underlying63 (Maps.keyOf_int_mk Try.underlying3 hi) ty
  have hT := h1.tidy (Maps.int_keyed Try.underlying3)
  refine ⟨w', hr, ⟨_, h3, ?_, fun j hj => ?_⟩, ?_⟩
  · have := Maps.size_del (k := .int .i64 i) hT
    rw [(h2 i hi).2, hs] at this
    split
    · rename_i e
      rw [e] at this
      simp at this
      omega
    · rename_i e
      have e : (S i).isSome = false := by simpa using e
      rw [e] at this
      simpa using this
  · by_cases e : j = i
    · subst e
      dsimp only
      rw [if_pos rfl]
      exact ⟨Maps.atKey_del_same _, Maps.has_del_same⟩
    · dsimp only
      rw [if_neg e]
      exact ⟨(Maps.atKey_del_other (by simpa using e) _).trans (h2 j hj).1, (Maps.has_del_other (by simpa using e)).trans (h2 j hj).2⟩
  · exact (Off.of_grown (World.mapTurned.grown h4)).mono fun k _ e => by cases e; rfl
end Go.Proofs.Ytiemfhncadcemaa
