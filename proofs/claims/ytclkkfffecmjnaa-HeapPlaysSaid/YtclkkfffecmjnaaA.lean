/- heap: a map from handles to objects, and maps of numbers, in memory. -/
import Derived.Test.YtclkkfffecmjnaaM
import Derived.WideKeyEntry
namespace Go.Proofs.Ytclkkfffecmjnaa
open Go.RowKit
/-- How a pointer reads: the block that it points to. -/
def refD : Option Nat → DataW Unit
  | none => .lit (.int .i64 (-1))
  | some g => .lit (.int .i64 (g : Int))
theorem refD_inj {a b : Option Nat} (h : refD a = refD b) : a = b := by
  cases a with
  | none =>
    cases b with
    | none => rfl
    | some y =>
      have h : (DataW.lit (.int .i64 (-1)) : DataW Unit) = .lit (.int .i64 (y : Int)) := h
      simp only [DataW.lit.injEq, Lit.int.injEq, true_and] at h
      omega
  | some x =>
    cases b with
    | none =>
      have h : (DataW.lit (.int .i64 (x : Int)) : DataW Unit) = .lit (.int .i64 (-1)) := h
      simp only [DataW.lit.injEq, Lit.int.injEq, true_and] at h
      omega
    | some y =>
      have h : (DataW.lit (.int .i64 (x : Int)) : DataW Unit) = .lit (.int .i64 (y : Int)) := h
      simp only [DataW.lit.injEq, Lit.int.injEq, true_and] at h
      congr 1
      omega
def ptrR (v : Value) : Option (DataW Unit × List MemPlace) := match v with
  | .pointer none => some (refD none, [])
  | .pointer (some ⟨g, 0, none⟩) => some (refD (some g), [])
  | _ => none
def ptrV (o : Option Nat) : Value := .pointer (o.map fun g => ⟨g, 0, none⟩)
theorem ptrR_V (o : Option Nat) : ptrR (ptrV o) = some (refD o, []) := by cases o <;> rfl
theorem ptrR_inv {v : Value} {o : Option Nat} {ps : List MemPlace} (h : ptrR v = some (refD o, ps)) : v = ptrV o := by
  unfold ptrR at h
  split at h
  · injection h with h
    injection h with h1 h2
    rw [← refD_inj h1]; rfl
  · rename_i g
    injection h with h
    injection h with h1 h2
    rw [← refD_inj h1]; rfl
  · cases h
/-- Block b is a map of k entries that says S: which block a key has. -/
def PMap (w : World) (b n k : Nat) (S : Int → Option Nat) : Prop :=
  ∃ D : DataW Unit, w.ownsMap Try.prog 3 ptrR b n D ∧ Maps.size D = k ∧ ∀ i : Int, (Lit.int .i64 i).wf = true → D.atKey (.int .i64 i) (refD none) = refD (S i) ∧ Maps.has D (.int .i64 i) = (S i).isSome
theorem PMap.same {w w' : World} {b n k : Nat} {S : Int → Option Nat} (h : PMap w b n k S) (hb : w'.heap[b]? = w.heap[b]?) : PMap w' b n k S := by
  obtain ⟨D, ⟨es, clock, h1, h2⟩, h3⟩ := h
  exact ⟨D, ⟨es, clock, hb.trans h1, h2⟩, h3⟩
theorem PMap.lt {w : World} {b n k : Nat} {S : Int → Option Nat} (h : PMap w b n k S) : b < w.heap.size := by obtain ⟨D, h1, _⟩ := h; exact h1.lt
theorem PMap.le {w : World} {b n k : Nat} {S : Int → Option Nat} (h : PMap w b n k S) : k ≤ n := by obtain ⟨D, h1, h2, _⟩ := h; rw [← h2]; exact h1.size_le
theorem PMap.made (w : World) : PMap (w.alloc (.map #[] 0)) w.heap.size 0 0 (fun _ => none) := ⟨_, World.ownsMap_made w _ _ _, rfl, fun _ _ => ⟨rfl, rfl⟩⟩
theorem PMap.look {w : World} {b n k : Nat} {S : Int → Option Nat} (h : PMap w b n k S) (i : Int) (hi : (Lit.int .i64 i).wf = true) :
    (Instr.lookup 77 (.map (some b)) (.int .i64 i) false).run Try.prog w = .ok (ptrV (S i)) w := by
  obtain ⟨D, h1, _, h2⟩ := h
  have hz : (zeroValue 89).run Try.prog w = .ok (.pointer none) w := by kernel_rfl
  obtain ⟨v, ps, hr, hv⟩ := h1.lookup (Maps.int_keyed Try.underlying3) Try.underlying77 hz (zd := refD none) (zp := []) rfl (Maps.keyOf_int_mk Try.underlying3 hi)
  rw [(h2 i hi).1] at hv
  rw [ptrR_inv hv] at hr
  exact hr
theorem PMap.len {w : World} {b n k : Nat} {S : Int → Option Nat} (h : PMap w b n k S) (ty : TypeId) :
    (Builtin.len_ #[77] ty #[.map (some b)]).run Try.prog w = .ok (.int .i64 (k : Int)) w := by
  obtain ⟨D, h1, h2, _⟩ := h
  rw [← h2]
  exact h1.len Try.underlying77 ty
theorem PMap.put {w : World} {b n k : Nat} {S : Int → Option Nat} (h : PMap w b n k S) (i : Int) (g : Nat) (hi : (Lit.int .i64 i).wf = true) (hn : n < 1000000) :
    ∃ w', (Instr.mapUpdate 77 (.map (some b)) (.int .i64 i) (.pointer (some ⟨g, 0, none⟩))).run Try.prog w = .ok () w' ∧ PMap w' b (n + 1) (if (S i).isSome then k else k + 1) (fun j => if j = i then some g else S j) ∧ Off (fun k => k = b) w w' := by
  obtain ⟨D, h1, hs, h2⟩ := h
  obtain ⟨w', hr, h3, h4⟩ := h1.update (Maps.int_keyed Try.underlying3) Try.underlying77 (by unfold maxLen; omega) (Maps.keyOf_int_mk Try.underlying3 hi) (ptrR_V (some g))
  have hT := h1.tidy (Maps.int_keyed Try.underlying3)
  refine ⟨w', hr, ⟨_, h3, ?_, fun j hj => ?_⟩, (Off.of_grown h4).mono fun k _ e => by cases e; rfl⟩
  · rw [Maps.size_put hT, (h2 i hi).2, hs]
  · have hM : Maps.IsMap D := h1.isMap
    by_cases e : j = i
    · subst e
      dsimp only
      rw [if_pos rfl]
      exact ⟨Maps.atKey_put_same hM (by simp [WideAt.IsKeyLit]) _ _, Maps.has_put_same hM (by simp [WideAt.IsKeyLit]) _⟩
    · dsimp only
      rw [if_neg e]
      exact ⟨(Maps.atKey_put_other (by simpa using e) _ _).trans (h2 j hj).1, (Maps.has_put_other (by simpa using e) _).trans (h2 j hj).2⟩
theorem PMap.drop {w : World} {b n k : Nat} {S : Int → Option Nat} (h : PMap w b n k S) (i : Int) (hi : (Lit.int .i64 i).wf = true) (ty : TypeId) :
    ∃ w', (Builtin.delete_ #[77, 3] ty #[.map (some b), .int .i64 i]).run Try.prog w = .ok (.tuple #[]) w' ∧ PMap w' b n (if (S i).isSome then k - 1 else k) (fun j => if j = i then none else S j) ∧ Off (fun k => k = b) w w' := by
  obtain ⟨D, h1, hs, h2⟩ := h
  obtain ⟨w', hr, h3, h4⟩ := h1.drop (Maps.int_keyed Try.underlying3) Try.underlying77 (Maps.keyOf_int_mk Try.underlying3 hi) ty
  have hT := h1.tidy (Maps.int_keyed Try.underlying3)
  refine ⟨w', hr, ⟨_, h3, ?_, fun j hj => ?_⟩, ?_⟩
  · have := Maps.size_del (k := .int .i64 i) hT
    rw [(h2 i hi).2, hs] at this
    split
    · rename_i e
      rw [e] at this
      simp at this
      omega
    · rename_i e
      have e : (S i).isSome = false := by simpa using e
      rw [e] at this
      simpa using this
  · by_cases e : j = i
    · subst e
      dsimp only
      rw [if_pos rfl]
      exact ⟨Maps.atKey_del_same _, Maps.has_del_same⟩
    · dsimp only
      rw [if_neg e]
      exact ⟨(Maps.atKey_del_other (by simpa using e) _).trans (h2 j hj).1, (Maps.has_del_other (by simpa using e)).trans (h2 j hj).2⟩
  · exact (Off.of_grown (World.mapTurned.grown h4)).mono fun k _ e => by cases e; rfl

/-- How a number reads. -/
def numD (i : Int) : DataW Unit := .lit (.int .i64 i)
theorem numD_inj {a b : Int} (h : numD a = numD b) : a = b := by
  unfold numD at h
  simpa using h
def numR (v : Value) : Option (DataW Unit × List MemPlace) := match v with
  | .int .i64 i => some (numD i, [])
  | _ => none
theorem numR_inv {v : Value} {i : Int} {ps : List MemPlace} (h : numR v = some (numD i, ps)) : v = .int .i64 i := by
  unfold numR at h
  split at h
  · injection h with h
    injection h with h1 h2
    rw [numD_inj h1]
  · cases h
/-- Block b is a map of k entries that says S: which number a key has. -/
def NMap (w : World) (b n k : Nat) (S : Int → Option Nat) : Prop :=
  ∃ D : DataW Unit, w.ownsMap Try.prog 3 numR b n D ∧ Maps.size D = k ∧ ∀ i : Int, (Lit.int .i64 i).wf = true → D.atKey (.int .i64 i) (numD 0) = numD ((S i).getD 0 : Nat) ∧ Maps.has D (.int .i64 i) = (S i).isSome
theorem NMap.same {w w' : World} {b n k : Nat} {S : Int → Option Nat} (h : NMap w b n k S) (hb : w'.heap[b]? = w.heap[b]?) : NMap w' b n k S := by
  obtain ⟨D, ⟨es, clock, h1, h2⟩, h3⟩ := h
  exact ⟨D, ⟨es, clock, hb.trans h1, h2⟩, h3⟩
theorem NMap.lt {w : World} {b n k : Nat} {S : Int → Option Nat} (h : NMap w b n k S) : b < w.heap.size := by obtain ⟨D, h1, _⟩ := h; exact h1.lt
theorem NMap.made (w : World) : NMap (w.alloc (.map #[] 0)) w.heap.size 0 0 (fun _ => none) := ⟨_, World.ownsMap_made w _ _ _, rfl, fun _ _ => ⟨rfl, rfl⟩⟩
theorem NMap.mono {w : World} {b n n' k : Nat} {S : Int → Option Nat} (h : NMap w b n k S) (hn : n ≤ n') : NMap w b n' k S := by
  obtain ⟨D, h1, h2⟩ := h
  exact ⟨D, h1.mono hn, h2⟩
theorem NMap.look {w : World} {b n k : Nat} {S : Int → Option Nat} (h : NMap w b n k S) (i : Int) (hi : (Lit.int .i64 i).wf = true) :
    (Instr.lookup 78 (.map (some b)) (.int .i64 i) true).run Try.prog w = .ok (.tuple #[.int .i64 ((S i).getD 0 : Nat), .bool (S i).isSome]) w := by
  obtain ⟨D, h1, _, h2⟩ := h
  have hz : (zeroValue 3).run Try.prog w = .ok (.int .i64 0) w := by kernel_rfl
  obtain ⟨v, ps, hr, hv⟩ := h1.look_ok (Maps.int_keyed Try.underlying3) Try.underlying78 hz (zd := numD 0) (zp := []) rfl (Maps.keyOf_int_mk Try.underlying3 hi)
  rw [(h2 i hi).1] at hv
  rw [(h2 i hi).2, numR_inv hv] at hr
  exact hr
theorem NMap.put {w : World} {b n k : Nat} {S : Int → Option Nat} (h : NMap w b n k S) (i : Int) (v : Nat) (hi : (Lit.int .i64 i).wf = true) (hn : n < 1000000) :
    ∃ w', (Instr.mapUpdate 78 (.map (some b)) (.int .i64 i) (.int .i64 (v : Int))).run Try.prog w = .ok () w' ∧ NMap w' b (n + 1) (if (S i).isSome then k else k + 1) (fun j => if j = i then some v else S j) ∧ Off (fun k => k = b) w w' := by
  obtain ⟨D, h1, hs, h2⟩ := h
  obtain ⟨w', hr, h3, h4⟩ := h1.update (Maps.int_keyed Try.underlying3) Try.underlying78 (by unfold maxLen; omega) (Maps.keyOf_int_mk Try.underlying3 hi) (val := .int .i64 (v : Int)) (d := numD (v : Int)) (ps := []) rfl
  have hT := h1.tidy (Maps.int_keyed Try.underlying3)
  refine ⟨w', hr, ⟨_, h3, ?_, fun j hj => ?_⟩, (Off.of_grown h4).mono fun k _ e => by cases e; rfl⟩
  · rw [Maps.size_put hT, (h2 i hi).2, hs]
  · have hM : Maps.IsMap D := h1.isMap
    by_cases e : j = i
    · subst e
      dsimp only
      rw [if_pos rfl]
      exact ⟨Maps.atKey_put_same hM (by simp [WideAt.IsKeyLit]) _ _, Maps.has_put_same hM (by simp [WideAt.IsKeyLit]) _⟩
    · dsimp only
      rw [if_neg e]
      exact ⟨(Maps.atKey_put_other (by simpa using e) _ _).trans (h2 j hj).1, (Maps.has_put_other (by simpa using e) _).trans (h2 j hj).2⟩
theorem NMap.drop {w : World} {b n k : Nat} {S : Int → Option Nat} (h : NMap w b n k S) (i : Int) (hi : (Lit.int .i64 i).wf = true) (ty : TypeId) :
    ∃ w', (Builtin.delete_ #[78, 3] ty #[.map (some b), .int .i64 i]).run Try.prog w = .ok (.tuple #[]) w' ∧ NMap w' b n (if (S i).isSome then k - 1 else k) (fun j => if j = i then none else S j) ∧ Off (fun k => k = b) w w' := by
  obtain ⟨D, h1, hs, h2⟩ := h
  obtain ⟨w', hr, h3, h4⟩ := h1.drop (Maps.int_keyed Try.underlying3) Try.underlying78 (Maps.keyOf_int_mk Try.underlying3 hi) ty
  have hT := h1.tidy (Maps.int_keyed Try.underlying3)
  refine ⟨w', hr, ⟨_, h3, ?_, fun j hj => ?_⟩, ?_⟩
  · have := Maps.size_del (k := .int .i64 i) hT
    rw [(h2 i hi).2, hs] at this
    split
    · rename_i e
      rw [e] at this
      simp at this
      omega
    · rename_i e
      have e : (S i).isSome = false := by simpa using e
      rw [e] at this
      simpa using this
  · by_cases e : j = i
    · subst e
      dsimp only
      rw [if_pos rfl]
      exact ⟨Maps.atKey_del_same _, Maps.has_del_same⟩
    · dsimp only
      rw [if_neg e]
      exact ⟨(Maps.atKey_del_other (by simpa using e) _).trans (h2 j hj).1, (Maps.has_del_other (by simpa using e)).trans (h2 j hj).2⟩
  · exact (Off.of_grown (World.mapTurned.grown h4)).mono fun k _ e => by cases e; rfl
/-- m[i] = v in an assignment of two: the entry is made, then stored into. -/
theorem NMap.enter {w : World} {b n k : Nat} {S : Int → Option Nat} (h : NMap w b n k S) (i : Int) (v : Nat) (hi : (Lit.int .i64 i).wf = true) (hn : n < 1000000) (hS : S i = none) :
    ∃ st w1, (Instr.mapEntry 78 (.map (some b)) (.int .i64 i)).run Try.prog w = .ok (.tuple #[.int .i64 0, .int .i64 st]) w1 ∧ Off (fun k => k = b) w w1 ∧
      ∀ w2 : World, w2.heap[b]? = w1.heap[b]? → ∃ w3, (Instr.entryStore 78 (.map (some b)) (.int .i64 st) (.int .i64 (v : Int))).run Try.prog w2 = .ok () w3 ∧ NMap w3 b (n + 1) (k + 1) (fun j => if j = i then some v else S j) ∧ Off (fun k => k = b) w2 w3 := by
  obtain ⟨w', hr, hN, ho⟩ := h.put i v hi hn
  rw [hS] at hN
  have hN : NMap w' b (n + 1) (k + 1) (fun j => if j = i then some v else S j) := hN
  obtain ⟨D, ⟨es, clock, hb, F, hsz, hD⟩, _, h2⟩ := h
  have K := Maps.int_keyed (P := Try.prog) Try.underlying3
  have hkey : keyOf Try.prog 3 (.int .i64 i) = some (.int .i64 i) := Maps.keyOf_int_mk Try.underlying3 hi
  have ht := Try.underlying78
  have hz : ∀ u : World, (zeroValue 3).run Try.prog u = .ok (.int .i64 0) u := fun u => by kernel_rfl
  obtain ⟨hno, hne⟩ : (Instr.findKey 3 (.int .i64 i) es.toList).run Try.prog w = .ok none w ∧ ∀ e ∈ es.toList, e.key ≠ .int .i64 i := by
    rcases K.find w hkey es.toList F.keys with h1 | ⟨j, e0, h1, h3, h4⟩
    · exact h1
    · exfalso
      have h5 := (h2 i hi).2
      rw [hS, hD] at h5
      rcases Maps.fit_look true K ht (hz w) hb F hkey with ⟨_, h6, _⟩ | ⟨e1, y, _, _, _, _, h6, _⟩
      · exact h6 e0 (List.mem_of_getElem? h3) h4
      · rw [Maps.has_true_of_atKey h6] at h5
        cases h5
  obtain ⟨s1, s2, _⟩ := F.stamped
  have hup : (Instr.mapUpdate 78 (.map (some b)) (.int .i64 i) (.int .i64 (v : Int))).run Try.prog w = .ok () (ChangeMaps.setBlock w b (.map (es.push ⟨.int .i64 i, .int .i64 (v : Int), clock⟩) (clock + 1))) := by
    simp [Instr.mapUpdate, run_underlying ht, MapKept.run_getObj_map hb, K.check w false hkey, hno, MapKept.run_setObj_map _ hb, Result.andThen, ChangeMaps.setBlock]
  rw [hup] at hr
  injection hr with hr1 hr2
  refine ⟨(clock : Int), ChangeMaps.setBlock w b (.map (es.push ⟨.int .i64 i, .int .i64 0, clock⟩) (clock + 1)), ?_, ⟨rfl, rfl, rfl, by simp [ChangeMaps.setBlock], fun q _ hq => ChangeMaps.heap_setBlock_other hb _ (fun e => hq e)⟩, fun w2 hw2 => ?_⟩
  · simp [Instr.mapEntry, run_underlying ht, MapKept.run_getObj_map hb, K.check w false hkey, hno, hz, MapKept.run_setObj_map _ hb, Result.andThen, ChangeMaps.setBlock, goInt]
  · rw [ChangeMaps.heap_setBlock_same hb] at hw2
    have hidx : (es.push ⟨.int .i64 i, .int .i64 0, clock⟩).findIdx? (fun e => ((e.born : Nat) : Int) == ((clock : Nat) : Int)) = some es.size := by
      rw [WideElems.findIdx_arr]
      exact WideElems.findIdx_born (l := (es.push ⟨.int .i64 i, .int .i64 0, clock⟩).toList) (j := es.size) (e0 := ⟨.int .i64 i, .int .i64 0, clock⟩) (by
        rw [Array.toList_push, List.map_append, List.nodup_append]
        refine ⟨s2, by simp, fun a ha c hc e1 => ?_⟩
        obtain ⟨x, hx, rfl⟩ := List.mem_map.1 ha
        have := s1 x hx
        simp at hc
        omega) (by simp)
    have hmod : (es.push ⟨.int .i64 i, .int .i64 0, clock⟩).modify es.size (fun e => { e with val := .int .i64 (v : Int) }) = es.push ⟨.int .i64 i, .int .i64 (v : Int), clock⟩ := by
      apply Array.ext'
      rw [Array.toList_modify, Array.toList_push, Array.toList_push, ← Array.length_toList, WideElems.modify_last]
    refine ⟨ChangeMaps.setBlock w2 b (.map (es.push ⟨.int .i64 i, .int .i64 (v : Int), clock⟩) (clock + 1)), ?_, hN.same ?_, ⟨rfl, rfl, rfl, by simp [ChangeMaps.setBlock], fun q _ hq => ChangeMaps.heap_setBlock_other hw2 _ (fun e => hq e)⟩⟩
    · simp [Instr.entryStore, MapKept.run_getObj_map hw2, asInt, asIntOf, hidx, hmod, MapKept.run_setObj_map _ hw2, Result.andThen, ChangeMaps.setBlock]
    · rw [ChangeMaps.heap_setBlock_same hw2, ← hr2, ChangeMaps.heap_setBlock_same hb]
end Go.Proofs.Ytclkkfffecmjnaa
