/- Appending a text to a row of bytes. -/
import Derived.Test.YtobfglnopihibaaH
namespace Go.Proofs.Ytobfglnopihibaa
open Go.RowKit Rcd

theorem run_rwappX {w : World} {g len cap : Nat} {cs xs : List UInt8} (h : Rw w g len cap cs) (tx : TypeId) (x : Value) (n : Nat) (hn : xs.length = n) (hs0 : Src Try.prog 1 tx x n (xs.map bv) w) (hb : len + n ≤ 140737488355328) :
    ∃ g' cap' w', (Builtin.append_ #[28, tx] 28 #[.slice (some ⟨g, 0, none⟩) len cap, x]).run Try.prog w = .ok (.slice (some ⟨g', 0, none⟩) (len + n) cap') w' ∧
      Rw w' g' (len + n) cap' (cs ++ xs) ∧ Rw w' g len cap cs ∧ (g' = g ∧ cap' = cap ∨ g' = w.heap.size) ∧ (∀ k, k < w.heap.size → k ≠ g → w'.heap[k]? = w.heap[k]?) ∧ (∀ B, B ≤ g → Below B w w') := by
  obtain ⟨i0, hi, hz0, hz1, hz2⟩ := info_parts Try.info8
  have hs := hs0
  rw [← hz1] at hs
  have hml : (cs ++ xs).length = len + n := by rw [List.length_append, h.long, hn]
  by_cases hroom : len + n ≤ cap
  · have hr := run_append_room_src (P := Try.prog) w 28 tx 28 5 i0 Try.underlying28 hi g 0 len cap _ n _ hs hroom
      (fun j hj => by rw [hz1]; simp at hj; exact (h.there _ (by omega)).1) (fun j hj => by rw [hz1]; simp at hj; exact (h.there _ (by omega)).2)
    rw [hz1, Nat.zero_add, Nat.mul_one] at hr
    obtain ⟨o1, o2, o3, o4, o5, o6⟩ := setCells_other g (xs.map bv) len w
    have hin := World.cell?_setCells_in g (xs.map bv) len w (fun j hj => by simp at hj; exact (h.there _ (by omega)).1)
    have hout := fun k (hk : k < len ∨ len + n ≤ k) => World.cell?_setCells_out g (xs.map bv) len w ⟨g, k, none⟩ (fun _ _ => by simp; omega)
    have hth : ∀ j, j < cap → ((w.setCells g len (xs.map bv)).cell? ⟨g, j, none⟩).isSome = true ∧ (w.setCells g len (xs.map bv)).frozen? ⟨g, j, none⟩ = false := fun j hj => by
      refine ⟨?_, by rw [o6]; exact (h.there j hj).2⟩
      by_cases h1 : j < len ∨ len + n ≤ j
      · rw [hout j h1]; exact (h.there j hj).1
      · have := hin (j - len) (by simp; omega)
        rw [show len + (j - len) = j by omega] at this
        rw [this]; rfl
    have hol : ∀ (j : Nat) (c : UInt8), cs[j]? = some c → (w.setCells g len (xs.map bv)).cell? ⟨g, j, none⟩ = some (bv c) := fun j c hj => by
      have hjl := (List.getElem?_eq_some_iff.1 hj).1
      rw [h.long] at hjl
      rw [hout j (.inl hjl)]; exact h.holds j c hj
    refine ⟨g, cap, _, hr, ⟨by rw [o4]; exact h.lt, hml, hroom, h.max, fun j c hj => ?_, hth⟩, ⟨by rw [o4]; exact h.lt, h.long, h.le, h.max, hol, hth⟩, .inl ⟨rfl, rfl⟩, fun k _ hk => o5 k hk, fun B hB => ⟨o1, o2, o3, by rw [o4]; exact Nat.le_refl _, fun k hk => o5 k (by omega)⟩⟩
    by_cases hjl : j < len
    · rw [List.getElem?_append_left (by rw [h.long]; exact hjl)] at hj
      exact hol j c hj
    · rw [List.getElem?_append_right (by rw [h.long]; omega), h.long] at hj
      have hj' := (List.getElem?_eq_some_iff.1 hj).1
      have := hin (j - len) (by simp; exact hj')
      rw [show len + (j - len) = j by omega] at this
      rw [this]
      obtain ⟨_, e⟩ := List.getElem?_eq_some_iff.1 hj
      rw [List.getElem_map, e]
  · have hho : (Builtin.firstCells i0.size len (.slice (some ⟨g, 0, none⟩) len cap)).run Try.prog w.drew = .ok (cs.map bv).toArray w.drew := by
      rw [hz1]
      exact run_firstCells_some w.drew 1 len ⟨g, 0, none⟩ len cap (cs.map bv) (by simp [h.long]) (fun j u hu => by
        rw [List.getElem?_map] at hu
        cases hj : cs[j]? with
        | none => rw [hj] at hu; cases hu
        | some d =>
          rw [hj] at hu
          simp only [Option.map_some, Option.some.injEq] at hu
          subst hu
          rw [Addr.add_lit, Nat.zero_add]
          exact h.holds j d hj)
    have hmx := h.max
    have hr := run_append_grow_src (P := Try.prog) w 28 tx 28 5 i0 _ Try.underlying28 hi hz0 (some ⟨g, 0, none⟩) len cap _ hho _ n _ hs (by omega) (by omega) (growslice_fits (by omega) (by rw [hz2]; omega))
    have hge := grownCap_ge w (len + n) cap 5
    have hcm := grownCap_le_maxLen w (len + n) cap 5 (by unfold maxLen; omega)
    refine ⟨w.heap.size, _, _, hr, ?_, h.frame (by simp) (Below.heap_alloc w.drew _ g h.lt), .inr rfl, fun k hk _ => Below.heap_alloc w.drew _ k hk, fun B hB => ⟨rfl, rfl, rfl, by simp, fun k hk => Below.heap_alloc w.drew _ k (show k < w.heap.size by have := h.lt; omega)⟩⟩
    have hcell := fun j => World.cell?_alloc_new w.drew ((List.map bv cs ++ List.map bv xs).toArray ++ Builtin.zeroCells (Value.int IntKind.u8 0).cells (grownCap w (len + n) cap 5 - (len + n))) 5 j
    refine ⟨by simp, hml, hge, hcm, fun j c hj => ?_, fun j hj => ⟨?_, World.frozen?_alloc_new w.drew _ _ j⟩⟩
    · refine (hcell j).trans ?_
      have hj' := (List.getElem?_eq_some_iff.1 hj).1
      rw [Array.getElem?_append_left (by simpa using hj'), List.getElem?_toArray, ← List.map_append, List.getElem?_map, hj]
      rfl
    · have e1 := hcell j
      refine (congrArg Option.isSome e1).trans ?_
      rw [Array.getElem?_eq_getElem]
      · rfl
      · rw [Array.size_append, size_zeroCells]
        simp only [List.size_toArray, List.length_append, List.length_map, h.long, hn]
        show j < len + n + (grownCap w (len + n) cap 5 - (len + n)) * 1
        omega

theorem byteCells_str (bs : List UInt8) : byteCells (str bs) = bs.map bv := by
  unfold byteCells str bv
  simp
theorem str_size (bs : List UInt8) : (str bs).size = bs.length := by simp [str, ByteArray.size]
theorem run_rwappS {w : World} {g len cap : Nat} {cs xs : List UInt8} (h : Rw w g len cap cs) (n : Nat) (hn : xs.length = n) (hb : len + n ≤ 140737488355328) :
    ∃ g' cap' w', (Builtin.append_ #[28, 9] 28 #[.slice (some ⟨g, 0, none⟩) len cap, .string (str xs)]).run Try.prog w = .ok (.slice (some ⟨g', 0, none⟩) (len + n) cap') w' ∧
      Rw w' g' (len + n) cap' (cs ++ xs) ∧ Rw w' g len cap cs ∧ (g' = g ∧ cap' = cap ∨ g' = w.heap.size) ∧ (∀ k, k < w.heap.size → k ≠ g → w'.heap[k]? = w.heap[k]?) ∧ (∀ B, B ≤ g → Below B w w') := by
  have hs := Src.ofString (P := Try.prog) (w := w) Try.underlying9 (str xs)
  rw [byteCells_str, str_size, hn] at hs
  exact run_rwappX h 9 (.string (str xs)) n hn hs hb

/-- append of a value of another type, where its run is known. -/
theorem wpList_app2 {P : Program} {w : World} {ops : Array Oper} {rest : List Oper} {o : Oper} {a : Act} {Q : Exit → Act → World → Prop} (hgd : o.guard = none) (s x : Operand) (t tx : TypeId)
    (ho : o.op = .call { callee := .builtin .append, args := #[s, x], argTypes := #[t, tx] }) (v xv v' : Value) (w' : World) (hs : a.eval s = v) (hx : a.eval x = xv)
    (hrun : (Builtin.append_ #[t, tx] o.type #[v, xv]).run P w = .ok v' w') (h : wpList P ops Q rest (a.put o.dst v') w') : wpList P ops Q (o :: rest) a w :=
  wpList_plain hgd fun K hK => by
    unfold Oper.wp execOp
    simp only [ho, resolve, invoke, builtin, Sem.run_bind, Sem.run_pure, Result.andThen_ok, List.map_toArray, List.map_cons, List.map_nil, hs, hx, hrun]
    exact hK _ _ h

theorem Rw.of_row {w : World} {g n : Nat} {bs : List UInt8} (h : Blk w g 5 (row8 bs)) (hn : bs.length = n) (hm : n ≤ maxLen) : Rw w g n n bs :=
  ⟨h.lt, hn, Nat.le_refl _, hm, fun j c hj => by rw [h.cell j, row8_get j c hj], fun j hj => ⟨by rw [h.cell j, row8]; simp; omega, h.frozen j⟩⟩
end Go.Proofs.Ytobfglnopihibaa
