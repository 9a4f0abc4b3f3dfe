/- cover: infos in memory; an asking as it is built. -/
import Derived.Test.YtigaondgopahgaaFc
namespace Go.Proofs.Ytigaondgopahgaa
open Go.RowKit Ty
set_option linter.unusedVariables false
set_option linter.unusedSimpArgs false
/-- An info, with its numbers. -/
structure InfX where
  i : Inf
  p : Int
  m : Int
def InfX.cells (x : InfX) : List Value := [.string (str x.i.nm), .string (str x.i.of), .int .i64 x.p, .int .i64 x.m, .bool x.i.has]
/-- Infos in memory. -/
structure IAt (F : Nat → Prop) (w : World) (A : Option Addr) (n c : Nat) (xs : List InfX) : Prop where
  len : xs.length = n
  le : n ≤ c
  cap : c ≤ maxLen
  at_ : ∀ (r : Nat) (x : InfX), xs[r]? = some x → ∃ b off, A = some ⟨b, off, none⟩ ∧ F b ∧ b < w.heap.size ∧ (∀ (j : Nat) (v : Value), x.cells[j]? = some v → w.cell? ⟨b, off + r * 5 + j, none⟩ = some v) ∧ x.i.nm.length ≤ maxLen ∧ x.i.of.length ≤ maxLen
theorem IAt.bel {F : Nat → Prop} {w w' : World} {A : Option Addr} {n c : Nat} {xs : List InfX} (h : IAt F w A n c xs) (hb : Below w.heap.size w w') : IAt F w' A n c xs := ⟨h.len, h.le, h.cap, fun r x hx => by
  obtain ⟨b, off, e, h1, h2, h3, h4⟩ := h.at_ r x hx
  exact ⟨b, off, e, h1, Nat.lt_of_lt_of_le h2 hb.size, fun j v hj => (hb.cell (p := ⟨b, _, none⟩) h2).trans (h3 j v hj), h4⟩⟩
theorem inf_snoc (l : List Inf) (i : Inf) (s : List UInt8) : inf (l ++ [i]) s = if (inf l s).isSome then inf l s else if i.nm = s then some i else none := by
  unfold inf
  rw [List.find?_append]
  cases h : l.find? fun i => i.nm == s with
  | some x => simp
  | none =>
    by_cases e : i.nm = s
    · simp [e]
    · simp [e]
theorem firsts_snoc (l : List Inf) (i : Inf) : firsts (l ++ [i]) = if (firsts l).any (fun x => x.nm == i.nm) then firsts l else firsts l ++ [i] := by
  unfold firsts
  rw [List.foldl_append]
  rfl
theorem firsts_any (l : List Inf) (s : List UInt8) : (firsts l).any (fun x => x.nm == s) = (inf l s).isSome := by
  have key : ∀ n, n ≤ l.length → (firsts (l.take n)).any (fun x => x.nm == s) = (inf (l.take n) s).isSome := by
    intro n
    induction n with
    | zero => intro _; rw [List.take_zero]; rfl
    | succ n ih =>
      intro hn
      have h1 := ih (by omega)
      rw [List.take_add_one, List.getElem?_eq_getElem (by omega)]
      show (firsts (l.take n ++ [_])).any _ = (inf (l.take n ++ [_]) s).isSome
      generalize l[n] = i
      rw [firsts_snoc, inf_snoc]
      cases h2 : (inf (l.take n) s).isSome with
      | true =>
        rw [h2] at h1
        rw [if_pos rfl, h2]
        split
        · exact h1
        · rw [List.any_append, h1]; rfl
      | false =>
        rw [h2] at h1
        simp only [Bool.false_eq_true, if_false]
        by_cases e : i.nm = s
        · subst e
          rw [h1]
          simp only [Bool.false_eq_true, if_false, if_true]
          rw [List.any_append, h1]
          simp
        · rw [if_neg e]
          split
          · rw [h1]; rfl
          · rw [List.any_append, h1]; simp [e]
  have := key l.length (Nat.le_refl _)
  rwa [List.take_length] at this
theorem many_old {l : List Inf} {i : Inf} (h : (inf l i.nm).isSome = true) (s : List UInt8) : manyOf (l ++ [i]) s = manyOf l s := by
  unfold manyOf
  rw [firsts_snoc, firsts_any, h]
  rfl
theorem many_new {l : List Inf} {i : Inf} (h : (inf l i.nm).isSome = false) (s : List UInt8) : manyOf (l ++ [i]) s = if s = i.of then manyOf l s + 1 else manyOf l s := by
  unfold manyOf
  rw [firsts_snoc, firsts_any, h]
  simp only [Bool.false_eq_true, if_false, List.filter_append, List.length_append]
  by_cases e : s = i.of
  · subst e; simp
  · rw [if_neg e]
    have : (i.of == s) = false := by simpa using fun e2 : i.of = s => e e2.symm
    simp [this]
theorem inf_old {l : List Inf} {i : Inf} (h : (inf l i.nm).isSome = true) (s : List UInt8) : inf (l ++ [i]) s = inf l s := by
  rw [inf_snoc]
  split
  · rfl
  · rename_i h2
    rw [if_neg (fun e => h2 (by rw [← e]; exact h))]
    cases h3 : inf l s with
    | none => rfl
    | some x => rw [h3] at h2; simp at h2
theorem inf_new {l : List Inf} {i : Inf} (h : (inf l i.nm).isSome = false) (s : List UInt8) : inf (l ++ [i]) s = if s = i.nm then some i else inf l s := by
  rw [inf_snoc]
  by_cases e : s = i.nm
  · subst e; rw [if_neg (by rw [h]; simp), if_pos rfl, if_pos rfl]
  · rw [if_neg e]
    split
    · rfl
    · rename_i h2
      rw [if_neg (fun e2 => e e2.symm)]
      cases h3 : inf l s with
      | none => rfl
      | some x => rw [h3] at h2; simp at h2
/-- An asking as it is built; what it has made lies from base on. -/
structure AskB (base : Nat) (w : World) (b1 b2 n : Nat) (l : List Inf) : Prop where
  infos : ∃ (pf : List UInt8 → Int × Int), SMap w b1 n (fun s => (inf l s).map fun i => infV i (pf s).1 (pf s).2)
  of : ∃ (vf : List UInt8 → Value), SMap w b2 n (fun s => if manyOf l s = 0 then none else some (vf s)) ∧ (∀ s, manyOf l s ≠ 0 → ∃ xs, w.ownsRow base 9 1 (vf s) (manyOf l s) xs) ∧ ∀ s s', s ≠ s' → manyOf l s ≠ 0 → manyOf l s' ≠ 0 → (vf s).ownBlock ≠ (vf s').ownBlock
  lt1 : b1 < base
  lt2 : b2 < base
  ne : b1 ≠ b2
  base_le : base ≤ w.heap.size
theorem AskB.bel {base : Nat} {w w' : World} {b1 b2 n : Nat} {l : List Inf} (h : AskB base w b1 b2 n l) (hb : Below w.heap.size w w') : AskB base w' b1 b2 n l := by
  obtain ⟨⟨pf, h1⟩, ⟨vf, h2, h3, h4⟩, h5, h6, h7, h8⟩ := h
  exact ⟨⟨pf, h1.bel hb⟩, ⟨vf, h2.bel hb, fun s hs => by obtain ⟨xs, hx⟩ := h3 s hs; exact ⟨xs, own_below hx hb⟩, h4⟩, h5, h6, h7, Nat.le_trans h8 hb.size⟩
theorem AskB.ask {base : Nat} {w : World} {b1 b2 n : Nat} {l : List Inf} (h : AskB base w b1 b2 n l) : Ask Everywhere w b1 b2 n l := by
  obtain ⟨h1, ⟨vf, h2, h3, h4⟩, h5, h6, h7, h8⟩ := h
  refine ⟨h1, ⟨vf, h2, fun s hs => ?_⟩, trivial, trivial⟩
  obtain ⟨xs, hx⟩ := h3 s hs
  rcases hx.2 with ⟨e, h0⟩ | ⟨g, cap, cur, e, _⟩
  · exact absurd h0 hs
  · exact ⟨_, _, e⟩
/-- One that is there already. -/
theorem AskB.old {base : Nat} {w : World} {b1 b2 n : Nat} {l : List Inf} {i : Inf} (h : AskB base w b1 b2 n l) (hi : (inf l i.nm).isSome = true) : AskB base w b1 b2 n (l ++ [i]) := by
  obtain ⟨⟨pf, h1⟩, ⟨vf, h2, h3, h4⟩, h5, h6, h7, h8⟩ := h
  refine ⟨⟨pf, ?_⟩, ⟨vf, ?_, ?_, ?_⟩, h5, h6, h7, h8⟩
  · simp only [inf_old hi]; exact h1
  · simp only [many_old hi]; exact h2
  · simp only [many_old hi]; exact h3
  · simp only [many_old hi]; exact h4
/-- One that is new: first the map of infos .. -/
theorem AskB.put1 {base : Nat} {w : World} {b1 b2 n : Nat} {l : List Inf} (h : AskB base w b1 b2 n l) (i : Inf) (p m : Int) (hi : (inf l i.nm).isSome = false) (hnm : i.nm.length ≤ maxLen) (hn : n < 1000000) :
    ∃ w', (Instr.mapUpdate 54 (.map (some b1)) (.string (str i.nm)) (infV i p m)).run Try.prog w = .ok () w' ∧ Off (fun k => k = b1) w w' ∧ ∃ pf : List UInt8 → Int × Int, SMap w' b1 (n + 1) (fun s => (inf (l ++ [i]) s).map fun i => infV i (pf s).1 (pf s).2) := by
  obtain ⟨⟨pf, h1⟩, _⟩ := h
  obtain ⟨w', hr, h2, h3⟩ := h1.put Try.underlying54 i.nm hnm (infV i p m) hn
  refine ⟨w', hr, h3, fun s => if s = i.nm then (p, m) else pf s, ?_⟩
  have : (fun s => (inf (l ++ [i]) s).map fun j => infV j (if s = i.nm then (p, m) else pf s).1 (if s = i.nm then (p, m) else pf s).2) = fun x => if x = i.nm then some (infV i p m) else (inf l x).map fun i => infV i (pf x).1 (pf x).2 := by
    funext s
    rw [inf_new hi]
    by_cases e : s = i.nm
    · subst e; simp
    · simp [e]
  rw [this]
  exact h2
/-- .. then its datatype's row: the lookup, the append, the store. -/
theorem AskB.put2 {base : Nat} {w w1 w2 : World} {b1 b2 n : Nat} {l : List Inf} (h : AskB base w b1 b2 n l) (i : Inf) (hi : (inf l i.nm).isSome = false) (ho1 : Off (fun k => k = b1) w w1) (hpf : ∃ pf : List UInt8 → Int × Int, SMap w1 b1 (n + 1) (fun s => (inf (l ++ [i]) s).map fun i => infV i (pf s).1 (pf s).2))
    (hb2 : Below w1.heap.size w1 w2) (hB : Blk w2 w1.heap.size 9 #[.string (str i.nm)]) (hof : i.of.length ≤ maxLen) (hn : n < 1000000) (hml : manyOf l i.of < 1000000) :
    ∃ A c v' w3 w4, (∀ W, Off (fun k => k = b1) w W → (Instr.lookup 55 (.map (some b2)) (.string (str i.of)) false).run Try.prog W = .ok (.slice A (manyOf l i.of) c) W) ∧
      (Builtin.append_ #[59, 59] 59 #[.slice A (manyOf l i.of) c, .slice (some ⟨w1.heap.size, 0, none⟩) 1 1]).run Try.prog w2 = .ok v' w3 ∧
      (Instr.mapUpdate 55 (.map (some b2)) (.string (str i.of)) v').run Try.prog w3 = .ok () w4 ∧ AskB base w4 b1 b2 (n + 1) (l ++ [i]) ∧ Off (fun k => base ≤ k ∧ k < w.heap.size) w2 w3 ∧ Off (fun k => k = b2 ∨ (base ≤ k ∧ k < w.heap.size)) w2 w4 := by
  obtain ⟨_, ⟨vf, h2, h3, h4⟩, h5, h6, h7, h8⟩ := h
  have hsz1 := ho1.size
  have hsz2 := hb2.size
  obtain ⟨v, hv, xs, hx⟩ : ∃ v, (if manyOf l i.of = 0 then Value.slice none 0 0 else vf i.of) = v ∧ ∃ xs, w.ownsRow base 9 1 v (manyOf l i.of) xs := by
    by_cases e : manyOf l i.of = 0
    · rw [if_pos e, e]; exact ⟨_, rfl, [], World.ownsRow_nil _ _ _ _⟩
    · rw [if_neg e]; exact ⟨_, rfl, h3 _ e⟩
  obtain ⟨A, c, hAc⟩ : ∃ A c, v = .slice A (manyOf l i.of) c := by
    rcases hx.2 with ⟨e, h0⟩ | ⟨g, cap, cur, e, _⟩
    · rw [h0]; exact ⟨_, _, e⟩
    · exact ⟨_, _, e⟩
  have hoff : ∀ {v : Value} {n : Nat} {xs : List Value}, w.ownsRow base 9 1 v n xs → w2.ownsRow base 9 1 v n xs := fun {v n xs} hx => own_below (hx.kept (row := some b1) ⟨ho1.os, ho1.tape, ho1.output, ho1.size, fun k hk hn => ho1.block k hk fun e => hn (by rw [e])⟩ (.inr fun e => by have := (hx.lt b1 e).1; omega)) hb2
  have hI : (Try.prog.info? 9).map (fun i => (i.zero, i.size, i.bytes)) = some (some (.string ⟨#[]⟩), 1, 16) := by kernel_rfl
  obtain ⟨i0, hi0, hz0, hz1, hz2⟩ := info_parts hI
  have hx2 := hoff hx
  obtain ⟨v', w3, hrun, hO3, hgr, _, h53⟩ := run_append_own_at (P := Try.prog) w2 base 59 59 9 i0 (.string ⟨#[]⟩) 1 16 Try.underlying59 hi0 hz0 hz1 hz2 rfl (by decide) v (manyOf l i.of) xs hx2 ⟨w1.heap.size, 0, none⟩ 1 1 [.string (str i.nm)] rfl
    (fun j u hj => by
      have hj0 : j = 0 := by have := (List.getElem?_eq_some_iff.1 hj).1; simpa using this
      subst hj0
      rw [add_off, Nat.zero_add, hB.cell 0]
      exact hj)
    (fun u hu => by rw [List.mem_singleton.1 hu]; rfl) (by unfold maxLen; omega) (by omega) (by omega)
  have ho3 : Off (fun k => v.ownBlock = some k) w2 w3 := Off.of_grown hgr
  have hown : ∀ k, v.ownBlock = some k → base ≤ k := fun k e => (hx2.lt k e).1
  have hM2 : SMap w3 b2 n (fun s => if manyOf l s = 0 then none else some (vf s)) := by
    have hA : SMap w1 b2 n _ := h2.same (ho1.block _ h2.lt (fun e => h7 e.symm))
    have hA2 : SMap w2 b2 n _ := hA.bel hb2
    exact hA2.same (ho3.block _ hA2.lt fun e => by have := hown _ e; omega)
  obtain ⟨w4, hup, hM4, ho4⟩ := hM2.put Try.underlying55 i.of hof v' hn
  have hb1w : b1 < w.heap.size := by omega
  have hP4 : ∃ pf : List UInt8 → Int × Int, SMap w4 b1 (n + 1) (fun s => (inf (l ++ [i]) s).map fun i => infV i (pf s).1 (pf s).2) := by
    obtain ⟨pf, hp⟩ := hpf
    have hp2 := hp.bel hb2
    have hp3 := hp2.same (ho3.block _ hp2.lt fun e => by have := hown _ e; omega)
    exact ⟨pf, hp3.same (ho4.block _ hp3.lt h7)⟩
  refine ⟨A, c, v', w3, w4, fun W hW => ?_, by rw [← hAc]; exact hrun, hup, ⟨hP4, ⟨fun s => if s = i.of then v' else vf s, ?_, fun s hs => ?_, fun s s' hss hs hs' => ?_⟩, h5, h6, h7, by have := ho3.size; have := ho4.size; omega⟩, ?_⟩
  · have hz : (zeroValue 59).run Try.prog W = .ok (.slice none 0 0) W := by kernel_rfl
    have hl := (h2.same (hW.block _ h2.lt (fun e => h7 e.symm))).look Try.underlying55 hz false i.of hof
    rw [hl]
    by_cases e : manyOf l i.of = 0
    · rw [if_pos e] at hv ⊢
      simp only [Option.getD_none, Bool.false_eq_true, if_false]
      rw [hv, hAc]
    · rw [if_neg e] at hv ⊢
      simp only [Option.getD_some, Bool.false_eq_true, if_false]
      rw [hv, hAc]
  · have : (fun s => if manyOf (l ++ [i]) s = 0 then none else some (if s = i.of then v' else vf s)) = fun x => if x = i.of then some v' else if manyOf l x = 0 then none else some (vf x) := by
      funext s
      rw [many_new hi]
      by_cases e : s = i.of
      · simp [e]
      · simp [e]
    rw [this]
    exact hM4
  · have hk4 : ∀ {v : Value} {n : Nat} {xs : List Value}, w3.ownsRow base 9 1 v n xs → w4.ownsRow base 9 1 v n xs := fun {v n xs} hx => hx.kept (row := some b2) ⟨ho4.os, ho4.tape, ho4.output, ho4.size, fun k hk hn => ho4.block k hk fun e => hn (by rw [e])⟩ (.inr fun e => by have := (hx.lt b2 e).1; omega)
    rw [many_new hi] at hs ⊢
    by_cases e : s = i.of
    · subst e
      simp only [if_true]
      exact ⟨_, hk4 hO3⟩
    · rw [if_neg e] at hs ⊢
      simp only [e, if_false]
      obtain ⟨ys, hy⟩ := h3 s hs
      refine ⟨ys, hk4 ((hoff hy).kept hgr (.inr fun e2 => ?_))⟩
      by_cases e0 : manyOf l i.of = 0
      · rw [if_pos e0] at hv
        rw [← hv] at e2
        rcases hy.2 with ⟨_, h0⟩ | ⟨g, cap, cur, e3, _⟩
        · exact hs h0
        · rw [e3] at e2; cases e2
      · rw [if_neg e0] at hv
        exact h4 i.of s (fun e3 => e e3.symm) e0 hs (by rw [hv]; exact e2.symm)
  · have hnone : ∀ s, manyOf l s ≠ 0 → (vf s).ownBlock ≠ none := fun s hs e2 => by
      obtain ⟨ys, hy⟩ := h3 s hs
      rcases hy.2 with ⟨_, h0⟩ | ⟨g, cap, cur, e3, _⟩
      · exact hs h0
      · rw [e3] at e2; cases e2
    have hlt : ∀ s, manyOf l s ≠ 0 → ∀ k, (vf s).ownBlock = some k → k < w.heap.size := fun s hs k e2 => by
      obtain ⟨ys, hy⟩ := h3 s hs
      exact (hy.lt k e2).2
    have key : ∀ t, t ≠ i.of → manyOf l t ≠ 0 → v'.ownBlock ≠ (vf t).ownBlock := fun t ht hmt e2 => by
      rcases h53 with h53 | h53
      · rw [h53] at e2
        by_cases e0 : manyOf l i.of = 0
        · rw [if_pos e0] at hv
          rw [← hv] at e2
          exact hnone t hmt e2.symm
        · rw [if_neg e0] at hv
          rw [← hv] at e2
          exact h4 i.of t (fun e3 => ht e3.symm) e0 hmt e2
      · rw [h53] at e2
        have := hlt t hmt _ e2.symm
        omega
    rw [many_new hi] at hs hs'
    by_cases e : s = i.of
    · have e' : s' ≠ i.of := fun e3 => hss (e.trans e3.symm)
      rw [if_neg e'] at hs'
      simp only [e, e', if_true, if_false]
      exact key s' e' hs'
    · rw [if_neg e] at hs
      by_cases e' : s' = i.of
      · simp only [e, e', if_true, if_false]
        exact (key s e hs).symm
      · rw [if_neg e'] at hs'
        simp only [e, e', if_false]
        exact h4 s s' hss hs hs'
  · have h23 : Off (fun k => base ≤ k ∧ k < w.heap.size) w2 w3 := ho3.mono fun k _ e => hx.lt k e
    exact ⟨h23, (h23.mono fun k _ e => .inr e).then ho4 fun k _ e => .inl e⟩
theorem step_app {P : Program} {ops : Array Oper} {o : Oper} {a : Act} {w : World} {K : Act → World → Prop} {Q : Exit → Act → World → Prop} {E : Prop} (hg : o.guard = none) (s x : Operand) (t : TypeId)
    (hop : o.op = Op.call { callee := Callee.builtin Builtin.append, args := #[s, x], argTypes := #[t, t] }) (v xv v' : Value) (w' : World) (hs : a.eval s = v) (hx : a.eval x = xv)
    (hrun : (Builtin.append_ #[t, t] o.type #[v, xv]).run P w = .ok v' w') (hK : K (a.put o.dst v') w') : if Region.wanted o (yielded ops a.tmps) = true then Oper.wp P o a w K Q else E := by
  rw [if_pos (show Region.wanted o (yielded ops a.tmps) = true by simp [Region.wanted, hg])]
  unfold Oper.wp execOp
  simp only [hop, resolve, invoke, builtin, Sem.run_bind, Sem.run_pure, Result.andThen_ok, List.map_toArray, List.map_cons, List.map_nil, hs, hx, hrun]
  exact hK
end Go.Proofs.Ytigaondgopahgaa
