/- heap: Dirty. -/
import Derived.Test.YtclkkfffecmjnaaQa
import Derived.Test.YtclkkfffecmjnaaIn
import Derived.Shelf.Slices.In.SortNone
import Derived.Lib.OwnBridge
import Derived.Maps.RangeWalk
namespace Go.Proofs.Ytclkkfffecmjnaa
open Go.RowKit Go.Sort
/-- The step of a range over a map of pointers. -/
theorem next_ptr (w : World) {ops : Array Oper} {rest : List Oper} {o : Oper} {a : Act} {Q : Exit → Act → World → Prop} (hg : o.guard = none) (it : Operand) (hop : o.op = Op.next it false) (S : Int → Option Nat)
    (b r n : Nat) (D : DataW Unit) (left : Lit → Bool) (cnt : Nat) (hS : ∀ i : Int, (Lit.int .i64 i).wf = true → D.atKey (.int .i64 i) (refD none) = refD (S i) ∧ Maps.has D (.int .i64 i) = (S i).isSome) (hsub : ∀ z, left z = true → Maps.has D z = true)
    (hit : a.eval it = .pointer (some ⟨r, 0, none⟩)) (h : w.ranges Try.prog 3 ptrR b r n D left cnt)
    (hDone : cnt = 0 → (∀ kl, left kl = false) → wpList Try.prog ops Q rest (a.put o.dst (.tuple #[.bool false])) w)
    (hMore : ∀ (x : Int) (f : Nat) (w' : World) (cnt' : Nat), (Lit.int .i64 x).wf = true → left (.int .i64 x) = true → S x = some f → w'.ranges Try.prog 3 ptrR b r n D (fun z => left z && !z.sameKey (.int .i64 x)) cnt' → cnt' < cnt →
      w.grownBy w' (some r) → w'.heap.size = w.heap.size → (Instr.entry (.pointer (some ⟨r, 0, none⟩))).run Try.prog w' = .ok (.tuple #[.int .i64 x, .pointer (some ⟨f, 0, none⟩)]) w' → wpList Try.prog ops Q rest (a.put o.dst (.tuple #[.bool true, .int .i64 x, .pointer (some ⟨f, 0, none⟩)])) w') :
    wpList Try.prog ops Q (o :: rest) a w :=
  wpList_next_ranges w hg it hop 3 (Maps.int_keyed Try.underlying3) ptrR (Value.int .i64) ptrV (fun key kl hkey => by obtain ⟨x, rfl, _⟩ := Maps.keyOf_int_inv Try.underlying3 hkey; exact ⟨x, rfl⟩)
    (fun v y hv => by
      unfold ptrR at hv
      split at hv
      · exact ⟨none, rfl⟩
      · exact ⟨some _, rfl⟩
      · cases hv)
    b r n D left cnt hit h hDone (fun x c kl y w' cnt' hkey hlk hv hat hrg hlt hgr hsz hen => by
      obtain ⟨x', ex, rfl, hwx⟩ := Maps.keyOf_int_inv Try.underlying3 hkey
      cases ex
      rw [ptrR_V] at hv
      injection hv with hv
      subst hv
      obtain ⟨h1, h2⟩ := hS x hwx
      rw [hat] at h1
      have hc : c = S x := refD_inj h1
      rw [hsub _ hlk] at h2
      cases c with
      | none => rw [← hc] at h2; cases h2
      | some f => exact hMore x f w' cnt' hwx hlk hc.symm hrg hlt hgr hsz hen)
/-- The step of a range over a map of numbers. -/
theorem next_num (w : World) {ops : Array Oper} {rest : List Oper} {o : Oper} {a : Act} {Q : Exit → Act → World → Prop} (hg : o.guard = none) (it : Operand) (hop : o.op = Op.next it false) (S : Int → Option Nat)
    (b r n : Nat) (D : DataW Unit) (left : Lit → Bool) (cnt : Nat) (hS : ∀ i : Int, (Lit.int .i64 i).wf = true → D.atKey (.int .i64 i) (numD 0) = numD ((S i).getD 0 : Nat) ∧ Maps.has D (.int .i64 i) = (S i).isSome) (hsub : ∀ z, left z = true → Maps.has D z = true)
    (hit : a.eval it = .pointer (some ⟨r, 0, none⟩)) (h : w.ranges Try.prog 3 numR b r n D left cnt)
    (hDone : cnt = 0 → (∀ kl, left kl = false) → wpList Try.prog ops Q rest (a.put o.dst (.tuple #[.bool false])) w)
    (hMore : ∀ (x : Int) (f : Nat) (w' : World) (cnt' : Nat), (Lit.int .i64 x).wf = true → left (.int .i64 x) = true → S x = some f → w'.ranges Try.prog 3 numR b r n D (fun z => left z && !z.sameKey (.int .i64 x)) cnt' → cnt' < cnt →
      w.grownBy w' (some r) → w'.heap.size = w.heap.size → (Instr.entry (.pointer (some ⟨r, 0, none⟩))).run Try.prog w' = .ok (.tuple #[.int .i64 x, .int .i64 (f : Int)]) w' → wpList Try.prog ops Q rest (a.put o.dst (.tuple #[.bool true, .int .i64 x, .int .i64 (f : Int)])) w') :
    wpList Try.prog ops Q (o :: rest) a w :=
  wpList_next_ranges w hg it hop 3 (Maps.int_keyed Try.underlying3) numR (Value.int .i64) (fun c : Int => Value.int .i64 c) (fun key kl hkey => by obtain ⟨x, rfl, _⟩ := Maps.keyOf_int_inv Try.underlying3 hkey; exact ⟨x, rfl⟩)
    (fun v y hv => by
      unfold numR at hv
      split at hv
      · exact ⟨_, rfl⟩
      · cases hv)
    b r n D left cnt hit h hDone (fun x c kl y w' cnt' hkey hlk hv hat hrg hlt hgr hsz hen => by
      obtain ⟨x', ex, rfl, hwx⟩ := Maps.keyOf_int_inv Try.underlying3 hkey
      cases ex
      have hv : some (numD c, ([] : List MemPlace)) = some y := hv
      injection hv with hv
      subst hv
      obtain ⟨h1, h2⟩ := hS x hwx
      rw [hat] at h1
      have hc : c = ((S x).getD 0 : Nat) := numD_inj h1
      rw [hsub _ hlk] at h2
      cases hs : S x with
      | none => rw [hs] at h2; cases h2
      | some f =>
        rw [hs] at hc
        have hc : c = (f : Int) := hc
        subst hc
        exact hMore x f w' cnt' hwx hlk hs hrg hlt hgr hsz hen)
theorem same_int {a b : Int} : (Lit.int .i64 a).sameKey (.int .i64 b) = decide (a = b) := by
  by_cases h : a = b
  · subst h
    rw [WideAt.sameKey_self (by simp [WideAt.IsKeyLit])]
    simp
  · cases hh : (Lit.int .i64 a).sameKey (.int .i64 b) with
    | false => simp [h]
    | true =>
      have := WideAt.sameKey_eq hh
      simp at this
      exact absurd this h
def nums (V : List Nat) : List Int := V.map fun (z : Nat) => (z : Int)
theorem nums_len (V : List Nat) : (nums V).length = V.length := List.length_map _
theorem nums_get {V : List Nat} {k z : Nat} (h : V[k]? = some z) : (nums V)[k]? = some (z : Int) := by unfold nums; rw [List.getElem?_map, h]; rfl
theorem IntsZ.holds {W : World} {q c : Nat} {zs : List Int} (h : IntsZ W (.slice (some ⟨q, 0, none⟩) zs.length c) zs) : Holds (Value.int .i64) W q 0 zs.toArray := by
  obtain ⟨_, _, e, _, _, _, _, h6⟩ := Lib.holds_of_ownsRow (enc := Value.int .i64) h.own (by simp)
  injection e with e1 e2 e3
  have e1 := Option.some.inj e1
  injection e1 with e4
  subst e4
  exact h6.2

/-- The handles of those that are dirty. -/
def dirtyL (H : HS) : List Nat := (H.L.filter fun x => x.dirty).map fun x => x.h
theorem dirtyL_mem {H : HS} {v : Nat} : v ∈ dirtyL H ↔ ∃ x ∈ H.L, x.dirty = true ∧ x.h = v := by
  unfold dirtyL
  rw [List.mem_map]
  constructor
  · rintro ⟨x, hx, e⟩
    obtain ⟨h1, h2⟩ := List.mem_filter.1 hx
    exact ⟨x, h1, h2, e⟩
  · rintro ⟨x, h1, h2, e⟩
    exact ⟨x, List.mem_filter.2 ⟨h1, h2⟩, e⟩
theorem nums_mem {V : List Nat} {z : Int} : z ∈ nums V ↔ ∃ v ∈ V, (v : Int) = z := by unfold nums; rw [List.mem_map]
theorem nums_sort {V W : List Nat} (hV : V.Nodup) (hW : W.Pairwise fun a b => a < b) (hm : ∀ v, v ∈ V ↔ v ∈ W) : (nums V).mergeSort (fun x y => decide (x ≤ y)) = nums W := by
  have hnd : ∀ {V : List Nat}, V.Nodup → (nums V).Nodup := fun {V} h => by
    unfold nums List.Nodup
    rw [List.pairwise_map]
    exact h.imp fun {a b} hab e => hab (by omega)
  have hWn : W.Nodup := hW.imp fun {a b} h => by omega
  refine List.Perm.eq_of_pairwise (le := fun a b : Int => a ≤ b) (fun a b _ _ h1 h2 => by omega) ?_ ?_ ((List.mergeSort_perm _ _).trans ?_)
  · exact (List.pairwise_mergeSort (le := fun x y : Int => decide (x ≤ y)) (fun a b c h1 h2 => by simp at h1 h2 ⊢; omega) (fun a b => by simp; omega) (nums V)).imp fun {a b} h => by simpa using h
  · unfold nums
    rw [List.pairwise_map]
    exact hW.imp fun {a b} h => by omega
  · rw [List.perm_ext_iff_of_nodup (hnd hV) (hnd hWn)]
    intro z
    rw [nums_mem, nums_mem]
    constructor
    · rintro ⟨v, h1, h2⟩; exact ⟨v, (hm v).1 h1, h2⟩
    · rintro ⟨v, h1, h2⟩; exact ⟨v, (hm v).2 h1, h2⟩
theorem dirtyL_rise {H : HS} {t : Nat} (hok : H.Ok t) : (dirtyL H).Pairwise fun a b => a < b := by
  unfold dirtyL
  rw [List.pairwise_map]
  exact hok.rise.filter _
/-- Between the rounds. -/
structure DrI (w wr : World) (v : Value) (V : List Nat) : Prop where
  ints : IntsZ wr v (nums V)
  own : ∀ j, v.ownBlock = some j → w.heap.size + 1 ≤ j
  bel : Below w.heap.size w wr
  sz : w.heap.size + 1 ≤ wr.heap.size
theorem DrI.frame {w wr w2 : World} {v : Value} {V : List Nat} (h : DrI w wr v V) (hg : wr.grownBy w2 (some w.heap.size)) : DrI w w2 v V :=
  ⟨h.ints.same fun k hk => hg.block k (h.ints.lt k hk) (fun e => by have := Option.some.inj e; have := h.own k hk; omega), h.own,
    h.bel.grown hg h.bel.size (fun k e => by have := Option.some.inj e; omega), Nat.le_trans h.sz hg.size⟩
theorem DrI.push {w W : World} {v : Value} {V : List Nat} (h : DrI w W v V) (z : Nat) (hl : V.length < 1000000) :
    ∃ v' w5, (Builtin.append_ #[41, 41] 41 #[v, .slice (some ⟨W.heap.size, 0, none⟩) 1 1]).run Try.prog (W.alloc (.cells #[.int .i64 (z : Int)] 3)) = .ok v' w5 ∧ DrI w w5 v' (V ++ [z]) ∧ W.grownBy w5 v.ownBlock := by
  have hg0 : W.grownBy (W.alloc (.cells #[.int .i64 (z : Int)] 3)) none := World.grownBy_alloc W _ none
  have h1 : IntsZ (W.alloc (.cells #[.int .i64 (z : Int)] 3)) v (nums V) := h.ints.same fun k hk => hg0.block k (h.ints.lt k hk) (by simp)
  obtain ⟨v', w5, hrun, h2, h3, h4⟩ := h1.push (z : Int) W.heap.size ((Blk.new W _ _).cell 0) (by rw [nums_len]; exact hl)
  have e : nums V ++ [(z : Int)] = nums (V ++ [z]) := by unfold nums; rw [List.map_append]; rfl
  rw [e] at h2
  have hg : W.grownBy w5 v.ownBlock := ⟨h3.os, h3.tape, h3.output, Nat.le_trans hg0.size h3.size, fun k hk hn => (h3.block k (Nat.lt_of_lt_of_le hk hg0.size) hn).trans (hg0.block k hk (by simp))⟩
  have hs := h.sz
  refine ⟨v', w5, hrun, ⟨h2, fun j hj => ?_, h.bel.grown hg h.bel.size (fun k e => by have := h.own k e; omega), Nat.le_trans hs hg.size⟩, hg⟩
  rcases h4 with h4 | h4
  · rw [h4] at hj; exact h.own j hj
  · rw [h4, World.size_alloc] at hj
    have := Option.some.inj hj
    omega
theorem ints_of {W : World} {A : Option Addr} {l c : Nat} {zs : List Int} (h : IntsZ W (.slice A l c) zs) (hw : ∀ z ∈ zs, -9223372036854775808 ≤ z ∧ z < 9223372036854775808) : Ints W A zs := fun k z hz => by
  obtain ⟨g, c', e, hlt, hc⟩ := h.get k z hz
  injection e with e1 e2 e3
  exact ⟨g, 0, e1, hlt, by rw [Nat.zero_add]; exact hc, hw z (List.mem_of_getElem? hz)⟩
theorem sortedD {w wr w2 : World} {q c n : Nat} {os : Array Obj} {V : List Nat} (h : DrI w wr (.slice (some ⟨q, 0, none⟩) V.length c) V) {ts : List Int} (hl : ts.length = V.length) (hw : ∀ z ∈ ts, -9223372036854775808 ≤ z ∧ z < 9223372036854775808)
    (he : w2 = Go.Sort.grow (putRow (Value.int .i64) (Sort.ahead wr n) q 0 ts.toArray) os) : Ints w2 (some ⟨q, 0, none⟩) ts ∧ Below w.heap.size w w2 ∧ w.heap.size ≤ q ∧ q < w2.heap.size := by
  subst he
  have hi := h.ints
  rw [← nums_len] at hi
  have hq : w.heap.size ≤ q := by have := h.own q rfl; omega
  have hH := hi.holds
  have hH2 := holds_putRow (Value.int .i64) (Sort.ahead wr n) q 0 _ ts.toArray (holds_ahead _ wr n q 0 _ hH) (by simp [hl, nums_len])
  have hlt := hi.lt q rfl
  have hH3 := holds_grow (Value.int .i64) _ os q 0 _ (by simpa [putRow, mapBlock, Sort.ahead] using hlt) hH2
  have hg : wr.grownBy (Go.Sort.grow (putRow (Value.int .i64) (Sort.ahead wr n) q 0 ts.toArray) os) (some q) := grownBy_sortedI _
  refine ⟨fun k z hz => ?_, h.bel.grown hg h.bel.size (fun k e => by have := Option.some.inj e; omega), hq, Nat.lt_of_lt_of_le hlt hg.size⟩
  have hk := (List.getElem?_eq_some_iff.1 hz).1
  have hc := (hH3 k (by simpa using hk)).1
  refine ⟨q, 0, rfl, Nat.lt_of_lt_of_le hlt hg.size, ?_, hw z (List.mem_of_getElem? hz)⟩
  rw [hc]
  simp [hk]
  exact (List.getElem?_eq_some_iff.1 hz).2
end Go.Proofs.Ytclkkfffecmjnaa
