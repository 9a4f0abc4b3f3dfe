/- cache: rising. -/
import Derived.Test.YtiemfhncadcemaaCo
import Derived.Lib.OwnBridge
namespace Go.Proofs.Ytiemfhncadcemaa
open Go.RowKit Go.Sort Dsk

/-- Numbers that were appended. -/
structure IntsZ (W : World) (sv : Value) (zs : List Int) : Prop where
  own : W.ownsRow 0 3 1 sv zs.length (zs.map fun (z : Int) => Value.int .i64 z)
theorem IntsZ.nil (W : World) : IntsZ W (.slice none 0 0) [] := ⟨World.ownsRow_nil _ _ _ _⟩
theorem IntsZ.shape {W : World} {sv : Value} {zs : List Int} (h : IntsZ W sv zs) : ∃ A c, sv = .slice A zs.length c ∧ zs.length ≤ c ∧ c ≤ maxLen := by
  rcases h.own.2 with ⟨rfl, h0⟩ | ⟨g, cap, cur, rfl, _, _, h1, h2, _⟩
  · exact ⟨none, 0, by rw [h0], by omega, Nat.zero_le _⟩
  · exact ⟨_, _, rfl, h1, h2⟩
theorem IntsZ.lt {W : World} {sv : Value} {zs : List Int} (h : IntsZ W sv zs) (k : Nat) (hk : sv.ownBlock = some k) : k < W.heap.size := (h.own.lt k hk).2
theorem IntsZ.same {W W' : World} {sv : Value} {zs : List Int} (h : IntsZ W sv zs) (hr : ∀ k, sv.ownBlock = some k → W'.heap[k]? = W.heap[k]?) : IntsZ W' sv zs := by
  refine ⟨h.own.1, ?_⟩
  rcases h.own.2 with h0 | ⟨g, cap, cur, rfl, h1, h2, h3⟩
  · exact .inl h0
  · exact .inr ⟨g, cap, cur, rfl, h1, (hr g rfl).trans h2, h3⟩
theorem IntsZ.get {W : World} {sv : Value} {zs : List Int} (h : IntsZ W sv zs) (k : Nat) (z : Int) (hz : zs[k]? = some z) : ∃ g c, sv = .slice (some ⟨g, 0, none⟩) zs.length c ∧ g < W.heap.size ∧ W.cell? ⟨g, k, none⟩ = some (.int .i64 z) := by
  have hk := (List.getElem?_eq_some_iff.1 hz).1
  rcases h.own.2 with ⟨rfl, e⟩ | ⟨g, cap, cur, rfl, _, h1, _⟩
  · omega
  · have c1 := h.own.cellAt k (by omega)
    rw [List.getElem?_map, hz] at c1
    exact ⟨g, cap, rfl, h.lt g rfl, c1⟩
theorem IntsZ.push {W : World} {sv : Value} {zs : List Int} (h : IntsZ W sv zs) (z : Int) (b : Nat) (h0 : W.cell? ⟨b, 0, none⟩ = some (.int .i64 z)) (hl : zs.length < 1000000) :
    ∃ v' w', (Builtin.append_ #[35, 35] 35 #[sv, .slice (some ⟨b, 0, none⟩) 1 1]).run Try.prog W = .ok v' w' ∧ IntsZ w' v' (zs ++ [z]) ∧ W.grownBy w' sv.ownBlock ∧ (v'.ownBlock = sv.ownBlock ∨ v'.ownBlock = some W.heap.size) := by
  have hI : (Try.prog.info? 3).map (fun i => (i.zero, i.size, i.bytes)) = some (some (.int .i64 0), 1, 8) := by kernel_rfl
  obtain ⟨i0, hi, hz0, hz1, hz2⟩ := info_parts hI
  have hcell : ∀ (j : Nat) (u : Value), [Value.int .i64 z][j]? = some u → W.cell? ((⟨b, 0, none⟩ : Addr).add j) = some u := fun j u hj => by
    have e2 : (⟨b, 0, none⟩ : Addr).add j = ⟨b, 0 + j, none⟩ := by unfold Addr.add; split <;> simp_all
    rw [e2, Nat.zero_add]
    rcases j with _ | j
    · cases hj; exact h0
    · simp at hj
  obtain ⟨v', w', hrun, h2, h3, _, h5⟩ := run_append_own_at (P := Try.prog) W 0 35 35 3 i0 (.int .i64 0) 1 8 Try.underlying35 hi hz0 hz1 hz2 rfl (by decide) sv zs.length _ h.own ⟨b, 0, none⟩ 1 1 [.int .i64 z] (by simp) hcell
    (fun u hu => by rw [List.mem_singleton.1 hu]; rfl) (by unfold maxLen; omega) (by omega) (Nat.zero_le _)
  exact ⟨v', w', hrun, ⟨by rw [List.length_append, List.length_singleton, List.map_append]; exact h2⟩, h3, h5⟩

theorem run_mkI0 (n : Nat) (hn : n ≤ 4096) (w : World) :
    (Instr.makeSlice 35 (.int .i64 0) (.int .i64 (n : Int))).run Try.prog w = .ok (.slice (some ⟨w.heap.size, 0, none⟩) 0 n) (w.alloc (.cells (madeCells #[.int .i64 0] n) 3)) := by
  have hI : (Try.prog.info? 3).map (fun i => (i.zero, i.size, i.bytes)) = some (some (.int .i64 0), 1, 8) := by kernel_rfl
  obtain ⟨i0, hi, hz0, hz1, hz2⟩ := info_parts hI
  have h := run_make (P := Try.prog) w 35 3 i0 (.int .i64 0) Try.underlying35 hi hz0 .i64 .i64 0 (n : Int) (by omega) (by omega) (by rw [hz2]; omega) (by omega)
  simpa [hz1, Value.cells] using h
def nums (V : List Nat) : List Int := V.map fun (z : Nat) => (z : Int)
theorem nums_len (V : List Nat) : (nums V).length = V.length := List.length_map _
theorem nums_get {V : List Nat} {k z : Nat} (h : V[k]? = some z) : (nums V)[k]? = some (z : Int) := by unfold nums; rw [List.getElem?_map, h]; rfl
/-- Between the rounds. -/
structure RisI (w wr : World) (v : Value) (V : List Nat) : Prop where
  ints : IntsZ wr v (nums V)
  own : ∀ j, v.ownBlock = some j → j = w.heap.size ∨ w.heap.size + 2 ≤ j
  blk : ∃ q c, v = .slice (some ⟨q, 0, none⟩) V.length c
  bel : Below w.heap.size w wr
  sz : w.heap.size + 2 ≤ wr.heap.size
theorem IntsZ.own_lt {W : World} {q l c : Nat} {zs : List Int} (h : IntsZ W (.slice (some ⟨q, 0, none⟩) l c) zs) : q < W.heap.size := h.lt q rfl
theorem RisI.frame {w wr w2 : World} {v : Value} {V : List Nat} (h : RisI w wr v V) (hg : wr.grownBy w2 (some (w.heap.size + 1))) : RisI w w2 v V :=
  ⟨h.ints.same fun k hk => hg.block k (h.ints.lt k hk) (fun e => by have := Option.some.inj e; rcases h.own k hk with h1 | h1 <;> omega), h.own, h.blk,
    h.bel.grown hg h.bel.size (fun k e => by have := Option.some.inj e; omega), Nat.le_trans h.sz hg.size⟩
theorem RisI.push {w W : World} {v : Value} {V : List Nat} (h : RisI w W v V) (z : Nat) (hl : V.length < 1000000) :
    ∃ q c v' w5, v = .slice (some ⟨q, 0, none⟩) V.length c ∧ (Builtin.append_ #[35, 35] 35 #[v, .slice (some ⟨W.heap.size, 0, none⟩) 1 1]).run Try.prog (W.alloc (.cells #[.int .i64 (z : Int)] 3)) = .ok v' w5 ∧ RisI w w5 v' (V ++ [z]) ∧ W.grownBy w5 v.ownBlock := by
  obtain ⟨q, c, hv⟩ := h.blk
  have hg0 : W.grownBy (W.alloc (.cells #[.int .i64 (z : Int)] 3)) none := World.grownBy_alloc W _ none
  have h1 : IntsZ (W.alloc (.cells #[.int .i64 (z : Int)] 3)) v (nums V) := h.ints.same fun k hk => hg0.block k (h.ints.lt k hk) (by simp)
  obtain ⟨v', w5, hrun, h2, h3, h4⟩ := h1.push (z : Int) W.heap.size ((Blk.new W _ _).cell 0) (by rw [nums_len]; exact hl)
  have e : nums V ++ [(z : Int)] = nums (V ++ [z]) := by unfold nums; rw [List.map_append]; rfl
  rw [e] at h2
  have hg : W.grownBy w5 v.ownBlock := ⟨h3.os, h3.tape, h3.output, Nat.le_trans hg0.size h3.size, fun k hk hn => (h3.block k (Nat.lt_of_lt_of_le hk hg0.size) hn).trans (hg0.block k hk (by simp))⟩
  refine ⟨q, c, v', w5, hv, hrun, ⟨h2, fun j hj => ?_, ?_, h.bel.grown hg h.bel.size (fun k e => by rcases h.own k e with h1 | h1 <;> omega), Nat.le_trans h.sz hg.size⟩, hg⟩
  · rcases h4 with e | e
    · rw [e] at hj; exact h.own j hj
    · rw [e] at hj
      have h5 := Option.some.inj hj
      have h6 := h.sz
      rw [World.size_alloc] at h5
      exact .inr (by omega)
  · obtain ⟨g, c', e1, _⟩ := h2.get V.length (z : Int) (nums_get (by rw [List.getElem?_append_right (Nat.le_refl _), Nat.sub_self]; rfl))
    rw [nums_len] at e1
    exact ⟨g, c', e1⟩
theorem IntsZ.ints {W : World} {q l c : Nat} {zs : List Int} (h : IntsZ W (.slice (some ⟨q, 0, none⟩) l c) zs) (hw : ∀ z ∈ zs, -9223372036854775808 ≤ z ∧ z < 9223372036854775808) : Ints W (some ⟨q, 0, none⟩) zs := fun k z hz => by
  obtain ⟨g, c', e, hlt, hc⟩ := h.get k z hz
  injection e with e1 e2 e3
  have e1 := Option.some.inj e1
  injection e1 with e4
  subst e4
  exact ⟨q, 0, rfl, hlt, by rw [Nat.zero_add]; exact hc, hw z (List.mem_of_getElem? hz)⟩
theorem IntsZ.holds {W : World} {q c : Nat} {zs : List Int} (h : IntsZ W (.slice (some ⟨q, 0, none⟩) zs.length c) zs) : Holds (Value.int .i64) W q 0 zs.toArray := by
  obtain ⟨_, _, e, _, _, _, _, h6⟩ := Lib.holds_of_ownsRow (enc := Value.int .i64) h.own (by simp)
  injection e with e1 e2 e3
  have e1 := Option.some.inj e1
  injection e1 with e4
  subst e4
  exact h6.2
end Go.Proofs.Ytiemfhncadcemaa
