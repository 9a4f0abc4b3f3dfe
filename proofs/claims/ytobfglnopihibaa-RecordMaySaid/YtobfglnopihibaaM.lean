/- record: objects apart from memory. -/
import Derived.Test.YtobfglnopihibaaF
import Derived.Maps.OwnOps
import Derived.Maps.Views
namespace Go.Proofs.Ytobfglnopihibaa
open Go.RowKit

/-- A word. -/
structure Wd where
  k : UInt8
  n : Int
namespace Rcd
def step (l : List Int) (x : Wd) : List Int := if x.k = 2 ∧ x.n ∉ l then l ++ [x.n] else l
/-- To which objects words lead. -/
def oids (ws : List Wd) : List Int := ws.foldl step []
theorem oids_succ {ws : List Wd} {k : Nat} {x : Wd} (h : ws[k]? = some x) : oids (ws.take (k + 1)) = step (oids (ws.take k)) x := by
  obtain ⟨hk, rfl⟩ := List.getElem?_eq_some_iff.1 h
  unfold oids
  rw [List.take_succ_eq_append_getElem hk, List.foldl_append]
  rfl
theorem step_len (l : List Int) (x : Wd) : (step l x).length ≤ l.length + 1 := by
  unfold step
  split
  · simp
  · omega
theorem fold_len (ws : List Wd) : ∀ l : List Int, (ws.foldl step l).length ≤ l.length + ws.length := by
  induction ws with
  | nil => intro l; simp
  | cons x ws ih => intro l; have := ih (step l x); have := step_len l x; simp only [List.foldl_cons, List.length_cons]; omega
theorem oids_len (ws : List Wd) : (oids ws).length ≤ ws.length := by
  show (ws.foldl step []).length ≤ ws.length
  have := fold_len ws []
  simpa using this
end Rcd

/-- What a value of type []Word reads as. -/
def Words (w : World) (A : Option Addr) (ws : List Wd) : Prop :=
  ∀ (r : Nat) (x : Wd), ws[r]? = some x → ∃ b off, A = some ⟨b, off, none⟩ ∧ b < w.heap.size ∧ w.cell? ⟨b, off + r * 2, none⟩ = some (bv x.k) ∧ w.cell? ⟨b, off + r * 2 + 1, none⟩ = some (.int .i64 x.n) ∧ -9223372036854775808 ≤ x.n ∧ x.n < 9223372036854775808
theorem Words.below {w w' : World} {A : Option Addr} {ws : List Wd} (h : Words w A ws) (hb : Below w.heap.size w w') : Words w' A ws := fun r x hr => by
  obtain ⟨b, off, e, hlt, c0, c1, h2⟩ := h r x hr
  exact ⟨b, off, e, Nat.lt_of_lt_of_le hlt hb.size, (hb.cell (p := ⟨b, off + r * 2, none⟩) hlt).trans c0, (hb.cell (p := ⟨b, off + r * 2 + 1, none⟩) hlt).trans c1, h2⟩

/-- Numbers that were appended. -/
structure IntsZ (W : World) (sv : Value) (zs : List Int) : Prop where
  own : W.ownsRow 0 3 1 sv zs.length (zs.map fun (z : Int) => Value.int .i64 z)
theorem IntsZ.nil (W : World) : IntsZ W (.slice none 0 0) [] := ⟨World.ownsRow_nil _ _ _ _⟩
theorem IntsZ.shape {W : World} {sv : Value} {zs : List Int} (h : IntsZ W sv zs) : ∃ A c, sv = .slice A zs.length c ∧ zs.length ≤ c ∧ c ≤ maxLen := by
  rcases h.own.2 with ⟨rfl, h0⟩ | ⟨g, cap, cur, rfl, _, _, h1, h2, _⟩
  · exact ⟨none, 0, by rw [h0], by omega, Nat.zero_le _⟩
  · exact ⟨_, _, rfl, h1, h2⟩
theorem IntsZ.lt {W : World} {sv : Value} {zs : List Int} (h : IntsZ W sv zs) (k : Nat) (hk : sv.ownBlock = some k) : k < W.heap.size := (h.own.lt k hk).2
theorem IntsZ.same {W W' : World} {sv : Value} {zs : List Int} (h : IntsZ W sv zs) (hr : ∀ k, sv.ownBlock = some k → W'.heap[k]? = W.heap[k]?) : IntsZ W' sv zs := by
  refine ⟨h.own.1, ?_⟩
  rcases h.own.2 with h0 | ⟨g, cap, cur, rfl, h1, h2, h3⟩
  · exact .inl h0
  · exact .inr ⟨g, cap, cur, rfl, h1, (hr g rfl).trans h2, h3⟩
theorem IntsZ.get {W : World} {sv : Value} {zs : List Int} (h : IntsZ W sv zs) (k : Nat) (z : Int) (hz : zs[k]? = some z) : ∃ g c, sv = .slice (some ⟨g, 0, none⟩) zs.length c ∧ g < W.heap.size ∧ W.cell? ⟨g, k, none⟩ = some (.int .i64 z) := by
  have hk := (List.getElem?_eq_some_iff.1 hz).1
  rcases h.own.2 with ⟨rfl, e⟩ | ⟨g, cap, cur, rfl, _, h1, _⟩
  · omega
  · have c1 := h.own.cellAt k (by omega)
    rw [List.getElem?_map, hz] at c1
    exact ⟨g, cap, rfl, h.lt g rfl, c1⟩
theorem IntsZ.push {W : World} {sv : Value} {zs : List Int} (h : IntsZ W sv zs) (z : Int) (b : Nat) (h0 : W.cell? ⟨b, 0, none⟩ = some (.int .i64 z)) (hl : zs.length < 1000000) :
    ∃ v' w', (Builtin.append_ #[40, 40] 40 #[sv, .slice (some ⟨b, 0, none⟩) 1 1]).run Try.prog W = .ok v' w' ∧ IntsZ w' v' (zs ++ [z]) ∧ W.grownBy w' sv.ownBlock ∧ (v'.ownBlock = sv.ownBlock ∨ v'.ownBlock = some W.heap.size) := by
  have hI : (Try.prog.info? 3).map (fun i => (i.zero, i.size, i.bytes)) = some (some (.int .i64 0), 1, 8) := by kernel_rfl
  obtain ⟨i0, hi, hz0, hz1, hz2⟩ := info_parts hI
  have hcell : ∀ (j : Nat) (u : Value), [Value.int .i64 z][j]? = some u → W.cell? ((⟨b, 0, none⟩ : Addr).add j) = some u := fun j u hj => by
    have e2 : (⟨b, 0, none⟩ : Addr).add j = ⟨b, 0 + j, none⟩ := by unfold Addr.add; split <;> simp_all
    rw [e2, Nat.zero_add]
    rcases j with _ | j
    · cases hj; exact h0
    · simp at hj
  obtain ⟨v', w', hrun, h2, h3, _, h5⟩ := run_append_own_at (P := Try.prog) W 0 40 40 3 i0 (.int .i64 0) 1 8 Try.underlying40 hi hz0 hz1 hz2 rfl (by decide) sv zs.length _ h.own ⟨b, 0, none⟩ 1 1 [.int .i64 z] (by simp) hcell
    (fun u hu => by rw [List.mem_singleton.1 hu]; rfl) (by unfold maxLen; omega) (by omega) (Nat.zero_le _)
  exact ⟨v', w', hrun, ⟨by rw [List.length_append, List.length_singleton, List.map_append]; exact h2⟩, h3, h5⟩

/-- A map of booleans: which keys are true. -/
def KMap (w : World) (b n : Nat) (S : Int → Bool) : Prop :=
  ∃ D : DataW Unit, w.ownsMap Try.prog 2 (plainElem Try.prog 4) b n D ∧ ∀ i : Int, (Lit.int .i64 i).wf = true → D.atKey (.int .i64 i) (.lit (.bool false)) = .lit (.bool (S i))
theorem KMap.same {w w' : World} {b n : Nat} {S : Int → Bool} (h : KMap w b n S) (hb : w'.heap[b]? = w.heap[b]?) : KMap w' b n S := by
  obtain ⟨D, ⟨es, clock, h1, h2⟩, h3⟩ := h
  exact ⟨D, ⟨es, clock, hb.trans h1, h2⟩, h3⟩
theorem KMap.lt {w : World} {b n : Nat} {S : Int → Bool} (h : KMap w b n S) : b < w.heap.size := by obtain ⟨D, h1, _⟩ := h; exact h1.lt
theorem KMap.made (w : World) : KMap (w.alloc (.map #[] 0)) w.heap.size 0 (fun _ => false) := ⟨_, World.ownsMap_made w _ _ _, fun _ _ => rfl⟩
theorem plainElem_bool_inv {P : Program} {e : TypeId} (he : P.underlying e = some .bool) {v : Value} {z : DataW Unit × List MemPlace} (h : plainElem P e v = some z) : ∃ x, v = .bool x ∧ z = (.lit (.bool x), []) := by
  unfold plainElem at h
  rw [he] at h
  cases v <;> simp at h
  exact ⟨_, rfl, h.symm⟩
theorem KMap.look {w : World} {b n : Nat} {S : Int → Bool} (h : KMap w b n S) (i : Int) (hi : (Lit.int .i64 i).wf = true) : (Instr.lookup 57 (.map (some b)) (.int .i64 i) false).run Try.prog w = .ok (.bool (S i)) w := by
  obtain ⟨D, h1, h2⟩ := h
  have hz : (zeroValue 4).run Try.prog w = .ok (.bool false) w := by kernel_rfl
  obtain ⟨v, ps, hr, hv⟩ := h1.lookup (Maps.int_keyed Try.underlying2) Try.underlying57 hz (plainElem_bool Try.underlying4 false) (Maps.keyOf_int_mk Try.underlying2 hi)
  obtain ⟨x, rfl, hx⟩ := plainElem_bool_inv Try.underlying4 hv
  rw [h2 i hi] at hx
  simp only [Prod.mk.injEq, DataW.lit.injEq, Lit.bool.injEq] at hx
  rw [← hx.1] at hr
  exact hr
theorem KMap.put {w : World} {b n : Nat} {S : Int → Bool} (h : KMap w b n S) (i : Int) (hi : (Lit.int .i64 i).wf = true) (hn : n < 1000000) :
    ∃ w', (Instr.mapUpdate 57 (.map (some b)) (.int .i64 i) (.bool true)).run Try.prog w = .ok () w' ∧ KMap w' b (n + 1) (fun j => j == i || S j) ∧ Off (fun k => k = b) w w' := by
  obtain ⟨D, h1, h2⟩ := h
  obtain ⟨w', hr, h3, h4⟩ := h1.update (Maps.int_keyed Try.underlying2) Try.underlying57 (by unfold maxLen; omega) (Maps.keyOf_int_mk Try.underlying2 hi) (plainElem_bool Try.underlying4 true)
  refine ⟨w', hr, ⟨_, h3, fun j hj => ?_⟩, (Off.of_grown h4).mono fun k _ e => by cases e; rfl⟩
  have hM : Maps.IsMap D := by obtain ⟨es, clock, _, _, _, e⟩ := h1; exact ⟨_, e⟩
  by_cases e : j = i
  · subst e
    rw [Maps.atKey_put_same hM (by simp [WideAt.IsKeyLit])]
    simp
  · rw [Maps.atKey_put_other (by simpa using e), h2 j hj]
    have : (j == i) = false := by simpa using e
    simp only [this, Bool.false_or]

end Go.Proofs.Ytobfglnopihibaa
