/- types: rows of types of a call's own. -/
import Derived.Test.YtndhojnfjlkojaaG
namespace Go.Proofs.Ytndhojnfjlkojaa
open Go.RowKit
set_option linter.unusedVariables false
set_option linter.unusedSimpArgs false
attribute [local go_sem] Oper.semAt_some
/-- A type, and where its kids lie. -/
structure Te where
  t : Ty
  A : Option Addr
  c : Nat
def Te.cells (e : Te) : List Value := e.t.cells e.A e.c
def flatE (es : List Te) : List Value := es.flatMap Te.cells
theorem flatE_app (a b : List Te) : flatE (a ++ b) = flatE a ++ flatE b := by unfold flatE; rw [List.flatMap_append]
theorem flatE_cons (x : Te) (es : List Te) : flatE (x :: es) = x.cells ++ flatE es := rfl
theorem Te.cells_len (e : Te) : e.cells.length = 4 := rfl
theorem flatE_len (es : List Te) : (flatE es).length = es.length * 4 := by
  induction es with
  | nil => rfl
  | cons x es ih => rw [flatE_cons, List.length_append, ih, Te.cells_len, List.length_cons]; omega
theorem flatE_get {es : List Te} {k j : Nat} {x : Te} {v : Value} (h : es[k]? = some x) (hj : x.cells[j]? = some v) : (flatE es)[k * 4 + j]? = some v := by
  induction es generalizing k with
  | nil => simp at h
  | cons y es ih =>
    have hj4 : j < 4 := by rw [← Te.cells_len x]; exact (List.getElem?_eq_some_iff.1 hj).1
    cases k with
    | zero =>
      simp at h
      subst h
      rw [flatE_cons, Nat.zero_mul, Nat.zero_add, List.getElem?_append_left (by rw [Te.cells_len]; exact hj4)]
      exact hj
    | succ k =>
      rw [flatE_cons, List.getElem?_append_right (by rw [Te.cells_len]; omega), Te.cells_len, show (k + 1) * 4 + j - 4 = k * 4 + j by omega]
      exact ih (by simpa using h)
/-- The kids of one lie in F. -/
def Te.in_ (F : Nat → Prop) (w : World) (e : Te) : Prop := Ty.At F w e.A e.t.ks ∧ e.t.ok ∧ e.t.ks.length ≤ e.c ∧ e.c ≤ maxLen
/-- A row of types of the call's own: all of it in blocks from B on. -/
structure TyO (B : Nat) (w : World) (v : Value) (es : List Te) : Prop where
  own : w.ownsRow B 24 4 v es.length (flatE es)
  kids : ∀ e ∈ es, e.in_ (fun b => B ≤ b ∧ b < w.heap.size ∧ v.ownBlock ≠ some b) w
section
variable {B : Nat} {w w' : World} {v : Value} {es : List Te}
theorem TyO.nil (B : Nat) (w : World) : TyO B w (.slice none 0 0) [] := ⟨World.ownsRow_nil _ _ _ _, fun e h => by cases h⟩
theorem TyO.below (h : TyO B w v es) (hb : Below w.heap.size w w') : TyO B w' v es :=
  ⟨own_below h.own hb, fun e he => ⟨((h.kids e he).1.bel hb).mono fun b hb' => ⟨hb'.1, Nat.lt_of_lt_of_le hb'.2.1 hb.size, hb'.2.2⟩, (h.kids e he).2⟩⟩
theorem TyO.shape (h : TyO B w v es) : ∃ A c, v = .slice A es.length c ∧ es.length ≤ c ∧ c ≤ maxLen ∧ Ty.At (fun b => B ≤ b ∧ b < w.heap.size) w A (es.map Te.t) := by
  rcases h.own.2 with ⟨rfl, h0⟩ | ⟨g, cap, cur, rfl, hB, hg, h1, h2, h3, h4⟩
  · have : es = [] := List.eq_nil_of_length_eq_zero h0
    subst this
    exact ⟨none, 0, rfl, Nat.le_refl _, Nat.zero_le _, .nil _⟩
  · have hbk : Blk w g 24 cur := hg
    refine ⟨_, _, rfl, h1, h2, .mk g 0 _ (fun r => (es[r]?.map Te.A).getD none) (fun r => (es[r]?.map Te.c).getD 0) ⟨hB, hbk.lt⟩ hbk.lt (fun r t ht => ?_) fun r t ht => ?_⟩
    · rw [List.getElem?_map] at ht
      cases he : es[r]? with
      | none => rw [he] at ht; cases ht
      | some e =>
        rw [he] at ht
        cases ht
        obtain ⟨_, k2, k3, k4⟩ := h.kids e (List.mem_of_getElem? he)
        refine ⟨fun j u hj => ?_, k2, k3, k4⟩
        have hj4 : j < 4 := by rw [← Te.cells_len e]; exact (List.getElem?_eq_some_iff.1 hj).1
        have hr := (List.getElem?_eq_some_iff.1 he).1
        have h5 := flatE_get he hj
        rw [← h4, List.getElem?_take_of_lt (by omega)] at h5
        rw [Nat.zero_add, hbk.cell]
        simpa using h5
    · rw [List.getElem?_map] at ht
      cases he : es[r]? with
      | none => rw [he] at ht; cases ht
      | some e =>
        rw [he] at ht
        cases ht
        exact (h.kids e (List.mem_of_getElem? he)).1.mono fun b hb => ⟨hb.1, hb.2.1⟩
/-- One more. -/
theorem TyO.push (h : TyO B w v es) (hB : B ≤ w.heap.size) (e : Te) (b : Nat) (hb : ∀ (j : Nat) (u : Value), e.cells[j]? = some u → w.cell? ⟨b, j, none⟩ = some u) (hin : e.in_ (fun k => B ≤ k ∧ k < w.heap.size ∧ v.ownBlock ≠ some k) w) (hl : es.length < 1000000) :
    ∃ v' w', (Builtin.append_ #[22, 22] 22 #[v, .slice (some ⟨b, 0, none⟩) 1 1]).run Try.prog w = .ok v' w' ∧ TyO B w' v' (es ++ [e]) ∧ w.grownBy w' v.ownBlock ∧ (v'.ownBlock = v.ownBlock ∨ v'.ownBlock = some w.heap.size) := by
  have hI : (Try.prog.info? 24).map (fun i => (i.zero, i.size, i.bytes)) = some (some (.agg #[.int .u8 0, .string ⟨#[]⟩, .int .i64 0, .slice none 0 0]), 4, 56) := by kernel_rfl
  obtain ⟨i0, hi, hz0, hz1, hz2⟩ := info_parts hI
  have hcell : ∀ (j : Nat) (u : Value), e.cells[j]? = some u → w.cell? ((⟨b, 0, none⟩ : Addr).add j) = some u := fun j u hj => by
    have e2 : (⟨b, 0, none⟩ : Addr).add j = ⟨b, 0 + j, none⟩ := by unfold Addr.add; split <;> simp_all
    rw [e2, Nat.zero_add]
    exact hb j u hj
  obtain ⟨v', w', hrun, h2, h3, _, h5⟩ := run_append_own_at (P := Try.prog) w B 22 22 24 i0 (.agg #[.int .u8 0, .string ⟨#[]⟩, .int .i64 0, .slice none 0 0]) 4 56 Try.underlying22 hi hz0 hz1 hz2 rfl (by decide) v es.length _ h.own ⟨b, 0, none⟩ 1 1 e.cells (by simp [Te.cells, Ty.cells]) hcell
    (fun u hu => by unfold Te.cells Ty.cells at hu; simp at hu; rcases hu with rfl | rfl | rfl | rfl <;> rfl) (by unfold maxLen; omega) (by omega) hB
  have ho : Off (fun k => v.ownBlock = some k) w w' := Off.of_grown h3
  refine ⟨v', w', hrun, ⟨by rw [List.length_append, List.length_singleton, flatE_app]; simpa [flatE] using h2, fun x hx => ?_⟩, h3, h5⟩
  have hmv : ∀ {A : Option Addr} {ts : List Ty}, Ty.At (fun k => B ≤ k ∧ k < w.heap.size ∧ v.ownBlock ≠ some k) w A ts → Ty.At (fun k => B ≤ k ∧ k < w'.heap.size ∧ v'.ownBlock ≠ some k) w' A ts := fun hA => (hA.off ho fun k hk hg => hk.2.2 hg).mono fun k hk => ⟨hk.1, Nat.lt_of_lt_of_le hk.2.1 ho.size, fun e' => by
    rcases h5 with h5 | h5
    · exact hk.2.2 (h5 ▸ e')
    · rw [h5] at e'
      injection e' with e'
      omega⟩
  rcases List.mem_append.1 hx with hx | hx
  · exact ⟨hmv (h.kids x hx).1, (h.kids x hx).2⟩
  · rw [List.mem_singleton.1 hx]
    exact ⟨hmv hin.1, hin.2⟩
end
end Go.Proofs.Ytndhojnfjlkojaa
