/- cover: rows of rows; what is handed to pick. -/
import Derived.Test.YtigaondgopahgaaOq
import Derived.Shelf.Abstract
namespace Go.Proofs.Ytigaondgopahgaa
open Go.RowKit
set_option linter.unusedVariables false
set_option linter.unusedSimpArgs false
attribute [local go_sem] Oper.semAt_some
theorem opened_any {F : Nat → Prop} (h : Head) (p : Ty) (ps : List Ty) (A : Option Addr) (n c q : Nat) (w : World) (hA : PAt F w A n c (p :: ps)) (hQ : Blk w q 65 #[.int .u8 (h.k : Int), .string (str h.nm), .int .i64 h.n, .int .i64 (h.many : Int)]) (hn : n ≤ 100000) (hmn : h.many ≤ 100000) :
    Calls Try.prog 33 #[.slice A n c, .pointer (some ⟨q, 0, none⟩)] w (OpenedP F h (p :: ps) w) := by
  obtain ⟨k, nm, m, mn⟩ := h
  by_cases hc : c = 1
  · subst hc
    have hn1 : n = 1 := by have h1 := hA.len; have h2 := hA.le; simp at h1; omega
    subst hn1
    cases hw : p.wild with
    | true => exact opened_wild1 k nm m mn p ps A q w hA hQ hmn hw
    | false => exact opened_tame1 k nm m mn p ps A q w hA hQ hmn hw
  · cases hw : p.wild with
    | true => exact opened_wild2 k nm m mn p ps A n c q w hA hQ hn hmn hw hc
    | false => exact opened_tame2 k nm m mn p ps A n c q w hA hQ hn hmn hw hc
/-- What is told of a row that may be kept. -/
def KeepP (F : Nat → Prop) (f : List Ty → Option (List Ty)) (row : List Ty) (w : World) : Ending → World → Prop := fun e w' => Below w.heap.size w w' ∧
  ((∃ r A' c', f row = some r ∧ e = .returned (.tuple #[.slice A' r.length c', .bool true]) ∧ PAt (fun b => F b ∨ w.heap.size ≤ b) w' A' r.length c' r) ∨ (f row = none ∧ ∃ v, e = .returned (.tuple #[v, .bool false])))
theorem opened_keep {F : Nat → Prop} (h : Head) (p : Ty) (ps : List Ty) (A : Option Addr) (n c q : Nat) (w : World) (hA : PAt F w A n c (p :: ps)) (hQ : Blk w q 65 #[.int .u8 (h.k : Int), .string (str h.nm), .int .i64 h.n, .int .i64 (h.many : Int)]) (hn : n ≤ 100000) (hmn : h.many ≤ 100000) :
    Calls Try.prog 33 #[.slice A n c, .pointer (some ⟨q, 0, none⟩)] w (KeepP F (opened h) (p :: ps) w) :=
  (opened_any h p ps A n c q w hA hQ hn hmn).mono fun e w' hh => ⟨hh.1, hh.2.imp id fun h2 => ⟨h2.1, _, h2.2⟩⟩
theorem rest_keep {F : Nat → Prop} (p : Ty) (ps : List Ty) (A : Option Addr) (n c : Nat) (w : World) (hA : PAt F w A n c (p :: ps)) :
    Calls Try.prog 32 #[.slice A n c] w (KeepP F rest (p :: ps) w) :=
  (rest_any p ps A n c w hA).mono fun e w' ⟨A', c', he, hP, hb⟩ => ⟨hb, by
    cases hw : p.wild with
    | true =>
      refine .inl ⟨ps, A', c', by rw [rest_cons, hw]; rfl, ?_, by rw [hP.len]; exact hP.mono fun b hb => .inl hb⟩
      rw [he, hw, hP.len]
    | false => exact .inr ⟨by rw [rest_cons, hw]; rfl, _, by rw [he, hw]⟩⟩
/-- Rows of patterns in memory. -/
structure RAt (w : World) (A : Option Addr) (n c : Nat) (rows : List (List Ty)) : Prop where
  len : rows.length = n
  le : n ≤ c
  cap : c ≤ maxLen
  at_ : ∀ (r : Nat) (ts : List Ty), rows[r]? = some ts → ∃ b off A' c', A = some ⟨b, off, none⟩ ∧ b < w.heap.size ∧ w.cell? ⟨b, off + r, none⟩ = some (.slice A' ts.length c') ∧ PAt Everywhere w A' ts.length c' ts
theorem RAt.bel {w w' : World} {A : Option Addr} {n c : Nat} {rows : List (List Ty)} (h : RAt w A n c rows) (hb : Below w.heap.size w w') : RAt w' A n c rows := ⟨h.len, h.le, h.cap, fun r ts hr => by
  obtain ⟨b, off, A', c', e, h1, h2, h3⟩ := h.at_ r ts hr
  exact ⟨b, off, A', c', e, Nat.lt_of_lt_of_le h1 hb.size, (hb.cell (p := ⟨b, _, none⟩) h1).trans h2, h3.bel hb⟩⟩
/-- A row, and where it lies. -/
structure Re where
  ts : List Ty
  A : Option Addr
  c : Nat
def Re.val (e : Re) : Value := .slice e.A e.ts.length e.c
/-- Rows of patterns of the call's own. -/
structure RwO (B : Nat) (w : World) (v : Value) (es : List Re) : Prop where
  own : w.ownsRow B 22 1 v es.length (es.map Re.val)
  rows : ∀ e ∈ es, ∃ F : Nat → Prop, (∀ b, F b → v.ownBlock ≠ some b) ∧ Ty.At F w e.A e.ts ∧ e.ts.length ≤ e.c ∧ e.c ≤ maxLen
section
variable {B : Nat} {w w' : World} {v : Value} {es : List Re}
theorem RwO.nil (B : Nat) (w : World) : RwO B w (.slice none 0 0) [] := ⟨World.ownsRow_nil _ _ _ _, fun e h => by cases h⟩
theorem RwO.below (h : RwO B w v es) (hb : Below w.heap.size w w') : RwO B w' v es := ⟨own_below h.own hb, fun e he => by
  obtain ⟨F, h1, h2, h3⟩ := h.rows e he
  exact ⟨F, h1, h2.bel hb, h3⟩⟩
theorem RwO.shape (h : RwO B w v es) : ∃ A c, v = .slice A es.length c ∧ RAt w A es.length c (es.map Re.ts) := by
  rcases h.own.2 with ⟨rfl, h0⟩ | ⟨g, cap, cur, rfl, hB, hg, h1, h2, h3, h4⟩
  · have : es = [] := List.eq_nil_of_length_eq_zero h0
    subst this
    exact ⟨none, 0, rfl, rfl, Nat.le_refl _, Nat.zero_le _, fun r ts hr => by simp at hr⟩
  · have hbk : Blk w g 22 cur := hg
    refine ⟨_, _, rfl, List.length_map _, h1, h2, fun r ts hr => ?_⟩
    rw [List.getElem?_map] at hr
    cases he : es[r]? with
    | none => rw [he] at hr; cases hr
    | some e =>
      rw [he] at hr
      cases hr
      obtain ⟨F, k1, k2, k3, k4⟩ := h.rows e (List.mem_of_getElem? he)
      have hrl := (List.getElem?_eq_some_iff.1 he).1
      refine ⟨g, 0, e.A, e.c, rfl, hbk.lt, ?_, rfl, k3, k4, k2.mono fun _ _ => trivial⟩
      have h5 : (es.map Re.val)[r]? = some e.val := by rw [List.getElem?_map, he]; rfl
      rw [← h4, List.getElem?_take_of_lt (by omega)] at h5
      rw [Nat.zero_add, hbk.cell]
      simpa [Re.val] using h5
theorem RwO.bel (h : RwO B w v es) (hg : w.grownBy w' v.ownBlock) {B0 : Nat} (hB : B0 ≤ B) (hB2 : B0 ≤ w.heap.size) : Below B0 w w' :=
  ((Off.of_grown hg).below (B := B0) hB2 fun k hk => by have := (h.own.lt k hk).1; omega)
/-- One more. -/
theorem RwO.push (h : RwO B w v es) (hB : B ≤ w.heap.size) (e : Re) (b : Nat) (hb : Blk w b 22 #[e.val]) (F : Nat → Prop) (hF : ∀ b, F b → v.ownBlock ≠ some b) (hA : Ty.At F w e.A e.ts) (hc1 : e.ts.length ≤ e.c) (hc2 : e.c ≤ maxLen) (hl : es.length < 1000000) :
    ∃ v' w', (Builtin.append_ #[60, 60] 60 #[v, .slice (some ⟨b, 0, none⟩) 1 1]).run Try.prog w = .ok v' w' ∧ RwO B w' v' (es ++ [e]) ∧ w.grownBy w' v.ownBlock := by
  have hI : (Try.prog.info? 22).map (fun i => (i.zero, i.size, i.bytes)) = some (some (.slice none 0 0), 1, 24) := by kernel_rfl
  obtain ⟨i0, hi, hz0, hz1, hz2⟩ := info_parts hI
  obtain ⟨v', w', hrun, h2, h3, _, h5⟩ := run_append_own_at (P := Try.prog) w B 60 60 22 i0 (.slice none 0 0) 1 24 Try.underlying60 hi hz0 hz1 hz2 rfl (by decide) v es.length _ h.own ⟨b, 0, none⟩ 1 1 [e.val] rfl
    (fun j u hj => by
      have hj0 : j = 0 := by have := (List.getElem?_eq_some_iff.1 hj).1; simpa using this
      subst hj0
      rw [add_off, Nat.zero_add, hb.cell 0]
      exact hj)
    (fun u hu => by rw [List.mem_singleton.1 hu]; rfl) (by unfold maxLen; omega) (by omega) hB
  have ho : Off (fun k => v.ownBlock = some k) w w' := Off.of_grown h3
  refine ⟨v', w', hrun, ⟨by rw [List.length_append, List.length_singleton, List.map_append]; exact h2, fun x hx => ?_⟩, h3⟩
  have hmv : ∀ {F : Nat → Prop} {A : Option Addr} {ts : List Ty}, (∀ b, F b → v.ownBlock ≠ some b) → Ty.At F w A ts → ∃ F' : Nat → Prop, (∀ b, F' b → v'.ownBlock ≠ some b) ∧ Ty.At F' w' A ts := fun {F A ts} hF hA => ⟨fun b => F b ∧ b < w.heap.size, fun b hb e' => by
    rcases h5 with h5 | h5
    · exact hF b hb.1 (h5 ▸ e')
    · rw [h5] at e'
      injection e' with e'
      have := hb.2
      omega, hA.bnd.off ho fun b hb hg => hF b hb.1 hg⟩
  rcases List.mem_append.1 hx with hx | hx
  · obtain ⟨F0, k1, k2, k3⟩ := h.rows x hx
    obtain ⟨F', m1, m2⟩ := hmv k1 k2
    exact ⟨F', m1, m2, k3⟩
  · rw [List.mem_singleton.1 hx]
    obtain ⟨F', m1, m2⟩ := hmv hF hA
    exact ⟨F', m1, m2, hc1, hc2⟩
end
end Go.Proofs.Ytigaondgopahgaa
