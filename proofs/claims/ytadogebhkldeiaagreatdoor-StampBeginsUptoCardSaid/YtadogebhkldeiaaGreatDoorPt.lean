/- stamp: rows of types of a call's own. -/
import Derived.Test.YtadogebhkldeiaaGreatDoorT
import Derived.Laws.CopyRow
namespace Go.Proofs.YtadogebhkldeiaaGreatDoor
open Go.RowKit
set_option linter.unusedVariables false
set_option linter.unusedSimpArgs false
/-- Any block. -/
abbrev Everywhere : Nat → Prop := fun _ => True
/-- A row of types in memory, as a slice's address, length and room. -/
structure PAt (F : Nat → Prop) (w : World) (A : Option Addr) (n c : Nat) (ps : List Ty) : Prop where
  len : ps.length = n
  le : n ≤ c
  cap : c ≤ maxLen
  at_ : Ty.At F w A ps
theorem PAt.bel {F : Nat → Prop} {w w' : World} {A : Option Addr} {n c : Nat} {ps : List Ty} (h : PAt F w A n c ps) (hb : Below w.heap.size w w') : PAt F w' A n c ps := ⟨h.len, h.le, h.cap, h.at_.bel hb⟩
theorem PAt.mono {F G : Nat → Prop} {w : World} {A : Option Addr} {n c : Nat} {ps : List Ty} (h : PAt F w A n c ps) (hF : ∀ b, F b → G b) : PAt G w A n c ps := ⟨h.len, h.le, h.cap, h.at_.mono hF⟩
/-- A type, and where its kids lie. -/
structure Te where
  t : Ty
  A : Option Addr
  c : Nat
def Te.cells (e : Te) : List Value := e.t.cells e.A e.c
def flatE (es : List Te) : List Value := es.flatMap Te.cells
theorem flatE_app (a b : List Te) : flatE (a ++ b) = flatE a ++ flatE b := by unfold flatE; rw [List.flatMap_append]
theorem flatE_cons (x : Te) (es : List Te) : flatE (x :: es) = x.cells ++ flatE es := rfl
theorem Te.cells_len (e : Te) : e.cells.length = 4 := rfl
theorem flatE_len (es : List Te) : (flatE es).length = es.length * 4 := by
  induction es with
  | nil => rfl
  | cons x es ih => rw [flatE_cons, List.length_append, ih, Te.cells_len, List.length_cons]; omega
theorem flatE_one (es : List Te) : ∀ u ∈ flatE es, u.oneCell' = true := fun u hu => by
  unfold flatE at hu
  obtain ⟨e, _, he⟩ := List.mem_flatMap.1 hu
  unfold Te.cells Ty.cells at he
  simp at he
  rcases he with rfl | rfl | rfl | rfl <;> rfl
theorem flatE_get {es : List Te} {k j : Nat} {x : Te} {v : Value} (h : es[k]? = some x) (hj : x.cells[j]? = some v) : (flatE es)[k * 4 + j]? = some v := by
  induction es generalizing k with
  | nil => simp at h
  | cons y es ih =>
    have hj4 : j < 4 := by rw [← Te.cells_len x]; exact (List.getElem?_eq_some_iff.1 hj).1
    cases k with
    | zero =>
      simp at h
      subst h
      rw [flatE_cons, Nat.zero_mul, Nat.zero_add, List.getElem?_append_left (by rw [Te.cells_len]; exact hj4)]
      exact hj
    | succ k =>
      rw [flatE_cons, List.getElem?_append_right (by rw [Te.cells_len]; omega), Te.cells_len, show (k + 1) * 4 + j - 4 = k * 4 + j by omega]
      exact ih (by simpa using h)
theorem flatE_inv {es : List Te} {i : Nat} {v : Value} (h : (flatE es)[i]? = some v) : ∃ e, es[i / 4]? = some e ∧ e.cells[i % 4]? = some v := by
  have hi := (List.getElem?_eq_some_iff.1 h).1
  rw [flatE_len] at hi
  have he : es[i / 4]? = some es[i / 4] := List.getElem?_eq_getElem (by omega)
  refine ⟨es[i / 4], he, ?_⟩
  have hc4 : i % 4 < (es[i / 4]).cells.length := by rw [Te.cells_len]; omega
  have hc : (es[i / 4]).cells[i % 4]? = some ((es[i / 4]).cells[i % 4]'hc4) := List.getElem?_eq_getElem (show i % 4 < (es[i / 4]).cells.length by rw [Te.cells_len]; omega)
  have := flatE_get he hc
  rw [show i / 4 * 4 + i % 4 = i by omega, h] at this
  rw [hc, this]
/-- The kids of one lie in F. -/
def Te.in_ (F : Nat → Prop) (w : World) (e : Te) : Prop := Ty.At F w e.A e.t.ks ∧ e.t.ok ∧ e.t.ks.length ≤ e.c ∧ e.c ≤ maxLen
theorem Te.in_.bel {F : Nat → Prop} {w w' : World} {e : Te} (h : e.in_ F w) (hb : Below w.heap.size w w') : e.in_ F w' := ⟨h.1.bel hb, h.2⟩
theorem Te.in_.off {F G : Nat → Prop} {w w' : World} {e : Te} (h : e.in_ F w) (ho : Off G w w') (hG : ∀ b, F b → ¬ G b) : e.in_ F w' := ⟨h.1.off ho hG, h.2⟩
theorem Te.in_.mono {F G : Nat → Prop} {w : World} {e : Te} (h : e.in_ F w) (hF : ∀ b, F b → G b) : e.in_ G w := ⟨h.1.mono hF, h.2⟩
theorem Ty.At.bnd {F : Nat → Prop} {w : World} {A : Option Addr} {ts : List Ty} (h : Ty.At F w A ts) : Ty.At (fun b => F b ∧ b < w.heap.size) w A ts := by
  induction h with
  | nil A => exact .nil A
  | mk b off ts Af cf hF hlt hc hk ih => exact .mk b off ts Af cf ⟨hF, hlt⟩ hlt hc ih
theorem Te.in_.bnd {F : Nat → Prop} {w : World} {e : Te} (h : e.in_ F w) : e.in_ (fun b => F b ∧ b < w.heap.size) w := ⟨h.1.bnd, h.2⟩
def tes (Af : Nat → Option Addr) (cf : Nat → Nat) : Nat → List Ty → List Te
  | _, [] => []
  | k, t :: ts => ⟨t, Af k, cf k⟩ :: tes Af cf (k + 1) ts
theorem tes_get (Af : Nat → Option Addr) (cf : Nat → Nat) : ∀ (ts : List Ty) (k r : Nat), (tes Af cf k ts)[r]? = ts[r]?.map fun t => ⟨t, Af (k + r), cf (k + r)⟩
  | [], k, r => by simp [tes]
  | t :: ts, k, 0 => by simp [tes]
  | t :: ts, k, r + 1 => by rw [tes, List.getElem?_cons_succ, tes_get Af cf ts (k + 1) r, List.getElem?_cons_succ, show k + 1 + r = k + (r + 1) by omega]
theorem tes_map (Af : Nat → Option Addr) (cf : Nat → Nat) : ∀ (ts : List Ty) (k : Nat), (tes Af cf k ts).map Te.t = ts
  | [], k => rfl
  | t :: ts, k => by rw [tes, List.map_cons, tes_map Af cf ts (k + 1)]
/-- A row in memory, with where the kids lie. -/
theorem Ty.At.tes {F : Nat → Prop} {w : World} {A : Option Addr} {ts : List Ty} (h : Ty.At F w A ts) : ∃ es : List Te, es.map Te.t = ts ∧ es.length = ts.length ∧ (∀ e ∈ es, e.in_ F w) ∧ (ts ≠ [] → ∃ b off, A = some ⟨b, off, none⟩ ∧ F b ∧ b < w.heap.size ∧ ∀ (j : Nat) (v : Value), (flatE es)[j]? = some v → w.cell? ⟨b, off + j, none⟩ = some v) := by
  cases h with
  | nil A => exact ⟨[], rfl, rfl, (fun e h => by cases h), fun h => absurd rfl h⟩
  | mk b off ts Af cf hF hlt hc hk =>
    have hm := tes_map Af cf ts 0
    have hg := tes_get Af cf ts 0
    refine ⟨Go.Proofs.YtadogebhkldeiaaGreatDoor.tes Af cf 0 ts, hm, by rw [← List.length_map (f := Te.t), hm], fun e he => ?_, fun _ => ⟨b, off, rfl, hF, hlt, fun j v hj => ?_⟩⟩
    · obtain ⟨r, hr⟩ := List.getElem?_of_mem he
      rw [hg] at hr
      cases ht : ts[r]? with
      | none => rw [ht] at hr; cases hr
      | some t =>
        rw [ht, Option.map_some, Nat.zero_add] at hr
        cases hr
        exact ⟨hk r t ht, (hc r t ht).2⟩
    · obtain ⟨e, he, hv⟩ := flatE_inv hj
      rw [hg] at he
      cases ht : ts[j / 4]? with
      | none => rw [ht] at he; cases he
      | some t =>
        rw [ht, Option.map_some, Nat.zero_add] at he
        cases he
        have := (hc _ t ht).1 _ v hv
        rwa [show off + j / 4 * 4 + j % 4 = off + j by omega] at this
/-- A row of types of the call's own. -/
structure PtO (F : Nat → Prop) (B : Nat) (w : World) (v : Value) (es : List Te) : Prop where
  own : w.ownsRow B 24 4 v es.length (flatE es)
  kids : ∀ e ∈ es, e.in_ (fun b => F b ∧ v.ownBlock ≠ some b) w
section
variable {F : Nat → Prop} {B : Nat} {w w' : World} {v : Value} {es : List Te}
theorem PtO.nil (F : Nat → Prop) (B : Nat) (w : World) : PtO F B w (.slice none 0 0) [] := ⟨World.ownsRow_nil _ _ _ _, fun e h => by cases h⟩
theorem PtO.below (h : PtO F B w v es) (hb : Below w.heap.size w w') : PtO F B w' v es := ⟨own_below h.own hb, fun e he => (h.kids e he).bel hb⟩
theorem PtO.shape (h : PtO F B w v es) : ∃ A c, v = .slice A es.length c ∧ PAt (fun b => F b ∨ B ≤ b) w A es.length c (es.map Te.t) := by
  rcases h.own.2 with ⟨rfl, h0⟩ | ⟨g, cap, cur, rfl, hB, hg, h1, h2, h3, h4⟩
  · have : es = [] := List.eq_nil_of_length_eq_zero h0
    subst this
    exact ⟨none, 0, rfl, rfl, Nat.le_refl _, Nat.zero_le _, .nil _⟩
  · have hbk : Blk w g 24 cur := hg
    refine ⟨_, _, rfl, List.length_map _, h1, h2, .mk g 0 _ (fun r => (es[r]?.map Te.A).getD none) (fun r => (es[r]?.map Te.c).getD 0) (.inr hB) hbk.lt (fun r t ht => ?_) fun r t ht => ?_⟩
    · rw [List.getElem?_map] at ht
      cases he : es[r]? with
      | none => rw [he] at ht; cases ht
      | some e =>
        rw [he] at ht
        cases ht
        obtain ⟨_, k2, k3, k4⟩ := h.kids e (List.mem_of_getElem? he)
        refine ⟨fun j u hj => ?_, k2, k3, k4⟩
        have hj4 : j < 4 := by rw [← Te.cells_len e]; exact (List.getElem?_eq_some_iff.1 hj).1
        have hr := (List.getElem?_eq_some_iff.1 he).1
        have h5 := flatE_get he hj
        rw [← h4, List.getElem?_take_of_lt (by omega)] at h5
        rw [Nat.zero_add, hbk.cell]
        simpa using h5
    · rw [List.getElem?_map] at ht
      cases he : es[r]? with
      | none => rw [he] at ht; cases ht
      | some e =>
        rw [he] at ht
        cases ht
        exact (h.kids e (List.mem_of_getElem? he)).1.mono fun b hb => .inl hb.1
theorem PtO.bel (h : PtO F B w v es) (hg : w.grownBy w' v.ownBlock) {B0 : Nat} (hB : B0 ≤ B) (hB2 : B0 ≤ w.heap.size) : Below B0 w w' :=
  ((Off.of_grown hg).below (B := B0) hB2 fun k hk => by have := (h.own.lt k hk).1; omega)
theorem infoPat : (Tryz.prog.info? 24).map (fun i => (i.zero, i.size, i.bytes)) = some (some (.agg #[.int .u8 0, .string ⟨#[]⟩, .int .i64 0, .slice none 0 0]), 4, 56) := by kernel_rfl
/-- More of them. -/
theorem PtO.app (h : PtO F B w v es) (hB : B ≤ w.heap.size) (fs : List Te) (a : Addr) (m c : Nat) (hm : fs.length = m) (hb : ∀ (j : Nat) (u : Value), (flatE fs)[j]? = some u → w.cell? (a.add j) = some u) (hin : ∀ e ∈ fs, e.in_ (fun k => F k ∧ v.ownBlock ≠ some k) w) (hl : es.length + m < 1000000) :
    ∃ v' w', (Builtin.append_ #[22, 22] 22 #[v, .slice (some a) m c]).run Tryz.prog w = .ok v' w' ∧ PtO F B w' v' (es ++ fs) ∧ w.grownBy w' v.ownBlock := by
  obtain ⟨i0, hi, hz0, hz1, hz2⟩ := info_parts infoPat
  obtain ⟨v', w', hrun, h2, h3, _, h5⟩ := run_append_own_at (P := Tryz.prog) w B 22 22 24 i0 (.agg #[.int .u8 0, .string ⟨#[]⟩, .int .i64 0, .slice none 0 0]) 4 56 Tryz.underlying22 hi hz0 hz1 hz2 rfl (by decide) v es.length _ h.own a m c (flatE fs) (by rw [flatE_len, hm]) hb
    (flatE_one fs) (by unfold maxLen; omega) (by omega) hB
  have ho : Off (fun k => v.ownBlock = some k) w w' := Off.of_grown h3
  refine ⟨v', w', hrun, ⟨by rw [List.length_append, hm, flatE_app]; exact h2, fun x hx => ?_⟩, h3⟩
  have hmv : ∀ {e : Te}, e.in_ (fun k => F k ∧ v.ownBlock ≠ some k) w → e.in_ (fun k => F k ∧ v'.ownBlock ≠ some k) w' := fun hA => (hA.bnd.off ho fun k hk hg => hk.1.2 hg).mono fun k hk => ⟨hk.1.1, fun e' => by
    rcases h5 with h5 | h5
    · exact hk.1.2 (h5 ▸ e')
    · rw [h5] at e'
      injection e' with e'
      have := hk.2
      omega⟩
  rcases List.mem_append.1 hx with hx | hx
  · exact hmv (h.kids x hx)
  · exact hmv (hin x hx)
end
theorem add_off (b o j : Nat) : (⟨b, o, none⟩ : Addr).add j = ⟨b, o + j, none⟩ := by unfold Addr.add; split <;> simp_all
theorem At_blk {F : Nat → Prop} {w : World} {g : Nat} {cs : Array Value} {es : List Te} (h : Blk w g 24 cs) (hcs : ∀ (i : Nat) (v : Value), (flatE es)[i]? = some v → cs[i]? = some v) (hk : ∀ e ∈ es, e.in_ F w) (hF : F g) : Ty.At F w (some ⟨g, 0, none⟩) (es.map Te.t) := by
  refine .mk g 0 _ (fun r => (es[r]?.map Te.A).getD none) (fun r => (es[r]?.map Te.c).getD 0) hF h.lt (fun r t ht => ?_) fun r t ht => ?_
  · rw [List.getElem?_map] at ht
    cases he : es[r]? with
    | none => rw [he] at ht; cases ht
    | some e =>
      rw [he] at ht
      cases ht
      obtain ⟨_, k2, k3, k4⟩ := hk e (List.mem_of_getElem? he)
      refine ⟨fun j u hj => ?_, k2, k3, k4⟩
      rw [Nat.zero_add, h.cell]
      exact hcs _ _ (flatE_get he hj)
  · rw [List.getElem?_map] at ht
    cases he : es[r]? with
    | none => rw [he] at ht; cases ht
    | some e =>
      rw [he] at ht
      cases ht
      exact (hk e (List.mem_of_getElem? he)).1
theorem PAt_blk {F : Nat → Prop} {w : World} {g : Nat} {cs : Array Value} {es : List Te} {vs : List Ty} {n : Nat} (h : Blk w g 24 cs) (hcs : flatE es = cs.toList) (hk : ∀ e ∈ es, e.in_ F w) (hF : F g) (hv : es.map Te.t = vs) (hn : vs.length = n) (hm : n ≤ 100) : PAt F w (some ⟨g, 0, none⟩) n n vs := by
  refine ⟨hn, Nat.le_refl _, by unfold maxLen; omega, ?_⟩
  rw [← hv]
  exact At_blk h (fun i v hi => by rw [hcs] at hi; simpa using hi) hk hF
end Go.Proofs.YtadogebhkldeiaaGreatDoor
