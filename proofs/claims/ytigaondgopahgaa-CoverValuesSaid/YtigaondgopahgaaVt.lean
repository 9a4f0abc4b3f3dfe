/- cover: values, in memory. -/
import Derived.Test.YtigaondgopahgaaMv
namespace Go.Proofs.Ytigaondgopahgaa
open Go.RowKit
set_option linter.unusedVariables false
set_option linter.unusedSimpArgs false
namespace Vl
def ok (t : Vl) : Prop := (-9223372036854775808 ≤ t.n ∧ t.n < 9223372036854775808) ∧ t.nm.length ≤ maxLen
def cells (t : Vl) (A : Option Addr) (c : Nat) : List Value := [.string (str t.nm), .int .i64 t.n, .slice A t.ks.length c]
/-- A row of values in memory, all of whose blocks are in F. -/
inductive At (F : Nat → Prop) (w : World) : Option Addr → List Vl → Prop
  | nil (A : Option Addr) : At F w A []
  | mk (b off : Nat) (ts : List Vl) (Af : Nat → Option Addr) (cf : Nat → Nat) (hF : F b) (hlt : b < w.heap.size)
      (hc : ∀ (r : Nat) (t : Vl), ts[r]? = some t → (∀ (j : Nat) (v : Value), (t.cells (Af r) (cf r))[j]? = some v → w.cell? ⟨b, off + r * 3 + j, none⟩ = some v) ∧ t.ok ∧ t.ks.length ≤ cf r ∧ cf r ≤ maxLen)
      (hk : ∀ (r : Nat) (t : Vl), ts[r]? = some t → At F w (Af r) t.ks) : At F w (some ⟨b, off, none⟩) ts
section
variable {F G : Nat → Prop} {w w' : World} {A : Option Addr} {ts : List Vl}
theorem At.off (h : At F w A ts) (ho : Off G w w') (hG : ∀ b, F b → ¬ G b) : At F w' A ts := by
  induction h with
  | nil A => exact .nil A
  | mk b off ts Af cf hF hlt hc hk ih =>
    exact .mk b off ts Af cf hF (Nat.lt_of_lt_of_le hlt ho.size) (fun r t ht => by
      obtain ⟨h1, h2⟩ := hc r t ht
      exact ⟨fun j v hj => (World.cell?_of_block (a := ⟨b, off + r * 3 + j, none⟩) (ho.block b hlt (hG b hF))).trans (h1 j v hj), h2⟩) fun r t ht => ih r t ht
theorem At.bel (h : At F w A ts) (hb : Below w.heap.size w w') : At F w' A ts := by
  induction h with
  | nil A => exact .nil A
  | mk b off ts Af cf hF hlt hc hk ih =>
    exact .mk b off ts Af cf hF (Nat.lt_of_lt_of_le hlt hb.size) (fun r t ht => by
      obtain ⟨h1, h2⟩ := hc r t ht
      exact ⟨fun j v hj => (hb.cell (p := ⟨b, off + r * 3 + j, none⟩) hlt).trans (h1 j v hj), h2⟩) fun r t ht => ih r t ht
theorem At.mono (h : At F w A ts) (hF : ∀ b, F b → G b) : At G w A ts := by
  induction h with
  | nil A => exact .nil A
  | mk b off ts Af cf hF' hlt hc hk ih => exact .mk b off ts Af cf (hF b hF') hlt hc fun r t ht => ih r t ht
/-- One of the row. -/
theorem At.get (h : At F w A ts) {r : Nat} {t : Vl} (ht : ts[r]? = some t) : ∃ b off A' c', A = some ⟨b, off, none⟩ ∧ F b ∧ b < w.heap.size ∧ w.cell? ⟨b, off + r * 3, none⟩ = some (.string (str t.nm)) ∧ w.cell? ⟨b, off + r * 3 + 1, none⟩ = some (.int .i64 t.n) ∧ w.cell? ⟨b, off + r * 3 + 2, none⟩ = some (.slice A' t.ks.length c') ∧ t.ok ∧ t.ks.length ≤ c' ∧ c' ≤ maxLen ∧ At F w A' t.ks := by
  cases h with
  | nil A => simp at ht
  | mk b off ts Af cf hF hlt hc hk =>
    obtain ⟨h1, h2, h3, h4⟩ := hc r t ht
    exact ⟨b, off, Af r, cf r, rfl, hF, hlt, h1 0 _ rfl, h1 1 _ rfl, h1 2 _ rfl, h2, h3, h4, hk r t ht⟩
end
end Vl
/-- A row of values in memory, as a slice's address, length and room. -/
structure VAt (F : Nat → Prop) (w : World) (A : Option Addr) (n c : Nat) (ps : List Vl) : Prop where
  len : ps.length = n
  le : n ≤ c
  cap : c ≤ maxLen
  at_ : Vl.At F w A ps
theorem VAt.bel {F : Nat → Prop} {w w' : World} {A : Option Addr} {n c : Nat} {ps : List Vl} (h : VAt F w A n c ps) (hb : Below w.heap.size w w') : VAt F w' A n c ps := ⟨h.len, h.le, h.cap, h.at_.bel hb⟩
theorem VAt.mono {F G : Nat → Prop} {w : World} {A : Option Addr} {n c : Nat} {ps : List Vl} (h : VAt F w A n c ps) (hF : ∀ b, F b → G b) : VAt G w A n c ps := ⟨h.len, h.le, h.cap, h.at_.mono hF⟩
/-- A value, and where its kids lie. -/
structure Ve where
  t : Vl
  A : Option Addr
  c : Nat
def Ve.cells (e : Ve) : List Value := e.t.cells e.A e.c
def flatV (es : List Ve) : List Value := es.flatMap Ve.cells
theorem flatV_app (a b : List Ve) : flatV (a ++ b) = flatV a ++ flatV b := by unfold flatV; rw [List.flatMap_append]
theorem flatV_cons (x : Ve) (es : List Ve) : flatV (x :: es) = x.cells ++ flatV es := rfl
theorem Ve.cells_len (e : Ve) : e.cells.length = 3 := rfl
theorem flatV_len (es : List Ve) : (flatV es).length = es.length * 3 := by
  induction es with
  | nil => rfl
  | cons x es ih => rw [flatV_cons, List.length_append, ih, Ve.cells_len, List.length_cons]; omega
theorem flatV_one (es : List Ve) : ∀ u ∈ flatV es, u.oneCell' = true := fun u hu => by
  unfold flatV at hu
  obtain ⟨e, _, he⟩ := List.mem_flatMap.1 hu
  unfold Ve.cells Vl.cells at he
  simp at he
  rcases he with rfl | rfl | rfl <;> rfl
theorem flatV_get {es : List Ve} {k j : Nat} {x : Ve} {v : Value} (h : es[k]? = some x) (hj : x.cells[j]? = some v) : (flatV es)[k * 3 + j]? = some v := by
  induction es generalizing k with
  | nil => simp at h
  | cons y es ih =>
    have hj3 : j < 3 := by rw [← Ve.cells_len x]; exact (List.getElem?_eq_some_iff.1 hj).1
    cases k with
    | zero =>
      simp at h
      subst h
      rw [flatV_cons, Nat.zero_mul, Nat.zero_add, List.getElem?_append_left (by rw [Ve.cells_len]; exact hj3)]
      exact hj
    | succ k =>
      rw [flatV_cons, List.getElem?_append_right (by rw [Ve.cells_len]; omega), Ve.cells_len, show (k + 1) * 3 + j - 3 = k * 3 + j by omega]
      exact ih (by simpa using h)
theorem flatV_inv {es : List Ve} {i : Nat} {v : Value} (h : (flatV es)[i]? = some v) : ∃ e, es[i / 3]? = some e ∧ e.cells[i % 3]? = some v := by
  have hi := (List.getElem?_eq_some_iff.1 h).1
  rw [flatV_len] at hi
  have he : es[i / 3]? = some es[i / 3] := List.getElem?_eq_getElem (by omega)
  refine ⟨es[i / 3], he, ?_⟩
  have hc3 : i % 3 < (es[i / 3]).cells.length := by rw [Ve.cells_len]; omega
  have hc : (es[i / 3]).cells[i % 3]? = some ((es[i / 3]).cells[i % 3]'hc3) := List.getElem?_eq_getElem (show i % 3 < (es[i / 3]).cells.length by rw [Ve.cells_len]; omega)
  have := flatV_get he hc
  rw [show i / 3 * 3 + i % 3 = i by omega, h] at this
  rw [hc, this]
/-- The kids of one lie in F. -/
def Ve.in_ (F : Nat → Prop) (w : World) (e : Ve) : Prop := Vl.At F w e.A e.t.ks ∧ e.t.ok ∧ e.t.ks.length ≤ e.c ∧ e.c ≤ maxLen
theorem Ve.in_.bel {F : Nat → Prop} {w w' : World} {e : Ve} (h : e.in_ F w) (hb : Below w.heap.size w w') : e.in_ F w' := ⟨h.1.bel hb, h.2⟩
theorem Ve.in_.off {F G : Nat → Prop} {w w' : World} {e : Ve} (h : e.in_ F w) (ho : Off G w w') (hG : ∀ b, F b → ¬ G b) : e.in_ F w' := ⟨h.1.off ho hG, h.2⟩
theorem Ve.in_.mono {F G : Nat → Prop} {w : World} {e : Ve} (h : e.in_ F w) (hF : ∀ b, F b → G b) : e.in_ G w := ⟨h.1.mono hF, h.2⟩
theorem Vl.At.bnd {F : Nat → Prop} {w : World} {A : Option Addr} {ts : List Vl} (h : Vl.At F w A ts) : Vl.At (fun b => F b ∧ b < w.heap.size) w A ts := by
  induction h with
  | nil A => exact .nil A
  | mk b off ts Af cf hF hlt hc hk ih => exact .mk b off ts Af cf ⟨hF, hlt⟩ hlt hc ih
theorem Ve.in_.bnd {F : Nat → Prop} {w : World} {e : Ve} (h : e.in_ F w) : e.in_ (fun b => F b ∧ b < w.heap.size) w := ⟨h.1.bnd, h.2⟩
def ves (Af : Nat → Option Addr) (cf : Nat → Nat) : Nat → List Vl → List Ve
  | _, [] => []
  | k, t :: ts => ⟨t, Af k, cf k⟩ :: ves Af cf (k + 1) ts
theorem ves_get (Af : Nat → Option Addr) (cf : Nat → Nat) : ∀ (ts : List Vl) (k r : Nat), (ves Af cf k ts)[r]? = ts[r]?.map fun t => ⟨t, Af (k + r), cf (k + r)⟩
  | [], k, r => by simp [ves]
  | t :: ts, k, 0 => by simp [ves]
  | t :: ts, k, r + 1 => by rw [ves, List.getElem?_cons_succ, ves_get Af cf ts (k + 1) r, List.getElem?_cons_succ, show k + 1 + r = k + (r + 1) by omega]
theorem ves_map (Af : Nat → Option Addr) (cf : Nat → Nat) : ∀ (ts : List Vl) (k : Nat), (ves Af cf k ts).map Ve.t = ts
  | [], k => rfl
  | t :: ts, k => by rw [ves, List.map_cons, ves_map Af cf ts (k + 1)]
/-- A row in memory, with where the kids lie. -/
theorem Vl.At.ves {F : Nat → Prop} {w : World} {A : Option Addr} {ts : List Vl} (h : Vl.At F w A ts) : ∃ es : List Ve, es.map Ve.t = ts ∧ es.length = ts.length ∧ (∀ e ∈ es, e.in_ F w) ∧ (ts ≠ [] → ∃ b off, A = some ⟨b, off, none⟩ ∧ F b ∧ b < w.heap.size ∧ ∀ (j : Nat) (v : Value), (flatV es)[j]? = some v → w.cell? ⟨b, off + j, none⟩ = some v) := by
  cases h with
  | nil A => exact ⟨[], rfl, rfl, (fun e h => by cases h), fun h => absurd rfl h⟩
  | mk b off ts Af cf hF hlt hc hk =>
    have hm := ves_map Af cf ts 0
    have hg := ves_get Af cf ts 0
    refine ⟨Go.Proofs.Ytigaondgopahgaa.ves Af cf 0 ts, hm, by rw [← List.length_map (f := Ve.t), hm], fun e he => ?_, fun _ => ⟨b, off, rfl, hF, hlt, fun j v hj => ?_⟩⟩
    · obtain ⟨r, hr⟩ := List.getElem?_of_mem he
      rw [hg] at hr
      cases ht : ts[r]? with
      | none => rw [ht] at hr; cases hr
      | some t =>
        rw [ht, Option.map_some, Nat.zero_add] at hr
        cases hr
        exact ⟨hk r t ht, (hc r t ht).2⟩
    · obtain ⟨e, he, hv⟩ := flatV_inv hj
      rw [hg] at he
      cases ht : ts[j / 3]? with
      | none => rw [ht] at he; cases he
      | some t =>
        rw [ht, Option.map_some, Nat.zero_add] at he
        cases he
        have := (hc _ t ht).1 _ v hv
        rwa [show off + j / 3 * 3 + j % 3 = off + j by omega] at this
/-- A row of values of the call's own. -/
structure VO (F : Nat → Prop) (B : Nat) (w : World) (v : Value) (es : List Ve) : Prop where
  own : w.ownsRow B 36 3 v es.length (flatV es)
  kids : ∀ e ∈ es, e.in_ (fun b => F b ∧ v.ownBlock ≠ some b) w
section
variable {F : Nat → Prop} {B : Nat} {w w' : World} {v : Value} {es : List Ve}
theorem VO.nil (F : Nat → Prop) (B : Nat) (w : World) : VO F B w (.slice none 0 0) [] := ⟨World.ownsRow_nil _ _ _ _, fun e h => by cases h⟩
theorem VO.below (h : VO F B w v es) (hb : Below w.heap.size w w') : VO F B w' v es := ⟨own_below h.own hb, fun e he => (h.kids e he).bel hb⟩
theorem VO.shape (h : VO F B w v es) : ∃ A c, v = .slice A es.length c ∧ VAt (fun b => F b ∨ B ≤ b) w A es.length c (es.map Ve.t) := by
  rcases h.own.2 with ⟨rfl, h0⟩ | ⟨g, cap, cur, rfl, hB, hg, h1, h2, h3, h4⟩
  · have : es = [] := List.eq_nil_of_length_eq_zero h0
    subst this
    exact ⟨none, 0, rfl, rfl, Nat.le_refl _, Nat.zero_le _, .nil _⟩
  · have hbk : Blk w g 36 cur := hg
    refine ⟨_, _, rfl, List.length_map _, h1, h2, .mk g 0 _ (fun r => (es[r]?.map Ve.A).getD none) (fun r => (es[r]?.map Ve.c).getD 0) (.inr hB) hbk.lt (fun r t ht => ?_) fun r t ht => ?_⟩
    · rw [List.getElem?_map] at ht
      cases he : es[r]? with
      | none => rw [he] at ht; cases ht
      | some e =>
        rw [he] at ht
        cases ht
        obtain ⟨_, k2, k3, k4⟩ := h.kids e (List.mem_of_getElem? he)
        refine ⟨fun j u hj => ?_, k2, k3, k4⟩
        have hj3 : j < 3 := by rw [← Ve.cells_len e]; exact (List.getElem?_eq_some_iff.1 hj).1
        have hr := (List.getElem?_eq_some_iff.1 he).1
        have h5 := flatV_get he hj
        rw [← h4, List.getElem?_take_of_lt (by omega)] at h5
        rw [Nat.zero_add, hbk.cell]
        simpa using h5
    · rw [List.getElem?_map] at ht
      cases he : es[r]? with
      | none => rw [he] at ht; cases ht
      | some e =>
        rw [he] at ht
        cases ht
        exact (h.kids e (List.mem_of_getElem? he)).1.mono fun b hb => .inl hb.1
theorem VO.bel (h : VO F B w v es) (hg : w.grownBy w' v.ownBlock) {B0 : Nat} (hB : B0 ≤ B) (hB2 : B0 ≤ w.heap.size) : Below B0 w w' :=
  ((Off.of_grown hg).below (B := B0) hB2 fun k hk => by have := (h.own.lt k hk).1; omega)
theorem infoVl : (Try.prog.info? 36).map (fun i => (i.zero, i.size, i.bytes)) = some (some (.agg #[.string ⟨#[]⟩, .int .i64 0, .slice none 0 0]), 3, 48) := by kernel_rfl
/-- More of them. -/
theorem VO.app (h : VO F B w v es) (hB : B ≤ w.heap.size) (fs : List Ve) (a : Addr) (m c : Nat) (hm : fs.length = m) (hb : ∀ (j : Nat) (u : Value), (flatV fs)[j]? = some u → w.cell? (a.add j) = some u) (hin : ∀ e ∈ fs, e.in_ (fun k => F k ∧ v.ownBlock ≠ some k) w) (hl : es.length + m < 1000000) :
    ∃ v' w', (Builtin.append_ #[34, 34] 34 #[v, .slice (some a) m c]).run Try.prog w = .ok v' w' ∧ VO F B w' v' (es ++ fs) ∧ w.grownBy w' v.ownBlock := by
  obtain ⟨i0, hi, hz0, hz1, hz2⟩ := info_parts infoVl
  obtain ⟨v', w', hrun, h2, h3, _, h5⟩ := run_append_own_at (P := Try.prog) w B 34 34 36 i0 (.agg #[.string ⟨#[]⟩, .int .i64 0, .slice none 0 0]) 3 48 Try.underlying34 hi hz0 hz1 hz2 rfl (by decide) v es.length _ h.own a m c (flatV fs) (by rw [flatV_len, hm]) hb
    (flatV_one fs) (by unfold maxLen; omega) (by omega) hB
  have ho : Off (fun k => v.ownBlock = some k) w w' := Off.of_grown h3
  refine ⟨v', w', hrun, ⟨by rw [List.length_append, hm, flatV_app]; exact h2, fun x hx => ?_⟩, h3⟩
  have hmv : ∀ {e : Ve}, e.in_ (fun k => F k ∧ v.ownBlock ≠ some k) w → e.in_ (fun k => F k ∧ v'.ownBlock ≠ some k) w' := fun hA => (hA.bnd.off ho fun k hk hg => hk.1.2 hg).mono fun k hk => ⟨hk.1.1, fun e' => by
    rcases h5 with h5 | h5
    · exact hk.1.2 (h5 ▸ e')
    · rw [h5] at e'
      injection e' with e'
      have := hk.2
      omega⟩
  rcases List.mem_append.1 hx with hx | hx
  · exact hmv (h.kids x hx)
  · exact hmv (hin x hx)
end
theorem Vl.At_blk {F : Nat → Prop} {w : World} {g : Nat} {cs : Array Value} {es : List Ve} (h : Blk w g 36 cs) (hcs : ∀ (i : Nat) (v : Value), (flatV es)[i]? = some v → cs[i]? = some v) (hk : ∀ e ∈ es, e.in_ F w) (hF : F g) : Vl.At F w (some ⟨g, 0, none⟩) (es.map Ve.t) := by
  refine .mk g 0 _ (fun r => (es[r]?.map Ve.A).getD none) (fun r => (es[r]?.map Ve.c).getD 0) hF h.lt (fun r t ht => ?_) fun r t ht => ?_
  · rw [List.getElem?_map] at ht
    cases he : es[r]? with
    | none => rw [he] at ht; cases ht
    | some e =>
      rw [he] at ht
      cases ht
      obtain ⟨_, k2, k3, k4⟩ := hk e (List.mem_of_getElem? he)
      refine ⟨fun j u hj => ?_, k2, k3, k4⟩
      rw [Nat.zero_add, h.cell]
      exact hcs _ _ (flatV_get he hj)
  · rw [List.getElem?_map] at ht
    cases he : es[r]? with
    | none => rw [he] at ht; cases ht
    | some e =>
      rw [he] at ht
      cases ht
      exact (hk e (List.mem_of_getElem? he)).1
/-- All of a row appended. -/
theorem VO.appA {F G : Nat → Prop} {B : Nat} {w : World} {v : Value} {es : List Ve} (h : VO F B w v es) (hB : B ≤ w.heap.size) {A : Option Addr} {m c : Nat} {ts : List Vl} (hA : VAt G w A m c ts) (hn : A = none → c = 0) (hG : ∀ b, G b → F b ∧ v.ownBlock ≠ some b) (hl : es.length + m < 1000000) :
    ∃ v' w' fs, (Builtin.append_ #[34, 34] 34 #[v, .slice A m c]).run Try.prog w = .ok v' w' ∧ VO F B w' v' (es ++ fs) ∧ fs.map Ve.t = ts ∧ fs.length = m ∧ w.grownBy w' v.ownBlock := by
  cases A with
  | none =>
    have hc := hn rfl
    subst hc
    have hm : m = 0 := by have := hA.le; omega
    subst hm
    have hts : ts = [] := List.eq_nil_of_length_eq_zero hA.len
    subst hts
    obtain ⟨i0, hi, hz0, hz1, hz2⟩ := info_parts infoVl
    exact ⟨v, w, [], run_append_owned_none (P := Try.prog) (w := w) B 34 34 36 i0 3 Try.underlying34 hi v es.length (flatV es) h.own, by rw [List.append_nil]; exact h, rfl, rfl, ⟨rfl, rfl, rfl, Nat.le_refl _, fun k _ _ => rfl⟩⟩
  | some a =>
    obtain ⟨fs, h1, h2, h3, h4⟩ := hA.at_.ves
    have hfm : fs.length = m := by rw [h2, hA.len]
    have hcell : ∀ (j : Nat) (u : Value), (flatV fs)[j]? = some u → w.cell? (a.add j) = some u := fun j u hj => by
      have hne : ts ≠ [] := fun e => by
        rw [e] at h2
        have := List.eq_nil_of_length_eq_zero h2
        subst this
        simp [flatV] at hj
      obtain ⟨b, off, e, _, _, h5⟩ := h4 hne
      cases e
      rw [add_off]
      exact h5 j u hj
    obtain ⟨v', w', hr, hO, hg⟩ := h.app hB fs a m c hfm hcell (fun e he => (h3 e he).mono hG) hl
    exact ⟨v', w', fs, hr, hO, h1, hfm, hg⟩
end Go.Proofs.Ytigaondgopahgaa
