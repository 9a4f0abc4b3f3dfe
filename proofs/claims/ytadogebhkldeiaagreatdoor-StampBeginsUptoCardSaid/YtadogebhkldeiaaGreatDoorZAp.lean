/- stamp: rows of declarations of a call's own. -/
import Derived.Test.YtadogebhkldeiaaGreatDoorZMo
namespace Go.Proofs.YtadogebhkldeiaaGreatDoor
open Go.RowKit Ty
set_option linter.unusedVariables false
set_option linter.unusedSimpArgs false
def flatZ (ds : List Dc) : List Value := ds.flatMap Dc.cells
theorem flatZ_app (a b : List Dc) : flatZ (a ++ b) = flatZ a ++ flatZ b := by unfold flatZ; rw [List.flatMap_append]
theorem flatZ_cons (x : Dc) (es : List Dc) : flatZ (x :: es) = x.cells ++ flatZ es := rfl
theorem dcells_len (d : Dc) : d.cells.length = 16 := rfl
theorem flatZ_len (es : List Dc) : (flatZ es).length = es.length * 16 := by
  induction es with
  | nil => rfl
  | cons x es ih => rw [flatZ_cons, List.length_append, ih, dcells_len, List.length_cons]; omega
theorem flatZ_one (es : List Dc) : ∀ u ∈ flatZ es, u.oneCell' = true := fun u hu => by
  unfold flatZ at hu
  obtain ⟨e, _, he⟩ := List.mem_flatMap.1 hu
  unfold Dc.cells dcells at he
  simp only [List.mem_cons, List.mem_nil_iff, or_false] at he
  rcases he with rfl | rfl | rfl | rfl | rfl | rfl | rfl | rfl | rfl | rfl | rfl | rfl | rfl | rfl | rfl | rfl <;> rfl
theorem flatZ_get {es : List Dc} {k j : Nat} {x : Dc} {v : Value} (h : es[k]? = some x) (hj : x.cells[j]? = some v) : (flatZ es)[k * 16 + j]? = some v := by
  induction es generalizing k with
  | nil => simp at h
  | cons y es ih =>
    have hj4 : j < 16 := by rw [← dcells_len x]; exact (List.getElem?_eq_some_iff.1 hj).1
    cases k with
    | zero =>
      simp at h
      subst h
      rw [flatZ_cons, Nat.zero_mul, Nat.zero_add, List.getElem?_append_left (by rw [dcells_len]; exact hj4)]
      exact hj
    | succ k =>
      rw [flatZ_cons, List.getElem?_append_right (by rw [dcells_len]; omega), dcells_len, show (k + 1) * 16 + j - 16 = k * 16 + j by omega]
      exact ih (by simpa using h)
theorem flatZ_inv {es : List Dc} {i : Nat} {v : Value} (h : (flatZ es)[i]? = some v) : ∃ e, es[i / 16]? = some e ∧ e.cells[i % 16]? = some v := by
  have hi := (List.getElem?_eq_some_iff.1 h).1
  rw [flatZ_len] at hi
  have he : es[i / 16]? = some es[i / 16] := List.getElem?_eq_getElem (by omega)
  refine ⟨es[i / 16], he, ?_⟩
  have hc4 : i % 16 < (es[i / 16]).cells.length := by rw [dcells_len]; omega
  have hc : (es[i / 16]).cells[i % 16]? = some ((es[i / 16]).cells[i % 16]'hc4) := List.getElem?_eq_getElem hc4
  have := flatZ_get he hc
  rw [show i / 16 * 16 + i % 16 = i by omega, h] at this
  rw [hc, this]
/-- A row of declarations of the call's own; what is in them came in. -/
structure DsO (B : Nat) (w : World) (v : Value) (ds : List Dc) : Prop where
  own : w.ownsRow B 42 16 v ds.length (flatZ ds)
  kids : ∀ d ∈ ds, d.K (fun b => b < B) w ∧ d.nm.length ≤ maxLen
  le : B ≤ w.heap.size
section
variable {B : Nat} {w w' : World} {v : Value} {ds : List Dc}
theorem DsO.nil (hB : B ≤ w.heap.size) : DsO B w (.slice none 0 0) [] := ⟨World.ownsRow_nil _ _ _ _, (fun e h => by cases h), hB⟩
theorem DsO.below (h : DsO B w v ds) (hb : Below w.heap.size w w') : DsO B w' v ds := ⟨own_below h.own hb, fun d hd => ⟨(h.kids d hd).1.off (Off.of_new hb (fun k => ¬ (k < B))) fun b h1 h2 => h2 h1, (h.kids d hd).2⟩, Nat.le_trans h.le hb.size⟩
theorem DsO.shape (h : DsO B w v ds) : ∃ A c, v = .slice A ds.length c ∧ DsAt (fun b => b < w.heap.size) w A ds := by
  rcases h.own.2 with ⟨rfl, h0⟩ | ⟨g, cap, cur, rfl, hB, hg, h1, h2, h3, h4⟩
  · have : ds = [] := List.eq_nil_of_length_eq_zero h0
    subst this
    exact ⟨none, 0, rfl, fun r d hd => by simp at hd⟩
  · have hbk : Blk w g 42 cur := hg
    refine ⟨_, _, rfl, fun r d hd => ⟨g, 0, rfl, hbk.lt, hbk.lt, fun j u hj => ?_, (h.kids d (List.mem_of_getElem? hd)).1.mono fun b hb => Nat.lt_of_lt_of_le hb h.le, (h.kids d (List.mem_of_getElem? hd)).2⟩⟩
    have hj16 : j < 16 := by rw [← dcells_len d]; exact (List.getElem?_eq_some_iff.1 hj).1
    have hr := (List.getElem?_eq_some_iff.1 hd).1
    have h5 := flatZ_get hd hj
    rw [← h4, List.getElem?_take_of_lt (by omega)] at h5
    rw [Nat.zero_add, hbk.cell]
    simpa using h5
theorem infoDec : (Tryz.prog.info? 42).map (fun i => (i.zero, i.size, i.bytes)) = some (some zDc.val, 16, 272) := by kernel_rfl
/-- More of them. -/
theorem DsO.app (h : DsO B w v ds) {A : Option Addr} {m c : Nat} {fs : List Dc} (hm : fs.length = m) (hA : A = none → m = 0 ∧ c = 0) (hb : ∀ a, A = some a → ∀ (j : Nat) (u : Value), (flatZ fs)[j]? = some u → w.cell? (a.add j) = some u) (hin : ∀ d ∈ fs, d.K (fun b => b < B) w ∧ d.nm.length ≤ maxLen) (hl : ds.length + m < 1000000) :
    ∃ v' w', (Builtin.append_ #[25, 25] 25 #[v, .slice A m c]).run Tryz.prog w = .ok v' w' ∧ DsO B w' v' (ds ++ fs) ∧ Below B w w' := by
  obtain ⟨i0, hi, hz0, hz1, hz2⟩ := info_parts infoDec
  cases A with
  | none =>
    obtain ⟨h0, h1⟩ := hA rfl
    subst h1
    have hf : fs = [] := List.eq_nil_of_length_eq_zero (by omega)
    subst hf
    subst h0
    exact ⟨v, w, run_append_owned_none (P := Tryz.prog) (w := w) B 25 25 42 i0 16 Tryz.underlying25 hi v ds.length (flatZ ds) h.own, by rw [List.append_nil]; exact h, Below.refl _ _⟩
  | some a =>
    obtain ⟨v', w', hrun, h2, h3, _, h5⟩ := run_append_own_at (P := Tryz.prog) w B 25 25 42 i0 zDc.val 16 272 Tryz.underlying25 hi hz0 hz1 hz2 rfl (by decide) v ds.length _ h.own a m c (flatZ fs) (by rw [flatZ_len, hm]) (hb a rfl)
      (flatZ_one fs) (by unfold maxLen; omega) (by omega) h.le
    have ho : Off (fun k => v.ownBlock = some k) w w' := Off.of_grown h3
    have hbel : Below B w w' := ho.below h.le fun k hk => (h.own.lt k hk).1
    refine ⟨v', w', hrun, ⟨by rw [List.length_append, hm, flatZ_app]; exact h2, fun x hx => ?_, Nat.le_trans h.le hbel.size⟩, hbel⟩
    have hmv : ∀ {d : Dc}, d.K (fun b => b < B) w → d.K (fun b => b < B) w' := fun hK => hK.off ho fun k hk hg => by have := (h.own.lt k hg).1; omega
    rcases List.mem_append.1 hx with hx | hx
    · exact ⟨hmv (h.kids x hx).1, (h.kids x hx).2⟩
    · exact ⟨hmv (hin x hx).1, (hin x hx).2⟩
/-- A slice of declarations that lies somewhere, as cells. -/
theorem DsAt.flat {X : Nat → Prop} {A : Option Addr} (h : DsAt X w A ds) (a : Addr) (ha : A = some a) (j : Nat) (u : Value) (hj : (flatZ ds)[j]? = some u) : w.cell? (a.add j) = some u := by
  obtain ⟨e, he, hv⟩ := flatZ_inv hj
  obtain ⟨b, off, e1, _, _, hc, _, _⟩ := h _ e he
  rw [ha] at e1
  cases e1
  have := hc _ _ hv
  rwa [show off + j / 16 * 16 + j % 16 = off + j by omega, ← add_none] at this
end
end Go.Proofs.YtadogebhkldeiaaGreatDoor
