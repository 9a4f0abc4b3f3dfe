/- counts: a map of pairs. -/
import Derived.Test.YtobfglnopihibaaM
import Derived.Maps.OwnSet
namespace Go.Proofs.Ytobfglnopihibaa
open Go.RowKit Rcd

/-- How a pair reads. -/
def pairD (p : Int × Int) : DataW Unit := .agg [.lit (.int .i64 p.1), .lit (.int .i64 p.2)]
def pairL (l : List Value) : Option (DataW Unit × List MemPlace) := match l with
  | [.int .i64 a, .int .i64 b] => some (pairD (a, b), [])
  | _ => none
def pairR (v : Value) : Option (DataW Unit × List MemPlace) := match v with
  | .agg cs => pairL cs.toList
  | _ => none
theorem pairR_inv {v : Value} {p : Int × Int} {ps : List MemPlace} (h : pairR v = some (pairD p, ps)) : v = .agg #[.int .i64 p.1, .int .i64 p.2] := by
  unfold pairR at h
  split at h
  · rename_i cs
    obtain ⟨l⟩ := cs
    unfold pairL at h
    split at h
    · rename_i a b e
      dsimp only at e
      subst e
      simp [pairD] at h
      obtain ⟨⟨h1, h2⟩, _⟩ := h
      rw [h1, h2]
    · cases h
  · cases h
/-- A map from small numbers to pairs. -/
def KPair (w : World) (b n : Nat) (S : Int → Option (Int × Int)) : Prop :=
  ∃ D : DataW Unit, w.ownsMap Try.prog 5 pairR b n D ∧ ∀ i : Int, (Lit.int .u8 i).wf = true → D.atKey (.int .u8 i) (pairD (0, 0)) = pairD ((S i).getD (0, 0)) ∧ Maps.has D (.int .u8 i) = (S i).isSome
theorem KPair.made (w : World) : KPair (w.alloc (.map #[] 0)) w.heap.size 0 (fun _ => none) := ⟨_, World.ownsMap_made w _ _ _, fun _ _ => ⟨rfl, rfl⟩⟩
theorem KPair.look {w : World} {b n : Nat} {S : Int → Option (Int × Int)} (h : KPair w b n S) (i : Int) (hi : (Lit.int .u8 i).wf = true) :
    (Instr.lookup 60 (.map (some b)) (.int .u8 i) true).run Try.prog w = .ok (.tuple #[.agg #[.int .i64 ((S i).getD (0, 0)).1, .int .i64 ((S i).getD (0, 0)).2], .bool (S i).isSome]) w := by
  obtain ⟨D, h1, h2⟩ := h
  have hz : (zeroValue 58).run Try.prog w = .ok (.agg #[.int .i64 0, .int .i64 0]) w := by kernel_rfl
  obtain ⟨v, ps, hr, hv⟩ := h1.look_ok (Maps.int_keyed Try.underlying5) Try.underlying60 hz (zd := pairD (0, 0)) (zp := []) rfl (Maps.keyOf_int_mk Try.underlying5 hi)
  rw [(h2 i hi).1] at hv
  rw [(h2 i hi).2, pairR_inv hv] at hr
  exact hr
theorem KPair.put {w : World} {b n : Nat} {S : Int → Option (Int × Int)} (h : KPair w b n S) (i x y : Int) (hi : (Lit.int .u8 i).wf = true) (hn : n < 1000000) :
    ∃ w', (Instr.mapUpdate 60 (.map (some b)) (.int .u8 i) (.agg #[.int .i64 x, .int .i64 y])).run Try.prog w = .ok () w' ∧ KPair w' b (n + 1) (fun j => if j = i then some (x, y) else S j) ∧ Off (fun k => k = b) w w' := by
  obtain ⟨D, h1, h2⟩ := h
  obtain ⟨w', hr, h3, h4⟩ := h1.update (Maps.int_keyed Try.underlying5) Try.underlying60 (by unfold maxLen; omega) (Maps.keyOf_int_mk Try.underlying5 hi) (val := .agg #[.int .i64 x, .int .i64 y]) (d := pairD (x, y)) (ps := []) rfl
  refine ⟨w', hr, ⟨_, h3, fun j hj => ?_⟩, (Off.of_grown h4).mono fun k _ e => by cases e; rfl⟩
  have hM : Maps.IsMap D := h1.isMap
  by_cases e : j = i
  · subst e
    dsimp only
    rw [if_pos rfl]
    exact ⟨Maps.atKey_put_same hM (by simp [WideAt.IsKeyLit]) _ _, Maps.has_put_same hM (by simp [WideAt.IsKeyLit]) _⟩
  · dsimp only
    rw [if_neg e]
    exact ⟨(Maps.atKey_put_other (by simpa using e) _ _).trans (h2 j hj).1, (Maps.has_put_other (by simpa using e) _).trans (h2 j hj).2⟩

/-- How many words each kind may have. -/
def kindS (i : Int) : Option (Int × Int) := if i = 5 then some (0, 0) else if i = 4 then some (0, 8192) else if i = 3 then some (1, 1) else if i = 2 then some (0, 1) else if i = 1 then some (2, 8192) else none

set_option maxRecDepth 20000 in
set_option maxHeartbeats 1000000 in
theorem counts_any (w : World) : Calls Try.prog 33 #[] w fun e w' => e = .returned (.map (some w.heap.size)) ∧ KPair w' w.heap.size 5 kindS ∧ Below w.heap.size w w' := by
  have hmm := @run_makeMap Try.prog
  obtain ⟨w1, p1, k1, o1⟩ := (KPair.made w).put 1 2 8192 (by decide) (by omega)
  obtain ⟨w2, p2, k2, o2⟩ := k1.put 2 0 1 (by decide) (by omega)
  obtain ⟨w3, p3, k3, o3⟩ := k2.put 3 1 1 (by decide) (by omega)
  obtain ⟨w4, p4, k4, o4⟩ := k3.put 4 0 8192 (by decide) (by omega)
  obtain ⟨w5, p5, k5, o5⟩ := k4.put 5 0 0 (by decide) (by omega)
  have HK : Hid (KPair w5 w.heap.size 5 kindS) := Lib.hid k5
  have HO : Hid (Below w.heap.size w w5) := Lib.hid (by
    have h0 : Below w.heap.size w (w.alloc (.map #[] 0)) := (Below.refl _ _).alloc (Nat.le_refl _) _
    have ho := (((o1.trans o2).trans o3).trans o4).trans o5
    exact h0.trans (ho.below h0.size (fun k e => by have e' : k = w.heap.size := e; omega)))
  clear k1 k2 k3 k4 k5 o1 o2 o3 o4 o5
  go_enter Try.func33, Try.ntmps33
  go_wp2_with fail
  go_ret
  exact ⟨rfl, HK.out, HO.out⟩
end Go.Proofs.Ytobfglnopihibaa
