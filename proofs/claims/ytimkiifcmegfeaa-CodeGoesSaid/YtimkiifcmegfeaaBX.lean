/- Contracts, part BX. -/
import Derived.Test.YtimkiifcmegfeaaBV
import Derived.Test.YtimkiifcmegfeaaBW
/- code: effect, of any instruction (written by cdeff2.py). -/
namespace Go.Proofs.Ytimkiifcmegfeaa
open Go.RowKit
set_option linter.unusedVariables false
set_option linter.unusedSimpArgs false
def effOp (k : Nat) : Bool := decide (k = 1) || decide (k = 2) || decide (k = 3) || decide (k = 4) || decide (k = 5) || decide (k = 6) || decide (k = 7) || decide (k = 11) || decide (k = 12) || decide (k = 13) || decide (k = 14) || decide (k = 15) || decide (k = 16) || decide (k = 20) || decide (k = 21) || decide (k = 22) || decide (k = 24)
theorem effect_any (k : Nat) (hk : effOp k = true) (a b c h : Int) (t : Nat) (tx : List UInt8) (gw gk fn m pm N : Nat) (g1 g2 : Int) (cl : Cl) (gv : Value) (w : World) (hM : EfM w gw gk fn m pm N (g1, g2) cl gv) (ha : -4611686018427387904 ≤ a ∧ a ≤ 4611686018427387903) (htl : tx.length ≤ maxLen) :
    Calls Try.prog 75 #[.pointer (some ⟨gw, 0, none⟩), .agg #[.bool true, .int .i64 h, .int .i64 (t : Int)], .agg #[.int .u8 (k : Int), .int .i64 a, .int .i64 b, .int .i64 c, .string (str tx)]] w fun e w' => e = effE (Wk.eff (decide (fn = 0)) (g1, g2) (h, t) ⟨k, a, b, c, tx⟩) ∧ PrMap w' pm (N + 1) ∧ Off (fun k => k = pm) w w' := by
  by_cases e1 : k = 1
  · subst e1
    exact effect_1 a b c h t tx gw gk fn m pm N g1 g2 cl gv w hM ha htl _ (by first | rfl | simp [Wk.eff])
  by_cases e2 : k = 2
  · subst e2
    exact effect_2 a b c h t tx gw gk fn m pm N g1 g2 cl gv w hM ha htl _ (by first | rfl | simp [Wk.eff])
  by_cases e3 : k = 3
  · subst e3
    exact effect_3 a b c h t tx gw gk fn m pm N g1 g2 cl gv w hM ha htl _ (by first | rfl | simp [Wk.eff])
  by_cases e4 : k = 4
  · subst e4
    exact effect_4 a b c h t tx gw gk fn m pm N g1 g2 cl gv w hM ha htl _ (by first | rfl | simp [Wk.eff])
  by_cases e5 : k = 5
  · subst e5
    exact effect_5 a b c h t tx gw gk fn m pm N g1 g2 cl gv w hM ha htl _ (by first | rfl | simp [Wk.eff])
  by_cases e6 : k = 6
  · subst e6
    exact effect_6 a b c h t tx gw gk fn m pm N g1 g2 cl gv w hM ha htl _ (by first | rfl | simp [Wk.eff])
  by_cases e7 : k = 7
  · subst e7
    exact effect_7 a b c h t tx gw gk fn m pm N g1 g2 cl gv w hM ha htl _ (by first | rfl | simp [Wk.eff])
  by_cases e11 : k = 11
  · subst e11
    exact effect_11 a b c h t tx gw gk fn m pm N g1 g2 cl gv w hM ha htl _ (by first | rfl | simp [Wk.eff])
  by_cases e12 : k = 12
  · subst e12
    exact effect_12 a b c h t tx gw gk fn m pm N g1 g2 cl gv w hM ha htl _ (by first | rfl | simp [Wk.eff])
  by_cases e13 : k = 13
  · subst e13
    exact effect_13 a b c h t tx gw gk fn m pm N g1 g2 cl gv w hM ha htl _ (by first | rfl | simp [Wk.eff])
  by_cases e14 : k = 14
  · subst e14
    exact effect_14 a b c h t tx gw gk fn m pm N g1 g2 cl gv w hM ha htl _ (by first | rfl | simp [Wk.eff])
  by_cases e15 : k = 15
  · subst e15
    exact effect_15 a b c h t tx gw gk fn m pm N g1 g2 cl gv w hM ha htl _ (by first | rfl | simp [Wk.eff])
  by_cases e16 : k = 16
  · subst e16
    exact effect_16 a b c h t tx gw gk fn m pm N g1 g2 cl gv w hM ha htl _ (by first | rfl | simp [Wk.eff])
  by_cases e20 : k = 20
  · subst e20
    exact effect_20 a b c h t tx gw gk fn m pm N g1 g2 cl gv w hM ha htl _ (by first | rfl | simp [Wk.eff])
  by_cases e21 : k = 21
  · subst e21
    exact effect_21 a b c h t tx gw gk fn m pm N g1 g2 cl gv w hM ha htl _ (by first | rfl | simp [Wk.eff])
  by_cases e22 : k = 22
  · subst e22
    exact effect_22 a b c h t tx gw gk fn m pm N g1 g2 cl gv w hM ha htl _ (by first | rfl | simp [Wk.eff])
  by_cases e24 : k = 24
  · subst e24
    exact effect_24 a b c h t tx gw gk fn m pm N g1 g2 cl gv w hM ha htl _ (by first | rfl | simp [Wk.eff])
  simp [effOp, e1, e2, e3, e4, e5, e6, e7, e11, e12, e13, e14, e15, e16, e20, e21, e22, e24] at hk
end Go.Proofs.Ytimkiifcmegfeaa
/- code: step, what its ways lean on (written by cdstep.py). -/
namespace Go.Proofs.Ytimkiifcmegfeaa
open Go.RowKit
set_option linter.unusedVariables false
set_option linter.unusedSimpArgs false
attribute [local go_sem] Oper.semAt_some
/-- How a step ends. -/
structure StepPost (P : Pl) (R : Option Wk) (pm N : Nat) (w : World) (e : Ending) (w' : World) : Prop where
  e : e = askE R.isSome
  m : ∀ V, R = some V → ∃ vw' vr', Wkm w' P vw' vr' V
  pr : PrMap w' pm (N + 1)
  o : Off (fun k => k = pm ∨ P.B ≤ k) w w'
/-- What take, come, row ask. -/
structure StB (w : World) (P : Pl) (vw vr : Value) (W : Wk) (l : Nat) (H : Int) : Prop where
  wk : Wkm w P vw vr W
  ok : W.Ok P.n l H
  l : l < 900000
  n : P.n ≤ 1000000
  fn : P.fn ≤ 1000000
  h : 0 ≤ H ∧ H ≤ 1000000000000
/-- What a step asks. -/
structure StM (w : World) (P : Pl) (vw vr : Value) (W : Wk) (l : Nat) (H : Int) (m pm N : Nat) (g : Int × Int) (cl : Cl) (gv : Value) : Prop where
  b : StB w P vw vr W l H
  ef : EfM w P.gw P.gk P.fn m pm N g cl gv
  pm : pm < P.B
section
variable {w w' : World} {P : Pl} {vw vr : Value} {W : Wk} {l : Nat} {H : Int} {m pm N : Nat} {g : Int × Int} {cl : Cl} {gv : Value}
theorem StB.bel (s : StB w P vw vr W l H) (hb : Below w.heap.size w w') : StB w' P vw vr W l H := ⟨s.wk.bel hb, s.ok, s.l, s.n, s.fn, s.h⟩
theorem StB.big (s : StB w P vw vr W l H) : P.B ≤ w.heap.size := Nat.le_trans s.wk.b.2.1 (Nat.le_of_lt s.wk.blk.lt)
theorem StM.bel (s : StM w P vw vr W l H m pm N g cl gv) (hb : Below w.heap.size w w') : StM w' P vw vr W l H m pm N g cl gv := ⟨s.b.bel hb, s.ef.bel hb, s.pm⟩
theorem StB.take (s : StB w P vw vr W l H) (h : Int) (t : Nat) (k : Int) (ht : t < W.rows.length) (hh : 0 ≤ h ∧ h ≤ 1000000000000) (hk : 0 ≤ k ∧ k ≤ 1000000) :
    Calls Try.prog 73 #[.pointer (some ⟨P.gw, 0, none⟩), .agg #[.bool true, .int .i64 h, .int .i64 (t : Int)], .int .i64 k] w fun e w' => e = takeE (decide (W.floor (decide (P.fn = 0)) t ≤ h - k)) (h - k) ∧ Below w.heap.size w w' :=
  take_any P vw vr W l H (h, t) k w s.wk s.ok (by have := s.l; omega) s.n ht s.fn hh hk
theorem StB.come_no (s : StB w P vw vr W l H) {p : Nat} {h : Int} {r : Nat} (hc : W.come p h r = none) (hp : p ≤ 1000001) :
    Calls Try.prog 64 #[.pointer (some ⟨P.gw, 0, none⟩), .int .i64 (p : Int), .int .i64 h, .int .i64 (r : Int)] w fun e w' => e = .panicked [wr] ∧ Below P.B w w' :=
  (come_any P vw vr W l H p h r w s.wk s.ok (by have := s.l; omega) s.n hp).mono fun e w' k => ⟨by rw [k.1, hc]; rfl, s.wk.below k.2.2⟩
theorem StB.come_yes (s : StB w P vw vr W l H) {p : Nat} {h : Int} {r : Nat} {V : Wk} (hc : W.come p h r = some V) (hp : p ≤ 1000001) :
    Calls Try.prog 64 #[.pointer (some ⟨P.gw, 0, none⟩), .int .i64 (p : Int), .int .i64 h, .int .i64 (r : Int)] w fun e w' => e = .returned (.tuple #[]) ∧ (∃ vw', Wkm w' P vw' vr V ∧ Grew w vw vw') ∧ Off (WF P vw vr) w w' :=
  (come_any P vw vr W l H p h r w s.wk s.ok (by have := s.l; omega) s.n hp).mono fun e w' k => ⟨by rw [k.1, hc]; rfl, k.2.1 V hc, k.2.2⟩
theorem floor_nn (k : W.Ok P.n l H) (hH : 0 ≤ H) (f0 : Bool) (r : Nat) : 0 ≤ W.floor f0 r := by
  unfold Wk.floor
  have h1 := (k.hts hH (W.row r).2).1
  have h2 : (0 : Int) ≤ if f0 = true then 0 else 1 := by split <;> omega
  split
  · omega
  · exact h2
theorem take_some {f0 : Bool} {h : Int} {t : Nat} {k h' : Int} (hc : W.take f0 (h, t) k = some h') : W.floor f0 t ≤ h - k ∧ h' = h - k := by
  unfold Wk.take at hc
  by_cases h1 : W.floor f0 t ≤ h - k
  · rw [if_pos h1] at hc
    exact ⟨h1, (Option.some.inj hc).symm⟩
  · rw [if_neg h1] at hc; cases hc
theorem StB.take_no (s : StB w P vw vr W l H) {h : Int} {t : Nat} {k : Int} (hc : W.take (decide (P.fn = 0)) (h, t) k = none) (ht : t < W.rows.length) (hh : 0 ≤ h ∧ h ≤ 1000000000000) (hk : 0 ≤ k ∧ k ≤ 1000000) :
    Calls Try.prog 73 #[.pointer (some ⟨P.gw, 0, none⟩), .agg #[.bool true, .int .i64 h, .int .i64 (t : Int)], .int .i64 k] w fun e w' => e = .panicked [wr] ∧ Below w.heap.size w w' :=
  (s.take h t k ht hh hk).mono fun e w' j => ⟨by
    unfold Wk.take at hc
    have h1 : ¬ (W.floor (decide (P.fn = 0)) t ≤ h - k) := fun h2 => by rw [if_pos h2] at hc; cases hc
    rw [j.1, decide_eq_false h1]; rfl, j.2⟩
theorem StB.take_yes (s : StB w P vw vr W l H) {h : Int} {t : Nat} {k h' : Int} (hc : W.take (decide (P.fn = 0)) (h, t) k = some h') (ht : t < W.rows.length) (hh : 0 ≤ h ∧ h ≤ 1000000000000) (hk : 0 ≤ k ∧ k ≤ 1000000) :
    (h' = h - k ∧ 0 ≤ h') ∧ Calls Try.prog 73 #[.pointer (some ⟨P.gw, 0, none⟩), .agg #[.bool true, .int .i64 h, .int .i64 (t : Int)], .int .i64 k] w fun e w' => e = .returned (.int .i64 h') ∧ Below w.heap.size w w' := by
  obtain ⟨h1, h2⟩ := take_some hc
  have := floor_nn s.ok s.h.1 (decide (P.fn = 0)) t
  exact ⟨⟨h2, by omega⟩, (s.take h t k ht hh hk).mono fun e w' j => ⟨by rw [j.1, decide_eq_true h1, h2]; rfl, j.2⟩⟩
theorem StB.row_yes (s : StB w P vw vr W l H) (a p : Nat) (ha : a < W.rows.length) (hp : p < P.n) :
    Calls Try.prog 74 #[.pointer (some ⟨P.gw, 0, none⟩), .int .i64 (a : Int), .int .i64 (p : Int)] w fun e w' => e = .returned (.int .i64 ((W.open_ a p).1 : Int)) ∧ (∃ vr', Wkm w' P vw vr' (W.open_ a p).2 ∧ Grew w vr vr') ∧ Off (WF P vw vr) w w' :=
  row_any P vw vr W l H a p w s.wk s.ok (by have := s.l; omega) s.n ha hp
theorem StM.eff_no (s : StM w P vw vr W l H m pm N g cl gv) {k : Nat} {a b c h : Int} {t : Nat} {tx : List UInt8} (hk : effOp k = true) (ha : -4611686018427387904 ≤ a ∧ a ≤ 4611686018427387903) (htl : tx.length ≤ maxLen) (hc : Wk.eff (decide (P.fn = 0)) g (h, t) ⟨k, a, b, c, tx⟩ = none) :
    Calls Try.prog 75 #[.pointer (some ⟨P.gw, 0, none⟩), .agg #[.bool true, .int .i64 h, .int .i64 (t : Int)], .agg #[.int .u8 (k : Int), .int .i64 a, .int .i64 b, .int .i64 c, .string (str tx)]] w fun e w' => e = .panicked [wr] ∧ PrMap w' pm (N + 1) ∧ Off (fun k => k = pm) w w' :=
  (effect_any k hk a b c h t tx P.gw P.gk P.fn m pm N g.1 g.2 cl gv w s.ef ha htl).mono fun e w' j => ⟨by rw [j.1, hc]; rfl, j.2⟩
theorem StM.eff_yes (s : StM w P vw vr W l H m pm N g cl gv) {k : Nat} {a b c h : Int} {t : Nat} {tx : List UInt8} {x y : Int} (hk : effOp k = true) (ha : -4611686018427387904 ≤ a ∧ a ≤ 4611686018427387903) (htl : tx.length ≤ maxLen) (hc : Wk.eff (decide (P.fn = 0)) g (h, t) ⟨k, a, b, c, tx⟩ = some (x, y)) :
    Calls Try.prog 75 #[.pointer (some ⟨P.gw, 0, none⟩), .agg #[.bool true, .int .i64 h, .int .i64 (t : Int)], .agg #[.int .u8 (k : Int), .int .i64 a, .int .i64 b, .int .i64 c, .string (str tx)]] w fun e w' => e = .returned (.tuple #[.int .i64 x, .int .i64 y]) ∧ PrMap w' pm (N + 1) ∧ Off (fun k => k = pm) w w' :=
  (effect_any k hk a b c h t tx P.gw P.gk P.fn m pm N g.1 g.2 cl gv w s.ef ha htl).mono fun e w' j => ⟨by rw [j.1, hc]; rfl, j.2⟩
theorem StM.post (s : StM w P vw vr W l H m pm N g cl gv) {R : Option Wk} {e : Ending} (hb : Below P.B w w') (he : e = askE R.isSome) (hm : ∀ V, R = some V → ∃ vw' vr', Wkm w' P vw' vr' V) : StepPost P R pm N w e w' :=
  ⟨he, hm, (s.ef.pr.same (hb.block _ s.pm)).le (by omega), ⟨hb.os, hb.tape, hb.output, hb.size, fun k hk hn => hb.block k (by rcases Nat.lt_or_ge k P.B with h | h; exact h; exact absurd (.inr h) hn)⟩⟩
theorem StM.postE (s : StM w P vw vr W l H m pm N g cl gv) {w1 w2 : World} {R : Option Wk} {e : Ending} (h1 : Below P.B w w1) (hp : PrMap w2 pm (N + 1)) (ho : Off (fun k => k = pm) w1 w2) (h2 : Below P.B w2 w') (he : e = askE R.isSome) (hm : ∀ V, R = some V → ∃ vw' vr', Wkm w' P vw' vr' V) : StepPost P R pm N w e w' := by
  have f : ∀ {u v : World}, Below P.B u v → Off (fun k => k = pm ∨ P.B ≤ k) u v := fun hb => ⟨hb.os, hb.tape, hb.output, hb.size, fun k hk hn => hb.block k (by rcases Nat.lt_or_ge k P.B with h | h; exact h; exact absurd (.inr h) hn)⟩
  exact ⟨he, hm, hp.same (h2.block _ s.pm), (f h1).trans ((ho.mono fun k _ e => .inl e).trans (f h2))⟩
/-- The boxes of a step. -/
structure Bx (w : World) (P : Pl) (vw vr : Value) (q q1 : Nat) (ci cs : Array Value) : Prop where
  b1 : Blk w q 46 ci
  b2 : Blk w q1 139 cs
  f1 : ¬ WF P vw vr q
  f2 : ¬ WF P vw vr q1
variable {q q1 : Nat} {ci cs : Array Value}
theorem Bx.bel (h : Bx w P vw vr q q1 ci cs) (hb : Below w.heap.size w w') : Bx w' P vw vr q q1 ci cs := ⟨h.b1.below hb h.b1.lt, h.b2.below hb h.b2.lt, h.f1, h.f2⟩
theorem Bx.off {G : Nat → Prop} (h : Bx w P vw vr q q1 ci cs) (ho : Off G w w') (hG : ∀ k, G k → k < P.B) (hB : P.B ≤ q ∧ P.B ≤ q1) : Bx w' P vw vr q q1 ci cs := ⟨h.b1.off ho fun e => by have := hG _ e; omega, h.b2.off ho fun e => by have := hG _ e; omega, h.f1, h.f2⟩
theorem wf_w {vw' : Value} (hg : Grew w vw vw') {k : Nat} (hk : k < w.heap.size) (hf : ¬ WF P vw vr k) : ¬ WF P vw' vr k := fun h => by
  rcases h with h | h | h | h | h
  · exact hf (.inl h)
  · exact hf (.inr (.inl h))
  · exact hf (.inr (.inr (.inl h)))
  · rcases hg k h with h | h
    · exact hf (.inr (.inr (.inr (.inl h))))
    · omega
  · exact hf (.inr (.inr (.inr (.inr h))))
theorem wf_r {vr' : Value} (hg : Grew w vr vr') {k : Nat} (hk : k < w.heap.size) (hf : ¬ WF P vw vr k) : ¬ WF P vw vr' k := fun h => by
  rcases h with h | h | h | h | h
  · exact hf (.inl h)
  · exact hf (.inr (.inl h))
  · exact hf (.inr (.inr (.inl h)))
  · exact hf (.inr (.inr (.inr (.inl h))))
  · rcases hg k h with h | h
    · exact hf (.inr (.inr (.inr (.inr h))))
    · omega
theorem Bx.goes_w {vw' : Value} (h : Bx w P vw vr q q1 ci cs) (ho : Off (WF P vw vr) w w') (hg : Grew w vw vw') : Bx w' P vw' vr q q1 ci cs := ⟨h.b1.off ho h.f1, h.b2.off ho h.f2, wf_w hg h.b1.lt h.f1, wf_w hg h.b2.lt h.f2⟩
theorem Bx.goes_r {vr' : Value} (h : Bx w P vw vr q q1 ci cs) (ho : Off (WF P vw vr) w w') (hg : Grew w vr vr') : Bx w' P vw vr' q q1 ci cs := ⟨h.b1.off ho h.f1, h.b2.off ho h.f2, wf_r hg h.b1.lt h.f1, wf_r hg h.b2.lt h.f2⟩
end
theorem Bx.cells {w : World} {P : Pl} {vw vr : Value} {q q1 : Nat} {k a b c : Int} {s : ByteArray} {h : Int} {t : Nat} (x : Bx w P vw vr q q1 #[.int .u8 k, .int .i64 a, .int .i64 b, .int .i64 c, .string s] #[.bool true, .int .i64 h, .int .i64 (t : Int)]) :
    w.cell? ⟨q, 0, none⟩ = some (.int .u8 k) ∧ w.cell? ⟨q, 1, none⟩ = some (.int .i64 a) ∧ w.cell? ⟨q, 2, none⟩ = some (.int .i64 b) ∧ w.cell? ⟨q, 3, none⟩ = some (.int .i64 c) ∧ w.cell? ⟨q, 4, none⟩ = some (.string s) ∧ w.cell? ⟨q1, 0, none⟩ = some (.bool true) ∧ w.cell? ⟨q1, 1, none⟩ = some (.int .i64 h) ∧ w.cell? ⟨q1, 2, none⟩ = some (.int .i64 (t : Int)) :=
  ⟨x.b1.cell 0, x.b1.cell 1, x.b1.cell 2, x.b1.cell 3, x.b1.cell 4, x.b2.cell 0, x.b2.cell 1, x.b2.cell 2⟩
theorem st_box (k : Int) (a b c h : Int) (t : Nat) (s : ByteArray) (w w1 w2 : World) (q q1 : Nat) (hq : w.heap.size = q) (hq1 : q + 1 = q1)
    (hw1 : w.alloc (.cells #[.int .u8 k, .int .i64 a, .int .i64 b, .int .i64 c, .string s] 46) = w1) (hw2 : w1.alloc (.cells #[.bool true, .int .i64 h, .int .i64 (t : Int)] 139) = w2) {P : Pl} {vw vr : Value} {W : Wk} (hm : Wkm w P vw vr W) :
    Below w.heap.size w w1 ∧ Below w.heap.size w w2 ∧ w1.heap.size = q1 ∧ Bx w2 P vw vr q q1 #[.int .u8 k, .int .i64 a, .int .i64 b, .int .i64 c, .string s] #[.bool true, .int .i64 h, .int .i64 (t : Int)] := by
  have b1 : Below w.heap.size w w1 := by rw [← hw1]; exact (Below.refl _ _).alloc (Nat.le_refl _) _
  have b2 : Below w1.heap.size w1 w2 := by rw [← hw2]; exact (Below.refl _ _).alloc (Nat.le_refl _) _
  have B1 : Blk w1 q 46 #[.int .u8 k, .int .i64 a, .int .i64 b, .int .i64 c, .string s] := by rw [← hw1, ← hq]; exact Blk.new _ _ _
  have s1 : w1.heap.size = q1 := by rw [← hw1, ← hq1, ← hq]; simp
  have B2 : Blk w2 q1 139 #[.bool true, .int .i64 h, .int .i64 (t : Int)] := by rw [← hw2, ← s1]; exact Blk.new _ _ _
  exact ⟨b1, b1.trans (b2.mono b1.size), s1, B1.below b2 B1.lt, B2, fun h => by have := (hm.wf_lt _ h).1; omega, fun h => by have := (hm.wf_lt _ h).1; omega⟩
end Go.Proofs.Ytimkiifcmegfeaa
