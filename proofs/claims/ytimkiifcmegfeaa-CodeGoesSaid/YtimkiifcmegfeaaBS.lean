/- Contracts, part BS. -/
import Derived.Test.YtimkiifcmegfeaaBY
import Derived.Test.YtimkiifcmegfeaaBZ
/- code: step, of any instruction. -/
namespace Go.Proofs.Ytimkiifcmegfeaa
open Go.RowKit
set_option linter.unusedVariables false
set_option linter.unusedSimpArgs false
theorem effOp_of : ∀ k : Nat, k < 26 → 1 ≤ k → k ≠ 8 → k ≠ 25 → k ≠ 17 → k ≠ 9 → k ≠ 10 → k ≠ 18 → k ≠ 19 → k ≠ 23 → effOp k = true := by
  intro k _ _ _ _ _ _ _ _ _ _
  simp [effOp]
  omega
theorem effOp_in {k : Nat} (h : effOp k = true) : k = 1 ∨ k = 2 ∨ k = 3 ∨ k = 4 ∨ k = 5 ∨ k = 6 ∨ k = 7 ∨ k = 11 ∨ k = 12 ∨ k = 13 ∨ k = 14 ∨ k = 15 ∨ k = 16 ∨ k = 20 ∨ k = 21 ∨ k = 22 ∨ k = 24 := by
  simpa [effOp, or_assoc] using h
theorem opnd_op {m k n : Int} {i : Ins} (h : opnd m k n i = true) : 1 ≤ i.op ∧ i.op < 26 := by
  refine Classical.byContradiction fun hn => ?_
  have e : ∀ j : Nat, 1 ≤ j → j < 26 → i.op ≠ j := fun j h1 h2 e => hn (by omega)
  unfold opnd at h
  simp [e 1 (by omega) (by omega), e 2 (by omega) (by omega), e 3 (by omega) (by omega), e 4 (by omega) (by omega), e 5 (by omega) (by omega), e 6 (by omega) (by omega), e 7 (by omega) (by omega), e 8 (by omega) (by omega), e 9 (by omega) (by omega), e 10 (by omega) (by omega), e 11 (by omega) (by omega), e 12 (by omega) (by omega), e 13 (by omega) (by omega), e 14 (by omega) (by omega), e 15 (by omega) (by omega), e 16 (by omega) (by omega), e 17 (by omega) (by omega), e 18 (by omega) (by omega), e 19 (by omega) (by omega), e 20 (by omega) (by omega), e 21 (by omega) (by omega), e 22 (by omega) (by omega), e 23 (by omega) (by omega), e 24 (by omega) (by omega), e 25 (by omega) (by omega)] at h
theorem eff_fit {m rk n : Nat} {k : Nat} {a b c : Int} {tx : List UInt8} (hm : m ≤ 1000000) (hrk : rk ≤ 1000000) (hk : effOp k = true) (h : opnd (m : Int) (rk : Int) (n : Int) ⟨k, a, b, c, tx⟩ = true) :
    (-4611686018427387904 ≤ a ∧ a ≤ 4611686018427387903) ∧ ∀ (f0 : Bool) (g : Int × Int) (s : Int × Nat) (x y : Int), Wk.eff f0 g s ⟨k, a, b, c, tx⟩ = some (x, y) → (0 ≤ x ∧ x ≤ 1000000) ∧ 0 ≤ y ∧ y ≤ 1000000 := by
  have ht := takesN_le tx
  rcases effOp_in hk with rfl | rfl | rfl | rfl | rfl | rfl | rfl | rfl | rfl | rfl | rfl | rfl | rfl | rfl | rfl | rfl | rfl
  all_goals
    simp [opnd, wi] at h
    refine ⟨by omega, fun f0 g s x y he => ?_⟩
    simp [Wk.eff] at he
    omega
theorem step_any (P : Pl) (vw vr : Value) (W : Wk) (l : Nat) (H : Int) (m rk pm N : Nat) (g : Int × Int) (cl : Cl) (gv : Value) (p : Nat) (h : Int) (t : Nat) (i : Ins) (hi : i.ok) (ho : opnd (m : Int) (rk : Int) (P.n : Int) i = true) (hm : m ≤ 1000000) (hrk : rk ≤ 1000000) (w : World) (s : StM w P vw vr W l H m pm N g cl gv) (hx : W.at_[p]? = some (some (h, t))) (hH : H + 1000001 ≤ 1000000000000) (hl1 : l + 1 < 900000) :
    Calls Try.prog 65 #[.pointer (some ⟨P.gw, 0, none⟩), .int .i64 (p : Int), i.val] w (StepPost P (W.step (decide (P.fn = 0)) g p (h, t) i) pm N w) := by
  obtain ⟨k, a, b, c, tx⟩ := i
  have htl : tx.length ≤ maxLen := hi.tx
  have hop := opnd_op ho
  show Calls Try.prog 65 #[.pointer (some ⟨P.gw, 0, none⟩), .int .i64 (p : Int), .agg #[.int .u8 (k : Int), .int .i64 a, .int .i64 b, .int .i64 c, .string (str tx)]] w (StepPost P (W.step (decide (P.fn = 0)) g p (h, t) ⟨k, a, b, c, tx⟩) pm N w)
  by_cases e8 : k = 8
  · subst e8
    exact step_8 P vw vr W l H m pm N g cl gv p h t a b c tx w s hx hH hl1 _ (by simp [Wk.step])
  by_cases e25 : k = 25
  · subst e25
    exact step_25 P vw vr W l H m pm N g cl gv p h t a b c tx w s hx hH hl1 _ (by simp [Wk.step])
  by_cases e17 : k = 17
  · subst e17
    exact step_17 P vw vr W l H m pm N g cl gv p h t a b c tx w s hx hH hl1 _ (by simp [Wk.step])
  by_cases e9 : k = 9
  · subst e9
    simp [opnd, wi] at ho
    obtain ⟨an, rfl⟩ : ∃ z : Nat, a = (z : Int) := ⟨a.toNat, by omega⟩
    exact step_9 P vw vr W l H m pm N g cl gv p h t an b (by omega) c tx w s hx hH hl1 _ (by simp [Wk.step])
  by_cases e10 : k = 10
  · subst e10
    simp [opnd, wi] at ho
    obtain ⟨an, rfl⟩ : ∃ z : Nat, a = (z : Int) := ⟨a.toNat, by omega⟩
    exact step_10 P vw vr W l H m pm N g cl gv p h t an b (by omega) c tx w s hx hH hl1 _ (by simp [Wk.step])
  by_cases e18 : k = 18
  · subst e18
    simp [opnd, wi] at ho
    obtain ⟨an, rfl⟩ : ∃ z : Nat, a = (z : Int) := ⟨a.toNat, by omega⟩
    exact step_18 P vw vr W l H m pm N g cl gv p h t an b (by omega) c tx w s hx hH hl1 _ (by simp [Wk.step])
  by_cases e19 : k = 19
  · subst e19
    exact step_19 P vw vr W l H m pm N g cl gv p h t a b c tx w s hx hH hl1 _ (by simp [Wk.step])
  by_cases e23 : k = 23
  · subst e23
    simp [opnd, wi] at ho
    obtain ⟨bn, rfl⟩ : ∃ z : Nat, b = (z : Int) := ⟨b.toNat, by omega⟩
    exact step_23 P vw vr W l H m pm N g cl gv p h t a bn (by omega) c tx w s hx hH hl1 _ (by simp [Wk.step])
  have hk := effOp_of k hop.2 hop.1 e8 e25 e17 e9 e10 e18 e19 e23
  have hf := eff_fit hm hrk hk ho
  exact step_E P vw vr W l H m pm N g cl gv p h t k hk a b hf.1 c tx w s hx hH hl1 htl (fun x y => hf.2 _ _ _ x y) _ (by simp [Wk.step, e8, e25, e17, e9, e10, e18, e19, e23])
end Go.Proofs.Ytimkiifcmegfeaa
/- code: all, what it leans on. -/
namespace Go.Proofs.Ytimkiifcmegfeaa
open Go.RowKit
set_option linter.unusedVariables false
set_option linter.unusedSimpArgs false
theorem come_meas {W V : Wk} {p : Nat} {h : Int} {r : Nat} (hv : W.come p h r = some V) : nones V.at_ + V.work.length = nones W.at_ + W.work.length := by
  unfold Wk.come at hv
  split at hv
  · cases hv
  · rename_i hp
    injection hv with hv
    subst hv
    have hn := nones_set W.at_ p (h, r) hp
    show nones (W.at_.set p _) + (W.work ++ [p]).length = _
    rw [List.length_append, List.length_singleton]; omega
  · split at hv
    · injection hv with hv
      subst hv
      rfl
    · cases hv
/-- What a step leaves. -/
theorem step_ok {W V : Wk} {n l : Nat} {H : Int} {f0 : Bool} {g : Int × Int} {p : Nat} {s : Int × Nat} {i : Ins} (k : W.Ok n l H) (hH : 0 ≤ H) (hp : p < n) (hs : 0 ≤ s.1 ∧ s.1 ≤ H ∧ s.2 < W.rows.length)
    (hf : ∀ x y, Wk.eff f0 g s i = some (x, y) → (0 ≤ x ∧ x ≤ 1000000) ∧ 0 ≤ y ∧ y ≤ 1000000) (hv : W.step f0 g p s i = some V) : V.Ok n (l + 1) (H + 1000001) ∧ nones V.at_ + V.work.length = nones W.at_ + W.work.length := by
  have k1 : W.Ok n (l + 1) (H + 1000001) := k.le (by omega) (by omega)
  have came : ∀ {U V : Wk} {p : Nat} {h : Int} {r : Nat}, U.Ok n (l + 1) (H + 1000001) → 0 ≤ h ∧ h ≤ H + 1000001 → r < U.rows.length → U.come p h r = some V → V.Ok n (l + 1) (H + 1000001) ∧ nones V.at_ + V.work.length = nones U.at_ + U.work.length ∧ V.rows = U.rows := fun ku hh hr hc => ⟨(ku.came _ _ _ hh hr hc).1, come_meas hc, (ku.came _ _ _ hh hr hc).2⟩
  have tk : ∀ {h' x : Int}, W.take f0 s x = some h' → h' = s.1 - x ∧ 0 ≤ h' := fun {h' x} hc => by
    obtain ⟨h1, h2⟩ := take_some (h := s.1) (t := s.2) hc
    have := floor_nn (P := ⟨0, 0, 0, 0, 0, 0, n⟩) k hH f0 s.2
    exact ⟨h2, by omega⟩
  obtain ⟨hs1, hs2, hs3⟩ := hs
  unfold Wk.step at hv
  split at hv
  · split at hv
    · cases hv; exact ⟨k1, rfl⟩
    · cases hv
  split at hv
  · split at hv
    · cases hv; exact ⟨k1, rfl⟩
    · cases hv
  split at hv
  · obtain ⟨h', h1, h2⟩ := Option.bind_eq_some_iff.1 hv
    cases h2; exact ⟨k1, rfl⟩
  split at hv
  · have := came k1 ⟨hs1, by omega⟩ hs3 hv
    exact ⟨this.1, this.2.1⟩
  split at hv
  · obtain ⟨h', h1, h2⟩ := Option.bind_eq_some_iff.1 hv
    obtain ⟨U, h3, h4⟩ := Option.bind_eq_some_iff.1 h2
    obtain ⟨e1, e2⟩ := tk h1
    obtain ⟨a1, a2, a3⟩ := came k1 ⟨e2, by omega⟩ hs3 h3
    obtain ⟨b1, b2, _⟩ := came a1 ⟨e2, by omega⟩ (by rw [a3]; exact hs3) h4
    exact ⟨b1, by omega⟩
  split at hv
  · obtain ⟨U, h3, h4⟩ := Option.bind_eq_some_iff.1 hv
    obtain ⟨o1, o2, o3, o4, o5⟩ := k.opened s.2 p hs3 hp
    obtain ⟨a1, a2, a3⟩ := came (o1.le (Nat.le_refl _) (by omega)) ⟨hs1, by omega⟩ o2 h3
    obtain ⟨b1, b2, _⟩ := came a1 ⟨by omega, by omega⟩ (by rw [a3]; omega) h4
    refine ⟨b1, ?_⟩
    rw [b2, a2, o3, o4]
  split at hv
  · split at hv
    · rename_i hc
      have hr : (W.row s.2).1 < W.rows.length := by
        unfold Wk.row
        obtain ⟨tt, htt⟩ : ∃ x, W.rows[s.2]? = some x := ⟨_, List.getElem?_eq_getElem hs3⟩
        rw [htt]
        exact (k.row _ (List.mem_of_getElem? htt)).1
      have := came k1 ⟨hs1, by omega⟩ hr hv
      exact ⟨this.1, this.2.1⟩
    · cases hv
  split at hv
  · split at hv
    · obtain ⟨U, h3, h4⟩ := Option.bind_eq_some_iff.1 hv
      obtain ⟨a1, a2, a3⟩ := came k1 ⟨hs1, by omega⟩ hs3 h3
      obtain ⟨b1, b2, _⟩ := came a1 ⟨by omega, by omega⟩ (by rw [a3]; exact hs3) h4
      exact ⟨b1, by omega⟩
    · cases hv
  · obtain ⟨e, h1, h2⟩ := Option.bind_eq_some_iff.1 hv
    obtain ⟨⟨x1, x2⟩, y1, y2⟩ := hf e.1 e.2 h1
    obtain ⟨h', h3, h4⟩ := Option.bind_eq_some_iff.1 h2
    obtain ⟨e1, e2⟩ := tk h3
    have := came k1 ⟨by omega, by omega⟩ hs3 h4
    exact ⟨this.1, this.2.1⟩
/-- One place less to go on with. -/
theorem Wkm.pop {w : World} {P : Pl} {A : Option Addr} {c : Nat} {vr : Value} {W : Wk} {k : Nat} (h : Wkm w P (.slice A (k + 1) c) vr W) (hk : W.work.length = k + 1) :
    Wkm (w.setCell ⟨P.gw, 3, none⟩ (.slice A k c)) P (.slice A k c) vr { W with work := W.work.dropLast } ∧ ∃ g p, A = some ⟨g, 0, none⟩ ∧ k + 1 ≤ c ∧ c ≤ maxLen ∧ W.work.getLast? = some p ∧ w.cell? ⟨g, k, none⟩ = some (.int .i64 (p : Int)) := by
  have hne : W.work ≠ [] := fun e => by rw [e] at hk; cases hk
  rcases h.work.2 with ⟨e, h0⟩ | ⟨g, cap, cur, e, hB, hg, h1, h2, h3, h4⟩
  · omega
  · injection e with e1 e2 e3
    subst e1
    subst e3
    have hgw : g ≠ P.gw := (h.dw g rfl).1
    have s5 : ∀ j, j ≠ P.gw → (w.setCell ⟨P.gw, 3, none⟩ (.slice (some ⟨g, 0, none⟩) k c)).heap[j]? = w.heap[j]? := fun j hj => set_same w P.gw 3 j _ hj
    have hdl : W.work.dropLast.length = k := by rw [List.length_dropLast, hk]; rfl
    refine ⟨⟨h.blk.set_ 3 _, h.at_.same (s5 _ (fun e => h.d.1 e.symm)), ?_, own_same h.rows fun j hj => s5 j (h.dr j hj).1, h.known.same (s5 _ fun e => h.d.2.1 e.symm), h.b, h.d, h.dw, h.dr, h.dd⟩, g, W.work.getLast hne, rfl, by rw [← hk]; exact h1, h2, (by first | exact List.getLast?_eq_some_getLast hne | exact List.getLast?_eq_getLast hne | simp [List.getLast?_eq_some_getLast, hne]), ?_⟩
    · show World.ownsRow _ _ _ _ _ W.work.dropLast.length (wl W.work.dropLast)
      refine ⟨by rw [wl, List.length_map, Nat.mul_one], .inr ⟨g, c, cur, by rw [hdl], hB, (s5 g hgw).trans hg, by rw [hdl]; omega, h2, h3, ?_⟩⟩
      rw [hdl, Nat.mul_one]
      have h5 : cur.toList.take (k + 1) = wl W.work := by rw [← h4, hk, Nat.mul_one]
      rw [wl, List.map_dropLast, show List.map (fun (p : Nat) => Value.int .i64 (p : Int)) W.work = wl W.work from rfl, ← h5, List.dropLast_eq_take, List.length_take, List.take_take]
      congr 1
      have : cur.toList.length = c := by rw [Array.length_toList, h3, Nat.mul_one]
      omega
    · have hb : Blk w g 3 cur := hg
      rw [hb.cell, ← Array.getElem?_toList]
      have h5 : (wl W.work)[k]? = some (.int .i64 ((W.work.getLast hne : Nat) : Int)) := by
        rw [wl, List.getElem?_map, List.getLast_eq_getElem]
        rw [List.getElem?_eq_getElem (by omega)]
        simp [hk]
      rw [← h4, List.getElem?_take_of_lt (by omega)] at h5
      exact h5
def isF : Value → Bool | .bool false => true | _ => false
theorem cnt_sl : ∀ l : List (Option (Int × Nat)), (sl l).countP isF = nones l
  | [] => rfl
  | none :: l => by rw [sl, List.countP_append, cnt_sl l, nones]; simp [stc, isF, List.countP_cons]; omega
  | some s :: l => by rw [sl, List.countP_append, cnt_sl l, nones]; simp [stc, isF, List.countP_cons]
def lenOf : Option Value → Nat | some (.slice _ n _) => n | _ => 0
/-- How much is left, read off the world. -/
def wkLeft (w : World) (P : Pl) : Nat := (match w.heap[P.ga]? with | some (.cells cs _ _) => cs.toList.countP isF | _ => 0) + lenOf (w.cell? ⟨P.gw, 3, none⟩)
theorem Wkm.left {w : World} {P : Pl} {vw vr : Value} {W : Wk} (h : Wkm w P vw vr W) : wkLeft w P = nones W.at_ + W.work.length := by
  obtain ⟨A, c, rfl⟩ := own_nz h.work
  unfold wkLeft
  rw [show w.heap[P.ga]? = _ from h.at_, h.told.2.2.2.1]
  show List.countP isF (sl W.at_).toArray.toList + W.work.length = _
  rw [show (sl W.at_).toArray.toList = sl W.at_ from rfl, cnt_sl]
/-- The checker around a walk. -/
structure AllM (w : World) (P : Pl) (X : Nat → Prop) (gg m rk pm N : Nat) (cl : Cl) (gs : List (Int × Int)) : Prop where
  ck : CkB w P.gk cl (.slice (some ⟨gg, 0, none⟩) m m) pm
  gb : GBlk w gg gs
  gl : gs.length = m
  fs : FsAt X w cl.fA cl.fs
  fl : cl.fs.length = m
  m : m ≤ 1000000 ∧ rk ≤ 1000000
  pr : PrMap w pm N
  lt : P.gk < P.B ∧ gg < P.B ∧ pm < P.B ∧ P.gk ≠ pm ∧ gg ≠ pm
  x : ∀ b, X b → b < P.B ∧ b ≠ pm
theorem AllM.off {w w' : World} {P : Pl} {X : Nat → Prop} {gg m rk pm N N' : Nat} {cl : Cl} {gs : List (Int × Int)} (h : AllM w P X gg m rk pm N cl gs) (ho : Off (fun k => k = pm ∨ P.B ≤ k) w w') (hp : PrMap w' pm N') : AllM w' P X gg m rk pm N' cl gs := by
  have f : ∀ k, k < P.B → k ≠ pm → ¬ (k = pm ∨ P.B ≤ k) := fun k h1 h2 h3 => by rcases h3 with h3 | h3; exact h2 h3; omega
  exact ⟨Blk.off h.ck ho (f _ h.lt.1 h.lt.2.2.2.1), Blk.off h.gb ho (f _ h.lt.2.1 h.lt.2.2.2.2), h.gl, h.fs.off ho fun b h1 => f b (h.x b h1).1 (h.x b h1).2, h.fl, h.m, hp, h.lt, h.x⟩
theorem AllM.ef {w : World} {P : Pl} {X : Nat → Prop} {gg m rk pm N : Nat} {cl : Cl} {gs : List (Int × Int)} {vw vr : Value} {W : Wk} {g : Int × Int} (h : AllM w P X gg m rk pm N cl gs) (k : Wkm w P vw vr W) (hg : gs[P.fn]? = some g) (hN : N < 1000000) : EfM w P.gw P.gk P.fn m pm N g cl (.slice (some ⟨gg, 0, none⟩) m m) :=
  ⟨k.told.1, k.told.2.1, h.ck, ⟨gg, rfl, (h.gb.get hg).1, (h.gb.get hg).2⟩, ⟨by rw [← h.gl]; exact (List.getElem?_eq_some_iff.1 hg).1, h.m.1⟩, h.pr, hN⟩
end Go.Proofs.Ytimkiifcmegfeaa
/- code: all (written by cdall.py). -/
namespace Go.Proofs.Ytimkiifcmegfeaa
open Go.RowKit
set_option linter.unusedVariables false
set_option linter.unusedSimpArgs false
attribute [local go_sem] Oper.semAt_some
theorem off_big {w w' : World} {B pm : Nat} (hb : Below B w w') : Off (fun k => k = pm ∨ B ≤ k) w w' := ⟨hb.os, hb.tape, hb.output, hb.size, fun k hk hn => hb.block k (by rcases Nat.lt_or_ge k B with h | h; exact h; exact absurd (.inr h) hn)⟩
theorem eff_else {k : Nat} {a b c : Int} {tx : List UInt8} {f0 : Bool} {g : Int × Int} {s : Int × Nat} {x y : Int} (hk : ¬ effOp k = true) (h : Wk.eff f0 g s ⟨k, a, b, c, tx⟩ = some (x, y)) : (0 ≤ x ∧ x ≤ 1000000) ∧ 0 ≤ y ∧ y ≤ 1000000 := by
  simp [effOp] at hk
  simp [Wk.eff, hk] at h
  omega
/-- How all goes on behind a step. -/
def loopB (f0 : Bool) (g : Int × Int) (is : List Ins) (f : Nat) : Option Wk → Bool
  | none => false
  | some V => Wk.loop f0 g is f V
/-- A round of all. -/
structure AllJ (P : Pl) (X : Nat → Prop) (gg m rk pm N : Nat) (cl : Cl) (gs : List (Int × Int)) (g : Int × Int) (fe : Fe) (R : Bool) (w wr : World) (W : Wk) (vw vr : Value) (j f : Nat) : Prop where
  wk : Wkm wr P vw vr W
  ok : W.Ok P.n (1 + j) (1000001 * ((j : Int) + 1))
  jj : j + (nones W.at_ + W.work.length) = P.n
  ff : nones W.at_ + W.work.length + 1 ≤ f
  rr : Wk.loop (decide (P.fn = 0)) g fe.is f W = R
  am : AllM wr P X gg m rk pm (N + j) cl gs
  oo : Off (fun k => k = pm ∨ P.B ≤ k) w wr
set_option maxRecDepth 20000 in
set_option maxHeartbeats 1000000 in
/-- Where there are no places at all. -/
theorem come_out (P : Pl) (vw vr : Value) (W : Wk) (p : Nat) (h : Int) (r : Nat) (w : World) (hm : Wkm w P vw vr W) (hn : P.n ≤ 1000000) (hp : P.n ≤ p) :
    Calls Try.prog 64 #[.pointer (some ⟨P.gw, 0, none⟩), .int .i64 (p : Int), .int .i64 h, .int .i64 (r : Int)] w fun e w' => e = .panicked [wr] ∧ Below P.B w w' := by
  have c0 := hm.told.1
  have c2 := hm.told.2.2.1
  have hBs : P.B ≤ w.heap.size := Nat.le_trans hm.b.2.1 (Nat.le_of_lt hm.blk.lt)
  have HB : Hid (Below P.B w w.drew) := Lib.hid (((Below.refl _ _).drew).mono hBs)
  obtain ⟨B, gw, ga, kb, gk, fn, n⟩ := P
  replace c0 : w.cell? ⟨gw, 0, none⟩ = some (.pointer (some ⟨gk, 0, none⟩)) := c0
  replace c2 : w.cell? ⟨gw, 2, none⟩ = some (.slice (some ⟨ga, 0, none⟩) n n) := c2
  replace hn : n ≤ 1000000 := hn
  replace hp : n ≤ p := hp
  have HAN := Lib.hid (fun V => ask_no (.pointer (some ⟨gk, 0, none⟩)) V)
  have HX0 : Hid (w.drew.cell? ⟨gw, 0, none⟩ = some (.pointer (some ⟨gk, 0, none⟩)) ∧ w.drew.cell? ⟨gw, 2, none⟩ = some (.slice (some ⟨ga, 0, none⟩) n n)) := Lib.hid ⟨c0, c2⟩
  have hd : decide ((p : Int) < (n : Int)) = false := by simp; omega
  have hd2 : ¬ p < n := by omega
  clear hm hBs
  go_enter Try.func64, Try.ntmps64
  go_wp2_with fail
  refine wp_region_held_drew (S := (fun V => V.cell? ⟨gw, 0, none⟩ = some (.pointer (some ⟨gk, 0, none⟩)) ∧ V.cell? ⟨gw, 2, none⟩ = some (.slice (some ⟨ga, 0, none⟩) n n))) (by kernel_rfl) HX0.out (fun hHeld => ?_)
  refine takeY 0 (some 9) rfl rfl (by kernel_rfl) (by kernel_rfl) (by kernel_rfl) (fun _ _ _ h => h) (by rfl) (v := _) (by (intro _ hSw; (try dsimp only at hSw); go_simp; try with_reducible rfl)) hHeld ?_
  simp only [Act.put, List.setIfInBounds_toArray, List.set_cons_zero, List.set_cons_succ]
  refine takeY 1 (some 10) rfl rfl (by kernel_rfl) (by kernel_rfl) (by kernel_rfl) (fun _ _ _ h => h) (by rfl) (v := _) (by (intro _ hSw; (try dsimp only at hSw); go_simp; try with_reducible rfl)) hHeld ?_
  simp only [Act.put, List.setIfInBounds_toArray, List.set_cons_zero, List.set_cons_succ]
  refine takeY 2 (some 11) rfl rfl (by kernel_rfl) (by kernel_rfl) (by kernel_rfl) (fun _ _ _ h => h) (by rfl) (v := _) (by (intro _ hSw; (try dsimp only at hSw); go_simp; try with_reducible rfl)) hHeld ?_
  simp only [Act.put, List.setIfInBounds_toArray, List.set_cons_zero, List.set_cons_succ]
  refine takeY 3 (some 12) rfl rfl (by kernel_rfl) (by kernel_rfl) (by kernel_rfl) (fun _ _ _ h => h) (by rfl) (v := _) (by (intro _ hSw; (try dsimp only at hSw); go_simp; try with_reducible rfl)) hHeld ?_
  simp only [Act.put, List.setIfInBounds_toArray, List.set_cons_zero, List.set_cons_succ]
  refine takeY 4 (some 13) rfl rfl (by kernel_rfl) (by kernel_rfl) (by kernel_rfl) (fun _ _ _ h => h) (by rfl) (v := _) (by (intro _ hSw; (try dsimp only at hSw); go_simp; try with_reducible rfl)) hHeld ?_
  simp only [Act.put, List.setIfInBounds_toArray, List.set_cons_zero, List.set_cons_succ]
  refine takeY 5 (some 14) rfl rfl (by kernel_rfl) (by kernel_rfl) (by kernel_rfl) (fun _ _ _ h => h) (by rfl) (v := _) (by (intro _ hSw; (try dsimp only at hSw); go_simp; try with_reducible rfl)) hHeld ?_
  simp only [Act.put, List.setIfInBounds_toArray, List.set_cons_zero, List.set_cons_succ]
  refine takeY 6 (some 15) rfl rfl (by kernel_rfl) (by kernel_rfl) (by kernel_rfl) (fun _ _ _ h => h) (by rfl) (v := _) (by (intro _ hSw; (try dsimp only at hSw); go_simp; try with_reducible rfl)) hHeld ?_
  simp only [Act.put, List.setIfInBounds_toArray, List.set_cons_zero, List.set_cons_succ]
  refine takeY 7 (some 16) rfl rfl (by kernel_rfl) (by kernel_rfl) (by kernel_rfl) (fun _ _ _ h => h) (by rfl) (v := _) (by (intro _ hSw; (try dsimp only at hSw); go_simp; try with_reducible rfl)) hHeld ?_
  simp only [Act.put, List.setIfInBounds_toArray, List.set_cons_zero, List.set_cons_succ]
  refine takeY 8 (some 17) rfl rfl (by kernel_rfl) (by kernel_rfl) (by kernel_rfl) (fun _ _ _ h => h) (by rfl) (v := _) (by (intro _ hSw; (try dsimp only at hSw); go_simp; try with_reducible rfl)) hHeld ?_
  simp only [Act.put, List.setIfInBounds_toArray, List.set_cons_zero, List.set_cons_succ]
  refine takeY 9 (some 18) rfl rfl (by kernel_rfl) (by kernel_rfl) (by kernel_rfl) (fun _ _ _ h => h) (by rfl) (v := _) (by (intro _ hSw; (try dsimp only at hSw); go_simp; try with_reducible rfl)) hHeld ?_
  simp only [Act.put, List.setIfInBounds_toArray, List.set_cons_zero, List.set_cons_succ]
  refine takeY 10 (some 19) rfl rfl (by kernel_rfl) (by kernel_rfl) (by kernel_rfl) (fun _ _ _ h => h) (by rfl) (v := _) (by (intro _ hSw; (try dsimp only at hSw); go_simp; try with_reducible rfl)) hHeld ?_
  simp only [Act.put, List.setIfInBounds_toArray, List.set_cons_zero, List.set_cons_succ]
  refine wpAnyH_ready (rs := [11]) (by kernel_rfl) (by simp) ?_
  refine AllReadyH.cons rfl (fun K hK => ?_) AllReadyH.nil
  clear hHeld
  go_simp
  (go_at_call 39; refine (HAN.out _).mono ?_; rintro e w8 ⟨rfl, rfl⟩)
  exact ⟨rfl, rfl, HB.out⟩
set_option maxRecDepth 20000 in
set_option maxHeartbeats 8000000 in
theorem all_any (P : Pl) (X : Nat → Prop) (gg m rk pm N : Nat) (cl : Cl) (gs : List (Int × Int)) (g : Int × Int) (fe : Fe) (vw vr : Value) (w : World) (hm : Wkm w P vw vr (Wk.start P.n)) (hA : AllM w P X gg m rk pm N cl gs) (hfe : cl.fs[P.fn]? = some fe) (hn : fe.is.length = P.n) (hn8 : P.n ≤ 800000) (hg : gs[P.fn]? = some g) (hop : ∀ i ∈ fe.is, opnd (m : Int) (rk : Int) (P.n : Int) i = true) (hN : N + P.n < 900000) :
    Calls Try.prog 43 #[.pointer (some ⟨P.gw, 0, none⟩)] w fun e w' => e = askE (Wk.all (decide (P.fn = 0)) g fe.is) ∧ PrMap w' pm (N + P.n) ∧ Off (fun k => k = pm ∨ P.B ≤ k) w w' := by
  have hfn : P.fn ≤ 1000000 := by have := (List.getElem?_eq_some_iff.1 hfe).1; have := hA.fl; have := hA.m; omega
  rcases Nat.eq_zero_or_pos P.n with hn0 | hn0
  · have HC := Lib.hid (fun h => come_out P vw vr (Wk.start P.n) 0 h 0 w hm (by omega) (by omega))
    have HZ : Hid (Wk.all (decide (P.fn = 0)) g fe.is = false) := Lib.hid (by
      have e : fe.is = [] := List.eq_nil_of_length_eq_zero (by rw [hn, hn0])
      rw [e]; cases decide (P.fn = 0) <;> rfl)
    have c1 := hm.told.2.1
    have HE : Hid (∀ W, Below P.B w W → PrMap W pm (N + P.n) ∧ Off (fun k => k = pm ∨ P.B ≤ k) w W) := Lib.hid fun W hb => ⟨(hA.pr.same (hb.block _ hA.lt.2.2.1)).le (by omega), off_big hb⟩
    clear hm hA hfe hn hg hop hn0
    by_cases hf0 : P.fn = 0
    · have e0 : ((P.fn : Int) == 0) = true := by rw [hf0]; rfl
      clear hf0
      go_enter Try.func43, Try.ntmps43
      go_wp2_with fail
      refine (HC.out _).mono ?_
      rintro e w9 ⟨rfl, hb9⟩
      exact ⟨rfl, by rw [HZ.out]; rfl, HE.out _ hb9⟩
    · have e0 : ((P.fn : Int) == 0) = false := by rw [beq_eq_false_iff_ne]; omega
      clear hf0
      go_enter Try.func43, Try.ntmps43
      go_wp2_with fail
      refine (HC.out _).mono ?_
      rintro e w9 ⟨rfl, hb9⟩
      exact ⟨rfl, by rw [HZ.out]; rfl, HE.out _ hb9⟩
  have hst : (Wk.start P.n).Ok P.n 1 1000001 := ⟨by simp [Wk.start], by show nones (List.replicate P.n none) + 0 ≤ P.n; rw [nones_rep]; omega, ⟨Nat.le_refl _, Nat.le_refl _⟩, fun q s h => by
    exfalso
    have h : (List.replicate P.n (none : Option (Int × Nat)))[q]? = some (some s) := h
    rw [List.getElem?_replicate] at h
    split at h <;> simp at h, fun t ht => by
    have ht : t ∈ [((0 : Nat), (0 : Nat))] := ht
    rw [List.mem_singleton] at ht
    subst ht
    exact ⟨Nat.zero_lt_one, hn0⟩, fun q hq => by cases hq⟩
  have HS : Hid (StB w P vw vr (Wk.start P.n) 1 1000001) := Lib.hid ⟨hm, hst, by omega, by omega, hfn, by omega⟩
  have HH := Lib.hid (And.intro hA (And.intro hfe (And.intro hn (And.intro hg (And.intro hop hN)))))
  have c1 := hm.told.2.1
  clear hm hst hA hfe hn hg hop hn0
  by_cases hf0 : P.fn = 0
  · have E0 : Hid (((P.fn : Int) == 0) = true) := Lib.hid (by rw [hf0]; rfl)
    obtain ⟨R, hR⟩ : ∃ b, Wk.all (decide (P.fn = 0)) g fe.is = b := ⟨_, rfl⟩
    rw [hR]
    have HR : Hid ((match (Wk.start P.n).come 0 0 0 with | none => false | some W => Wk.loop (decide (P.fn = 0)) g fe.is (P.n + 2) W) = R) := Lib.hid (by rw [← hR, Wk.all, HH.out.2.2.1, decide_eq_true hf0]; rfl)
    clear hf0 hR
    cases hc : (Wk.start P.n).come 0 0 0 with
    | none =>
      rw [hc] at HR
      have HC := Lib.hid (HS.out.come_no hc (by omega))
      have HZ : Hid (R = false) := Lib.hid HR.out.symm
      go_enter Try.func43, Try.ntmps43
      have e0 := E0.out
      go_wp2_with fail
      refine HC.out.mono ?_
      rintro e w9 ⟨rfl, hb9⟩
      exact ⟨rfl, by rw [HZ.out]; rfl, (HH.out.1.pr.same (hb9.block _ HH.out.1.lt.2.2.1)).le (by omega), off_big hb9⟩
    | some V =>
      rw [hc] at HR
      have HC := Lib.hid (HS.out.come_yes hc (by omega))
      have HV := Lib.hid (And.intro ((HS.out.ok.came 0 0 0 ⟨by omega, by omega⟩ (by show 0 < (Wk.start P.n).rows.length; exact Nat.zero_lt_one) hc)) (come_meas hc))
      clear hc
      go_enter Try.func43, Try.ntmps43
      have e0 := E0.out
      go_wp2_with fail
      refine HC.out.mono ?_
      rintro e w3 ⟨rfl, hm3, ho3⟩
      obtain ⟨vw3, hm3, _⟩ := hm3
      have HJ : Hid (AllJ P X gg m rk pm N cl gs g fe R w w3 V vw3 vr 0 (P.n + 2)) := Lib.hid (by
        have hb := HS.out.wk.below ho3
        have ho := off_big (pm := pm) hb
        have hme : nones V.at_ + V.work.length = P.n := by
          rw [HV.out.2]
          show nones (List.replicate P.n none) + 0 = P.n
          rw [nones_rep]; omega
        exact ⟨hm3, by have := HV.out.1.1; simpa using this, by omega, by omega, HR.out, HH.out.1.off ho (HH.out.1.pr.same (hb.block _ HH.out.1.lt.2.2.1)), ho⟩)
      clear HC hm3 ho3 HR HV HS e0 E0
      have HG := Lib.hid (And.intro HH.out.2.1 (And.intro HH.out.2.2.1 (And.intro HH.out.2.2.2.1 HH.out.2.2.2.2.1)))
      clear HH
      go_wp2_with fail
      go_loopw [3] (fun _ wr => ∃ (W : Wk) (vw vr : Value) (j f : Nat), Hid (AllJ P X gg m rk pm N cl gs g fe R w wr W vw vr j f)) (fun _ wr => wkLeft wr P)
      case atStart => exact ⟨V, vw3, vr, 0, P.n + 2, HJ⟩
      case round =>
        clear HJ
        obtain ⟨W, vw, vr, j, f, HJ⟩ := hrel
        obtain ⟨w4, rfl⟩ : ∃ v, v = wr := ⟨_, rfl⟩
        obtain ⟨A, c, hvw⟩ := own_nz HJ.out.wk.work
        subst hvw
        obtain ⟨kk, hkk⟩ : ∃ z, W.work.length = z := ⟨_, rfl⟩
        have c3 := HJ.out.wk.told.2.2.2.1
        rw [hkk] at c3
        have HKK := Lib.hid hkk
        have hkx : kk ≤ 1000000 := by have := HJ.out.jj; omega
        clear hkk
        rcases Nat.eq_zero_or_pos kk with h0 | h0
        · have e1 : decide ((kk : Int) > 0) = false := by rw [decide_eq_false_iff_not]; omega
          have HZ : Hid (R = true) := Lib.hid (by
            have h1 := HJ.out.rr
            have h2 : W.work = [] := List.eq_nil_of_length_eq_zero (by rw [HKK.out, h0])
            obtain ⟨f', hf'⟩ : ∃ z, f = z + 1 := ⟨f - 1, by have := HJ.out.ff; omega⟩
            rw [hf', Wk.loop, h2] at h1
            exact h1.symm)
          have HE : Hid (PrMap w4 pm (N + P.n) ∧ Off (fun k => k = pm ∨ P.B ≤ k) w w4) := Lib.hid ⟨HJ.out.am.pr.le (by have := HJ.out.jj; omega), HJ.out.oo⟩
          have h00 : ¬ 0 < kk := by omega
          clear h0
          go_wp2_with fail
          go_end0
          exact ⟨by rw [HZ.out]; rfl, HE.out⟩
        · have e1 : decide ((kk : Int) > 0) = true := by rw [decide_eq_true_eq]; omega
          obtain ⟨k, hk⟩ : ∃ z, kk = z + 1 := ⟨kk - 1, by omega⟩
          have hwk := HJ.out.wk
          have hwl : W.work.length = k + 1 := by rw [HKK.out, hk]
          rw [hwl] at hwk
          obtain ⟨hm4, ga, p, rfl, hkc, hcm, hgl, hcp⟩ := hwk.pop hwl
          obtain ⟨x, hx⟩ : ∃ x, W.at_[p]? = some (some x) := HJ.out.ok.wk p (List.mem_of_getLast? hgl)
          have hwr : IntKind.i64.wrap ((kk : Int) - 1) = (k : Int) := by rw [IntWalk.i64_in _ ⟨by omega, by omega⟩]; omega
          have hwr2 : (kk : Int) - 1 = (k : Int) := by omega
          have hkk2 : k < kk := by omega
          have hkk3 : k ≤ c := by omega
          have HPP := Lib.hid (And.intro hk (And.intro hm4 (And.intro hgl hx)))
          have f3 := Blk.frozen HJ.out.wk.blk 3
          clear hwk hwl hm4 hgl hx hk
          go_wp2_with fail
          go_region
          go_wp2_with fail
          go_region
          obtain ⟨w5, hw5⟩ : ∃ V, (w4.setCell ⟨P.gw, 3, none⟩ (.slice (some ⟨ga, 0, none⟩) k c)).drew.drew = V := ⟨_, rfl⟩
          rw [hw5]
          obtain ⟨hk, hm4, hgl, hx⟩ := HPP.out
          have hm5 : Wkm w5 P (.slice (some ⟨ga, 0, none⟩) k c) vr { W with work := W.work.dropLast } := by rw [← hw5]; exact hm4.bel ((Below.refl _ _).drew.drew)
          have ho5 : Off (fun k => k = pm ∨ P.B ≤ k) w4 w5 := by rw [← hw5]; exact (((Off.setc w4 P.gw 3 _).trans (Off.drew _ _)).trans (Off.drew _ _)).mono fun k _ e => by have e' : k = P.gw := e; rw [e']; exact .inr HJ.out.wk.b.2.1
          have ha5 := HJ.out.am.off ho5 (PrMap.same HJ.out.am.pr (by rw [← hw5]; exact set_same w4 P.gw 3 pm _ (by have := HJ.out.am.lt.2.2.1; have := HJ.out.wk.b.2.1; omega)))
          obtain ⟨h, t⟩ := x
          have hpn : p < P.n := by rw [← HJ.out.ok.len]; exact (List.getElem?_eq_some_iff.1 hx).1
          obtain ⟨i, hi⟩ : ∃ i, fe.is[p]? = some i := ⟨_, List.getElem?_eq_getElem (by rw [HG.out.2.1]; exact hpn)⟩
          have hjn : j < P.n := by have h1 := HJ.out.jj; rw [HKK.out] at h1; omega
          have hok5 : ({ W with work := W.work.dropLast } : Wk).Ok P.n (1 + j) (1000001 * ((j : Int) + 1)) := ⟨HJ.out.ok.len, by show nones W.at_ + W.work.dropLast.length ≤ P.n; rw [List.length_dropLast]; have := HJ.out.ok.meas; omega, HJ.out.ok.rl, HJ.out.ok.ht, HJ.out.ok.row, fun q hq => HJ.out.ok.wk q (List.dropLast_subset _ hq)⟩
          have hme5 : nones W.at_ + W.work.dropLast.length + 1 + j = P.n := by rw [List.length_dropLast, HKK.out]; have := HJ.out.jj; rw [HKK.out] at this; omega
          have hs5 : StM w5 P (.slice (some ⟨ga, 0, none⟩) k c) vr { W with work := W.work.dropLast } (1 + j) (1000001 * ((j : Int) + 1)) m pm (N + j) g cl (.slice (some ⟨gg, 0, none⟩) m m) := ⟨⟨hm5, hok5, by omega, by omega, hfn, by omega⟩, ha5.ef hm5 HG.out.2.2.1 (by omega), HJ.out.am.lt.2.2.1⟩
          obtain ⟨R2, hR2⟩ : ∃ r, ({ W with work := W.work.dropLast } : Wk).step (decide (P.fn = 0)) g p (h, t) i = r := ⟨_, rfl⟩
          have hC := step_any P _ vr _ (1 + j) _ m rk pm (N + j) g cl _ p h t i ((ha5.fs.fs fe (List.mem_of_getElem? HG.out.1)).ins.ok i (List.mem_of_getElem? hi)) (HG.out.2.2.2 i (List.mem_of_getElem? hi)) ha5.m.1 ha5.m.2 w5.drew (hs5.bel ((Below.refl _ _).drew)) hx (by omega) (by omega)
          rw [hR2] at hC
          have hrr : loopB (decide (P.fn = 0)) g fe.is (f - 1) R2 = R := by
            have h1 := HJ.out.rr
            obtain ⟨f', hf'⟩ : ∃ z, f = z + 1 := ⟨f - 1, by have := HJ.out.ff; omega⟩
            rw [hf', Wk.loop, hgl] at h1
            have e1 : W.at1 p = (h, t) := by unfold Wk.at1; rw [hx]
            simp only [e1, hi, Option.getD_some, hR2] at h1
            rw [hf', ← h1]
            cases R2 <;> rfl
          obtain ⟨fb, fo, hfA, _, _, hfc, _⟩ := ha5.fs.get HG.out.1
          obtain ⟨ib, io, hiA, _, _, _⟩ := (ha5.fs.fs fe (List.mem_of_getElem? HG.out.1)).ins.get hi
          have HCF : Hid (∀ V (v1 v2 : Value) (U : Wk), Off (fun k => k = pm ∨ P.B ≤ k) w5 V → Wkm V P v1 v2 U → (V.cell? ⟨P.gw, 0, none⟩ = some (.pointer (some ⟨P.gk, 0, none⟩)) ∧ V.cell? ⟨P.gw, 1, none⟩ = some (.int .i64 (P.fn : Int)) ∧ V.cell? ⟨P.gk, 0, none⟩ = some (.slice (some ⟨fb, fo, none⟩) m cl.fc)) ∧ V.cell? ⟨fb, fo + P.fn, none⟩ = some (.slice (some ⟨ib, io, none⟩) P.n fe.c) ∧ (V.cell? ⟨ib, io + p * 5, none⟩ = some (.int .u8 (i.op : Int)) ∧ V.cell? ⟨ib, io + p * 5 + 1, none⟩ = some (.int .i64 i.a) ∧ V.cell? ⟨ib, io + p * 5 + 2, none⟩ = some (.int .i64 i.b) ∧ V.cell? ⟨ib, io + p * 5 + 3, none⟩ = some (.int .i64 i.c) ∧ V.cell? ⟨ib, io + p * 5 + 4, none⟩ = some (.string (str i.tx)))) := Lib.hid fun V v1 v2 U h1 h2 => by
            have k1 : FsAt X V cl.fA cl.fs := ha5.fs.off h1 fun b hb e => by have := ha5.x b hb; rcases e with e | e; exact this.2 e; omega
            have k2 := Blk.off ha5.ck h1 (fun e => by rcases e with e | e; exact ha5.lt.2.2.2.1 e; have := ha5.lt.1; omega)
            obtain ⟨fb', fo', e1, _, _, c1, k3⟩ := k1.get HG.out.1
            rw [hfA] at e1
            injection e1 with e1
            injection e1 with e1 e2
            subst e1
            subst e2
            obtain ⟨ib', io', e1, _, _, d0, d1, d2, d3, d4, _⟩ := k3.ins.get hi
            rw [hiA] at e1
            injection e1 with e1
            injection e1 with e1 e2
            subst e1
            subst e2
            rw [hiA, HG.out.2.1] at c1
            refine ⟨⟨h2.told.1, h2.told.2.1, ?_⟩, c1, d0, d1, d2, d3, d4⟩
            have := k2.cell 0
            rw [hfA, ha5.fl] at this
            exact this
          have hfm : P.fn < m := by rw [← ha5.fl]; exact (List.getElem?_eq_some_iff.1 HG.out.1).1
          have hmm := ha5.m.1
          have HK0 : Hid ((w5.drew.cell? ⟨P.gw, 0, none⟩ = some (.pointer (some ⟨P.gk, 0, none⟩)) ∧ w5.drew.cell? ⟨P.gw, 1, none⟩ = some (.int .i64 (P.fn : Int)) ∧ w5.drew.cell? ⟨P.gk, 0, none⟩ = some (.slice (some ⟨fb, fo, none⟩) m cl.fc)) ∧ w5.drew.cell? ⟨fb, fo + P.fn, none⟩ = some (.slice (some ⟨ib, io, none⟩) P.n fe.c) ∧ (w5.drew.cell? ⟨ib, io + p * 5, none⟩ = some (.int .u8 (i.op : Int)) ∧ w5.drew.cell? ⟨ib, io + p * 5 + 1, none⟩ = some (.int .i64 i.a) ∧ w5.drew.cell? ⟨ib, io + p * 5 + 2, none⟩ = some (.int .i64 i.b) ∧ w5.drew.cell? ⟨ib, io + p * 5 + 3, none⟩ = some (.int .i64 i.c) ∧ w5.drew.cell? ⟨ib, io + p * 5 + 4, none⟩ = some (.string (str i.tx)))) := Lib.hid (HCF.out w5.drew _ _ _ (Off.drew _ _) (hm5.bel ((Below.refl _ _).drew)))
          have HQ := Lib.hid (And.intro hm5 (And.intro ho5 (And.intro ha5 (And.intro hok5 (And.intro hme5 (And.intro hs5 (And.intro hrr (And.intro hR2 (And.intro hpn (And.intro hx hjn))))))))))
          have hCC := Lib.hid hC
          clear hm5 ho5 ha5 hok5 hme5 hs5 hrr hR2 hx hw5 hk hm4 hgl hfA hiA hfc hC c3 hcp hwr hwr2 hkk2 hkk3 f3 e1
          cases R2 with
          | none =>
            have HC := Lib.hid (hCC.out.mono (R' := fun e w' => e = .panicked [wr] ∧ PrMap w' pm (N + j + 1) ∧ Off (fun k => k = pm ∨ P.B ≤ k) w5.drew w') fun e w' k => ⟨k.e, k.pr, k.o⟩)
            have HZ : Hid (R = false) := Lib.hid HQ.out.2.2.2.2.2.2.1.symm
            go_wp2_with fail
            refine wp_region_held_drew (S := (fun V => (V.cell? ⟨P.gw, 0, none⟩ = some (.pointer (some ⟨P.gk, 0, none⟩)) ∧ V.cell? ⟨P.gw, 1, none⟩ = some (.int .i64 (P.fn : Int)) ∧ V.cell? ⟨P.gk, 0, none⟩ = some (.slice (some ⟨fb, fo, none⟩) m cl.fc)) ∧ V.cell? ⟨fb, fo + P.fn, none⟩ = some (.slice (some ⟨ib, io, none⟩) P.n fe.c) ∧ (V.cell? ⟨ib, io + p * 5, none⟩ = some (.int .u8 (i.op : Int)) ∧ V.cell? ⟨ib, io + p * 5 + 1, none⟩ = some (.int .i64 i.a) ∧ V.cell? ⟨ib, io + p * 5 + 2, none⟩ = some (.int .i64 i.b) ∧ V.cell? ⟨ib, io + p * 5 + 3, none⟩ = some (.int .i64 i.c) ∧ V.cell? ⟨ib, io + p * 5 + 4, none⟩ = some (.string (str i.tx))))) (by kernel_rfl) HK0.out (fun hHeld => ?_)
            refine takeY 0 (some 44) rfl rfl (by kernel_rfl) (by kernel_rfl) (by kernel_rfl) (fun _ _ _ h => h) (by rfl) (v := _) (by (intro _ hSw; (try dsimp only at hSw); go_simp; try with_reducible rfl)) hHeld ?_
            simp only [Act.put, List.setIfInBounds_toArray, List.set_cons_zero, List.set_cons_succ]
            refine takeY 1 (some 45) rfl rfl (by kernel_rfl) (by kernel_rfl) (by kernel_rfl) (fun _ _ _ h => h) (by rfl) (v := _) (by (intro _ hSw; (try dsimp only at hSw); go_simp; try with_reducible rfl)) hHeld ?_
            simp only [Act.put, List.setIfInBounds_toArray, List.set_cons_zero, List.set_cons_succ]
            refine takeY 2 (some 46) rfl rfl (by kernel_rfl) (by kernel_rfl) (by kernel_rfl) (fun _ _ _ h => h) (by rfl) (v := _) (by (intro _ hSw; (try dsimp only at hSw); go_simp; try with_reducible rfl)) hHeld ?_
            simp only [Act.put, List.setIfInBounds_toArray, List.set_cons_zero, List.set_cons_succ]
            refine takeY 3 (some 47) rfl rfl (by kernel_rfl) (by kernel_rfl) (by kernel_rfl) (fun _ _ _ h => h) (by rfl) (v := _) (by (intro _ hSw; (try dsimp only at hSw); go_simp; try with_reducible rfl)) hHeld ?_
            simp only [Act.put, List.setIfInBounds_toArray, List.set_cons_zero, List.set_cons_succ]
            refine takeY 4 (some 48) rfl rfl (by kernel_rfl) (by kernel_rfl) (by kernel_rfl) (fun _ _ _ h => h) (by rfl) (v := _) (by (intro _ hSw; (try dsimp only at hSw); go_simp; try with_reducible rfl)) hHeld ?_
            simp only [Act.put, List.setIfInBounds_toArray, List.set_cons_zero, List.set_cons_succ]
            refine takeY 5 (some 49) rfl rfl (by kernel_rfl) (by kernel_rfl) (by kernel_rfl) (fun _ _ _ h => h) (by rfl) (v := _) (by (intro _ hSw; (try dsimp only at hSw); go_simp; try with_reducible rfl)) hHeld ?_
            simp only [Act.put, List.setIfInBounds_toArray, List.set_cons_zero, List.set_cons_succ]
            refine takeY 6 (some 50) rfl rfl (by kernel_rfl) (by kernel_rfl) (by kernel_rfl) (fun _ _ _ h => h) (by rfl) (v := _) (by (intro _ hSw; (try dsimp only at hSw); go_simp; try with_reducible rfl)) hHeld ?_
            simp only [Act.put, List.setIfInBounds_toArray, List.set_cons_zero, List.set_cons_succ]
            refine takeY 7 (some 51) rfl rfl (by kernel_rfl) (by kernel_rfl) (by kernel_rfl) (fun _ _ _ h => h) (by rfl) (v := _) (by (intro _ hSw; (try dsimp only at hSw); go_simp; try with_reducible rfl)) hHeld ?_
            simp only [Act.put, List.setIfInBounds_toArray, List.set_cons_zero, List.set_cons_succ]
            refine takeY 8 (some 52) rfl rfl (by kernel_rfl) (by kernel_rfl) (by kernel_rfl) (fun _ _ _ h => h) (by rfl) (v := _) (by (intro _ hSw; (try dsimp only at hSw); go_simp; try with_reducible rfl)) hHeld ?_
            simp only [Act.put, List.setIfInBounds_toArray, List.set_cons_zero, List.set_cons_succ]
            refine takeY 9 (some 53) rfl rfl (by kernel_rfl) (by kernel_rfl) (by kernel_rfl) (fun _ _ _ h => h) (by rfl) (v := _) (by (intro _ hSw; (try dsimp only at hSw); go_simp; try with_reducible rfl)) hHeld ?_
            simp only [Act.put, List.setIfInBounds_toArray, List.set_cons_zero, List.set_cons_succ]
            refine takeY 10 (some 54) rfl rfl (by kernel_rfl) (by kernel_rfl) (by kernel_rfl) (fun _ _ _ h => h) (by rfl) (v := _) (by (intro _ hSw; (try dsimp only at hSw); go_simp; try with_reducible rfl)) hHeld ?_
            simp only [Act.put, List.setIfInBounds_toArray, List.set_cons_zero, List.set_cons_succ]
            refine takeY 11 (some 55) rfl rfl (by kernel_rfl) (by kernel_rfl) (by kernel_rfl) (fun _ _ _ h => h) (by rfl) (v := _) (by (intro _ hSw; (try dsimp only at hSw); go_simp; try with_reducible rfl)) hHeld ?_
            simp only [Act.put, List.setIfInBounds_toArray, List.set_cons_zero, List.set_cons_succ]
            refine takeY 12 (some 56) rfl rfl (by kernel_rfl) (by kernel_rfl) (by kernel_rfl) (fun _ _ _ h => h) (by rfl) (v := _) (by (intro _ hSw; (try dsimp only at hSw); go_simp; try with_reducible rfl)) hHeld ?_
            simp only [Act.put, List.setIfInBounds_toArray, List.set_cons_zero, List.set_cons_succ]
            refine takeY 13 (some 57) rfl rfl (by kernel_rfl) (by kernel_rfl) (by kernel_rfl) (fun _ _ _ h => h) (by rfl) (v := _) (by (intro _ hSw; (try dsimp only at hSw); go_simp; try with_reducible rfl)) hHeld ?_
            simp only [Act.put, List.setIfInBounds_toArray, List.set_cons_zero, List.set_cons_succ]
            refine takeY 14 (some 58) rfl rfl (by kernel_rfl) (by kernel_rfl) (by kernel_rfl) (fun _ _ _ h => h) (by rfl) (v := _) (by (intro _ hSw; (try dsimp only at hSw); go_simp; try with_reducible rfl)) hHeld ?_
            simp only [Act.put, List.setIfInBounds_toArray, List.set_cons_zero, List.set_cons_succ]
            refine takeY 15 (some 59) rfl rfl (by kernel_rfl) (by kernel_rfl) (by kernel_rfl) (fun _ _ _ h => h) (by rfl) (v := _) (by (intro _ hSw; (try dsimp only at hSw); go_simp; try with_reducible rfl)) hHeld ?_
            simp only [Act.put, List.setIfInBounds_toArray, List.set_cons_zero, List.set_cons_succ]
            refine takeY 16 (some 60) rfl rfl (by kernel_rfl) (by kernel_rfl) (by kernel_rfl) (fun _ _ _ h => h) (by rfl) (v := _) (by (intro _ hSw; (try dsimp only at hSw); go_simp; try with_reducible rfl)) hHeld ?_
            simp only [Act.put, List.setIfInBounds_toArray, List.set_cons_zero, List.set_cons_succ]
            refine takeY 17 (some 61) rfl rfl (by kernel_rfl) (by kernel_rfl) (by kernel_rfl) (fun _ _ _ h => h) (by rfl) (v := _) (by (intro _ hSw; (try dsimp only at hSw); go_simp; try with_reducible rfl)) hHeld ?_
            simp only [Act.put, List.setIfInBounds_toArray, List.set_cons_zero, List.set_cons_succ]
            refine takeY 18 (some 62) rfl rfl (by kernel_rfl) (by kernel_rfl) (by kernel_rfl) (fun _ _ _ h => h) (by rfl) (v := _) (by (intro _ hSw; (try dsimp only at hSw); go_simp; try with_reducible rfl)) hHeld ?_
            simp only [Act.put, List.setIfInBounds_toArray, List.set_cons_zero, List.set_cons_succ]
            refine wpAnyH_ready (rs := [19]) (by kernel_rfl) (by simp) ?_
            refine AllReadyH.cons rfl (fun K hK => ?_) AllReadyH.nil
            clear hHeld
            go_simp
            (go_at_call 65; refine HC.out.mono ?_; rintro e w8 ⟨rfl, hp8, ho8⟩)
            exact ⟨rfl, by rw [HZ.out]; rfl, hp8.le (by have := HQ.out.2.2.2.2.2.2.2.2.2.2; omega), (HJ.out.oo.trans HQ.out.2.1).trans ((Off.drew _ _).trans ho8)⟩
          | some V1 =>
            have HC := Lib.hid (hCC.out.mono (R' := fun e w' => e = .returned (.tuple #[]) ∧ StepPost P (some V1) pm (N + j) w5.drew (.returned (.tuple #[])) w') fun e w' k => ⟨k.e, by have := k.e; rw [this] at k; exact k⟩)
            go_wp2_with fail
            go_region_held3 (fun V => (V.cell? ⟨P.gw, 0, none⟩ = some (.pointer (some ⟨P.gk, 0, none⟩)) ∧ V.cell? ⟨P.gw, 1, none⟩ = some (.int .i64 (P.fn : Int)) ∧ V.cell? ⟨P.gk, 0, none⟩ = some (.slice (some ⟨fb, fo, none⟩) m cl.fc)) ∧ V.cell? ⟨fb, fo + P.fn, none⟩ = some (.slice (some ⟨ib, io, none⟩) P.n fe.c) ∧ (V.cell? ⟨ib, io + p * 5, none⟩ = some (.int .u8 (i.op : Int)) ∧ V.cell? ⟨ib, io + p * 5 + 1, none⟩ = some (.int .i64 i.a) ∧ V.cell? ⟨ib, io + p * 5 + 2, none⟩ = some (.int .i64 i.b) ∧ V.cell? ⟨ib, io + p * 5 + 3, none⟩ = some (.int .i64 i.c) ∧ V.cell? ⟨ib, io + p * 5 + 4, none⟩ = some (.string (str i.tx))))
              (first | exact HK0.out | exact HCF.out _ _ _ _ ((Off.drew _ _).trans hsp.o) hm8)
              (first | (go_at_call 65; refine HC.out.mono ?_; rintro e w8 ⟨rfl, hsp⟩; obtain ⟨v1, v2, hm8⟩ := hsp.m _ rfl))
            obtain ⟨q1, q2, q3, q4, q5, q6, q7, q8, q9, q10, q11⟩ := HQ.out
            have hso := step_ok q4 (by omega) q9 ⟨(q4.ht p (h, t) q10).1, (q4.ht p (h, t) q10).2.1, (q4.ht p (h, t) q10).2.2⟩ (fun x y hxy => by
              have ho := HG.out.2.2.2 i (List.mem_of_getElem? hi)
              by_cases hk : effOp i.op = true
              · exact (eff_fit q3.m.1 q3.m.2 hk ho).2 _ _ _ _ _ hxy
              · exact eff_else hk hxy) q8
            have HJ2 : Hid (AllJ P X gg m rk pm N cl gs g fe R w w8 V1 v1 v2 (j + 1) (f - 1)) := Lib.hid (by
              have h1 := hso.2
              have h2 : nones W.at_ + W.work.dropLast.length + 1 + j = P.n := q5
              have h3 : nones V1.at_ + V1.work.length = nones W.at_ + W.work.dropLast.length := h1
              refine ⟨hm8, ?_, by omega, ?_, q7, ?_, (HJ.out.oo.trans q2).trans ((Off.drew _ _).trans hsp.o)⟩
              · have h4 := hso.1
                have e : (1000001 * ((j : Int) + 1) + 1000001) = 1000001 * (((j + 1 : Nat) : Int) + 1) := by push_cast; omega
                rw [e] at h4
                exact h4
              · have h5 := HJ.out.ff
                have h6 := HJ.out.jj
                omega
              · exact q3.off ((Off.drew _ _).trans hsp.o) hsp.pr)
            have HM : Hid (wkLeft w8 P < wkLeft w4 P) := Lib.hid (by
              rw [hm8.left, HJ.out.wk.left]
              have h1 := hso.2
              have h3 : nones V1.at_ + V1.work.length = nones W.at_ + W.work.dropLast.length := h1
              have h6 := HJ.out.jj
              have h2 : nones W.at_ + W.work.dropLast.length + 1 + j = P.n := q5
              omega)
            clear hso q1 q2 q3 q4 q5 q6 q7 q8 q9 q10 q11 hsp hm8
            go_wp2_with fail
            go_roundw
            case rel => exact ⟨V1, v1, v2, j + 1, f - 1, HJ2⟩
            case measure => exact HM.out
  · have E0 : Hid (((P.fn : Int) == 0) = false) := Lib.hid (by rw [beq_eq_false_iff_ne]; omega)
    obtain ⟨R, hR⟩ : ∃ b, Wk.all (decide (P.fn = 0)) g fe.is = b := ⟨_, rfl⟩
    rw [hR]
    have HR : Hid ((match (Wk.start P.n).come 0 1 0 with | none => false | some W => Wk.loop (decide (P.fn = 0)) g fe.is (P.n + 2) W) = R) := Lib.hid (by rw [← hR, Wk.all, HH.out.2.2.1, decide_eq_false hf0]; rfl)
    clear hf0 hR
    cases hc : (Wk.start P.n).come 0 1 0 with
    | none =>
      rw [hc] at HR
      have HC := Lib.hid (HS.out.come_no hc (by omega))
      have HZ : Hid (R = false) := Lib.hid HR.out.symm
      go_enter Try.func43, Try.ntmps43
      have e0 := E0.out
      go_wp2_with fail
      refine HC.out.mono ?_
      rintro e w9 ⟨rfl, hb9⟩
      exact ⟨rfl, by rw [HZ.out]; rfl, (HH.out.1.pr.same (hb9.block _ HH.out.1.lt.2.2.1)).le (by omega), off_big hb9⟩
    | some V =>
      rw [hc] at HR
      have HC := Lib.hid (HS.out.come_yes hc (by omega))
      have HV := Lib.hid (And.intro ((HS.out.ok.came 0 1 0 ⟨by omega, by omega⟩ (by show 0 < (Wk.start P.n).rows.length; exact Nat.zero_lt_one) hc)) (come_meas hc))
      clear hc
      go_enter Try.func43, Try.ntmps43
      have e0 := E0.out
      go_wp2_with fail
      refine HC.out.mono ?_
      rintro e w3 ⟨rfl, hm3, ho3⟩
      obtain ⟨vw3, hm3, _⟩ := hm3
      have HJ : Hid (AllJ P X gg m rk pm N cl gs g fe R w w3 V vw3 vr 0 (P.n + 2)) := Lib.hid (by
        have hb := HS.out.wk.below ho3
        have ho := off_big (pm := pm) hb
        have hme : nones V.at_ + V.work.length = P.n := by
          rw [HV.out.2]
          show nones (List.replicate P.n none) + 0 = P.n
          rw [nones_rep]; omega
        exact ⟨hm3, by have := HV.out.1.1; simpa using this, by omega, by omega, HR.out, HH.out.1.off ho (HH.out.1.pr.same (hb.block _ HH.out.1.lt.2.2.1)), ho⟩)
      clear HC hm3 ho3 HR HV HS e0 E0
      have HG := Lib.hid (And.intro HH.out.2.1 (And.intro HH.out.2.2.1 (And.intro HH.out.2.2.2.1 HH.out.2.2.2.2.1)))
      clear HH
      go_wp2_with fail
      go_loopw [3] (fun _ wr => ∃ (W : Wk) (vw vr : Value) (j f : Nat), Hid (AllJ P X gg m rk pm N cl gs g fe R w wr W vw vr j f)) (fun _ wr => wkLeft wr P)
      case atStart => exact ⟨V, vw3, vr, 0, P.n + 2, HJ⟩
      case round =>
        clear HJ
        obtain ⟨W, vw, vr, j, f, HJ⟩ := hrel
        obtain ⟨w4, rfl⟩ : ∃ v, v = wr := ⟨_, rfl⟩
        obtain ⟨A, c, hvw⟩ := own_nz HJ.out.wk.work
        subst hvw
        obtain ⟨kk, hkk⟩ : ∃ z, W.work.length = z := ⟨_, rfl⟩
        have c3 := HJ.out.wk.told.2.2.2.1
        rw [hkk] at c3
        have HKK := Lib.hid hkk
        have hkx : kk ≤ 1000000 := by have := HJ.out.jj; omega
        clear hkk
        rcases Nat.eq_zero_or_pos kk with h0 | h0
        · have e1 : decide ((kk : Int) > 0) = false := by rw [decide_eq_false_iff_not]; omega
          have HZ : Hid (R = true) := Lib.hid (by
            have h1 := HJ.out.rr
            have h2 : W.work = [] := List.eq_nil_of_length_eq_zero (by rw [HKK.out, h0])
            obtain ⟨f', hf'⟩ : ∃ z, f = z + 1 := ⟨f - 1, by have := HJ.out.ff; omega⟩
            rw [hf', Wk.loop, h2] at h1
            exact h1.symm)
          have HE : Hid (PrMap w4 pm (N + P.n) ∧ Off (fun k => k = pm ∨ P.B ≤ k) w w4) := Lib.hid ⟨HJ.out.am.pr.le (by have := HJ.out.jj; omega), HJ.out.oo⟩
          have h00 : ¬ 0 < kk := by omega
          clear h0
          go_wp2_with fail
          go_end0
          exact ⟨by rw [HZ.out]; rfl, HE.out⟩
        · have e1 : decide ((kk : Int) > 0) = true := by rw [decide_eq_true_eq]; omega
          obtain ⟨k, hk⟩ : ∃ z, kk = z + 1 := ⟨kk - 1, by omega⟩
          have hwk := HJ.out.wk
          have hwl : W.work.length = k + 1 := by rw [HKK.out, hk]
          rw [hwl] at hwk
          obtain ⟨hm4, ga, p, rfl, hkc, hcm, hgl, hcp⟩ := hwk.pop hwl
          obtain ⟨x, hx⟩ : ∃ x, W.at_[p]? = some (some x) := HJ.out.ok.wk p (List.mem_of_getLast? hgl)
          have hwr : IntKind.i64.wrap ((kk : Int) - 1) = (k : Int) := by rw [IntWalk.i64_in _ ⟨by omega, by omega⟩]; omega
          have hwr2 : (kk : Int) - 1 = (k : Int) := by omega
          have hkk2 : k < kk := by omega
          have hkk3 : k ≤ c := by omega
          have HPP := Lib.hid (And.intro hk (And.intro hm4 (And.intro hgl hx)))
          have f3 := Blk.frozen HJ.out.wk.blk 3
          clear hwk hwl hm4 hgl hx hk
          go_wp2_with fail
          go_region
          go_wp2_with fail
          go_region
          obtain ⟨w5, hw5⟩ : ∃ V, (w4.setCell ⟨P.gw, 3, none⟩ (.slice (some ⟨ga, 0, none⟩) k c)).drew.drew = V := ⟨_, rfl⟩
          rw [hw5]
          obtain ⟨hk, hm4, hgl, hx⟩ := HPP.out
          have hm5 : Wkm w5 P (.slice (some ⟨ga, 0, none⟩) k c) vr { W with work := W.work.dropLast } := by rw [← hw5]; exact hm4.bel ((Below.refl _ _).drew.drew)
          have ho5 : Off (fun k => k = pm ∨ P.B ≤ k) w4 w5 := by rw [← hw5]; exact (((Off.setc w4 P.gw 3 _).trans (Off.drew _ _)).trans (Off.drew _ _)).mono fun k _ e => by have e' : k = P.gw := e; rw [e']; exact .inr HJ.out.wk.b.2.1
          have ha5 := HJ.out.am.off ho5 (PrMap.same HJ.out.am.pr (by rw [← hw5]; exact set_same w4 P.gw 3 pm _ (by have := HJ.out.am.lt.2.2.1; have := HJ.out.wk.b.2.1; omega)))
          obtain ⟨h, t⟩ := x
          have hpn : p < P.n := by rw [← HJ.out.ok.len]; exact (List.getElem?_eq_some_iff.1 hx).1
          obtain ⟨i, hi⟩ : ∃ i, fe.is[p]? = some i := ⟨_, List.getElem?_eq_getElem (by rw [HG.out.2.1]; exact hpn)⟩
          have hjn : j < P.n := by have h1 := HJ.out.jj; rw [HKK.out] at h1; omega
          have hok5 : ({ W with work := W.work.dropLast } : Wk).Ok P.n (1 + j) (1000001 * ((j : Int) + 1)) := ⟨HJ.out.ok.len, by show nones W.at_ + W.work.dropLast.length ≤ P.n; rw [List.length_dropLast]; have := HJ.out.ok.meas; omega, HJ.out.ok.rl, HJ.out.ok.ht, HJ.out.ok.row, fun q hq => HJ.out.ok.wk q (List.dropLast_subset _ hq)⟩
          have hme5 : nones W.at_ + W.work.dropLast.length + 1 + j = P.n := by rw [List.length_dropLast, HKK.out]; have := HJ.out.jj; rw [HKK.out] at this; omega
          have hs5 : StM w5 P (.slice (some ⟨ga, 0, none⟩) k c) vr { W with work := W.work.dropLast } (1 + j) (1000001 * ((j : Int) + 1)) m pm (N + j) g cl (.slice (some ⟨gg, 0, none⟩) m m) := ⟨⟨hm5, hok5, by omega, by omega, hfn, by omega⟩, ha5.ef hm5 HG.out.2.2.1 (by omega), HJ.out.am.lt.2.2.1⟩
          obtain ⟨R2, hR2⟩ : ∃ r, ({ W with work := W.work.dropLast } : Wk).step (decide (P.fn = 0)) g p (h, t) i = r := ⟨_, rfl⟩
          have hC := step_any P _ vr _ (1 + j) _ m rk pm (N + j) g cl _ p h t i ((ha5.fs.fs fe (List.mem_of_getElem? HG.out.1)).ins.ok i (List.mem_of_getElem? hi)) (HG.out.2.2.2 i (List.mem_of_getElem? hi)) ha5.m.1 ha5.m.2 w5.drew (hs5.bel ((Below.refl _ _).drew)) hx (by omega) (by omega)
          rw [hR2] at hC
          have hrr : loopB (decide (P.fn = 0)) g fe.is (f - 1) R2 = R := by
            have h1 := HJ.out.rr
            obtain ⟨f', hf'⟩ : ∃ z, f = z + 1 := ⟨f - 1, by have := HJ.out.ff; omega⟩
            rw [hf', Wk.loop, hgl] at h1
            have e1 : W.at1 p = (h, t) := by unfold Wk.at1; rw [hx]
            simp only [e1, hi, Option.getD_some, hR2] at h1
            rw [hf', ← h1]
            cases R2 <;> rfl
          obtain ⟨fb, fo, hfA, _, _, hfc, _⟩ := ha5.fs.get HG.out.1
          obtain ⟨ib, io, hiA, _, _, _⟩ := (ha5.fs.fs fe (List.mem_of_getElem? HG.out.1)).ins.get hi
          have HCF : Hid (∀ V (v1 v2 : Value) (U : Wk), Off (fun k => k = pm ∨ P.B ≤ k) w5 V → Wkm V P v1 v2 U → (V.cell? ⟨P.gw, 0, none⟩ = some (.pointer (some ⟨P.gk, 0, none⟩)) ∧ V.cell? ⟨P.gw, 1, none⟩ = some (.int .i64 (P.fn : Int)) ∧ V.cell? ⟨P.gk, 0, none⟩ = some (.slice (some ⟨fb, fo, none⟩) m cl.fc)) ∧ V.cell? ⟨fb, fo + P.fn, none⟩ = some (.slice (some ⟨ib, io, none⟩) P.n fe.c) ∧ (V.cell? ⟨ib, io + p * 5, none⟩ = some (.int .u8 (i.op : Int)) ∧ V.cell? ⟨ib, io + p * 5 + 1, none⟩ = some (.int .i64 i.a) ∧ V.cell? ⟨ib, io + p * 5 + 2, none⟩ = some (.int .i64 i.b) ∧ V.cell? ⟨ib, io + p * 5 + 3, none⟩ = some (.int .i64 i.c) ∧ V.cell? ⟨ib, io + p * 5 + 4, none⟩ = some (.string (str i.tx)))) := Lib.hid fun V v1 v2 U h1 h2 => by
            have k1 : FsAt X V cl.fA cl.fs := ha5.fs.off h1 fun b hb e => by have := ha5.x b hb; rcases e with e | e; exact this.2 e; omega
            have k2 := Blk.off ha5.ck h1 (fun e => by rcases e with e | e; exact ha5.lt.2.2.2.1 e; have := ha5.lt.1; omega)
            obtain ⟨fb', fo', e1, _, _, c1, k3⟩ := k1.get HG.out.1
            rw [hfA] at e1
            injection e1 with e1
            injection e1 with e1 e2
            subst e1
            subst e2
            obtain ⟨ib', io', e1, _, _, d0, d1, d2, d3, d4, _⟩ := k3.ins.get hi
            rw [hiA] at e1
            injection e1 with e1
            injection e1 with e1 e2
            subst e1
            subst e2
            rw [hiA, HG.out.2.1] at c1
            refine ⟨⟨h2.told.1, h2.told.2.1, ?_⟩, c1, d0, d1, d2, d3, d4⟩
            have := k2.cell 0
            rw [hfA, ha5.fl] at this
            exact this
          have hfm : P.fn < m := by rw [← ha5.fl]; exact (List.getElem?_eq_some_iff.1 HG.out.1).1
          have hmm := ha5.m.1
          have HK0 : Hid ((w5.drew.cell? ⟨P.gw, 0, none⟩ = some (.pointer (some ⟨P.gk, 0, none⟩)) ∧ w5.drew.cell? ⟨P.gw, 1, none⟩ = some (.int .i64 (P.fn : Int)) ∧ w5.drew.cell? ⟨P.gk, 0, none⟩ = some (.slice (some ⟨fb, fo, none⟩) m cl.fc)) ∧ w5.drew.cell? ⟨fb, fo + P.fn, none⟩ = some (.slice (some ⟨ib, io, none⟩) P.n fe.c) ∧ (w5.drew.cell? ⟨ib, io + p * 5, none⟩ = some (.int .u8 (i.op : Int)) ∧ w5.drew.cell? ⟨ib, io + p * 5 + 1, none⟩ = some (.int .i64 i.a) ∧ w5.drew.cell? ⟨ib, io + p * 5 + 2, none⟩ = some (.int .i64 i.b) ∧ w5.drew.cell? ⟨ib, io + p * 5 + 3, none⟩ = some (.int .i64 i.c) ∧ w5.drew.cell? ⟨ib, io + p * 5 + 4, none⟩ = some (.string (str i.tx)))) := Lib.hid (HCF.out w5.drew _ _ _ (Off.drew _ _) (hm5.bel ((Below.refl _ _).drew)))
          have HQ := Lib.hid (And.intro hm5 (And.intro ho5 (And.intro ha5 (And.intro hok5 (And.intro hme5 (And.intro hs5 (And.intro hrr (And.intro hR2 (And.intro hpn (And.intro hx hjn))))))))))
          have hCC := Lib.hid hC
          clear hm5 ho5 ha5 hok5 hme5 hs5 hrr hR2 hx hw5 hk hm4 hgl hfA hiA hfc hC c3 hcp hwr hwr2 hkk2 hkk3 f3 e1
          cases R2 with
          | none =>
            have HC := Lib.hid (hCC.out.mono (R' := fun e w' => e = .panicked [wr] ∧ PrMap w' pm (N + j + 1) ∧ Off (fun k => k = pm ∨ P.B ≤ k) w5.drew w') fun e w' k => ⟨k.e, k.pr, k.o⟩)
            have HZ : Hid (R = false) := Lib.hid HQ.out.2.2.2.2.2.2.1.symm
            go_wp2_with fail
            refine wp_region_held_drew (S := (fun V => (V.cell? ⟨P.gw, 0, none⟩ = some (.pointer (some ⟨P.gk, 0, none⟩)) ∧ V.cell? ⟨P.gw, 1, none⟩ = some (.int .i64 (P.fn : Int)) ∧ V.cell? ⟨P.gk, 0, none⟩ = some (.slice (some ⟨fb, fo, none⟩) m cl.fc)) ∧ V.cell? ⟨fb, fo + P.fn, none⟩ = some (.slice (some ⟨ib, io, none⟩) P.n fe.c) ∧ (V.cell? ⟨ib, io + p * 5, none⟩ = some (.int .u8 (i.op : Int)) ∧ V.cell? ⟨ib, io + p * 5 + 1, none⟩ = some (.int .i64 i.a) ∧ V.cell? ⟨ib, io + p * 5 + 2, none⟩ = some (.int .i64 i.b) ∧ V.cell? ⟨ib, io + p * 5 + 3, none⟩ = some (.int .i64 i.c) ∧ V.cell? ⟨ib, io + p * 5 + 4, none⟩ = some (.string (str i.tx))))) (by kernel_rfl) HK0.out (fun hHeld => ?_)
            refine takeY 0 (some 44) rfl rfl (by kernel_rfl) (by kernel_rfl) (by kernel_rfl) (fun _ _ _ h => h) (by rfl) (v := _) (by (intro _ hSw; (try dsimp only at hSw); go_simp; try with_reducible rfl)) hHeld ?_
            simp only [Act.put, List.setIfInBounds_toArray, List.set_cons_zero, List.set_cons_succ]
            refine takeY 1 (some 45) rfl rfl (by kernel_rfl) (by kernel_rfl) (by kernel_rfl) (fun _ _ _ h => h) (by rfl) (v := _) (by (intro _ hSw; (try dsimp only at hSw); go_simp; try with_reducible rfl)) hHeld ?_
            simp only [Act.put, List.setIfInBounds_toArray, List.set_cons_zero, List.set_cons_succ]
            refine takeY 2 (some 46) rfl rfl (by kernel_rfl) (by kernel_rfl) (by kernel_rfl) (fun _ _ _ h => h) (by rfl) (v := _) (by (intro _ hSw; (try dsimp only at hSw); go_simp; try with_reducible rfl)) hHeld ?_
            simp only [Act.put, List.setIfInBounds_toArray, List.set_cons_zero, List.set_cons_succ]
            refine takeY 3 (some 47) rfl rfl (by kernel_rfl) (by kernel_rfl) (by kernel_rfl) (fun _ _ _ h => h) (by rfl) (v := _) (by (intro _ hSw; (try dsimp only at hSw); go_simp; try with_reducible rfl)) hHeld ?_
            simp only [Act.put, List.setIfInBounds_toArray, List.set_cons_zero, List.set_cons_succ]
            refine takeY 4 (some 48) rfl rfl (by kernel_rfl) (by kernel_rfl) (by kernel_rfl) (fun _ _ _ h => h) (by rfl) (v := _) (by (intro _ hSw; (try dsimp only at hSw); go_simp; try with_reducible rfl)) hHeld ?_
            simp only [Act.put, List.setIfInBounds_toArray, List.set_cons_zero, List.set_cons_succ]
            refine takeY 5 (some 49) rfl rfl (by kernel_rfl) (by kernel_rfl) (by kernel_rfl) (fun _ _ _ h => h) (by rfl) (v := _) (by (intro _ hSw; (try dsimp only at hSw); go_simp; try with_reducible rfl)) hHeld ?_
            simp only [Act.put, List.setIfInBounds_toArray, List.set_cons_zero, List.set_cons_succ]
            refine takeY 6 (some 50) rfl rfl (by kernel_rfl) (by kernel_rfl) (by kernel_rfl) (fun _ _ _ h => h) (by rfl) (v := _) (by (intro _ hSw; (try dsimp only at hSw); go_simp; try with_reducible rfl)) hHeld ?_
            simp only [Act.put, List.setIfInBounds_toArray, List.set_cons_zero, List.set_cons_succ]
            refine takeY 7 (some 51) rfl rfl (by kernel_rfl) (by kernel_rfl) (by kernel_rfl) (fun _ _ _ h => h) (by rfl) (v := _) (by (intro _ hSw; (try dsimp only at hSw); go_simp; try with_reducible rfl)) hHeld ?_
            simp only [Act.put, List.setIfInBounds_toArray, List.set_cons_zero, List.set_cons_succ]
            refine takeY 8 (some 52) rfl rfl (by kernel_rfl) (by kernel_rfl) (by kernel_rfl) (fun _ _ _ h => h) (by rfl) (v := _) (by (intro _ hSw; (try dsimp only at hSw); go_simp; try with_reducible rfl)) hHeld ?_
            simp only [Act.put, List.setIfInBounds_toArray, List.set_cons_zero, List.set_cons_succ]
            refine takeY 9 (some 53) rfl rfl (by kernel_rfl) (by kernel_rfl) (by kernel_rfl) (fun _ _ _ h => h) (by rfl) (v := _) (by (intro _ hSw; (try dsimp only at hSw); go_simp; try with_reducible rfl)) hHeld ?_
            simp only [Act.put, List.setIfInBounds_toArray, List.set_cons_zero, List.set_cons_succ]
            refine takeY 10 (some 54) rfl rfl (by kernel_rfl) (by kernel_rfl) (by kernel_rfl) (fun _ _ _ h => h) (by rfl) (v := _) (by (intro _ hSw; (try dsimp only at hSw); go_simp; try with_reducible rfl)) hHeld ?_
            simp only [Act.put, List.setIfInBounds_toArray, List.set_cons_zero, List.set_cons_succ]
            refine takeY 11 (some 55) rfl rfl (by kernel_rfl) (by kernel_rfl) (by kernel_rfl) (fun _ _ _ h => h) (by rfl) (v := _) (by (intro _ hSw; (try dsimp only at hSw); go_simp; try with_reducible rfl)) hHeld ?_
            simp only [Act.put, List.setIfInBounds_toArray, List.set_cons_zero, List.set_cons_succ]
            refine takeY 12 (some 56) rfl rfl (by kernel_rfl) (by kernel_rfl) (by kernel_rfl) (fun _ _ _ h => h) (by rfl) (v := _) (by (intro _ hSw; (try dsimp only at hSw); go_simp; try with_reducible rfl)) hHeld ?_
            simp only [Act.put, List.setIfInBounds_toArray, List.set_cons_zero, List.set_cons_succ]
            refine takeY 13 (some 57) rfl rfl (by kernel_rfl) (by kernel_rfl) (by kernel_rfl) (fun _ _ _ h => h) (by rfl) (v := _) (by (intro _ hSw; (try dsimp only at hSw); go_simp; try with_reducible rfl)) hHeld ?_
            simp only [Act.put, List.setIfInBounds_toArray, List.set_cons_zero, List.set_cons_succ]
            refine takeY 14 (some 58) rfl rfl (by kernel_rfl) (by kernel_rfl) (by kernel_rfl) (fun _ _ _ h => h) (by rfl) (v := _) (by (intro _ hSw; (try dsimp only at hSw); go_simp; try with_reducible rfl)) hHeld ?_
            simp only [Act.put, List.setIfInBounds_toArray, List.set_cons_zero, List.set_cons_succ]
            refine takeY 15 (some 59) rfl rfl (by kernel_rfl) (by kernel_rfl) (by kernel_rfl) (fun _ _ _ h => h) (by rfl) (v := _) (by (intro _ hSw; (try dsimp only at hSw); go_simp; try with_reducible rfl)) hHeld ?_
            simp only [Act.put, List.setIfInBounds_toArray, List.set_cons_zero, List.set_cons_succ]
            refine takeY 16 (some 60) rfl rfl (by kernel_rfl) (by kernel_rfl) (by kernel_rfl) (fun _ _ _ h => h) (by rfl) (v := _) (by (intro _ hSw; (try dsimp only at hSw); go_simp; try with_reducible rfl)) hHeld ?_
            simp only [Act.put, List.setIfInBounds_toArray, List.set_cons_zero, List.set_cons_succ]
            refine takeY 17 (some 61) rfl rfl (by kernel_rfl) (by kernel_rfl) (by kernel_rfl) (fun _ _ _ h => h) (by rfl) (v := _) (by (intro _ hSw; (try dsimp only at hSw); go_simp; try with_reducible rfl)) hHeld ?_
            simp only [Act.put, List.setIfInBounds_toArray, List.set_cons_zero, List.set_cons_succ]
            refine takeY 18 (some 62) rfl rfl (by kernel_rfl) (by kernel_rfl) (by kernel_rfl) (fun _ _ _ h => h) (by rfl) (v := _) (by (intro _ hSw; (try dsimp only at hSw); go_simp; try with_reducible rfl)) hHeld ?_
            simp only [Act.put, List.setIfInBounds_toArray, List.set_cons_zero, List.set_cons_succ]
            refine wpAnyH_ready (rs := [19]) (by kernel_rfl) (by simp) ?_
            refine AllReadyH.cons rfl (fun K hK => ?_) AllReadyH.nil
            clear hHeld
            go_simp
            (go_at_call 65; refine HC.out.mono ?_; rintro e w8 ⟨rfl, hp8, ho8⟩)
            exact ⟨rfl, by rw [HZ.out]; rfl, hp8.le (by have := HQ.out.2.2.2.2.2.2.2.2.2.2; omega), (HJ.out.oo.trans HQ.out.2.1).trans ((Off.drew _ _).trans ho8)⟩
          | some V1 =>
            have HC := Lib.hid (hCC.out.mono (R' := fun e w' => e = .returned (.tuple #[]) ∧ StepPost P (some V1) pm (N + j) w5.drew (.returned (.tuple #[])) w') fun e w' k => ⟨k.e, by have := k.e; rw [this] at k; exact k⟩)
            go_wp2_with fail
            go_region_held3 (fun V => (V.cell? ⟨P.gw, 0, none⟩ = some (.pointer (some ⟨P.gk, 0, none⟩)) ∧ V.cell? ⟨P.gw, 1, none⟩ = some (.int .i64 (P.fn : Int)) ∧ V.cell? ⟨P.gk, 0, none⟩ = some (.slice (some ⟨fb, fo, none⟩) m cl.fc)) ∧ V.cell? ⟨fb, fo + P.fn, none⟩ = some (.slice (some ⟨ib, io, none⟩) P.n fe.c) ∧ (V.cell? ⟨ib, io + p * 5, none⟩ = some (.int .u8 (i.op : Int)) ∧ V.cell? ⟨ib, io + p * 5 + 1, none⟩ = some (.int .i64 i.a) ∧ V.cell? ⟨ib, io + p * 5 + 2, none⟩ = some (.int .i64 i.b) ∧ V.cell? ⟨ib, io + p * 5 + 3, none⟩ = some (.int .i64 i.c) ∧ V.cell? ⟨ib, io + p * 5 + 4, none⟩ = some (.string (str i.tx))))
              (first | exact HK0.out | exact HCF.out _ _ _ _ ((Off.drew _ _).trans hsp.o) hm8)
              (first | (go_at_call 65; refine HC.out.mono ?_; rintro e w8 ⟨rfl, hsp⟩; obtain ⟨v1, v2, hm8⟩ := hsp.m _ rfl))
            obtain ⟨q1, q2, q3, q4, q5, q6, q7, q8, q9, q10, q11⟩ := HQ.out
            have hso := step_ok q4 (by omega) q9 ⟨(q4.ht p (h, t) q10).1, (q4.ht p (h, t) q10).2.1, (q4.ht p (h, t) q10).2.2⟩ (fun x y hxy => by
              have ho := HG.out.2.2.2 i (List.mem_of_getElem? hi)
              by_cases hk : effOp i.op = true
              · exact (eff_fit q3.m.1 q3.m.2 hk ho).2 _ _ _ _ _ hxy
              · exact eff_else hk hxy) q8
            have HJ2 : Hid (AllJ P X gg m rk pm N cl gs g fe R w w8 V1 v1 v2 (j + 1) (f - 1)) := Lib.hid (by
              have h1 := hso.2
              have h2 : nones W.at_ + W.work.dropLast.length + 1 + j = P.n := q5
              have h3 : nones V1.at_ + V1.work.length = nones W.at_ + W.work.dropLast.length := h1
              refine ⟨hm8, ?_, by omega, ?_, q7, ?_, (HJ.out.oo.trans q2).trans ((Off.drew _ _).trans hsp.o)⟩
              · have h4 := hso.1
                have e : (1000001 * ((j : Int) + 1) + 1000001) = 1000001 * (((j + 1 : Nat) : Int) + 1) := by push_cast; omega
                rw [e] at h4
                exact h4
              · have h5 := HJ.out.ff
                have h6 := HJ.out.jj
                omega
              · exact q3.off ((Off.drew _ _).trans hsp.o) hsp.pr)
            have HM : Hid (wkLeft w8 P < wkLeft w4 P) := Lib.hid (by
              rw [hm8.left, HJ.out.wk.left]
              have h1 := hso.2
              have h3 : nones V1.at_ + V1.work.length = nones W.at_ + W.work.dropLast.length := h1
              have h6 := HJ.out.jj
              have h2 : nones W.at_ + W.work.dropLast.length + 1 + j = P.n := q5
              omega)
            clear hso q1 q2 q3 q4 q5 q6 q7 q8 q9 q10 q11 hsp hm8
            go_wp2_with fail
            go_roundw
            case rel => exact ⟨V1, v1, v2, j + 1, f - 1, HJ2⟩
            case measure => exact HM.out
end Go.Proofs.Ytimkiifcmegfeaa
