/- Contracts, part BP. -/
import Derived.Test.YtimkiifcmegfeaaBK
import Derived.Deep.RegionLaw
/- code: a walk in memory. -/
namespace Go.Proofs.Ytimkiifcmegfeaa
open Go.RowKit
set_option linter.unusedVariables false
set_option linter.unusedSimpArgs false
attribute [local go_sem] Oper.semAt_some
/-- States as cells. -/
def stc : Option (Int × Nat) → List Value
  | none => [.bool false, .int .i64 0, .int .i64 0]
  | some s => [.bool true, .int .i64 s.1, .int .i64 (s.2 : Int)]
def sl : List (Option (Int × Nat)) → List Value
  | [] => []
  | x :: g => stc x ++ sl g
theorem stc_len (x : Option (Int × Nat)) : (stc x).length = 3 := by cases x <;> rfl
theorem sl_len : ∀ g : List (Option (Int × Nat)), (sl g).length = g.length * 3
  | [] => rfl
  | x :: g => by rw [sl, List.length_append, stc_len, sl_len g, List.length_cons]; omega
theorem sl_get : ∀ (g : List (Option (Int × Nat))) (n : Nat) (x : Option (Int × Nat)) (j : Nat), g[n]? = some x → j < 3 → (sl g)[n * 3 + j]? = (stc x)[j]?
  | [], n, x, j, h, _ => by simp at h
  | y :: g, 0, x, j, h, hj => by
    simp at h
    subst h
    rw [sl, Nat.zero_mul, Nat.zero_add, List.getElem?_append_left (by rw [stc_len]; exact hj)]
  | y :: g, n + 1, x, j, h, hj => by
    rw [sl, show (n + 1) * 3 + j = (n * 3 + j) + 3 by omega, List.getElem?_append_right (by rw [stc_len]; omega), stc_len, Nat.add_sub_cancel]
    exact sl_get g n x j (by simpa using h) hj
theorem sl_set : ∀ (g : List (Option (Int × Nat))) (n : Nat) (s : Int × Nat), n < g.length → (((sl g).set (n * 3) (.bool true)).set (n * 3 + 1) (.int .i64 s.1)).set (n * 3 + 2) (.int .i64 (s.2 : Int)) = sl (g.set n (some s))
  | [], n, s, h => by simp at h
  | y :: g, 0, s, h => by cases y <;> simp [sl, stc]
  | y :: g, n + 1, s, h => by
    rw [sl, show (n + 1) * 3 = n * 3 + 1 + 1 + 1 by omega, List.set_cons_succ, sl, ← sl_set g n s (by simpa using h)]
    cases y <;> simp [stc]
/-- Rows of tries as cells. -/
def rl : List (Nat × Nat) → List Value
  | [] => []
  | x :: g => .int .i64 (x.1 : Int) :: .int .i64 (x.2 : Int) :: rl g
theorem rl_len : ∀ g : List (Nat × Nat), (rl g).length = g.length * 2
  | [] => rfl
  | x :: g => by rw [rl, List.length_cons, List.length_cons, rl_len g, List.length_cons]; omega
theorem rl_app : ∀ g k : List (Nat × Nat), rl (g ++ k) = rl g ++ rl k
  | [], k => rfl
  | x :: g, k => by rw [List.cons_append, rl, rl, rl_app g k]; rfl
theorem rl_get : ∀ (g : List (Nat × Nat)) (n : Nat) (x : Nat × Nat), g[n]? = some x → (rl g)[n * 2]? = some (.int .i64 (x.1 : Int)) ∧ (rl g)[n * 2 + 1]? = some (.int .i64 (x.2 : Int))
  | [], n, x, h => by simp at h
  | y :: g, 0, x, h => by
    simp at h
    subst h
    exact ⟨rfl, rfl⟩
  | y :: g, n + 1, x, h => by
    have := rl_get g n x (by simpa using h)
    rw [rl, show (n + 1) * 2 = n * 2 + 1 + 1 by omega]
    exact this
theorem rl_one : ∀ (g : List (Nat × Nat)), ∀ u ∈ rl g, u.oneCell' = true
  | [], u, h => by cases h
  | x :: g, u, h => by
    rw [rl] at h
    rcases List.mem_cons.1 h with rfl | h
    · rfl
    · rcases List.mem_cons.1 h with rfl | h
      · rfl
      · exact rl_one g u h
def wl (l : List Nat) : List Value := l.map fun (p : Nat) => Value.int .i64 (p : Int)
def nones : List (Option (Int × Nat)) → Nat
  | [] => 0
  | none :: g => nones g + 1
  | some _ :: g => nones g
theorem nones_le : ∀ g : List (Option (Int × Nat)), nones g ≤ g.length
  | [] => Nat.le_refl _
  | none :: g => by rw [nones, List.length_cons]; have := nones_le g; omega
  | some _ :: g => by rw [nones, List.length_cons]; have := nones_le g; omega
theorem nones_set : ∀ (g : List (Option (Int × Nat))) (n : Nat) (s : Int × Nat), g[n]? = some none → nones (g.set n (some s)) + 1 = nones g
  | [], n, s, h => by simp at h
  | y :: g, 0, s, h => by
    simp at h
    subst h
    rfl
  | none :: g, n + 1, s, h => by
    have := nones_set g n s (by simpa using h)
    rw [List.set_cons_succ, nones, nones]; omega
  | some _ :: g, n + 1, s, h => by
    have := nones_set g n s (by simpa using h)
    rw [List.set_cons_succ, nones, nones]; omega
theorem nones_rep (n : Nat) : nones (List.replicate n none) = n := by
  induction n with
  | zero => rfl
  | succ n ih => rw [List.replicate_succ, nones, ih]
/-- A walk as it should be: n places, at most l rows, heights up to h. -/
structure Wk.Ok (W : Wk) (n l : Nat) (h : Int) : Prop where
  len : W.at_.length = n
  meas : nones W.at_ + W.work.length ≤ n
  rl : 1 ≤ W.rows.length ∧ W.rows.length ≤ l
  ht : ∀ (p : Nat) (s : Int × Nat), W.at_[p]? = some (some s) → 0 ≤ s.1 ∧ s.1 ≤ h ∧ s.2 < W.rows.length
  row : ∀ t ∈ W.rows, t.1 < W.rows.length ∧ t.2 < n
  wk : ∀ p ∈ W.work, ∃ s, W.at_[p]? = some (some s)
theorem Wk.Ok.le {W : Wk} {n l l' : Nat} {h h' : Int} (k : W.Ok n l h) (hl : l ≤ l') (hh : h ≤ h') : W.Ok n l' h' :=
  ⟨k.len, k.meas, ⟨k.rl.1, Nat.le_trans k.rl.2 hl⟩, fun p s hs => ⟨(k.ht p s hs).1, Int.le_trans (k.ht p s hs).2.1 hh, (k.ht p s hs).2.2⟩, k.row, k.wk⟩
theorem Wk.Ok.hts {W : Wk} {n l : Nat} {h : Int} (k : W.Ok n l h) (hh : 0 ≤ h) (p : Nat) : 0 ≤ W.ht p ∧ W.ht p ≤ h := by
  unfold Wk.ht
  split
  · rename_i s hs
    exact ⟨(k.ht p s hs).1, (k.ht p s hs).2.1⟩
  · exact ⟨Int.le_refl _, hh⟩
/-- What the known map says. -/
def knS (W : Wk) (p : Int × Int) : Option Value := if 0 ≤ p.1 ∧ 0 ≤ p.2 then (W.known (p.1.toNat, p.2.toNat)).map (fun n => .int .i64 (n : Int)) else none
/-- A walk in memory: where it lies. -/
structure Pl where
  B : Nat
  gw : Nat
  ga : Nat
  kb : Nat
  gk : Nat
  fn : Nat
  n : Nat
/-- A walk in memory. -/
structure Wkm (w : World) (P : Pl) (vw vr : Value) (W : Wk) : Prop where
  blk : Blk w P.gw 92 #[.pointer (some ⟨P.gk, 0, none⟩), .int .i64 (P.fn : Int), .slice (some ⟨P.ga, 0, none⟩) P.n P.n, vw, vr, .map (some P.kb)]
  at_ : Blk w P.ga 139 (sl W.at_).toArray
  work : w.ownsRow P.B 3 1 vw W.work.length (wl W.work)
  rows : w.ownsRow P.B 87 2 vr W.rows.length (rl W.rows)
  known : HMap tK w P.kb W.rows.length (knS W)
  b : P.gk < P.B ∧ P.B ≤ P.gw ∧ P.B ≤ P.ga ∧ P.B ≤ P.kb
  d : P.gw ≠ P.ga ∧ P.gw ≠ P.kb ∧ P.ga ≠ P.kb
  dw : ∀ k, vw.ownBlock = some k → k ≠ P.gw ∧ k ≠ P.ga ∧ k ≠ P.kb
  dr : ∀ k, vr.ownBlock = some k → k ≠ P.gw ∧ k ≠ P.ga ∧ k ≠ P.kb
  dd : ∀ k, vw.ownBlock = some k → vr.ownBlock ≠ some k
/-- The blocks of a walk that a call may turn. -/
def WF (P : Pl) (vw vr : Value) (k : Nat) : Prop := k = P.gw ∨ k = P.ga ∨ k = P.kb ∨ vw.ownBlock = some k ∨ vr.ownBlock = some k
/-- A row's block is what it was, or new. -/
def Grew (w : World) (v v' : Value) : Prop := ∀ k, v'.ownBlock = some k → v.ownBlock = some k ∨ w.heap.size ≤ k
section
variable {w w' : World} {P : Pl} {vw vr : Value} {W : Wk}
theorem own_same {w w' : World} {base : Nat} {e : TypeId} {size : Nat} {v : Value} {n : Nat} {xs : List Value} (h : w.ownsRow base e size v n xs) (hr : ∀ k, v.ownBlock = some k → w'.heap[k]? = w.heap[k]?) : w'.ownsRow base e size v n xs := by
  refine ⟨h.1, ?_⟩
  rcases h.2 with h0 | ⟨g, cap, cur, rfl, h1, h2, h3⟩
  · exact .inl h0
  · exact .inr ⟨g, cap, cur, rfl, h1, (hr g rfl).trans h2, h3⟩
theorem Wkm.bel (h : Wkm w P vw vr W) (hb : Below w.heap.size w w') : Wkm w' P vw vr W :=
  ⟨h.blk.below hb h.blk.lt, h.at_.below hb h.at_.lt, own_below h.work hb, own_below h.rows hb, h.known.bel hb, h.b, h.d, h.dw, h.dr, h.dd⟩
/-- Blocks below the base turn nothing of it. -/
theorem Wkm.off {F : Nat → Prop} (h : Wkm w P vw vr W) (ho : Off F w w') (hF : ∀ k, F k → k < P.B) : Wkm w' P vw vr W := by
  have g : ∀ k, k < w.heap.size → P.B ≤ k → w'.heap[k]? = w.heap[k]? := fun k h1 h2 => ho.block k h1 fun hf => by have := hF k hf; omega
  refine ⟨h.blk.same (g _ h.blk.lt h.b.2.1), h.at_.same (g _ h.at_.lt h.b.2.2.1), own_same h.work fun k hk => g k (h.work.lt k hk).2 (h.work.lt k hk).1, own_same h.rows fun k hk => g k (h.rows.lt k hk).2 (h.rows.lt k hk).1, h.known.same (g _ h.known.lt h.b.2.2.2), h.b, h.d, h.dw, h.dr, h.dd⟩
theorem Wkm.wf_lt (h : Wkm w P vw vr W) (k : Nat) (hk : WF P vw vr k) : k < w.heap.size ∧ P.B ≤ k := by
  rcases hk with rfl | rfl | rfl | hk | hk
  · exact ⟨h.blk.lt, h.b.2.1⟩
  · exact ⟨h.at_.lt, h.b.2.2.1⟩
  · exact ⟨h.known.lt, h.b.2.2.2⟩
  · exact ⟨(h.work.lt k hk).2, (h.work.lt k hk).1⟩
  · exact ⟨(h.rows.lt k hk).2, (h.rows.lt k hk).1⟩
theorem Wkm.below (h : Wkm w P vw vr W) (ho : Off (WF P vw vr) w w') : Below P.B w w' := ho.below (Nat.le_trans h.b.2.1 (Nat.le_of_lt h.blk.lt)) fun k hk => (h.wf_lt k hk).2
theorem Wkm.told (h : Wkm w P vw vr W) : w.cell? ⟨P.gw, 0, none⟩ = some (.pointer (some ⟨P.gk, 0, none⟩)) ∧ w.cell? ⟨P.gw, 1, none⟩ = some (.int .i64 (P.fn : Int)) ∧ w.cell? ⟨P.gw, 2, none⟩ = some (.slice (some ⟨P.ga, 0, none⟩) P.n P.n) ∧ w.cell? ⟨P.gw, 3, none⟩ = some vw ∧ w.cell? ⟨P.gw, 4, none⟩ = some vr ∧ w.cell? ⟨P.gw, 5, none⟩ = some (.map (some P.kb)) :=
  ⟨h.blk.cell 0, h.blk.cell 1, h.blk.cell 2, h.blk.cell 3, h.blk.cell 4, h.blk.cell 5⟩
theorem Wkm.place (h : Wkm w P vw vr W) {p : Nat} {x : Option (Int × Nat)} (hp : W.at_[p]? = some x) : ∀ j v, (stc x)[j]? = some v → w.cell? ⟨P.ga, p * 3 + j, none⟩ = some v := fun j v hj => by
  have hj3 : j < 3 := by rw [← stc_len x]; exact (List.getElem?_eq_some_iff.1 hj).1
  rw [h.at_.cell]
  have := sl_get W.at_ p x j hp hj3
  rw [hj] at this
  simpa using this
/-- One of the rows. -/
theorem Wkm.tri (h : Wkm w P vw vr W) {r : Nat} {t : Nat × Nat} (hr : W.rows[r]? = some t) : ∃ g c, vr = .slice (some ⟨g, 0, none⟩) W.rows.length c ∧ w.cell? ⟨g, r * 2, none⟩ = some (.int .i64 (t.1 : Int)) ∧ w.cell? ⟨g, r * 2 + 1, none⟩ = some (.int .i64 (t.2 : Int)) := by
  have hlt := (List.getElem?_eq_some_iff.1 hr).1
  obtain ⟨h1, h2⟩ := rl_get W.rows r t hr
  rcases h.rows.2 with ⟨rfl, h0⟩ | ⟨g, cap, cur, rfl, _, hg, _, _, hs, ht⟩
  · omega
  · have hb : Blk w g 87 cur := hg
    refine ⟨g, cap, rfl, ?_, ?_⟩
    · rw [hb.cell, ← Array.getElem?_toList]
      rw [← ht, List.getElem?_take_of_lt (by omega)] at h1
      exact h1
    · rw [hb.cell, ← Array.getElem?_toList]
      rw [← ht, List.getElem?_take_of_lt (by omega)] at h2
      exact h2
end
end Go.Proofs.Ytimkiifcmegfeaa
/- code: floor, take. -/
namespace Go.Proofs.Ytimkiifcmegfeaa
open Go.RowKit
set_option linter.unusedVariables false
set_option linter.unusedSimpArgs false
attribute [local go_sem] Oper.semAt_some
theorem ht_cell (W : Wk) (p : Nat) (x : Option (Int × Nat)) (h : W.at_[p]? = some x) : (stc x)[1]? = some (.int .i64 (W.ht p)) := by
  unfold Wk.ht
  rw [h]
  cases x <;> rfl
theorem ret_int {a b : Int} (h : a = b) : Ending.returned (.int .i64 a) = .returned (.int .i64 b) := by rw [h]
def stV (s : Int × Nat) : Value := .agg #[.bool true, .int .i64 s.1, .int .i64 (s.2 : Int)]
set_option maxRecDepth 20000 in
set_option maxHeartbeats 1000000 in
theorem floor_any (P : Pl) (vw vr : Value) (W : Wk) (l : Nat) (H : Int) (s : Int × Nat) (w : World) (hm : Wkm w P vw vr W) (hok : W.Ok P.n l H) (hl : l ≤ 1000000) (hn : P.n ≤ 1000000) (hs : s.2 < W.rows.length) (hfn : P.fn ≤ 1000000) :
    Calls Try.prog 80 #[.pointer (some ⟨P.gw, 0, none⟩), .agg #[.bool true, .int .i64 s.1, .int .i64 (s.2 : Int)]] w fun e w' => e = .returned (.int .i64 (W.floor (decide (P.fn = 0)) s.2)) ∧ Below w.heap.size w w' := by
  obtain ⟨a, r⟩ := s
  replace hs : r < W.rows.length := hs
  obtain ⟨w1, hw1⟩ : ∃ V, w.alloc (.cells #[.bool true, .int .i64 a, .int .i64 (r : Int)] 139) = V := ⟨_, rfl⟩
  have hb1 : Below w.heap.size w w1 := by rw [← hw1]; exact (Below.refl _ _).alloc (Nat.le_refl _) _
  have B1 : Blk w1 w.heap.size 139 #[.bool true, .int .i64 a, .int .i64 (r : Int)] := by rw [← hw1]; exact Blk.new _ _ _
  obtain ⟨q, hq⟩ : ∃ q, w.heap.size = q := ⟨_, rfl⟩
  rw [hq] at B1
  have hm1 := hm.bel hb1
  obtain ⟨t, ht⟩ : ∃ t, W.rows[r]? = some t := ⟨_, List.getElem?_eq_getElem hs⟩
  obtain ⟨g, c, rfl, r0, r1⟩ := hm1.tri ht
  obtain ⟨t1, t2⟩ := t
  have htp : t2 < P.n := (hok.row _ (List.mem_of_getElem? ht)).2
  have hrow : W.row r = (t1, t2) := by unfold Wk.row; rw [ht]; rfl
  obtain ⟨x, hx⟩ : ∃ x, W.at_[t2]? = some x := ⟨_, List.getElem?_eq_getElem (by rw [hok.len]; exact htp)⟩
  have hc := hm1.place hx 1 _ (ht_cell W t2 x hx)
  obtain ⟨hh, hhe⟩ : ∃ z, W.ht t2 = z := ⟨_, rfl⟩
  rw [hhe] at hc
  obtain ⟨rn, hrn⟩ : ∃ z, W.rows.length = z := ⟨_, rfl⟩
  have c1 := hm1.told.2.1
  have c2 := hm1.told.2.2.1
  have c4 := hm1.told.2.2.2.2.1
  rw [hrn] at c4 hs
  obtain ⟨B, gw, ga, kb, gk, fn, n⟩ := P
  replace r1 : w1.cell? ⟨g, r * 2 + 1, none⟩ = some (.int .i64 (t2 : Int)) := r1
  replace htp : t2 < n := htp
  replace hn : n ≤ 1000000 := hn
  replace hfn : fn ≤ 1000000 := hfn
  replace hc : w1.cell? ⟨ga, t2 * 3 + 1, none⟩ = some (.int .i64 hh) := hc
  replace c1 : w1.cell? ⟨gw, 1, none⟩ = some (.int .i64 (fn : Int)) := c1
  replace c2 : w1.cell? ⟨gw, 2, none⟩ = some (.slice (some ⟨ga, 0, none⟩) n n) := c2
  replace c4 : w1.cell? ⟨gw, 4, none⟩ = some (.slice (some ⟨g, 0, none⟩) rn c) := c4
  have hrl : rn ≤ 1000000 := by rw [← hrn]; exact Nat.le_trans hok.rl.2 hl
  have HF : Hid (∀ f0 : Bool, W.floor f0 r = if 0 < r then max (if f0 then 0 else 1) hh else (if f0 then 0 else 1)) := Lib.hid fun f0 => by
    unfold Wk.floor; rw [hrow, hhe]
  obtain ⟨fl, hfl⟩ : ∃ z, W.floor (decide (fn = 0)) r = z := ⟨_, rfl⟩
  show Calls Try.prog 80 #[.pointer (some ⟨gw, 0, none⟩), .agg #[.bool true, .int .i64 a, .int .i64 (r : Int)]] w fun e w' => e = .returned (.int .i64 (W.floor (decide (fn = 0)) r)) ∧ Below w.heap.size w w'
  rw [hfl]
  have HFL := Lib.hid hfl
  have x1 := B1.cell 1
  have x2 := B1.cell 2
  have HB := Lib.hid (And.intro hb1 (And.intro hw1 hq))
  have HD : Hid (∀ k, Below w.heap.size w (w1.drewN k)) := Lib.hid fun k => hb1.trans ((drewN_below w1 k).mono hb1.size)
  clear hm hok hm1 ht hrow hx hhe hrn hfl hb1 hw1 hq B1 r0
  by_cases hf0 : fn = 0
  · have e0 : ((fn : Int) == 0) = true := by rw [hf0]; rfl
    have HZ : Hid (fl = if 0 < r then max 0 hh else 0) := Lib.hid (by rw [← HFL.out, HF.out, decide_eq_true hf0]; rfl)
    clear hf0
    by_cases hr0 : 0 < r
    · have e1 : decide ((r : Int) > 0) = true := by rw [decide_eq_true_eq]; omega
      have HZ2 : Hid (fl = max 0 hh) := Lib.hid (by rw [HZ.out, if_pos hr0])
      go_enter Try.func80, Try.ntmps80
      go_upto_region 1 with fail
      (try rw [HB.out.2.1])
      (try rw [HB.out.2.2])
      go_wp2_with fail
      go_quiet (fail)
      go_wp2_with fail
      all_goals
        go_ret
        exact ⟨ret_int (by have := HZ2.out; omega), HD.out _⟩
    · have e1 : decide ((r : Int) > 0) = false := by rw [decide_eq_false_iff_not]; omega
      have HZ2 : Hid (fl = 0) := Lib.hid (by rw [HZ.out, if_neg hr0])
      go_enter Try.func80, Try.ntmps80
      go_upto_region 1 with fail
      (try rw [HB.out.2.1])
      (try rw [HB.out.2.2])
      go_wp2_with fail
      go_ret
      exact ⟨by rw [HZ2.out] <;> rfl, HB.out.1⟩
  · have e0 : ((fn : Int) == 0) = false := by rw [beq_eq_false_iff_ne]; omega
    have HZ : Hid (fl = if 0 < r then max 1 hh else 1) := Lib.hid (by rw [← HFL.out, HF.out, decide_eq_false hf0]; rfl)
    clear hf0
    by_cases hr0 : 0 < r
    · have e1 : decide ((r : Int) > 0) = true := by rw [decide_eq_true_eq]; omega
      have HZ2 : Hid (fl = max 1 hh) := Lib.hid (by rw [HZ.out, if_pos hr0])
      go_enter Try.func80, Try.ntmps80
      go_upto_region 1 with fail
      (try rw [HB.out.2.1])
      (try rw [HB.out.2.2])
      go_wp2_with fail
      go_quiet (fail)
      go_wp2_with fail
      all_goals
        go_ret
        exact ⟨ret_int (by have := HZ2.out; omega), HD.out _⟩
    · have e1 : decide ((r : Int) > 0) = false := by rw [decide_eq_false_iff_not]; omega
      have HZ2 : Hid (fl = 1) := Lib.hid (by rw [HZ.out, if_neg hr0])
      go_enter Try.func80, Try.ntmps80
      go_upto_region 1 with fail
      (try rw [HB.out.2.1])
      (try rw [HB.out.2.2])
      go_wp2_with fail
      go_ret
      exact ⟨by rw [HZ2.out] <;> rfl, HB.out.1⟩
/-- How take ends. -/
def takeE (b : Bool) (v : Int) : Ending := if b = true then .returned (.int .i64 v) else .panicked [wr]
set_option maxRecDepth 20000 in
set_option maxHeartbeats 2000000 in
theorem take_any (P : Pl) (vw vr : Value) (W : Wk) (l : Nat) (H : Int) (s : Int × Nat) (k : Int) (w : World) (hm : Wkm w P vw vr W) (hok : W.Ok P.n l H) (hl : l ≤ 1000000) (hn : P.n ≤ 1000000) (hs : s.2 < W.rows.length) (hfn : P.fn ≤ 1000000) (hs1 : 0 ≤ s.1 ∧ s.1 ≤ 1000000000000) (hk : 0 ≤ k ∧ k ≤ 1000000) :
    Calls Try.prog 73 #[.pointer (some ⟨P.gw, 0, none⟩), .agg #[.bool true, .int .i64 s.1, .int .i64 (s.2 : Int)], .int .i64 k] w fun e w' => e = takeE (decide (W.floor (decide (P.fn = 0)) s.2 ≤ s.1 - k)) (s.1 - k) ∧ Below w.heap.size w w' := by
  obtain ⟨a, r⟩ := s
  replace hs : r < W.rows.length := hs
  replace hs1 : 0 ≤ a ∧ a ≤ 1000000000000 := hs1
  obtain ⟨w1, hw1⟩ : ∃ V, w.alloc (.cells #[.bool true, .int .i64 a, .int .i64 (r : Int)] 139) = V := ⟨_, rfl⟩
  have hb1 : Below w.heap.size w w1 := by rw [← hw1]; exact (Below.refl _ _).alloc (Nat.le_refl _) _
  have B1 : Blk w1 w.heap.size 139 #[.bool true, .int .i64 a, .int .i64 (r : Int)] := by rw [← hw1]; exact Blk.new _ _ _
  obtain ⟨q, hq⟩ : ∃ q, w.heap.size = q := ⟨_, rfl⟩
  rw [hq] at B1
  have hm1 := hm.bel hb1
  obtain ⟨fl, hfl⟩ : ∃ z, W.floor (decide (P.fn = 0)) r = z := ⟨_, rfl⟩
  have HFLO := Lib.hid (fun V (hV : Below w1.heap.size w1 V) => floor_any P vw vr W l H (a, r) V (hm1.bel hV) hok hl hn hs hfn)
  have c0 := hm1.told.1
  rw [hfl] at HFLO
  replace HFLO : Hid (∀ V, Below w1.heap.size w1 V → Calls Try.prog 80 #[.pointer (some ⟨P.gw, 0, none⟩), .agg #[.bool true, .int .i64 a, .int .i64 (r : Int)]] V fun e w' => e = .returned (.int .i64 fl) ∧ Below V.heap.size V w') := HFLO
  obtain ⟨B, gw, ga, kb, gk, fn, n⟩ := P
  replace HFLO : Hid (∀ V, Below w1.heap.size w1 V → Calls Try.prog 80 #[.pointer (some ⟨gw, 0, none⟩), .agg #[.bool true, .int .i64 a, .int .i64 (r : Int)]] V fun e w' => e = .returned (.int .i64 fl) ∧ Below V.heap.size V w') := HFLO
  replace c0 : w1.cell? ⟨gw, 0, none⟩ = some (.pointer (some ⟨gk, 0, none⟩)) := c0
  show Calls Try.prog 73 #[.pointer (some ⟨gw, 0, none⟩), .agg #[.bool true, .int .i64 a, .int .i64 (r : Int)], .int .i64 k] w fun e w' => e = takeE (decide (W.floor (decide (fn = 0)) r ≤ a - k)) (a - k) ∧ Below w.heap.size w w'
  replace hfl : W.floor (decide (fn = 0)) r = fl := hfl
  rw [hfl]
  have HX : Hid (∀ V, Below w1.heap.size w1 V → V.cell? ⟨gw, 0, none⟩ = some (.pointer (some ⟨gk, 0, none⟩)) ∧ V.cell? ⟨q, 0, none⟩ = some (.bool true) ∧ V.cell? ⟨q, 1, none⟩ = some (.int .i64 a) ∧ V.cell? ⟨q, 2, none⟩ = some (.int .i64 (r : Int))) := Lib.hid fun V hV => by
    have h := B1.below hV B1.lt
    exact ⟨(hV.cell (World.block_lt_of_cell? w1 _ c0)).trans c0, h.cell 0, h.cell 1, h.cell 2⟩
  obtain ⟨x0, x1, x2, x3⟩ := HX.out w1 (Below.refl _ _)
  have HB := Lib.hid (And.intro hb1 (And.intro hw1 hq))
  have HD : Hid (∀ V, Below w1.heap.size w1 V → Below w.heap.size w V) := Lib.hid fun V hV => hb1.trans (hV.mono hb1.size)
  have HAN := Lib.hid (fun V => ask_no (.pointer (some ⟨gk, 0, none⟩)) V)
  have HAY := Lib.hid (fun V => ask_yes (.pointer (some ⟨gk, 0, none⟩)) V)
  obtain ⟨hs2, hs3⟩ := hs1
  obtain ⟨hk2, hk3⟩ := hk
  have hsub : IntKind.i64.wrap (a - k) = a - k := IntWalk.i64_in _ ⟨by omega, by omega⟩
  clear hm hok hm1 hfl hb1 hw1 hq B1 hs c0
  cases hT : decide (fl ≤ a - k) with
  | true =>
    have e1 : decide (a - k ≥ fl) = true := hT
    have e2 : decide (IntKind.i64.wrap (a - k) ≥ fl) = true := by rw [hsub]; exact hT
    go_enter Try.func73, Try.ntmps73
    go_upto_region 1 with fail
    (try rw [HB.out.2.1])
    (try rw [HB.out.2.2])
    go_region_held3 (fun V => V.cell? ⟨gw, 0, none⟩ = some (.pointer (some ⟨gk, 0, none⟩)) ∧ V.cell? ⟨q, 0, none⟩ = some (.bool true) ∧ V.cell? ⟨q, 1, none⟩ = some (.int .i64 a) ∧ V.cell? ⟨q, 2, none⟩ = some (.int .i64 (r : Int)))
      (first | exact HX.out _ ((Below.refl _ _).drew) | exact HX.out _ (((Below.refl _ _).drew).trans h9))
      (first
        | (go_at_call 80; refine (HFLO.out _ ((Below.refl _ _).drew)).mono ?_; rintro e w9 ⟨rfl, h9⟩)
        | (go_at_call 39; refine (HAY.out _).mono ?_; rintro e w8 ⟨rfl, rfl⟩))
    all_goals
      have HE := Lib.hid (HD.out _ (((Below.refl _ _).drew).trans h9))
      obtain ⟨y0, y1, y2, y3⟩ := HX.out _ (((Below.refl _ _).drew).trans h9)
      clear h9
      go_wp2_with fail
      go_ret
      exact ⟨by first | rfl | (rw [hsub]; rfl), HE.out⟩
  | false =>
    have e1 : decide (a - k ≥ fl) = false := hT
    have e2 : decide (IntKind.i64.wrap (a - k) ≥ fl) = false := by rw [hsub]; exact hT
    go_enter Try.func73, Try.ntmps73
    go_upto_region 1 with fail
    (try rw [HB.out.2.1])
    (try rw [HB.out.2.2])
    refine wp_region_held_drew (S := (fun V => V.cell? ⟨gw, 0, none⟩ = some (.pointer (some ⟨gk, 0, none⟩)) ∧ V.cell? ⟨q, 0, none⟩ = some (.bool true) ∧ V.cell? ⟨q, 1, none⟩ = some (.int .i64 a) ∧ V.cell? ⟨q, 2, none⟩ = some (.int .i64 (r : Int)))) (by kernel_rfl) (HX.out _ ((Below.refl _ _).drew)) (fun hHeld => ?_)
    refine takeY 0 (some 7) rfl rfl (by kernel_rfl) (by kernel_rfl) (by kernel_rfl) (fun _ _ _ h => h) (by rfl) (v := _) (by (intro _ hSw; (try dsimp only at hSw); go_simp; try with_reducible rfl)) hHeld ?_
    simp only [Act.put, List.setIfInBounds_toArray, List.set_cons_zero, List.set_cons_succ]
    refine takeY 1 (some 8) rfl rfl (by kernel_rfl) (by kernel_rfl) (by kernel_rfl) (fun _ _ _ h => h) (by rfl) (v := _) (by (intro _ hSw; (try dsimp only at hSw); go_simp; try with_reducible rfl)) hHeld ?_
    simp only [Act.put, List.setIfInBounds_toArray, List.set_cons_zero, List.set_cons_succ]
    refine takeY 2 (some 9) rfl rfl (by kernel_rfl) (by kernel_rfl) (by kernel_rfl) (fun _ _ _ h => h) (by rfl) (v := _) (by (intro _ hSw; (try dsimp only at hSw); go_simp; try with_reducible rfl)) hHeld ?_
    simp only [Act.put, List.setIfInBounds_toArray, List.set_cons_zero, List.set_cons_succ]
    refine takeY 3 (some 10) rfl rfl (by kernel_rfl) (by kernel_rfl) (by kernel_rfl) (fun _ _ _ h => h) (by rfl) (v := _) (by (intro _ hSw; (try dsimp only at hSw); go_simp; try with_reducible rfl)) hHeld ?_
    simp only [Act.put, List.setIfInBounds_toArray, List.set_cons_zero, List.set_cons_succ]
    refine takeY 4 (some 11) rfl rfl (by kernel_rfl) (by kernel_rfl) (by kernel_rfl) (fun _ _ _ h => h) (by rfl) (v := _) (by (intro _ hSw; (try dsimp only at hSw); go_simp; try with_reducible rfl)) hHeld ?_
    simp only [Act.put, List.setIfInBounds_toArray, List.set_cons_zero, List.set_cons_succ]
    refine takeY 5 (some 12) rfl rfl (by kernel_rfl) (by kernel_rfl) (by kernel_rfl) (fun _ _ _ h => h) (by rfl) (v := _) (by (intro _ hSw; (try dsimp only at hSw); go_simp; try with_reducible rfl)) hHeld ?_
    simp only [Act.put, List.setIfInBounds_toArray, List.set_cons_zero, List.set_cons_succ]
    refine takeY 6 (some 13) rfl rfl (by kernel_rfl) (by kernel_rfl) (by kernel_rfl) (fun _ _ _ h => h) (by rfl) (v := _) (by (intro _ hSw; (try dsimp only at hSw); go_simp; try with_reducible rfl)) hHeld ?_
    simp only [Act.put, List.setIfInBounds_toArray, List.set_cons_zero, List.set_cons_succ]
    refine takeY 7 (some 14) rfl rfl (by kernel_rfl) (by kernel_rfl) (by kernel_rfl) (fun _ _ _ h => h) (by rfl) (v := _) (by (intro _ hSw; (try dsimp only at hSw); go_simp; try with_reducible rfl)) hHeld ?_
    simp only [Act.put, List.setIfInBounds_toArray, List.set_cons_zero, List.set_cons_succ]
    refine takeY 8 (some 15) rfl rfl (by kernel_rfl) (by kernel_rfl) (by kernel_rfl) (fun _ _ _ h => h) (by rfl) (v := _) (by (intro _ hSw; (try dsimp only at hSw); go_simp; try with_reducible rfl)) hHeld ?_
    simp only [Act.put, List.setIfInBounds_toArray, List.set_cons_zero, List.set_cons_succ]
    refine takeY 9 (some 16) rfl rfl (by kernel_rfl) (by kernel_rfl) (by kernel_rfl) (fun _ _ _ h => h) (by rfl) (v := _) (by (intro _ hSw; (try dsimp only at hSw); go_simp; try with_reducible rfl)) hHeld ?_
    simp only [Act.put, List.setIfInBounds_toArray, List.set_cons_zero, List.set_cons_succ]
    refine wpAnyH_ready (rs := [10]) (by kernel_rfl) (by simp) ?_
    refine AllReadyH.cons rfl (fun K hK => ?_) AllReadyH.nil
    clear hHeld
    go_simp
    go_wp2_with ((go_at_call 80; refine (HFLO.out _ ((Below.refl _ _).drew)).mono ?_; rintro e w9 ⟨rfl, h9⟩))
    refine hK.out _ _ (HX.out _ (((Below.refl _ _).drew).trans h9)) (fun hHeld => ?_)
    clear hK K
    refine takeY 11 (some 18) rfl rfl (by kernel_rfl) (by kernel_rfl) (by kernel_rfl) (fun _ _ _ h => h) (by rfl) (v := _) (by (intro _ hSw; (try dsimp only at hSw); go_simp; try with_reducible rfl)) hHeld ?_
    simp only [Act.put, List.setIfInBounds_toArray, List.set_cons_zero, List.set_cons_succ]
    refine wpAnyH_ready (rs := [12]) (by kernel_rfl) (by simp) ?_
    refine AllReadyH.cons rfl (fun K hK => ?_) AllReadyH.nil
    clear hHeld
    go_simp
    (go_at_call 39; refine (HAN.out _).mono ?_; rintro e w8 ⟨rfl, rfl⟩)
    exact ⟨rfl, rfl, HD.out _ (((Below.refl _ _).drew).trans h9)⟩
end Go.Proofs.Ytimkiifcmegfeaa
/- code: row. -/
namespace Go.Proofs.Ytimkiifcmegfeaa
open Go.RowKit
set_option linter.unusedVariables false
set_option linter.unusedSimpArgs false
attribute [local go_sem] Oper.semAt_some
theorem step_app {P : Program} {ops : Array Oper} {o : Oper} {a : Act} {w : World} {K : Act → World → Prop} {Q : Exit → Act → World → Prop} {E : Prop} (hg : o.guard = none) (s x : Operand) (t : TypeId)
    (hop : o.op = Op.call { callee := Callee.builtin Builtin.append, args := #[s, x], argTypes := #[t, t] }) (v xv v' : Value) (w' : World) (hs : a.eval s = v) (hx : a.eval x = xv)
    (hrun : (Builtin.append_ #[t, t] o.type #[v, xv]).run P w = .ok v' w') (hK : K (a.put o.dst v') w') : if Region.wanted o (yielded ops a.tmps) = true then Oper.wp P o a w K Q else E := by
  rw [if_pos (show Region.wanted o (yielded ops a.tmps) = true by simp [Region.wanted, hg])]
  unfold Oper.wp execOp
  simp only [hop, resolve, invoke, builtin, Sem.run_bind, Sem.run_pure, Result.andThen_ok, List.map_toArray, List.map_cons, List.map_nil, hs, hx, hrun]
  exact hK
theorem find_app (t x : Nat × Nat) : ∀ (l : List (Nat × Nat)) (i : Nat), Wk.find t (l ++ [x]) i = match Wk.find t l i with
    | some n => some n
    | none => if x = t then some (i + l.length) else none
  | [], i => by simp [Wk.find]
  | y :: l, i => by
    rw [List.cons_append, Wk.find, Wk.find]
    by_cases e : y = t
    · rw [if_pos e, if_pos e]
    · rw [if_neg e, if_neg e, find_app t x l (i + 1), List.length_cons, show i + 1 + l.length = i + (l.length + 1) by omega]
theorem find_lt (t : Nat × Nat) : ∀ (l : List (Nat × Nat)) (i n : Nat), Wk.find t l i = some n → i ≤ n ∧ n < i + l.length ∧ l[n - i]? = some t
  | [], i, n, h => by simp [Wk.find] at h
  | y :: l, i, n, h => by
    rw [Wk.find] at h
    by_cases e : y = t
    · rw [if_pos e] at h
      injection h with h
      subst h
      refine ⟨Nat.le_refl _, by simp, by rw [Nat.sub_self]; simp [e]⟩
    · rw [if_neg e] at h
      obtain ⟨h1, h2, h3⟩ := find_lt t l (i + 1) n h
      refine ⟨by omega, by rw [List.length_cons]; omega, ?_⟩
      rw [show n - i = (n - (i + 1)) + 1 by omega]
      simpa using h3
theorem known_lt {W : Wk} {t : Nat × Nat} {n : Nat} (h : W.known t = some n) : n < W.rows.length ∧ 0 < n ∧ W.rows[n]? = some t := by
  obtain ⟨h1, h2, h3⟩ := find_lt t _ _ _ h
  rw [List.length_drop] at h2
  rw [List.getElem?_drop, show 1 + (n - 1) = n by omega] at h3
  exact ⟨by omega, by omega, h3⟩
theorem known_app (W : Wk) (t x : Nat × Nat) (h : 1 ≤ W.rows.length) : ({ W with rows := W.rows ++ [x] } : Wk).known t = match W.known t with
    | some n => some n
    | none => if x = t then some W.rows.length else none := by
  unfold Wk.known
  show Wk.find t ((W.rows ++ [x]).drop 1) 1 = _
  rw [List.drop_append_of_le_length h, find_app, List.length_drop, show 1 + (W.rows.length - 1) = W.rows.length by omega]
theorem knS_put (W : Wk) (a p : Nat) (h : 1 ≤ W.rows.length) (hn : W.known (a, p) = none) (x : Int × Int) : (x = ((a : Int), (p : Int)) → knS { W with rows := W.rows ++ [(a, p)] } x = some (.int .i64 (W.rows.length : Int))) ∧ (x ≠ ((a : Int), (p : Int)) → knS { W with rows := W.rows ++ [(a, p)] } x = knS W x) := by
  refine ⟨fun e => ?_, fun e => ?_⟩
  · subst e
    unfold knS
    rw [if_pos ⟨Int.natCast_nonneg a, Int.natCast_nonneg p⟩]
    simp only [Int.toNat_natCast]
    rw [known_app W _ _ h, hn]
    simp
  · unfold knS
    by_cases hx : 0 ≤ x.1 ∧ 0 ≤ x.2
    · rw [if_pos hx, if_pos hx, known_app W _ _ h]
      have : ¬ ((a, p) = (x.1.toNat, x.2.toNat)) := fun e2 => e (by
        injection e2 with e3 e4
        exact Prod.ext (by show x.1 = (a : Int); omega) (by show x.2 = (p : Int); omega))
      rw [if_neg this]
      cases W.known (x.1.toNat, x.2.toNat) <;> rfl
    · rw [if_neg hx, if_neg hx]
theorem Wk.Ok.opened {W : Wk} {n l : Nat} {h : Int} (k : W.Ok n l h) (a p : Nat) (ha : a < W.rows.length) (hp : p < n) : (W.open_ a p).2.Ok n (l + 1) h ∧ (W.open_ a p).1 < (W.open_ a p).2.rows.length ∧ (W.open_ a p).2.at_ = W.at_ ∧ (W.open_ a p).2.work = W.work ∧ W.rows.length ≤ (W.open_ a p).2.rows.length := by
  unfold Wk.open_
  split
  · rename_i m hm
    exact ⟨k.le (by omega) (Int.le_refl _), (known_lt hm).1, rfl, rfl, Nat.le_refl _⟩
  · refine ⟨⟨k.len, k.meas, ⟨by show 1 ≤ (W.rows ++ [(a, p)]).length; simp, by show (W.rows ++ [(a, p)]).length ≤ l + 1; rw [List.length_append]; have := k.rl.2; simp; exact this⟩, fun q s hs => ?_, fun t ht => ?_, k.wk⟩, by simp, rfl, rfl, by simp⟩
    · obtain ⟨h1, h2, h3⟩ := k.ht q s hs
      exact ⟨h1, h2, by show s.2 < (W.rows ++ [(a, p)]).length; rw [List.length_append]; omega⟩
    · have ht : t ∈ W.rows ++ [(a, p)] := ht
      show t.1 < (W.rows ++ [(a, p)]).length ∧ t.2 < n
      rw [List.length_append]
      rcases List.mem_append.1 ht with ht | ht
      · have := k.row t ht
        exact ⟨by omega, this.2⟩
      · have : t = (a, p) := by simpa using ht
        subst this
        exact ⟨by simp; omega, hp⟩
theorem infoTry : (Try.prog.info? 87).map (fun i => (i.zero, i.size, i.bytes)) = some (some (.agg #[.int .i64 0, .int .i64 0]), 2, 16) := by kernel_rfl
/-- One row more. -/
theorem push_try {w : World} {B : Nat} {vr : Value} {rows : List (Nat × Nat)} (h : w.ownsRow B 87 2 vr rows.length (rl rows)) (hB : B ≤ w.heap.size) (a p g : Nat) (h0 : w.cell? ⟨g, 0, none⟩ = some (.int .i64 (a : Int))) (h1 : w.cell? ⟨g, 1, none⟩ = some (.int .i64 (p : Int))) (hl : rows.length < 1000000) :
    ∃ v' w', (Builtin.append_ #[88, 88] 88 #[vr, .slice (some ⟨g, 0, none⟩) 1 1]).run Try.prog w = .ok v' w' ∧ w'.ownsRow B 87 2 v' (rows ++ [(a, p)]).length (rl (rows ++ [(a, p)])) ∧ w.grownBy w' vr.ownBlock ∧ (v'.ownBlock = vr.ownBlock ∨ v'.ownBlock = some w.heap.size) := by
  obtain ⟨i0, hi, hz0, hz1, hz2⟩ := info_parts infoTry
  have hcell : ∀ (j : Nat) (u : Value), [Value.int .i64 (a : Int), Value.int .i64 (p : Int)][j]? = some u → w.cell? ((⟨g, 0, none⟩ : Addr).add j) = some u := fun j u hj => by
    have e2 : (⟨g, 0, none⟩ : Addr).add j = ⟨g, 0 + j, none⟩ := by unfold Addr.add; split <;> simp_all
    rw [e2, Nat.zero_add]
    rcases j with _ | j
    · cases hj; exact h0
    · rcases j with _ | j
      · cases hj; exact h1
      · simp at hj
  obtain ⟨v', w', hrun, h2, h3, _, h5⟩ := run_append_own_at (P := Try.prog) w B 88 88 87 i0 (.agg #[.int .i64 0, .int .i64 0]) 2 16 Try.underlying88 hi hz0 hz1 hz2 rfl (by decide) vr rows.length _ h ⟨g, 0, none⟩ 1 1 [.int .i64 (a : Int), .int .i64 (p : Int)] (by simp) hcell
    (fun u hu => by rcases List.mem_cons.1 hu with rfl | hu; rfl; rw [List.mem_singleton.1 hu]; rfl) (by unfold maxLen; omega) (by omega) hB
  exact ⟨v', w', hrun, by rw [List.length_append, List.length_singleton, rl_app]; exact h2, h3, h5⟩
section
variable {wa w3 : World} {P : Pl} {vw vr v' : Value} {W : Wk}
theorem grown_same {w w' : World} {row : Option Nat} (h : w.grownBy w' row) {k : Nat} (hk : k < w.heap.size) (hne : row ≠ some k) : w'.heap[k]? = w.heap[k]? := h.block k hk fun e => hne e.symm
theorem set_same (w : World) (g i k : Nat) (u : Value) (h : k ≠ g) : (w.setCell ⟨g, i, none⟩ u).heap[k]? = w.heap[k]? := Below.heap_setCell w ⟨g, i, none⟩ u k h
/-- The map stands while a row is pushed and stored. -/
theorem Wkm.knows (h : Wkm wa P vw vr W) (hgr : wa.grownBy w3 vr.ownBlock) : HMap tK (w3.setCell ⟨P.gw, 4, none⟩ v') P.kb W.rows.length (knS W) :=
  h.known.same ((set_same w3 P.gw 4 P.kb v' (fun e => h.d.2.1 e.symm)).trans (grown_same hgr h.known.lt fun e => (h.dr _ e).2.2 rfl))
theorem Wkm.push (h : Wkm wa P vw vr W) (hgr : wa.grownBy w3 vr.ownBlock) (t : Nat × Nat) (hown : w3.ownsRow P.B 87 2 v' (W.rows ++ [t]).length (rl (W.rows ++ [t]))) (hob : v'.ownBlock = vr.ownBlock ∨ v'.ownBlock = some wa.heap.size)
    {w5 : World} (hput : HMap tK w5 P.kb (W.rows.length + 1) (knS { W with rows := W.rows ++ [t] })) (ho : Off (fun k => k = P.kb) (w3.setCell ⟨P.gw, 4, none⟩ v') w5) :
    Wkm w5 P vw v' { W with rows := W.rows ++ [t] } := by
  have hlt : P.gw < wa.heap.size := h.blk.lt
  have hla : P.ga < wa.heap.size := h.at_.lt
  have hlk : P.kb < wa.heap.size := h.known.lt
  have hd' : ∀ k, v'.ownBlock = some k → k ≠ P.gw ∧ k ≠ P.ga ∧ k ≠ P.kb := fun k hk => by
    rcases hob with e | e
    · exact h.dr k (e ▸ hk)
    · rw [e] at hk
      cases hk
      exact ⟨by omega, by omega, by omega⟩
  have hsz : (w3.setCell ⟨P.gw, 4, none⟩ v').heap.size = w3.heap.size := by simp [World.setCell]
  have s5 : ∀ k, k < w3.heap.size → k ≠ P.kb → k ≠ P.gw → w5.heap[k]? = w3.heap[k]? := fun k h1 h2 h3 => (ho.block k (by rw [hsz]; exact h1) h2).trans (set_same w3 P.gw 4 k v' h3)
  have s3 : ∀ k, k < wa.heap.size → vr.ownBlock ≠ some k → w3.heap[k]? = wa.heap[k]? := fun k h1 h2 => grown_same hgr h1 h2
  have b3 : Blk w3 P.gw 92 #[.pointer (some ⟨P.gk, 0, none⟩), .int .i64 (P.fn : Int), .slice (some ⟨P.ga, 0, none⟩) P.n P.n, vw, vr, .map (some P.kb)] := h.blk.same (s3 _ hlt fun e => (h.dr _ e).1 rfl)
  have b4 := b3.set_ 4 v'
  refine ⟨(b4.same (ho.block _ b4.lt (fun e => h.d.2.1 e))), ?_, ?_, own_same hown fun k hk => s5 k (hown.lt k hk).2 (hd' k hk).2.2 (hd' k hk).1, ?_, h.b, h.d, h.dw, hd', fun k hk => ?_⟩
  · exact (h.at_.same (s3 _ hla fun e => (h.dr _ e).2.1 rfl)).same (s5 _ (Nat.lt_of_lt_of_le hla hgr.size) h.d.2.2 (fun e => h.d.1 e.symm))
  · exact own_same (own_same h.work fun k hk => s3 k (h.work.lt k hk).2 (h.dd k hk)) fun k hk => s5 k (Nat.lt_of_lt_of_le (h.work.lt k hk).2 hgr.size) (h.dw k hk).2.2 (h.dw k hk).1
  · show HMap tK w5 P.kb (W.rows ++ [t]).length _
    rw [List.length_append]
    exact hput
  · rcases hob with e | e
    · rw [e]; exact h.dd k hk
    · rw [e]
      intro e2
      cases e2
      have := (h.work.lt _ hk).2
      omega
end
end Go.Proofs.Ytimkiifcmegfeaa
/- code: row, walked. -/
namespace Go.Proofs.Ytimkiifcmegfeaa
open Go.RowKit
set_option linter.unusedVariables false
set_option linter.unusedSimpArgs false
attribute [local go_sem] Oper.semAt_some
theorem look_try {w : World} {b n : Nat} {W : Wk} (h : HMap tK w b n (knS W)) (a p : Nat) (ha : a ≤ 1000000) (hp : p ≤ 1000000) : (Instr.lookup 89 (.map (some b)) (.agg #[.int .i64 (a : Int), .int .i64 (p : Int)]) true).run Try.prog w = .ok (.tuple #[.int .i64 (((W.known (a, p)).getD 0 : Nat) : Int), .bool (W.known (a, p)).isSome]) w := by
  have hz : (zeroValue 3).run Try.prog w = .ok (.int .i64 0) w := by kernel_rfl
  have h1 := h.look (t := 89) (e := 3) Try.underlying89 hz true ((a : Int), (p : Int)) ⟨WalkArith.wf_i64 (by show _; omega), WalkArith.wf_i64 (by show _; omega)⟩
  refine h1.trans ?_
  rw [if_pos rfl]
  have e : knS W ((a : Int), (p : Int)) = (W.known (a, p)).map (fun n => Value.int .i64 (n : Int)) := by
    unfold knS
    rw [if_pos ⟨Int.natCast_nonneg a, Int.natCast_nonneg p⟩]
    simp only [Int.toNat_natCast]
  rw [e]
  cases W.known (a, p) <;> rfl
set_option maxRecDepth 20000 in
set_option maxHeartbeats 2000000 in
theorem row_any (P : Pl) (vw vr : Value) (W : Wk) (l : Nat) (H : Int) (a p : Nat) (w : World) (hm : Wkm w P vw vr W) (hok : W.Ok P.n l H) (hl : l < 1000000) (hn : P.n ≤ 1000000) (ha : a < W.rows.length) (hp : p < P.n) :
    Calls Try.prog 74 #[.pointer (some ⟨P.gw, 0, none⟩), .int .i64 (a : Int), .int .i64 (p : Int)] w fun e w' => e = .returned (.int .i64 ((W.open_ a p).1 : Int)) ∧ (∃ vr', Wkm w' P vw vr' (W.open_ a p).2 ∧ Grew w vr vr') ∧ Off (WF P vw vr) w w' := by
  have hrl := hok.rl
  have hal : a ≤ 1000000 := by omega
  have hpl : p ≤ 1000000 := by omega
  obtain ⟨w1, hw1⟩ : ∃ V, w.alloc (.cells #[.int .i64 (a : Int), .int .i64 (p : Int)] 87) = V := ⟨_, rfl⟩
  have hb1 : Below w.heap.size w w1 := by rw [← hw1]; exact (Below.refl _ _).alloc (Nat.le_refl _) _
  have B1 : Blk w1 w.heap.size 87 #[.int .i64 (a : Int), .int .i64 (p : Int)] := by rw [← hw1]; exact Blk.new _ _ _
  obtain ⟨q, hq⟩ : ∃ q, w.heap.size = q := ⟨_, rfl⟩
  have hBs : P.B ≤ w.heap.size := Nat.le_trans hm.b.2.1 (Nat.le_of_lt hm.blk.lt)
  rw [hq] at B1
  have hm1 := hm.bel hb1
  have hlk := look_try hm1.known a p hal hpl
  have hlkd : (Instr.lookup 89 (.map (some P.kb)) (.agg #[.int .i64 (a : Int), .int .i64 (p : Int)]) true).run Try.prog w1.drew = _ := look_try (w := w1.drew) (hm1.bel ((Below.refl _ _).drew)).known a p hal hpl
  have c5 := hm1.told.2.2.2.2.2
  have x0 := B1.cell 0
  have x1 := B1.cell 1
  have HB := Lib.hid (And.intro hw1 (And.intro hq (And.intro hb1 (And.intro hm1 (And.intro hok (And.intro ha (And.intro hp (And.intro hl (And.intro hBs B1)))))))))
  have HVR : Hid (∀ k, vr.ownBlock = some k → k < q) := Lib.hid fun k hk => by rw [← hq]; exact (hm.rows.lt k hk).2
  clear hm hok hb1 hm1 hw1 hq hrl hBs B1
  cases hkn : W.known (a, p) with
  | some m =>
    have HR : Hid ((W.open_ a p).1 = m ∧ (W.open_ a p).2 = W) := Lib.hid (by unfold Wk.open_; rw [hkn]; exact ⟨rfl, rfl⟩)
    rw [hkn] at hlk hlkd
    replace hlk : (Instr.lookup 89 (.map (some P.kb)) (.agg #[.int .i64 (a : Int), .int .i64 (p : Int)]) true).run Try.prog w1 = .ok (.tuple #[.int .i64 (m : Int), .bool true]) w1 := hlk
    replace hlkd : (Instr.lookup 89 (.map (some P.kb)) (.agg #[.int .i64 (a : Int), .int .i64 (p : Int)]) true).run Try.prog w1.drew = .ok (.tuple #[.int .i64 (m : Int), .bool true]) w1.drew := hlkd
    have HE : Hid (∀ k, (∃ vr', Wkm (w1.drewN k) P vw vr' W ∧ Grew w vr vr') ∧ Off (WF P vw vr) w (w1.drewN k)) := Lib.hid fun k => ⟨⟨vr, HB.out.2.2.2.1.bel (drewN_below _ _), fun k h => .inl h⟩, Off.of_new (HB.out.2.2.1.trans ((drewN_below w1 k).mono HB.out.2.2.1.size)) _⟩
    rw [HR.out.1, HR.out.2]
    clear hkn
    go_enter Try.func74, Try.ntmps74
    go_upto_region 2 with fail
    (try rw [HB.out.1])
    (try rw [HB.out.2.1])
    go_region
    go_wp2_with fail
    go_ret
    exact ⟨rfl, HE.out _⟩
  | none =>
    have HR : Hid ((W.open_ a p).1 = W.rows.length ∧ (W.open_ a p).2 = { W with rows := W.rows ++ [(a, p)] }) := Lib.hid (by unfold Wk.open_; rw [hkn]; exact ⟨rfl, rfl⟩)
    have HKN := Lib.hid hkn
    rw [hkn] at hlk hlkd
    replace hlk : (Instr.lookup 89 (.map (some P.kb)) (.agg #[.int .i64 (a : Int), .int .i64 (p : Int)]) true).run Try.prog w1 = .ok (.tuple #[.int .i64 0, .bool false]) w1 := hlk
    replace hlkd : (Instr.lookup 89 (.map (some P.kb)) (.agg #[.int .i64 (a : Int), .int .i64 (p : Int)]) true).run Try.prog w1.drew = .ok (.tuple #[.int .i64 0, .bool false]) w1.drew := hlkd
    rw [HR.out.1, HR.out.2]
    clear hkn HR
    go_enter Try.func74, Try.ntmps74
    go_upto_region 2 with fail
    (try rw [HB.out.1])
    (try rw [HB.out.2.1])
    go_region
    obtain ⟨wd, hwd⟩ : ∃ V, w1.drew = V := ⟨_, rfl⟩
    rw [hwd]
    have hbd : Below w1.heap.size w1 wd := by rw [← hwd]; exact (Below.refl _ _).drew
    have hmd := HB.out.2.2.2.1.bel hbd
    have Bd := HB.out.2.2.2.2.2.2.2.2.2.below hbd HB.out.2.2.2.2.2.2.2.2.2.lt
    have hrl := HB.out.2.2.2.2.1.rl
    obtain ⟨t0, ht0⟩ : ∃ t, W.rows[0]? = some t := ⟨_, List.getElem?_eq_getElem (by omega)⟩
    obtain ⟨g, c, hvr, _, _⟩ := hmd.tri ht0
    subst hvr
    obtain ⟨rn, hrn⟩ : ∃ z, W.rows.length = z := ⟨_, rfl⟩
    have e4 := hmd.told.2.2.2.2.1
    rw [hrn] at e4
    have y0 := Bd.cell 0
    have y1 := Bd.cell 1
    have hs0 : wd.heap.size = q + 1 := by rw [← hwd, ← HB.out.1, ← HB.out.2.1]; simp
    obtain ⟨wa, hwa⟩ : ∃ V, (wd.alloc (.cells #[.int .i64 (a : Int), .int .i64 (p : Int)] 87)).drew = V := ⟨_, rfl⟩
    have hba : Below wd.heap.size wd wa := by rw [← hwa]; exact ((Below.refl _ _).alloc (Nat.le_refl _) _).drew
    have hsa : wa.heap.size = wd.heap.size + 1 := by rw [← hwa]; simp
    have Ba : Blk wa wd.heap.size 87 #[.int .i64 (a : Int), .int .i64 (p : Int)] := by rw [← hwa]; exact (Blk.new _ _ _).drew
    have hma := hmd.bel hba
    have hBa : P.B ≤ wa.heap.size := by have := HB.out.2.2.2.2.2.2.2.2.1; rw [HB.out.2.1] at this; omega
    obtain ⟨v', w3, hrun, hown, hgr, hob⟩ := push_try hma.rows hBa a p wd.heap.size (Ba.cell 0) (Ba.cell 1) (by have := HB.out.2.2.2.2.2.2.2.1; omega)
    rw [hrn] at hrun
    obtain ⟨A', n', c', hv', hn'⟩ : ∃ A n c, v' = .slice A n c ∧ n = rn + 1 := by
      rcases hown.2 with ⟨h1, h2⟩ | ⟨g2, cap, cur, h1, _⟩
      · simp at h2
      · exact ⟨_, _, _, h1, by rw [List.length_append, List.length_singleton, hrn]⟩
    subst hn'
    subst hv'
    obtain ⟨w4, hw4⟩ : ∃ V, w3.setCell ⟨P.gw, 4, none⟩ (.slice A' (rn + 1) c') = V := ⟨_, rfl⟩
    have hk4 := hma.knows (v' := .slice A' (rn + 1) c') hgr
    rw [hw4] at hk4
    obtain ⟨w5, hup, hp5, ho5, _⟩ := (hk4.bel ((Below.refl _ _).drew)).put (T := knS { W with rows := W.rows ++ [(a, p)] }) (t := 89) (e := 3) Try.underlying89 ((a : Int), (p : Int)) ⟨WalkArith.wf_i64 (by show _; omega), WalkArith.wf_i64 (by show _; omega)⟩ (.int .i64 (W.rows.length : Int)) (by have := HB.out.2.2.2.2.2.2.2.1; omega) (knS_put W a p hrl.1 HKN.out)
    replace hup : (Instr.mapUpdate 89 (.map (some P.kb)) (.agg #[.int .i64 (a : Int), .int .i64 (p : Int)]) (.int .i64 (W.rows.length : Int))).run Try.prog w4.drew = .ok () w5 := hup
    rw [hrn] at hup
    have ho5 : Off (fun k => k = P.kb) w4.drew w5 := ho5
    have ho45 : Off (fun k => k = P.kb) w4 w5 := (Off.drew _ w4).trans ho5
    have hF := hma.push hgr (a, p) hown hob hp5 (by rw [hw4]; exact ho45)
    have d0 := hma.told.1
    have hgq : g < q := HVR.out g rfl
    have Bq3 : Blk w3 q 87 #[.int .i64 (a : Int), .int .i64 (p : Int)] := (Bd.below hba Bd.lt).grown hgr (by intro e; have e' : q = g := Option.some.inj e; omega)
    have hgw : P.gw < wa.heap.size := hma.blk.lt
    have hgwq : P.gw ≠ q := fun e => by
      have := HB.out.2.2.2.1.blk
      have h2 := HB.out.2.2.2.2.2.2.2.2.2
      rw [e] at this
      unfold Blk at this h2
      rw [this] at h2
      cases h2
    have Bq4 : Blk w4 q 87 #[.int .i64 (a : Int), .int .i64 (p : Int)] := by rw [← hw4]; exact Bq3.same (set_same _ _ _ _ _ (fun e => hgwq e.symm))
    have Bw3 := hma.blk.grown hgr (by intro e; have e' : P.gw = g := Option.some.inj e; exact (hma.dr g rfl).1 e'.symm)
    have Bw4 := Bw3.set_ 4 (.slice A' (rn + 1) c')
    rw [hw4] at Bw4
    have z5 : w4.cell? ⟨P.gw, 5, none⟩ = some (.map (some P.kb)) := Bw4.cell 5
    have f4 := Bw3.frozen 4
    have g4 := Bw3.cell 4
    have z0 := Bq4.cell 0
    have z1 := Bq4.cell 1
    have u4 := (hmd.bel hba).told.2.2.2.2.1
    rw [hrn] at u4
    have HF : Hid ((∃ vr', Wkm w5 P vw vr' { W with rows := W.rows ++ [(a, p)] } ∧ Grew w (.slice (some ⟨g, 0, none⟩) W.rows.length c) vr') ∧ Off (WF P vw (.slice (some ⟨g, 0, none⟩) W.rows.length c)) w w5) := Lib.hid ⟨⟨_, hF, fun k hk => by
      rcases hob with e | e
      · exact .inl (e ▸ hk)
      · rw [e] at hk
        cases hk
        exact .inr (by rw [HB.out.2.1, hsa, hs0]; omega)⟩, by
      have h2 : Off (WF P vw (.slice (some ⟨g, 0, none⟩) W.rows.length c)) w wa := Off.of_new (HB.out.2.2.1.trans ((hbd.trans (hba.mono hbd.size)).mono HB.out.2.2.1.size)) _
      have h3 : Off (WF P vw (.slice (some ⟨g, 0, none⟩) W.rows.length c)) wa w3 := (Off.of_grown hgr).mono fun k _ hk => .inr (.inr (.inr (.inr hk)))
      have h4 : Off (WF P vw (.slice (some ⟨g, 0, none⟩) W.rows.length c)) w3 w4 := by rw [← hw4]; exact (Off.setc w3 P.gw 4 _).mono fun k _ e => .inl e
      exact h2.trans (h3.trans (h4.trans (ho45.mono fun k _ e => .inr (.inr (.inl e)))))⟩
    have HRUN := Lib.hid hrun
    have HW4 := Lib.hid hw4
    have HRN := Lib.hid hrn
    clear hrun hown hgr hob hk4 hp5 ho5 ho45 hF d0 hgq Bq3 hgw hgwq Bq4 Bw3 Bw4 hma hBa Ba hba hmd Bd hrl ht0 hlk hlkd x0 x1 c5 hbd hs0 hsa hw4
    subst hwa
    go_upto_region 5 with fail
    go_region_law (refine step_app rfl (.tmp 33) (.tmp 35) 88 rfl _ _ _ _ (by simp [Act.eval]) (by simp [Act.eval]) HRUN.out ?_)
    all_goals
      (try rw [HW4.out])
      go_wp2_with fail
      go_region
      go_wp2_with fail
      go_ret
      exact ⟨by rw [HRN.out] <;> rfl, HF.out⟩
end Go.Proofs.Ytimkiifcmegfeaa
/- code: come (written by cdcome.py). -/
namespace Go.Proofs.Ytimkiifcmegfeaa
open Go.RowKit
set_option linter.unusedVariables false
set_option linter.unusedSimpArgs false
attribute [local go_sem] Oper.semAt_some
theorem infoInt : (Try.prog.info? 3).map (fun i => (i.zero, i.size, i.bytes)) = some (some (.int .i64 0), 1, 8) := by kernel_rfl
/-- One number more. -/
theorem push_int {w : World} {B : Nat} {vw : Value} {ws : List Nat} (h : w.ownsRow B 3 1 vw ws.length (wl ws)) (hB : B ≤ w.heap.size) (p g : Nat) (h0 : w.cell? ⟨g, 0, none⟩ = some (.int .i64 (p : Int))) (hl : ws.length < 1000000) :
    ∃ v' w', (Builtin.append_ #[90, 90] 90 #[vw, .slice (some ⟨g, 0, none⟩) 1 1]).run Try.prog w = .ok v' w' ∧ w'.ownsRow B 3 1 v' (ws ++ [p]).length (wl (ws ++ [p])) ∧ w.grownBy w' vw.ownBlock ∧ (v'.ownBlock = vw.ownBlock ∨ v'.ownBlock = some w.heap.size) := by
  obtain ⟨i0, hi, hz0, hz1, hz2⟩ := info_parts infoInt
  have hcell : ∀ (j : Nat) (u : Value), [Value.int .i64 (p : Int)][j]? = some u → w.cell? ((⟨g, 0, none⟩ : Addr).add j) = some u := fun j u hj => by
    have e2 : (⟨g, 0, none⟩ : Addr).add j = ⟨g, 0 + j, none⟩ := by unfold Addr.add; split <;> simp_all
    rw [e2, Nat.zero_add]
    rcases j with _ | j
    · cases hj; exact h0
    · simp at hj
  obtain ⟨v', w', hrun, h2, h3, _, h5⟩ := run_append_own_at (P := Try.prog) w B 90 90 3 i0 (.int .i64 0) 1 8 Try.underlying90 hi hz0 hz1 hz2 rfl (by decide) vw ws.length _ h ⟨g, 0, none⟩ 1 1 [.int .i64 (p : Int)] (by simp) hcell
    (fun u hu => by rw [List.mem_singleton.1 hu]; rfl) (by unfold maxLen; omega) (by omega) hB
  refine ⟨v', w', hrun, ?_, h3, h5⟩
  rw [List.length_append, List.length_singleton, wl, List.map_append]
  exact h2
theorem own_nz {w : World} {base : Nat} {e : TypeId} {size : Nat} {v : Value} {n : Nat} {xs : List Value} (h : w.ownsRow base e size v n xs) : ∃ A c, v = .slice A n c := by
  rcases h.2 with ⟨h1, h2⟩ | ⟨g2, cap, cur, h1, _⟩
  · exact ⟨none, 0, by rw [h1, h2]⟩
  · exact ⟨_, _, h1⟩
/-- A place that is come to, and pushed. -/
theorem Wkm.came {w wa w3 : World} {P : Pl} {vw vr v' : Value} {W : Wk} (h : Wkm w P vw vr W) (p : Nat) (s : Int × Nat) (hp : p < W.at_.length)
    (hwa : Off (fun k => k = P.ga) w wa) (hat : Blk wa P.ga 139 (sl (W.at_.set p (some s))).toArray) (hgr : wa.grownBy w3 vw.ownBlock) (hown : w3.ownsRow P.B 3 1 v' (W.work ++ [p]).length (wl (W.work ++ [p]))) (hob : v'.ownBlock = vw.ownBlock ∨ v'.ownBlock = some wa.heap.size) :
    Wkm (w3.setCell ⟨P.gw, 3, none⟩ v') P v' vr { W with at_ := W.at_.set p (some s), work := W.work ++ [p] } := by
  have s1 : ∀ k, k < w.heap.size → k ≠ P.ga → wa.heap[k]? = w.heap[k]? := fun k h1 h2 => hwa.block k h1 h2
  have hlt : P.gw < wa.heap.size := Nat.lt_of_lt_of_le h.blk.lt hwa.size
  have hla : P.ga < wa.heap.size := hat.lt
  have hlk : P.kb < wa.heap.size := Nat.lt_of_lt_of_le h.known.lt hwa.size
  have hd' : ∀ k, v'.ownBlock = some k → k ≠ P.gw ∧ k ≠ P.ga ∧ k ≠ P.kb := fun k hk => by
    rcases hob with e | e
    · exact h.dw k (e ▸ hk)
    · rw [e] at hk
      cases hk
      exact ⟨by omega, by omega, by omega⟩
  have s5 : ∀ k, k ≠ P.gw → (w3.setCell ⟨P.gw, 3, none⟩ v').heap[k]? = w3.heap[k]? := fun k h1 => set_same w3 P.gw 3 k v' h1
  have s3 : ∀ k, k < wa.heap.size → vw.ownBlock ≠ some k → w3.heap[k]? = wa.heap[k]? := fun k h1 h2 => grown_same hgr h1 h2
  have ba : Blk wa P.gw 92 #[.pointer (some ⟨P.gk, 0, none⟩), .int .i64 (P.fn : Int), .slice (some ⟨P.ga, 0, none⟩) P.n P.n, vw, vr, .map (some P.kb)] := h.blk.same (s1 _ h.blk.lt h.d.1)
  have b3 := ba.same (s3 _ hlt fun e => (h.dw _ e).1 rfl)
  have b4 := b3.set_ 3 v'
  refine ⟨b4, ?_, own_same hown fun k hk => s5 k (hd' k hk).1, ?_, ?_, h.b, h.d, hd', h.dr, fun k hk => ?_⟩
  · exact (hat.same (s3 _ hla fun e => (h.dw _ e).2.1 rfl)).same (s5 _ (fun e => h.d.1 e.symm))
  · exact own_same (own_same (own_same h.rows fun k hk => s1 k (h.rows.lt k hk).2 (h.dr k hk).2.1) fun k hk => s3 k (Nat.lt_of_lt_of_le (h.rows.lt k hk).2 hwa.size) (fun e => h.dd k e hk)) fun k hk => s5 k (h.dr k hk).1
  · exact ((h.known.same (s1 _ h.known.lt fun e => h.d.2.2 e.symm)).same (s3 _ hlk fun e => (h.dw _ e).2.2 rfl)).same (s5 _ (fun e => h.d.2.1 e.symm))
  · intro e2
    rcases hob with e | e
    · rw [e] at hk; exact h.dd k hk e2
    · rw [e] at hk
      cases hk
      have := (h.rows.lt _ e2).2
      have := hwa.size
      omega
theorem Wk.Ok.came {W V : Wk} {n l : Nat} {H : Int} (k : W.Ok n l H) (p : Nat) (h : Int) (r : Nat) (hh : 0 ≤ h ∧ h ≤ H) (hr : r < W.rows.length) (hv : W.come p h r = some V) : V.Ok n l H ∧ V.rows = W.rows := by
  unfold Wk.come at hv
  split at hv
  · cases hv
  · rename_i hp
    injection hv with hv
    subst hv
    have hpl := (List.getElem?_eq_some_iff.1 hp).1
    have hn := nones_set W.at_ p (h, r) hp
    have hm := k.meas
    refine ⟨⟨by show (W.at_.set p _).length = n; rw [List.length_set]; exact k.len, by show nones (W.at_.set p _) + (W.work ++ [p]).length ≤ n; rw [List.length_append, List.length_singleton]; omega, k.rl, fun q s hs => ?_, k.row, fun q hq => ?_⟩, rfl⟩
    · have hs : (W.at_.set p (some (h, r)))[q]? = some (some s) := hs
      by_cases e : p = q
      · subst e
        rw [List.getElem?_set_self hpl] at hs
        cases hs
        exact ⟨hh.1, hh.2, hr⟩
      · rw [List.getElem?_set_ne e] at hs
        exact k.ht q s hs
    · have hq : q ∈ W.work ++ [p] := hq
      show ∃ s, (W.at_.set p (some (h, r)))[q]? = some (some s)
      by_cases e : p = q
      · subst e
        exact ⟨_, List.getElem?_set_self hpl⟩
      · rw [List.getElem?_set_ne e]
        rcases List.mem_append.1 hq with hq | hq
        · exact k.wk q hq
        · exact absurd (show q = p by simpa using hq) (fun e2 => e e2.symm)
  · split at hv
    · injection hv with hv
      subst hv
      exact ⟨k, rfl⟩
    · cases hv
set_option maxRecDepth 20000 in
set_option maxHeartbeats 4000000 in
theorem come_any (P : Pl) (vw vr : Value) (W : Wk) (l : Nat) (H : Int) (p : Nat) (h : Int) (r : Nat) (w : World) (hm : Wkm w P vw vr W) (hok : W.Ok P.n l H) (hl : l ≤ 1000000) (hn : P.n ≤ 1000000) (hp : p ≤ 1000001) :
    Calls Try.prog 64 #[.pointer (some ⟨P.gw, 0, none⟩), .int .i64 (p : Int), .int .i64 h, .int .i64 (r : Int)] w fun e w' => e = askE (W.come p h r).isSome ∧ (∀ V, W.come p h r = some V → ∃ vw', Wkm w' P vw' vr V ∧ Grew w vw vw') ∧ Off (WF P vw vr) w w' := by
  have c0 := hm.told.1
  have c2 := hm.told.2.2.1
  have hBs : P.B ≤ w.heap.size := Nat.le_trans hm.b.2.1 (Nat.le_of_lt hm.blk.lt)
  have hlen := hok.len
  obtain ⟨cv, hcv⟩ : ∃ c, W.come p h r = c := ⟨_, rfl⟩
  rw [hcv]
  have HCV := hcv
  unfold Wk.come at HCV
  have HB := Lib.hid (And.intro hm (And.intro hok (And.intro hBs (And.intro hlen hcv))))
  obtain ⟨B, gw, ga, kb, gk, fn, n⟩ := P
  replace c0 : w.cell? ⟨gw, 0, none⟩ = some (.pointer (some ⟨gk, 0, none⟩)) := c0
  replace c2 : w.cell? ⟨gw, 2, none⟩ = some (.slice (some ⟨ga, 0, none⟩) n n) := c2
  replace hn : n ≤ 1000000 := hn
  have HAN := Lib.hid (fun V => ask_no (.pointer (some ⟨gk, 0, none⟩)) V)
  have HAY := Lib.hid (fun V => ask_yes (.pointer (some ⟨gk, 0, none⟩)) V)
  have HX0 : Hid (w.drew.cell? ⟨gw, 0, none⟩ = some (.pointer (some ⟨gk, 0, none⟩)) ∧ w.drew.cell? ⟨gw, 2, none⟩ = some (.slice (some ⟨ga, 0, none⟩) n n)) := Lib.hid ⟨c0, c2⟩
  clear hm hok hBs hcv
  by_cases hpn : p < n
  · have hd : decide ((p : Int) < (n : Int)) = true := by simpa using hpn
    obtain ⟨x, hx⟩ : ∃ x, W.at_[p]? = some x := ⟨_, List.getElem?_eq_getElem (by rw [hlen]; exact hpn)⟩
    rw [hx] at HCV
    cases x with
    | none =>
      replace HCV : some ({ W with at_ := W.at_.set p (some (h, r)), work := W.work ++ [p] } : Wk) = cv := HCV
      subst HCV
      obtain ⟨w1, hw1⟩ : ∃ V, (w.alloc (.cells #[.bool true, .int .i64 h, .int .i64 (r : Int)] 139)).drew = V := ⟨_, rfl⟩
      have hb1 : Below w.heap.size w w1 := by rw [← hw1]; exact ((Below.refl _ _).alloc (Nat.le_refl _) _).drew
      have B1 : Blk w1 w.heap.size 139 #[.bool true, .int .i64 h, .int .i64 (r : Int)] := by rw [← hw1]; exact (Blk.new _ _ _).drew
      obtain ⟨q, hq⟩ : ∃ q, w.heap.size = q := ⟨_, rfl⟩
      rw [hq] at B1
      have hm1 := HB.out.1.bel hb1
      have y0 : w1.cell? ⟨ga, p * 3, none⟩ = some (.bool false) := hm1.place hx 0 _ rfl
      have y1 : w1.cell? ⟨ga, p * 3 + 1, none⟩ = some (.int .i64 0) := hm1.place hx 1 _ rfl
      have y2 : w1.cell? ⟨ga, p * 3 + 2, none⟩ = some (.int .i64 0) := hm1.place hx 2 _ rfl
      have f0 : w1.frozen? ⟨ga, p * 3, none⟩ = false := Blk.frozen hm1.at_ _
      have f1 : w1.frozen? ⟨ga, p * 3 + 1, none⟩ = false := Blk.frozen hm1.at_ _
      have f2 : w1.frozen? ⟨ga, p * 3 + 2, none⟩ = false := Blk.frozen hm1.at_ _
      have d2 : w1.cell? ⟨gw, 2, none⟩ = some (.slice (some ⟨ga, 0, none⟩) n n) := hm1.told.2.2.1
      obtain ⟨w2, hw2⟩ : ∃ V, (((w1.setCell ⟨ga, p * 3, none⟩ (.bool true)).setCell ⟨ga, p * 3 + 1, none⟩ (.int .i64 h)).setCell ⟨ga, p * 3 + 2, none⟩ (.int .i64 (r : Int))).drew = V := ⟨_, rfl⟩
      have ho2 : Off (fun k => k = ga) w1 w2 := by rw [← hw2]; exact ((((Off.setc w1 ga _ _).trans (Off.setc _ ga _ _)).trans (Off.setc _ ga _ _)).trans (Off.drew _ _))
      have Ba2 : Blk w2 ga 139 (sl (W.at_.set p (some (h, r)))).toArray := by
        rw [← hw2]
        have := ((Blk.set_ hm1.at_ (p * 3) (.bool true)).set_ (p * 3 + 1) (.int .i64 h)).set_ (p * 3 + 2) (.int .i64 (r : Int))
        rw [← sl_set W.at_ p (h, r) (by rw [hlen]; exact hpn)]
        simpa using this.drew
      obtain ⟨w3, hw3⟩ : ∃ V, w2.alloc (.cells #[.int .i64 (p : Int)] 3) = V := ⟨_, rfl⟩
      have hb3 : Below w2.heap.size w2 w3 := by rw [← hw3]; exact (Below.refl _ _).alloc (Nat.le_refl _) _
      have B3 : Blk w3 w2.heap.size 3 #[.int .i64 (p : Int)] := by rw [← hw3]; exact Blk.new _ _ _
      have ho3 : Off (fun k => k = ga) w1 w3 := ho2.trans (Off.of_new hb3 _)
      have hwk3 := own_same hm1.work (w' := w3) fun k hk => ho3.block k (hm1.work.lt k hk).2 (fun e => (hm1.dw k hk).2.1 e)
      have hBs3 : B ≤ w3.heap.size := Nat.le_trans HB.out.2.2.1 (Nat.le_trans hb1.size ho3.size)
      have hwl : W.work.length < 1000000 := by
        have h1 := HB.out.2.1.meas
        have h2 := nones_set W.at_ p (h, r) hx
        have h3 : nones W.at_ + W.work.length ≤ n := h1
        omega
      obtain ⟨v', w4, hrun, hown, hgr, hob⟩ := push_int hwk3 hBs3 p w2.heap.size (B3.cell 0) hwl
      obtain ⟨A, c, rfl⟩ := own_nz hm1.work
      obtain ⟨A', c', rfl⟩ := own_nz hown
      have hF := hm1.came p (h, r) (by rw [hlen]; exact hpn) ho3 (Ba2.below hb3 Ba2.lt) hgr hown hob
      obtain ⟨rn, hrn⟩ : ∃ z, W.work.length = z := ⟨_, rfl⟩
      have hgw2 : w2.cell? ⟨gw, 3, none⟩ = some (.slice A rn c) := by
        rw [← hrn]
        exact (hm1.blk.off ho2 (fun e => hm1.d.1 e)).cell 3
      have hgw3 : (w2.alloc (.cells #[.int .i64 (p : Int)] 3)).cell? ⟨gw, 3, none⟩ = some (.slice A rn c) := by
        rw [← hrn, hw3]
        exact (hm1.blk.off ho3 (fun e => hm1.d.1 e)).cell 3
      have Bw4 := (hm1.blk.off ho3 (fun e => hm1.d.1 e)).same (grown_same hgr (Blk.lt (hm1.blk.off ho3 (fun e => hm1.d.1 e))) (fun e => (hm1.dw _ e).1 rfl))
      have g3 := Bw4.cell 3
      have f3 := Bw4.frozen 3
      rw [hrn] at hrun
      rw [show (W.work ++ [p]).length = rn + 1 by rw [List.length_append, List.length_singleton, hrn]] at hrun hF
      have HF : Hid ((∀ V, some ({ W with at_ := W.at_.set p (some (h, r)), work := W.work ++ [p] } : Wk) = some V → ∃ vw', Wkm (w4.setCell ⟨gw, 3, none⟩ (.slice A' (rn + 1) c')) ⟨B, gw, ga, kb, gk, fn, n⟩ vw' vr V ∧ Grew w (.slice A W.work.length c) vw') ∧ Off (WF ⟨B, gw, ga, kb, gk, fn, n⟩ (.slice A W.work.length c) vr) w (w4.setCell ⟨gw, 3, none⟩ (.slice A' (rn + 1) c'))) := Lib.hid ⟨fun V hV => by
        injection hV with hV
        rw [← hV]
        refine ⟨_, hF, fun k hk => ?_⟩
        have hk : (Value.slice A' (W.work ++ [p]).length c').ownBlock = some k := by cases A' <;> exact hk
        rcases hob with e | e
        · exact .inl (e ▸ hk)
        · rw [e] at hk
          cases hk
          exact .inr (Nat.le_trans hb1.size ho3.size), by
        have h1 : Off (WF ⟨B, gw, ga, kb, gk, fn, n⟩ (.slice A W.work.length c) vr) w w3 := (Off.of_new hb1 _).trans (ho3.mono fun k _ e => .inr (.inl e))
        have h2 : Off (WF ⟨B, gw, ga, kb, gk, fn, n⟩ (.slice A W.work.length c) vr) w3 w4 := (Off.of_grown hgr).mono fun k _ hk => .inr (.inr (.inr (.inl hk)))
        exact h1.trans (h2.trans ((Off.setc w4 gw 3 _).mono fun k _ e => .inl e))⟩
      have HRUN := Lib.hid hrun
      have HW := Lib.hid (And.intro hw1 (And.intro hq hw2))
      have x0 := B1.cell 0
      have x1 := B1.cell 1
      have x2 := B1.cell 2
      clear hb1 hm1 ho2 Ba2 hb3 B3 ho3 hwk3 hBs3 hwl hrun hown hgr hob hF hrn Bw4 hw1 hq hw2 B1
      subst hw3
      go_enter Try.func64, Try.ntmps64
      go_wp2_with fail
      go_region_held3 (fun V => V.cell? ⟨gw, 0, none⟩ = some (.pointer (some ⟨gk, 0, none⟩)) ∧ V.cell? ⟨gw, 2, none⟩ = some (.slice (some ⟨ga, 0, none⟩) n n))
        (first | exact HX0.out)
        (first | (go_at_call 39; refine (HAY.out _).mono ?_; rintro e w8 ⟨rfl, rfl⟩))
      all_goals
        go_upto_region 2 with fail
        (try rw [HW.out.1])
        (try rw [HW.out.2.1])
        go_wp2_with fail
        go_region
        go_upto_region 5 with fail
        (try rw [HW.out.2.2])
        go_wp2_with (first | (at_builtin; refine wpList_app rfl (.tmp 57) (.tmp 59) 90 rfl _ _ _ _ (by simp [Act.eval]) (by simp [Act.eval]) HRUN.out ?_))
        go_end0
        exact ⟨rfl, HF.out⟩
    | some s =>
      obtain ⟨h0, r0⟩ := s
      replace HCV : (if (h0, r0) = (h, r) then some W else none) = cv := HCV
      obtain ⟨w1, hw1⟩ : ∃ V, (w.alloc (.cells #[.bool true, .int .i64 h, .int .i64 (r : Int)] 139)).drew = V := ⟨_, rfl⟩
      have hb1 : Below w.heap.size w w1 := by rw [← hw1]; exact ((Below.refl _ _).alloc (Nat.le_refl _) _).drew
      have B1 : Blk w1 w.heap.size 139 #[.bool true, .int .i64 h, .int .i64 (r : Int)] := by rw [← hw1]; exact (Blk.new _ _ _).drew
      obtain ⟨q, hq⟩ : ∃ q, w.heap.size = q := ⟨_, rfl⟩
      rw [hq] at B1
      have hm1 := HB.out.1.bel hb1
      have y0 : w1.cell? ⟨ga, p * 3, none⟩ = some (.bool true) := hm1.place hx 0 _ rfl
      have y1 : w1.cell? ⟨ga, p * 3 + 1, none⟩ = some (.int .i64 h0) := hm1.place hx 1 _ rfl
      have y2 : w1.cell? ⟨ga, p * 3 + 2, none⟩ = some (.int .i64 (r0 : Int)) := hm1.place hx 2 _ rfl
      have d0 : w1.cell? ⟨gw, 0, none⟩ = some (.pointer (some ⟨gk, 0, none⟩)) := hm1.told.1
      have d2 : w1.cell? ⟨gw, 2, none⟩ = some (.slice (some ⟨ga, 0, none⟩) n n) := hm1.told.2.2.1
      have x0 : w1.cell? ⟨q, 0, none⟩ = some (.bool true) := B1.cell 0
      have x1 : w1.cell? ⟨q, 1, none⟩ = some (.int .i64 h) := B1.cell 1
      have x2 : w1.cell? ⟨q, 2, none⟩ = some (.int .i64 (r : Int)) := B1.cell 2
      have HS : Hid ((w1.drew.cell? ⟨gw, 0, none⟩ = some (.pointer (some ⟨gk, 0, none⟩)) ∧ w1.drew.cell? ⟨gw, 2, none⟩ = some (.slice (some ⟨ga, 0, none⟩) n n)) ∧ (w1.drew.cell? ⟨ga, p * 3, none⟩ = some (.bool true) ∧ w1.drew.cell? ⟨ga, p * 3 + 1, none⟩ = some (.int .i64 h0) ∧ w1.drew.cell? ⟨ga, p * 3 + 2, none⟩ = some (.int .i64 (r0 : Int))) ∧ w1.drew.cell? ⟨q, 0, none⟩ = some (.bool true) ∧ w1.drew.cell? ⟨q, 1, none⟩ = some (.int .i64 h) ∧ w1.drew.cell? ⟨q, 2, none⟩ = some (.int .i64 (r : Int))) := Lib.hid ⟨⟨d0, d2⟩, ⟨y0, y1, y2⟩, x0, x1, x2⟩
      have HW := Lib.hid (And.intro hw1 hq)
      have HFB : Hid ((∃ vw', Wkm w1.drew ⟨B, gw, ga, kb, gk, fn, n⟩ vw' vr W ∧ Grew w vw vw') ∧ Off (WF ⟨B, gw, ga, kb, gk, fn, n⟩ vw vr) w w1.drew) := Lib.hid ⟨⟨vw, hm1.bel ((Below.refl _ _).drew), fun k hk => .inl hk⟩, Off.of_new hb1.drew _⟩
      clear hm1 hb1 B1 hw1 hq
      by_cases e1 : h0 = h
      · subst e1
        by_cases e2 : r0 = r
        · subst e2
          rw [if_pos rfl] at HCV
          subst HCV
          go_enter Try.func64, Try.ntmps64
          go_wp2_with fail
          go_region_held3 (fun V => V.cell? ⟨gw, 0, none⟩ = some (.pointer (some ⟨gk, 0, none⟩)) ∧ V.cell? ⟨gw, 2, none⟩ = some (.slice (some ⟨ga, 0, none⟩) n n))
            (first | exact HX0.out)
            (first | (go_at_call 39; refine (HAY.out _).mono ?_; rintro e w8 ⟨rfl, rfl⟩))
          go_upto_region 2 with fail
          (try rw [HW.out.1])
          (try rw [HW.out.2])
          go_wp2_with fail
          go_region_held3 (fun V => (V.cell? ⟨gw, 0, none⟩ = some (.pointer (some ⟨gk, 0, none⟩)) ∧ V.cell? ⟨gw, 2, none⟩ = some (.slice (some ⟨ga, 0, none⟩) n n)) ∧ (V.cell? ⟨ga, p * 3, none⟩ = some (.bool true) ∧ V.cell? ⟨ga, p * 3 + 1, none⟩ = some (.int .i64 h0) ∧ V.cell? ⟨ga, p * 3 + 2, none⟩ = some (.int .i64 (r0 : Int))) ∧ V.cell? ⟨q, 0, none⟩ = some (.bool true) ∧ V.cell? ⟨q, 1, none⟩ = some (.int .i64 h0) ∧ V.cell? ⟨q, 2, none⟩ = some (.int .i64 (r0 : Int)))
            (first | exact HS.out)
            (first | (go_at_call 39; refine (HAY.out _).mono ?_; rintro e w8 ⟨rfl, rfl⟩))
          go_wp2_with fail
          refine bodyPost_ret (results_none rfl _ _ _) rfl ?_
          exact ⟨rfl, (fun V hV => by injection hV with hV; rw [← hV]; exact HFB.out.1), HFB.out.2⟩
        · have q2 : ((r0 : Int) == (r : Int)) = false := by rw [beq_eq_false_iff_ne]; omega
          rw [if_neg (fun e => e2 (by injection e))] at HCV
          subst HCV
          clear e2
          go_enter Try.func64, Try.ntmps64
          go_wp2_with fail
          go_region_held3 (fun V => V.cell? ⟨gw, 0, none⟩ = some (.pointer (some ⟨gk, 0, none⟩)) ∧ V.cell? ⟨gw, 2, none⟩ = some (.slice (some ⟨ga, 0, none⟩) n n))
            (first | exact HX0.out)
            (first | (go_at_call 39; refine (HAY.out _).mono ?_; rintro e w8 ⟨rfl, rfl⟩))
          go_upto_region 2 with fail
          (try rw [HW.out.1])
          (try rw [HW.out.2])
          go_wp2_with fail
          refine wp_region_held_drew (S := (fun V => (V.cell? ⟨gw, 0, none⟩ = some (.pointer (some ⟨gk, 0, none⟩)) ∧ V.cell? ⟨gw, 2, none⟩ = some (.slice (some ⟨ga, 0, none⟩) n n)) ∧ (V.cell? ⟨ga, p * 3, none⟩ = some (.bool true) ∧ V.cell? ⟨ga, p * 3 + 1, none⟩ = some (.int .i64 h0) ∧ V.cell? ⟨ga, p * 3 + 2, none⟩ = some (.int .i64 (r0 : Int))) ∧ V.cell? ⟨q, 0, none⟩ = some (.bool true) ∧ V.cell? ⟨q, 1, none⟩ = some (.int .i64 h0) ∧ V.cell? ⟨q, 2, none⟩ = some (.int .i64 (r : Int)))) (by kernel_rfl) HS.out (fun hHeld => ?_)
          refine takeY 0 (some 32) rfl rfl (by kernel_rfl) (by kernel_rfl) (by kernel_rfl) (fun _ _ _ h => h) (by rfl) (v := _) (by (intro _ hSw; (try dsimp only at hSw); go_simp; try with_reducible rfl)) hHeld ?_
          simp only [Act.put, List.setIfInBounds_toArray, List.set_cons_zero, List.set_cons_succ]
          refine takeY 1 (some 33) rfl rfl (by kernel_rfl) (by kernel_rfl) (by kernel_rfl) (fun _ _ _ h => h) (by rfl) (v := _) (by (intro _ hSw; (try dsimp only at hSw); go_simp; try with_reducible rfl)) hHeld ?_
          simp only [Act.put, List.setIfInBounds_toArray, List.set_cons_zero, List.set_cons_succ]
          refine takeY 2 (some 34) rfl rfl (by kernel_rfl) (by kernel_rfl) (by kernel_rfl) (fun _ _ _ h => h) (by rfl) (v := _) (by (intro _ hSw; (try dsimp only at hSw); go_simp; try with_reducible rfl)) hHeld ?_
          simp only [Act.put, List.setIfInBounds_toArray, List.set_cons_zero, List.set_cons_succ]
          refine takeY 3 (some 35) rfl rfl (by kernel_rfl) (by kernel_rfl) (by kernel_rfl) (fun _ _ _ h => h) (by rfl) (v := _) (by (intro _ hSw; (try dsimp only at hSw); go_simp; try with_reducible rfl)) hHeld ?_
          simp only [Act.put, List.setIfInBounds_toArray, List.set_cons_zero, List.set_cons_succ]
          refine takeY 4 (some 36) rfl rfl (by kernel_rfl) (by kernel_rfl) (by kernel_rfl) (fun _ _ _ h => h) (by rfl) (v := _) (by (intro _ hSw; (try dsimp only at hSw); go_simp; try with_reducible rfl)) hHeld ?_
          simp only [Act.put, List.setIfInBounds_toArray, List.set_cons_zero, List.set_cons_succ]
          refine takeY 5 (some 37) rfl rfl (by kernel_rfl) (by kernel_rfl) (by kernel_rfl) (fun _ _ _ h => h) (by rfl) (v := _) (by (intro _ hSw; (try dsimp only at hSw); go_simp; try with_reducible rfl)) hHeld ?_
          simp only [Act.put, List.setIfInBounds_toArray, List.set_cons_zero, List.set_cons_succ]
          refine takeY 6 (some 38) rfl rfl (by kernel_rfl) (by kernel_rfl) (by kernel_rfl) (fun _ _ _ h => h) (by rfl) (v := _) (by (intro _ hSw; (try dsimp only at hSw); go_simp; try with_reducible rfl)) hHeld ?_
          simp only [Act.put, List.setIfInBounds_toArray, List.set_cons_zero, List.set_cons_succ]
          refine takeY 7 (some 39) rfl rfl (by kernel_rfl) (by kernel_rfl) (by kernel_rfl) (fun _ _ _ h => h) (by rfl) (v := _) (by (intro _ hSw; (try dsimp only at hSw); go_simp; try with_reducible rfl)) hHeld ?_
          simp only [Act.put, List.setIfInBounds_toArray, List.set_cons_zero, List.set_cons_succ]
          refine takeY 8 (some 40) rfl rfl (by kernel_rfl) (by kernel_rfl) (by kernel_rfl) (fun _ _ _ h => h) (by rfl) (v := _) (by (intro _ hSw; (try dsimp only at hSw); go_simp; try with_reducible rfl)) hHeld ?_
          simp only [Act.put, List.setIfInBounds_toArray, List.set_cons_zero, List.set_cons_succ]
          refine takeY 9 (some 41) rfl rfl (by kernel_rfl) (by kernel_rfl) (by kernel_rfl) (fun _ _ _ h => h) (by rfl) (v := _) (by (intro _ hSw; (try dsimp only at hSw); go_simp; try with_reducible rfl)) hHeld ?_
          simp only [Act.put, List.setIfInBounds_toArray, List.set_cons_zero, List.set_cons_succ]
          refine takeY 10 (some 42) rfl rfl (by kernel_rfl) (by kernel_rfl) (by kernel_rfl) (fun _ _ _ h => h) (by rfl) (v := _) (by (intro _ hSw; (try dsimp only at hSw); go_simp; try with_reducible rfl)) hHeld ?_
          simp only [Act.put, List.setIfInBounds_toArray, List.set_cons_zero, List.set_cons_succ]
          refine takeY 11 (some 43) rfl rfl (by kernel_rfl) (by kernel_rfl) (by kernel_rfl) (fun _ _ _ h => h) (by rfl) (v := _) (by (intro _ hSw; (try dsimp only at hSw); go_simp; try with_reducible rfl)) hHeld ?_
          simp only [Act.put, List.setIfInBounds_toArray, List.set_cons_zero, List.set_cons_succ]
          refine takeY 12 (some 44) rfl rfl (by kernel_rfl) (by kernel_rfl) (by kernel_rfl) (fun _ _ _ h => h) (by rfl) (v := _) (by (intro _ hSw; (try dsimp only at hSw); go_simp; try with_reducible rfl)) hHeld ?_
          simp only [Act.put, List.setIfInBounds_toArray, List.set_cons_zero, List.set_cons_succ]
          refine wpAnyH_ready (rs := [13]) (by kernel_rfl) (by simp) ?_
          refine AllReadyH.cons rfl (fun K hK => ?_) AllReadyH.nil
          clear hHeld
          go_simp
          (go_at_call 39; refine (HAN.out _).mono ?_; rintro e w8 ⟨rfl, rfl⟩)
          exact ⟨rfl, rfl, (fun V hV => by cases hV), HFB.out.2⟩
      · have q1 : (h0 == h) = false := by rw [beq_eq_false_iff_ne]; exact e1
        rw [if_neg (fun e => e1 (by injection e))] at HCV
        subst HCV
        clear e1
        go_enter Try.func64, Try.ntmps64
        go_wp2_with fail
        go_region_held3 (fun V => V.cell? ⟨gw, 0, none⟩ = some (.pointer (some ⟨gk, 0, none⟩)) ∧ V.cell? ⟨gw, 2, none⟩ = some (.slice (some ⟨ga, 0, none⟩) n n))
          (first | exact HX0.out)
          (first | (go_at_call 39; refine (HAY.out _).mono ?_; rintro e w8 ⟨rfl, rfl⟩))
        go_upto_region 2 with fail
        (try rw [HW.out.1])
        (try rw [HW.out.2])
        go_wp2_with fail
        refine wp_region_held_drew (S := (fun V => (V.cell? ⟨gw, 0, none⟩ = some (.pointer (some ⟨gk, 0, none⟩)) ∧ V.cell? ⟨gw, 2, none⟩ = some (.slice (some ⟨ga, 0, none⟩) n n)) ∧ (V.cell? ⟨ga, p * 3, none⟩ = some (.bool true) ∧ V.cell? ⟨ga, p * 3 + 1, none⟩ = some (.int .i64 h0) ∧ V.cell? ⟨ga, p * 3 + 2, none⟩ = some (.int .i64 (r0 : Int))) ∧ V.cell? ⟨q, 0, none⟩ = some (.bool true) ∧ V.cell? ⟨q, 1, none⟩ = some (.int .i64 h) ∧ V.cell? ⟨q, 2, none⟩ = some (.int .i64 (r : Int)))) (by kernel_rfl) HS.out (fun hHeld => ?_)
        refine takeY 0 (some 32) rfl rfl (by kernel_rfl) (by kernel_rfl) (by kernel_rfl) (fun _ _ _ h => h) (by rfl) (v := _) (by (intro _ hSw; (try dsimp only at hSw); go_simp; try with_reducible rfl)) hHeld ?_
        simp only [Act.put, List.setIfInBounds_toArray, List.set_cons_zero, List.set_cons_succ]
        refine takeY 1 (some 33) rfl rfl (by kernel_rfl) (by kernel_rfl) (by kernel_rfl) (fun _ _ _ h => h) (by rfl) (v := _) (by (intro _ hSw; (try dsimp only at hSw); go_simp; try with_reducible rfl)) hHeld ?_
        simp only [Act.put, List.setIfInBounds_toArray, List.set_cons_zero, List.set_cons_succ]
        refine takeY 2 (some 34) rfl rfl (by kernel_rfl) (by kernel_rfl) (by kernel_rfl) (fun _ _ _ h => h) (by rfl) (v := _) (by (intro _ hSw; (try dsimp only at hSw); go_simp; try with_reducible rfl)) hHeld ?_
        simp only [Act.put, List.setIfInBounds_toArray, List.set_cons_zero, List.set_cons_succ]
        refine takeY 3 (some 35) rfl rfl (by kernel_rfl) (by kernel_rfl) (by kernel_rfl) (fun _ _ _ h => h) (by rfl) (v := _) (by (intro _ hSw; (try dsimp only at hSw); go_simp; try with_reducible rfl)) hHeld ?_
        simp only [Act.put, List.setIfInBounds_toArray, List.set_cons_zero, List.set_cons_succ]
        refine takeY 4 (some 36) rfl rfl (by kernel_rfl) (by kernel_rfl) (by kernel_rfl) (fun _ _ _ h => h) (by rfl) (v := _) (by (intro _ hSw; (try dsimp only at hSw); go_simp; try with_reducible rfl)) hHeld ?_
        simp only [Act.put, List.setIfInBounds_toArray, List.set_cons_zero, List.set_cons_succ]
        refine takeY 5 (some 37) rfl rfl (by kernel_rfl) (by kernel_rfl) (by kernel_rfl) (fun _ _ _ h => h) (by rfl) (v := _) (by (intro _ hSw; (try dsimp only at hSw); go_simp; try with_reducible rfl)) hHeld ?_
        simp only [Act.put, List.setIfInBounds_toArray, List.set_cons_zero, List.set_cons_succ]
        refine takeY 6 (some 38) rfl rfl (by kernel_rfl) (by kernel_rfl) (by kernel_rfl) (fun _ _ _ h => h) (by rfl) (v := _) (by (intro _ hSw; (try dsimp only at hSw); go_simp; try with_reducible rfl)) hHeld ?_
        simp only [Act.put, List.setIfInBounds_toArray, List.set_cons_zero, List.set_cons_succ]
        refine takeY 7 (some 39) rfl rfl (by kernel_rfl) (by kernel_rfl) (by kernel_rfl) (fun _ _ _ h => h) (by rfl) (v := _) (by (intro _ hSw; (try dsimp only at hSw); go_simp; try with_reducible rfl)) hHeld ?_
        simp only [Act.put, List.setIfInBounds_toArray, List.set_cons_zero, List.set_cons_succ]
        refine takeY 8 (some 40) rfl rfl (by kernel_rfl) (by kernel_rfl) (by kernel_rfl) (fun _ _ _ h => h) (by rfl) (v := _) (by (intro _ hSw; (try dsimp only at hSw); go_simp; try with_reducible rfl)) hHeld ?_
        simp only [Act.put, List.setIfInBounds_toArray, List.set_cons_zero, List.set_cons_succ]
        refine takeY 9 (some 41) rfl rfl (by kernel_rfl) (by kernel_rfl) (by kernel_rfl) (fun _ _ _ h => h) (by rfl) (v := _) (by (intro _ hSw; (try dsimp only at hSw); go_simp; try with_reducible rfl)) hHeld ?_
        simp only [Act.put, List.setIfInBounds_toArray, List.set_cons_zero, List.set_cons_succ]
        refine takeY 10 (some 42) rfl rfl (by kernel_rfl) (by kernel_rfl) (by kernel_rfl) (fun _ _ _ h => h) (by rfl) (v := _) (by (intro _ hSw; (try dsimp only at hSw); go_simp; try with_reducible rfl)) hHeld ?_
        simp only [Act.put, List.setIfInBounds_toArray, List.set_cons_zero, List.set_cons_succ]
        refine takeY 11 (some 43) rfl rfl (by kernel_rfl) (by kernel_rfl) (by kernel_rfl) (fun _ _ _ h => h) (by rfl) (v := _) (by (intro _ hSw; (try dsimp only at hSw); go_simp; try with_reducible rfl)) hHeld ?_
        simp only [Act.put, List.setIfInBounds_toArray, List.set_cons_zero, List.set_cons_succ]
        refine takeY 12 (some 44) rfl rfl (by kernel_rfl) (by kernel_rfl) (by kernel_rfl) (fun _ _ _ h => h) (by rfl) (v := _) (by (intro _ hSw; (try dsimp only at hSw); go_simp; try with_reducible rfl)) hHeld ?_
        simp only [Act.put, List.setIfInBounds_toArray, List.set_cons_zero, List.set_cons_succ]
        refine wpAnyH_ready (rs := [13]) (by kernel_rfl) (by simp) ?_
        refine AllReadyH.cons rfl (fun K hK => ?_) AllReadyH.nil
        clear hHeld
        go_simp
        (go_at_call 39; refine (HAN.out _).mono ?_; rintro e w8 ⟨rfl, rfl⟩)
        exact ⟨rfl, rfl, (fun V hV => by cases hV), HFB.out.2⟩
  · have hd : decide ((p : Int) < (n : Int)) = false := by simp; omega
    have hx : W.at_[p]? = none := List.getElem?_eq_none (by rw [hlen]; show n ≤ p; omega)
    rw [hx] at HCV
    replace HCV : none = cv := HCV
    subst HCV
    clear hx hlen
    go_enter Try.func64, Try.ntmps64
    go_wp2_with fail
    refine wp_region_held_drew (S := (fun V => V.cell? ⟨gw, 0, none⟩ = some (.pointer (some ⟨gk, 0, none⟩)) ∧ V.cell? ⟨gw, 2, none⟩ = some (.slice (some ⟨ga, 0, none⟩) n n))) (by kernel_rfl) HX0.out (fun hHeld => ?_)
    refine takeY 0 (some 9) rfl rfl (by kernel_rfl) (by kernel_rfl) (by kernel_rfl) (fun _ _ _ h => h) (by rfl) (v := _) (by (intro _ hSw; (try dsimp only at hSw); go_simp; try with_reducible rfl)) hHeld ?_
    simp only [Act.put, List.setIfInBounds_toArray, List.set_cons_zero, List.set_cons_succ]
    refine takeY 1 (some 10) rfl rfl (by kernel_rfl) (by kernel_rfl) (by kernel_rfl) (fun _ _ _ h => h) (by rfl) (v := _) (by (intro _ hSw; (try dsimp only at hSw); go_simp; try with_reducible rfl)) hHeld ?_
    simp only [Act.put, List.setIfInBounds_toArray, List.set_cons_zero, List.set_cons_succ]
    refine takeY 2 (some 11) rfl rfl (by kernel_rfl) (by kernel_rfl) (by kernel_rfl) (fun _ _ _ h => h) (by rfl) (v := _) (by (intro _ hSw; (try dsimp only at hSw); go_simp; try with_reducible rfl)) hHeld ?_
    simp only [Act.put, List.setIfInBounds_toArray, List.set_cons_zero, List.set_cons_succ]
    refine takeY 3 (some 12) rfl rfl (by kernel_rfl) (by kernel_rfl) (by kernel_rfl) (fun _ _ _ h => h) (by rfl) (v := _) (by (intro _ hSw; (try dsimp only at hSw); go_simp; try with_reducible rfl)) hHeld ?_
    simp only [Act.put, List.setIfInBounds_toArray, List.set_cons_zero, List.set_cons_succ]
    refine takeY 4 (some 13) rfl rfl (by kernel_rfl) (by kernel_rfl) (by kernel_rfl) (fun _ _ _ h => h) (by rfl) (v := _) (by (intro _ hSw; (try dsimp only at hSw); go_simp; try with_reducible rfl)) hHeld ?_
    simp only [Act.put, List.setIfInBounds_toArray, List.set_cons_zero, List.set_cons_succ]
    refine takeY 5 (some 14) rfl rfl (by kernel_rfl) (by kernel_rfl) (by kernel_rfl) (fun _ _ _ h => h) (by rfl) (v := _) (by (intro _ hSw; (try dsimp only at hSw); go_simp; try with_reducible rfl)) hHeld ?_
    simp only [Act.put, List.setIfInBounds_toArray, List.set_cons_zero, List.set_cons_succ]
    refine takeY 6 (some 15) rfl rfl (by kernel_rfl) (by kernel_rfl) (by kernel_rfl) (fun _ _ _ h => h) (by rfl) (v := _) (by (intro _ hSw; (try dsimp only at hSw); go_simp; try with_reducible rfl)) hHeld ?_
    simp only [Act.put, List.setIfInBounds_toArray, List.set_cons_zero, List.set_cons_succ]
    refine takeY 7 (some 16) rfl rfl (by kernel_rfl) (by kernel_rfl) (by kernel_rfl) (fun _ _ _ h => h) (by rfl) (v := _) (by (intro _ hSw; (try dsimp only at hSw); go_simp; try with_reducible rfl)) hHeld ?_
    simp only [Act.put, List.setIfInBounds_toArray, List.set_cons_zero, List.set_cons_succ]
    refine takeY 8 (some 17) rfl rfl (by kernel_rfl) (by kernel_rfl) (by kernel_rfl) (fun _ _ _ h => h) (by rfl) (v := _) (by (intro _ hSw; (try dsimp only at hSw); go_simp; try with_reducible rfl)) hHeld ?_
    simp only [Act.put, List.setIfInBounds_toArray, List.set_cons_zero, List.set_cons_succ]
    refine takeY 9 (some 18) rfl rfl (by kernel_rfl) (by kernel_rfl) (by kernel_rfl) (fun _ _ _ h => h) (by rfl) (v := _) (by (intro _ hSw; (try dsimp only at hSw); go_simp; try with_reducible rfl)) hHeld ?_
    simp only [Act.put, List.setIfInBounds_toArray, List.set_cons_zero, List.set_cons_succ]
    refine takeY 10 (some 19) rfl rfl (by kernel_rfl) (by kernel_rfl) (by kernel_rfl) (fun _ _ _ h => h) (by rfl) (v := _) (by (intro _ hSw; (try dsimp only at hSw); go_simp; try with_reducible rfl)) hHeld ?_
    simp only [Act.put, List.setIfInBounds_toArray, List.set_cons_zero, List.set_cons_succ]
    refine wpAnyH_ready (rs := [11]) (by kernel_rfl) (by simp) ?_
    refine AllReadyH.cons rfl (fun K hK => ?_) AllReadyH.nil
    clear hHeld
    go_simp
    (go_at_call 39; refine (HAN.out _).mono ?_; rintro e w8 ⟨rfl, rfl⟩)
    exact ⟨rfl, rfl, (fun V hV => by cases hV), Off.drew _ _⟩
end Go.Proofs.Ytimkiifcmegfeaa
/- code: effect, what its ways lean on (written by cdeff.py). -/
namespace Go.Proofs.Ytimkiifcmegfeaa
open Go.RowKit
set_option linter.unusedVariables false
set_option linter.unusedSimpArgs false
attribute [local go_sem] Oper.semAt_some
/-- How effect ends. -/
def effE (r : Option (Int × Int)) : Ending := match r with
  | some e => .returned (.tuple #[.int .i64 e.1, .int .i64 e.2])
  | none => .panicked [wr]
/-- What effect asks of the memory. -/
structure EfM (w : World) (gw gk fn m pm N : Nat) (g : Int × Int) (cl : Cl) (gv : Value) : Prop where
  c0 : w.cell? ⟨gw, 0, none⟩ = some (.pointer (some ⟨gk, 0, none⟩))
  c1 : w.cell? ⟨gw, 1, none⟩ = some (.int .i64 (fn : Int))
  ck : CkB w gk cl gv pm
  g : ∃ gg, gv = .slice (some ⟨gg, 0, none⟩) m m ∧ w.cell? ⟨gg, fn * 2, none⟩ = some (.int .i64 g.1) ∧ w.cell? ⟨gg, fn * 2 + 1, none⟩ = some (.int .i64 g.2)
  fm : fn < m ∧ m ≤ 1000000
  pr : PrMap w pm N
  N : N < 1000000
theorem EfM.bel {w w' : World} {gw gk fn m pm N : Nat} {g : Int × Int} {cl : Cl} {gv : Value} (h : EfM w gw gk fn m pm N g cl gv) (hb : Below w.heap.size w w') : EfM w' gw gk fn m pm N g cl gv := by
  obtain ⟨gg, e, h1, h2⟩ := h.g
  exact ⟨(hb.cell (World.block_lt_of_cell? w _ h.c0)).trans h.c0, (hb.cell (World.block_lt_of_cell? w _ h.c1)).trans h.c1, Blk.below h.ck hb (Blk.lt h.ck), ⟨gg, e, (hb.cell (World.block_lt_of_cell? w _ h1)).trans h1, (hb.cell (World.block_lt_of_cell? w _ h2)).trans h2⟩, h.fm, h.pr.bel hb, h.N⟩
/-- The boxes. -/
theorem ef_box (k : Int) (a b c h : Int) (r : Nat) (s : ByteArray) (g : Int × Int) (w w1 w2 w3 : World) (q q1 q2 : Nat) (hq : w.heap.size = q) (hq1 : q + 1 = q1) (hq2 : q1 + 1 = q2)
    (hw1 : w.alloc (.cells #[.bool true, .int .i64 h, .int .i64 (r : Int)] 139) = w1) (hw2 : w1.alloc (.cells #[.int .u8 k, .int .i64 a, .int .i64 b, .int .i64 c, .string s] 46) = w2)
    (hw3 : (w2.alloc (.cells #[.int .i64 g.1, .int .i64 g.2] 124)).drew = w3) :
    Below w.heap.size w w2 ∧ Below w.heap.size w w3 ∧ w1.heap.size = q1 ∧ w2.heap.size = q2 ∧ Blk w3 q 139 #[.bool true, .int .i64 h, .int .i64 (r : Int)] ∧ Blk w3 q1 46 #[.int .u8 k, .int .i64 a, .int .i64 b, .int .i64 c, .string s] ∧ Blk w3 q2 124 #[.int .i64 g.1, .int .i64 g.2] := by
  have b1 : Below w.heap.size w w1 := by rw [← hw1]; exact (Below.refl _ _).alloc (Nat.le_refl _) _
  have b2 : Below w1.heap.size w1 w2 := by rw [← hw2]; exact (Below.refl _ _).alloc (Nat.le_refl _) _
  have b3 : Below w2.heap.size w2 w3 := by rw [← hw3]; exact ((Below.refl _ _).alloc (Nat.le_refl _) _).drew
  have B1 : Blk w1 q 139 #[.bool true, .int .i64 h, .int .i64 (r : Int)] := by rw [← hw1, ← hq]; exact Blk.new _ _ _
  have s1 : w1.heap.size = q1 := by rw [← hw1, ← hq1, ← hq]; simp
  have B2 : Blk w2 q1 46 #[.int .u8 k, .int .i64 a, .int .i64 b, .int .i64 c, .string s] := by rw [← hw2, ← s1]; exact Blk.new _ _ _
  have s2 : w2.heap.size = q2 := by rw [← hw2, ← hq2, ← s1]; simp
  have B3 : Blk w3 q2 124 #[.int .i64 g.1, .int .i64 g.2] := by rw [← hw3, ← s2]; exact (Blk.new _ _ _).drew
  have h2 := b1.trans (b2.mono b1.size)
  exact ⟨h2, h2.trans (b3.mono h2.size), s1, s2, (B1.below b2 B1.lt).below b3 (B1.below b2 B1.lt).lt, B2.below b3 B2.lt, B3⟩
end Go.Proofs.Ytimkiifcmegfeaa
