/- Rows of words that are appended to; the reference's Copy. -/
import Derived.Test.YtobfglnopihibaaS
import Derived.Laws.Rows
namespace Go.Proofs.Ytobfglnopihibaa
open Go.RowKit Rcd

def wcs (x : Wd) : List Value := [bv x.k, .int .i64 x.n]
def flat (ws : List Wd) : List Value := ws.flatMap wcs
theorem flat_len (ws : List Wd) : (flat ws).length = ws.length * 2 := by
  induction ws with
  | nil => rfl
  | cons x ws ih => unfold flat at ih ⊢; rw [List.flatMap_cons, List.length_append, ih, List.length_cons]; simp [wcs]; omega
theorem flat_get {ws : List Wd} {r : Nat} {x : Wd} (h : ws[r]? = some x) : (flat ws)[r * 2]? = some (bv x.k) ∧ (flat ws)[r * 2 + 1]? = some (.int .i64 x.n) := by
  induction ws generalizing r with
  | nil => simp at h
  | cons y ws ih =>
    cases r with
    | zero => simp at h; subst h; exact ⟨rfl, rfl⟩
    | succ r =>
      have := ih (r := r) (by simpa using h)
      have e : flat (y :: ws) = wcs y ++ flat ws := rfl
      have hl : (wcs y).length = 2 := rfl
      rw [e, List.getElem?_append_right (by omega), List.getElem?_append_right (by omega), hl, show (r + 1) * 2 - 2 = r * 2 by omega, show (r + 1) * 2 + 1 - 2 = r * 2 + 1 by omega]
      exact this
theorem flat_one {ws : List Wd} : ∀ u ∈ flat ws, u.oneCell' = true := fun u hu => by
  unfold flat at hu
  obtain ⟨x, _, hx⟩ := List.mem_flatMap.1 hu
  simp [wcs] at hx
  rcases hx with rfl | rfl <;> rfl

/-- A row of words, of blocks from B on. -/
structure WdsZ (B : Nat) (W : World) (sv : Value) (ws : List Wd) : Prop where
  own : W.ownsRow B 44 2 sv ws.length (flat ws)
  rng : ∀ x ∈ ws, -9223372036854775808 ≤ x.n ∧ x.n < 9223372036854775808
theorem WdsZ.nil (B : Nat) (W : World) : WdsZ B W (.slice none 0 0) [] := ⟨World.ownsRow_nil _ _ _ _, fun x hx => by simp at hx⟩
theorem WdsZ.lt {B : Nat} {W : World} {sv : Value} {ws : List Wd} (h : WdsZ B W sv ws) (k : Nat) (hk : sv.ownBlock = some k) : B ≤ k ∧ k < W.heap.size := h.own.lt k hk
theorem WdsZ.same {B : Nat} {W W' : World} {sv : Value} {ws : List Wd} (h : WdsZ B W sv ws) (hr : ∀ k, sv.ownBlock = some k → W'.heap[k]? = W.heap[k]?) : WdsZ B W' sv ws := by
  refine ⟨⟨h.own.1, ?_⟩, h.rng⟩
  rcases h.own.2 with h0 | ⟨g, cap, cur, rfl, h1, h2, h3⟩
  · exact .inl h0
  · exact .inr ⟨g, cap, cur, rfl, h1, (hr g rfl).trans h2, h3⟩
theorem WdsZ.below {B : Nat} {W W' : World} {sv : Value} {ws : List Wd} (h : WdsZ B W sv ws) (hb : Below W.heap.size W W') : WdsZ B W' sv ws := h.same fun k hk => hb.block k (h.lt k hk).2
theorem WdsZ.words {B : Nat} {W : World} {sv : Value} {ws : List Wd} (h : WdsZ B W sv ws) : ∃ A c, sv = .slice A ws.length c ∧ ws.length ≤ c ∧ c ≤ maxLen ∧ Words W A ws ∧ (∀ p : Addr, A = some p → B ≤ p.block ∧ p.block < W.heap.size) := by
  rcases h.own.2 with ⟨rfl, h0⟩ | ⟨g, cap, cur, rfl, hB, hg, h1, h2, _⟩
  · have : ws = [] := List.eq_nil_of_length_eq_zero h0
    subst this
    exact ⟨none, 0, rfl, Nat.le_refl _, Nat.zero_le _, fun r x hx => by simp at hx, fun p e => by cases e⟩
  · refine ⟨_, _, rfl, h1, h2, fun r x hx => ?_, fun p e => by cases e; exact h.lt g rfl⟩
    have hr := (List.getElem?_eq_some_iff.1 hx).1
    have c0 := h.own.cellAt (r * 2) (by omega)
    have c1 := h.own.cellAt (r * 2 + 1) (by omega)
    obtain ⟨f0, f1⟩ := flat_get hx
    rw [f0] at c0
    rw [f1] at c1
    exact ⟨g, 0, rfl, (h.lt g rfl).2, by rw [Nat.zero_add]; exact c0, by rw [Nat.zero_add]; exact c1, h.rng x (List.mem_of_getElem? hx)⟩

theorem WdsZ.push {B : Nat} {W : World} {sv : Value} {ws : List Wd} (h : WdsZ B W sv ws) (A : Option Addr) (m c : Nat) (xs : List Wd) (hm : xs.length = m) (hA : Words W A xs) (hB : B ≤ W.heap.size) (hl : ws.length + m < 1000000) :
    ∃ v' w', (Builtin.append_ #[22, 22] 22 #[sv, .slice A m c]).run Try.prog W = .ok v' w' ∧ WdsZ B w' v' (ws ++ xs) ∧ W.grownBy w' sv.ownBlock ∧ (v'.ownBlock = sv.ownBlock ∨ v'.ownBlock = some W.heap.size) := by
  have hI : (Try.prog.info? 44).map (fun i => (i.zero, i.size, i.bytes)) = some (some (.agg #[.int .u8 0, .int .i64 0]), 2, 16) := by kernel_rfl
  obtain ⟨i0, hi, hz0, hz1, hz2⟩ := info_parts hI
  have hrng : ∀ x ∈ ws ++ xs, -9223372036854775808 ≤ x.n ∧ x.n < 9223372036854775808 := fun x hx => by
    rcases List.mem_append.1 hx with h1 | h1
    · exact h.rng x h1
    · obtain ⟨r, hr, rfl⟩ := List.getElem_of_mem h1
      obtain ⟨_, _, _, _, _, _, h2⟩ := hA r _ (List.getElem?_eq_getElem hr)
      exact h2
  have happ : flat (ws ++ xs) = flat ws ++ flat xs := by unfold flat; rw [List.flatMap_append]
  cases A with
  | some a =>
    have hcell : ∀ (j : Nat) (u : Value), (flat xs)[j]? = some u → W.cell? (a.add j) = some u := fun j u hj => by
      have hjl := (List.getElem?_eq_some_iff.1 hj).1
      rw [flat_len] at hjl
      obtain ⟨x, hx⟩ : ∃ x, xs[j / 2]? = some x := ⟨_, List.getElem?_eq_getElem (by omega)⟩
      obtain ⟨b, off, e, _, c0, c1, _⟩ := hA _ x hx
      cases e
      obtain ⟨f0, f1⟩ := flat_get hx
      have e2 : (⟨b, off, none⟩ : Addr).add j = ⟨b, off + j, none⟩ := by unfold Addr.add; split <;> simp_all
      rw [e2]
      rcases Nat.mod_two_eq_zero_or_one j with h0 | h0
      · have ej : j / 2 * 2 = j := by omega
        rw [ej] at c0 f0
        rw [hj] at f0
        rw [c0, f0]
      · have ej : j / 2 * 2 + 1 = j := by omega
        rw [Nat.add_assoc, ej] at c1
        rw [ej, hj] at f1
        rw [c1, f1]
    obtain ⟨v', w', hrun, h2, h3, _, h5⟩ := run_append_own_at (P := Try.prog) W B 22 22 44 i0 (.agg #[.int .u8 0, .int .i64 0]) 2 16 Try.underlying22 hi hz0 hz1 hz2 rfl (by decide) sv ws.length _ h.own a m c (flat xs) (by rw [flat_len, hm]) hcell
      flat_one (by unfold maxLen; omega) (by omega) hB
    exact ⟨v', w', hrun, ⟨by rw [List.length_append, hm, happ]; exact h2, hrng⟩, h3, h5⟩
  | none =>
    have h0 : xs = [] := by
      cases xs with
      | nil => rfl
      | cons d r =>
        obtain ⟨b, off, e, _⟩ := hA 0 d rfl
        cases e
    subst h0
    obtain rfl : 0 = m := hm
    refine ⟨sv, W, ?_, by rw [List.append_nil]; exact h, World.grownBy.refl W _, .inl rfl⟩
    rcases h.own.2 with ⟨rfl, _⟩ | ⟨g, cap, cur, rfl, _, _, hnc, _⟩
    · simp [Builtin.append_, run_underlying Try.underlying22, sizeOf, typeInfo, hi, Builtin.lenOf, Builtin.firstCells]
    · simp [Builtin.append_, run_underlying Try.underlying22, sizeOf, typeInfo, hi, Builtin.lenOf, Builtin.firstCells, hnc, storeCells]

/-- An object in memory, all of it from B on. -/
def ObV (B : Nat) (w : World) (v : Value) (o : Ob) : Prop :=
  ∃ A c, v = .agg #[bv o.k, .int .i64 o.tag, .slice A o.ws.length c, .string (str o.t)] ∧ o.ws.length ≤ c ∧ c ≤ maxLen ∧ Words w A o.ws ∧ (∀ p : Addr, A = some p → B ≤ p.block ∧ p.block < w.heap.size)

set_option maxRecDepth 20000 in
set_option maxHeartbeats 2000000 in
theorem copyobj_any (k : UInt8) (tag : Int) (A : Option Addr) (n c : Nat) (t : List UInt8) (ws : List Wd) (w : World) (hn : ws.length = n) (hA : Words w A ws) (hl : n ≤ 100000) :
    Calls Try.prog 11 #[.agg #[bv k, .int .i64 tag, .slice A n c, .string (str t)]] w fun e w' => ∃ v, e = .returned v ∧ ObV w.heap.size w' v ⟨k, tag, ws, t⟩ ∧ Below w.heap.size w w' := by
  have HN := Lib.hid hn
  obtain ⟨kn, hkn⟩ : ∃ kn, k.toNat = kn := ⟨_, rfl⟩
  have hbv : bv k = .int .u8 (kn : Int) := by rw [← hkn]; rfl
  have HBV := Lib.hid hbv
  rw [hbv]
  obtain ⟨w0, hw0⟩ : ∃ w0, (w.alloc (.cells #[.int .u8 (kn : Int), .int .i64 tag, .slice A n c, .string (str t)] 24)).alloc (.cells #[.int .u8 0, .int .i64 0, .slice none 0 0, .string ⟨#[]⟩] 24) = w0 := ⟨_, rfl⟩
  have hB0 : Blk w0 w.heap.size 24 #[.int .u8 (kn : Int), .int .i64 tag, .slice A n c, .string (str t)] := by rw [← hw0]; exact (Blk.new _ _ _).alloc _
  have hB1 : Blk w0 (w.heap.size + 1) 24 #[.int .u8 0, .int .i64 0, .slice none 0 0, .string ⟨#[]⟩] := by
    have := Blk.new (w.alloc (.cells #[.int .u8 (kn : Int), .int .i64 tag, .slice A n c, .string (str t)] 24)) 24 #[.int .u8 0, .int .i64 0, .slice none 0 0, .string ⟨#[]⟩]
    rw [World.size_alloc] at this
    rw [← hw0]; exact this
  have hb0 : Below w.heap.size w w0 := by rw [← hw0]; exact ((Below.refl _ _).alloc (Nat.le_refl _) _).alloc (by rw [World.size_alloc]; omega) _
  have hz0 : w0.heap.size = w.heap.size + 2 := by rw [← hw0]; simp
  have d0 : w0.cell? ⟨w.heap.size, 0, none⟩ = some (.int .u8 (kn : Int)) := hB0.cell 0
  have d1 : w0.cell? ⟨w.heap.size, 1, none⟩ = some (.int .i64 tag) := hB0.cell 1
  have d2 : w0.cell? ⟨w.heap.size, 2, none⟩ = some (.slice A n c) := hB0.cell 2
  have d3 : w0.cell? ⟨w.heap.size, 3, none⟩ = some (.string (str t)) := hB0.cell 3
  obtain ⟨wX, hwX⟩ : ∃ wX, w0.alloc (.cells #[.int .u8 (kn : Int), .int .i64 tag, .slice none 0 0, .string (str t)] 24) = wX := ⟨_, rfl⟩
  have hbX : Below w0.heap.size w0 wX := by rw [← hwX]; exact (Below.refl _ _).alloc (Nat.le_refl _) _
  have hX : Blk wX w0.heap.size 24 #[.int .u8 (kn : Int), .int .i64 tag, .slice none 0 0, .string (str t)] := by rw [← hwX]; exact Blk.new _ _ _
  have hzX : wX.heap.size = w0.heap.size + 1 := by rw [← hwX]; simp
  obtain ⟨v', w5, hrun, hW5, hg5, ho5⟩ := (WdsZ.nil w.heap.size wX).push A n c ws hn (hA.below (hb0.trans (hbX.mono hb0.size))) (by omega) (by simp; omega)
  have x2 : wX.cell? ⟨w.heap.size, 2, none⟩ = some (.slice A n c) := (hbX.cell (p := ⟨w.heap.size, 2, none⟩) (by show w.heap.size < _; omega)).trans d2
  have hX5 := hX.grown hg5 (by simp [Value.ownBlock])
  have hR5 := (hB1.below hbX hB1.lt).grown hg5 (by simp [Value.ownBlock])
  have e0 : w5.cell? ⟨w0.heap.size, 0, none⟩ = some (.int .u8 (kn : Int)) := hX5.cell 0
  have e1 : w5.cell? ⟨w0.heap.size, 1, none⟩ = some (.int .i64 tag) := hX5.cell 1
  have e2 : w5.cell? ⟨w0.heap.size, 2, none⟩ = some (.slice none 0 0) := hX5.cell 2
  have e3 : w5.cell? ⟨w0.heap.size, 3, none⟩ = some (.string (str t)) := hX5.cell 3
  have r0 : w5.cell? ⟨w.heap.size + 1, 0, none⟩ = some (.int .u8 0) := hR5.cell 0
  have r1 : w5.cell? ⟨w.heap.size + 1, 1, none⟩ = some (.int .i64 0) := hR5.cell 1
  have r2 : w5.cell? ⟨w.heap.size + 1, 2, none⟩ = some (.slice none 0 0) := hR5.cell 2
  have r3 : w5.cell? ⟨w.heap.size + 1, 3, none⟩ = some (.string ⟨#[]⟩) := hR5.cell 3
  have f0 := hX5.frozen
  have f1 := hR5.frozen
  have hne : ¬ (w0.heap.size = w.heap.size + 1) := by omega
  have hne' : ¬ (w.heap.size + 1 = w0.heap.size) := by omega
  rw [← hwX] at hrun x2
  rw [List.nil_append] at hW5
  obtain ⟨A', c', hv', q1, q2, hwd, hB'⟩ := hW5.words
  rw [hn] at hv' q1
  subst hv'
  have HV : Hid (n ≤ c' ∧ c' ≤ maxLen ∧ Words w5 A' ws ∧ ∀ p : Addr, A' = some p → w.heap.size ≤ p.block ∧ p.block < w5.heap.size) := Lib.hid ⟨q1, q2, hwd, hB'⟩
  have HNE : Hid (∀ p : Addr, A' = some p → p.block ≠ w0.heap.size ∧ p.block ≠ w.heap.size + 1) := Lib.hid (fun p e => by
    subst e
    rcases ho5 with h | h
    · cases h
    · have : p.block = wX.heap.size := Option.some.inj h
      omega)
  have HB5 : Hid (Below w.heap.size w w5) := Lib.hid ((hb0.trans (hbX.mono hb0.size)).grown hg5 (by omega) (fun k e => by simp [Value.ownBlock] at e))
  have HR5 := Lib.hid hR5
  have HRUN := Lib.hid hrun
  have HZ0 := Lib.hid hz0
  clear hwd hB' q1 q2 hW5 ho5 hz0 hbv hkn hA hn hrun hX5 hR5 hbX hX hzX hB0 hB1 hg5 hwX
  go_enter Try.func11, Try.ntmps11
  go_wp2_with (at_builtin; refine wpList_app rfl _ _ 22 rfl _ _ _ _ rfl rfl HRUN.out ?_; clear HRUN)
  have HB6 : Blk (((((w5.setCell ⟨w0.heap.size, 2, none⟩ (.slice A' n c')).setCell ⟨w.heap.size + 1, 0, none⟩ (.int .u8 (kn : Int))).setCell ⟨w.heap.size + 1, 1, none⟩ (.int .i64 tag)).setCell ⟨w.heap.size + 1, 2, none⟩ (.slice A' n c')).setCell ⟨w.heap.size + 1, 3, none⟩ (.string (str t))) (w.heap.size + 1) 24 #[.int .u8 (kn : Int), .int .i64 tag, .slice A' n c', .string (str t)] :=
    ((((HR5.out.far (p := ⟨w0.heap.size, 2, none⟩) hne' _).set_ 0 _).set_ 1 _).set_ 2 _).set_ 3 _
  have hz0 := HZ0.out
  refine bodyPost_ret (results_cell_row rfl _ _ (w.heap.size + 1) 24 _ (0, 0) _ rfl HB6 Try.underlying24 rfl (by kernel_rfl)) rfl ?_
  obtain ⟨q1, q2, q3, q4⟩ := HV.out
  have hcells : ∀ k', k' ≠ w0.heap.size → k' ≠ w.heap.size + 1 → (((((w5.setCell ⟨w0.heap.size, 2, none⟩ (.slice A' n c')).setCell ⟨w.heap.size + 1, 0, none⟩ (.int .u8 (kn : Int))).setCell ⟨w.heap.size + 1, 1, none⟩ (.int .i64 tag)).setCell ⟨w.heap.size + 1, 2, none⟩ (.slice A' n c')).setCell ⟨w.heap.size + 1, 3, none⟩ (.string (str t))).heap[k']? = w5.heap[k']? := fun k' h1 h2 => by
    rw [Below.heap_setCell _ _ _ _ h2, Below.heap_setCell _ _ _ _ h2, Below.heap_setCell _ _ _ _ h2, Below.heap_setCell _ _ _ _ h2, Below.heap_setCell _ _ _ _ h1]
  refine ⟨_, rfl, ⟨A', c', ?_, by rw [HN.out]; exact q1, q2, fun r x hx => ?_, fun p e => ?_⟩, ?_⟩
  · dsimp only; rw [HBV.out, HN.out]
  · obtain ⟨b, off, e, hlt, z0, z1, zr⟩ := q3 r x hx
    have hne2 := HNE.out _ e
    have hs := hcells b hne2.1 hne2.2
    exact ⟨b, off, e, by simp only [World.setCell, Array.size_modify]; exact hlt, (World.cell?_of_block (a := ⟨b, off + r * 2, none⟩) hs).trans z0, (World.cell?_of_block (a := ⟨b, off + r * 2 + 1, none⟩) hs).trans z1, zr⟩
  · have := q4 p e
    exact ⟨this.1, by simp only [World.setCell, Array.size_modify]; exact this.2⟩
  · exact ((((HB5.out.setCell (p := ⟨w0.heap.size, 2, none⟩) (by show w.heap.size ≤ w0.heap.size; omega) _).setCell (p := ⟨w.heap.size + 1, 0, none⟩) (Nat.le_succ _) _).setCell (p := ⟨w.heap.size + 1, 1, none⟩) (Nat.le_succ _) _).setCell (p := ⟨w.heap.size + 1, 2, none⟩) (Nat.le_succ _) _).setCell (p := ⟨w.heap.size + 1, 3, none⟩) (Nat.le_succ _) _
end Go.Proofs.Ytobfglnopihibaa
