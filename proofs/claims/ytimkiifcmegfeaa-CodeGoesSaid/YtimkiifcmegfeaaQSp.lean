/- Contracts. -/
import Derived.Test.YtimkiifcmegfeaaQHe
import Derived.Test.YtimkiifcmegfeaaQSm
/- code: the small code in memory. -/
namespace Go.Proofs.Ytimkiifcmegfeaa
open Go.RowKit
set_option linter.unusedVariables false
set_option linter.unusedSimpArgs false
attribute [local go_sem] Oper.semAt_some
/-- The rows of a small code: g, g + 1 its functions, g + 2 their row. -/
structure Sml (w : World) (g : Nat) (A B : List Ins) : Prop where
  a : Blk w g 46 (icl A).toArray
  b : Blk w (g + 1) 46 (icl B).toArray
  r : Blk w (g + 1 + 1) 44 #[.slice (some ⟨g, 0, none⟩) 9 9, .slice (some ⟨g + 1, 0, none⟩) 4 4]
theorem Sml.bel {w w' : World} {g : Nat} {A B : List Ins} (h : Sml w g A B) (hb : Below w.heap.size w w') : Sml w' g A B := ⟨h.a.below hb h.a.lt, h.b.below hb h.b.lt, h.r.below hb h.r.lt⟩
theorem ok_smA : ∀ i ∈ smA, i.ok := by
  intro i h
  simp only [smA, List.mem_cons, List.not_mem_nil, or_false] at h
  rcases h with rfl | rfl | rfl | rfl | rfl | rfl | rfl | rfl | rfl <;> exact ⟨by decide, by decide, by decide, by decide, by decide⟩
theorem ok_smB : ∀ i ∈ smB, i.ok := by
  intro i h
  simp only [smB, List.mem_cons, List.not_mem_nil, or_false] at h
  rcases h with rfl | rfl | rfl | rfl <;> exact ⟨by decide, by decide, by decide, by decide, by decide⟩
theorem Sml.fa {w : World} {g : Nat} {A B : List Ins} (h : Sml w g A B) (hl : A.length = 9) (hA : ∀ i ∈ A, i.ok) : Fe.In (fun b => b < w.heap.size) w ⟨some ⟨g, 0, none⟩, 9, A⟩ :=
  ⟨by show A.length ≤ 9; omega, by show (9 : Nat) ≤ maxLen; decide, ⟨row_blk h.a h.a.lt fun m x j v hx hj => icl_get A m x j v hx hj, hA⟩⟩
theorem Sml.fb {w : World} {g : Nat} {A B : List Ins} (h : Sml w g A B) (hl : B.length = 4) (hB : ∀ i ∈ B, i.ok) : Fe.In (fun b => b < w.heap.size) w ⟨some ⟨g + 1, 0, none⟩, 4, B⟩ :=
  ⟨by show B.length ≤ 4; omega, by show (4 : Nat) ≤ maxLen; decide, ⟨row_blk h.b h.b.lt fun m x j v hx hj => icl_get B m x j v hx hj, hB⟩⟩
/-- A row of two functions. -/
theorem fs2_at {w : World} {g : Nat} {f1 f2 : Fe} (h : Blk w g 44 #[.slice f1.A f1.is.length f1.c, .slice f2.A f2.is.length f2.c]) (h1 : f1.In (fun b => b < w.heap.size) w) (h2 : f2.In (fun b => b < w.heap.size) w) : FsAt (fun b => b < w.heap.size) w (some ⟨g, 0, none⟩) [f1, f2] := by
  refine ⟨row_blk (xs := [.slice f1.A f1.is.length f1.c, .slice f2.A f2.is.length f2.c]) h h.lt fun m x j v hx hj => ?_, fun k hk => ?_⟩
  · rcases m with _ | _ | m
    · cases hx
      rcases j with _ | j
      · exact hj
      · simp [Fe.cells] at hj
    · cases hx
      rcases j with _ | j
      · exact hj
      · simp [Fe.cells] at hj
    · simp at hx
  · simp only [List.mem_cons, List.not_mem_nil, or_false] at hk
    rcases hk with rfl | rfl
    · exact h1
    · exact h2
theorem Sml.fs {w : World} {g : Nat} {A B : List Ins} (h : Sml w g A B) (hl : A.length = 9) (hA : ∀ i ∈ A, i.ok) (hm : B.length = 4) (hB : ∀ i ∈ B, i.ok) : FsAt (fun b => b < w.heap.size) w (some ⟨g + 1 + 1, 0, none⟩) [⟨some ⟨g, 0, none⟩, 9, A⟩, ⟨some ⟨g + 1, 0, none⟩, 4, B⟩] := by
  refine fs2_at ?_ (h.fa hl hA) (h.fb hm hB)
  show Blk w (g + 1 + 1) 44 #[.slice (some ⟨g, 0, none⟩) A.length 9, .slice (some ⟨g + 1, 0, none⟩) B.length 4]
  rw [hl, hm]
  exact h.r
/-- Check of it, with whatever roots. -/
theorem Sml.check {w : World} {g : Nat} {A B : List Ins} (h : Sml w g A B) (hl : A.length = 9) (hA : ∀ i ∈ A, i.ok) (hm : B.length = 4) (hB : ∀ i ∈ B, i.ok) {rA : Option Addr} {rs : List (List UInt8 × List UInt8)} {rc : Nat} (hr : RsAt (fun b => b < w.heap.size) w rA rs) (hrc : rs.length ≤ rc ∧ rc ≤ 1000000) {e0 : Int} (he : (if checkB ⟨[A, B], rs⟩ = true then (0 : Int) else 17) = e0) :
    Calls Try.prog 20 #[.agg #[.slice (some ⟨g + 1 + 1, 0, none⟩) 2 2, .slice rA rs.length rc]] w fun e w' => e = .returned (.int .i64 e0) ∧ Below w.heap.size w w' := by
  have hK := check_any ⟨[⟨some ⟨g, 0, none⟩, 9, A⟩, ⟨some ⟨g + 1, 0, none⟩, 4, B⟩], some ⟨g + 1 + 1, 0, none⟩, 2, rs, rA, rc⟩ w ⟨h.fs hl hA hm hB, hr, ⟨show (2 : Nat) ≤ 2 by decide, show (2 : Nat) ≤ maxLen by decide⟩, ⟨hrc.1, by show rc ≤ maxLen; have := hrc.2; unfold maxLen; omega⟩⟩ (show (2 : Nat) ≤ 1000000 by decide) (show rs.length ≤ 1000000 by omega) (by show A.length + (B.length + 0) ≤ 400000; omega)
  rw [show Cl.cd ⟨[⟨some ⟨g, 0, none⟩, 9, A⟩, ⟨some ⟨g + 1, 0, none⟩, 4, B⟩], some ⟨g + 1 + 1, 0, none⟩, 2, rs, rA, rc⟩ = ⟨[A, B], rs⟩ from rfl, he] at hK
  exact hK
set_option maxRecDepth 20000 in
set_option maxHeartbeats 2000000 in
theorem small_any (w : World) : Calls Try.prog 25 #[] w fun e w' => ∃ g, e = .returned (.agg #[.slice (some ⟨g + 1 + 1, 0, none⟩) 2 2, .slice none 0 0]) ∧ w.heap.size ≤ g ∧ Sml w' g smA smB ∧ Below w.heap.size w w' := by
  go_enter Try.func25, Try.ntmps25
  go_wp2_with fail
  obtain ⟨w1, hw1⟩ : ∃ V, w.alloc (.cells #[.slice (some ⟨w.heap.size + 1 + 1 + 1, 0, none⟩) 2 2, .slice none 0 0] 25) = V := ⟨_, rfl⟩
  obtain ⟨w2, hw2⟩ : ∃ V, w1.alloc (.cells (icl smA).toArray 46) = V := ⟨_, rfl⟩
  obtain ⟨w3, hw3⟩ : ∃ V, w2.alloc (.cells (icl smB).toArray 46) = V := ⟨_, rfl⟩
  obtain ⟨w4, hw4⟩ : ∃ V, w3.alloc (.cells #[.slice (some ⟨w.heap.size + 1, 0, none⟩) 9 9, .slice (some ⟨w.heap.size + 1 + 1, 0, none⟩) 4 4] 44) = V := ⟨_, rfl⟩
  have s1 : w1.heap.size = w.heap.size + 1 := by rw [← hw1]; simp
  have s2 : w2.heap.size = w.heap.size + 1 + 1 := by rw [← hw2, World.size_alloc, s1]
  have s3 : w3.heap.size = w.heap.size + 1 + 1 + 1 := by rw [← hw3, World.size_alloc, s2]
  have b1 : Below w.heap.size w w1 := by rw [← hw1]; exact (Below.refl _ _).alloc (Nat.le_refl _) _
  have b2 : Below w1.heap.size w1 w2 := by rw [← hw2]; exact (Below.refl _ _).alloc (Nat.le_refl _) _
  have b3 : Below w2.heap.size w2 w3 := by rw [← hw3]; exact (Below.refl _ _).alloc (Nat.le_refl _) _
  have b4 : Below w3.heap.size w3 w4 := by rw [← hw4]; exact (Below.refl _ _).alloc (Nat.le_refl _) _
  have B2 : Blk w2 (w.heap.size + 1) 46 (icl smA).toArray := by rw [← hw2, ← s1]; exact Blk.new _ _ _
  have B3 : Blk w3 (w.heap.size + 1 + 1) 46 (icl smB).toArray := by rw [← hw3, ← s2]; exact Blk.new _ _ _
  have B4 : Blk w4 (w.heap.size + 1 + 1 + 1) 44 #[.slice (some ⟨w.heap.size + 1, 0, none⟩) 9 9, .slice (some ⟨w.heap.size + 1 + 1, 0, none⟩) 4 4] := by rw [← hw4, ← s3]; exact Blk.new _ _ _
  have b34 := b3.trans (b4.mono b3.size)
  have b24 := b2.trans (b34.mono b2.size)
  have b14 := b1.trans (b24.mono b1.size)
  have B1 : Blk w1 w.heap.size 25 #[.slice (some ⟨w.heap.size + 1 + 1 + 1, 0, none⟩) 2 2, .slice none 0 0] := by rw [← hw1]; exact Blk.new _ _ _
  have B14 := B1.below b24 B1.lt
  have h4 : Sml w4 (w.heap.size + 1) smA smB := ⟨B2.below b34 B2.lt, B3.below b4 B3.lt, B4⟩
  have e9 : (((w.alloc (.cells #[.slice (some ⟨w.heap.size + 1 + 1 + 1, 0, none⟩) 2 2, .slice none 0 0] 25)).alloc (.cells (icl smA).toArray 46)).alloc (.cells (icl smB).toArray 46)).alloc (.cells #[.slice (some ⟨w.heap.size + 1, 0, none⟩) 9 9, .slice (some ⟨w.heap.size + 1 + 1, 0, none⟩) 4 4] 44) = w4 := by rw [hw1, hw2, hw3, hw4]
  have HQ := Lib.hid (And.intro B14 (And.intro h4 b14))
  clear hw1 hw2 hw3 hw4 B1 B2 B3 B4 B14 b1 b2 b3 b4 b34 b24 b14 h4 s1 s2 s3
  show bodyPost Try.prog Try.f25 _ Exit.ret _ ((((w.alloc (.cells #[.slice (some ⟨w.heap.size + 1 + 1 + 1, 0, none⟩) 2 2, .slice none 0 0] 25)).alloc (.cells (icl smA).toArray 46)).alloc (.cells (icl smB).toArray 46)).alloc (.cells #[.slice (some ⟨w.heap.size + 1, 0, none⟩) 9 9, .slice (some ⟨w.heap.size + 1 + 1, 0, none⟩) 4 4] 44))
  rw [e9]
  refine bodyPost_ret (results_cell_row rfl _ _ w.heap.size 25 _ (0, 0) _ rfl HQ.out.1 Try.underlying25 rfl (by kernel_rfl)) rfl ?_
  exact ⟨w.heap.size + 1, rfl, by omega, HQ.out.2.1, HQ.out.2.2⟩
theorem icl_set : ∀ (l : List Ins) (k : Nat) (x : Ins), k < l.length → (((((icl l).set (k * 5) (.int .u8 (x.op : Int))).set (k * 5 + 1) (.int .i64 x.a)).set (k * 5 + 2) (.int .i64 x.b)).set (k * 5 + 3) (.int .i64 x.c)).set (k * 5 + 4) (.string (str x.tx)) = icl (l.set k x)
  | [], k, x, h => by simp at h
  | i :: l, 0, x, _ => rfl
  | i :: l, k + 1, x, h => by
    have e : ∀ (j : Nat) (v : Value) (L : List Value), (i.cells ++ L).set ((k + 1) * 5 + j) v = i.cells ++ L.set (k * 5 + j) v := fun j v L => by
      rw [List.set_append_right _ _ (by show 5 ≤ _; omega)]
      congr 2
      show (k + 1) * 5 + j - 5 = k * 5 + j
      omega
    have e0 : ∀ (v : Value) (L : List Value), (i.cells ++ L).set ((k + 1) * 5) v = i.cells ++ L.set (k * 5) v := fun v L => e 0 v L
    rw [icl, e0, e, e, e, e, icl_set l k x (by simpa using h)]
    rfl
theorem Blk.set5 {w W : World} {g : Nat} {l : List Ins} {k : Nat} {x : Ins} (h : Blk w g 46 (icl l).toArray) (hk : k < l.length) (hW : (((((w.setCell ⟨g, k * 5, none⟩ (.int .u8 (x.op : Int))).setCell ⟨g, k * 5 + 1, none⟩ (.int .i64 x.a)).setCell ⟨g, k * 5 + 2, none⟩ (.int .i64 x.b)).setCell ⟨g, k * 5 + 3, none⟩ (.int .i64 x.c)).setCell ⟨g, k * 5 + 4, none⟩ (.string (str x.tx))).drew = W) : Blk W g 46 (icl (l.set k x)).toArray := by
  rw [← hW]
  have h5 := ((((h.set_ (k * 5) (.int .u8 (x.op : Int))).set_ (k * 5 + 1) (.int .i64 x.a)).set_ (k * 5 + 2) (.int .i64 x.b)).set_ (k * 5 + 3) (.int .i64 x.c)).set_ (k * 5 + 4) (.string (str x.tx))
  simp only [List.setIfInBounds_toArray] at h5
  rw [icl_set l k x hk] at h5
  exact h5.drew
theorem Blk.far5 {w W : World} {b g : Nat} {t : TypeId} {cs : Array Value} {k : Nat} {v0 v1 v2 v3 v4 : Value} (h : Blk w b t cs) (hne : b ≠ g) (hW : (((((w.setCell ⟨g, k * 5, none⟩ v0).setCell ⟨g, k * 5 + 1, none⟩ v1).setCell ⟨g, k * 5 + 2, none⟩ v2).setCell ⟨g, k * 5 + 3, none⟩ v3).setCell ⟨g, k * 5 + 4, none⟩ v4).drew = W) : Blk W b t cs := by
  rw [← hW]
  exact (((((h.far (p := ⟨g, k * 5, none⟩) hne v0).far (p := ⟨g, k * 5 + 1, none⟩) hne v1).far (p := ⟨g, k * 5 + 2, none⟩) hne v2).far (p := ⟨g, k * 5 + 3, none⟩) hne v3).far (p := ⟨g, k * 5 + 4, none⟩) hne v4).drew
theorem below5 {B : Nat} {w0 w W : World} {g k : Nat} {v0 v1 v2 v3 v4 : Value} (h : Below B w0 w) (hg : B ≤ g) (hW : (((((w.setCell ⟨g, k * 5, none⟩ v0).setCell ⟨g, k * 5 + 1, none⟩ v1).setCell ⟨g, k * 5 + 2, none⟩ v2).setCell ⟨g, k * 5 + 3, none⟩ v3).setCell ⟨g, k * 5 + 4, none⟩ v4).drew = W) : Below B w0 W := by
  rw [← hW]
  exact (below_set (below_set (below_set (below_set (below_set h _ _ _ hg) _ _ _ hg) _ _ _ hg) _ _ _ hg) _ _ _ hg).drew
/-- A row of one's own, of functions. -/
theorem fs_own {w : World} {B n c : Nat} {A : Option Addr} {fs : List Fe} (h : w.ownsRow B 44 1 (.slice A n c) n (fs.map fval)) (hl : fs.length = n) (hf : ∀ f ∈ fs, f.In (fun b => b < w.heap.size) w) : FsAt (fun b => b < w.heap.size) w A fs :=
  ⟨(row_own (cl := Fe.cells) h hl (fun _ => rfl) (fun m x j u hx hj => by
    rcases j with _ | j
    · rw [Nat.mul_one, Nat.add_zero, List.getElem?_map, hx]; exact hj
    · simp [Fe.cells] at hj)).mono fun b hlt _ => hlt, hf⟩
theorem own_far {w : World} {B : Nat} {e : TypeId} {s n : Nat} {v : Value} {xs : List Value} (h : w.ownsRow B e s v n xs) (g i : Nat) (u : Value) (hne : v.ownBlock ≠ some g) : (w.setCell ⟨g, i, none⟩ u).ownsRow B e s v n xs := by
  rcases h with ⟨h1, h | ⟨k, cap, cur, rfl, h2, h3, h4⟩⟩
  · exact ⟨h1, .inl h⟩
  · exact ⟨h1, .inr ⟨k, cap, cur, rfl, h2, (Below.heap_setCell w ⟨g, i, none⟩ u k (fun e => hne (by rw [e]; rfl))).trans h3, h4⟩⟩
theorem own_cap' {w : World} {B : Nat} {e : TypeId} {s m n c : Nat} {A : Option Addr} {xs : List Value} (h : w.ownsRow B e s (.slice A n c) m xs) (hm : n = m) (h0 : 0 < n) : ∃ k, A = some ⟨k, 0, none⟩ ∧ B ≤ k ∧ k < w.heap.size ∧ n ≤ c ∧ c ≤ maxLen ∧ ∀ j, w.frozen? ⟨k, j, none⟩ = false := by
  subst hm
  have hth := own_thaw h
  rcases h.2 with ⟨e, e0⟩ | ⟨g, cap', cur, e, h1, h2, h3, h4, _⟩
  · omega
  · injection e with e1 e2 e3
    subst e1 e3
    exact ⟨g, rfl, h1, (Array.getElem?_eq_some_iff.1 h2).1, h3, h4, fun j => hth _ rfl j⟩
theorem own_cell {w : World} {B : Nat} {e : TypeId} {s m n c k : Nat} {xs : List Value} (h : w.ownsRow B e s (.slice (some ⟨k, 0, none⟩) n c) m xs) {j : Nat} {v : Value} (hj : xs[j]? = some v) : w.cell? ⟨k, j, none⟩ = some v := by
  rcases h.2 with ⟨e, e0⟩ | ⟨g, cap', cur, e, h1, h2, h3, h4, h5, h6⟩
  · cases e
  · injection e with e1
    injection e1 with e1
    injection e1 with e1
    subst e1
    have hlt := (List.getElem?_eq_some_iff.1 hj).1
    rw [h.1] at hlt
    rw [cell_of_row w k j cur _ (0, 0) h2, ← Array.getElem?_toList]
    rw [← h6, List.getElem?_take_of_lt hlt] at hj
    exact hj
def thr : List Ins := [⟨3, 0, 0, 0, []⟩, ⟨8, 0, 0, 0, []⟩]
theorem ok_thr : ∀ i ∈ thr, i.ok := by
  intro i h
  simp only [thr, List.mem_cons, List.not_mem_nil, or_false] at h
  rcases h with rfl | rfl <;> exact ⟨by decide, by decide, by decide, by decide, by decide⟩
def grp : Ins := ⟨6, 1, 1, 0, []⟩
/-- A small code in which an instruction is another one, that may not be. -/
theorem spoilt_check {w W : World} {g gf f k : Nat} {l : List Ins} {x : Ins} (hm : Sml w g smA smB) (hf2 : f < 2) (hl : (if f = 0 then smA else smB) = l) (hgf : g + f = gf) (hk : k < l.length) (hx : x.ok) (hb : opnd 2 0 (l.length : Int) x = false)
    (hW : (((((w.setCell ⟨gf, k * 5, none⟩ (.int .u8 (x.op : Int))).setCell ⟨gf, k * 5 + 1, none⟩ (.int .i64 x.a)).setCell ⟨gf, k * 5 + 2, none⟩ (.int .i64 x.b)).setCell ⟨gf, k * 5 + 3, none⟩ (.int .i64 x.c)).setCell ⟨gf, k * 5 + 4, none⟩ (.string (str x.tx))).drew = W) :
    Calls Try.prog 20 #[.agg #[.slice (some ⟨g + 1 + 1, 0, none⟩) 2 2, .slice none 0 0]] W fun e w' => e = .returned (.int .i64 17) ∧ Below W.heap.size W w' := by
  have hset : ∀ (L : List Ins), (∀ i ∈ L, i.ok) → ∀ i ∈ L.set k x, i.ok := fun L hL i hi => by
    rcases List.mem_or_eq_of_mem_set hi with h | h
    · exact hL i h
    · rw [h]; exact hx
  rcases (show f = 0 ∨ f = 1 by omega) with rfl | rfl
  · rw [if_pos rfl] at hl
    subst hl
    obtain rfl : g = gf := hgf
    have h1 : Sml W g (smA.set k x) smB := ⟨Blk.set5 hm.a hk hW, Blk.far5 hm.b (by omega) hW, Blk.far5 hm.r (by omega) hW⟩
    exact h1.check (by rw [List.length_set]; rfl) (hset smA ok_smA) rfl ok_smB (rs_nil _ _) ⟨Nat.le_refl _, by decide⟩ (e0 := 17) (by
      have h2 := sm_spoilt (f := 0) (x := x) rfl hk hb
      rw [show (⟨[smA.set k x, smB], []⟩ : Cd) = ⟨[smA, smB].set 0 (smA.set k x), []⟩ from rfl, h2]; rfl)
  · rw [if_neg (by decide)] at hl
    subst hl
    obtain rfl : g + 1 = gf := hgf
    have h1 : Sml W g smA (smB.set k x) := ⟨Blk.far5 hm.a (by omega) hW, Blk.set5 hm.b hk hW, Blk.far5 hm.r (by omega) hW⟩
    exact h1.check rfl ok_smA (by rw [List.length_set]; rfl) (hset smB ok_smB) (rs_nil _ _) ⟨Nat.le_refl _, by decide⟩ (e0 := 17) (by
      have h2 := sm_spoilt (f := 1) (x := x) rfl hk hb
      rw [show (⟨[smA, smB.set k x], []⟩ : Cd) = ⟨[smA, smB].set 1 (smB.set k x), []⟩ from rfl, h2]; rfl)
end Go.Proofs.Ytimkiifcmegfeaa
