/- pages: a map in memory; New, Copy. -/
import Derived.Test.YtcmaehilgeonjaaM
import Derived.Laws.Tables
namespace Go.Proofs.Ytcmaehilgeonjaa
open Go.RowKit Pgs

/-- A row of numbers of 16 bits; of int. -/
def row16 (L : List Nat) : Array Value := (L.map fun (n : Nat) => Value.int .u16 (n : Int)).toArray
def rowI (L : List Nat) : Array Value := (L.map fun (n : Nat) => Value.int .i64 (n : Int)).toArray
theorem row16_size (L : List Nat) : (row16 L).size = L.length := by simp [row16]
theorem rowI_size (L : List Nat) : (rowI L).size = L.length := by simp [rowI]
theorem row16_get {L : List Nat} {i x : Nat} (h : L[i]? = some x) : (row16 L)[i]? = some (.int .u16 (x : Int)) := by simp [row16, h]
theorem rowI_get {L : List Nat} {i x : Nat} (h : L[i]? = some x) : (rowI L)[i]? = some (.int .i64 (x : Int)) := by simp [rowI, h]
theorem row16_set (L : List Nat) (i x : Nat) : (row16 L).setIfInBounds i (.int .u16 (x : Int)) = row16 (L.set i x) := by
  unfold row16
  rw [List.setIfInBounds_toArray, List.map_set]
theorem rowI_set (L : List Nat) (i x : Nat) : (rowI L).setIfInBounds i (.int .i64 (x : Int)) = rowI (L.set i x) := by
  unfold rowI
  rw [List.setIfInBounds_toArray, List.map_set]
theorem row16_one (L : List Nat) : (row16 L).all (·.oneCell') = true := by
  unfold row16
  simp [Value.oneCell']
theorem rowI_one (L : List Nat) : (rowI L).all (·.oneCell') = true := by
  unfold rowI
  simp [Value.oneCell']

/-- The code's map at block g. -/
structure PM (w : World) (g : Nat) (L : List Nat) : Prop where
  blk : Blk w g 53 (row16 L)
  ok : Ok L
theorem PM.below {w w' : World} {g : Nat} {L : List Nat} (h : PM w g L) (hb : Below w.heap.size w w') : PM w' g L := ⟨h.blk.below hb h.blk.lt, h.ok⟩
theorem PM.same {w w' : World} {g : Nat} {L : List Nat} (h : PM w g L) (hb : w'.heap[g]? = w.heap[g]?) : PM w' g L := ⟨h.blk.same hb, h.ok⟩
theorem PM.cell {w : World} {g : Nat} {L : List Nat} (h : PM w g L) {i x : Nat} (hx : L[i]? = some x) : w.cell? ⟨g, i, none⟩ = some (.int .u16 (x : Int)) := by rw [h.blk.cell i]; exact row16_get hx
theorem PM.set {w : World} {g : Nat} {L : List Nat} (h : PM w g L) (i x : Nat) (hi : i < 1024) (hx : x < 65536) : PM (w.setCell ⟨g, i, none⟩ (.int .u16 (x : Int))) g (L.set i x) := by
  refine ⟨?_, h.ok.set i x hi hx⟩
  have := h.blk.set_ i (.int .u16 (x : Int))
  rwa [row16_set] at this

/-- A value of one part. -/
theorem wpList_build1 {P : Program} {ops : Array Oper} {rest : List Oper} {o : Oper} {a : Act} {w : World} {Q : Exit → Act → World → Prop} (hg : o.guard = none) (t : TypeId) (x : Operand) (ho : o.op = .build t #[(0, x)]) (v : Value) (hx : a.eval x = v) (cells : Array Value)
    (hb : P.built t [(0, v)] = some cells) (h : wpList P ops Q rest (a.put o.dst (.agg cells)) w) : wpList P ops Q (o :: rest) a w := by
  subst hx
  refine wpList_build hg t #[(0, x)] ho (by simp [hb]) ?_
  simp only [List.map_toArray, List.map_cons, List.map_nil, hb, Option.getD_some]
  exact h
theorem built_new : Try.prog.built 53 [] = some (row16 none_) := by kernel_rfl

set_option maxHeartbeats 1000000 in
theorem new_any (w : World) : Calls Try.prog 11 #[] w fun e w' => e = .returned (.pointer (some ⟨w.heap.size, 0, none⟩)) ∧ PM w' w.heap.size none_ ∧ Below w.heap.size w w' := by
  have hb := built_new
  obtain ⟨Z, hZ⟩ : ∃ Z, row16 none_ = Z := ⟨_, rfl⟩
  rw [hZ] at hb
  have HP : Hid (PM (w.alloc (.cells Z 53)) w.heap.size none_) := Lib.hid ⟨by rw [hZ]; exact Blk.new _ _ _, none_ok⟩
  have HB : Hid (Below w.heap.size w (w.alloc (.cells Z 53))) := Lib.hid ((Below.refl _ _).alloc (Nat.le_refl _) _)
  clear hZ
  go_enter Try.func11, Try.ntmps11
  go_wp2_with (refine wpList_build rfl 53 #[] rfl (by simp [hb]) ?_; simp only [List.map_toArray, List.map_nil, hb, Option.getD_some])
  go_ret
  exact ⟨rfl, HP.out, HB.out⟩

theorem foldl_set (l : List Value) : ∀ (k : Nat) (a : Array Value), k + l.length ≤ a.size → ∀ i, ((l.zipIdx k).foldl (fun (a : Array Value) (x : Value × Nat) => a.setIfInBounds (0 + x.2) x.1) a)[i]? = if k ≤ i ∧ i < k + l.length then l[i - k]? else a[i]? := by
  induction l with
  | nil => intro k a _ i; rw [if_neg (by rw [List.length_nil]; omega)]; rfl
  | cons c r ih =>
    intro k a ha i
    rw [List.length_cons] at ha
    rw [List.zipIdx_cons, List.foldl_cons, ih (k + 1) _ (by rw [Array.size_setIfInBounds]; omega) i, List.length_cons]
    dsimp only
    by_cases h1 : k + 1 ≤ i ∧ i < k + 1 + r.length
    · rw [if_pos h1, if_pos (by omega), show i - k = (i - (k + 1)) + 1 by omega, List.getElem?_cons_succ]
    · rw [if_neg h1, Array.getElem?_setIfInBounds, Nat.zero_add]
      by_cases h2 : k = i
      · subst h2
        rw [if_pos rfl, if_pos (by omega), if_pos (by omega), Nat.sub_self]; rfl
      · rw [if_neg h2, if_neg (by omega)]
theorem fill_all (place : Nat → Option (Nat × Nat)) (z cs : Array Value) (hp : place 0 = some (0, cs.size)) (hz : z.size = cs.size) : Instr.fill place z [(0, .agg cs)] = some cs := by
  unfold Instr.fill
  rw [hp]
  have hc : (Value.agg cs).cells = cs := rfl
  simp only [hc, Nat.zero_add, ne_eq, not_true, decide_false, Bool.false_or, hz, gt_iff_lt, Nat.lt_irrefl, Bool.false_eq_true, reduceIte]
  unfold Instr.fill
  congr 1
  apply Array.ext_getElem?
  intro i
  have h := foldl_set cs.toList 0 z (by rw [Array.length_toList]; omega) i
  rw [← Array.foldl_toList, Array.toList_zipIdx]
  simp only [Nat.zero_add] at h ⊢
  rw [h]
  by_cases hi : i < cs.size
  · rw [if_pos (by simpa using hi)]; simp
  · rw [if_neg (by simpa using hi), Array.getElem?_eq_none (by omega), Array.getElem?_eq_none (by omega)]

theorem Try.infoMap : (Try.prog.info? 53).map (fun i => (i.zero.map (·.cells.size), i.size)) = some (some 1116, 1116) := by kernel_rfl
theorem Try.info1116 : (Try.prog.info? 51).map (·.size) = some 1116 := by kernel_rfl
theorem built_map (cs : Array Value) (h : cs.size = 1116) : Try.prog.built 53 [(0, .agg cs)] = some cs := by
  have hi := Try.infoMap
  have h1 := Try.info1116
  unfold Program.built
  cases hq : Try.prog.info? 53 with
  | none => rw [hq] at hi; cases hi
  | some it =>
    rw [hq] at hi
    simp only [Option.map_some, Option.some.injEq, Prod.mk.injEq] at hi
    rw [Try.underlying53]
    cases hz : it.zero with
    | none => rw [hz] at hi; cases hi.1
    | some z =>
      rw [hz] at hi
      simp only [Option.map_some, Option.some.injEq] at hi
      cases hq1 : Try.prog.info? 51 with
      | none => rw [hq1] at h1; cases h1
      | some ie =>
        rw [hq1] at h1
        simp only [Option.map_some, Option.some.injEq] at h1
        simp only [List.mapM_cons, List.mapM_nil, hq1, Option.map_some, h1]
        rw [hz]
        show Instr.fill _ z.cells [(0, .agg cs)] = some cs
        refine fill_all _ z.cells cs ?_ (by rw [hi.1, h])
        rw [h]
        rfl

set_option maxHeartbeats 1000000 in
theorem copy_some (g : Nat) (L : List Nat) (w : World) (h : PM w g L) : Calls Try.prog 13 #[.pointer (some ⟨g, 0, none⟩)] w fun e w' => e = .returned (.pointer (some ⟨w.heap.size, 0, none⟩)) ∧ PM w' w.heap.size L ∧ Below w.heap.size w w' := by
  obtain ⟨Z, hZ⟩ : ∃ Z, row16 L = Z := ⟨_, rfl⟩
  have hs : Z.size = 1116 := by rw [← hZ, row16_size, h.ok.len]
  have hb := built_map Z hs
  have HZ := Lib.hid hs
  have HG : Hid (w.heap[g]? = some (.cells Z 53 (0, 0))) := Lib.hid (by rw [← hZ]; exact h.blk)
  have HP : Hid (PM (w.alloc (.cells Z 53)) w.heap.size L) := Lib.hid ⟨by rw [hZ]; exact Blk.new _ _ _, h.ok⟩
  have HB : Hid (Below w.heap.size w (w.alloc (.cells Z 53))) := Lib.hid ((Below.refl _ _).alloc (Nat.le_refl _) _)
  clear hZ hs h
  go_enter Try.func13, Try.ntmps13
  go_wp2_with (first
    | (refine wpList_load_row rfl 51 (.tmp 7) rfl g rfl _ Z (0, 0) _ HG.out Try.underlying51 rfl (by rw [HZ.out]; exact Try.info1116) ?_)
    | (refine wpList_build1 rfl 53 (.tmp 8) rfl _ rfl Z hb ?_))
  go_ret
  exact ⟨rfl, HP.out, HB.out⟩
end Go.Proofs.Ytcmaehilgeonjaa
