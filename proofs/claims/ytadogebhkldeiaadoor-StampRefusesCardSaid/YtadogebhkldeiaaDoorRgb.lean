/- stamp: the region of StampRefuses that lays the ten types, second part. Written by wip/strg.py. -/
import Derived.Test.YtadogebhkldeiaaDoorRg
namespace Go.Proofs.YtadogebhkldeiaaDoor
open Go.RowKit Ty
set_option linter.unusedVariables false
set_option linter.unusedSimpArgs false
attribute [local go_sem] Oper.semAt_some

set_option maxRecDepth 100000 in
set_option maxHeartbeats 4000000 in
theorem rg2AB (Q : Exit → Act → World → Prop) (hQ : ∀ c d v (a : Act) (w : World), Q (.panic c) (a.put d v) w → Q (.panic c) a w) (w2 : World) (q : Nat) (x0 x1 x2 : Value) (HS : Hid (∀ W, Below w2.heap.size w2 W → (fun W : World => W.cell? ⟨q, 0, none⟩ = some (.int .u8 2) ∧ W.cell? ⟨q, 1, none⟩ = some (.string ⟨#[105, 110, 116]⟩) ∧ W.cell? ⟨q, 2, none⟩ = some (.int .i64 0) ∧ W.cell? ⟨q, 3, none⟩ = some (.slice none 0 0)) W)) (HEnd : Hid (RgEnd Q w2 q x0 x1 x2)) (W : World) (T : Hid (Below w2.heap.size w2 W)) (mA : Nat) (FA : Hid (Blk W mA 24 #[.int .u8 2, .string ⟨#[105, 110, 116]⟩, .int .i64 0, .slice none 0 0, .int .u8 2, .string ⟨#[105, 110, 116]⟩, .int .i64 0, .slice none 0 0])) (mB : Nat) (FB : Hid (Blk W mB 24 #[.int .u8 2, .string ⟨#[105, 110, 116]⟩, .int .i64 0, .slice none 0 0])) : wpAnyH Tryd.prog .any rops Q (fun W : World => W.cell? ⟨q, 0, none⟩ = some (.int .u8 2) ∧ W.cell? ⟨q, 1, none⟩ = some (.string ⟨#[105, 110, 116]⟩) ∧ W.cell? ⟨q, 2, none⟩ = some (.int .i64 0) ∧ W.cell? ⟨q, 3, none⟩ = some (.slice none 0 0)) 9 #[true, true, true, true, true, true, true, true, true, false, false, false, true, true, false, false, true, false, false, true, false, false] { tmps := #[x0, x1, x2, undef, undef, undef, .bool false, .pointer (some ⟨q, 0, none⟩), undef, undef, undef, undef, undef, undef, undef, undef, .agg #[.int .u8 2, .string ⟨#[105, 110, 116]⟩, .int .i64 0, .slice none 0 0], .agg #[.int .u8 2, .string ⟨#[105, 110, 116]⟩, .int .i64 0, .slice none 0 0], .agg #[.int .u8 2, .string ⟨#[105, 110, 116]⟩, .int .i64 0, .slice none 0 0], .slice (some ⟨mA, 0, none⟩) 2 2, .agg #[.int .u8 3, .string ⟨#[]⟩, .int .i64 0, .slice (some ⟨mA, 0, none⟩) 2 2], .agg #[.int .u8 1, .string ⟨#[39, 98]⟩, .int .i64 0, .slice none 0 0], .agg #[.int .u8 2, .string ⟨#[101, 120, 110]⟩, .int .i64 0, .slice none 0 0], .agg #[.int .u8 2, .string ⟨#[110, 111, 98, 111, 100, 121]⟩, .int .i64 0, .slice none 0 0], .agg #[.int .u8 2, .string ⟨#[105, 110, 116]⟩, .int .i64 0, .slice none 0 0], .slice (some ⟨mB, 0, none⟩) 1 1, undef, undef, undef, .agg #[.int .u8 2, .string ⟨#[105, 110, 116]⟩, .int .i64 0, .slice none 0 0], .agg #[.int .u8 2, .string ⟨#[105, 110, 116]⟩, .int .i64 0, .slice none 0 0], undef, undef, .agg #[.int .u8 2, .string ⟨#[105, 110, 116]⟩, .int .i64 0, .slice none 0 0], undef, undef, .agg #[.int .u8 0, .string ⟨#[]⟩, .int .i64 0, .slice none 0 0], undef, undef, undef, undef, undef, undef, undef, undef, undef, undef, undef, undef, undef, undef, undef, undef, undef, undef, undef, undef, undef, undef, undef, undef, undef, undef, undef, undef, undef, undef, undef, undef, undef, undef, undef, undef, undef, undef, undef, undef, undef, undef, undef, undef, undef, undef, undef, undef, undef, undef, undef, undef, undef, undef, undef, undef, undef, undef, undef, undef, undef, undef, undef, undef, undef, undef, undef, undef, undef, undef, undef, undef], defers := [] } W := by
  have hHeld := HS.out W T.out
  refine wpAnyH_ready (rs := [9, 14, 17]) (by kernel_rfl) (by simp) ?_
  refine AllReadyH.cons (o := { dst := some 26, op := Op.call { callee := Callee.value (Operand.func 10), args := #[Operand.const (Value.string { data := #[105, 110, 116] }), Operand.tmp 25], argTypes := #[9, 22] }, type := 24, pos := "law.go:211", after := #[{ on := 8, ground := Ground.data }, { on := 6, ground := Ground.chain }], guard := none }) rfl (fun K hK => ?_) (AllReadyH.cons (o := { dst := some 31, op := Op.buildSlice 22 2 #[(0, Operand.tmp 29), (1, Operand.tmp 30)], type := 22, pos := "law.go:211", after := #[{ on := 12, ground := Ground.data }, { on := 13, ground := Ground.data }], guard := none }) rfl (fun K hK => ?_) (AllReadyH.cons (o := { dst := some 34, op := Op.buildSlice 22 1 #[(0, Operand.tmp 33)], type := 22, pos := "law.go:211", after := #[{ on := 16, ground := Ground.data }], guard := none }) rfl (fun K hK => ?_) AllReadyH.nil))
  · have HT := Lib.hid (named_any ⟨#[105, 110, 116]⟩ (some ⟨mB, 0, none⟩) 1 1 W)
    clear hHeld
    go_simp
    go_wp2_with (go_at_call 10; refine Calls.mono HT.out ?_; rintro e b ⟨rfl, bb⟩; have Hb := Lib.hid bb; have Tb : Hid (Below w2.heap.size w2 b) := Lib.hid (T.out.trans (bb.mono T.out.size)))
    refine hK.out _ _ (HS.out _ Tb.out) (fun hHeld => ?_)
    clear hK K HT
    have FA := Lib.hid (FA.out.below Hb.out FA.out.lt)
    have FB := Lib.hid (FB.out.below Hb.out FB.out.lt)
    exact rg3AB Q hQ w2 q x0 x1 x2 HS HEnd b Tb mA FA mB FB
  · obtain ⟨b, hb⟩ : ∃ v, W.alloc (.cells #[.int .u8 2, .string ⟨#[105, 110, 116]⟩, .int .i64 0, .slice none 0 0, .int .u8 2, .string ⟨#[105, 110, 116]⟩, .int .i64 0, .slice none 0 0] 24) = v := ⟨_, rfl⟩
    have bb : Below W.heap.size W b := by rw [← hb]; exact (Below.refl _ _).alloc (Nat.le_refl _) _
    have BB : Blk b W.heap.size 24 #[.int .u8 2, .string ⟨#[105, 110, 116]⟩, .int .i64 0, .slice none 0 0, .int .u8 2, .string ⟨#[105, 110, 116]⟩, .int .i64 0, .slice none 0 0] := by rw [← hb]; exact Blk.new _ _ _
    obtain ⟨mC, hn⟩ : ∃ v, W.heap.size = v := ⟨_, rfl⟩
    rw [hn] at BB
    have H := Lib.hid (And.intro hb (And.intro hn (And.intro bb BB)))
    have Tb : Hid (Below w2.heap.size w2 b) := Lib.hid (T.out.trans (bb.mono T.out.size))
    clear hb hn bb BB
    go_simp
    (try rw [H.out.1])
    (try rw [H.out.2.1])
    refine hK.out _ _ (HS.out _ Tb.out) (fun hHeld => ?_)
    clear hK K
    have FA := Lib.hid (FA.out.below H.out.2.2.1 FA.out.lt)
    have FB := Lib.hid (FB.out.below H.out.2.2.1 FB.out.lt)
    have FC := Lib.hid H.out.2.2.2
    exact rg2ABC Q hQ w2 q x0 x1 x2 HS HEnd b Tb mA FA mB FB mC FC
  · obtain ⟨b, hb⟩ : ∃ v, W.alloc (.cells #[.int .u8 2, .string ⟨#[105, 110, 116]⟩, .int .i64 0, .slice none 0 0] 24) = v := ⟨_, rfl⟩
    have bb : Below W.heap.size W b := by rw [← hb]; exact (Below.refl _ _).alloc (Nat.le_refl _) _
    have BB : Blk b W.heap.size 24 #[.int .u8 2, .string ⟨#[105, 110, 116]⟩, .int .i64 0, .slice none 0 0] := by rw [← hb]; exact Blk.new _ _ _
    obtain ⟨mD, hn⟩ : ∃ v, W.heap.size = v := ⟨_, rfl⟩
    rw [hn] at BB
    have H := Lib.hid (And.intro hb (And.intro hn (And.intro bb BB)))
    have Tb : Hid (Below w2.heap.size w2 b) := Lib.hid (T.out.trans (bb.mono T.out.size))
    clear hb hn bb BB
    go_simp
    (try rw [H.out.1])
    (try rw [H.out.2.1])
    refine hK.out _ _ (HS.out _ Tb.out) (fun hHeld => ?_)
    clear hK K
    have FA := Lib.hid (FA.out.below H.out.2.2.1 FA.out.lt)
    have FB := Lib.hid (FB.out.below H.out.2.2.1 FB.out.lt)
    have FD := Lib.hid H.out.2.2.2
    refine takeY (oi := { dst := some 35, op := Op.build 24 #[(0, Operand.const (Value.int IntKind.u8 4)), (3, Operand.tmp 34)], type := 24, pos := "law.go:211", after := #[{ on := 17, ground := Ground.data }], guard := none }) 18 (some 35) rfl rfl (by kernel_rfl) (by kernel_rfl) (by kernel_rfl) (fun _ _ _ h => hQ _ _ _ _ _ h) (by rfl) (v := _) (by (intro _ hSw; (try dsimp only at hSw); go_simp; try with_reducible rfl)) hHeld ?_
    simp only [Act.put, List.setIfInBounds_toArray, List.set_cons_zero, List.set_cons_succ]
    exact rg2ABD Q hQ w2 q x0 x1 x2 HS HEnd b Tb mA FA mB FB mD FD
set_option maxRecDepth 100000 in
set_option maxHeartbeats 4000000 in
theorem rg2AC (Q : Exit → Act → World → Prop) (hQ : ∀ c d v (a : Act) (w : World), Q (.panic c) (a.put d v) w → Q (.panic c) a w) (w2 : World) (q : Nat) (x0 x1 x2 : Value) (HS : Hid (∀ W, Below w2.heap.size w2 W → (fun W : World => W.cell? ⟨q, 0, none⟩ = some (.int .u8 2) ∧ W.cell? ⟨q, 1, none⟩ = some (.string ⟨#[105, 110, 116]⟩) ∧ W.cell? ⟨q, 2, none⟩ = some (.int .i64 0) ∧ W.cell? ⟨q, 3, none⟩ = some (.slice none 0 0)) W)) (HEnd : Hid (RgEnd Q w2 q x0 x1 x2)) (W : World) (T : Hid (Below w2.heap.size w2 W)) (mA : Nat) (FA : Hid (Blk W mA 24 #[.int .u8 2, .string ⟨#[105, 110, 116]⟩, .int .i64 0, .slice none 0 0, .int .u8 2, .string ⟨#[105, 110, 116]⟩, .int .i64 0, .slice none 0 0])) (mC : Nat) (FC : Hid (Blk W mC 24 #[.int .u8 2, .string ⟨#[105, 110, 116]⟩, .int .i64 0, .slice none 0 0, .int .u8 2, .string ⟨#[105, 110, 116]⟩, .int .i64 0, .slice none 0 0])) : wpAnyH Tryd.prog .any rops Q (fun W : World => W.cell? ⟨q, 0, none⟩ = some (.int .u8 2) ∧ W.cell? ⟨q, 1, none⟩ = some (.string ⟨#[105, 110, 116]⟩) ∧ W.cell? ⟨q, 2, none⟩ = some (.int .i64 0) ∧ W.cell? ⟨q, 3, none⟩ = some (.slice none 0 0)) 9 #[true, true, true, true, true, true, true, true, false, false, false, false, true, true, true, false, true, false, false, true, false, false] { tmps := #[x0, x1, x2, undef, undef, undef, .bool false, .pointer (some ⟨q, 0, none⟩), undef, undef, undef, undef, undef, undef, undef, undef, .agg #[.int .u8 2, .string ⟨#[105, 110, 116]⟩, .int .i64 0, .slice none 0 0], .agg #[.int .u8 2, .string ⟨#[105, 110, 116]⟩, .int .i64 0, .slice none 0 0], .agg #[.int .u8 2, .string ⟨#[105, 110, 116]⟩, .int .i64 0, .slice none 0 0], .slice (some ⟨mA, 0, none⟩) 2 2, .agg #[.int .u8 3, .string ⟨#[]⟩, .int .i64 0, .slice (some ⟨mA, 0, none⟩) 2 2], .agg #[.int .u8 1, .string ⟨#[39, 98]⟩, .int .i64 0, .slice none 0 0], .agg #[.int .u8 2, .string ⟨#[101, 120, 110]⟩, .int .i64 0, .slice none 0 0], .agg #[.int .u8 2, .string ⟨#[110, 111, 98, 111, 100, 121]⟩, .int .i64 0, .slice none 0 0], .agg #[.int .u8 2, .string ⟨#[105, 110, 116]⟩, .int .i64 0, .slice none 0 0], undef, undef, undef, undef, .agg #[.int .u8 2, .string ⟨#[105, 110, 116]⟩, .int .i64 0, .slice none 0 0], .agg #[.int .u8 2, .string ⟨#[105, 110, 116]⟩, .int .i64 0, .slice none 0 0], .slice (some ⟨mC, 0, none⟩) 2 2, undef, .agg #[.int .u8 2, .string ⟨#[105, 110, 116]⟩, .int .i64 0, .slice none 0 0], undef, undef, .agg #[.int .u8 0, .string ⟨#[]⟩, .int .i64 0, .slice none 0 0], undef, undef, undef, undef, undef, undef, undef, undef, undef, undef, undef, undef, undef, undef, undef, undef, undef, undef, undef, undef, undef, undef, undef, undef, undef, undef, undef, undef, undef, undef, undef, undef, undef, undef, undef, undef, undef, undef, undef, undef, undef, undef, undef, undef, undef, undef, undef, undef, undef, undef, undef, undef, undef, undef, undef, undef, undef, undef, undef, undef, undef, undef, undef, undef, undef, undef, undef, undef, undef, undef, undef, undef], defers := [] } W := by
  have hHeld := HS.out W T.out
  refine wpAnyH_ready (rs := [8, 17]) (by kernel_rfl) (by simp) ?_
  refine AllReadyH.cons (o := { dst := some 25, op := Op.buildSlice 22 1 #[(0, Operand.tmp 24)], type := 22, pos := "law.go:211", after := #[{ on := 7, ground := Ground.data }], guard := none }) rfl (fun K hK => ?_) (AllReadyH.cons (o := { dst := some 34, op := Op.buildSlice 22 1 #[(0, Operand.tmp 33)], type := 22, pos := "law.go:211", after := #[{ on := 16, ground := Ground.data }], guard := none }) rfl (fun K hK => ?_) AllReadyH.nil)
  · obtain ⟨b, hb⟩ : ∃ v, W.alloc (.cells #[.int .u8 2, .string ⟨#[105, 110, 116]⟩, .int .i64 0, .slice none 0 0] 24) = v := ⟨_, rfl⟩
    have bb : Below W.heap.size W b := by rw [← hb]; exact (Below.refl _ _).alloc (Nat.le_refl _) _
    have BB : Blk b W.heap.size 24 #[.int .u8 2, .string ⟨#[105, 110, 116]⟩, .int .i64 0, .slice none 0 0] := by rw [← hb]; exact Blk.new _ _ _
    obtain ⟨mB, hn⟩ : ∃ v, W.heap.size = v := ⟨_, rfl⟩
    rw [hn] at BB
    have H := Lib.hid (And.intro hb (And.intro hn (And.intro bb BB)))
    have Tb : Hid (Below w2.heap.size w2 b) := Lib.hid (T.out.trans (bb.mono T.out.size))
    clear hb hn bb BB
    go_simp
    (try rw [H.out.1])
    (try rw [H.out.2.1])
    refine hK.out _ _ (HS.out _ Tb.out) (fun hHeld => ?_)
    clear hK K
    have FA := Lib.hid (FA.out.below H.out.2.2.1 FA.out.lt)
    have FC := Lib.hid (FC.out.below H.out.2.2.1 FC.out.lt)
    have FB := Lib.hid H.out.2.2.2
    exact rg2ABC Q hQ w2 q x0 x1 x2 HS HEnd b Tb mA FA mB FB mC FC
  · obtain ⟨b, hb⟩ : ∃ v, W.alloc (.cells #[.int .u8 2, .string ⟨#[105, 110, 116]⟩, .int .i64 0, .slice none 0 0] 24) = v := ⟨_, rfl⟩
    have bb : Below W.heap.size W b := by rw [← hb]; exact (Below.refl _ _).alloc (Nat.le_refl _) _
    have BB : Blk b W.heap.size 24 #[.int .u8 2, .string ⟨#[105, 110, 116]⟩, .int .i64 0, .slice none 0 0] := by rw [← hb]; exact Blk.new _ _ _
    obtain ⟨mD, hn⟩ : ∃ v, W.heap.size = v := ⟨_, rfl⟩
    rw [hn] at BB
    have H := Lib.hid (And.intro hb (And.intro hn (And.intro bb BB)))
    have Tb : Hid (Below w2.heap.size w2 b) := Lib.hid (T.out.trans (bb.mono T.out.size))
    clear hb hn bb BB
    go_simp
    (try rw [H.out.1])
    (try rw [H.out.2.1])
    refine hK.out _ _ (HS.out _ Tb.out) (fun hHeld => ?_)
    clear hK K
    have FA := Lib.hid (FA.out.below H.out.2.2.1 FA.out.lt)
    have FC := Lib.hid (FC.out.below H.out.2.2.1 FC.out.lt)
    have FD := Lib.hid H.out.2.2.2
    refine takeY (oi := { dst := some 35, op := Op.build 24 #[(0, Operand.const (Value.int IntKind.u8 4)), (3, Operand.tmp 34)], type := 24, pos := "law.go:211", after := #[{ on := 17, ground := Ground.data }], guard := none }) 18 (some 35) rfl rfl (by kernel_rfl) (by kernel_rfl) (by kernel_rfl) (fun _ _ _ h => hQ _ _ _ _ _ h) (by rfl) (v := _) (by (intro _ hSw; (try dsimp only at hSw); go_simp; try with_reducible rfl)) hHeld ?_
    simp only [Act.put, List.setIfInBounds_toArray, List.set_cons_zero, List.set_cons_succ]
    exact rg2ACD Q hQ w2 q x0 x1 x2 HS HEnd b Tb mA FA mC FC mD FD
set_option maxRecDepth 100000 in
set_option maxHeartbeats 4000000 in
theorem rg2BC (Q : Exit → Act → World → Prop) (hQ : ∀ c d v (a : Act) (w : World), Q (.panic c) (a.put d v) w → Q (.panic c) a w) (w2 : World) (q : Nat) (x0 x1 x2 : Value) (HS : Hid (∀ W, Below w2.heap.size w2 W → (fun W : World => W.cell? ⟨q, 0, none⟩ = some (.int .u8 2) ∧ W.cell? ⟨q, 1, none⟩ = some (.string ⟨#[105, 110, 116]⟩) ∧ W.cell? ⟨q, 2, none⟩ = some (.int .i64 0) ∧ W.cell? ⟨q, 3, none⟩ = some (.slice none 0 0)) W)) (HEnd : Hid (RgEnd Q w2 q x0 x1 x2)) (W : World) (T : Hid (Below w2.heap.size w2 W)) (mB : Nat) (FB : Hid (Blk W mB 24 #[.int .u8 2, .string ⟨#[105, 110, 116]⟩, .int .i64 0, .slice none 0 0])) (mC : Nat) (FC : Hid (Blk W mC 24 #[.int .u8 2, .string ⟨#[105, 110, 116]⟩, .int .i64 0, .slice none 0 0, .int .u8 2, .string ⟨#[105, 110, 116]⟩, .int .i64 0, .slice none 0 0])) : wpAnyH Tryd.prog .any rops Q (fun W : World => W.cell? ⟨q, 0, none⟩ = some (.int .u8 2) ∧ W.cell? ⟨q, 1, none⟩ = some (.string ⟨#[105, 110, 116]⟩) ∧ W.cell? ⟨q, 2, none⟩ = some (.int .i64 0) ∧ W.cell? ⟨q, 3, none⟩ = some (.slice none 0 0)) 10 #[true, true, false, false, true, true, true, true, true, false, false, false, true, true, true, false, true, false, false, true, false, false] { tmps := #[x0, x1, x2, undef, undef, undef, .bool false, .pointer (some ⟨q, 0, none⟩), undef, undef, undef, undef, undef, undef, undef, undef, .agg #[.int .u8 2, .string ⟨#[105, 110, 116]⟩, .int .i64 0, .slice none 0 0], .agg #[.int .u8 2, .string ⟨#[105, 110, 116]⟩, .int .i64 0, .slice none 0 0], .agg #[.int .u8 2, .string ⟨#[105, 110, 116]⟩, .int .i64 0, .slice none 0 0], undef, undef, .agg #[.int .u8 1, .string ⟨#[39, 98]⟩, .int .i64 0, .slice none 0 0], .agg #[.int .u8 2, .string ⟨#[101, 120, 110]⟩, .int .i64 0, .slice none 0 0], .agg #[.int .u8 2, .string ⟨#[110, 111, 98, 111, 100, 121]⟩, .int .i64 0, .slice none 0 0], .agg #[.int .u8 2, .string ⟨#[105, 110, 116]⟩, .int .i64 0, .slice none 0 0], .slice (some ⟨mB, 0, none⟩) 1 1, undef, undef, undef, .agg #[.int .u8 2, .string ⟨#[105, 110, 116]⟩, .int .i64 0, .slice none 0 0], .agg #[.int .u8 2, .string ⟨#[105, 110, 116]⟩, .int .i64 0, .slice none 0 0], .slice (some ⟨mC, 0, none⟩) 2 2, undef, .agg #[.int .u8 2, .string ⟨#[105, 110, 116]⟩, .int .i64 0, .slice none 0 0], undef, undef, .agg #[.int .u8 0, .string ⟨#[]⟩, .int .i64 0, .slice none 0 0], undef, undef, undef, undef, undef, undef, undef, undef, undef, undef, undef, undef, undef, undef, undef, undef, undef, undef, undef, undef, undef, undef, undef, undef, undef, undef, undef, undef, undef, undef, undef, undef, undef, undef, undef, undef, undef, undef, undef, undef, undef, undef, undef, undef, undef, undef, undef, undef, undef, undef, undef, undef, undef, undef, undef, undef, undef, undef, undef, undef, undef, undef, undef, undef, undef, undef, undef, undef, undef, undef, undef, undef], defers := [] } W := by
  have hHeld := HS.out W T.out
  refine wpAnyH_ready (rs := [2, 9, 17]) (by kernel_rfl) (by simp) ?_
  refine AllReadyH.cons (o := { dst := some 19, op := Op.buildSlice 22 2 #[(0, Operand.tmp 17), (1, Operand.tmp 18)], type := 22, pos := "law.go:211", after := #[{ on := 0, ground := Ground.data }, { on := 1, ground := Ground.data }], guard := none }) rfl (fun K hK => ?_) (AllReadyH.cons (o := { dst := some 26, op := Op.call { callee := Callee.value (Operand.func 10), args := #[Operand.const (Value.string { data := #[105, 110, 116] }), Operand.tmp 25], argTypes := #[9, 22] }, type := 24, pos := "law.go:211", after := #[{ on := 8, ground := Ground.data }, { on := 6, ground := Ground.chain }], guard := none }) rfl (fun K hK => ?_) (AllReadyH.cons (o := { dst := some 34, op := Op.buildSlice 22 1 #[(0, Operand.tmp 33)], type := 22, pos := "law.go:211", after := #[{ on := 16, ground := Ground.data }], guard := none }) rfl (fun K hK => ?_) AllReadyH.nil))
  · obtain ⟨b, hb⟩ : ∃ v, W.alloc (.cells #[.int .u8 2, .string ⟨#[105, 110, 116]⟩, .int .i64 0, .slice none 0 0, .int .u8 2, .string ⟨#[105, 110, 116]⟩, .int .i64 0, .slice none 0 0] 24) = v := ⟨_, rfl⟩
    have bb : Below W.heap.size W b := by rw [← hb]; exact (Below.refl _ _).alloc (Nat.le_refl _) _
    have BB : Blk b W.heap.size 24 #[.int .u8 2, .string ⟨#[105, 110, 116]⟩, .int .i64 0, .slice none 0 0, .int .u8 2, .string ⟨#[105, 110, 116]⟩, .int .i64 0, .slice none 0 0] := by rw [← hb]; exact Blk.new _ _ _
    obtain ⟨mA, hn⟩ : ∃ v, W.heap.size = v := ⟨_, rfl⟩
    rw [hn] at BB
    have H := Lib.hid (And.intro hb (And.intro hn (And.intro bb BB)))
    have Tb : Hid (Below w2.heap.size w2 b) := Lib.hid (T.out.trans (bb.mono T.out.size))
    clear hb hn bb BB
    go_simp
    (try rw [H.out.1])
    (try rw [H.out.2.1])
    refine hK.out _ _ (HS.out _ Tb.out) (fun hHeld => ?_)
    clear hK K
    have FB := Lib.hid (FB.out.below H.out.2.2.1 FB.out.lt)
    have FC := Lib.hid (FC.out.below H.out.2.2.1 FC.out.lt)
    have FA := Lib.hid H.out.2.2.2
    refine takeY (oi := { dst := some 20, op := Op.build 24 #[(0, Operand.const (Value.int IntKind.u8 3)), (3, Operand.tmp 19)], type := 24, pos := "law.go:211", after := #[{ on := 2, ground := Ground.data }], guard := none }) 3 (some 20) rfl rfl (by kernel_rfl) (by kernel_rfl) (by kernel_rfl) (fun _ _ _ h => hQ _ _ _ _ _ h) (by rfl) (v := _) (by (intro _ hSw; (try dsimp only at hSw); go_simp; try with_reducible rfl)) hHeld ?_
    simp only [Act.put, List.setIfInBounds_toArray, List.set_cons_zero, List.set_cons_succ]
    exact rg2ABC Q hQ w2 q x0 x1 x2 HS HEnd b Tb mA FA mB FB mC FC
  · have HT := Lib.hid (named_any ⟨#[105, 110, 116]⟩ (some ⟨mB, 0, none⟩) 1 1 W)
    clear hHeld
    go_simp
    go_wp2_with (go_at_call 10; refine Calls.mono HT.out ?_; rintro e b ⟨rfl, bb⟩; have Hb := Lib.hid bb; have Tb : Hid (Below w2.heap.size w2 b) := Lib.hid (T.out.trans (bb.mono T.out.size)))
    refine hK.out _ _ (HS.out _ Tb.out) (fun hHeld => ?_)
    clear hK K HT
    have FB := Lib.hid (FB.out.below Hb.out FB.out.lt)
    have FC := Lib.hid (FC.out.below Hb.out FC.out.lt)
    exact rg3BC Q hQ w2 q x0 x1 x2 HS HEnd b Tb mB FB mC FC
  · obtain ⟨b, hb⟩ : ∃ v, W.alloc (.cells #[.int .u8 2, .string ⟨#[105, 110, 116]⟩, .int .i64 0, .slice none 0 0] 24) = v := ⟨_, rfl⟩
    have bb : Below W.heap.size W b := by rw [← hb]; exact (Below.refl _ _).alloc (Nat.le_refl _) _
    have BB : Blk b W.heap.size 24 #[.int .u8 2, .string ⟨#[105, 110, 116]⟩, .int .i64 0, .slice none 0 0] := by rw [← hb]; exact Blk.new _ _ _
    obtain ⟨mD, hn⟩ : ∃ v, W.heap.size = v := ⟨_, rfl⟩
    rw [hn] at BB
    have H := Lib.hid (And.intro hb (And.intro hn (And.intro bb BB)))
    have Tb : Hid (Below w2.heap.size w2 b) := Lib.hid (T.out.trans (bb.mono T.out.size))
    clear hb hn bb BB
    go_simp
    (try rw [H.out.1])
    (try rw [H.out.2.1])
    refine hK.out _ _ (HS.out _ Tb.out) (fun hHeld => ?_)
    clear hK K
    have FB := Lib.hid (FB.out.below H.out.2.2.1 FB.out.lt)
    have FC := Lib.hid (FC.out.below H.out.2.2.1 FC.out.lt)
    have FD := Lib.hid H.out.2.2.2
    refine takeY (oi := { dst := some 35, op := Op.build 24 #[(0, Operand.const (Value.int IntKind.u8 4)), (3, Operand.tmp 34)], type := 24, pos := "law.go:211", after := #[{ on := 17, ground := Ground.data }], guard := none }) 18 (some 35) rfl rfl (by kernel_rfl) (by kernel_rfl) (by kernel_rfl) (fun _ _ _ h => hQ _ _ _ _ _ h) (by rfl) (v := _) (by (intro _ hSw; (try dsimp only at hSw); go_simp; try with_reducible rfl)) hHeld ?_
    simp only [Act.put, List.setIfInBounds_toArray, List.set_cons_zero, List.set_cons_succ]
    exact rg2BCD Q hQ w2 q x0 x1 x2 HS HEnd b Tb mB FB mC FC mD FD
set_option maxRecDepth 100000 in
set_option maxHeartbeats 4000000 in
theorem rg2AD (Q : Exit → Act → World → Prop) (hQ : ∀ c d v (a : Act) (w : World), Q (.panic c) (a.put d v) w → Q (.panic c) a w) (w2 : World) (q : Nat) (x0 x1 x2 : Value) (HS : Hid (∀ W, Below w2.heap.size w2 W → (fun W : World => W.cell? ⟨q, 0, none⟩ = some (.int .u8 2) ∧ W.cell? ⟨q, 1, none⟩ = some (.string ⟨#[105, 110, 116]⟩) ∧ W.cell? ⟨q, 2, none⟩ = some (.int .i64 0) ∧ W.cell? ⟨q, 3, none⟩ = some (.slice none 0 0)) W)) (HEnd : Hid (RgEnd Q w2 q x0 x1 x2)) (W : World) (T : Hid (Below w2.heap.size w2 W)) (mA : Nat) (FA : Hid (Blk W mA 24 #[.int .u8 2, .string ⟨#[105, 110, 116]⟩, .int .i64 0, .slice none 0 0, .int .u8 2, .string ⟨#[105, 110, 116]⟩, .int .i64 0, .slice none 0 0])) (mD : Nat) (FD : Hid (Blk W mD 24 #[.int .u8 2, .string ⟨#[105, 110, 116]⟩, .int .i64 0, .slice none 0 0])) : wpAnyH Tryd.prog .any rops Q (fun W : World => W.cell? ⟨q, 0, none⟩ = some (.int .u8 2) ∧ W.cell? ⟨q, 1, none⟩ = some (.string ⟨#[105, 110, 116]⟩) ∧ W.cell? ⟨q, 2, none⟩ = some (.int .i64 0) ∧ W.cell? ⟨q, 3, none⟩ = some (.slice none 0 0)) 8 #[true, true, true, true, true, true, true, true, false, false, false, false, true, true, false, false, true, true, true, true, false, false] { tmps := #[x0, x1, x2, undef, undef, undef, .bool false, .pointer (some ⟨q, 0, none⟩), undef, undef, undef, undef, undef, undef, undef, undef, .agg #[.int .u8 2, .string ⟨#[105, 110, 116]⟩, .int .i64 0, .slice none 0 0], .agg #[.int .u8 2, .string ⟨#[105, 110, 116]⟩, .int .i64 0, .slice none 0 0], .agg #[.int .u8 2, .string ⟨#[105, 110, 116]⟩, .int .i64 0, .slice none 0 0], .slice (some ⟨mA, 0, none⟩) 2 2, .agg #[.int .u8 3, .string ⟨#[]⟩, .int .i64 0, .slice (some ⟨mA, 0, none⟩) 2 2], .agg #[.int .u8 1, .string ⟨#[39, 98]⟩, .int .i64 0, .slice none 0 0], .agg #[.int .u8 2, .string ⟨#[101, 120, 110]⟩, .int .i64 0, .slice none 0 0], .agg #[.int .u8 2, .string ⟨#[110, 111, 98, 111, 100, 121]⟩, .int .i64 0, .slice none 0 0], .agg #[.int .u8 2, .string ⟨#[105, 110, 116]⟩, .int .i64 0, .slice none 0 0], undef, undef, undef, undef, .agg #[.int .u8 2, .string ⟨#[105, 110, 116]⟩, .int .i64 0, .slice none 0 0], .agg #[.int .u8 2, .string ⟨#[105, 110, 116]⟩, .int .i64 0, .slice none 0 0], undef, undef, .agg #[.int .u8 2, .string ⟨#[105, 110, 116]⟩, .int .i64 0, .slice none 0 0], .slice (some ⟨mD, 0, none⟩) 1 1, .agg #[.int .u8 4, .string ⟨#[]⟩, .int .i64 0, .slice (some ⟨mD, 0, none⟩) 1 1], .agg #[.int .u8 0, .string ⟨#[]⟩, .int .i64 0, .slice none 0 0], undef, undef, undef, undef, undef, undef, undef, undef, undef, undef, undef, undef, undef, undef, undef, undef, undef, undef, undef, undef, undef, undef, undef, undef, undef, undef, undef, undef, undef, undef, undef, undef, undef, undef, undef, undef, undef, undef, undef, undef, undef, undef, undef, undef, undef, undef, undef, undef, undef, undef, undef, undef, undef, undef, undef, undef, undef, undef, undef, undef, undef, undef, undef, undef, undef, undef, undef, undef, undef, undef, undef, undef], defers := [] } W := by
  have hHeld := HS.out W T.out
  refine wpAnyH_ready (rs := [8, 14]) (by kernel_rfl) (by simp) ?_
  refine AllReadyH.cons (o := { dst := some 25, op := Op.buildSlice 22 1 #[(0, Operand.tmp 24)], type := 22, pos := "law.go:211", after := #[{ on := 7, ground := Ground.data }], guard := none }) rfl (fun K hK => ?_) (AllReadyH.cons (o := { dst := some 31, op := Op.buildSlice 22 2 #[(0, Operand.tmp 29), (1, Operand.tmp 30)], type := 22, pos := "law.go:211", after := #[{ on := 12, ground := Ground.data }, { on := 13, ground := Ground.data }], guard := none }) rfl (fun K hK => ?_) AllReadyH.nil)
  · obtain ⟨b, hb⟩ : ∃ v, W.alloc (.cells #[.int .u8 2, .string ⟨#[105, 110, 116]⟩, .int .i64 0, .slice none 0 0] 24) = v := ⟨_, rfl⟩
    have bb : Below W.heap.size W b := by rw [← hb]; exact (Below.refl _ _).alloc (Nat.le_refl _) _
    have BB : Blk b W.heap.size 24 #[.int .u8 2, .string ⟨#[105, 110, 116]⟩, .int .i64 0, .slice none 0 0] := by rw [← hb]; exact Blk.new _ _ _
    obtain ⟨mB, hn⟩ : ∃ v, W.heap.size = v := ⟨_, rfl⟩
    rw [hn] at BB
    have H := Lib.hid (And.intro hb (And.intro hn (And.intro bb BB)))
    have Tb : Hid (Below w2.heap.size w2 b) := Lib.hid (T.out.trans (bb.mono T.out.size))
    clear hb hn bb BB
    go_simp
    (try rw [H.out.1])
    (try rw [H.out.2.1])
    refine hK.out _ _ (HS.out _ Tb.out) (fun hHeld => ?_)
    clear hK K
    have FA := Lib.hid (FA.out.below H.out.2.2.1 FA.out.lt)
    have FD := Lib.hid (FD.out.below H.out.2.2.1 FD.out.lt)
    have FB := Lib.hid H.out.2.2.2
    exact rg2ABD Q hQ w2 q x0 x1 x2 HS HEnd b Tb mA FA mB FB mD FD
  · obtain ⟨b, hb⟩ : ∃ v, W.alloc (.cells #[.int .u8 2, .string ⟨#[105, 110, 116]⟩, .int .i64 0, .slice none 0 0, .int .u8 2, .string ⟨#[105, 110, 116]⟩, .int .i64 0, .slice none 0 0] 24) = v := ⟨_, rfl⟩
    have bb : Below W.heap.size W b := by rw [← hb]; exact (Below.refl _ _).alloc (Nat.le_refl _) _
    have BB : Blk b W.heap.size 24 #[.int .u8 2, .string ⟨#[105, 110, 116]⟩, .int .i64 0, .slice none 0 0, .int .u8 2, .string ⟨#[105, 110, 116]⟩, .int .i64 0, .slice none 0 0] := by rw [← hb]; exact Blk.new _ _ _
    obtain ⟨mC, hn⟩ : ∃ v, W.heap.size = v := ⟨_, rfl⟩
    rw [hn] at BB
    have H := Lib.hid (And.intro hb (And.intro hn (And.intro bb BB)))
    have Tb : Hid (Below w2.heap.size w2 b) := Lib.hid (T.out.trans (bb.mono T.out.size))
    clear hb hn bb BB
    go_simp
    (try rw [H.out.1])
    (try rw [H.out.2.1])
    refine hK.out _ _ (HS.out _ Tb.out) (fun hHeld => ?_)
    clear hK K
    have FA := Lib.hid (FA.out.below H.out.2.2.1 FA.out.lt)
    have FD := Lib.hid (FD.out.below H.out.2.2.1 FD.out.lt)
    have FC := Lib.hid H.out.2.2.2
    exact rg2ACD Q hQ w2 q x0 x1 x2 HS HEnd b Tb mA FA mC FC mD FD
set_option maxRecDepth 100000 in
set_option maxHeartbeats 4000000 in
theorem rg2BD (Q : Exit → Act → World → Prop) (hQ : ∀ c d v (a : Act) (w : World), Q (.panic c) (a.put d v) w → Q (.panic c) a w) (w2 : World) (q : Nat) (x0 x1 x2 : Value) (HS : Hid (∀ W, Below w2.heap.size w2 W → (fun W : World => W.cell? ⟨q, 0, none⟩ = some (.int .u8 2) ∧ W.cell? ⟨q, 1, none⟩ = some (.string ⟨#[105, 110, 116]⟩) ∧ W.cell? ⟨q, 2, none⟩ = some (.int .i64 0) ∧ W.cell? ⟨q, 3, none⟩ = some (.slice none 0 0)) W)) (HEnd : Hid (RgEnd Q w2 q x0 x1 x2)) (W : World) (T : Hid (Below w2.heap.size w2 W)) (mB : Nat) (FB : Hid (Blk W mB 24 #[.int .u8 2, .string ⟨#[105, 110, 116]⟩, .int .i64 0, .slice none 0 0])) (mD : Nat) (FD : Hid (Blk W mD 24 #[.int .u8 2, .string ⟨#[105, 110, 116]⟩, .int .i64 0, .slice none 0 0])) : wpAnyH Tryd.prog .any rops Q (fun W : World => W.cell? ⟨q, 0, none⟩ = some (.int .u8 2) ∧ W.cell? ⟨q, 1, none⟩ = some (.string ⟨#[105, 110, 116]⟩) ∧ W.cell? ⟨q, 2, none⟩ = some (.int .i64 0) ∧ W.cell? ⟨q, 3, none⟩ = some (.slice none 0 0)) 9 #[true, true, false, false, true, true, true, true, true, false, false, false, true, true, false, false, true, true, true, true, false, false] { tmps := #[x0, x1, x2, undef, undef, undef, .bool false, .pointer (some ⟨q, 0, none⟩), undef, undef, undef, undef, undef, undef, undef, undef, .agg #[.int .u8 2, .string ⟨#[105, 110, 116]⟩, .int .i64 0, .slice none 0 0], .agg #[.int .u8 2, .string ⟨#[105, 110, 116]⟩, .int .i64 0, .slice none 0 0], .agg #[.int .u8 2, .string ⟨#[105, 110, 116]⟩, .int .i64 0, .slice none 0 0], undef, undef, .agg #[.int .u8 1, .string ⟨#[39, 98]⟩, .int .i64 0, .slice none 0 0], .agg #[.int .u8 2, .string ⟨#[101, 120, 110]⟩, .int .i64 0, .slice none 0 0], .agg #[.int .u8 2, .string ⟨#[110, 111, 98, 111, 100, 121]⟩, .int .i64 0, .slice none 0 0], .agg #[.int .u8 2, .string ⟨#[105, 110, 116]⟩, .int .i64 0, .slice none 0 0], .slice (some ⟨mB, 0, none⟩) 1 1, undef, undef, undef, .agg #[.int .u8 2, .string ⟨#[105, 110, 116]⟩, .int .i64 0, .slice none 0 0], .agg #[.int .u8 2, .string ⟨#[105, 110, 116]⟩, .int .i64 0, .slice none 0 0], undef, undef, .agg #[.int .u8 2, .string ⟨#[105, 110, 116]⟩, .int .i64 0, .slice none 0 0], .slice (some ⟨mD, 0, none⟩) 1 1, .agg #[.int .u8 4, .string ⟨#[]⟩, .int .i64 0, .slice (some ⟨mD, 0, none⟩) 1 1], .agg #[.int .u8 0, .string ⟨#[]⟩, .int .i64 0, .slice none 0 0], undef, undef, undef, undef, undef, undef, undef, undef, undef, undef, undef, undef, undef, undef, undef, undef, undef, undef, undef, undef, undef, undef, undef, undef, undef, undef, undef, undef, undef, undef, undef, undef, undef, undef, undef, undef, undef, undef, undef, undef, undef, undef, undef, undef, undef, undef, undef, undef, undef, undef, undef, undef, undef, undef, undef, undef, undef, undef, undef, undef, undef, undef, undef, undef, undef, undef, undef, undef, undef, undef, undef, undef], defers := [] } W := by
  have hHeld := HS.out W T.out
  refine wpAnyH_ready (rs := [2, 9, 14]) (by kernel_rfl) (by simp) ?_
  refine AllReadyH.cons (o := { dst := some 19, op := Op.buildSlice 22 2 #[(0, Operand.tmp 17), (1, Operand.tmp 18)], type := 22, pos := "law.go:211", after := #[{ on := 0, ground := Ground.data }, { on := 1, ground := Ground.data }], guard := none }) rfl (fun K hK => ?_) (AllReadyH.cons (o := { dst := some 26, op := Op.call { callee := Callee.value (Operand.func 10), args := #[Operand.const (Value.string { data := #[105, 110, 116] }), Operand.tmp 25], argTypes := #[9, 22] }, type := 24, pos := "law.go:211", after := #[{ on := 8, ground := Ground.data }, { on := 6, ground := Ground.chain }], guard := none }) rfl (fun K hK => ?_) (AllReadyH.cons (o := { dst := some 31, op := Op.buildSlice 22 2 #[(0, Operand.tmp 29), (1, Operand.tmp 30)], type := 22, pos := "law.go:211", after := #[{ on := 12, ground := Ground.data }, { on := 13, ground := Ground.data }], guard := none }) rfl (fun K hK => ?_) AllReadyH.nil))
  · obtain ⟨b, hb⟩ : ∃ v, W.alloc (.cells #[.int .u8 2, .string ⟨#[105, 110, 116]⟩, .int .i64 0, .slice none 0 0, .int .u8 2, .string ⟨#[105, 110, 116]⟩, .int .i64 0, .slice none 0 0] 24) = v := ⟨_, rfl⟩
    have bb : Below W.heap.size W b := by rw [← hb]; exact (Below.refl _ _).alloc (Nat.le_refl _) _
    have BB : Blk b W.heap.size 24 #[.int .u8 2, .string ⟨#[105, 110, 116]⟩, .int .i64 0, .slice none 0 0, .int .u8 2, .string ⟨#[105, 110, 116]⟩, .int .i64 0, .slice none 0 0] := by rw [← hb]; exact Blk.new _ _ _
    obtain ⟨mA, hn⟩ : ∃ v, W.heap.size = v := ⟨_, rfl⟩
    rw [hn] at BB
    have H := Lib.hid (And.intro hb (And.intro hn (And.intro bb BB)))
    have Tb : Hid (Below w2.heap.size w2 b) := Lib.hid (T.out.trans (bb.mono T.out.size))
    clear hb hn bb BB
    go_simp
    (try rw [H.out.1])
    (try rw [H.out.2.1])
    refine hK.out _ _ (HS.out _ Tb.out) (fun hHeld => ?_)
    clear hK K
    have FB := Lib.hid (FB.out.below H.out.2.2.1 FB.out.lt)
    have FD := Lib.hid (FD.out.below H.out.2.2.1 FD.out.lt)
    have FA := Lib.hid H.out.2.2.2
    refine takeY (oi := { dst := some 20, op := Op.build 24 #[(0, Operand.const (Value.int IntKind.u8 3)), (3, Operand.tmp 19)], type := 24, pos := "law.go:211", after := #[{ on := 2, ground := Ground.data }], guard := none }) 3 (some 20) rfl rfl (by kernel_rfl) (by kernel_rfl) (by kernel_rfl) (fun _ _ _ h => hQ _ _ _ _ _ h) (by rfl) (v := _) (by (intro _ hSw; (try dsimp only at hSw); go_simp; try with_reducible rfl)) hHeld ?_
    simp only [Act.put, List.setIfInBounds_toArray, List.set_cons_zero, List.set_cons_succ]
    exact rg2ABD Q hQ w2 q x0 x1 x2 HS HEnd b Tb mA FA mB FB mD FD
  · have HT := Lib.hid (named_any ⟨#[105, 110, 116]⟩ (some ⟨mB, 0, none⟩) 1 1 W)
    clear hHeld
    go_simp
    go_wp2_with (go_at_call 10; refine Calls.mono HT.out ?_; rintro e b ⟨rfl, bb⟩; have Hb := Lib.hid bb; have Tb : Hid (Below w2.heap.size w2 b) := Lib.hid (T.out.trans (bb.mono T.out.size)))
    refine hK.out _ _ (HS.out _ Tb.out) (fun hHeld => ?_)
    clear hK K HT
    have FB := Lib.hid (FB.out.below Hb.out FB.out.lt)
    have FD := Lib.hid (FD.out.below Hb.out FD.out.lt)
    exact rg3BD Q hQ w2 q x0 x1 x2 HS HEnd b Tb mB FB mD FD
  · obtain ⟨b, hb⟩ : ∃ v, W.alloc (.cells #[.int .u8 2, .string ⟨#[105, 110, 116]⟩, .int .i64 0, .slice none 0 0, .int .u8 2, .string ⟨#[105, 110, 116]⟩, .int .i64 0, .slice none 0 0] 24) = v := ⟨_, rfl⟩
    have bb : Below W.heap.size W b := by rw [← hb]; exact (Below.refl _ _).alloc (Nat.le_refl _) _
    have BB : Blk b W.heap.size 24 #[.int .u8 2, .string ⟨#[105, 110, 116]⟩, .int .i64 0, .slice none 0 0, .int .u8 2, .string ⟨#[105, 110, 116]⟩, .int .i64 0, .slice none 0 0] := by rw [← hb]; exact Blk.new _ _ _
    obtain ⟨mC, hn⟩ : ∃ v, W.heap.size = v := ⟨_, rfl⟩
    rw [hn] at BB
    have H := Lib.hid (And.intro hb (And.intro hn (And.intro bb BB)))
    have Tb : Hid (Below w2.heap.size w2 b) := Lib.hid (T.out.trans (bb.mono T.out.size))
    clear hb hn bb BB
    go_simp
    (try rw [H.out.1])
    (try rw [H.out.2.1])
    refine hK.out _ _ (HS.out _ Tb.out) (fun hHeld => ?_)
    clear hK K
    have FB := Lib.hid (FB.out.below H.out.2.2.1 FB.out.lt)
    have FD := Lib.hid (FD.out.below H.out.2.2.1 FD.out.lt)
    have FC := Lib.hid H.out.2.2.2
    exact rg2BCD Q hQ w2 q x0 x1 x2 HS HEnd b Tb mB FB mC FC mD FD
set_option maxRecDepth 100000 in
set_option maxHeartbeats 4000000 in
theorem rg2CD (Q : Exit → Act → World → Prop) (hQ : ∀ c d v (a : Act) (w : World), Q (.panic c) (a.put d v) w → Q (.panic c) a w) (w2 : World) (q : Nat) (x0 x1 x2 : Value) (HS : Hid (∀ W, Below w2.heap.size w2 W → (fun W : World => W.cell? ⟨q, 0, none⟩ = some (.int .u8 2) ∧ W.cell? ⟨q, 1, none⟩ = some (.string ⟨#[105, 110, 116]⟩) ∧ W.cell? ⟨q, 2, none⟩ = some (.int .i64 0) ∧ W.cell? ⟨q, 3, none⟩ = some (.slice none 0 0)) W)) (HEnd : Hid (RgEnd Q w2 q x0 x1 x2)) (W : World) (T : Hid (Below w2.heap.size w2 W)) (mC : Nat) (FC : Hid (Blk W mC 24 #[.int .u8 2, .string ⟨#[105, 110, 116]⟩, .int .i64 0, .slice none 0 0, .int .u8 2, .string ⟨#[105, 110, 116]⟩, .int .i64 0, .slice none 0 0])) (mD : Nat) (FD : Hid (Blk W mD 24 #[.int .u8 2, .string ⟨#[105, 110, 116]⟩, .int .i64 0, .slice none 0 0])) : wpAnyH Tryd.prog .any rops Q (fun W : World => W.cell? ⟨q, 0, none⟩ = some (.int .u8 2) ∧ W.cell? ⟨q, 1, none⟩ = some (.string ⟨#[105, 110, 116]⟩) ∧ W.cell? ⟨q, 2, none⟩ = some (.int .i64 0) ∧ W.cell? ⟨q, 3, none⟩ = some (.slice none 0 0)) 9 #[true, true, false, false, true, true, true, true, false, false, false, false, true, true, true, false, true, true, true, true, false, false] { tmps := #[x0, x1, x2, undef, undef, undef, .bool false, .pointer (some ⟨q, 0, none⟩), undef, undef, undef, undef, undef, undef, undef, undef, .agg #[.int .u8 2, .string ⟨#[105, 110, 116]⟩, .int .i64 0, .slice none 0 0], .agg #[.int .u8 2, .string ⟨#[105, 110, 116]⟩, .int .i64 0, .slice none 0 0], .agg #[.int .u8 2, .string ⟨#[105, 110, 116]⟩, .int .i64 0, .slice none 0 0], undef, undef, .agg #[.int .u8 1, .string ⟨#[39, 98]⟩, .int .i64 0, .slice none 0 0], .agg #[.int .u8 2, .string ⟨#[101, 120, 110]⟩, .int .i64 0, .slice none 0 0], .agg #[.int .u8 2, .string ⟨#[110, 111, 98, 111, 100, 121]⟩, .int .i64 0, .slice none 0 0], .agg #[.int .u8 2, .string ⟨#[105, 110, 116]⟩, .int .i64 0, .slice none 0 0], undef, undef, undef, undef, .agg #[.int .u8 2, .string ⟨#[105, 110, 116]⟩, .int .i64 0, .slice none 0 0], .agg #[.int .u8 2, .string ⟨#[105, 110, 116]⟩, .int .i64 0, .slice none 0 0], .slice (some ⟨mC, 0, none⟩) 2 2, undef, .agg #[.int .u8 2, .string ⟨#[105, 110, 116]⟩, .int .i64 0, .slice none 0 0], .slice (some ⟨mD, 0, none⟩) 1 1, .agg #[.int .u8 4, .string ⟨#[]⟩, .int .i64 0, .slice (some ⟨mD, 0, none⟩) 1 1], .agg #[.int .u8 0, .string ⟨#[]⟩, .int .i64 0, .slice none 0 0], undef, undef, undef, undef, undef, undef, undef, undef, undef, undef, undef, undef, undef, undef, undef, undef, undef, undef, undef, undef, undef, undef, undef, undef, undef, undef, undef, undef, undef, undef, undef, undef, undef, undef, undef, undef, undef, undef, undef, undef, undef, undef, undef, undef, undef, undef, undef, undef, undef, undef, undef, undef, undef, undef, undef, undef, undef, undef, undef, undef, undef, undef, undef, undef, undef, undef, undef, undef, undef, undef, undef, undef], defers := [] } W := by
  have hHeld := HS.out W T.out
  refine wpAnyH_ready (rs := [2, 8]) (by kernel_rfl) (by simp) ?_
  refine AllReadyH.cons (o := { dst := some 19, op := Op.buildSlice 22 2 #[(0, Operand.tmp 17), (1, Operand.tmp 18)], type := 22, pos := "law.go:211", after := #[{ on := 0, ground := Ground.data }, { on := 1, ground := Ground.data }], guard := none }) rfl (fun K hK => ?_) (AllReadyH.cons (o := { dst := some 25, op := Op.buildSlice 22 1 #[(0, Operand.tmp 24)], type := 22, pos := "law.go:211", after := #[{ on := 7, ground := Ground.data }], guard := none }) rfl (fun K hK => ?_) AllReadyH.nil)
  · obtain ⟨b, hb⟩ : ∃ v, W.alloc (.cells #[.int .u8 2, .string ⟨#[105, 110, 116]⟩, .int .i64 0, .slice none 0 0, .int .u8 2, .string ⟨#[105, 110, 116]⟩, .int .i64 0, .slice none 0 0] 24) = v := ⟨_, rfl⟩
    have bb : Below W.heap.size W b := by rw [← hb]; exact (Below.refl _ _).alloc (Nat.le_refl _) _
    have BB : Blk b W.heap.size 24 #[.int .u8 2, .string ⟨#[105, 110, 116]⟩, .int .i64 0, .slice none 0 0, .int .u8 2, .string ⟨#[105, 110, 116]⟩, .int .i64 0, .slice none 0 0] := by rw [← hb]; exact Blk.new _ _ _
    obtain ⟨mA, hn⟩ : ∃ v, W.heap.size = v := ⟨_, rfl⟩
    rw [hn] at BB
    have H := Lib.hid (And.intro hb (And.intro hn (And.intro bb BB)))
    have Tb : Hid (Below w2.heap.size w2 b) := Lib.hid (T.out.trans (bb.mono T.out.size))
    clear hb hn bb BB
    go_simp
    (try rw [H.out.1])
    (try rw [H.out.2.1])
    refine hK.out _ _ (HS.out _ Tb.out) (fun hHeld => ?_)
    clear hK K
    have FC := Lib.hid (FC.out.below H.out.2.2.1 FC.out.lt)
    have FD := Lib.hid (FD.out.below H.out.2.2.1 FD.out.lt)
    have FA := Lib.hid H.out.2.2.2
    refine takeY (oi := { dst := some 20, op := Op.build 24 #[(0, Operand.const (Value.int IntKind.u8 3)), (3, Operand.tmp 19)], type := 24, pos := "law.go:211", after := #[{ on := 2, ground := Ground.data }], guard := none }) 3 (some 20) rfl rfl (by kernel_rfl) (by kernel_rfl) (by kernel_rfl) (fun _ _ _ h => hQ _ _ _ _ _ h) (by rfl) (v := _) (by (intro _ hSw; (try dsimp only at hSw); go_simp; try with_reducible rfl)) hHeld ?_
    simp only [Act.put, List.setIfInBounds_toArray, List.set_cons_zero, List.set_cons_succ]
    exact rg2ACD Q hQ w2 q x0 x1 x2 HS HEnd b Tb mA FA mC FC mD FD
  · obtain ⟨b, hb⟩ : ∃ v, W.alloc (.cells #[.int .u8 2, .string ⟨#[105, 110, 116]⟩, .int .i64 0, .slice none 0 0] 24) = v := ⟨_, rfl⟩
    have bb : Below W.heap.size W b := by rw [← hb]; exact (Below.refl _ _).alloc (Nat.le_refl _) _
    have BB : Blk b W.heap.size 24 #[.int .u8 2, .string ⟨#[105, 110, 116]⟩, .int .i64 0, .slice none 0 0] := by rw [← hb]; exact Blk.new _ _ _
    obtain ⟨mB, hn⟩ : ∃ v, W.heap.size = v := ⟨_, rfl⟩
    rw [hn] at BB
    have H := Lib.hid (And.intro hb (And.intro hn (And.intro bb BB)))
    have Tb : Hid (Below w2.heap.size w2 b) := Lib.hid (T.out.trans (bb.mono T.out.size))
    clear hb hn bb BB
    go_simp
    (try rw [H.out.1])
    (try rw [H.out.2.1])
    refine hK.out _ _ (HS.out _ Tb.out) (fun hHeld => ?_)
    clear hK K
    have FC := Lib.hid (FC.out.below H.out.2.2.1 FC.out.lt)
    have FD := Lib.hid (FD.out.below H.out.2.2.1 FD.out.lt)
    have FB := Lib.hid H.out.2.2.2
    exact rg2BCD Q hQ w2 q x0 x1 x2 HS HEnd b Tb mB FB mC FC mD FD
set_option maxRecDepth 100000 in
set_option maxHeartbeats 4000000 in
theorem rg3B (Q : Exit → Act → World → Prop) (hQ : ∀ c d v (a : Act) (w : World), Q (.panic c) (a.put d v) w → Q (.panic c) a w) (w2 : World) (q : Nat) (x0 x1 x2 : Value) (HS : Hid (∀ W, Below w2.heap.size w2 W → (fun W : World => W.cell? ⟨q, 0, none⟩ = some (.int .u8 2) ∧ W.cell? ⟨q, 1, none⟩ = some (.string ⟨#[105, 110, 116]⟩) ∧ W.cell? ⟨q, 2, none⟩ = some (.int .i64 0) ∧ W.cell? ⟨q, 3, none⟩ = some (.slice none 0 0)) W)) (HEnd : Hid (RgEnd Q w2 q x0 x1 x2)) (W : World) (T : Hid (Below w2.heap.size w2 W)) (mB : Nat) (FB : Hid (Blk W mB 24 #[.int .u8 2, .string ⟨#[105, 110, 116]⟩, .int .i64 0, .slice none 0 0])) : wpAnyH Tryd.prog .any rops Q (fun W : World => W.cell? ⟨q, 0, none⟩ = some (.int .u8 2) ∧ W.cell? ⟨q, 1, none⟩ = some (.string ⟨#[105, 110, 116]⟩) ∧ W.cell? ⟨q, 2, none⟩ = some (.int .i64 0) ∧ W.cell? ⟨q, 3, none⟩ = some (.slice none 0 0)) 10 #[true, true, false, false, true, true, true, true, true, true, false, false, true, true, false, false, true, false, false, true, false, false] { tmps := #[x0, x1, x2, undef, undef, undef, .bool false, .pointer (some ⟨q, 0, none⟩), undef, undef, undef, undef, undef, undef, undef, undef, .agg #[.int .u8 2, .string ⟨#[105, 110, 116]⟩, .int .i64 0, .slice none 0 0], .agg #[.int .u8 2, .string ⟨#[105, 110, 116]⟩, .int .i64 0, .slice none 0 0], .agg #[.int .u8 2, .string ⟨#[105, 110, 116]⟩, .int .i64 0, .slice none 0 0], undef, undef, .agg #[.int .u8 1, .string ⟨#[39, 98]⟩, .int .i64 0, .slice none 0 0], .agg #[.int .u8 2, .string ⟨#[101, 120, 110]⟩, .int .i64 0, .slice none 0 0], .agg #[.int .u8 2, .string ⟨#[110, 111, 98, 111, 100, 121]⟩, .int .i64 0, .slice none 0 0], .agg #[.int .u8 2, .string ⟨#[105, 110, 116]⟩, .int .i64 0, .slice none 0 0], .slice (some ⟨mB, 0, none⟩) 1 1, .agg #[.int .u8 2, .string ⟨#[105, 110, 116]⟩, .int .i64 0, .slice (some ⟨mB, 0, none⟩) 1 1], undef, undef, .agg #[.int .u8 2, .string ⟨#[105, 110, 116]⟩, .int .i64 0, .slice none 0 0], .agg #[.int .u8 2, .string ⟨#[105, 110, 116]⟩, .int .i64 0, .slice none 0 0], undef, undef, .agg #[.int .u8 2, .string ⟨#[105, 110, 116]⟩, .int .i64 0, .slice none 0 0], undef, undef, .agg #[.int .u8 0, .string ⟨#[]⟩, .int .i64 0, .slice none 0 0], undef, undef, undef, undef, undef, undef, undef, undef, undef, undef, undef, undef, undef, undef, undef, undef, undef, undef, undef, undef, undef, undef, undef, undef, undef, undef, undef, undef, undef, undef, undef, undef, undef, undef, undef, undef, undef, undef, undef, undef, undef, undef, undef, undef, undef, undef, undef, undef, undef, undef, undef, undef, undef, undef, undef, undef, undef, undef, undef, undef, undef, undef, undef, undef, undef, undef, undef, undef, undef, undef, undef, undef], defers := [] } W := by
  have hHeld := HS.out W T.out
  refine wpAnyH_ready (rs := [2, 10, 14, 17]) (by kernel_rfl) (by simp) ?_
  refine AllReadyH.cons (o := { dst := some 19, op := Op.buildSlice 22 2 #[(0, Operand.tmp 17), (1, Operand.tmp 18)], type := 22, pos := "law.go:211", after := #[{ on := 0, ground := Ground.data }, { on := 1, ground := Ground.data }], guard := none }) rfl (fun K hK => ?_) (AllReadyH.cons (o := { dst := some 27, op := Op.call { callee := Callee.value (Operand.func 10), args := #[Operand.const (Value.string { data := #[114, 101, 102] }), Operand.const (Value.slice none 0 0)], argTypes := #[9, 22] }, type := 24, pos := "law.go:211", after := #[{ on := 9, ground := Ground.chain }], guard := none }) rfl (fun K hK => ?_) (AllReadyH.cons (o := { dst := some 31, op := Op.buildSlice 22 2 #[(0, Operand.tmp 29), (1, Operand.tmp 30)], type := 22, pos := "law.go:211", after := #[{ on := 12, ground := Ground.data }, { on := 13, ground := Ground.data }], guard := none }) rfl (fun K hK => ?_) (AllReadyH.cons (o := { dst := some 34, op := Op.buildSlice 22 1 #[(0, Operand.tmp 33)], type := 22, pos := "law.go:211", after := #[{ on := 16, ground := Ground.data }], guard := none }) rfl (fun K hK => ?_) AllReadyH.nil)))
  · obtain ⟨b, hb⟩ : ∃ v, W.alloc (.cells #[.int .u8 2, .string ⟨#[105, 110, 116]⟩, .int .i64 0, .slice none 0 0, .int .u8 2, .string ⟨#[105, 110, 116]⟩, .int .i64 0, .slice none 0 0] 24) = v := ⟨_, rfl⟩
    have bb : Below W.heap.size W b := by rw [← hb]; exact (Below.refl _ _).alloc (Nat.le_refl _) _
    have BB : Blk b W.heap.size 24 #[.int .u8 2, .string ⟨#[105, 110, 116]⟩, .int .i64 0, .slice none 0 0, .int .u8 2, .string ⟨#[105, 110, 116]⟩, .int .i64 0, .slice none 0 0] := by rw [← hb]; exact Blk.new _ _ _
    obtain ⟨mA, hn⟩ : ∃ v, W.heap.size = v := ⟨_, rfl⟩
    rw [hn] at BB
    have H := Lib.hid (And.intro hb (And.intro hn (And.intro bb BB)))
    have Tb : Hid (Below w2.heap.size w2 b) := Lib.hid (T.out.trans (bb.mono T.out.size))
    clear hb hn bb BB
    go_simp
    (try rw [H.out.1])
    (try rw [H.out.2.1])
    refine hK.out _ _ (HS.out _ Tb.out) (fun hHeld => ?_)
    clear hK K
    have FB := Lib.hid (FB.out.below H.out.2.2.1 FB.out.lt)
    have FA := Lib.hid H.out.2.2.2
    refine takeY (oi := { dst := some 20, op := Op.build 24 #[(0, Operand.const (Value.int IntKind.u8 3)), (3, Operand.tmp 19)], type := 24, pos := "law.go:211", after := #[{ on := 2, ground := Ground.data }], guard := none }) 3 (some 20) rfl rfl (by kernel_rfl) (by kernel_rfl) (by kernel_rfl) (fun _ _ _ h => hQ _ _ _ _ _ h) (by rfl) (v := _) (by (intro _ hSw; (try dsimp only at hSw); go_simp; try with_reducible rfl)) hHeld ?_
    simp only [Act.put, List.setIfInBounds_toArray, List.set_cons_zero, List.set_cons_succ]
    exact rg3AB Q hQ w2 q x0 x1 x2 HS HEnd b Tb mA FA mB FB
  · have HT := Lib.hid (named_any ⟨#[114, 101, 102]⟩ none 0 0 W)
    clear hHeld
    go_simp
    go_wp2_with (go_at_call 10; refine Calls.mono HT.out ?_; rintro e b ⟨rfl, bb⟩; have Hb := Lib.hid bb; have Tb : Hid (Below w2.heap.size w2 b) := Lib.hid (T.out.trans (bb.mono T.out.size)))
    refine hK.out _ _ (HS.out _ Tb.out) (fun hHeld => ?_)
    clear hK K HT
    have FB := Lib.hid (FB.out.below Hb.out FB.out.lt)
    exact rg4B Q hQ w2 q x0 x1 x2 HS HEnd b Tb mB FB
  · obtain ⟨b, hb⟩ : ∃ v, W.alloc (.cells #[.int .u8 2, .string ⟨#[105, 110, 116]⟩, .int .i64 0, .slice none 0 0, .int .u8 2, .string ⟨#[105, 110, 116]⟩, .int .i64 0, .slice none 0 0] 24) = v := ⟨_, rfl⟩
    have bb : Below W.heap.size W b := by rw [← hb]; exact (Below.refl _ _).alloc (Nat.le_refl _) _
    have BB : Blk b W.heap.size 24 #[.int .u8 2, .string ⟨#[105, 110, 116]⟩, .int .i64 0, .slice none 0 0, .int .u8 2, .string ⟨#[105, 110, 116]⟩, .int .i64 0, .slice none 0 0] := by rw [← hb]; exact Blk.new _ _ _
    obtain ⟨mC, hn⟩ : ∃ v, W.heap.size = v := ⟨_, rfl⟩
    rw [hn] at BB
    have H := Lib.hid (And.intro hb (And.intro hn (And.intro bb BB)))
    have Tb : Hid (Below w2.heap.size w2 b) := Lib.hid (T.out.trans (bb.mono T.out.size))
    clear hb hn bb BB
    go_simp
    (try rw [H.out.1])
    (try rw [H.out.2.1])
    refine hK.out _ _ (HS.out _ Tb.out) (fun hHeld => ?_)
    clear hK K
    have FB := Lib.hid (FB.out.below H.out.2.2.1 FB.out.lt)
    have FC := Lib.hid H.out.2.2.2
    exact rg3BC Q hQ w2 q x0 x1 x2 HS HEnd b Tb mB FB mC FC
  · obtain ⟨b, hb⟩ : ∃ v, W.alloc (.cells #[.int .u8 2, .string ⟨#[105, 110, 116]⟩, .int .i64 0, .slice none 0 0] 24) = v := ⟨_, rfl⟩
    have bb : Below W.heap.size W b := by rw [← hb]; exact (Below.refl _ _).alloc (Nat.le_refl _) _
    have BB : Blk b W.heap.size 24 #[.int .u8 2, .string ⟨#[105, 110, 116]⟩, .int .i64 0, .slice none 0 0] := by rw [← hb]; exact Blk.new _ _ _
    obtain ⟨mD, hn⟩ : ∃ v, W.heap.size = v := ⟨_, rfl⟩
    rw [hn] at BB
    have H := Lib.hid (And.intro hb (And.intro hn (And.intro bb BB)))
    have Tb : Hid (Below w2.heap.size w2 b) := Lib.hid (T.out.trans (bb.mono T.out.size))
    clear hb hn bb BB
    go_simp
    (try rw [H.out.1])
    (try rw [H.out.2.1])
    refine hK.out _ _ (HS.out _ Tb.out) (fun hHeld => ?_)
    clear hK K
    have FB := Lib.hid (FB.out.below H.out.2.2.1 FB.out.lt)
    have FD := Lib.hid H.out.2.2.2
    refine takeY (oi := { dst := some 35, op := Op.build 24 #[(0, Operand.const (Value.int IntKind.u8 4)), (3, Operand.tmp 34)], type := 24, pos := "law.go:211", after := #[{ on := 17, ground := Ground.data }], guard := none }) 18 (some 35) rfl rfl (by kernel_rfl) (by kernel_rfl) (by kernel_rfl) (fun _ _ _ h => hQ _ _ _ _ _ h) (by rfl) (v := _) (by (intro _ hSw; (try dsimp only at hSw); go_simp; try with_reducible rfl)) hHeld ?_
    simp only [Act.put, List.setIfInBounds_toArray, List.set_cons_zero, List.set_cons_succ]
    exact rg3BD Q hQ w2 q x0 x1 x2 HS HEnd b Tb mB FB mD FD
set_option maxRecDepth 100000 in
set_option maxHeartbeats 4000000 in
theorem rg0ABC (Q : Exit → Act → World → Prop) (hQ : ∀ c d v (a : Act) (w : World), Q (.panic c) (a.put d v) w → Q (.panic c) a w) (w2 : World) (q : Nat) (x0 x1 x2 : Value) (HS : Hid (∀ W, Below w2.heap.size w2 W → (fun W : World => W.cell? ⟨q, 0, none⟩ = some (.int .u8 2) ∧ W.cell? ⟨q, 1, none⟩ = some (.string ⟨#[105, 110, 116]⟩) ∧ W.cell? ⟨q, 2, none⟩ = some (.int .i64 0) ∧ W.cell? ⟨q, 3, none⟩ = some (.slice none 0 0)) W)) (HEnd : Hid (RgEnd Q w2 q x0 x1 x2)) (W : World) (T : Hid (Below w2.heap.size w2 W)) (mA : Nat) (FA : Hid (Blk W mA 24 #[.int .u8 2, .string ⟨#[105, 110, 116]⟩, .int .i64 0, .slice none 0 0, .int .u8 2, .string ⟨#[105, 110, 116]⟩, .int .i64 0, .slice none 0 0])) (mB : Nat) (FB : Hid (Blk W mB 24 #[.int .u8 2, .string ⟨#[105, 110, 116]⟩, .int .i64 0, .slice none 0 0])) (mC : Nat) (FC : Hid (Blk W mC 24 #[.int .u8 2, .string ⟨#[105, 110, 116]⟩, .int .i64 0, .slice none 0 0, .int .u8 2, .string ⟨#[105, 110, 116]⟩, .int .i64 0, .slice none 0 0])) : wpAnyH Tryd.prog .any rops Q (fun W : World => W.cell? ⟨q, 0, none⟩ = some (.int .u8 2) ∧ W.cell? ⟨q, 1, none⟩ = some (.string ⟨#[105, 110, 116]⟩) ∧ W.cell? ⟨q, 2, none⟩ = some (.int .i64 0) ∧ W.cell? ⟨q, 3, none⟩ = some (.slice none 0 0)) 10 #[true, true, true, true, true, false, false, true, true, false, false, false, true, true, true, false, true, false, false, true, false, false] { tmps := #[x0, x1, x2, undef, undef, undef, .bool false, .pointer (some ⟨q, 0, none⟩), undef, undef, undef, undef, undef, undef, undef, undef, .agg #[.int .u8 2, .string ⟨#[105, 110, 116]⟩, .int .i64 0, .slice none 0 0], .agg #[.int .u8 2, .string ⟨#[105, 110, 116]⟩, .int .i64 0, .slice none 0 0], .agg #[.int .u8 2, .string ⟨#[105, 110, 116]⟩, .int .i64 0, .slice none 0 0], .slice (some ⟨mA, 0, none⟩) 2 2, .agg #[.int .u8 3, .string ⟨#[]⟩, .int .i64 0, .slice (some ⟨mA, 0, none⟩) 2 2], .agg #[.int .u8 1, .string ⟨#[39, 98]⟩, .int .i64 0, .slice none 0 0], undef, undef, .agg #[.int .u8 2, .string ⟨#[105, 110, 116]⟩, .int .i64 0, .slice none 0 0], .slice (some ⟨mB, 0, none⟩) 1 1, undef, undef, undef, .agg #[.int .u8 2, .string ⟨#[105, 110, 116]⟩, .int .i64 0, .slice none 0 0], .agg #[.int .u8 2, .string ⟨#[105, 110, 116]⟩, .int .i64 0, .slice none 0 0], .slice (some ⟨mC, 0, none⟩) 2 2, undef, .agg #[.int .u8 2, .string ⟨#[105, 110, 116]⟩, .int .i64 0, .slice none 0 0], undef, undef, .agg #[.int .u8 0, .string ⟨#[]⟩, .int .i64 0, .slice none 0 0], undef, undef, undef, undef, undef, undef, undef, undef, undef, undef, undef, undef, undef, undef, undef, undef, undef, undef, undef, undef, undef, undef, undef, undef, undef, undef, undef, undef, undef, undef, undef, undef, undef, undef, undef, undef, undef, undef, undef, undef, undef, undef, undef, undef, undef, undef, undef, undef, undef, undef, undef, undef, undef, undef, undef, undef, undef, undef, undef, undef, undef, undef, undef, undef, undef, undef, undef, undef, undef, undef, undef, undef], defers := [] } W := by
  have hHeld := HS.out W T.out
  refine wpAnyH_ready (rs := [5, 17]) (by kernel_rfl) (by simp) ?_
  refine AllReadyH.cons (o := { dst := some 22, op := Op.call { callee := Callee.value (Operand.func 10), args := #[Operand.const (Value.string { data := #[101, 120, 110] }), Operand.const (Value.slice none 0 0)], argTypes := #[9, 22] }, type := 24, pos := "law.go:211", after := #[], guard := none }) rfl (fun K hK => ?_) (AllReadyH.cons (o := { dst := some 34, op := Op.buildSlice 22 1 #[(0, Operand.tmp 33)], type := 22, pos := "law.go:211", after := #[{ on := 16, ground := Ground.data }], guard := none }) rfl (fun K hK => ?_) AllReadyH.nil)
  · have HT := Lib.hid (named_any ⟨#[101, 120, 110]⟩ none 0 0 W)
    clear hHeld
    go_simp
    go_wp2_with (go_at_call 10; refine Calls.mono HT.out ?_; rintro e b ⟨rfl, bb⟩; have Hb := Lib.hid bb; have Tb : Hid (Below w2.heap.size w2 b) := Lib.hid (T.out.trans (bb.mono T.out.size)))
    refine hK.out _ _ (HS.out _ Tb.out) (fun hHeld => ?_)
    clear hK K HT
    have FA := Lib.hid (FA.out.below Hb.out FA.out.lt)
    have FB := Lib.hid (FB.out.below Hb.out FB.out.lt)
    have FC := Lib.hid (FC.out.below Hb.out FC.out.lt)
    exact rg1ABC Q hQ w2 q x0 x1 x2 HS HEnd b Tb mA FA mB FB mC FC
  · obtain ⟨b, hb⟩ : ∃ v, W.alloc (.cells #[.int .u8 2, .string ⟨#[105, 110, 116]⟩, .int .i64 0, .slice none 0 0] 24) = v := ⟨_, rfl⟩
    have bb : Below W.heap.size W b := by rw [← hb]; exact (Below.refl _ _).alloc (Nat.le_refl _) _
    have BB : Blk b W.heap.size 24 #[.int .u8 2, .string ⟨#[105, 110, 116]⟩, .int .i64 0, .slice none 0 0] := by rw [← hb]; exact Blk.new _ _ _
    obtain ⟨mD, hn⟩ : ∃ v, W.heap.size = v := ⟨_, rfl⟩
    rw [hn] at BB
    have H := Lib.hid (And.intro hb (And.intro hn (And.intro bb BB)))
    have Tb : Hid (Below w2.heap.size w2 b) := Lib.hid (T.out.trans (bb.mono T.out.size))
    clear hb hn bb BB
    go_simp
    (try rw [H.out.1])
    (try rw [H.out.2.1])
    refine hK.out _ _ (HS.out _ Tb.out) (fun hHeld => ?_)
    clear hK K
    have FA := Lib.hid (FA.out.below H.out.2.2.1 FA.out.lt)
    have FB := Lib.hid (FB.out.below H.out.2.2.1 FB.out.lt)
    have FC := Lib.hid (FC.out.below H.out.2.2.1 FC.out.lt)
    have FD := Lib.hid H.out.2.2.2
    refine takeY (oi := { dst := some 35, op := Op.build 24 #[(0, Operand.const (Value.int IntKind.u8 4)), (3, Operand.tmp 34)], type := 24, pos := "law.go:211", after := #[{ on := 17, ground := Ground.data }], guard := none }) 18 (some 35) rfl rfl (by kernel_rfl) (by kernel_rfl) (by kernel_rfl) (fun _ _ _ h => hQ _ _ _ _ _ h) (by rfl) (v := _) (by (intro _ hSw; (try dsimp only at hSw); go_simp; try with_reducible rfl)) hHeld ?_
    simp only [Act.put, List.setIfInBounds_toArray, List.set_cons_zero, List.set_cons_succ]
    exact rg0ABCD Q hQ w2 q x0 x1 x2 HS HEnd b Tb mA FA mB FB mC FC mD FD
set_option maxRecDepth 100000 in
set_option maxHeartbeats 4000000 in
theorem rg0ABD (Q : Exit → Act → World → Prop) (hQ : ∀ c d v (a : Act) (w : World), Q (.panic c) (a.put d v) w → Q (.panic c) a w) (w2 : World) (q : Nat) (x0 x1 x2 : Value) (HS : Hid (∀ W, Below w2.heap.size w2 W → (fun W : World => W.cell? ⟨q, 0, none⟩ = some (.int .u8 2) ∧ W.cell? ⟨q, 1, none⟩ = some (.string ⟨#[105, 110, 116]⟩) ∧ W.cell? ⟨q, 2, none⟩ = some (.int .i64 0) ∧ W.cell? ⟨q, 3, none⟩ = some (.slice none 0 0)) W)) (HEnd : Hid (RgEnd Q w2 q x0 x1 x2)) (W : World) (T : Hid (Below w2.heap.size w2 W)) (mA : Nat) (FA : Hid (Blk W mA 24 #[.int .u8 2, .string ⟨#[105, 110, 116]⟩, .int .i64 0, .slice none 0 0, .int .u8 2, .string ⟨#[105, 110, 116]⟩, .int .i64 0, .slice none 0 0])) (mB : Nat) (FB : Hid (Blk W mB 24 #[.int .u8 2, .string ⟨#[105, 110, 116]⟩, .int .i64 0, .slice none 0 0])) (mD : Nat) (FD : Hid (Blk W mD 24 #[.int .u8 2, .string ⟨#[105, 110, 116]⟩, .int .i64 0, .slice none 0 0])) : wpAnyH Tryd.prog .any rops Q (fun W : World => W.cell? ⟨q, 0, none⟩ = some (.int .u8 2) ∧ W.cell? ⟨q, 1, none⟩ = some (.string ⟨#[105, 110, 116]⟩) ∧ W.cell? ⟨q, 2, none⟩ = some (.int .i64 0) ∧ W.cell? ⟨q, 3, none⟩ = some (.slice none 0 0)) 9 #[true, true, true, true, true, false, false, true, true, false, false, false, true, true, false, false, true, true, true, true, false, false] { tmps := #[x0, x1, x2, undef, undef, undef, .bool false, .pointer (some ⟨q, 0, none⟩), undef, undef, undef, undef, undef, undef, undef, undef, .agg #[.int .u8 2, .string ⟨#[105, 110, 116]⟩, .int .i64 0, .slice none 0 0], .agg #[.int .u8 2, .string ⟨#[105, 110, 116]⟩, .int .i64 0, .slice none 0 0], .agg #[.int .u8 2, .string ⟨#[105, 110, 116]⟩, .int .i64 0, .slice none 0 0], .slice (some ⟨mA, 0, none⟩) 2 2, .agg #[.int .u8 3, .string ⟨#[]⟩, .int .i64 0, .slice (some ⟨mA, 0, none⟩) 2 2], .agg #[.int .u8 1, .string ⟨#[39, 98]⟩, .int .i64 0, .slice none 0 0], undef, undef, .agg #[.int .u8 2, .string ⟨#[105, 110, 116]⟩, .int .i64 0, .slice none 0 0], .slice (some ⟨mB, 0, none⟩) 1 1, undef, undef, undef, .agg #[.int .u8 2, .string ⟨#[105, 110, 116]⟩, .int .i64 0, .slice none 0 0], .agg #[.int .u8 2, .string ⟨#[105, 110, 116]⟩, .int .i64 0, .slice none 0 0], undef, undef, .agg #[.int .u8 2, .string ⟨#[105, 110, 116]⟩, .int .i64 0, .slice none 0 0], .slice (some ⟨mD, 0, none⟩) 1 1, .agg #[.int .u8 4, .string ⟨#[]⟩, .int .i64 0, .slice (some ⟨mD, 0, none⟩) 1 1], .agg #[.int .u8 0, .string ⟨#[]⟩, .int .i64 0, .slice none 0 0], undef, undef, undef, undef, undef, undef, undef, undef, undef, undef, undef, undef, undef, undef, undef, undef, undef, undef, undef, undef, undef, undef, undef, undef, undef, undef, undef, undef, undef, undef, undef, undef, undef, undef, undef, undef, undef, undef, undef, undef, undef, undef, undef, undef, undef, undef, undef, undef, undef, undef, undef, undef, undef, undef, undef, undef, undef, undef, undef, undef, undef, undef, undef, undef, undef, undef, undef, undef, undef, undef, undef, undef], defers := [] } W := by
  have hHeld := HS.out W T.out
  refine wpAnyH_ready (rs := [5, 14]) (by kernel_rfl) (by simp) ?_
  refine AllReadyH.cons (o := { dst := some 22, op := Op.call { callee := Callee.value (Operand.func 10), args := #[Operand.const (Value.string { data := #[101, 120, 110] }), Operand.const (Value.slice none 0 0)], argTypes := #[9, 22] }, type := 24, pos := "law.go:211", after := #[], guard := none }) rfl (fun K hK => ?_) (AllReadyH.cons (o := { dst := some 31, op := Op.buildSlice 22 2 #[(0, Operand.tmp 29), (1, Operand.tmp 30)], type := 22, pos := "law.go:211", after := #[{ on := 12, ground := Ground.data }, { on := 13, ground := Ground.data }], guard := none }) rfl (fun K hK => ?_) AllReadyH.nil)
  · have HT := Lib.hid (named_any ⟨#[101, 120, 110]⟩ none 0 0 W)
    clear hHeld
    go_simp
    go_wp2_with (go_at_call 10; refine Calls.mono HT.out ?_; rintro e b ⟨rfl, bb⟩; have Hb := Lib.hid bb; have Tb : Hid (Below w2.heap.size w2 b) := Lib.hid (T.out.trans (bb.mono T.out.size)))
    refine hK.out _ _ (HS.out _ Tb.out) (fun hHeld => ?_)
    clear hK K HT
    have FA := Lib.hid (FA.out.below Hb.out FA.out.lt)
    have FB := Lib.hid (FB.out.below Hb.out FB.out.lt)
    have FD := Lib.hid (FD.out.below Hb.out FD.out.lt)
    exact rg1ABD Q hQ w2 q x0 x1 x2 HS HEnd b Tb mA FA mB FB mD FD
  · obtain ⟨b, hb⟩ : ∃ v, W.alloc (.cells #[.int .u8 2, .string ⟨#[105, 110, 116]⟩, .int .i64 0, .slice none 0 0, .int .u8 2, .string ⟨#[105, 110, 116]⟩, .int .i64 0, .slice none 0 0] 24) = v := ⟨_, rfl⟩
    have bb : Below W.heap.size W b := by rw [← hb]; exact (Below.refl _ _).alloc (Nat.le_refl _) _
    have BB : Blk b W.heap.size 24 #[.int .u8 2, .string ⟨#[105, 110, 116]⟩, .int .i64 0, .slice none 0 0, .int .u8 2, .string ⟨#[105, 110, 116]⟩, .int .i64 0, .slice none 0 0] := by rw [← hb]; exact Blk.new _ _ _
    obtain ⟨mC, hn⟩ : ∃ v, W.heap.size = v := ⟨_, rfl⟩
    rw [hn] at BB
    have H := Lib.hid (And.intro hb (And.intro hn (And.intro bb BB)))
    have Tb : Hid (Below w2.heap.size w2 b) := Lib.hid (T.out.trans (bb.mono T.out.size))
    clear hb hn bb BB
    go_simp
    (try rw [H.out.1])
    (try rw [H.out.2.1])
    refine hK.out _ _ (HS.out _ Tb.out) (fun hHeld => ?_)
    clear hK K
    have FA := Lib.hid (FA.out.below H.out.2.2.1 FA.out.lt)
    have FB := Lib.hid (FB.out.below H.out.2.2.1 FB.out.lt)
    have FD := Lib.hid (FD.out.below H.out.2.2.1 FD.out.lt)
    have FC := Lib.hid H.out.2.2.2
    exact rg0ABCD Q hQ w2 q x0 x1 x2 HS HEnd b Tb mA FA mB FB mC FC mD FD
set_option maxRecDepth 100000 in
set_option maxHeartbeats 4000000 in
theorem rg0ACD (Q : Exit → Act → World → Prop) (hQ : ∀ c d v (a : Act) (w : World), Q (.panic c) (a.put d v) w → Q (.panic c) a w) (w2 : World) (q : Nat) (x0 x1 x2 : Value) (HS : Hid (∀ W, Below w2.heap.size w2 W → (fun W : World => W.cell? ⟨q, 0, none⟩ = some (.int .u8 2) ∧ W.cell? ⟨q, 1, none⟩ = some (.string ⟨#[105, 110, 116]⟩) ∧ W.cell? ⟨q, 2, none⟩ = some (.int .i64 0) ∧ W.cell? ⟨q, 3, none⟩ = some (.slice none 0 0)) W)) (HEnd : Hid (RgEnd Q w2 q x0 x1 x2)) (W : World) (T : Hid (Below w2.heap.size w2 W)) (mA : Nat) (FA : Hid (Blk W mA 24 #[.int .u8 2, .string ⟨#[105, 110, 116]⟩, .int .i64 0, .slice none 0 0, .int .u8 2, .string ⟨#[105, 110, 116]⟩, .int .i64 0, .slice none 0 0])) (mC : Nat) (FC : Hid (Blk W mC 24 #[.int .u8 2, .string ⟨#[105, 110, 116]⟩, .int .i64 0, .slice none 0 0, .int .u8 2, .string ⟨#[105, 110, 116]⟩, .int .i64 0, .slice none 0 0])) (mD : Nat) (FD : Hid (Blk W mD 24 #[.int .u8 2, .string ⟨#[105, 110, 116]⟩, .int .i64 0, .slice none 0 0])) : wpAnyH Tryd.prog .any rops Q (fun W : World => W.cell? ⟨q, 0, none⟩ = some (.int .u8 2) ∧ W.cell? ⟨q, 1, none⟩ = some (.string ⟨#[105, 110, 116]⟩) ∧ W.cell? ⟨q, 2, none⟩ = some (.int .i64 0) ∧ W.cell? ⟨q, 3, none⟩ = some (.slice none 0 0)) 9 #[true, true, true, true, true, false, false, true, false, false, false, false, true, true, true, false, true, true, true, true, false, false] { tmps := #[x0, x1, x2, undef, undef, undef, .bool false, .pointer (some ⟨q, 0, none⟩), undef, undef, undef, undef, undef, undef, undef, undef, .agg #[.int .u8 2, .string ⟨#[105, 110, 116]⟩, .int .i64 0, .slice none 0 0], .agg #[.int .u8 2, .string ⟨#[105, 110, 116]⟩, .int .i64 0, .slice none 0 0], .agg #[.int .u8 2, .string ⟨#[105, 110, 116]⟩, .int .i64 0, .slice none 0 0], .slice (some ⟨mA, 0, none⟩) 2 2, .agg #[.int .u8 3, .string ⟨#[]⟩, .int .i64 0, .slice (some ⟨mA, 0, none⟩) 2 2], .agg #[.int .u8 1, .string ⟨#[39, 98]⟩, .int .i64 0, .slice none 0 0], undef, undef, .agg #[.int .u8 2, .string ⟨#[105, 110, 116]⟩, .int .i64 0, .slice none 0 0], undef, undef, undef, undef, .agg #[.int .u8 2, .string ⟨#[105, 110, 116]⟩, .int .i64 0, .slice none 0 0], .agg #[.int .u8 2, .string ⟨#[105, 110, 116]⟩, .int .i64 0, .slice none 0 0], .slice (some ⟨mC, 0, none⟩) 2 2, undef, .agg #[.int .u8 2, .string ⟨#[105, 110, 116]⟩, .int .i64 0, .slice none 0 0], .slice (some ⟨mD, 0, none⟩) 1 1, .agg #[.int .u8 4, .string ⟨#[]⟩, .int .i64 0, .slice (some ⟨mD, 0, none⟩) 1 1], .agg #[.int .u8 0, .string ⟨#[]⟩, .int .i64 0, .slice none 0 0], undef, undef, undef, undef, undef, undef, undef, undef, undef, undef, undef, undef, undef, undef, undef, undef, undef, undef, undef, undef, undef, undef, undef, undef, undef, undef, undef, undef, undef, undef, undef, undef, undef, undef, undef, undef, undef, undef, undef, undef, undef, undef, undef, undef, undef, undef, undef, undef, undef, undef, undef, undef, undef, undef, undef, undef, undef, undef, undef, undef, undef, undef, undef, undef, undef, undef, undef, undef, undef, undef, undef, undef], defers := [] } W := by
  have hHeld := HS.out W T.out
  refine wpAnyH_ready (rs := [5, 8]) (by kernel_rfl) (by simp) ?_
  refine AllReadyH.cons (o := { dst := some 22, op := Op.call { callee := Callee.value (Operand.func 10), args := #[Operand.const (Value.string { data := #[101, 120, 110] }), Operand.const (Value.slice none 0 0)], argTypes := #[9, 22] }, type := 24, pos := "law.go:211", after := #[], guard := none }) rfl (fun K hK => ?_) (AllReadyH.cons (o := { dst := some 25, op := Op.buildSlice 22 1 #[(0, Operand.tmp 24)], type := 22, pos := "law.go:211", after := #[{ on := 7, ground := Ground.data }], guard := none }) rfl (fun K hK => ?_) AllReadyH.nil)
  · have HT := Lib.hid (named_any ⟨#[101, 120, 110]⟩ none 0 0 W)
    clear hHeld
    go_simp
    go_wp2_with (go_at_call 10; refine Calls.mono HT.out ?_; rintro e b ⟨rfl, bb⟩; have Hb := Lib.hid bb; have Tb : Hid (Below w2.heap.size w2 b) := Lib.hid (T.out.trans (bb.mono T.out.size)))
    refine hK.out _ _ (HS.out _ Tb.out) (fun hHeld => ?_)
    clear hK K HT
    have FA := Lib.hid (FA.out.below Hb.out FA.out.lt)
    have FC := Lib.hid (FC.out.below Hb.out FC.out.lt)
    have FD := Lib.hid (FD.out.below Hb.out FD.out.lt)
    exact rg1ACD Q hQ w2 q x0 x1 x2 HS HEnd b Tb mA FA mC FC mD FD
  · obtain ⟨b, hb⟩ : ∃ v, W.alloc (.cells #[.int .u8 2, .string ⟨#[105, 110, 116]⟩, .int .i64 0, .slice none 0 0] 24) = v := ⟨_, rfl⟩
    have bb : Below W.heap.size W b := by rw [← hb]; exact (Below.refl _ _).alloc (Nat.le_refl _) _
    have BB : Blk b W.heap.size 24 #[.int .u8 2, .string ⟨#[105, 110, 116]⟩, .int .i64 0, .slice none 0 0] := by rw [← hb]; exact Blk.new _ _ _
    obtain ⟨mB, hn⟩ : ∃ v, W.heap.size = v := ⟨_, rfl⟩
    rw [hn] at BB
    have H := Lib.hid (And.intro hb (And.intro hn (And.intro bb BB)))
    have Tb : Hid (Below w2.heap.size w2 b) := Lib.hid (T.out.trans (bb.mono T.out.size))
    clear hb hn bb BB
    go_simp
    (try rw [H.out.1])
    (try rw [H.out.2.1])
    refine hK.out _ _ (HS.out _ Tb.out) (fun hHeld => ?_)
    clear hK K
    have FA := Lib.hid (FA.out.below H.out.2.2.1 FA.out.lt)
    have FC := Lib.hid (FC.out.below H.out.2.2.1 FC.out.lt)
    have FD := Lib.hid (FD.out.below H.out.2.2.1 FD.out.lt)
    have FB := Lib.hid H.out.2.2.2
    exact rg0ABCD Q hQ w2 q x0 x1 x2 HS HEnd b Tb mA FA mB FB mC FC mD FD
set_option maxRecDepth 100000 in
set_option maxHeartbeats 4000000 in
theorem rg0BCD (Q : Exit → Act → World → Prop) (hQ : ∀ c d v (a : Act) (w : World), Q (.panic c) (a.put d v) w → Q (.panic c) a w) (w2 : World) (q : Nat) (x0 x1 x2 : Value) (HS : Hid (∀ W, Below w2.heap.size w2 W → (fun W : World => W.cell? ⟨q, 0, none⟩ = some (.int .u8 2) ∧ W.cell? ⟨q, 1, none⟩ = some (.string ⟨#[105, 110, 116]⟩) ∧ W.cell? ⟨q, 2, none⟩ = some (.int .i64 0) ∧ W.cell? ⟨q, 3, none⟩ = some (.slice none 0 0)) W)) (HEnd : Hid (RgEnd Q w2 q x0 x1 x2)) (W : World) (T : Hid (Below w2.heap.size w2 W)) (mB : Nat) (FB : Hid (Blk W mB 24 #[.int .u8 2, .string ⟨#[105, 110, 116]⟩, .int .i64 0, .slice none 0 0])) (mC : Nat) (FC : Hid (Blk W mC 24 #[.int .u8 2, .string ⟨#[105, 110, 116]⟩, .int .i64 0, .slice none 0 0, .int .u8 2, .string ⟨#[105, 110, 116]⟩, .int .i64 0, .slice none 0 0])) (mD : Nat) (FD : Hid (Blk W mD 24 #[.int .u8 2, .string ⟨#[105, 110, 116]⟩, .int .i64 0, .slice none 0 0])) : wpAnyH Tryd.prog .any rops Q (fun W : World => W.cell? ⟨q, 0, none⟩ = some (.int .u8 2) ∧ W.cell? ⟨q, 1, none⟩ = some (.string ⟨#[105, 110, 116]⟩) ∧ W.cell? ⟨q, 2, none⟩ = some (.int .i64 0) ∧ W.cell? ⟨q, 3, none⟩ = some (.slice none 0 0)) 10 #[true, true, false, false, true, false, false, true, true, false, false, false, true, true, true, false, true, true, true, true, false, false] { tmps := #[x0, x1, x2, undef, undef, undef, .bool false, .pointer (some ⟨q, 0, none⟩), undef, undef, undef, undef, undef, undef, undef, undef, .agg #[.int .u8 2, .string ⟨#[105, 110, 116]⟩, .int .i64 0, .slice none 0 0], .agg #[.int .u8 2, .string ⟨#[105, 110, 116]⟩, .int .i64 0, .slice none 0 0], .agg #[.int .u8 2, .string ⟨#[105, 110, 116]⟩, .int .i64 0, .slice none 0 0], undef, undef, .agg #[.int .u8 1, .string ⟨#[39, 98]⟩, .int .i64 0, .slice none 0 0], undef, undef, .agg #[.int .u8 2, .string ⟨#[105, 110, 116]⟩, .int .i64 0, .slice none 0 0], .slice (some ⟨mB, 0, none⟩) 1 1, undef, undef, undef, .agg #[.int .u8 2, .string ⟨#[105, 110, 116]⟩, .int .i64 0, .slice none 0 0], .agg #[.int .u8 2, .string ⟨#[105, 110, 116]⟩, .int .i64 0, .slice none 0 0], .slice (some ⟨mC, 0, none⟩) 2 2, undef, .agg #[.int .u8 2, .string ⟨#[105, 110, 116]⟩, .int .i64 0, .slice none 0 0], .slice (some ⟨mD, 0, none⟩) 1 1, .agg #[.int .u8 4, .string ⟨#[]⟩, .int .i64 0, .slice (some ⟨mD, 0, none⟩) 1 1], .agg #[.int .u8 0, .string ⟨#[]⟩, .int .i64 0, .slice none 0 0], undef, undef, undef, undef, undef, undef, undef, undef, undef, undef, undef, undef, undef, undef, undef, undef, undef, undef, undef, undef, undef, undef, undef, undef, undef, undef, undef, undef, undef, undef, undef, undef, undef, undef, undef, undef, undef, undef, undef, undef, undef, undef, undef, undef, undef, undef, undef, undef, undef, undef, undef, undef, undef, undef, undef, undef, undef, undef, undef, undef, undef, undef, undef, undef, undef, undef, undef, undef, undef, undef, undef, undef], defers := [] } W := by
  have hHeld := HS.out W T.out
  refine wpAnyH_ready (rs := [2, 5]) (by kernel_rfl) (by simp) ?_
  refine AllReadyH.cons (o := { dst := some 19, op := Op.buildSlice 22 2 #[(0, Operand.tmp 17), (1, Operand.tmp 18)], type := 22, pos := "law.go:211", after := #[{ on := 0, ground := Ground.data }, { on := 1, ground := Ground.data }], guard := none }) rfl (fun K hK => ?_) (AllReadyH.cons (o := { dst := some 22, op := Op.call { callee := Callee.value (Operand.func 10), args := #[Operand.const (Value.string { data := #[101, 120, 110] }), Operand.const (Value.slice none 0 0)], argTypes := #[9, 22] }, type := 24, pos := "law.go:211", after := #[], guard := none }) rfl (fun K hK => ?_) AllReadyH.nil)
  · obtain ⟨b, hb⟩ : ∃ v, W.alloc (.cells #[.int .u8 2, .string ⟨#[105, 110, 116]⟩, .int .i64 0, .slice none 0 0, .int .u8 2, .string ⟨#[105, 110, 116]⟩, .int .i64 0, .slice none 0 0] 24) = v := ⟨_, rfl⟩
    have bb : Below W.heap.size W b := by rw [← hb]; exact (Below.refl _ _).alloc (Nat.le_refl _) _
    have BB : Blk b W.heap.size 24 #[.int .u8 2, .string ⟨#[105, 110, 116]⟩, .int .i64 0, .slice none 0 0, .int .u8 2, .string ⟨#[105, 110, 116]⟩, .int .i64 0, .slice none 0 0] := by rw [← hb]; exact Blk.new _ _ _
    obtain ⟨mA, hn⟩ : ∃ v, W.heap.size = v := ⟨_, rfl⟩
    rw [hn] at BB
    have H := Lib.hid (And.intro hb (And.intro hn (And.intro bb BB)))
    have Tb : Hid (Below w2.heap.size w2 b) := Lib.hid (T.out.trans (bb.mono T.out.size))
    clear hb hn bb BB
    go_simp
    (try rw [H.out.1])
    (try rw [H.out.2.1])
    refine hK.out _ _ (HS.out _ Tb.out) (fun hHeld => ?_)
    clear hK K
    have FB := Lib.hid (FB.out.below H.out.2.2.1 FB.out.lt)
    have FC := Lib.hid (FC.out.below H.out.2.2.1 FC.out.lt)
    have FD := Lib.hid (FD.out.below H.out.2.2.1 FD.out.lt)
    have FA := Lib.hid H.out.2.2.2
    refine takeY (oi := { dst := some 20, op := Op.build 24 #[(0, Operand.const (Value.int IntKind.u8 3)), (3, Operand.tmp 19)], type := 24, pos := "law.go:211", after := #[{ on := 2, ground := Ground.data }], guard := none }) 3 (some 20) rfl rfl (by kernel_rfl) (by kernel_rfl) (by kernel_rfl) (fun _ _ _ h => hQ _ _ _ _ _ h) (by rfl) (v := _) (by (intro _ hSw; (try dsimp only at hSw); go_simp; try with_reducible rfl)) hHeld ?_
    simp only [Act.put, List.setIfInBounds_toArray, List.set_cons_zero, List.set_cons_succ]
    exact rg0ABCD Q hQ w2 q x0 x1 x2 HS HEnd b Tb mA FA mB FB mC FC mD FD
  · have HT := Lib.hid (named_any ⟨#[101, 120, 110]⟩ none 0 0 W)
    clear hHeld
    go_simp
    go_wp2_with (go_at_call 10; refine Calls.mono HT.out ?_; rintro e b ⟨rfl, bb⟩; have Hb := Lib.hid bb; have Tb : Hid (Below w2.heap.size w2 b) := Lib.hid (T.out.trans (bb.mono T.out.size)))
    refine hK.out _ _ (HS.out _ Tb.out) (fun hHeld => ?_)
    clear hK K HT
    have FB := Lib.hid (FB.out.below Hb.out FB.out.lt)
    have FC := Lib.hid (FC.out.below Hb.out FC.out.lt)
    have FD := Lib.hid (FD.out.below Hb.out FD.out.lt)
    exact rg1BCD Q hQ w2 q x0 x1 x2 HS HEnd b Tb mB FB mC FC mD FD
set_option maxRecDepth 100000 in
set_option maxHeartbeats 4000000 in
theorem rg1AB (Q : Exit → Act → World → Prop) (hQ : ∀ c d v (a : Act) (w : World), Q (.panic c) (a.put d v) w → Q (.panic c) a w) (w2 : World) (q : Nat) (x0 x1 x2 : Value) (HS : Hid (∀ W, Below w2.heap.size w2 W → (fun W : World => W.cell? ⟨q, 0, none⟩ = some (.int .u8 2) ∧ W.cell? ⟨q, 1, none⟩ = some (.string ⟨#[105, 110, 116]⟩) ∧ W.cell? ⟨q, 2, none⟩ = some (.int .i64 0) ∧ W.cell? ⟨q, 3, none⟩ = some (.slice none 0 0)) W)) (HEnd : Hid (RgEnd Q w2 q x0 x1 x2)) (W : World) (T : Hid (Below w2.heap.size w2 W)) (mA : Nat) (FA : Hid (Blk W mA 24 #[.int .u8 2, .string ⟨#[105, 110, 116]⟩, .int .i64 0, .slice none 0 0, .int .u8 2, .string ⟨#[105, 110, 116]⟩, .int .i64 0, .slice none 0 0])) (mB : Nat) (FB : Hid (Blk W mB 24 #[.int .u8 2, .string ⟨#[105, 110, 116]⟩, .int .i64 0, .slice none 0 0])) : wpAnyH Tryd.prog .any rops Q (fun W : World => W.cell? ⟨q, 0, none⟩ = some (.int .u8 2) ∧ W.cell? ⟨q, 1, none⟩ = some (.string ⟨#[105, 110, 116]⟩) ∧ W.cell? ⟨q, 2, none⟩ = some (.int .i64 0) ∧ W.cell? ⟨q, 3, none⟩ = some (.slice none 0 0)) 10 #[true, true, true, true, true, true, false, true, true, false, false, false, true, true, false, false, true, false, false, true, false, false] { tmps := #[x0, x1, x2, undef, undef, undef, .bool false, .pointer (some ⟨q, 0, none⟩), undef, undef, undef, undef, undef, undef, undef, undef, .agg #[.int .u8 2, .string ⟨#[105, 110, 116]⟩, .int .i64 0, .slice none 0 0], .agg #[.int .u8 2, .string ⟨#[105, 110, 116]⟩, .int .i64 0, .slice none 0 0], .agg #[.int .u8 2, .string ⟨#[105, 110, 116]⟩, .int .i64 0, .slice none 0 0], .slice (some ⟨mA, 0, none⟩) 2 2, .agg #[.int .u8 3, .string ⟨#[]⟩, .int .i64 0, .slice (some ⟨mA, 0, none⟩) 2 2], .agg #[.int .u8 1, .string ⟨#[39, 98]⟩, .int .i64 0, .slice none 0 0], .agg #[.int .u8 2, .string ⟨#[101, 120, 110]⟩, .int .i64 0, .slice none 0 0], undef, .agg #[.int .u8 2, .string ⟨#[105, 110, 116]⟩, .int .i64 0, .slice none 0 0], .slice (some ⟨mB, 0, none⟩) 1 1, undef, undef, undef, .agg #[.int .u8 2, .string ⟨#[105, 110, 116]⟩, .int .i64 0, .slice none 0 0], .agg #[.int .u8 2, .string ⟨#[105, 110, 116]⟩, .int .i64 0, .slice none 0 0], undef, undef, .agg #[.int .u8 2, .string ⟨#[105, 110, 116]⟩, .int .i64 0, .slice none 0 0], undef, undef, .agg #[.int .u8 0, .string ⟨#[]⟩, .int .i64 0, .slice none 0 0], undef, undef, undef, undef, undef, undef, undef, undef, undef, undef, undef, undef, undef, undef, undef, undef, undef, undef, undef, undef, undef, undef, undef, undef, undef, undef, undef, undef, undef, undef, undef, undef, undef, undef, undef, undef, undef, undef, undef, undef, undef, undef, undef, undef, undef, undef, undef, undef, undef, undef, undef, undef, undef, undef, undef, undef, undef, undef, undef, undef, undef, undef, undef, undef, undef, undef, undef, undef, undef, undef, undef, undef], defers := [] } W := by
  have hHeld := HS.out W T.out
  refine wpAnyH_ready (rs := [6, 14, 17]) (by kernel_rfl) (by simp) ?_
  refine AllReadyH.cons (o := { dst := some 23, op := Op.call { callee := Callee.value (Operand.func 10), args := #[Operand.const (Value.string { data := #[110, 111, 98, 111, 100, 121] }), Operand.const (Value.slice none 0 0)], argTypes := #[9, 22] }, type := 24, pos := "law.go:211", after := #[{ on := 5, ground := Ground.chain }], guard := none }) rfl (fun K hK => ?_) (AllReadyH.cons (o := { dst := some 31, op := Op.buildSlice 22 2 #[(0, Operand.tmp 29), (1, Operand.tmp 30)], type := 22, pos := "law.go:211", after := #[{ on := 12, ground := Ground.data }, { on := 13, ground := Ground.data }], guard := none }) rfl (fun K hK => ?_) (AllReadyH.cons (o := { dst := some 34, op := Op.buildSlice 22 1 #[(0, Operand.tmp 33)], type := 22, pos := "law.go:211", after := #[{ on := 16, ground := Ground.data }], guard := none }) rfl (fun K hK => ?_) AllReadyH.nil))
  · have HT := Lib.hid (named_any ⟨#[110, 111, 98, 111, 100, 121]⟩ none 0 0 W)
    clear hHeld
    go_simp
    go_wp2_with (go_at_call 10; refine Calls.mono HT.out ?_; rintro e b ⟨rfl, bb⟩; have Hb := Lib.hid bb; have Tb : Hid (Below w2.heap.size w2 b) := Lib.hid (T.out.trans (bb.mono T.out.size)))
    refine hK.out _ _ (HS.out _ Tb.out) (fun hHeld => ?_)
    clear hK K HT
    have FA := Lib.hid (FA.out.below Hb.out FA.out.lt)
    have FB := Lib.hid (FB.out.below Hb.out FB.out.lt)
    exact rg2AB Q hQ w2 q x0 x1 x2 HS HEnd b Tb mA FA mB FB
  · obtain ⟨b, hb⟩ : ∃ v, W.alloc (.cells #[.int .u8 2, .string ⟨#[105, 110, 116]⟩, .int .i64 0, .slice none 0 0, .int .u8 2, .string ⟨#[105, 110, 116]⟩, .int .i64 0, .slice none 0 0] 24) = v := ⟨_, rfl⟩
    have bb : Below W.heap.size W b := by rw [← hb]; exact (Below.refl _ _).alloc (Nat.le_refl _) _
    have BB : Blk b W.heap.size 24 #[.int .u8 2, .string ⟨#[105, 110, 116]⟩, .int .i64 0, .slice none 0 0, .int .u8 2, .string ⟨#[105, 110, 116]⟩, .int .i64 0, .slice none 0 0] := by rw [← hb]; exact Blk.new _ _ _
    obtain ⟨mC, hn⟩ : ∃ v, W.heap.size = v := ⟨_, rfl⟩
    rw [hn] at BB
    have H := Lib.hid (And.intro hb (And.intro hn (And.intro bb BB)))
    have Tb : Hid (Below w2.heap.size w2 b) := Lib.hid (T.out.trans (bb.mono T.out.size))
    clear hb hn bb BB
    go_simp
    (try rw [H.out.1])
    (try rw [H.out.2.1])
    refine hK.out _ _ (HS.out _ Tb.out) (fun hHeld => ?_)
    clear hK K
    have FA := Lib.hid (FA.out.below H.out.2.2.1 FA.out.lt)
    have FB := Lib.hid (FB.out.below H.out.2.2.1 FB.out.lt)
    have FC := Lib.hid H.out.2.2.2
    exact rg1ABC Q hQ w2 q x0 x1 x2 HS HEnd b Tb mA FA mB FB mC FC
  · obtain ⟨b, hb⟩ : ∃ v, W.alloc (.cells #[.int .u8 2, .string ⟨#[105, 110, 116]⟩, .int .i64 0, .slice none 0 0] 24) = v := ⟨_, rfl⟩
    have bb : Below W.heap.size W b := by rw [← hb]; exact (Below.refl _ _).alloc (Nat.le_refl _) _
    have BB : Blk b W.heap.size 24 #[.int .u8 2, .string ⟨#[105, 110, 116]⟩, .int .i64 0, .slice none 0 0] := by rw [← hb]; exact Blk.new _ _ _
    obtain ⟨mD, hn⟩ : ∃ v, W.heap.size = v := ⟨_, rfl⟩
    rw [hn] at BB
    have H := Lib.hid (And.intro hb (And.intro hn (And.intro bb BB)))
    have Tb : Hid (Below w2.heap.size w2 b) := Lib.hid (T.out.trans (bb.mono T.out.size))
    clear hb hn bb BB
    go_simp
    (try rw [H.out.1])
    (try rw [H.out.2.1])
    refine hK.out _ _ (HS.out _ Tb.out) (fun hHeld => ?_)
    clear hK K
    have FA := Lib.hid (FA.out.below H.out.2.2.1 FA.out.lt)
    have FB := Lib.hid (FB.out.below H.out.2.2.1 FB.out.lt)
    have FD := Lib.hid H.out.2.2.2
    refine takeY (oi := { dst := some 35, op := Op.build 24 #[(0, Operand.const (Value.int IntKind.u8 4)), (3, Operand.tmp 34)], type := 24, pos := "law.go:211", after := #[{ on := 17, ground := Ground.data }], guard := none }) 18 (some 35) rfl rfl (by kernel_rfl) (by kernel_rfl) (by kernel_rfl) (fun _ _ _ h => hQ _ _ _ _ _ h) (by rfl) (v := _) (by (intro _ hSw; (try dsimp only at hSw); go_simp; try with_reducible rfl)) hHeld ?_
    simp only [Act.put, List.setIfInBounds_toArray, List.set_cons_zero, List.set_cons_succ]
    exact rg1ABD Q hQ w2 q x0 x1 x2 HS HEnd b Tb mA FA mB FB mD FD
set_option maxRecDepth 100000 in
set_option maxHeartbeats 4000000 in
theorem rg1AC (Q : Exit → Act → World → Prop) (hQ : ∀ c d v (a : Act) (w : World), Q (.panic c) (a.put d v) w → Q (.panic c) a w) (w2 : World) (q : Nat) (x0 x1 x2 : Value) (HS : Hid (∀ W, Below w2.heap.size w2 W → (fun W : World => W.cell? ⟨q, 0, none⟩ = some (.int .u8 2) ∧ W.cell? ⟨q, 1, none⟩ = some (.string ⟨#[105, 110, 116]⟩) ∧ W.cell? ⟨q, 2, none⟩ = some (.int .i64 0) ∧ W.cell? ⟨q, 3, none⟩ = some (.slice none 0 0)) W)) (HEnd : Hid (RgEnd Q w2 q x0 x1 x2)) (W : World) (T : Hid (Below w2.heap.size w2 W)) (mA : Nat) (FA : Hid (Blk W mA 24 #[.int .u8 2, .string ⟨#[105, 110, 116]⟩, .int .i64 0, .slice none 0 0, .int .u8 2, .string ⟨#[105, 110, 116]⟩, .int .i64 0, .slice none 0 0])) (mC : Nat) (FC : Hid (Blk W mC 24 #[.int .u8 2, .string ⟨#[105, 110, 116]⟩, .int .i64 0, .slice none 0 0, .int .u8 2, .string ⟨#[105, 110, 116]⟩, .int .i64 0, .slice none 0 0])) : wpAnyH Tryd.prog .any rops Q (fun W : World => W.cell? ⟨q, 0, none⟩ = some (.int .u8 2) ∧ W.cell? ⟨q, 1, none⟩ = some (.string ⟨#[105, 110, 116]⟩) ∧ W.cell? ⟨q, 2, none⟩ = some (.int .i64 0) ∧ W.cell? ⟨q, 3, none⟩ = some (.slice none 0 0)) 10 #[true, true, true, true, true, true, false, true, false, false, false, false, true, true, true, false, true, false, false, true, false, false] { tmps := #[x0, x1, x2, undef, undef, undef, .bool false, .pointer (some ⟨q, 0, none⟩), undef, undef, undef, undef, undef, undef, undef, undef, .agg #[.int .u8 2, .string ⟨#[105, 110, 116]⟩, .int .i64 0, .slice none 0 0], .agg #[.int .u8 2, .string ⟨#[105, 110, 116]⟩, .int .i64 0, .slice none 0 0], .agg #[.int .u8 2, .string ⟨#[105, 110, 116]⟩, .int .i64 0, .slice none 0 0], .slice (some ⟨mA, 0, none⟩) 2 2, .agg #[.int .u8 3, .string ⟨#[]⟩, .int .i64 0, .slice (some ⟨mA, 0, none⟩) 2 2], .agg #[.int .u8 1, .string ⟨#[39, 98]⟩, .int .i64 0, .slice none 0 0], .agg #[.int .u8 2, .string ⟨#[101, 120, 110]⟩, .int .i64 0, .slice none 0 0], undef, .agg #[.int .u8 2, .string ⟨#[105, 110, 116]⟩, .int .i64 0, .slice none 0 0], undef, undef, undef, undef, .agg #[.int .u8 2, .string ⟨#[105, 110, 116]⟩, .int .i64 0, .slice none 0 0], .agg #[.int .u8 2, .string ⟨#[105, 110, 116]⟩, .int .i64 0, .slice none 0 0], .slice (some ⟨mC, 0, none⟩) 2 2, undef, .agg #[.int .u8 2, .string ⟨#[105, 110, 116]⟩, .int .i64 0, .slice none 0 0], undef, undef, .agg #[.int .u8 0, .string ⟨#[]⟩, .int .i64 0, .slice none 0 0], undef, undef, undef, undef, undef, undef, undef, undef, undef, undef, undef, undef, undef, undef, undef, undef, undef, undef, undef, undef, undef, undef, undef, undef, undef, undef, undef, undef, undef, undef, undef, undef, undef, undef, undef, undef, undef, undef, undef, undef, undef, undef, undef, undef, undef, undef, undef, undef, undef, undef, undef, undef, undef, undef, undef, undef, undef, undef, undef, undef, undef, undef, undef, undef, undef, undef, undef, undef, undef, undef, undef, undef], defers := [] } W := by
  have hHeld := HS.out W T.out
  refine wpAnyH_ready (rs := [6, 8, 17]) (by kernel_rfl) (by simp) ?_
  refine AllReadyH.cons (o := { dst := some 23, op := Op.call { callee := Callee.value (Operand.func 10), args := #[Operand.const (Value.string { data := #[110, 111, 98, 111, 100, 121] }), Operand.const (Value.slice none 0 0)], argTypes := #[9, 22] }, type := 24, pos := "law.go:211", after := #[{ on := 5, ground := Ground.chain }], guard := none }) rfl (fun K hK => ?_) (AllReadyH.cons (o := { dst := some 25, op := Op.buildSlice 22 1 #[(0, Operand.tmp 24)], type := 22, pos := "law.go:211", after := #[{ on := 7, ground := Ground.data }], guard := none }) rfl (fun K hK => ?_) (AllReadyH.cons (o := { dst := some 34, op := Op.buildSlice 22 1 #[(0, Operand.tmp 33)], type := 22, pos := "law.go:211", after := #[{ on := 16, ground := Ground.data }], guard := none }) rfl (fun K hK => ?_) AllReadyH.nil))
  · have HT := Lib.hid (named_any ⟨#[110, 111, 98, 111, 100, 121]⟩ none 0 0 W)
    clear hHeld
    go_simp
    go_wp2_with (go_at_call 10; refine Calls.mono HT.out ?_; rintro e b ⟨rfl, bb⟩; have Hb := Lib.hid bb; have Tb : Hid (Below w2.heap.size w2 b) := Lib.hid (T.out.trans (bb.mono T.out.size)))
    refine hK.out _ _ (HS.out _ Tb.out) (fun hHeld => ?_)
    clear hK K HT
    have FA := Lib.hid (FA.out.below Hb.out FA.out.lt)
    have FC := Lib.hid (FC.out.below Hb.out FC.out.lt)
    exact rg2AC Q hQ w2 q x0 x1 x2 HS HEnd b Tb mA FA mC FC
  · obtain ⟨b, hb⟩ : ∃ v, W.alloc (.cells #[.int .u8 2, .string ⟨#[105, 110, 116]⟩, .int .i64 0, .slice none 0 0] 24) = v := ⟨_, rfl⟩
    have bb : Below W.heap.size W b := by rw [← hb]; exact (Below.refl _ _).alloc (Nat.le_refl _) _
    have BB : Blk b W.heap.size 24 #[.int .u8 2, .string ⟨#[105, 110, 116]⟩, .int .i64 0, .slice none 0 0] := by rw [← hb]; exact Blk.new _ _ _
    obtain ⟨mB, hn⟩ : ∃ v, W.heap.size = v := ⟨_, rfl⟩
    rw [hn] at BB
    have H := Lib.hid (And.intro hb (And.intro hn (And.intro bb BB)))
    have Tb : Hid (Below w2.heap.size w2 b) := Lib.hid (T.out.trans (bb.mono T.out.size))
    clear hb hn bb BB
    go_simp
    (try rw [H.out.1])
    (try rw [H.out.2.1])
    refine hK.out _ _ (HS.out _ Tb.out) (fun hHeld => ?_)
    clear hK K
    have FA := Lib.hid (FA.out.below H.out.2.2.1 FA.out.lt)
    have FC := Lib.hid (FC.out.below H.out.2.2.1 FC.out.lt)
    have FB := Lib.hid H.out.2.2.2
    exact rg1ABC Q hQ w2 q x0 x1 x2 HS HEnd b Tb mA FA mB FB mC FC
  · obtain ⟨b, hb⟩ : ∃ v, W.alloc (.cells #[.int .u8 2, .string ⟨#[105, 110, 116]⟩, .int .i64 0, .slice none 0 0] 24) = v := ⟨_, rfl⟩
    have bb : Below W.heap.size W b := by rw [← hb]; exact (Below.refl _ _).alloc (Nat.le_refl _) _
    have BB : Blk b W.heap.size 24 #[.int .u8 2, .string ⟨#[105, 110, 116]⟩, .int .i64 0, .slice none 0 0] := by rw [← hb]; exact Blk.new _ _ _
    obtain ⟨mD, hn⟩ : ∃ v, W.heap.size = v := ⟨_, rfl⟩
    rw [hn] at BB
    have H := Lib.hid (And.intro hb (And.intro hn (And.intro bb BB)))
    have Tb : Hid (Below w2.heap.size w2 b) := Lib.hid (T.out.trans (bb.mono T.out.size))
    clear hb hn bb BB
    go_simp
    (try rw [H.out.1])
    (try rw [H.out.2.1])
    refine hK.out _ _ (HS.out _ Tb.out) (fun hHeld => ?_)
    clear hK K
    have FA := Lib.hid (FA.out.below H.out.2.2.1 FA.out.lt)
    have FC := Lib.hid (FC.out.below H.out.2.2.1 FC.out.lt)
    have FD := Lib.hid H.out.2.2.2
    refine takeY (oi := { dst := some 35, op := Op.build 24 #[(0, Operand.const (Value.int IntKind.u8 4)), (3, Operand.tmp 34)], type := 24, pos := "law.go:211", after := #[{ on := 17, ground := Ground.data }], guard := none }) 18 (some 35) rfl rfl (by kernel_rfl) (by kernel_rfl) (by kernel_rfl) (fun _ _ _ h => hQ _ _ _ _ _ h) (by rfl) (v := _) (by (intro _ hSw; (try dsimp only at hSw); go_simp; try with_reducible rfl)) hHeld ?_
    simp only [Act.put, List.setIfInBounds_toArray, List.set_cons_zero, List.set_cons_succ]
    exact rg1ACD Q hQ w2 q x0 x1 x2 HS HEnd b Tb mA FA mC FC mD FD
set_option maxRecDepth 100000 in
set_option maxHeartbeats 4000000 in
theorem rg1BC (Q : Exit → Act → World → Prop) (hQ : ∀ c d v (a : Act) (w : World), Q (.panic c) (a.put d v) w → Q (.panic c) a w) (w2 : World) (q : Nat) (x0 x1 x2 : Value) (HS : Hid (∀ W, Below w2.heap.size w2 W → (fun W : World => W.cell? ⟨q, 0, none⟩ = some (.int .u8 2) ∧ W.cell? ⟨q, 1, none⟩ = some (.string ⟨#[105, 110, 116]⟩) ∧ W.cell? ⟨q, 2, none⟩ = some (.int .i64 0) ∧ W.cell? ⟨q, 3, none⟩ = some (.slice none 0 0)) W)) (HEnd : Hid (RgEnd Q w2 q x0 x1 x2)) (W : World) (T : Hid (Below w2.heap.size w2 W)) (mB : Nat) (FB : Hid (Blk W mB 24 #[.int .u8 2, .string ⟨#[105, 110, 116]⟩, .int .i64 0, .slice none 0 0])) (mC : Nat) (FC : Hid (Blk W mC 24 #[.int .u8 2, .string ⟨#[105, 110, 116]⟩, .int .i64 0, .slice none 0 0, .int .u8 2, .string ⟨#[105, 110, 116]⟩, .int .i64 0, .slice none 0 0])) : wpAnyH Tryd.prog .any rops Q (fun W : World => W.cell? ⟨q, 0, none⟩ = some (.int .u8 2) ∧ W.cell? ⟨q, 1, none⟩ = some (.string ⟨#[105, 110, 116]⟩) ∧ W.cell? ⟨q, 2, none⟩ = some (.int .i64 0) ∧ W.cell? ⟨q, 3, none⟩ = some (.slice none 0 0)) 11 #[true, true, false, false, true, true, false, true, true, false, false, false, true, true, true, false, true, false, false, true, false, false] { tmps := #[x0, x1, x2, undef, undef, undef, .bool false, .pointer (some ⟨q, 0, none⟩), undef, undef, undef, undef, undef, undef, undef, undef, .agg #[.int .u8 2, .string ⟨#[105, 110, 116]⟩, .int .i64 0, .slice none 0 0], .agg #[.int .u8 2, .string ⟨#[105, 110, 116]⟩, .int .i64 0, .slice none 0 0], .agg #[.int .u8 2, .string ⟨#[105, 110, 116]⟩, .int .i64 0, .slice none 0 0], undef, undef, .agg #[.int .u8 1, .string ⟨#[39, 98]⟩, .int .i64 0, .slice none 0 0], .agg #[.int .u8 2, .string ⟨#[101, 120, 110]⟩, .int .i64 0, .slice none 0 0], undef, .agg #[.int .u8 2, .string ⟨#[105, 110, 116]⟩, .int .i64 0, .slice none 0 0], .slice (some ⟨mB, 0, none⟩) 1 1, undef, undef, undef, .agg #[.int .u8 2, .string ⟨#[105, 110, 116]⟩, .int .i64 0, .slice none 0 0], .agg #[.int .u8 2, .string ⟨#[105, 110, 116]⟩, .int .i64 0, .slice none 0 0], .slice (some ⟨mC, 0, none⟩) 2 2, undef, .agg #[.int .u8 2, .string ⟨#[105, 110, 116]⟩, .int .i64 0, .slice none 0 0], undef, undef, .agg #[.int .u8 0, .string ⟨#[]⟩, .int .i64 0, .slice none 0 0], undef, undef, undef, undef, undef, undef, undef, undef, undef, undef, undef, undef, undef, undef, undef, undef, undef, undef, undef, undef, undef, undef, undef, undef, undef, undef, undef, undef, undef, undef, undef, undef, undef, undef, undef, undef, undef, undef, undef, undef, undef, undef, undef, undef, undef, undef, undef, undef, undef, undef, undef, undef, undef, undef, undef, undef, undef, undef, undef, undef, undef, undef, undef, undef, undef, undef, undef, undef, undef, undef, undef, undef], defers := [] } W := by
  have hHeld := HS.out W T.out
  refine wpAnyH_ready (rs := [2, 6, 17]) (by kernel_rfl) (by simp) ?_
  refine AllReadyH.cons (o := { dst := some 19, op := Op.buildSlice 22 2 #[(0, Operand.tmp 17), (1, Operand.tmp 18)], type := 22, pos := "law.go:211", after := #[{ on := 0, ground := Ground.data }, { on := 1, ground := Ground.data }], guard := none }) rfl (fun K hK => ?_) (AllReadyH.cons (o := { dst := some 23, op := Op.call { callee := Callee.value (Operand.func 10), args := #[Operand.const (Value.string { data := #[110, 111, 98, 111, 100, 121] }), Operand.const (Value.slice none 0 0)], argTypes := #[9, 22] }, type := 24, pos := "law.go:211", after := #[{ on := 5, ground := Ground.chain }], guard := none }) rfl (fun K hK => ?_) (AllReadyH.cons (o := { dst := some 34, op := Op.buildSlice 22 1 #[(0, Operand.tmp 33)], type := 22, pos := "law.go:211", after := #[{ on := 16, ground := Ground.data }], guard := none }) rfl (fun K hK => ?_) AllReadyH.nil))
  · obtain ⟨b, hb⟩ : ∃ v, W.alloc (.cells #[.int .u8 2, .string ⟨#[105, 110, 116]⟩, .int .i64 0, .slice none 0 0, .int .u8 2, .string ⟨#[105, 110, 116]⟩, .int .i64 0, .slice none 0 0] 24) = v := ⟨_, rfl⟩
    have bb : Below W.heap.size W b := by rw [← hb]; exact (Below.refl _ _).alloc (Nat.le_refl _) _
    have BB : Blk b W.heap.size 24 #[.int .u8 2, .string ⟨#[105, 110, 116]⟩, .int .i64 0, .slice none 0 0, .int .u8 2, .string ⟨#[105, 110, 116]⟩, .int .i64 0, .slice none 0 0] := by rw [← hb]; exact Blk.new _ _ _
    obtain ⟨mA, hn⟩ : ∃ v, W.heap.size = v := ⟨_, rfl⟩
    rw [hn] at BB
    have H := Lib.hid (And.intro hb (And.intro hn (And.intro bb BB)))
    have Tb : Hid (Below w2.heap.size w2 b) := Lib.hid (T.out.trans (bb.mono T.out.size))
    clear hb hn bb BB
    go_simp
    (try rw [H.out.1])
    (try rw [H.out.2.1])
    refine hK.out _ _ (HS.out _ Tb.out) (fun hHeld => ?_)
    clear hK K
    have FB := Lib.hid (FB.out.below H.out.2.2.1 FB.out.lt)
    have FC := Lib.hid (FC.out.below H.out.2.2.1 FC.out.lt)
    have FA := Lib.hid H.out.2.2.2
    refine takeY (oi := { dst := some 20, op := Op.build 24 #[(0, Operand.const (Value.int IntKind.u8 3)), (3, Operand.tmp 19)], type := 24, pos := "law.go:211", after := #[{ on := 2, ground := Ground.data }], guard := none }) 3 (some 20) rfl rfl (by kernel_rfl) (by kernel_rfl) (by kernel_rfl) (fun _ _ _ h => hQ _ _ _ _ _ h) (by rfl) (v := _) (by (intro _ hSw; (try dsimp only at hSw); go_simp; try with_reducible rfl)) hHeld ?_
    simp only [Act.put, List.setIfInBounds_toArray, List.set_cons_zero, List.set_cons_succ]
    exact rg1ABC Q hQ w2 q x0 x1 x2 HS HEnd b Tb mA FA mB FB mC FC
  · have HT := Lib.hid (named_any ⟨#[110, 111, 98, 111, 100, 121]⟩ none 0 0 W)
    clear hHeld
    go_simp
    go_wp2_with (go_at_call 10; refine Calls.mono HT.out ?_; rintro e b ⟨rfl, bb⟩; have Hb := Lib.hid bb; have Tb : Hid (Below w2.heap.size w2 b) := Lib.hid (T.out.trans (bb.mono T.out.size)))
    refine hK.out _ _ (HS.out _ Tb.out) (fun hHeld => ?_)
    clear hK K HT
    have FB := Lib.hid (FB.out.below Hb.out FB.out.lt)
    have FC := Lib.hid (FC.out.below Hb.out FC.out.lt)
    exact rg2BC Q hQ w2 q x0 x1 x2 HS HEnd b Tb mB FB mC FC
  · obtain ⟨b, hb⟩ : ∃ v, W.alloc (.cells #[.int .u8 2, .string ⟨#[105, 110, 116]⟩, .int .i64 0, .slice none 0 0] 24) = v := ⟨_, rfl⟩
    have bb : Below W.heap.size W b := by rw [← hb]; exact (Below.refl _ _).alloc (Nat.le_refl _) _
    have BB : Blk b W.heap.size 24 #[.int .u8 2, .string ⟨#[105, 110, 116]⟩, .int .i64 0, .slice none 0 0] := by rw [← hb]; exact Blk.new _ _ _
    obtain ⟨mD, hn⟩ : ∃ v, W.heap.size = v := ⟨_, rfl⟩
    rw [hn] at BB
    have H := Lib.hid (And.intro hb (And.intro hn (And.intro bb BB)))
    have Tb : Hid (Below w2.heap.size w2 b) := Lib.hid (T.out.trans (bb.mono T.out.size))
    clear hb hn bb BB
    go_simp
    (try rw [H.out.1])
    (try rw [H.out.2.1])
    refine hK.out _ _ (HS.out _ Tb.out) (fun hHeld => ?_)
    clear hK K
    have FB := Lib.hid (FB.out.below H.out.2.2.1 FB.out.lt)
    have FC := Lib.hid (FC.out.below H.out.2.2.1 FC.out.lt)
    have FD := Lib.hid H.out.2.2.2
    refine takeY (oi := { dst := some 35, op := Op.build 24 #[(0, Operand.const (Value.int IntKind.u8 4)), (3, Operand.tmp 34)], type := 24, pos := "law.go:211", after := #[{ on := 17, ground := Ground.data }], guard := none }) 18 (some 35) rfl rfl (by kernel_rfl) (by kernel_rfl) (by kernel_rfl) (fun _ _ _ h => hQ _ _ _ _ _ h) (by rfl) (v := _) (by (intro _ hSw; (try dsimp only at hSw); go_simp; try with_reducible rfl)) hHeld ?_
    simp only [Act.put, List.setIfInBounds_toArray, List.set_cons_zero, List.set_cons_succ]
    exact rg1BCD Q hQ w2 q x0 x1 x2 HS HEnd b Tb mB FB mC FC mD FD
set_option maxRecDepth 100000 in
set_option maxHeartbeats 4000000 in
theorem rg1AD (Q : Exit → Act → World → Prop) (hQ : ∀ c d v (a : Act) (w : World), Q (.panic c) (a.put d v) w → Q (.panic c) a w) (w2 : World) (q : Nat) (x0 x1 x2 : Value) (HS : Hid (∀ W, Below w2.heap.size w2 W → (fun W : World => W.cell? ⟨q, 0, none⟩ = some (.int .u8 2) ∧ W.cell? ⟨q, 1, none⟩ = some (.string ⟨#[105, 110, 116]⟩) ∧ W.cell? ⟨q, 2, none⟩ = some (.int .i64 0) ∧ W.cell? ⟨q, 3, none⟩ = some (.slice none 0 0)) W)) (HEnd : Hid (RgEnd Q w2 q x0 x1 x2)) (W : World) (T : Hid (Below w2.heap.size w2 W)) (mA : Nat) (FA : Hid (Blk W mA 24 #[.int .u8 2, .string ⟨#[105, 110, 116]⟩, .int .i64 0, .slice none 0 0, .int .u8 2, .string ⟨#[105, 110, 116]⟩, .int .i64 0, .slice none 0 0])) (mD : Nat) (FD : Hid (Blk W mD 24 #[.int .u8 2, .string ⟨#[105, 110, 116]⟩, .int .i64 0, .slice none 0 0])) : wpAnyH Tryd.prog .any rops Q (fun W : World => W.cell? ⟨q, 0, none⟩ = some (.int .u8 2) ∧ W.cell? ⟨q, 1, none⟩ = some (.string ⟨#[105, 110, 116]⟩) ∧ W.cell? ⟨q, 2, none⟩ = some (.int .i64 0) ∧ W.cell? ⟨q, 3, none⟩ = some (.slice none 0 0)) 9 #[true, true, true, true, true, true, false, true, false, false, false, false, true, true, false, false, true, true, true, true, false, false] { tmps := #[x0, x1, x2, undef, undef, undef, .bool false, .pointer (some ⟨q, 0, none⟩), undef, undef, undef, undef, undef, undef, undef, undef, .agg #[.int .u8 2, .string ⟨#[105, 110, 116]⟩, .int .i64 0, .slice none 0 0], .agg #[.int .u8 2, .string ⟨#[105, 110, 116]⟩, .int .i64 0, .slice none 0 0], .agg #[.int .u8 2, .string ⟨#[105, 110, 116]⟩, .int .i64 0, .slice none 0 0], .slice (some ⟨mA, 0, none⟩) 2 2, .agg #[.int .u8 3, .string ⟨#[]⟩, .int .i64 0, .slice (some ⟨mA, 0, none⟩) 2 2], .agg #[.int .u8 1, .string ⟨#[39, 98]⟩, .int .i64 0, .slice none 0 0], .agg #[.int .u8 2, .string ⟨#[101, 120, 110]⟩, .int .i64 0, .slice none 0 0], undef, .agg #[.int .u8 2, .string ⟨#[105, 110, 116]⟩, .int .i64 0, .slice none 0 0], undef, undef, undef, undef, .agg #[.int .u8 2, .string ⟨#[105, 110, 116]⟩, .int .i64 0, .slice none 0 0], .agg #[.int .u8 2, .string ⟨#[105, 110, 116]⟩, .int .i64 0, .slice none 0 0], undef, undef, .agg #[.int .u8 2, .string ⟨#[105, 110, 116]⟩, .int .i64 0, .slice none 0 0], .slice (some ⟨mD, 0, none⟩) 1 1, .agg #[.int .u8 4, .string ⟨#[]⟩, .int .i64 0, .slice (some ⟨mD, 0, none⟩) 1 1], .agg #[.int .u8 0, .string ⟨#[]⟩, .int .i64 0, .slice none 0 0], undef, undef, undef, undef, undef, undef, undef, undef, undef, undef, undef, undef, undef, undef, undef, undef, undef, undef, undef, undef, undef, undef, undef, undef, undef, undef, undef, undef, undef, undef, undef, undef, undef, undef, undef, undef, undef, undef, undef, undef, undef, undef, undef, undef, undef, undef, undef, undef, undef, undef, undef, undef, undef, undef, undef, undef, undef, undef, undef, undef, undef, undef, undef, undef, undef, undef, undef, undef, undef, undef, undef, undef], defers := [] } W := by
  have hHeld := HS.out W T.out
  refine wpAnyH_ready (rs := [6, 8, 14]) (by kernel_rfl) (by simp) ?_
  refine AllReadyH.cons (o := { dst := some 23, op := Op.call { callee := Callee.value (Operand.func 10), args := #[Operand.const (Value.string { data := #[110, 111, 98, 111, 100, 121] }), Operand.const (Value.slice none 0 0)], argTypes := #[9, 22] }, type := 24, pos := "law.go:211", after := #[{ on := 5, ground := Ground.chain }], guard := none }) rfl (fun K hK => ?_) (AllReadyH.cons (o := { dst := some 25, op := Op.buildSlice 22 1 #[(0, Operand.tmp 24)], type := 22, pos := "law.go:211", after := #[{ on := 7, ground := Ground.data }], guard := none }) rfl (fun K hK => ?_) (AllReadyH.cons (o := { dst := some 31, op := Op.buildSlice 22 2 #[(0, Operand.tmp 29), (1, Operand.tmp 30)], type := 22, pos := "law.go:211", after := #[{ on := 12, ground := Ground.data }, { on := 13, ground := Ground.data }], guard := none }) rfl (fun K hK => ?_) AllReadyH.nil))
  · have HT := Lib.hid (named_any ⟨#[110, 111, 98, 111, 100, 121]⟩ none 0 0 W)
    clear hHeld
    go_simp
    go_wp2_with (go_at_call 10; refine Calls.mono HT.out ?_; rintro e b ⟨rfl, bb⟩; have Hb := Lib.hid bb; have Tb : Hid (Below w2.heap.size w2 b) := Lib.hid (T.out.trans (bb.mono T.out.size)))
    refine hK.out _ _ (HS.out _ Tb.out) (fun hHeld => ?_)
    clear hK K HT
    have FA := Lib.hid (FA.out.below Hb.out FA.out.lt)
    have FD := Lib.hid (FD.out.below Hb.out FD.out.lt)
    exact rg2AD Q hQ w2 q x0 x1 x2 HS HEnd b Tb mA FA mD FD
  · obtain ⟨b, hb⟩ : ∃ v, W.alloc (.cells #[.int .u8 2, .string ⟨#[105, 110, 116]⟩, .int .i64 0, .slice none 0 0] 24) = v := ⟨_, rfl⟩
    have bb : Below W.heap.size W b := by rw [← hb]; exact (Below.refl _ _).alloc (Nat.le_refl _) _
    have BB : Blk b W.heap.size 24 #[.int .u8 2, .string ⟨#[105, 110, 116]⟩, .int .i64 0, .slice none 0 0] := by rw [← hb]; exact Blk.new _ _ _
    obtain ⟨mB, hn⟩ : ∃ v, W.heap.size = v := ⟨_, rfl⟩
    rw [hn] at BB
    have H := Lib.hid (And.intro hb (And.intro hn (And.intro bb BB)))
    have Tb : Hid (Below w2.heap.size w2 b) := Lib.hid (T.out.trans (bb.mono T.out.size))
    clear hb hn bb BB
    go_simp
    (try rw [H.out.1])
    (try rw [H.out.2.1])
    refine hK.out _ _ (HS.out _ Tb.out) (fun hHeld => ?_)
    clear hK K
    have FA := Lib.hid (FA.out.below H.out.2.2.1 FA.out.lt)
    have FD := Lib.hid (FD.out.below H.out.2.2.1 FD.out.lt)
    have FB := Lib.hid H.out.2.2.2
    exact rg1ABD Q hQ w2 q x0 x1 x2 HS HEnd b Tb mA FA mB FB mD FD
  · obtain ⟨b, hb⟩ : ∃ v, W.alloc (.cells #[.int .u8 2, .string ⟨#[105, 110, 116]⟩, .int .i64 0, .slice none 0 0, .int .u8 2, .string ⟨#[105, 110, 116]⟩, .int .i64 0, .slice none 0 0] 24) = v := ⟨_, rfl⟩
    have bb : Below W.heap.size W b := by rw [← hb]; exact (Below.refl _ _).alloc (Nat.le_refl _) _
    have BB : Blk b W.heap.size 24 #[.int .u8 2, .string ⟨#[105, 110, 116]⟩, .int .i64 0, .slice none 0 0, .int .u8 2, .string ⟨#[105, 110, 116]⟩, .int .i64 0, .slice none 0 0] := by rw [← hb]; exact Blk.new _ _ _
    obtain ⟨mC, hn⟩ : ∃ v, W.heap.size = v := ⟨_, rfl⟩
    rw [hn] at BB
    have H := Lib.hid (And.intro hb (And.intro hn (And.intro bb BB)))
    have Tb : Hid (Below w2.heap.size w2 b) := Lib.hid (T.out.trans (bb.mono T.out.size))
    clear hb hn bb BB
    go_simp
    (try rw [H.out.1])
    (try rw [H.out.2.1])
    refine hK.out _ _ (HS.out _ Tb.out) (fun hHeld => ?_)
    clear hK K
    have FA := Lib.hid (FA.out.below H.out.2.2.1 FA.out.lt)
    have FD := Lib.hid (FD.out.below H.out.2.2.1 FD.out.lt)
    have FC := Lib.hid H.out.2.2.2
    exact rg1ACD Q hQ w2 q x0 x1 x2 HS HEnd b Tb mA FA mC FC mD FD
set_option maxRecDepth 100000 in
set_option maxHeartbeats 4000000 in
theorem rg1BD (Q : Exit → Act → World → Prop) (hQ : ∀ c d v (a : Act) (w : World), Q (.panic c) (a.put d v) w → Q (.panic c) a w) (w2 : World) (q : Nat) (x0 x1 x2 : Value) (HS : Hid (∀ W, Below w2.heap.size w2 W → (fun W : World => W.cell? ⟨q, 0, none⟩ = some (.int .u8 2) ∧ W.cell? ⟨q, 1, none⟩ = some (.string ⟨#[105, 110, 116]⟩) ∧ W.cell? ⟨q, 2, none⟩ = some (.int .i64 0) ∧ W.cell? ⟨q, 3, none⟩ = some (.slice none 0 0)) W)) (HEnd : Hid (RgEnd Q w2 q x0 x1 x2)) (W : World) (T : Hid (Below w2.heap.size w2 W)) (mB : Nat) (FB : Hid (Blk W mB 24 #[.int .u8 2, .string ⟨#[105, 110, 116]⟩, .int .i64 0, .slice none 0 0])) (mD : Nat) (FD : Hid (Blk W mD 24 #[.int .u8 2, .string ⟨#[105, 110, 116]⟩, .int .i64 0, .slice none 0 0])) : wpAnyH Tryd.prog .any rops Q (fun W : World => W.cell? ⟨q, 0, none⟩ = some (.int .u8 2) ∧ W.cell? ⟨q, 1, none⟩ = some (.string ⟨#[105, 110, 116]⟩) ∧ W.cell? ⟨q, 2, none⟩ = some (.int .i64 0) ∧ W.cell? ⟨q, 3, none⟩ = some (.slice none 0 0)) 10 #[true, true, false, false, true, true, false, true, true, false, false, false, true, true, false, false, true, true, true, true, false, false] { tmps := #[x0, x1, x2, undef, undef, undef, .bool false, .pointer (some ⟨q, 0, none⟩), undef, undef, undef, undef, undef, undef, undef, undef, .agg #[.int .u8 2, .string ⟨#[105, 110, 116]⟩, .int .i64 0, .slice none 0 0], .agg #[.int .u8 2, .string ⟨#[105, 110, 116]⟩, .int .i64 0, .slice none 0 0], .agg #[.int .u8 2, .string ⟨#[105, 110, 116]⟩, .int .i64 0, .slice none 0 0], undef, undef, .agg #[.int .u8 1, .string ⟨#[39, 98]⟩, .int .i64 0, .slice none 0 0], .agg #[.int .u8 2, .string ⟨#[101, 120, 110]⟩, .int .i64 0, .slice none 0 0], undef, .agg #[.int .u8 2, .string ⟨#[105, 110, 116]⟩, .int .i64 0, .slice none 0 0], .slice (some ⟨mB, 0, none⟩) 1 1, undef, undef, undef, .agg #[.int .u8 2, .string ⟨#[105, 110, 116]⟩, .int .i64 0, .slice none 0 0], .agg #[.int .u8 2, .string ⟨#[105, 110, 116]⟩, .int .i64 0, .slice none 0 0], undef, undef, .agg #[.int .u8 2, .string ⟨#[105, 110, 116]⟩, .int .i64 0, .slice none 0 0], .slice (some ⟨mD, 0, none⟩) 1 1, .agg #[.int .u8 4, .string ⟨#[]⟩, .int .i64 0, .slice (some ⟨mD, 0, none⟩) 1 1], .agg #[.int .u8 0, .string ⟨#[]⟩, .int .i64 0, .slice none 0 0], undef, undef, undef, undef, undef, undef, undef, undef, undef, undef, undef, undef, undef, undef, undef, undef, undef, undef, undef, undef, undef, undef, undef, undef, undef, undef, undef, undef, undef, undef, undef, undef, undef, undef, undef, undef, undef, undef, undef, undef, undef, undef, undef, undef, undef, undef, undef, undef, undef, undef, undef, undef, undef, undef, undef, undef, undef, undef, undef, undef, undef, undef, undef, undef, undef, undef, undef, undef, undef, undef, undef, undef], defers := [] } W := by
  have hHeld := HS.out W T.out
  refine wpAnyH_ready (rs := [2, 6, 14]) (by kernel_rfl) (by simp) ?_
  refine AllReadyH.cons (o := { dst := some 19, op := Op.buildSlice 22 2 #[(0, Operand.tmp 17), (1, Operand.tmp 18)], type := 22, pos := "law.go:211", after := #[{ on := 0, ground := Ground.data }, { on := 1, ground := Ground.data }], guard := none }) rfl (fun K hK => ?_) (AllReadyH.cons (o := { dst := some 23, op := Op.call { callee := Callee.value (Operand.func 10), args := #[Operand.const (Value.string { data := #[110, 111, 98, 111, 100, 121] }), Operand.const (Value.slice none 0 0)], argTypes := #[9, 22] }, type := 24, pos := "law.go:211", after := #[{ on := 5, ground := Ground.chain }], guard := none }) rfl (fun K hK => ?_) (AllReadyH.cons (o := { dst := some 31, op := Op.buildSlice 22 2 #[(0, Operand.tmp 29), (1, Operand.tmp 30)], type := 22, pos := "law.go:211", after := #[{ on := 12, ground := Ground.data }, { on := 13, ground := Ground.data }], guard := none }) rfl (fun K hK => ?_) AllReadyH.nil))
  · obtain ⟨b, hb⟩ : ∃ v, W.alloc (.cells #[.int .u8 2, .string ⟨#[105, 110, 116]⟩, .int .i64 0, .slice none 0 0, .int .u8 2, .string ⟨#[105, 110, 116]⟩, .int .i64 0, .slice none 0 0] 24) = v := ⟨_, rfl⟩
    have bb : Below W.heap.size W b := by rw [← hb]; exact (Below.refl _ _).alloc (Nat.le_refl _) _
    have BB : Blk b W.heap.size 24 #[.int .u8 2, .string ⟨#[105, 110, 116]⟩, .int .i64 0, .slice none 0 0, .int .u8 2, .string ⟨#[105, 110, 116]⟩, .int .i64 0, .slice none 0 0] := by rw [← hb]; exact Blk.new _ _ _
    obtain ⟨mA, hn⟩ : ∃ v, W.heap.size = v := ⟨_, rfl⟩
    rw [hn] at BB
    have H := Lib.hid (And.intro hb (And.intro hn (And.intro bb BB)))
    have Tb : Hid (Below w2.heap.size w2 b) := Lib.hid (T.out.trans (bb.mono T.out.size))
    clear hb hn bb BB
    go_simp
    (try rw [H.out.1])
    (try rw [H.out.2.1])
    refine hK.out _ _ (HS.out _ Tb.out) (fun hHeld => ?_)
    clear hK K
    have FB := Lib.hid (FB.out.below H.out.2.2.1 FB.out.lt)
    have FD := Lib.hid (FD.out.below H.out.2.2.1 FD.out.lt)
    have FA := Lib.hid H.out.2.2.2
    refine takeY (oi := { dst := some 20, op := Op.build 24 #[(0, Operand.const (Value.int IntKind.u8 3)), (3, Operand.tmp 19)], type := 24, pos := "law.go:211", after := #[{ on := 2, ground := Ground.data }], guard := none }) 3 (some 20) rfl rfl (by kernel_rfl) (by kernel_rfl) (by kernel_rfl) (fun _ _ _ h => hQ _ _ _ _ _ h) (by rfl) (v := _) (by (intro _ hSw; (try dsimp only at hSw); go_simp; try with_reducible rfl)) hHeld ?_
    simp only [Act.put, List.setIfInBounds_toArray, List.set_cons_zero, List.set_cons_succ]
    exact rg1ABD Q hQ w2 q x0 x1 x2 HS HEnd b Tb mA FA mB FB mD FD
  · have HT := Lib.hid (named_any ⟨#[110, 111, 98, 111, 100, 121]⟩ none 0 0 W)
    clear hHeld
    go_simp
    go_wp2_with (go_at_call 10; refine Calls.mono HT.out ?_; rintro e b ⟨rfl, bb⟩; have Hb := Lib.hid bb; have Tb : Hid (Below w2.heap.size w2 b) := Lib.hid (T.out.trans (bb.mono T.out.size)))
    refine hK.out _ _ (HS.out _ Tb.out) (fun hHeld => ?_)
    clear hK K HT
    have FB := Lib.hid (FB.out.below Hb.out FB.out.lt)
    have FD := Lib.hid (FD.out.below Hb.out FD.out.lt)
    exact rg2BD Q hQ w2 q x0 x1 x2 HS HEnd b Tb mB FB mD FD
  · obtain ⟨b, hb⟩ : ∃ v, W.alloc (.cells #[.int .u8 2, .string ⟨#[105, 110, 116]⟩, .int .i64 0, .slice none 0 0, .int .u8 2, .string ⟨#[105, 110, 116]⟩, .int .i64 0, .slice none 0 0] 24) = v := ⟨_, rfl⟩
    have bb : Below W.heap.size W b := by rw [← hb]; exact (Below.refl _ _).alloc (Nat.le_refl _) _
    have BB : Blk b W.heap.size 24 #[.int .u8 2, .string ⟨#[105, 110, 116]⟩, .int .i64 0, .slice none 0 0, .int .u8 2, .string ⟨#[105, 110, 116]⟩, .int .i64 0, .slice none 0 0] := by rw [← hb]; exact Blk.new _ _ _
    obtain ⟨mC, hn⟩ : ∃ v, W.heap.size = v := ⟨_, rfl⟩
    rw [hn] at BB
    have H := Lib.hid (And.intro hb (And.intro hn (And.intro bb BB)))
    have Tb : Hid (Below w2.heap.size w2 b) := Lib.hid (T.out.trans (bb.mono T.out.size))
    clear hb hn bb BB
    go_simp
    (try rw [H.out.1])
    (try rw [H.out.2.1])
    refine hK.out _ _ (HS.out _ Tb.out) (fun hHeld => ?_)
    clear hK K
    have FB := Lib.hid (FB.out.below H.out.2.2.1 FB.out.lt)
    have FD := Lib.hid (FD.out.below H.out.2.2.1 FD.out.lt)
    have FC := Lib.hid H.out.2.2.2
    exact rg1BCD Q hQ w2 q x0 x1 x2 HS HEnd b Tb mB FB mC FC mD FD
set_option maxRecDepth 100000 in
set_option maxHeartbeats 4000000 in
theorem rg1CD (Q : Exit → Act → World → Prop) (hQ : ∀ c d v (a : Act) (w : World), Q (.panic c) (a.put d v) w → Q (.panic c) a w) (w2 : World) (q : Nat) (x0 x1 x2 : Value) (HS : Hid (∀ W, Below w2.heap.size w2 W → (fun W : World => W.cell? ⟨q, 0, none⟩ = some (.int .u8 2) ∧ W.cell? ⟨q, 1, none⟩ = some (.string ⟨#[105, 110, 116]⟩) ∧ W.cell? ⟨q, 2, none⟩ = some (.int .i64 0) ∧ W.cell? ⟨q, 3, none⟩ = some (.slice none 0 0)) W)) (HEnd : Hid (RgEnd Q w2 q x0 x1 x2)) (W : World) (T : Hid (Below w2.heap.size w2 W)) (mC : Nat) (FC : Hid (Blk W mC 24 #[.int .u8 2, .string ⟨#[105, 110, 116]⟩, .int .i64 0, .slice none 0 0, .int .u8 2, .string ⟨#[105, 110, 116]⟩, .int .i64 0, .slice none 0 0])) (mD : Nat) (FD : Hid (Blk W mD 24 #[.int .u8 2, .string ⟨#[105, 110, 116]⟩, .int .i64 0, .slice none 0 0])) : wpAnyH Tryd.prog .any rops Q (fun W : World => W.cell? ⟨q, 0, none⟩ = some (.int .u8 2) ∧ W.cell? ⟨q, 1, none⟩ = some (.string ⟨#[105, 110, 116]⟩) ∧ W.cell? ⟨q, 2, none⟩ = some (.int .i64 0) ∧ W.cell? ⟨q, 3, none⟩ = some (.slice none 0 0)) 10 #[true, true, false, false, true, true, false, true, false, false, false, false, true, true, true, false, true, true, true, true, false, false] { tmps := #[x0, x1, x2, undef, undef, undef, .bool false, .pointer (some ⟨q, 0, none⟩), undef, undef, undef, undef, undef, undef, undef, undef, .agg #[.int .u8 2, .string ⟨#[105, 110, 116]⟩, .int .i64 0, .slice none 0 0], .agg #[.int .u8 2, .string ⟨#[105, 110, 116]⟩, .int .i64 0, .slice none 0 0], .agg #[.int .u8 2, .string ⟨#[105, 110, 116]⟩, .int .i64 0, .slice none 0 0], undef, undef, .agg #[.int .u8 1, .string ⟨#[39, 98]⟩, .int .i64 0, .slice none 0 0], .agg #[.int .u8 2, .string ⟨#[101, 120, 110]⟩, .int .i64 0, .slice none 0 0], undef, .agg #[.int .u8 2, .string ⟨#[105, 110, 116]⟩, .int .i64 0, .slice none 0 0], undef, undef, undef, undef, .agg #[.int .u8 2, .string ⟨#[105, 110, 116]⟩, .int .i64 0, .slice none 0 0], .agg #[.int .u8 2, .string ⟨#[105, 110, 116]⟩, .int .i64 0, .slice none 0 0], .slice (some ⟨mC, 0, none⟩) 2 2, undef, .agg #[.int .u8 2, .string ⟨#[105, 110, 116]⟩, .int .i64 0, .slice none 0 0], .slice (some ⟨mD, 0, none⟩) 1 1, .agg #[.int .u8 4, .string ⟨#[]⟩, .int .i64 0, .slice (some ⟨mD, 0, none⟩) 1 1], .agg #[.int .u8 0, .string ⟨#[]⟩, .int .i64 0, .slice none 0 0], undef, undef, undef, undef, undef, undef, undef, undef, undef, undef, undef, undef, undef, undef, undef, undef, undef, undef, undef, undef, undef, undef, undef, undef, undef, undef, undef, undef, undef, undef, undef, undef, undef, undef, undef, undef, undef, undef, undef, undef, undef, undef, undef, undef, undef, undef, undef, undef, undef, undef, undef, undef, undef, undef, undef, undef, undef, undef, undef, undef, undef, undef, undef, undef, undef, undef, undef, undef, undef, undef, undef, undef], defers := [] } W := by
  have hHeld := HS.out W T.out
  refine wpAnyH_ready (rs := [2, 6, 8]) (by kernel_rfl) (by simp) ?_
  refine AllReadyH.cons (o := { dst := some 19, op := Op.buildSlice 22 2 #[(0, Operand.tmp 17), (1, Operand.tmp 18)], type := 22, pos := "law.go:211", after := #[{ on := 0, ground := Ground.data }, { on := 1, ground := Ground.data }], guard := none }) rfl (fun K hK => ?_) (AllReadyH.cons (o := { dst := some 23, op := Op.call { callee := Callee.value (Operand.func 10), args := #[Operand.const (Value.string { data := #[110, 111, 98, 111, 100, 121] }), Operand.const (Value.slice none 0 0)], argTypes := #[9, 22] }, type := 24, pos := "law.go:211", after := #[{ on := 5, ground := Ground.chain }], guard := none }) rfl (fun K hK => ?_) (AllReadyH.cons (o := { dst := some 25, op := Op.buildSlice 22 1 #[(0, Operand.tmp 24)], type := 22, pos := "law.go:211", after := #[{ on := 7, ground := Ground.data }], guard := none }) rfl (fun K hK => ?_) AllReadyH.nil))
  · obtain ⟨b, hb⟩ : ∃ v, W.alloc (.cells #[.int .u8 2, .string ⟨#[105, 110, 116]⟩, .int .i64 0, .slice none 0 0, .int .u8 2, .string ⟨#[105, 110, 116]⟩, .int .i64 0, .slice none 0 0] 24) = v := ⟨_, rfl⟩
    have bb : Below W.heap.size W b := by rw [← hb]; exact (Below.refl _ _).alloc (Nat.le_refl _) _
    have BB : Blk b W.heap.size 24 #[.int .u8 2, .string ⟨#[105, 110, 116]⟩, .int .i64 0, .slice none 0 0, .int .u8 2, .string ⟨#[105, 110, 116]⟩, .int .i64 0, .slice none 0 0] := by rw [← hb]; exact Blk.new _ _ _
    obtain ⟨mA, hn⟩ : ∃ v, W.heap.size = v := ⟨_, rfl⟩
    rw [hn] at BB
    have H := Lib.hid (And.intro hb (And.intro hn (And.intro bb BB)))
    have Tb : Hid (Below w2.heap.size w2 b) := Lib.hid (T.out.trans (bb.mono T.out.size))
    clear hb hn bb BB
    go_simp
    (try rw [H.out.1])
    (try rw [H.out.2.1])
    refine hK.out _ _ (HS.out _ Tb.out) (fun hHeld => ?_)
    clear hK K
    have FC := Lib.hid (FC.out.below H.out.2.2.1 FC.out.lt)
    have FD := Lib.hid (FD.out.below H.out.2.2.1 FD.out.lt)
    have FA := Lib.hid H.out.2.2.2
    refine takeY (oi := { dst := some 20, op := Op.build 24 #[(0, Operand.const (Value.int IntKind.u8 3)), (3, Operand.tmp 19)], type := 24, pos := "law.go:211", after := #[{ on := 2, ground := Ground.data }], guard := none }) 3 (some 20) rfl rfl (by kernel_rfl) (by kernel_rfl) (by kernel_rfl) (fun _ _ _ h => hQ _ _ _ _ _ h) (by rfl) (v := _) (by (intro _ hSw; (try dsimp only at hSw); go_simp; try with_reducible rfl)) hHeld ?_
    simp only [Act.put, List.setIfInBounds_toArray, List.set_cons_zero, List.set_cons_succ]
    exact rg1ACD Q hQ w2 q x0 x1 x2 HS HEnd b Tb mA FA mC FC mD FD
  · have HT := Lib.hid (named_any ⟨#[110, 111, 98, 111, 100, 121]⟩ none 0 0 W)
    clear hHeld
    go_simp
    go_wp2_with (go_at_call 10; refine Calls.mono HT.out ?_; rintro e b ⟨rfl, bb⟩; have Hb := Lib.hid bb; have Tb : Hid (Below w2.heap.size w2 b) := Lib.hid (T.out.trans (bb.mono T.out.size)))
    refine hK.out _ _ (HS.out _ Tb.out) (fun hHeld => ?_)
    clear hK K HT
    have FC := Lib.hid (FC.out.below Hb.out FC.out.lt)
    have FD := Lib.hid (FD.out.below Hb.out FD.out.lt)
    exact rg2CD Q hQ w2 q x0 x1 x2 HS HEnd b Tb mC FC mD FD
  · obtain ⟨b, hb⟩ : ∃ v, W.alloc (.cells #[.int .u8 2, .string ⟨#[105, 110, 116]⟩, .int .i64 0, .slice none 0 0] 24) = v := ⟨_, rfl⟩
    have bb : Below W.heap.size W b := by rw [← hb]; exact (Below.refl _ _).alloc (Nat.le_refl _) _
    have BB : Blk b W.heap.size 24 #[.int .u8 2, .string ⟨#[105, 110, 116]⟩, .int .i64 0, .slice none 0 0] := by rw [← hb]; exact Blk.new _ _ _
    obtain ⟨mB, hn⟩ : ∃ v, W.heap.size = v := ⟨_, rfl⟩
    rw [hn] at BB
    have H := Lib.hid (And.intro hb (And.intro hn (And.intro bb BB)))
    have Tb : Hid (Below w2.heap.size w2 b) := Lib.hid (T.out.trans (bb.mono T.out.size))
    clear hb hn bb BB
    go_simp
    (try rw [H.out.1])
    (try rw [H.out.2.1])
    refine hK.out _ _ (HS.out _ Tb.out) (fun hHeld => ?_)
    clear hK K
    have FC := Lib.hid (FC.out.below H.out.2.2.1 FC.out.lt)
    have FD := Lib.hid (FD.out.below H.out.2.2.1 FD.out.lt)
    have FB := Lib.hid H.out.2.2.2
    exact rg1BCD Q hQ w2 q x0 x1 x2 HS HEnd b Tb mB FB mC FC mD FD
set_option maxRecDepth 100000 in
set_option maxHeartbeats 4000000 in
theorem rg2A (Q : Exit → Act → World → Prop) (hQ : ∀ c d v (a : Act) (w : World), Q (.panic c) (a.put d v) w → Q (.panic c) a w) (w2 : World) (q : Nat) (x0 x1 x2 : Value) (HS : Hid (∀ W, Below w2.heap.size w2 W → (fun W : World => W.cell? ⟨q, 0, none⟩ = some (.int .u8 2) ∧ W.cell? ⟨q, 1, none⟩ = some (.string ⟨#[105, 110, 116]⟩) ∧ W.cell? ⟨q, 2, none⟩ = some (.int .i64 0) ∧ W.cell? ⟨q, 3, none⟩ = some (.slice none 0 0)) W)) (HEnd : Hid (RgEnd Q w2 q x0 x1 x2)) (W : World) (T : Hid (Below w2.heap.size w2 W)) (mA : Nat) (FA : Hid (Blk W mA 24 #[.int .u8 2, .string ⟨#[105, 110, 116]⟩, .int .i64 0, .slice none 0 0, .int .u8 2, .string ⟨#[105, 110, 116]⟩, .int .i64 0, .slice none 0 0])) : wpAnyH Tryd.prog .any rops Q (fun W : World => W.cell? ⟨q, 0, none⟩ = some (.int .u8 2) ∧ W.cell? ⟨q, 1, none⟩ = some (.string ⟨#[105, 110, 116]⟩) ∧ W.cell? ⟨q, 2, none⟩ = some (.int .i64 0) ∧ W.cell? ⟨q, 3, none⟩ = some (.slice none 0 0)) 10 #[true, true, true, true, true, true, true, true, false, false, false, false, true, true, false, false, true, false, false, true, false, false] { tmps := #[x0, x1, x2, undef, undef, undef, .bool false, .pointer (some ⟨q, 0, none⟩), undef, undef, undef, undef, undef, undef, undef, undef, .agg #[.int .u8 2, .string ⟨#[105, 110, 116]⟩, .int .i64 0, .slice none 0 0], .agg #[.int .u8 2, .string ⟨#[105, 110, 116]⟩, .int .i64 0, .slice none 0 0], .agg #[.int .u8 2, .string ⟨#[105, 110, 116]⟩, .int .i64 0, .slice none 0 0], .slice (some ⟨mA, 0, none⟩) 2 2, .agg #[.int .u8 3, .string ⟨#[]⟩, .int .i64 0, .slice (some ⟨mA, 0, none⟩) 2 2], .agg #[.int .u8 1, .string ⟨#[39, 98]⟩, .int .i64 0, .slice none 0 0], .agg #[.int .u8 2, .string ⟨#[101, 120, 110]⟩, .int .i64 0, .slice none 0 0], .agg #[.int .u8 2, .string ⟨#[110, 111, 98, 111, 100, 121]⟩, .int .i64 0, .slice none 0 0], .agg #[.int .u8 2, .string ⟨#[105, 110, 116]⟩, .int .i64 0, .slice none 0 0], undef, undef, undef, undef, .agg #[.int .u8 2, .string ⟨#[105, 110, 116]⟩, .int .i64 0, .slice none 0 0], .agg #[.int .u8 2, .string ⟨#[105, 110, 116]⟩, .int .i64 0, .slice none 0 0], undef, undef, .agg #[.int .u8 2, .string ⟨#[105, 110, 116]⟩, .int .i64 0, .slice none 0 0], undef, undef, .agg #[.int .u8 0, .string ⟨#[]⟩, .int .i64 0, .slice none 0 0], undef, undef, undef, undef, undef, undef, undef, undef, undef, undef, undef, undef, undef, undef, undef, undef, undef, undef, undef, undef, undef, undef, undef, undef, undef, undef, undef, undef, undef, undef, undef, undef, undef, undef, undef, undef, undef, undef, undef, undef, undef, undef, undef, undef, undef, undef, undef, undef, undef, undef, undef, undef, undef, undef, undef, undef, undef, undef, undef, undef, undef, undef, undef, undef, undef, undef, undef, undef, undef, undef, undef, undef], defers := [] } W := by
  have hHeld := HS.out W T.out
  refine wpAnyH_ready (rs := [8, 14, 17]) (by kernel_rfl) (by simp) ?_
  refine AllReadyH.cons (o := { dst := some 25, op := Op.buildSlice 22 1 #[(0, Operand.tmp 24)], type := 22, pos := "law.go:211", after := #[{ on := 7, ground := Ground.data }], guard := none }) rfl (fun K hK => ?_) (AllReadyH.cons (o := { dst := some 31, op := Op.buildSlice 22 2 #[(0, Operand.tmp 29), (1, Operand.tmp 30)], type := 22, pos := "law.go:211", after := #[{ on := 12, ground := Ground.data }, { on := 13, ground := Ground.data }], guard := none }) rfl (fun K hK => ?_) (AllReadyH.cons (o := { dst := some 34, op := Op.buildSlice 22 1 #[(0, Operand.tmp 33)], type := 22, pos := "law.go:211", after := #[{ on := 16, ground := Ground.data }], guard := none }) rfl (fun K hK => ?_) AllReadyH.nil))
  · obtain ⟨b, hb⟩ : ∃ v, W.alloc (.cells #[.int .u8 2, .string ⟨#[105, 110, 116]⟩, .int .i64 0, .slice none 0 0] 24) = v := ⟨_, rfl⟩
    have bb : Below W.heap.size W b := by rw [← hb]; exact (Below.refl _ _).alloc (Nat.le_refl _) _
    have BB : Blk b W.heap.size 24 #[.int .u8 2, .string ⟨#[105, 110, 116]⟩, .int .i64 0, .slice none 0 0] := by rw [← hb]; exact Blk.new _ _ _
    obtain ⟨mB, hn⟩ : ∃ v, W.heap.size = v := ⟨_, rfl⟩
    rw [hn] at BB
    have H := Lib.hid (And.intro hb (And.intro hn (And.intro bb BB)))
    have Tb : Hid (Below w2.heap.size w2 b) := Lib.hid (T.out.trans (bb.mono T.out.size))
    clear hb hn bb BB
    go_simp
    (try rw [H.out.1])
    (try rw [H.out.2.1])
    refine hK.out _ _ (HS.out _ Tb.out) (fun hHeld => ?_)
    clear hK K
    have FA := Lib.hid (FA.out.below H.out.2.2.1 FA.out.lt)
    have FB := Lib.hid H.out.2.2.2
    exact rg2AB Q hQ w2 q x0 x1 x2 HS HEnd b Tb mA FA mB FB
  · obtain ⟨b, hb⟩ : ∃ v, W.alloc (.cells #[.int .u8 2, .string ⟨#[105, 110, 116]⟩, .int .i64 0, .slice none 0 0, .int .u8 2, .string ⟨#[105, 110, 116]⟩, .int .i64 0, .slice none 0 0] 24) = v := ⟨_, rfl⟩
    have bb : Below W.heap.size W b := by rw [← hb]; exact (Below.refl _ _).alloc (Nat.le_refl _) _
    have BB : Blk b W.heap.size 24 #[.int .u8 2, .string ⟨#[105, 110, 116]⟩, .int .i64 0, .slice none 0 0, .int .u8 2, .string ⟨#[105, 110, 116]⟩, .int .i64 0, .slice none 0 0] := by rw [← hb]; exact Blk.new _ _ _
    obtain ⟨mC, hn⟩ : ∃ v, W.heap.size = v := ⟨_, rfl⟩
    rw [hn] at BB
    have H := Lib.hid (And.intro hb (And.intro hn (And.intro bb BB)))
    have Tb : Hid (Below w2.heap.size w2 b) := Lib.hid (T.out.trans (bb.mono T.out.size))
    clear hb hn bb BB
    go_simp
    (try rw [H.out.1])
    (try rw [H.out.2.1])
    refine hK.out _ _ (HS.out _ Tb.out) (fun hHeld => ?_)
    clear hK K
    have FA := Lib.hid (FA.out.below H.out.2.2.1 FA.out.lt)
    have FC := Lib.hid H.out.2.2.2
    exact rg2AC Q hQ w2 q x0 x1 x2 HS HEnd b Tb mA FA mC FC
  · obtain ⟨b, hb⟩ : ∃ v, W.alloc (.cells #[.int .u8 2, .string ⟨#[105, 110, 116]⟩, .int .i64 0, .slice none 0 0] 24) = v := ⟨_, rfl⟩
    have bb : Below W.heap.size W b := by rw [← hb]; exact (Below.refl _ _).alloc (Nat.le_refl _) _
    have BB : Blk b W.heap.size 24 #[.int .u8 2, .string ⟨#[105, 110, 116]⟩, .int .i64 0, .slice none 0 0] := by rw [← hb]; exact Blk.new _ _ _
    obtain ⟨mD, hn⟩ : ∃ v, W.heap.size = v := ⟨_, rfl⟩
    rw [hn] at BB
    have H := Lib.hid (And.intro hb (And.intro hn (And.intro bb BB)))
    have Tb : Hid (Below w2.heap.size w2 b) := Lib.hid (T.out.trans (bb.mono T.out.size))
    clear hb hn bb BB
    go_simp
    (try rw [H.out.1])
    (try rw [H.out.2.1])
    refine hK.out _ _ (HS.out _ Tb.out) (fun hHeld => ?_)
    clear hK K
    have FA := Lib.hid (FA.out.below H.out.2.2.1 FA.out.lt)
    have FD := Lib.hid H.out.2.2.2
    refine takeY (oi := { dst := some 35, op := Op.build 24 #[(0, Operand.const (Value.int IntKind.u8 4)), (3, Operand.tmp 34)], type := 24, pos := "law.go:211", after := #[{ on := 17, ground := Ground.data }], guard := none }) 18 (some 35) rfl rfl (by kernel_rfl) (by kernel_rfl) (by kernel_rfl) (fun _ _ _ h => hQ _ _ _ _ _ h) (by rfl) (v := _) (by (intro _ hSw; (try dsimp only at hSw); go_simp; try with_reducible rfl)) hHeld ?_
    simp only [Act.put, List.setIfInBounds_toArray, List.set_cons_zero, List.set_cons_succ]
    exact rg2AD Q hQ w2 q x0 x1 x2 HS HEnd b Tb mA FA mD FD
set_option maxRecDepth 100000 in
set_option maxHeartbeats 4000000 in
theorem rg2B (Q : Exit → Act → World → Prop) (hQ : ∀ c d v (a : Act) (w : World), Q (.panic c) (a.put d v) w → Q (.panic c) a w) (w2 : World) (q : Nat) (x0 x1 x2 : Value) (HS : Hid (∀ W, Below w2.heap.size w2 W → (fun W : World => W.cell? ⟨q, 0, none⟩ = some (.int .u8 2) ∧ W.cell? ⟨q, 1, none⟩ = some (.string ⟨#[105, 110, 116]⟩) ∧ W.cell? ⟨q, 2, none⟩ = some (.int .i64 0) ∧ W.cell? ⟨q, 3, none⟩ = some (.slice none 0 0)) W)) (HEnd : Hid (RgEnd Q w2 q x0 x1 x2)) (W : World) (T : Hid (Below w2.heap.size w2 W)) (mB : Nat) (FB : Hid (Blk W mB 24 #[.int .u8 2, .string ⟨#[105, 110, 116]⟩, .int .i64 0, .slice none 0 0])) : wpAnyH Tryd.prog .any rops Q (fun W : World => W.cell? ⟨q, 0, none⟩ = some (.int .u8 2) ∧ W.cell? ⟨q, 1, none⟩ = some (.string ⟨#[105, 110, 116]⟩) ∧ W.cell? ⟨q, 2, none⟩ = some (.int .i64 0) ∧ W.cell? ⟨q, 3, none⟩ = some (.slice none 0 0)) 11 #[true, true, false, false, true, true, true, true, true, false, false, false, true, true, false, false, true, false, false, true, false, false] { tmps := #[x0, x1, x2, undef, undef, undef, .bool false, .pointer (some ⟨q, 0, none⟩), undef, undef, undef, undef, undef, undef, undef, undef, .agg #[.int .u8 2, .string ⟨#[105, 110, 116]⟩, .int .i64 0, .slice none 0 0], .agg #[.int .u8 2, .string ⟨#[105, 110, 116]⟩, .int .i64 0, .slice none 0 0], .agg #[.int .u8 2, .string ⟨#[105, 110, 116]⟩, .int .i64 0, .slice none 0 0], undef, undef, .agg #[.int .u8 1, .string ⟨#[39, 98]⟩, .int .i64 0, .slice none 0 0], .agg #[.int .u8 2, .string ⟨#[101, 120, 110]⟩, .int .i64 0, .slice none 0 0], .agg #[.int .u8 2, .string ⟨#[110, 111, 98, 111, 100, 121]⟩, .int .i64 0, .slice none 0 0], .agg #[.int .u8 2, .string ⟨#[105, 110, 116]⟩, .int .i64 0, .slice none 0 0], .slice (some ⟨mB, 0, none⟩) 1 1, undef, undef, undef, .agg #[.int .u8 2, .string ⟨#[105, 110, 116]⟩, .int .i64 0, .slice none 0 0], .agg #[.int .u8 2, .string ⟨#[105, 110, 116]⟩, .int .i64 0, .slice none 0 0], undef, undef, .agg #[.int .u8 2, .string ⟨#[105, 110, 116]⟩, .int .i64 0, .slice none 0 0], undef, undef, .agg #[.int .u8 0, .string ⟨#[]⟩, .int .i64 0, .slice none 0 0], undef, undef, undef, undef, undef, undef, undef, undef, undef, undef, undef, undef, undef, undef, undef, undef, undef, undef, undef, undef, undef, undef, undef, undef, undef, undef, undef, undef, undef, undef, undef, undef, undef, undef, undef, undef, undef, undef, undef, undef, undef, undef, undef, undef, undef, undef, undef, undef, undef, undef, undef, undef, undef, undef, undef, undef, undef, undef, undef, undef, undef, undef, undef, undef, undef, undef, undef, undef, undef, undef, undef, undef], defers := [] } W := by
  have hHeld := HS.out W T.out
  refine wpAnyH_ready (rs := [2, 9, 14, 17]) (by kernel_rfl) (by simp) ?_
  refine AllReadyH.cons (o := { dst := some 19, op := Op.buildSlice 22 2 #[(0, Operand.tmp 17), (1, Operand.tmp 18)], type := 22, pos := "law.go:211", after := #[{ on := 0, ground := Ground.data }, { on := 1, ground := Ground.data }], guard := none }) rfl (fun K hK => ?_) (AllReadyH.cons (o := { dst := some 26, op := Op.call { callee := Callee.value (Operand.func 10), args := #[Operand.const (Value.string { data := #[105, 110, 116] }), Operand.tmp 25], argTypes := #[9, 22] }, type := 24, pos := "law.go:211", after := #[{ on := 8, ground := Ground.data }, { on := 6, ground := Ground.chain }], guard := none }) rfl (fun K hK => ?_) (AllReadyH.cons (o := { dst := some 31, op := Op.buildSlice 22 2 #[(0, Operand.tmp 29), (1, Operand.tmp 30)], type := 22, pos := "law.go:211", after := #[{ on := 12, ground := Ground.data }, { on := 13, ground := Ground.data }], guard := none }) rfl (fun K hK => ?_) (AllReadyH.cons (o := { dst := some 34, op := Op.buildSlice 22 1 #[(0, Operand.tmp 33)], type := 22, pos := "law.go:211", after := #[{ on := 16, ground := Ground.data }], guard := none }) rfl (fun K hK => ?_) AllReadyH.nil)))
  · obtain ⟨b, hb⟩ : ∃ v, W.alloc (.cells #[.int .u8 2, .string ⟨#[105, 110, 116]⟩, .int .i64 0, .slice none 0 0, .int .u8 2, .string ⟨#[105, 110, 116]⟩, .int .i64 0, .slice none 0 0] 24) = v := ⟨_, rfl⟩
    have bb : Below W.heap.size W b := by rw [← hb]; exact (Below.refl _ _).alloc (Nat.le_refl _) _
    have BB : Blk b W.heap.size 24 #[.int .u8 2, .string ⟨#[105, 110, 116]⟩, .int .i64 0, .slice none 0 0, .int .u8 2, .string ⟨#[105, 110, 116]⟩, .int .i64 0, .slice none 0 0] := by rw [← hb]; exact Blk.new _ _ _
    obtain ⟨mA, hn⟩ : ∃ v, W.heap.size = v := ⟨_, rfl⟩
    rw [hn] at BB
    have H := Lib.hid (And.intro hb (And.intro hn (And.intro bb BB)))
    have Tb : Hid (Below w2.heap.size w2 b) := Lib.hid (T.out.trans (bb.mono T.out.size))
    clear hb hn bb BB
    go_simp
    (try rw [H.out.1])
    (try rw [H.out.2.1])
    refine hK.out _ _ (HS.out _ Tb.out) (fun hHeld => ?_)
    clear hK K
    have FB := Lib.hid (FB.out.below H.out.2.2.1 FB.out.lt)
    have FA := Lib.hid H.out.2.2.2
    refine takeY (oi := { dst := some 20, op := Op.build 24 #[(0, Operand.const (Value.int IntKind.u8 3)), (3, Operand.tmp 19)], type := 24, pos := "law.go:211", after := #[{ on := 2, ground := Ground.data }], guard := none }) 3 (some 20) rfl rfl (by kernel_rfl) (by kernel_rfl) (by kernel_rfl) (fun _ _ _ h => hQ _ _ _ _ _ h) (by rfl) (v := _) (by (intro _ hSw; (try dsimp only at hSw); go_simp; try with_reducible rfl)) hHeld ?_
    simp only [Act.put, List.setIfInBounds_toArray, List.set_cons_zero, List.set_cons_succ]
    exact rg2AB Q hQ w2 q x0 x1 x2 HS HEnd b Tb mA FA mB FB
  · have HT := Lib.hid (named_any ⟨#[105, 110, 116]⟩ (some ⟨mB, 0, none⟩) 1 1 W)
    clear hHeld
    go_simp
    go_wp2_with (go_at_call 10; refine Calls.mono HT.out ?_; rintro e b ⟨rfl, bb⟩; have Hb := Lib.hid bb; have Tb : Hid (Below w2.heap.size w2 b) := Lib.hid (T.out.trans (bb.mono T.out.size)))
    refine hK.out _ _ (HS.out _ Tb.out) (fun hHeld => ?_)
    clear hK K HT
    have FB := Lib.hid (FB.out.below Hb.out FB.out.lt)
    exact rg3B Q hQ w2 q x0 x1 x2 HS HEnd b Tb mB FB
  · obtain ⟨b, hb⟩ : ∃ v, W.alloc (.cells #[.int .u8 2, .string ⟨#[105, 110, 116]⟩, .int .i64 0, .slice none 0 0, .int .u8 2, .string ⟨#[105, 110, 116]⟩, .int .i64 0, .slice none 0 0] 24) = v := ⟨_, rfl⟩
    have bb : Below W.heap.size W b := by rw [← hb]; exact (Below.refl _ _).alloc (Nat.le_refl _) _
    have BB : Blk b W.heap.size 24 #[.int .u8 2, .string ⟨#[105, 110, 116]⟩, .int .i64 0, .slice none 0 0, .int .u8 2, .string ⟨#[105, 110, 116]⟩, .int .i64 0, .slice none 0 0] := by rw [← hb]; exact Blk.new _ _ _
    obtain ⟨mC, hn⟩ : ∃ v, W.heap.size = v := ⟨_, rfl⟩
    rw [hn] at BB
    have H := Lib.hid (And.intro hb (And.intro hn (And.intro bb BB)))
    have Tb : Hid (Below w2.heap.size w2 b) := Lib.hid (T.out.trans (bb.mono T.out.size))
    clear hb hn bb BB
    go_simp
    (try rw [H.out.1])
    (try rw [H.out.2.1])
    refine hK.out _ _ (HS.out _ Tb.out) (fun hHeld => ?_)
    clear hK K
    have FB := Lib.hid (FB.out.below H.out.2.2.1 FB.out.lt)
    have FC := Lib.hid H.out.2.2.2
    exact rg2BC Q hQ w2 q x0 x1 x2 HS HEnd b Tb mB FB mC FC
  · obtain ⟨b, hb⟩ : ∃ v, W.alloc (.cells #[.int .u8 2, .string ⟨#[105, 110, 116]⟩, .int .i64 0, .slice none 0 0] 24) = v := ⟨_, rfl⟩
    have bb : Below W.heap.size W b := by rw [← hb]; exact (Below.refl _ _).alloc (Nat.le_refl _) _
    have BB : Blk b W.heap.size 24 #[.int .u8 2, .string ⟨#[105, 110, 116]⟩, .int .i64 0, .slice none 0 0] := by rw [← hb]; exact Blk.new _ _ _
    obtain ⟨mD, hn⟩ : ∃ v, W.heap.size = v := ⟨_, rfl⟩
    rw [hn] at BB
    have H := Lib.hid (And.intro hb (And.intro hn (And.intro bb BB)))
    have Tb : Hid (Below w2.heap.size w2 b) := Lib.hid (T.out.trans (bb.mono T.out.size))
    clear hb hn bb BB
    go_simp
    (try rw [H.out.1])
    (try rw [H.out.2.1])
    refine hK.out _ _ (HS.out _ Tb.out) (fun hHeld => ?_)
    clear hK K
    have FB := Lib.hid (FB.out.below H.out.2.2.1 FB.out.lt)
    have FD := Lib.hid H.out.2.2.2
    refine takeY (oi := { dst := some 35, op := Op.build 24 #[(0, Operand.const (Value.int IntKind.u8 4)), (3, Operand.tmp 34)], type := 24, pos := "law.go:211", after := #[{ on := 17, ground := Ground.data }], guard := none }) 18 (some 35) rfl rfl (by kernel_rfl) (by kernel_rfl) (by kernel_rfl) (fun _ _ _ h => hQ _ _ _ _ _ h) (by rfl) (v := _) (by (intro _ hSw; (try dsimp only at hSw); go_simp; try with_reducible rfl)) hHeld ?_
    simp only [Act.put, List.setIfInBounds_toArray, List.set_cons_zero, List.set_cons_succ]
    exact rg2BD Q hQ w2 q x0 x1 x2 HS HEnd b Tb mB FB mD FD
set_option maxRecDepth 100000 in
set_option maxHeartbeats 4000000 in
theorem rg2C (Q : Exit → Act → World → Prop) (hQ : ∀ c d v (a : Act) (w : World), Q (.panic c) (a.put d v) w → Q (.panic c) a w) (w2 : World) (q : Nat) (x0 x1 x2 : Value) (HS : Hid (∀ W, Below w2.heap.size w2 W → (fun W : World => W.cell? ⟨q, 0, none⟩ = some (.int .u8 2) ∧ W.cell? ⟨q, 1, none⟩ = some (.string ⟨#[105, 110, 116]⟩) ∧ W.cell? ⟨q, 2, none⟩ = some (.int .i64 0) ∧ W.cell? ⟨q, 3, none⟩ = some (.slice none 0 0)) W)) (HEnd : Hid (RgEnd Q w2 q x0 x1 x2)) (W : World) (T : Hid (Below w2.heap.size w2 W)) (mC : Nat) (FC : Hid (Blk W mC 24 #[.int .u8 2, .string ⟨#[105, 110, 116]⟩, .int .i64 0, .slice none 0 0, .int .u8 2, .string ⟨#[105, 110, 116]⟩, .int .i64 0, .slice none 0 0])) : wpAnyH Tryd.prog .any rops Q (fun W : World => W.cell? ⟨q, 0, none⟩ = some (.int .u8 2) ∧ W.cell? ⟨q, 1, none⟩ = some (.string ⟨#[105, 110, 116]⟩) ∧ W.cell? ⟨q, 2, none⟩ = some (.int .i64 0) ∧ W.cell? ⟨q, 3, none⟩ = some (.slice none 0 0)) 11 #[true, true, false, false, true, true, true, true, false, false, false, false, true, true, true, false, true, false, false, true, false, false] { tmps := #[x0, x1, x2, undef, undef, undef, .bool false, .pointer (some ⟨q, 0, none⟩), undef, undef, undef, undef, undef, undef, undef, undef, .agg #[.int .u8 2, .string ⟨#[105, 110, 116]⟩, .int .i64 0, .slice none 0 0], .agg #[.int .u8 2, .string ⟨#[105, 110, 116]⟩, .int .i64 0, .slice none 0 0], .agg #[.int .u8 2, .string ⟨#[105, 110, 116]⟩, .int .i64 0, .slice none 0 0], undef, undef, .agg #[.int .u8 1, .string ⟨#[39, 98]⟩, .int .i64 0, .slice none 0 0], .agg #[.int .u8 2, .string ⟨#[101, 120, 110]⟩, .int .i64 0, .slice none 0 0], .agg #[.int .u8 2, .string ⟨#[110, 111, 98, 111, 100, 121]⟩, .int .i64 0, .slice none 0 0], .agg #[.int .u8 2, .string ⟨#[105, 110, 116]⟩, .int .i64 0, .slice none 0 0], undef, undef, undef, undef, .agg #[.int .u8 2, .string ⟨#[105, 110, 116]⟩, .int .i64 0, .slice none 0 0], .agg #[.int .u8 2, .string ⟨#[105, 110, 116]⟩, .int .i64 0, .slice none 0 0], .slice (some ⟨mC, 0, none⟩) 2 2, undef, .agg #[.int .u8 2, .string ⟨#[105, 110, 116]⟩, .int .i64 0, .slice none 0 0], undef, undef, .agg #[.int .u8 0, .string ⟨#[]⟩, .int .i64 0, .slice none 0 0], undef, undef, undef, undef, undef, undef, undef, undef, undef, undef, undef, undef, undef, undef, undef, undef, undef, undef, undef, undef, undef, undef, undef, undef, undef, undef, undef, undef, undef, undef, undef, undef, undef, undef, undef, undef, undef, undef, undef, undef, undef, undef, undef, undef, undef, undef, undef, undef, undef, undef, undef, undef, undef, undef, undef, undef, undef, undef, undef, undef, undef, undef, undef, undef, undef, undef, undef, undef, undef, undef, undef, undef], defers := [] } W := by
  have hHeld := HS.out W T.out
  refine wpAnyH_ready (rs := [2, 8, 17]) (by kernel_rfl) (by simp) ?_
  refine AllReadyH.cons (o := { dst := some 19, op := Op.buildSlice 22 2 #[(0, Operand.tmp 17), (1, Operand.tmp 18)], type := 22, pos := "law.go:211", after := #[{ on := 0, ground := Ground.data }, { on := 1, ground := Ground.data }], guard := none }) rfl (fun K hK => ?_) (AllReadyH.cons (o := { dst := some 25, op := Op.buildSlice 22 1 #[(0, Operand.tmp 24)], type := 22, pos := "law.go:211", after := #[{ on := 7, ground := Ground.data }], guard := none }) rfl (fun K hK => ?_) (AllReadyH.cons (o := { dst := some 34, op := Op.buildSlice 22 1 #[(0, Operand.tmp 33)], type := 22, pos := "law.go:211", after := #[{ on := 16, ground := Ground.data }], guard := none }) rfl (fun K hK => ?_) AllReadyH.nil))
  · obtain ⟨b, hb⟩ : ∃ v, W.alloc (.cells #[.int .u8 2, .string ⟨#[105, 110, 116]⟩, .int .i64 0, .slice none 0 0, .int .u8 2, .string ⟨#[105, 110, 116]⟩, .int .i64 0, .slice none 0 0] 24) = v := ⟨_, rfl⟩
    have bb : Below W.heap.size W b := by rw [← hb]; exact (Below.refl _ _).alloc (Nat.le_refl _) _
    have BB : Blk b W.heap.size 24 #[.int .u8 2, .string ⟨#[105, 110, 116]⟩, .int .i64 0, .slice none 0 0, .int .u8 2, .string ⟨#[105, 110, 116]⟩, .int .i64 0, .slice none 0 0] := by rw [← hb]; exact Blk.new _ _ _
    obtain ⟨mA, hn⟩ : ∃ v, W.heap.size = v := ⟨_, rfl⟩
    rw [hn] at BB
    have H := Lib.hid (And.intro hb (And.intro hn (And.intro bb BB)))
    have Tb : Hid (Below w2.heap.size w2 b) := Lib.hid (T.out.trans (bb.mono T.out.size))
    clear hb hn bb BB
    go_simp
    (try rw [H.out.1])
    (try rw [H.out.2.1])
    refine hK.out _ _ (HS.out _ Tb.out) (fun hHeld => ?_)
    clear hK K
    have FC := Lib.hid (FC.out.below H.out.2.2.1 FC.out.lt)
    have FA := Lib.hid H.out.2.2.2
    refine takeY (oi := { dst := some 20, op := Op.build 24 #[(0, Operand.const (Value.int IntKind.u8 3)), (3, Operand.tmp 19)], type := 24, pos := "law.go:211", after := #[{ on := 2, ground := Ground.data }], guard := none }) 3 (some 20) rfl rfl (by kernel_rfl) (by kernel_rfl) (by kernel_rfl) (fun _ _ _ h => hQ _ _ _ _ _ h) (by rfl) (v := _) (by (intro _ hSw; (try dsimp only at hSw); go_simp; try with_reducible rfl)) hHeld ?_
    simp only [Act.put, List.setIfInBounds_toArray, List.set_cons_zero, List.set_cons_succ]
    exact rg2AC Q hQ w2 q x0 x1 x2 HS HEnd b Tb mA FA mC FC
  · obtain ⟨b, hb⟩ : ∃ v, W.alloc (.cells #[.int .u8 2, .string ⟨#[105, 110, 116]⟩, .int .i64 0, .slice none 0 0] 24) = v := ⟨_, rfl⟩
    have bb : Below W.heap.size W b := by rw [← hb]; exact (Below.refl _ _).alloc (Nat.le_refl _) _
    have BB : Blk b W.heap.size 24 #[.int .u8 2, .string ⟨#[105, 110, 116]⟩, .int .i64 0, .slice none 0 0] := by rw [← hb]; exact Blk.new _ _ _
    obtain ⟨mB, hn⟩ : ∃ v, W.heap.size = v := ⟨_, rfl⟩
    rw [hn] at BB
    have H := Lib.hid (And.intro hb (And.intro hn (And.intro bb BB)))
    have Tb : Hid (Below w2.heap.size w2 b) := Lib.hid (T.out.trans (bb.mono T.out.size))
    clear hb hn bb BB
    go_simp
    (try rw [H.out.1])
    (try rw [H.out.2.1])
    refine hK.out _ _ (HS.out _ Tb.out) (fun hHeld => ?_)
    clear hK K
    have FC := Lib.hid (FC.out.below H.out.2.2.1 FC.out.lt)
    have FB := Lib.hid H.out.2.2.2
    exact rg2BC Q hQ w2 q x0 x1 x2 HS HEnd b Tb mB FB mC FC
  · obtain ⟨b, hb⟩ : ∃ v, W.alloc (.cells #[.int .u8 2, .string ⟨#[105, 110, 116]⟩, .int .i64 0, .slice none 0 0] 24) = v := ⟨_, rfl⟩
    have bb : Below W.heap.size W b := by rw [← hb]; exact (Below.refl _ _).alloc (Nat.le_refl _) _
    have BB : Blk b W.heap.size 24 #[.int .u8 2, .string ⟨#[105, 110, 116]⟩, .int .i64 0, .slice none 0 0] := by rw [← hb]; exact Blk.new _ _ _
    obtain ⟨mD, hn⟩ : ∃ v, W.heap.size = v := ⟨_, rfl⟩
    rw [hn] at BB
    have H := Lib.hid (And.intro hb (And.intro hn (And.intro bb BB)))
    have Tb : Hid (Below w2.heap.size w2 b) := Lib.hid (T.out.trans (bb.mono T.out.size))
    clear hb hn bb BB
    go_simp
    (try rw [H.out.1])
    (try rw [H.out.2.1])
    refine hK.out _ _ (HS.out _ Tb.out) (fun hHeld => ?_)
    clear hK K
    have FC := Lib.hid (FC.out.below H.out.2.2.1 FC.out.lt)
    have FD := Lib.hid H.out.2.2.2
    refine takeY (oi := { dst := some 35, op := Op.build 24 #[(0, Operand.const (Value.int IntKind.u8 4)), (3, Operand.tmp 34)], type := 24, pos := "law.go:211", after := #[{ on := 17, ground := Ground.data }], guard := none }) 18 (some 35) rfl rfl (by kernel_rfl) (by kernel_rfl) (by kernel_rfl) (fun _ _ _ h => hQ _ _ _ _ _ h) (by rfl) (v := _) (by (intro _ hSw; (try dsimp only at hSw); go_simp; try with_reducible rfl)) hHeld ?_
    simp only [Act.put, List.setIfInBounds_toArray, List.set_cons_zero, List.set_cons_succ]
    exact rg2CD Q hQ w2 q x0 x1 x2 HS HEnd b Tb mC FC mD FD
set_option maxRecDepth 100000 in
set_option maxHeartbeats 4000000 in
theorem rg2D (Q : Exit → Act → World → Prop) (hQ : ∀ c d v (a : Act) (w : World), Q (.panic c) (a.put d v) w → Q (.panic c) a w) (w2 : World) (q : Nat) (x0 x1 x2 : Value) (HS : Hid (∀ W, Below w2.heap.size w2 W → (fun W : World => W.cell? ⟨q, 0, none⟩ = some (.int .u8 2) ∧ W.cell? ⟨q, 1, none⟩ = some (.string ⟨#[105, 110, 116]⟩) ∧ W.cell? ⟨q, 2, none⟩ = some (.int .i64 0) ∧ W.cell? ⟨q, 3, none⟩ = some (.slice none 0 0)) W)) (HEnd : Hid (RgEnd Q w2 q x0 x1 x2)) (W : World) (T : Hid (Below w2.heap.size w2 W)) (mD : Nat) (FD : Hid (Blk W mD 24 #[.int .u8 2, .string ⟨#[105, 110, 116]⟩, .int .i64 0, .slice none 0 0])) : wpAnyH Tryd.prog .any rops Q (fun W : World => W.cell? ⟨q, 0, none⟩ = some (.int .u8 2) ∧ W.cell? ⟨q, 1, none⟩ = some (.string ⟨#[105, 110, 116]⟩) ∧ W.cell? ⟨q, 2, none⟩ = some (.int .i64 0) ∧ W.cell? ⟨q, 3, none⟩ = some (.slice none 0 0)) 10 #[true, true, false, false, true, true, true, true, false, false, false, false, true, true, false, false, true, true, true, true, false, false] { tmps := #[x0, x1, x2, undef, undef, undef, .bool false, .pointer (some ⟨q, 0, none⟩), undef, undef, undef, undef, undef, undef, undef, undef, .agg #[.int .u8 2, .string ⟨#[105, 110, 116]⟩, .int .i64 0, .slice none 0 0], .agg #[.int .u8 2, .string ⟨#[105, 110, 116]⟩, .int .i64 0, .slice none 0 0], .agg #[.int .u8 2, .string ⟨#[105, 110, 116]⟩, .int .i64 0, .slice none 0 0], undef, undef, .agg #[.int .u8 1, .string ⟨#[39, 98]⟩, .int .i64 0, .slice none 0 0], .agg #[.int .u8 2, .string ⟨#[101, 120, 110]⟩, .int .i64 0, .slice none 0 0], .agg #[.int .u8 2, .string ⟨#[110, 111, 98, 111, 100, 121]⟩, .int .i64 0, .slice none 0 0], .agg #[.int .u8 2, .string ⟨#[105, 110, 116]⟩, .int .i64 0, .slice none 0 0], undef, undef, undef, undef, .agg #[.int .u8 2, .string ⟨#[105, 110, 116]⟩, .int .i64 0, .slice none 0 0], .agg #[.int .u8 2, .string ⟨#[105, 110, 116]⟩, .int .i64 0, .slice none 0 0], undef, undef, .agg #[.int .u8 2, .string ⟨#[105, 110, 116]⟩, .int .i64 0, .slice none 0 0], .slice (some ⟨mD, 0, none⟩) 1 1, .agg #[.int .u8 4, .string ⟨#[]⟩, .int .i64 0, .slice (some ⟨mD, 0, none⟩) 1 1], .agg #[.int .u8 0, .string ⟨#[]⟩, .int .i64 0, .slice none 0 0], undef, undef, undef, undef, undef, undef, undef, undef, undef, undef, undef, undef, undef, undef, undef, undef, undef, undef, undef, undef, undef, undef, undef, undef, undef, undef, undef, undef, undef, undef, undef, undef, undef, undef, undef, undef, undef, undef, undef, undef, undef, undef, undef, undef, undef, undef, undef, undef, undef, undef, undef, undef, undef, undef, undef, undef, undef, undef, undef, undef, undef, undef, undef, undef, undef, undef, undef, undef, undef, undef, undef, undef], defers := [] } W := by
  have hHeld := HS.out W T.out
  refine wpAnyH_ready (rs := [2, 8, 14]) (by kernel_rfl) (by simp) ?_
  refine AllReadyH.cons (o := { dst := some 19, op := Op.buildSlice 22 2 #[(0, Operand.tmp 17), (1, Operand.tmp 18)], type := 22, pos := "law.go:211", after := #[{ on := 0, ground := Ground.data }, { on := 1, ground := Ground.data }], guard := none }) rfl (fun K hK => ?_) (AllReadyH.cons (o := { dst := some 25, op := Op.buildSlice 22 1 #[(0, Operand.tmp 24)], type := 22, pos := "law.go:211", after := #[{ on := 7, ground := Ground.data }], guard := none }) rfl (fun K hK => ?_) (AllReadyH.cons (o := { dst := some 31, op := Op.buildSlice 22 2 #[(0, Operand.tmp 29), (1, Operand.tmp 30)], type := 22, pos := "law.go:211", after := #[{ on := 12, ground := Ground.data }, { on := 13, ground := Ground.data }], guard := none }) rfl (fun K hK => ?_) AllReadyH.nil))
  · obtain ⟨b, hb⟩ : ∃ v, W.alloc (.cells #[.int .u8 2, .string ⟨#[105, 110, 116]⟩, .int .i64 0, .slice none 0 0, .int .u8 2, .string ⟨#[105, 110, 116]⟩, .int .i64 0, .slice none 0 0] 24) = v := ⟨_, rfl⟩
    have bb : Below W.heap.size W b := by rw [← hb]; exact (Below.refl _ _).alloc (Nat.le_refl _) _
    have BB : Blk b W.heap.size 24 #[.int .u8 2, .string ⟨#[105, 110, 116]⟩, .int .i64 0, .slice none 0 0, .int .u8 2, .string ⟨#[105, 110, 116]⟩, .int .i64 0, .slice none 0 0] := by rw [← hb]; exact Blk.new _ _ _
    obtain ⟨mA, hn⟩ : ∃ v, W.heap.size = v := ⟨_, rfl⟩
    rw [hn] at BB
    have H := Lib.hid (And.intro hb (And.intro hn (And.intro bb BB)))
    have Tb : Hid (Below w2.heap.size w2 b) := Lib.hid (T.out.trans (bb.mono T.out.size))
    clear hb hn bb BB
    go_simp
    (try rw [H.out.1])
    (try rw [H.out.2.1])
    refine hK.out _ _ (HS.out _ Tb.out) (fun hHeld => ?_)
    clear hK K
    have FD := Lib.hid (FD.out.below H.out.2.2.1 FD.out.lt)
    have FA := Lib.hid H.out.2.2.2
    refine takeY (oi := { dst := some 20, op := Op.build 24 #[(0, Operand.const (Value.int IntKind.u8 3)), (3, Operand.tmp 19)], type := 24, pos := "law.go:211", after := #[{ on := 2, ground := Ground.data }], guard := none }) 3 (some 20) rfl rfl (by kernel_rfl) (by kernel_rfl) (by kernel_rfl) (fun _ _ _ h => hQ _ _ _ _ _ h) (by rfl) (v := _) (by (intro _ hSw; (try dsimp only at hSw); go_simp; try with_reducible rfl)) hHeld ?_
    simp only [Act.put, List.setIfInBounds_toArray, List.set_cons_zero, List.set_cons_succ]
    exact rg2AD Q hQ w2 q x0 x1 x2 HS HEnd b Tb mA FA mD FD
  · obtain ⟨b, hb⟩ : ∃ v, W.alloc (.cells #[.int .u8 2, .string ⟨#[105, 110, 116]⟩, .int .i64 0, .slice none 0 0] 24) = v := ⟨_, rfl⟩
    have bb : Below W.heap.size W b := by rw [← hb]; exact (Below.refl _ _).alloc (Nat.le_refl _) _
    have BB : Blk b W.heap.size 24 #[.int .u8 2, .string ⟨#[105, 110, 116]⟩, .int .i64 0, .slice none 0 0] := by rw [← hb]; exact Blk.new _ _ _
    obtain ⟨mB, hn⟩ : ∃ v, W.heap.size = v := ⟨_, rfl⟩
    rw [hn] at BB
    have H := Lib.hid (And.intro hb (And.intro hn (And.intro bb BB)))
    have Tb : Hid (Below w2.heap.size w2 b) := Lib.hid (T.out.trans (bb.mono T.out.size))
    clear hb hn bb BB
    go_simp
    (try rw [H.out.1])
    (try rw [H.out.2.1])
    refine hK.out _ _ (HS.out _ Tb.out) (fun hHeld => ?_)
    clear hK K
    have FD := Lib.hid (FD.out.below H.out.2.2.1 FD.out.lt)
    have FB := Lib.hid H.out.2.2.2
    exact rg2BD Q hQ w2 q x0 x1 x2 HS HEnd b Tb mB FB mD FD
  · obtain ⟨b, hb⟩ : ∃ v, W.alloc (.cells #[.int .u8 2, .string ⟨#[105, 110, 116]⟩, .int .i64 0, .slice none 0 0, .int .u8 2, .string ⟨#[105, 110, 116]⟩, .int .i64 0, .slice none 0 0] 24) = v := ⟨_, rfl⟩
    have bb : Below W.heap.size W b := by rw [← hb]; exact (Below.refl _ _).alloc (Nat.le_refl _) _
    have BB : Blk b W.heap.size 24 #[.int .u8 2, .string ⟨#[105, 110, 116]⟩, .int .i64 0, .slice none 0 0, .int .u8 2, .string ⟨#[105, 110, 116]⟩, .int .i64 0, .slice none 0 0] := by rw [← hb]; exact Blk.new _ _ _
    obtain ⟨mC, hn⟩ : ∃ v, W.heap.size = v := ⟨_, rfl⟩
    rw [hn] at BB
    have H := Lib.hid (And.intro hb (And.intro hn (And.intro bb BB)))
    have Tb : Hid (Below w2.heap.size w2 b) := Lib.hid (T.out.trans (bb.mono T.out.size))
    clear hb hn bb BB
    go_simp
    (try rw [H.out.1])
    (try rw [H.out.2.1])
    refine hK.out _ _ (HS.out _ Tb.out) (fun hHeld => ?_)
    clear hK K
    have FD := Lib.hid (FD.out.below H.out.2.2.1 FD.out.lt)
    have FC := Lib.hid H.out.2.2.2
    exact rg2CD Q hQ w2 q x0 x1 x2 HS HEnd b Tb mC FC mD FD
set_option maxRecDepth 100000 in
set_option maxHeartbeats 4000000 in
theorem rg0AB (Q : Exit → Act → World → Prop) (hQ : ∀ c d v (a : Act) (w : World), Q (.panic c) (a.put d v) w → Q (.panic c) a w) (w2 : World) (q : Nat) (x0 x1 x2 : Value) (HS : Hid (∀ W, Below w2.heap.size w2 W → (fun W : World => W.cell? ⟨q, 0, none⟩ = some (.int .u8 2) ∧ W.cell? ⟨q, 1, none⟩ = some (.string ⟨#[105, 110, 116]⟩) ∧ W.cell? ⟨q, 2, none⟩ = some (.int .i64 0) ∧ W.cell? ⟨q, 3, none⟩ = some (.slice none 0 0)) W)) (HEnd : Hid (RgEnd Q w2 q x0 x1 x2)) (W : World) (T : Hid (Below w2.heap.size w2 W)) (mA : Nat) (FA : Hid (Blk W mA 24 #[.int .u8 2, .string ⟨#[105, 110, 116]⟩, .int .i64 0, .slice none 0 0, .int .u8 2, .string ⟨#[105, 110, 116]⟩, .int .i64 0, .slice none 0 0])) (mB : Nat) (FB : Hid (Blk W mB 24 #[.int .u8 2, .string ⟨#[105, 110, 116]⟩, .int .i64 0, .slice none 0 0])) : wpAnyH Tryd.prog .any rops Q (fun W : World => W.cell? ⟨q, 0, none⟩ = some (.int .u8 2) ∧ W.cell? ⟨q, 1, none⟩ = some (.string ⟨#[105, 110, 116]⟩) ∧ W.cell? ⟨q, 2, none⟩ = some (.int .i64 0) ∧ W.cell? ⟨q, 3, none⟩ = some (.slice none 0 0)) 11 #[true, true, true, true, true, false, false, true, true, false, false, false, true, true, false, false, true, false, false, true, false, false] { tmps := #[x0, x1, x2, undef, undef, undef, .bool false, .pointer (some ⟨q, 0, none⟩), undef, undef, undef, undef, undef, undef, undef, undef, .agg #[.int .u8 2, .string ⟨#[105, 110, 116]⟩, .int .i64 0, .slice none 0 0], .agg #[.int .u8 2, .string ⟨#[105, 110, 116]⟩, .int .i64 0, .slice none 0 0], .agg #[.int .u8 2, .string ⟨#[105, 110, 116]⟩, .int .i64 0, .slice none 0 0], .slice (some ⟨mA, 0, none⟩) 2 2, .agg #[.int .u8 3, .string ⟨#[]⟩, .int .i64 0, .slice (some ⟨mA, 0, none⟩) 2 2], .agg #[.int .u8 1, .string ⟨#[39, 98]⟩, .int .i64 0, .slice none 0 0], undef, undef, .agg #[.int .u8 2, .string ⟨#[105, 110, 116]⟩, .int .i64 0, .slice none 0 0], .slice (some ⟨mB, 0, none⟩) 1 1, undef, undef, undef, .agg #[.int .u8 2, .string ⟨#[105, 110, 116]⟩, .int .i64 0, .slice none 0 0], .agg #[.int .u8 2, .string ⟨#[105, 110, 116]⟩, .int .i64 0, .slice none 0 0], undef, undef, .agg #[.int .u8 2, .string ⟨#[105, 110, 116]⟩, .int .i64 0, .slice none 0 0], undef, undef, .agg #[.int .u8 0, .string ⟨#[]⟩, .int .i64 0, .slice none 0 0], undef, undef, undef, undef, undef, undef, undef, undef, undef, undef, undef, undef, undef, undef, undef, undef, undef, undef, undef, undef, undef, undef, undef, undef, undef, undef, undef, undef, undef, undef, undef, undef, undef, undef, undef, undef, undef, undef, undef, undef, undef, undef, undef, undef, undef, undef, undef, undef, undef, undef, undef, undef, undef, undef, undef, undef, undef, undef, undef, undef, undef, undef, undef, undef, undef, undef, undef, undef, undef, undef, undef, undef], defers := [] } W := by
  have hHeld := HS.out W T.out
  refine wpAnyH_ready (rs := [5, 14, 17]) (by kernel_rfl) (by simp) ?_
  refine AllReadyH.cons (o := { dst := some 22, op := Op.call { callee := Callee.value (Operand.func 10), args := #[Operand.const (Value.string { data := #[101, 120, 110] }), Operand.const (Value.slice none 0 0)], argTypes := #[9, 22] }, type := 24, pos := "law.go:211", after := #[], guard := none }) rfl (fun K hK => ?_) (AllReadyH.cons (o := { dst := some 31, op := Op.buildSlice 22 2 #[(0, Operand.tmp 29), (1, Operand.tmp 30)], type := 22, pos := "law.go:211", after := #[{ on := 12, ground := Ground.data }, { on := 13, ground := Ground.data }], guard := none }) rfl (fun K hK => ?_) (AllReadyH.cons (o := { dst := some 34, op := Op.buildSlice 22 1 #[(0, Operand.tmp 33)], type := 22, pos := "law.go:211", after := #[{ on := 16, ground := Ground.data }], guard := none }) rfl (fun K hK => ?_) AllReadyH.nil))
  · have HT := Lib.hid (named_any ⟨#[101, 120, 110]⟩ none 0 0 W)
    clear hHeld
    go_simp
    go_wp2_with (go_at_call 10; refine Calls.mono HT.out ?_; rintro e b ⟨rfl, bb⟩; have Hb := Lib.hid bb; have Tb : Hid (Below w2.heap.size w2 b) := Lib.hid (T.out.trans (bb.mono T.out.size)))
    refine hK.out _ _ (HS.out _ Tb.out) (fun hHeld => ?_)
    clear hK K HT
    have FA := Lib.hid (FA.out.below Hb.out FA.out.lt)
    have FB := Lib.hid (FB.out.below Hb.out FB.out.lt)
    exact rg1AB Q hQ w2 q x0 x1 x2 HS HEnd b Tb mA FA mB FB
  · obtain ⟨b, hb⟩ : ∃ v, W.alloc (.cells #[.int .u8 2, .string ⟨#[105, 110, 116]⟩, .int .i64 0, .slice none 0 0, .int .u8 2, .string ⟨#[105, 110, 116]⟩, .int .i64 0, .slice none 0 0] 24) = v := ⟨_, rfl⟩
    have bb : Below W.heap.size W b := by rw [← hb]; exact (Below.refl _ _).alloc (Nat.le_refl _) _
    have BB : Blk b W.heap.size 24 #[.int .u8 2, .string ⟨#[105, 110, 116]⟩, .int .i64 0, .slice none 0 0, .int .u8 2, .string ⟨#[105, 110, 116]⟩, .int .i64 0, .slice none 0 0] := by rw [← hb]; exact Blk.new _ _ _
    obtain ⟨mC, hn⟩ : ∃ v, W.heap.size = v := ⟨_, rfl⟩
    rw [hn] at BB
    have H := Lib.hid (And.intro hb (And.intro hn (And.intro bb BB)))
    have Tb : Hid (Below w2.heap.size w2 b) := Lib.hid (T.out.trans (bb.mono T.out.size))
    clear hb hn bb BB
    go_simp
    (try rw [H.out.1])
    (try rw [H.out.2.1])
    refine hK.out _ _ (HS.out _ Tb.out) (fun hHeld => ?_)
    clear hK K
    have FA := Lib.hid (FA.out.below H.out.2.2.1 FA.out.lt)
    have FB := Lib.hid (FB.out.below H.out.2.2.1 FB.out.lt)
    have FC := Lib.hid H.out.2.2.2
    exact rg0ABC Q hQ w2 q x0 x1 x2 HS HEnd b Tb mA FA mB FB mC FC
  · obtain ⟨b, hb⟩ : ∃ v, W.alloc (.cells #[.int .u8 2, .string ⟨#[105, 110, 116]⟩, .int .i64 0, .slice none 0 0] 24) = v := ⟨_, rfl⟩
    have bb : Below W.heap.size W b := by rw [← hb]; exact (Below.refl _ _).alloc (Nat.le_refl _) _
    have BB : Blk b W.heap.size 24 #[.int .u8 2, .string ⟨#[105, 110, 116]⟩, .int .i64 0, .slice none 0 0] := by rw [← hb]; exact Blk.new _ _ _
    obtain ⟨mD, hn⟩ : ∃ v, W.heap.size = v := ⟨_, rfl⟩
    rw [hn] at BB
    have H := Lib.hid (And.intro hb (And.intro hn (And.intro bb BB)))
    have Tb : Hid (Below w2.heap.size w2 b) := Lib.hid (T.out.trans (bb.mono T.out.size))
    clear hb hn bb BB
    go_simp
    (try rw [H.out.1])
    (try rw [H.out.2.1])
    refine hK.out _ _ (HS.out _ Tb.out) (fun hHeld => ?_)
    clear hK K
    have FA := Lib.hid (FA.out.below H.out.2.2.1 FA.out.lt)
    have FB := Lib.hid (FB.out.below H.out.2.2.1 FB.out.lt)
    have FD := Lib.hid H.out.2.2.2
    refine takeY (oi := { dst := some 35, op := Op.build 24 #[(0, Operand.const (Value.int IntKind.u8 4)), (3, Operand.tmp 34)], type := 24, pos := "law.go:211", after := #[{ on := 17, ground := Ground.data }], guard := none }) 18 (some 35) rfl rfl (by kernel_rfl) (by kernel_rfl) (by kernel_rfl) (fun _ _ _ h => hQ _ _ _ _ _ h) (by rfl) (v := _) (by (intro _ hSw; (try dsimp only at hSw); go_simp; try with_reducible rfl)) hHeld ?_
    simp only [Act.put, List.setIfInBounds_toArray, List.set_cons_zero, List.set_cons_succ]
    exact rg0ABD Q hQ w2 q x0 x1 x2 HS HEnd b Tb mA FA mB FB mD FD
set_option maxRecDepth 100000 in
set_option maxHeartbeats 4000000 in
theorem rg0AC (Q : Exit → Act → World → Prop) (hQ : ∀ c d v (a : Act) (w : World), Q (.panic c) (a.put d v) w → Q (.panic c) a w) (w2 : World) (q : Nat) (x0 x1 x2 : Value) (HS : Hid (∀ W, Below w2.heap.size w2 W → (fun W : World => W.cell? ⟨q, 0, none⟩ = some (.int .u8 2) ∧ W.cell? ⟨q, 1, none⟩ = some (.string ⟨#[105, 110, 116]⟩) ∧ W.cell? ⟨q, 2, none⟩ = some (.int .i64 0) ∧ W.cell? ⟨q, 3, none⟩ = some (.slice none 0 0)) W)) (HEnd : Hid (RgEnd Q w2 q x0 x1 x2)) (W : World) (T : Hid (Below w2.heap.size w2 W)) (mA : Nat) (FA : Hid (Blk W mA 24 #[.int .u8 2, .string ⟨#[105, 110, 116]⟩, .int .i64 0, .slice none 0 0, .int .u8 2, .string ⟨#[105, 110, 116]⟩, .int .i64 0, .slice none 0 0])) (mC : Nat) (FC : Hid (Blk W mC 24 #[.int .u8 2, .string ⟨#[105, 110, 116]⟩, .int .i64 0, .slice none 0 0, .int .u8 2, .string ⟨#[105, 110, 116]⟩, .int .i64 0, .slice none 0 0])) : wpAnyH Tryd.prog .any rops Q (fun W : World => W.cell? ⟨q, 0, none⟩ = some (.int .u8 2) ∧ W.cell? ⟨q, 1, none⟩ = some (.string ⟨#[105, 110, 116]⟩) ∧ W.cell? ⟨q, 2, none⟩ = some (.int .i64 0) ∧ W.cell? ⟨q, 3, none⟩ = some (.slice none 0 0)) 11 #[true, true, true, true, true, false, false, true, false, false, false, false, true, true, true, false, true, false, false, true, false, false] { tmps := #[x0, x1, x2, undef, undef, undef, .bool false, .pointer (some ⟨q, 0, none⟩), undef, undef, undef, undef, undef, undef, undef, undef, .agg #[.int .u8 2, .string ⟨#[105, 110, 116]⟩, .int .i64 0, .slice none 0 0], .agg #[.int .u8 2, .string ⟨#[105, 110, 116]⟩, .int .i64 0, .slice none 0 0], .agg #[.int .u8 2, .string ⟨#[105, 110, 116]⟩, .int .i64 0, .slice none 0 0], .slice (some ⟨mA, 0, none⟩) 2 2, .agg #[.int .u8 3, .string ⟨#[]⟩, .int .i64 0, .slice (some ⟨mA, 0, none⟩) 2 2], .agg #[.int .u8 1, .string ⟨#[39, 98]⟩, .int .i64 0, .slice none 0 0], undef, undef, .agg #[.int .u8 2, .string ⟨#[105, 110, 116]⟩, .int .i64 0, .slice none 0 0], undef, undef, undef, undef, .agg #[.int .u8 2, .string ⟨#[105, 110, 116]⟩, .int .i64 0, .slice none 0 0], .agg #[.int .u8 2, .string ⟨#[105, 110, 116]⟩, .int .i64 0, .slice none 0 0], .slice (some ⟨mC, 0, none⟩) 2 2, undef, .agg #[.int .u8 2, .string ⟨#[105, 110, 116]⟩, .int .i64 0, .slice none 0 0], undef, undef, .agg #[.int .u8 0, .string ⟨#[]⟩, .int .i64 0, .slice none 0 0], undef, undef, undef, undef, undef, undef, undef, undef, undef, undef, undef, undef, undef, undef, undef, undef, undef, undef, undef, undef, undef, undef, undef, undef, undef, undef, undef, undef, undef, undef, undef, undef, undef, undef, undef, undef, undef, undef, undef, undef, undef, undef, undef, undef, undef, undef, undef, undef, undef, undef, undef, undef, undef, undef, undef, undef, undef, undef, undef, undef, undef, undef, undef, undef, undef, undef, undef, undef, undef, undef, undef, undef], defers := [] } W := by
  have hHeld := HS.out W T.out
  refine wpAnyH_ready (rs := [5, 8, 17]) (by kernel_rfl) (by simp) ?_
  refine AllReadyH.cons (o := { dst := some 22, op := Op.call { callee := Callee.value (Operand.func 10), args := #[Operand.const (Value.string { data := #[101, 120, 110] }), Operand.const (Value.slice none 0 0)], argTypes := #[9, 22] }, type := 24, pos := "law.go:211", after := #[], guard := none }) rfl (fun K hK => ?_) (AllReadyH.cons (o := { dst := some 25, op := Op.buildSlice 22 1 #[(0, Operand.tmp 24)], type := 22, pos := "law.go:211", after := #[{ on := 7, ground := Ground.data }], guard := none }) rfl (fun K hK => ?_) (AllReadyH.cons (o := { dst := some 34, op := Op.buildSlice 22 1 #[(0, Operand.tmp 33)], type := 22, pos := "law.go:211", after := #[{ on := 16, ground := Ground.data }], guard := none }) rfl (fun K hK => ?_) AllReadyH.nil))
  · have HT := Lib.hid (named_any ⟨#[101, 120, 110]⟩ none 0 0 W)
    clear hHeld
    go_simp
    go_wp2_with (go_at_call 10; refine Calls.mono HT.out ?_; rintro e b ⟨rfl, bb⟩; have Hb := Lib.hid bb; have Tb : Hid (Below w2.heap.size w2 b) := Lib.hid (T.out.trans (bb.mono T.out.size)))
    refine hK.out _ _ (HS.out _ Tb.out) (fun hHeld => ?_)
    clear hK K HT
    have FA := Lib.hid (FA.out.below Hb.out FA.out.lt)
    have FC := Lib.hid (FC.out.below Hb.out FC.out.lt)
    exact rg1AC Q hQ w2 q x0 x1 x2 HS HEnd b Tb mA FA mC FC
  · obtain ⟨b, hb⟩ : ∃ v, W.alloc (.cells #[.int .u8 2, .string ⟨#[105, 110, 116]⟩, .int .i64 0, .slice none 0 0] 24) = v := ⟨_, rfl⟩
    have bb : Below W.heap.size W b := by rw [← hb]; exact (Below.refl _ _).alloc (Nat.le_refl _) _
    have BB : Blk b W.heap.size 24 #[.int .u8 2, .string ⟨#[105, 110, 116]⟩, .int .i64 0, .slice none 0 0] := by rw [← hb]; exact Blk.new _ _ _
    obtain ⟨mB, hn⟩ : ∃ v, W.heap.size = v := ⟨_, rfl⟩
    rw [hn] at BB
    have H := Lib.hid (And.intro hb (And.intro hn (And.intro bb BB)))
    have Tb : Hid (Below w2.heap.size w2 b) := Lib.hid (T.out.trans (bb.mono T.out.size))
    clear hb hn bb BB
    go_simp
    (try rw [H.out.1])
    (try rw [H.out.2.1])
    refine hK.out _ _ (HS.out _ Tb.out) (fun hHeld => ?_)
    clear hK K
    have FA := Lib.hid (FA.out.below H.out.2.2.1 FA.out.lt)
    have FC := Lib.hid (FC.out.below H.out.2.2.1 FC.out.lt)
    have FB := Lib.hid H.out.2.2.2
    exact rg0ABC Q hQ w2 q x0 x1 x2 HS HEnd b Tb mA FA mB FB mC FC
  · obtain ⟨b, hb⟩ : ∃ v, W.alloc (.cells #[.int .u8 2, .string ⟨#[105, 110, 116]⟩, .int .i64 0, .slice none 0 0] 24) = v := ⟨_, rfl⟩
    have bb : Below W.heap.size W b := by rw [← hb]; exact (Below.refl _ _).alloc (Nat.le_refl _) _
    have BB : Blk b W.heap.size 24 #[.int .u8 2, .string ⟨#[105, 110, 116]⟩, .int .i64 0, .slice none 0 0] := by rw [← hb]; exact Blk.new _ _ _
    obtain ⟨mD, hn⟩ : ∃ v, W.heap.size = v := ⟨_, rfl⟩
    rw [hn] at BB
    have H := Lib.hid (And.intro hb (And.intro hn (And.intro bb BB)))
    have Tb : Hid (Below w2.heap.size w2 b) := Lib.hid (T.out.trans (bb.mono T.out.size))
    clear hb hn bb BB
    go_simp
    (try rw [H.out.1])
    (try rw [H.out.2.1])
    refine hK.out _ _ (HS.out _ Tb.out) (fun hHeld => ?_)
    clear hK K
    have FA := Lib.hid (FA.out.below H.out.2.2.1 FA.out.lt)
    have FC := Lib.hid (FC.out.below H.out.2.2.1 FC.out.lt)
    have FD := Lib.hid H.out.2.2.2
    refine takeY (oi := { dst := some 35, op := Op.build 24 #[(0, Operand.const (Value.int IntKind.u8 4)), (3, Operand.tmp 34)], type := 24, pos := "law.go:211", after := #[{ on := 17, ground := Ground.data }], guard := none }) 18 (some 35) rfl rfl (by kernel_rfl) (by kernel_rfl) (by kernel_rfl) (fun _ _ _ h => hQ _ _ _ _ _ h) (by rfl) (v := _) (by (intro _ hSw; (try dsimp only at hSw); go_simp; try with_reducible rfl)) hHeld ?_
    simp only [Act.put, List.setIfInBounds_toArray, List.set_cons_zero, List.set_cons_succ]
    exact rg0ACD Q hQ w2 q x0 x1 x2 HS HEnd b Tb mA FA mC FC mD FD
set_option maxRecDepth 100000 in
set_option maxHeartbeats 4000000 in
theorem rg0BC (Q : Exit → Act → World → Prop) (hQ : ∀ c d v (a : Act) (w : World), Q (.panic c) (a.put d v) w → Q (.panic c) a w) (w2 : World) (q : Nat) (x0 x1 x2 : Value) (HS : Hid (∀ W, Below w2.heap.size w2 W → (fun W : World => W.cell? ⟨q, 0, none⟩ = some (.int .u8 2) ∧ W.cell? ⟨q, 1, none⟩ = some (.string ⟨#[105, 110, 116]⟩) ∧ W.cell? ⟨q, 2, none⟩ = some (.int .i64 0) ∧ W.cell? ⟨q, 3, none⟩ = some (.slice none 0 0)) W)) (HEnd : Hid (RgEnd Q w2 q x0 x1 x2)) (W : World) (T : Hid (Below w2.heap.size w2 W)) (mB : Nat) (FB : Hid (Blk W mB 24 #[.int .u8 2, .string ⟨#[105, 110, 116]⟩, .int .i64 0, .slice none 0 0])) (mC : Nat) (FC : Hid (Blk W mC 24 #[.int .u8 2, .string ⟨#[105, 110, 116]⟩, .int .i64 0, .slice none 0 0, .int .u8 2, .string ⟨#[105, 110, 116]⟩, .int .i64 0, .slice none 0 0])) : wpAnyH Tryd.prog .any rops Q (fun W : World => W.cell? ⟨q, 0, none⟩ = some (.int .u8 2) ∧ W.cell? ⟨q, 1, none⟩ = some (.string ⟨#[105, 110, 116]⟩) ∧ W.cell? ⟨q, 2, none⟩ = some (.int .i64 0) ∧ W.cell? ⟨q, 3, none⟩ = some (.slice none 0 0)) 12 #[true, true, false, false, true, false, false, true, true, false, false, false, true, true, true, false, true, false, false, true, false, false] { tmps := #[x0, x1, x2, undef, undef, undef, .bool false, .pointer (some ⟨q, 0, none⟩), undef, undef, undef, undef, undef, undef, undef, undef, .agg #[.int .u8 2, .string ⟨#[105, 110, 116]⟩, .int .i64 0, .slice none 0 0], .agg #[.int .u8 2, .string ⟨#[105, 110, 116]⟩, .int .i64 0, .slice none 0 0], .agg #[.int .u8 2, .string ⟨#[105, 110, 116]⟩, .int .i64 0, .slice none 0 0], undef, undef, .agg #[.int .u8 1, .string ⟨#[39, 98]⟩, .int .i64 0, .slice none 0 0], undef, undef, .agg #[.int .u8 2, .string ⟨#[105, 110, 116]⟩, .int .i64 0, .slice none 0 0], .slice (some ⟨mB, 0, none⟩) 1 1, undef, undef, undef, .agg #[.int .u8 2, .string ⟨#[105, 110, 116]⟩, .int .i64 0, .slice none 0 0], .agg #[.int .u8 2, .string ⟨#[105, 110, 116]⟩, .int .i64 0, .slice none 0 0], .slice (some ⟨mC, 0, none⟩) 2 2, undef, .agg #[.int .u8 2, .string ⟨#[105, 110, 116]⟩, .int .i64 0, .slice none 0 0], undef, undef, .agg #[.int .u8 0, .string ⟨#[]⟩, .int .i64 0, .slice none 0 0], undef, undef, undef, undef, undef, undef, undef, undef, undef, undef, undef, undef, undef, undef, undef, undef, undef, undef, undef, undef, undef, undef, undef, undef, undef, undef, undef, undef, undef, undef, undef, undef, undef, undef, undef, undef, undef, undef, undef, undef, undef, undef, undef, undef, undef, undef, undef, undef, undef, undef, undef, undef, undef, undef, undef, undef, undef, undef, undef, undef, undef, undef, undef, undef, undef, undef, undef, undef, undef, undef, undef, undef], defers := [] } W := by
  have hHeld := HS.out W T.out
  refine wpAnyH_ready (rs := [2, 5, 17]) (by kernel_rfl) (by simp) ?_
  refine AllReadyH.cons (o := { dst := some 19, op := Op.buildSlice 22 2 #[(0, Operand.tmp 17), (1, Operand.tmp 18)], type := 22, pos := "law.go:211", after := #[{ on := 0, ground := Ground.data }, { on := 1, ground := Ground.data }], guard := none }) rfl (fun K hK => ?_) (AllReadyH.cons (o := { dst := some 22, op := Op.call { callee := Callee.value (Operand.func 10), args := #[Operand.const (Value.string { data := #[101, 120, 110] }), Operand.const (Value.slice none 0 0)], argTypes := #[9, 22] }, type := 24, pos := "law.go:211", after := #[], guard := none }) rfl (fun K hK => ?_) (AllReadyH.cons (o := { dst := some 34, op := Op.buildSlice 22 1 #[(0, Operand.tmp 33)], type := 22, pos := "law.go:211", after := #[{ on := 16, ground := Ground.data }], guard := none }) rfl (fun K hK => ?_) AllReadyH.nil))
  · obtain ⟨b, hb⟩ : ∃ v, W.alloc (.cells #[.int .u8 2, .string ⟨#[105, 110, 116]⟩, .int .i64 0, .slice none 0 0, .int .u8 2, .string ⟨#[105, 110, 116]⟩, .int .i64 0, .slice none 0 0] 24) = v := ⟨_, rfl⟩
    have bb : Below W.heap.size W b := by rw [← hb]; exact (Below.refl _ _).alloc (Nat.le_refl _) _
    have BB : Blk b W.heap.size 24 #[.int .u8 2, .string ⟨#[105, 110, 116]⟩, .int .i64 0, .slice none 0 0, .int .u8 2, .string ⟨#[105, 110, 116]⟩, .int .i64 0, .slice none 0 0] := by rw [← hb]; exact Blk.new _ _ _
    obtain ⟨mA, hn⟩ : ∃ v, W.heap.size = v := ⟨_, rfl⟩
    rw [hn] at BB
    have H := Lib.hid (And.intro hb (And.intro hn (And.intro bb BB)))
    have Tb : Hid (Below w2.heap.size w2 b) := Lib.hid (T.out.trans (bb.mono T.out.size))
    clear hb hn bb BB
    go_simp
    (try rw [H.out.1])
    (try rw [H.out.2.1])
    refine hK.out _ _ (HS.out _ Tb.out) (fun hHeld => ?_)
    clear hK K
    have FB := Lib.hid (FB.out.below H.out.2.2.1 FB.out.lt)
    have FC := Lib.hid (FC.out.below H.out.2.2.1 FC.out.lt)
    have FA := Lib.hid H.out.2.2.2
    refine takeY (oi := { dst := some 20, op := Op.build 24 #[(0, Operand.const (Value.int IntKind.u8 3)), (3, Operand.tmp 19)], type := 24, pos := "law.go:211", after := #[{ on := 2, ground := Ground.data }], guard := none }) 3 (some 20) rfl rfl (by kernel_rfl) (by kernel_rfl) (by kernel_rfl) (fun _ _ _ h => hQ _ _ _ _ _ h) (by rfl) (v := _) (by (intro _ hSw; (try dsimp only at hSw); go_simp; try with_reducible rfl)) hHeld ?_
    simp only [Act.put, List.setIfInBounds_toArray, List.set_cons_zero, List.set_cons_succ]
    exact rg0ABC Q hQ w2 q x0 x1 x2 HS HEnd b Tb mA FA mB FB mC FC
  · have HT := Lib.hid (named_any ⟨#[101, 120, 110]⟩ none 0 0 W)
    clear hHeld
    go_simp
    go_wp2_with (go_at_call 10; refine Calls.mono HT.out ?_; rintro e b ⟨rfl, bb⟩; have Hb := Lib.hid bb; have Tb : Hid (Below w2.heap.size w2 b) := Lib.hid (T.out.trans (bb.mono T.out.size)))
    refine hK.out _ _ (HS.out _ Tb.out) (fun hHeld => ?_)
    clear hK K HT
    have FB := Lib.hid (FB.out.below Hb.out FB.out.lt)
    have FC := Lib.hid (FC.out.below Hb.out FC.out.lt)
    exact rg1BC Q hQ w2 q x0 x1 x2 HS HEnd b Tb mB FB mC FC
  · obtain ⟨b, hb⟩ : ∃ v, W.alloc (.cells #[.int .u8 2, .string ⟨#[105, 110, 116]⟩, .int .i64 0, .slice none 0 0] 24) = v := ⟨_, rfl⟩
    have bb : Below W.heap.size W b := by rw [← hb]; exact (Below.refl _ _).alloc (Nat.le_refl _) _
    have BB : Blk b W.heap.size 24 #[.int .u8 2, .string ⟨#[105, 110, 116]⟩, .int .i64 0, .slice none 0 0] := by rw [← hb]; exact Blk.new _ _ _
    obtain ⟨mD, hn⟩ : ∃ v, W.heap.size = v := ⟨_, rfl⟩
    rw [hn] at BB
    have H := Lib.hid (And.intro hb (And.intro hn (And.intro bb BB)))
    have Tb : Hid (Below w2.heap.size w2 b) := Lib.hid (T.out.trans (bb.mono T.out.size))
    clear hb hn bb BB
    go_simp
    (try rw [H.out.1])
    (try rw [H.out.2.1])
    refine hK.out _ _ (HS.out _ Tb.out) (fun hHeld => ?_)
    clear hK K
    have FB := Lib.hid (FB.out.below H.out.2.2.1 FB.out.lt)
    have FC := Lib.hid (FC.out.below H.out.2.2.1 FC.out.lt)
    have FD := Lib.hid H.out.2.2.2
    refine takeY (oi := { dst := some 35, op := Op.build 24 #[(0, Operand.const (Value.int IntKind.u8 4)), (3, Operand.tmp 34)], type := 24, pos := "law.go:211", after := #[{ on := 17, ground := Ground.data }], guard := none }) 18 (some 35) rfl rfl (by kernel_rfl) (by kernel_rfl) (by kernel_rfl) (fun _ _ _ h => hQ _ _ _ _ _ h) (by rfl) (v := _) (by (intro _ hSw; (try dsimp only at hSw); go_simp; try with_reducible rfl)) hHeld ?_
    simp only [Act.put, List.setIfInBounds_toArray, List.set_cons_zero, List.set_cons_succ]
    exact rg0BCD Q hQ w2 q x0 x1 x2 HS HEnd b Tb mB FB mC FC mD FD
set_option maxRecDepth 100000 in
set_option maxHeartbeats 4000000 in
theorem rg0AD (Q : Exit → Act → World → Prop) (hQ : ∀ c d v (a : Act) (w : World), Q (.panic c) (a.put d v) w → Q (.panic c) a w) (w2 : World) (q : Nat) (x0 x1 x2 : Value) (HS : Hid (∀ W, Below w2.heap.size w2 W → (fun W : World => W.cell? ⟨q, 0, none⟩ = some (.int .u8 2) ∧ W.cell? ⟨q, 1, none⟩ = some (.string ⟨#[105, 110, 116]⟩) ∧ W.cell? ⟨q, 2, none⟩ = some (.int .i64 0) ∧ W.cell? ⟨q, 3, none⟩ = some (.slice none 0 0)) W)) (HEnd : Hid (RgEnd Q w2 q x0 x1 x2)) (W : World) (T : Hid (Below w2.heap.size w2 W)) (mA : Nat) (FA : Hid (Blk W mA 24 #[.int .u8 2, .string ⟨#[105, 110, 116]⟩, .int .i64 0, .slice none 0 0, .int .u8 2, .string ⟨#[105, 110, 116]⟩, .int .i64 0, .slice none 0 0])) (mD : Nat) (FD : Hid (Blk W mD 24 #[.int .u8 2, .string ⟨#[105, 110, 116]⟩, .int .i64 0, .slice none 0 0])) : wpAnyH Tryd.prog .any rops Q (fun W : World => W.cell? ⟨q, 0, none⟩ = some (.int .u8 2) ∧ W.cell? ⟨q, 1, none⟩ = some (.string ⟨#[105, 110, 116]⟩) ∧ W.cell? ⟨q, 2, none⟩ = some (.int .i64 0) ∧ W.cell? ⟨q, 3, none⟩ = some (.slice none 0 0)) 10 #[true, true, true, true, true, false, false, true, false, false, false, false, true, true, false, false, true, true, true, true, false, false] { tmps := #[x0, x1, x2, undef, undef, undef, .bool false, .pointer (some ⟨q, 0, none⟩), undef, undef, undef, undef, undef, undef, undef, undef, .agg #[.int .u8 2, .string ⟨#[105, 110, 116]⟩, .int .i64 0, .slice none 0 0], .agg #[.int .u8 2, .string ⟨#[105, 110, 116]⟩, .int .i64 0, .slice none 0 0], .agg #[.int .u8 2, .string ⟨#[105, 110, 116]⟩, .int .i64 0, .slice none 0 0], .slice (some ⟨mA, 0, none⟩) 2 2, .agg #[.int .u8 3, .string ⟨#[]⟩, .int .i64 0, .slice (some ⟨mA, 0, none⟩) 2 2], .agg #[.int .u8 1, .string ⟨#[39, 98]⟩, .int .i64 0, .slice none 0 0], undef, undef, .agg #[.int .u8 2, .string ⟨#[105, 110, 116]⟩, .int .i64 0, .slice none 0 0], undef, undef, undef, undef, .agg #[.int .u8 2, .string ⟨#[105, 110, 116]⟩, .int .i64 0, .slice none 0 0], .agg #[.int .u8 2, .string ⟨#[105, 110, 116]⟩, .int .i64 0, .slice none 0 0], undef, undef, .agg #[.int .u8 2, .string ⟨#[105, 110, 116]⟩, .int .i64 0, .slice none 0 0], .slice (some ⟨mD, 0, none⟩) 1 1, .agg #[.int .u8 4, .string ⟨#[]⟩, .int .i64 0, .slice (some ⟨mD, 0, none⟩) 1 1], .agg #[.int .u8 0, .string ⟨#[]⟩, .int .i64 0, .slice none 0 0], undef, undef, undef, undef, undef, undef, undef, undef, undef, undef, undef, undef, undef, undef, undef, undef, undef, undef, undef, undef, undef, undef, undef, undef, undef, undef, undef, undef, undef, undef, undef, undef, undef, undef, undef, undef, undef, undef, undef, undef, undef, undef, undef, undef, undef, undef, undef, undef, undef, undef, undef, undef, undef, undef, undef, undef, undef, undef, undef, undef, undef, undef, undef, undef, undef, undef, undef, undef, undef, undef, undef, undef], defers := [] } W := by
  have hHeld := HS.out W T.out
  refine wpAnyH_ready (rs := [5, 8, 14]) (by kernel_rfl) (by simp) ?_
  refine AllReadyH.cons (o := { dst := some 22, op := Op.call { callee := Callee.value (Operand.func 10), args := #[Operand.const (Value.string { data := #[101, 120, 110] }), Operand.const (Value.slice none 0 0)], argTypes := #[9, 22] }, type := 24, pos := "law.go:211", after := #[], guard := none }) rfl (fun K hK => ?_) (AllReadyH.cons (o := { dst := some 25, op := Op.buildSlice 22 1 #[(0, Operand.tmp 24)], type := 22, pos := "law.go:211", after := #[{ on := 7, ground := Ground.data }], guard := none }) rfl (fun K hK => ?_) (AllReadyH.cons (o := { dst := some 31, op := Op.buildSlice 22 2 #[(0, Operand.tmp 29), (1, Operand.tmp 30)], type := 22, pos := "law.go:211", after := #[{ on := 12, ground := Ground.data }, { on := 13, ground := Ground.data }], guard := none }) rfl (fun K hK => ?_) AllReadyH.nil))
  · have HT := Lib.hid (named_any ⟨#[101, 120, 110]⟩ none 0 0 W)
    clear hHeld
    go_simp
    go_wp2_with (go_at_call 10; refine Calls.mono HT.out ?_; rintro e b ⟨rfl, bb⟩; have Hb := Lib.hid bb; have Tb : Hid (Below w2.heap.size w2 b) := Lib.hid (T.out.trans (bb.mono T.out.size)))
    refine hK.out _ _ (HS.out _ Tb.out) (fun hHeld => ?_)
    clear hK K HT
    have FA := Lib.hid (FA.out.below Hb.out FA.out.lt)
    have FD := Lib.hid (FD.out.below Hb.out FD.out.lt)
    exact rg1AD Q hQ w2 q x0 x1 x2 HS HEnd b Tb mA FA mD FD
  · obtain ⟨b, hb⟩ : ∃ v, W.alloc (.cells #[.int .u8 2, .string ⟨#[105, 110, 116]⟩, .int .i64 0, .slice none 0 0] 24) = v := ⟨_, rfl⟩
    have bb : Below W.heap.size W b := by rw [← hb]; exact (Below.refl _ _).alloc (Nat.le_refl _) _
    have BB : Blk b W.heap.size 24 #[.int .u8 2, .string ⟨#[105, 110, 116]⟩, .int .i64 0, .slice none 0 0] := by rw [← hb]; exact Blk.new _ _ _
    obtain ⟨mB, hn⟩ : ∃ v, W.heap.size = v := ⟨_, rfl⟩
    rw [hn] at BB
    have H := Lib.hid (And.intro hb (And.intro hn (And.intro bb BB)))
    have Tb : Hid (Below w2.heap.size w2 b) := Lib.hid (T.out.trans (bb.mono T.out.size))
    clear hb hn bb BB
    go_simp
    (try rw [H.out.1])
    (try rw [H.out.2.1])
    refine hK.out _ _ (HS.out _ Tb.out) (fun hHeld => ?_)
    clear hK K
    have FA := Lib.hid (FA.out.below H.out.2.2.1 FA.out.lt)
    have FD := Lib.hid (FD.out.below H.out.2.2.1 FD.out.lt)
    have FB := Lib.hid H.out.2.2.2
    exact rg0ABD Q hQ w2 q x0 x1 x2 HS HEnd b Tb mA FA mB FB mD FD
  · obtain ⟨b, hb⟩ : ∃ v, W.alloc (.cells #[.int .u8 2, .string ⟨#[105, 110, 116]⟩, .int .i64 0, .slice none 0 0, .int .u8 2, .string ⟨#[105, 110, 116]⟩, .int .i64 0, .slice none 0 0] 24) = v := ⟨_, rfl⟩
    have bb : Below W.heap.size W b := by rw [← hb]; exact (Below.refl _ _).alloc (Nat.le_refl _) _
    have BB : Blk b W.heap.size 24 #[.int .u8 2, .string ⟨#[105, 110, 116]⟩, .int .i64 0, .slice none 0 0, .int .u8 2, .string ⟨#[105, 110, 116]⟩, .int .i64 0, .slice none 0 0] := by rw [← hb]; exact Blk.new _ _ _
    obtain ⟨mC, hn⟩ : ∃ v, W.heap.size = v := ⟨_, rfl⟩
    rw [hn] at BB
    have H := Lib.hid (And.intro hb (And.intro hn (And.intro bb BB)))
    have Tb : Hid (Below w2.heap.size w2 b) := Lib.hid (T.out.trans (bb.mono T.out.size))
    clear hb hn bb BB
    go_simp
    (try rw [H.out.1])
    (try rw [H.out.2.1])
    refine hK.out _ _ (HS.out _ Tb.out) (fun hHeld => ?_)
    clear hK K
    have FA := Lib.hid (FA.out.below H.out.2.2.1 FA.out.lt)
    have FD := Lib.hid (FD.out.below H.out.2.2.1 FD.out.lt)
    have FC := Lib.hid H.out.2.2.2
    exact rg0ACD Q hQ w2 q x0 x1 x2 HS HEnd b Tb mA FA mC FC mD FD
set_option maxRecDepth 100000 in
set_option maxHeartbeats 4000000 in
theorem rg0BD (Q : Exit → Act → World → Prop) (hQ : ∀ c d v (a : Act) (w : World), Q (.panic c) (a.put d v) w → Q (.panic c) a w) (w2 : World) (q : Nat) (x0 x1 x2 : Value) (HS : Hid (∀ W, Below w2.heap.size w2 W → (fun W : World => W.cell? ⟨q, 0, none⟩ = some (.int .u8 2) ∧ W.cell? ⟨q, 1, none⟩ = some (.string ⟨#[105, 110, 116]⟩) ∧ W.cell? ⟨q, 2, none⟩ = some (.int .i64 0) ∧ W.cell? ⟨q, 3, none⟩ = some (.slice none 0 0)) W)) (HEnd : Hid (RgEnd Q w2 q x0 x1 x2)) (W : World) (T : Hid (Below w2.heap.size w2 W)) (mB : Nat) (FB : Hid (Blk W mB 24 #[.int .u8 2, .string ⟨#[105, 110, 116]⟩, .int .i64 0, .slice none 0 0])) (mD : Nat) (FD : Hid (Blk W mD 24 #[.int .u8 2, .string ⟨#[105, 110, 116]⟩, .int .i64 0, .slice none 0 0])) : wpAnyH Tryd.prog .any rops Q (fun W : World => W.cell? ⟨q, 0, none⟩ = some (.int .u8 2) ∧ W.cell? ⟨q, 1, none⟩ = some (.string ⟨#[105, 110, 116]⟩) ∧ W.cell? ⟨q, 2, none⟩ = some (.int .i64 0) ∧ W.cell? ⟨q, 3, none⟩ = some (.slice none 0 0)) 11 #[true, true, false, false, true, false, false, true, true, false, false, false, true, true, false, false, true, true, true, true, false, false] { tmps := #[x0, x1, x2, undef, undef, undef, .bool false, .pointer (some ⟨q, 0, none⟩), undef, undef, undef, undef, undef, undef, undef, undef, .agg #[.int .u8 2, .string ⟨#[105, 110, 116]⟩, .int .i64 0, .slice none 0 0], .agg #[.int .u8 2, .string ⟨#[105, 110, 116]⟩, .int .i64 0, .slice none 0 0], .agg #[.int .u8 2, .string ⟨#[105, 110, 116]⟩, .int .i64 0, .slice none 0 0], undef, undef, .agg #[.int .u8 1, .string ⟨#[39, 98]⟩, .int .i64 0, .slice none 0 0], undef, undef, .agg #[.int .u8 2, .string ⟨#[105, 110, 116]⟩, .int .i64 0, .slice none 0 0], .slice (some ⟨mB, 0, none⟩) 1 1, undef, undef, undef, .agg #[.int .u8 2, .string ⟨#[105, 110, 116]⟩, .int .i64 0, .slice none 0 0], .agg #[.int .u8 2, .string ⟨#[105, 110, 116]⟩, .int .i64 0, .slice none 0 0], undef, undef, .agg #[.int .u8 2, .string ⟨#[105, 110, 116]⟩, .int .i64 0, .slice none 0 0], .slice (some ⟨mD, 0, none⟩) 1 1, .agg #[.int .u8 4, .string ⟨#[]⟩, .int .i64 0, .slice (some ⟨mD, 0, none⟩) 1 1], .agg #[.int .u8 0, .string ⟨#[]⟩, .int .i64 0, .slice none 0 0], undef, undef, undef, undef, undef, undef, undef, undef, undef, undef, undef, undef, undef, undef, undef, undef, undef, undef, undef, undef, undef, undef, undef, undef, undef, undef, undef, undef, undef, undef, undef, undef, undef, undef, undef, undef, undef, undef, undef, undef, undef, undef, undef, undef, undef, undef, undef, undef, undef, undef, undef, undef, undef, undef, undef, undef, undef, undef, undef, undef, undef, undef, undef, undef, undef, undef, undef, undef, undef, undef, undef, undef], defers := [] } W := by
  have hHeld := HS.out W T.out
  refine wpAnyH_ready (rs := [2, 5, 14]) (by kernel_rfl) (by simp) ?_
  refine AllReadyH.cons (o := { dst := some 19, op := Op.buildSlice 22 2 #[(0, Operand.tmp 17), (1, Operand.tmp 18)], type := 22, pos := "law.go:211", after := #[{ on := 0, ground := Ground.data }, { on := 1, ground := Ground.data }], guard := none }) rfl (fun K hK => ?_) (AllReadyH.cons (o := { dst := some 22, op := Op.call { callee := Callee.value (Operand.func 10), args := #[Operand.const (Value.string { data := #[101, 120, 110] }), Operand.const (Value.slice none 0 0)], argTypes := #[9, 22] }, type := 24, pos := "law.go:211", after := #[], guard := none }) rfl (fun K hK => ?_) (AllReadyH.cons (o := { dst := some 31, op := Op.buildSlice 22 2 #[(0, Operand.tmp 29), (1, Operand.tmp 30)], type := 22, pos := "law.go:211", after := #[{ on := 12, ground := Ground.data }, { on := 13, ground := Ground.data }], guard := none }) rfl (fun K hK => ?_) AllReadyH.nil))
  · obtain ⟨b, hb⟩ : ∃ v, W.alloc (.cells #[.int .u8 2, .string ⟨#[105, 110, 116]⟩, .int .i64 0, .slice none 0 0, .int .u8 2, .string ⟨#[105, 110, 116]⟩, .int .i64 0, .slice none 0 0] 24) = v := ⟨_, rfl⟩
    have bb : Below W.heap.size W b := by rw [← hb]; exact (Below.refl _ _).alloc (Nat.le_refl _) _
    have BB : Blk b W.heap.size 24 #[.int .u8 2, .string ⟨#[105, 110, 116]⟩, .int .i64 0, .slice none 0 0, .int .u8 2, .string ⟨#[105, 110, 116]⟩, .int .i64 0, .slice none 0 0] := by rw [← hb]; exact Blk.new _ _ _
    obtain ⟨mA, hn⟩ : ∃ v, W.heap.size = v := ⟨_, rfl⟩
    rw [hn] at BB
    have H := Lib.hid (And.intro hb (And.intro hn (And.intro bb BB)))
    have Tb : Hid (Below w2.heap.size w2 b) := Lib.hid (T.out.trans (bb.mono T.out.size))
    clear hb hn bb BB
    go_simp
    (try rw [H.out.1])
    (try rw [H.out.2.1])
    refine hK.out _ _ (HS.out _ Tb.out) (fun hHeld => ?_)
    clear hK K
    have FB := Lib.hid (FB.out.below H.out.2.2.1 FB.out.lt)
    have FD := Lib.hid (FD.out.below H.out.2.2.1 FD.out.lt)
    have FA := Lib.hid H.out.2.2.2
    refine takeY (oi := { dst := some 20, op := Op.build 24 #[(0, Operand.const (Value.int IntKind.u8 3)), (3, Operand.tmp 19)], type := 24, pos := "law.go:211", after := #[{ on := 2, ground := Ground.data }], guard := none }) 3 (some 20) rfl rfl (by kernel_rfl) (by kernel_rfl) (by kernel_rfl) (fun _ _ _ h => hQ _ _ _ _ _ h) (by rfl) (v := _) (by (intro _ hSw; (try dsimp only at hSw); go_simp; try with_reducible rfl)) hHeld ?_
    simp only [Act.put, List.setIfInBounds_toArray, List.set_cons_zero, List.set_cons_succ]
    exact rg0ABD Q hQ w2 q x0 x1 x2 HS HEnd b Tb mA FA mB FB mD FD
  · have HT := Lib.hid (named_any ⟨#[101, 120, 110]⟩ none 0 0 W)
    clear hHeld
    go_simp
    go_wp2_with (go_at_call 10; refine Calls.mono HT.out ?_; rintro e b ⟨rfl, bb⟩; have Hb := Lib.hid bb; have Tb : Hid (Below w2.heap.size w2 b) := Lib.hid (T.out.trans (bb.mono T.out.size)))
    refine hK.out _ _ (HS.out _ Tb.out) (fun hHeld => ?_)
    clear hK K HT
    have FB := Lib.hid (FB.out.below Hb.out FB.out.lt)
    have FD := Lib.hid (FD.out.below Hb.out FD.out.lt)
    exact rg1BD Q hQ w2 q x0 x1 x2 HS HEnd b Tb mB FB mD FD
  · obtain ⟨b, hb⟩ : ∃ v, W.alloc (.cells #[.int .u8 2, .string ⟨#[105, 110, 116]⟩, .int .i64 0, .slice none 0 0, .int .u8 2, .string ⟨#[105, 110, 116]⟩, .int .i64 0, .slice none 0 0] 24) = v := ⟨_, rfl⟩
    have bb : Below W.heap.size W b := by rw [← hb]; exact (Below.refl _ _).alloc (Nat.le_refl _) _
    have BB : Blk b W.heap.size 24 #[.int .u8 2, .string ⟨#[105, 110, 116]⟩, .int .i64 0, .slice none 0 0, .int .u8 2, .string ⟨#[105, 110, 116]⟩, .int .i64 0, .slice none 0 0] := by rw [← hb]; exact Blk.new _ _ _
    obtain ⟨mC, hn⟩ : ∃ v, W.heap.size = v := ⟨_, rfl⟩
    rw [hn] at BB
    have H := Lib.hid (And.intro hb (And.intro hn (And.intro bb BB)))
    have Tb : Hid (Below w2.heap.size w2 b) := Lib.hid (T.out.trans (bb.mono T.out.size))
    clear hb hn bb BB
    go_simp
    (try rw [H.out.1])
    (try rw [H.out.2.1])
    refine hK.out _ _ (HS.out _ Tb.out) (fun hHeld => ?_)
    clear hK K
    have FB := Lib.hid (FB.out.below H.out.2.2.1 FB.out.lt)
    have FD := Lib.hid (FD.out.below H.out.2.2.1 FD.out.lt)
    have FC := Lib.hid H.out.2.2.2
    exact rg0BCD Q hQ w2 q x0 x1 x2 HS HEnd b Tb mB FB mC FC mD FD
set_option maxRecDepth 100000 in
set_option maxHeartbeats 4000000 in
theorem rg0CD (Q : Exit → Act → World → Prop) (hQ : ∀ c d v (a : Act) (w : World), Q (.panic c) (a.put d v) w → Q (.panic c) a w) (w2 : World) (q : Nat) (x0 x1 x2 : Value) (HS : Hid (∀ W, Below w2.heap.size w2 W → (fun W : World => W.cell? ⟨q, 0, none⟩ = some (.int .u8 2) ∧ W.cell? ⟨q, 1, none⟩ = some (.string ⟨#[105, 110, 116]⟩) ∧ W.cell? ⟨q, 2, none⟩ = some (.int .i64 0) ∧ W.cell? ⟨q, 3, none⟩ = some (.slice none 0 0)) W)) (HEnd : Hid (RgEnd Q w2 q x0 x1 x2)) (W : World) (T : Hid (Below w2.heap.size w2 W)) (mC : Nat) (FC : Hid (Blk W mC 24 #[.int .u8 2, .string ⟨#[105, 110, 116]⟩, .int .i64 0, .slice none 0 0, .int .u8 2, .string ⟨#[105, 110, 116]⟩, .int .i64 0, .slice none 0 0])) (mD : Nat) (FD : Hid (Blk W mD 24 #[.int .u8 2, .string ⟨#[105, 110, 116]⟩, .int .i64 0, .slice none 0 0])) : wpAnyH Tryd.prog .any rops Q (fun W : World => W.cell? ⟨q, 0, none⟩ = some (.int .u8 2) ∧ W.cell? ⟨q, 1, none⟩ = some (.string ⟨#[105, 110, 116]⟩) ∧ W.cell? ⟨q, 2, none⟩ = some (.int .i64 0) ∧ W.cell? ⟨q, 3, none⟩ = some (.slice none 0 0)) 11 #[true, true, false, false, true, false, false, true, false, false, false, false, true, true, true, false, true, true, true, true, false, false] { tmps := #[x0, x1, x2, undef, undef, undef, .bool false, .pointer (some ⟨q, 0, none⟩), undef, undef, undef, undef, undef, undef, undef, undef, .agg #[.int .u8 2, .string ⟨#[105, 110, 116]⟩, .int .i64 0, .slice none 0 0], .agg #[.int .u8 2, .string ⟨#[105, 110, 116]⟩, .int .i64 0, .slice none 0 0], .agg #[.int .u8 2, .string ⟨#[105, 110, 116]⟩, .int .i64 0, .slice none 0 0], undef, undef, .agg #[.int .u8 1, .string ⟨#[39, 98]⟩, .int .i64 0, .slice none 0 0], undef, undef, .agg #[.int .u8 2, .string ⟨#[105, 110, 116]⟩, .int .i64 0, .slice none 0 0], undef, undef, undef, undef, .agg #[.int .u8 2, .string ⟨#[105, 110, 116]⟩, .int .i64 0, .slice none 0 0], .agg #[.int .u8 2, .string ⟨#[105, 110, 116]⟩, .int .i64 0, .slice none 0 0], .slice (some ⟨mC, 0, none⟩) 2 2, undef, .agg #[.int .u8 2, .string ⟨#[105, 110, 116]⟩, .int .i64 0, .slice none 0 0], .slice (some ⟨mD, 0, none⟩) 1 1, .agg #[.int .u8 4, .string ⟨#[]⟩, .int .i64 0, .slice (some ⟨mD, 0, none⟩) 1 1], .agg #[.int .u8 0, .string ⟨#[]⟩, .int .i64 0, .slice none 0 0], undef, undef, undef, undef, undef, undef, undef, undef, undef, undef, undef, undef, undef, undef, undef, undef, undef, undef, undef, undef, undef, undef, undef, undef, undef, undef, undef, undef, undef, undef, undef, undef, undef, undef, undef, undef, undef, undef, undef, undef, undef, undef, undef, undef, undef, undef, undef, undef, undef, undef, undef, undef, undef, undef, undef, undef, undef, undef, undef, undef, undef, undef, undef, undef, undef, undef, undef, undef, undef, undef, undef, undef], defers := [] } W := by
  have hHeld := HS.out W T.out
  refine wpAnyH_ready (rs := [2, 5, 8]) (by kernel_rfl) (by simp) ?_
  refine AllReadyH.cons (o := { dst := some 19, op := Op.buildSlice 22 2 #[(0, Operand.tmp 17), (1, Operand.tmp 18)], type := 22, pos := "law.go:211", after := #[{ on := 0, ground := Ground.data }, { on := 1, ground := Ground.data }], guard := none }) rfl (fun K hK => ?_) (AllReadyH.cons (o := { dst := some 22, op := Op.call { callee := Callee.value (Operand.func 10), args := #[Operand.const (Value.string { data := #[101, 120, 110] }), Operand.const (Value.slice none 0 0)], argTypes := #[9, 22] }, type := 24, pos := "law.go:211", after := #[], guard := none }) rfl (fun K hK => ?_) (AllReadyH.cons (o := { dst := some 25, op := Op.buildSlice 22 1 #[(0, Operand.tmp 24)], type := 22, pos := "law.go:211", after := #[{ on := 7, ground := Ground.data }], guard := none }) rfl (fun K hK => ?_) AllReadyH.nil))
  · obtain ⟨b, hb⟩ : ∃ v, W.alloc (.cells #[.int .u8 2, .string ⟨#[105, 110, 116]⟩, .int .i64 0, .slice none 0 0, .int .u8 2, .string ⟨#[105, 110, 116]⟩, .int .i64 0, .slice none 0 0] 24) = v := ⟨_, rfl⟩
    have bb : Below W.heap.size W b := by rw [← hb]; exact (Below.refl _ _).alloc (Nat.le_refl _) _
    have BB : Blk b W.heap.size 24 #[.int .u8 2, .string ⟨#[105, 110, 116]⟩, .int .i64 0, .slice none 0 0, .int .u8 2, .string ⟨#[105, 110, 116]⟩, .int .i64 0, .slice none 0 0] := by rw [← hb]; exact Blk.new _ _ _
    obtain ⟨mA, hn⟩ : ∃ v, W.heap.size = v := ⟨_, rfl⟩
    rw [hn] at BB
    have H := Lib.hid (And.intro hb (And.intro hn (And.intro bb BB)))
    have Tb : Hid (Below w2.heap.size w2 b) := Lib.hid (T.out.trans (bb.mono T.out.size))
    clear hb hn bb BB
    go_simp
    (try rw [H.out.1])
    (try rw [H.out.2.1])
    refine hK.out _ _ (HS.out _ Tb.out) (fun hHeld => ?_)
    clear hK K
    have FC := Lib.hid (FC.out.below H.out.2.2.1 FC.out.lt)
    have FD := Lib.hid (FD.out.below H.out.2.2.1 FD.out.lt)
    have FA := Lib.hid H.out.2.2.2
    refine takeY (oi := { dst := some 20, op := Op.build 24 #[(0, Operand.const (Value.int IntKind.u8 3)), (3, Operand.tmp 19)], type := 24, pos := "law.go:211", after := #[{ on := 2, ground := Ground.data }], guard := none }) 3 (some 20) rfl rfl (by kernel_rfl) (by kernel_rfl) (by kernel_rfl) (fun _ _ _ h => hQ _ _ _ _ _ h) (by rfl) (v := _) (by (intro _ hSw; (try dsimp only at hSw); go_simp; try with_reducible rfl)) hHeld ?_
    simp only [Act.put, List.setIfInBounds_toArray, List.set_cons_zero, List.set_cons_succ]
    exact rg0ACD Q hQ w2 q x0 x1 x2 HS HEnd b Tb mA FA mC FC mD FD
  · have HT := Lib.hid (named_any ⟨#[101, 120, 110]⟩ none 0 0 W)
    clear hHeld
    go_simp
    go_wp2_with (go_at_call 10; refine Calls.mono HT.out ?_; rintro e b ⟨rfl, bb⟩; have Hb := Lib.hid bb; have Tb : Hid (Below w2.heap.size w2 b) := Lib.hid (T.out.trans (bb.mono T.out.size)))
    refine hK.out _ _ (HS.out _ Tb.out) (fun hHeld => ?_)
    clear hK K HT
    have FC := Lib.hid (FC.out.below Hb.out FC.out.lt)
    have FD := Lib.hid (FD.out.below Hb.out FD.out.lt)
    exact rg1CD Q hQ w2 q x0 x1 x2 HS HEnd b Tb mC FC mD FD
  · obtain ⟨b, hb⟩ : ∃ v, W.alloc (.cells #[.int .u8 2, .string ⟨#[105, 110, 116]⟩, .int .i64 0, .slice none 0 0] 24) = v := ⟨_, rfl⟩
    have bb : Below W.heap.size W b := by rw [← hb]; exact (Below.refl _ _).alloc (Nat.le_refl _) _
    have BB : Blk b W.heap.size 24 #[.int .u8 2, .string ⟨#[105, 110, 116]⟩, .int .i64 0, .slice none 0 0] := by rw [← hb]; exact Blk.new _ _ _
    obtain ⟨mB, hn⟩ : ∃ v, W.heap.size = v := ⟨_, rfl⟩
    rw [hn] at BB
    have H := Lib.hid (And.intro hb (And.intro hn (And.intro bb BB)))
    have Tb : Hid (Below w2.heap.size w2 b) := Lib.hid (T.out.trans (bb.mono T.out.size))
    clear hb hn bb BB
    go_simp
    (try rw [H.out.1])
    (try rw [H.out.2.1])
    refine hK.out _ _ (HS.out _ Tb.out) (fun hHeld => ?_)
    clear hK K
    have FC := Lib.hid (FC.out.below H.out.2.2.1 FC.out.lt)
    have FD := Lib.hid (FD.out.below H.out.2.2.1 FD.out.lt)
    have FB := Lib.hid H.out.2.2.2
    exact rg0BCD Q hQ w2 q x0 x1 x2 HS HEnd b Tb mB FB mC FC mD FD
set_option maxRecDepth 100000 in
set_option maxHeartbeats 4000000 in
theorem rg1A (Q : Exit → Act → World → Prop) (hQ : ∀ c d v (a : Act) (w : World), Q (.panic c) (a.put d v) w → Q (.panic c) a w) (w2 : World) (q : Nat) (x0 x1 x2 : Value) (HS : Hid (∀ W, Below w2.heap.size w2 W → (fun W : World => W.cell? ⟨q, 0, none⟩ = some (.int .u8 2) ∧ W.cell? ⟨q, 1, none⟩ = some (.string ⟨#[105, 110, 116]⟩) ∧ W.cell? ⟨q, 2, none⟩ = some (.int .i64 0) ∧ W.cell? ⟨q, 3, none⟩ = some (.slice none 0 0)) W)) (HEnd : Hid (RgEnd Q w2 q x0 x1 x2)) (W : World) (T : Hid (Below w2.heap.size w2 W)) (mA : Nat) (FA : Hid (Blk W mA 24 #[.int .u8 2, .string ⟨#[105, 110, 116]⟩, .int .i64 0, .slice none 0 0, .int .u8 2, .string ⟨#[105, 110, 116]⟩, .int .i64 0, .slice none 0 0])) : wpAnyH Tryd.prog .any rops Q (fun W : World => W.cell? ⟨q, 0, none⟩ = some (.int .u8 2) ∧ W.cell? ⟨q, 1, none⟩ = some (.string ⟨#[105, 110, 116]⟩) ∧ W.cell? ⟨q, 2, none⟩ = some (.int .i64 0) ∧ W.cell? ⟨q, 3, none⟩ = some (.slice none 0 0)) 11 #[true, true, true, true, true, true, false, true, false, false, false, false, true, true, false, false, true, false, false, true, false, false] { tmps := #[x0, x1, x2, undef, undef, undef, .bool false, .pointer (some ⟨q, 0, none⟩), undef, undef, undef, undef, undef, undef, undef, undef, .agg #[.int .u8 2, .string ⟨#[105, 110, 116]⟩, .int .i64 0, .slice none 0 0], .agg #[.int .u8 2, .string ⟨#[105, 110, 116]⟩, .int .i64 0, .slice none 0 0], .agg #[.int .u8 2, .string ⟨#[105, 110, 116]⟩, .int .i64 0, .slice none 0 0], .slice (some ⟨mA, 0, none⟩) 2 2, .agg #[.int .u8 3, .string ⟨#[]⟩, .int .i64 0, .slice (some ⟨mA, 0, none⟩) 2 2], .agg #[.int .u8 1, .string ⟨#[39, 98]⟩, .int .i64 0, .slice none 0 0], .agg #[.int .u8 2, .string ⟨#[101, 120, 110]⟩, .int .i64 0, .slice none 0 0], undef, .agg #[.int .u8 2, .string ⟨#[105, 110, 116]⟩, .int .i64 0, .slice none 0 0], undef, undef, undef, undef, .agg #[.int .u8 2, .string ⟨#[105, 110, 116]⟩, .int .i64 0, .slice none 0 0], .agg #[.int .u8 2, .string ⟨#[105, 110, 116]⟩, .int .i64 0, .slice none 0 0], undef, undef, .agg #[.int .u8 2, .string ⟨#[105, 110, 116]⟩, .int .i64 0, .slice none 0 0], undef, undef, .agg #[.int .u8 0, .string ⟨#[]⟩, .int .i64 0, .slice none 0 0], undef, undef, undef, undef, undef, undef, undef, undef, undef, undef, undef, undef, undef, undef, undef, undef, undef, undef, undef, undef, undef, undef, undef, undef, undef, undef, undef, undef, undef, undef, undef, undef, undef, undef, undef, undef, undef, undef, undef, undef, undef, undef, undef, undef, undef, undef, undef, undef, undef, undef, undef, undef, undef, undef, undef, undef, undef, undef, undef, undef, undef, undef, undef, undef, undef, undef, undef, undef, undef, undef, undef, undef], defers := [] } W := by
  have hHeld := HS.out W T.out
  refine wpAnyH_ready (rs := [6, 8, 14, 17]) (by kernel_rfl) (by simp) ?_
  refine AllReadyH.cons (o := { dst := some 23, op := Op.call { callee := Callee.value (Operand.func 10), args := #[Operand.const (Value.string { data := #[110, 111, 98, 111, 100, 121] }), Operand.const (Value.slice none 0 0)], argTypes := #[9, 22] }, type := 24, pos := "law.go:211", after := #[{ on := 5, ground := Ground.chain }], guard := none }) rfl (fun K hK => ?_) (AllReadyH.cons (o := { dst := some 25, op := Op.buildSlice 22 1 #[(0, Operand.tmp 24)], type := 22, pos := "law.go:211", after := #[{ on := 7, ground := Ground.data }], guard := none }) rfl (fun K hK => ?_) (AllReadyH.cons (o := { dst := some 31, op := Op.buildSlice 22 2 #[(0, Operand.tmp 29), (1, Operand.tmp 30)], type := 22, pos := "law.go:211", after := #[{ on := 12, ground := Ground.data }, { on := 13, ground := Ground.data }], guard := none }) rfl (fun K hK => ?_) (AllReadyH.cons (o := { dst := some 34, op := Op.buildSlice 22 1 #[(0, Operand.tmp 33)], type := 22, pos := "law.go:211", after := #[{ on := 16, ground := Ground.data }], guard := none }) rfl (fun K hK => ?_) AllReadyH.nil)))
  · have HT := Lib.hid (named_any ⟨#[110, 111, 98, 111, 100, 121]⟩ none 0 0 W)
    clear hHeld
    go_simp
    go_wp2_with (go_at_call 10; refine Calls.mono HT.out ?_; rintro e b ⟨rfl, bb⟩; have Hb := Lib.hid bb; have Tb : Hid (Below w2.heap.size w2 b) := Lib.hid (T.out.trans (bb.mono T.out.size)))
    refine hK.out _ _ (HS.out _ Tb.out) (fun hHeld => ?_)
    clear hK K HT
    have FA := Lib.hid (FA.out.below Hb.out FA.out.lt)
    exact rg2A Q hQ w2 q x0 x1 x2 HS HEnd b Tb mA FA
  · obtain ⟨b, hb⟩ : ∃ v, W.alloc (.cells #[.int .u8 2, .string ⟨#[105, 110, 116]⟩, .int .i64 0, .slice none 0 0] 24) = v := ⟨_, rfl⟩
    have bb : Below W.heap.size W b := by rw [← hb]; exact (Below.refl _ _).alloc (Nat.le_refl _) _
    have BB : Blk b W.heap.size 24 #[.int .u8 2, .string ⟨#[105, 110, 116]⟩, .int .i64 0, .slice none 0 0] := by rw [← hb]; exact Blk.new _ _ _
    obtain ⟨mB, hn⟩ : ∃ v, W.heap.size = v := ⟨_, rfl⟩
    rw [hn] at BB
    have H := Lib.hid (And.intro hb (And.intro hn (And.intro bb BB)))
    have Tb : Hid (Below w2.heap.size w2 b) := Lib.hid (T.out.trans (bb.mono T.out.size))
    clear hb hn bb BB
    go_simp
    (try rw [H.out.1])
    (try rw [H.out.2.1])
    refine hK.out _ _ (HS.out _ Tb.out) (fun hHeld => ?_)
    clear hK K
    have FA := Lib.hid (FA.out.below H.out.2.2.1 FA.out.lt)
    have FB := Lib.hid H.out.2.2.2
    exact rg1AB Q hQ w2 q x0 x1 x2 HS HEnd b Tb mA FA mB FB
  · obtain ⟨b, hb⟩ : ∃ v, W.alloc (.cells #[.int .u8 2, .string ⟨#[105, 110, 116]⟩, .int .i64 0, .slice none 0 0, .int .u8 2, .string ⟨#[105, 110, 116]⟩, .int .i64 0, .slice none 0 0] 24) = v := ⟨_, rfl⟩
    have bb : Below W.heap.size W b := by rw [← hb]; exact (Below.refl _ _).alloc (Nat.le_refl _) _
    have BB : Blk b W.heap.size 24 #[.int .u8 2, .string ⟨#[105, 110, 116]⟩, .int .i64 0, .slice none 0 0, .int .u8 2, .string ⟨#[105, 110, 116]⟩, .int .i64 0, .slice none 0 0] := by rw [← hb]; exact Blk.new _ _ _
    obtain ⟨mC, hn⟩ : ∃ v, W.heap.size = v := ⟨_, rfl⟩
    rw [hn] at BB
    have H := Lib.hid (And.intro hb (And.intro hn (And.intro bb BB)))
    have Tb : Hid (Below w2.heap.size w2 b) := Lib.hid (T.out.trans (bb.mono T.out.size))
    clear hb hn bb BB
    go_simp
    (try rw [H.out.1])
    (try rw [H.out.2.1])
    refine hK.out _ _ (HS.out _ Tb.out) (fun hHeld => ?_)
    clear hK K
    have FA := Lib.hid (FA.out.below H.out.2.2.1 FA.out.lt)
    have FC := Lib.hid H.out.2.2.2
    exact rg1AC Q hQ w2 q x0 x1 x2 HS HEnd b Tb mA FA mC FC
  · obtain ⟨b, hb⟩ : ∃ v, W.alloc (.cells #[.int .u8 2, .string ⟨#[105, 110, 116]⟩, .int .i64 0, .slice none 0 0] 24) = v := ⟨_, rfl⟩
    have bb : Below W.heap.size W b := by rw [← hb]; exact (Below.refl _ _).alloc (Nat.le_refl _) _
    have BB : Blk b W.heap.size 24 #[.int .u8 2, .string ⟨#[105, 110, 116]⟩, .int .i64 0, .slice none 0 0] := by rw [← hb]; exact Blk.new _ _ _
    obtain ⟨mD, hn⟩ : ∃ v, W.heap.size = v := ⟨_, rfl⟩
    rw [hn] at BB
    have H := Lib.hid (And.intro hb (And.intro hn (And.intro bb BB)))
    have Tb : Hid (Below w2.heap.size w2 b) := Lib.hid (T.out.trans (bb.mono T.out.size))
    clear hb hn bb BB
    go_simp
    (try rw [H.out.1])
    (try rw [H.out.2.1])
    refine hK.out _ _ (HS.out _ Tb.out) (fun hHeld => ?_)
    clear hK K
    have FA := Lib.hid (FA.out.below H.out.2.2.1 FA.out.lt)
    have FD := Lib.hid H.out.2.2.2
    refine takeY (oi := { dst := some 35, op := Op.build 24 #[(0, Operand.const (Value.int IntKind.u8 4)), (3, Operand.tmp 34)], type := 24, pos := "law.go:211", after := #[{ on := 17, ground := Ground.data }], guard := none }) 18 (some 35) rfl rfl (by kernel_rfl) (by kernel_rfl) (by kernel_rfl) (fun _ _ _ h => hQ _ _ _ _ _ h) (by rfl) (v := _) (by (intro _ hSw; (try dsimp only at hSw); go_simp; try with_reducible rfl)) hHeld ?_
    simp only [Act.put, List.setIfInBounds_toArray, List.set_cons_zero, List.set_cons_succ]
    exact rg1AD Q hQ w2 q x0 x1 x2 HS HEnd b Tb mA FA mD FD
set_option maxRecDepth 100000 in
set_option maxHeartbeats 4000000 in
theorem rg1B (Q : Exit → Act → World → Prop) (hQ : ∀ c d v (a : Act) (w : World), Q (.panic c) (a.put d v) w → Q (.panic c) a w) (w2 : World) (q : Nat) (x0 x1 x2 : Value) (HS : Hid (∀ W, Below w2.heap.size w2 W → (fun W : World => W.cell? ⟨q, 0, none⟩ = some (.int .u8 2) ∧ W.cell? ⟨q, 1, none⟩ = some (.string ⟨#[105, 110, 116]⟩) ∧ W.cell? ⟨q, 2, none⟩ = some (.int .i64 0) ∧ W.cell? ⟨q, 3, none⟩ = some (.slice none 0 0)) W)) (HEnd : Hid (RgEnd Q w2 q x0 x1 x2)) (W : World) (T : Hid (Below w2.heap.size w2 W)) (mB : Nat) (FB : Hid (Blk W mB 24 #[.int .u8 2, .string ⟨#[105, 110, 116]⟩, .int .i64 0, .slice none 0 0])) : wpAnyH Tryd.prog .any rops Q (fun W : World => W.cell? ⟨q, 0, none⟩ = some (.int .u8 2) ∧ W.cell? ⟨q, 1, none⟩ = some (.string ⟨#[105, 110, 116]⟩) ∧ W.cell? ⟨q, 2, none⟩ = some (.int .i64 0) ∧ W.cell? ⟨q, 3, none⟩ = some (.slice none 0 0)) 12 #[true, true, false, false, true, true, false, true, true, false, false, false, true, true, false, false, true, false, false, true, false, false] { tmps := #[x0, x1, x2, undef, undef, undef, .bool false, .pointer (some ⟨q, 0, none⟩), undef, undef, undef, undef, undef, undef, undef, undef, .agg #[.int .u8 2, .string ⟨#[105, 110, 116]⟩, .int .i64 0, .slice none 0 0], .agg #[.int .u8 2, .string ⟨#[105, 110, 116]⟩, .int .i64 0, .slice none 0 0], .agg #[.int .u8 2, .string ⟨#[105, 110, 116]⟩, .int .i64 0, .slice none 0 0], undef, undef, .agg #[.int .u8 1, .string ⟨#[39, 98]⟩, .int .i64 0, .slice none 0 0], .agg #[.int .u8 2, .string ⟨#[101, 120, 110]⟩, .int .i64 0, .slice none 0 0], undef, .agg #[.int .u8 2, .string ⟨#[105, 110, 116]⟩, .int .i64 0, .slice none 0 0], .slice (some ⟨mB, 0, none⟩) 1 1, undef, undef, undef, .agg #[.int .u8 2, .string ⟨#[105, 110, 116]⟩, .int .i64 0, .slice none 0 0], .agg #[.int .u8 2, .string ⟨#[105, 110, 116]⟩, .int .i64 0, .slice none 0 0], undef, undef, .agg #[.int .u8 2, .string ⟨#[105, 110, 116]⟩, .int .i64 0, .slice none 0 0], undef, undef, .agg #[.int .u8 0, .string ⟨#[]⟩, .int .i64 0, .slice none 0 0], undef, undef, undef, undef, undef, undef, undef, undef, undef, undef, undef, undef, undef, undef, undef, undef, undef, undef, undef, undef, undef, undef, undef, undef, undef, undef, undef, undef, undef, undef, undef, undef, undef, undef, undef, undef, undef, undef, undef, undef, undef, undef, undef, undef, undef, undef, undef, undef, undef, undef, undef, undef, undef, undef, undef, undef, undef, undef, undef, undef, undef, undef, undef, undef, undef, undef, undef, undef, undef, undef, undef, undef], defers := [] } W := by
  have hHeld := HS.out W T.out
  refine wpAnyH_ready (rs := [2, 6, 14, 17]) (by kernel_rfl) (by simp) ?_
  refine AllReadyH.cons (o := { dst := some 19, op := Op.buildSlice 22 2 #[(0, Operand.tmp 17), (1, Operand.tmp 18)], type := 22, pos := "law.go:211", after := #[{ on := 0, ground := Ground.data }, { on := 1, ground := Ground.data }], guard := none }) rfl (fun K hK => ?_) (AllReadyH.cons (o := { dst := some 23, op := Op.call { callee := Callee.value (Operand.func 10), args := #[Operand.const (Value.string { data := #[110, 111, 98, 111, 100, 121] }), Operand.const (Value.slice none 0 0)], argTypes := #[9, 22] }, type := 24, pos := "law.go:211", after := #[{ on := 5, ground := Ground.chain }], guard := none }) rfl (fun K hK => ?_) (AllReadyH.cons (o := { dst := some 31, op := Op.buildSlice 22 2 #[(0, Operand.tmp 29), (1, Operand.tmp 30)], type := 22, pos := "law.go:211", after := #[{ on := 12, ground := Ground.data }, { on := 13, ground := Ground.data }], guard := none }) rfl (fun K hK => ?_) (AllReadyH.cons (o := { dst := some 34, op := Op.buildSlice 22 1 #[(0, Operand.tmp 33)], type := 22, pos := "law.go:211", after := #[{ on := 16, ground := Ground.data }], guard := none }) rfl (fun K hK => ?_) AllReadyH.nil)))
  · obtain ⟨b, hb⟩ : ∃ v, W.alloc (.cells #[.int .u8 2, .string ⟨#[105, 110, 116]⟩, .int .i64 0, .slice none 0 0, .int .u8 2, .string ⟨#[105, 110, 116]⟩, .int .i64 0, .slice none 0 0] 24) = v := ⟨_, rfl⟩
    have bb : Below W.heap.size W b := by rw [← hb]; exact (Below.refl _ _).alloc (Nat.le_refl _) _
    have BB : Blk b W.heap.size 24 #[.int .u8 2, .string ⟨#[105, 110, 116]⟩, .int .i64 0, .slice none 0 0, .int .u8 2, .string ⟨#[105, 110, 116]⟩, .int .i64 0, .slice none 0 0] := by rw [← hb]; exact Blk.new _ _ _
    obtain ⟨mA, hn⟩ : ∃ v, W.heap.size = v := ⟨_, rfl⟩
    rw [hn] at BB
    have H := Lib.hid (And.intro hb (And.intro hn (And.intro bb BB)))
    have Tb : Hid (Below w2.heap.size w2 b) := Lib.hid (T.out.trans (bb.mono T.out.size))
    clear hb hn bb BB
    go_simp
    (try rw [H.out.1])
    (try rw [H.out.2.1])
    refine hK.out _ _ (HS.out _ Tb.out) (fun hHeld => ?_)
    clear hK K
    have FB := Lib.hid (FB.out.below H.out.2.2.1 FB.out.lt)
    have FA := Lib.hid H.out.2.2.2
    refine takeY (oi := { dst := some 20, op := Op.build 24 #[(0, Operand.const (Value.int IntKind.u8 3)), (3, Operand.tmp 19)], type := 24, pos := "law.go:211", after := #[{ on := 2, ground := Ground.data }], guard := none }) 3 (some 20) rfl rfl (by kernel_rfl) (by kernel_rfl) (by kernel_rfl) (fun _ _ _ h => hQ _ _ _ _ _ h) (by rfl) (v := _) (by (intro _ hSw; (try dsimp only at hSw); go_simp; try with_reducible rfl)) hHeld ?_
    simp only [Act.put, List.setIfInBounds_toArray, List.set_cons_zero, List.set_cons_succ]
    exact rg1AB Q hQ w2 q x0 x1 x2 HS HEnd b Tb mA FA mB FB
  · have HT := Lib.hid (named_any ⟨#[110, 111, 98, 111, 100, 121]⟩ none 0 0 W)
    clear hHeld
    go_simp
    go_wp2_with (go_at_call 10; refine Calls.mono HT.out ?_; rintro e b ⟨rfl, bb⟩; have Hb := Lib.hid bb; have Tb : Hid (Below w2.heap.size w2 b) := Lib.hid (T.out.trans (bb.mono T.out.size)))
    refine hK.out _ _ (HS.out _ Tb.out) (fun hHeld => ?_)
    clear hK K HT
    have FB := Lib.hid (FB.out.below Hb.out FB.out.lt)
    exact rg2B Q hQ w2 q x0 x1 x2 HS HEnd b Tb mB FB
  · obtain ⟨b, hb⟩ : ∃ v, W.alloc (.cells #[.int .u8 2, .string ⟨#[105, 110, 116]⟩, .int .i64 0, .slice none 0 0, .int .u8 2, .string ⟨#[105, 110, 116]⟩, .int .i64 0, .slice none 0 0] 24) = v := ⟨_, rfl⟩
    have bb : Below W.heap.size W b := by rw [← hb]; exact (Below.refl _ _).alloc (Nat.le_refl _) _
    have BB : Blk b W.heap.size 24 #[.int .u8 2, .string ⟨#[105, 110, 116]⟩, .int .i64 0, .slice none 0 0, .int .u8 2, .string ⟨#[105, 110, 116]⟩, .int .i64 0, .slice none 0 0] := by rw [← hb]; exact Blk.new _ _ _
    obtain ⟨mC, hn⟩ : ∃ v, W.heap.size = v := ⟨_, rfl⟩
    rw [hn] at BB
    have H := Lib.hid (And.intro hb (And.intro hn (And.intro bb BB)))
    have Tb : Hid (Below w2.heap.size w2 b) := Lib.hid (T.out.trans (bb.mono T.out.size))
    clear hb hn bb BB
    go_simp
    (try rw [H.out.1])
    (try rw [H.out.2.1])
    refine hK.out _ _ (HS.out _ Tb.out) (fun hHeld => ?_)
    clear hK K
    have FB := Lib.hid (FB.out.below H.out.2.2.1 FB.out.lt)
    have FC := Lib.hid H.out.2.2.2
    exact rg1BC Q hQ w2 q x0 x1 x2 HS HEnd b Tb mB FB mC FC
  · obtain ⟨b, hb⟩ : ∃ v, W.alloc (.cells #[.int .u8 2, .string ⟨#[105, 110, 116]⟩, .int .i64 0, .slice none 0 0] 24) = v := ⟨_, rfl⟩
    have bb : Below W.heap.size W b := by rw [← hb]; exact (Below.refl _ _).alloc (Nat.le_refl _) _
    have BB : Blk b W.heap.size 24 #[.int .u8 2, .string ⟨#[105, 110, 116]⟩, .int .i64 0, .slice none 0 0] := by rw [← hb]; exact Blk.new _ _ _
    obtain ⟨mD, hn⟩ : ∃ v, W.heap.size = v := ⟨_, rfl⟩
    rw [hn] at BB
    have H := Lib.hid (And.intro hb (And.intro hn (And.intro bb BB)))
    have Tb : Hid (Below w2.heap.size w2 b) := Lib.hid (T.out.trans (bb.mono T.out.size))
    clear hb hn bb BB
    go_simp
    (try rw [H.out.1])
    (try rw [H.out.2.1])
    refine hK.out _ _ (HS.out _ Tb.out) (fun hHeld => ?_)
    clear hK K
    have FB := Lib.hid (FB.out.below H.out.2.2.1 FB.out.lt)
    have FD := Lib.hid H.out.2.2.2
    refine takeY (oi := { dst := some 35, op := Op.build 24 #[(0, Operand.const (Value.int IntKind.u8 4)), (3, Operand.tmp 34)], type := 24, pos := "law.go:211", after := #[{ on := 17, ground := Ground.data }], guard := none }) 18 (some 35) rfl rfl (by kernel_rfl) (by kernel_rfl) (by kernel_rfl) (fun _ _ _ h => hQ _ _ _ _ _ h) (by rfl) (v := _) (by (intro _ hSw; (try dsimp only at hSw); go_simp; try with_reducible rfl)) hHeld ?_
    simp only [Act.put, List.setIfInBounds_toArray, List.set_cons_zero, List.set_cons_succ]
    exact rg1BD Q hQ w2 q x0 x1 x2 HS HEnd b Tb mB FB mD FD
set_option maxRecDepth 100000 in
set_option maxHeartbeats 4000000 in
theorem rg1C (Q : Exit → Act → World → Prop) (hQ : ∀ c d v (a : Act) (w : World), Q (.panic c) (a.put d v) w → Q (.panic c) a w) (w2 : World) (q : Nat) (x0 x1 x2 : Value) (HS : Hid (∀ W, Below w2.heap.size w2 W → (fun W : World => W.cell? ⟨q, 0, none⟩ = some (.int .u8 2) ∧ W.cell? ⟨q, 1, none⟩ = some (.string ⟨#[105, 110, 116]⟩) ∧ W.cell? ⟨q, 2, none⟩ = some (.int .i64 0) ∧ W.cell? ⟨q, 3, none⟩ = some (.slice none 0 0)) W)) (HEnd : Hid (RgEnd Q w2 q x0 x1 x2)) (W : World) (T : Hid (Below w2.heap.size w2 W)) (mC : Nat) (FC : Hid (Blk W mC 24 #[.int .u8 2, .string ⟨#[105, 110, 116]⟩, .int .i64 0, .slice none 0 0, .int .u8 2, .string ⟨#[105, 110, 116]⟩, .int .i64 0, .slice none 0 0])) : wpAnyH Tryd.prog .any rops Q (fun W : World => W.cell? ⟨q, 0, none⟩ = some (.int .u8 2) ∧ W.cell? ⟨q, 1, none⟩ = some (.string ⟨#[105, 110, 116]⟩) ∧ W.cell? ⟨q, 2, none⟩ = some (.int .i64 0) ∧ W.cell? ⟨q, 3, none⟩ = some (.slice none 0 0)) 12 #[true, true, false, false, true, true, false, true, false, false, false, false, true, true, true, false, true, false, false, true, false, false] { tmps := #[x0, x1, x2, undef, undef, undef, .bool false, .pointer (some ⟨q, 0, none⟩), undef, undef, undef, undef, undef, undef, undef, undef, .agg #[.int .u8 2, .string ⟨#[105, 110, 116]⟩, .int .i64 0, .slice none 0 0], .agg #[.int .u8 2, .string ⟨#[105, 110, 116]⟩, .int .i64 0, .slice none 0 0], .agg #[.int .u8 2, .string ⟨#[105, 110, 116]⟩, .int .i64 0, .slice none 0 0], undef, undef, .agg #[.int .u8 1, .string ⟨#[39, 98]⟩, .int .i64 0, .slice none 0 0], .agg #[.int .u8 2, .string ⟨#[101, 120, 110]⟩, .int .i64 0, .slice none 0 0], undef, .agg #[.int .u8 2, .string ⟨#[105, 110, 116]⟩, .int .i64 0, .slice none 0 0], undef, undef, undef, undef, .agg #[.int .u8 2, .string ⟨#[105, 110, 116]⟩, .int .i64 0, .slice none 0 0], .agg #[.int .u8 2, .string ⟨#[105, 110, 116]⟩, .int .i64 0, .slice none 0 0], .slice (some ⟨mC, 0, none⟩) 2 2, undef, .agg #[.int .u8 2, .string ⟨#[105, 110, 116]⟩, .int .i64 0, .slice none 0 0], undef, undef, .agg #[.int .u8 0, .string ⟨#[]⟩, .int .i64 0, .slice none 0 0], undef, undef, undef, undef, undef, undef, undef, undef, undef, undef, undef, undef, undef, undef, undef, undef, undef, undef, undef, undef, undef, undef, undef, undef, undef, undef, undef, undef, undef, undef, undef, undef, undef, undef, undef, undef, undef, undef, undef, undef, undef, undef, undef, undef, undef, undef, undef, undef, undef, undef, undef, undef, undef, undef, undef, undef, undef, undef, undef, undef, undef, undef, undef, undef, undef, undef, undef, undef, undef, undef, undef, undef], defers := [] } W := by
  have hHeld := HS.out W T.out
  refine wpAnyH_ready (rs := [2, 6, 8, 17]) (by kernel_rfl) (by simp) ?_
  refine AllReadyH.cons (o := { dst := some 19, op := Op.buildSlice 22 2 #[(0, Operand.tmp 17), (1, Operand.tmp 18)], type := 22, pos := "law.go:211", after := #[{ on := 0, ground := Ground.data }, { on := 1, ground := Ground.data }], guard := none }) rfl (fun K hK => ?_) (AllReadyH.cons (o := { dst := some 23, op := Op.call { callee := Callee.value (Operand.func 10), args := #[Operand.const (Value.string { data := #[110, 111, 98, 111, 100, 121] }), Operand.const (Value.slice none 0 0)], argTypes := #[9, 22] }, type := 24, pos := "law.go:211", after := #[{ on := 5, ground := Ground.chain }], guard := none }) rfl (fun K hK => ?_) (AllReadyH.cons (o := { dst := some 25, op := Op.buildSlice 22 1 #[(0, Operand.tmp 24)], type := 22, pos := "law.go:211", after := #[{ on := 7, ground := Ground.data }], guard := none }) rfl (fun K hK => ?_) (AllReadyH.cons (o := { dst := some 34, op := Op.buildSlice 22 1 #[(0, Operand.tmp 33)], type := 22, pos := "law.go:211", after := #[{ on := 16, ground := Ground.data }], guard := none }) rfl (fun K hK => ?_) AllReadyH.nil)))
  · obtain ⟨b, hb⟩ : ∃ v, W.alloc (.cells #[.int .u8 2, .string ⟨#[105, 110, 116]⟩, .int .i64 0, .slice none 0 0, .int .u8 2, .string ⟨#[105, 110, 116]⟩, .int .i64 0, .slice none 0 0] 24) = v := ⟨_, rfl⟩
    have bb : Below W.heap.size W b := by rw [← hb]; exact (Below.refl _ _).alloc (Nat.le_refl _) _
    have BB : Blk b W.heap.size 24 #[.int .u8 2, .string ⟨#[105, 110, 116]⟩, .int .i64 0, .slice none 0 0, .int .u8 2, .string ⟨#[105, 110, 116]⟩, .int .i64 0, .slice none 0 0] := by rw [← hb]; exact Blk.new _ _ _
    obtain ⟨mA, hn⟩ : ∃ v, W.heap.size = v := ⟨_, rfl⟩
    rw [hn] at BB
    have H := Lib.hid (And.intro hb (And.intro hn (And.intro bb BB)))
    have Tb : Hid (Below w2.heap.size w2 b) := Lib.hid (T.out.trans (bb.mono T.out.size))
    clear hb hn bb BB
    go_simp
    (try rw [H.out.1])
    (try rw [H.out.2.1])
    refine hK.out _ _ (HS.out _ Tb.out) (fun hHeld => ?_)
    clear hK K
    have FC := Lib.hid (FC.out.below H.out.2.2.1 FC.out.lt)
    have FA := Lib.hid H.out.2.2.2
    refine takeY (oi := { dst := some 20, op := Op.build 24 #[(0, Operand.const (Value.int IntKind.u8 3)), (3, Operand.tmp 19)], type := 24, pos := "law.go:211", after := #[{ on := 2, ground := Ground.data }], guard := none }) 3 (some 20) rfl rfl (by kernel_rfl) (by kernel_rfl) (by kernel_rfl) (fun _ _ _ h => hQ _ _ _ _ _ h) (by rfl) (v := _) (by (intro _ hSw; (try dsimp only at hSw); go_simp; try with_reducible rfl)) hHeld ?_
    simp only [Act.put, List.setIfInBounds_toArray, List.set_cons_zero, List.set_cons_succ]
    exact rg1AC Q hQ w2 q x0 x1 x2 HS HEnd b Tb mA FA mC FC
  · have HT := Lib.hid (named_any ⟨#[110, 111, 98, 111, 100, 121]⟩ none 0 0 W)
    clear hHeld
    go_simp
    go_wp2_with (go_at_call 10; refine Calls.mono HT.out ?_; rintro e b ⟨rfl, bb⟩; have Hb := Lib.hid bb; have Tb : Hid (Below w2.heap.size w2 b) := Lib.hid (T.out.trans (bb.mono T.out.size)))
    refine hK.out _ _ (HS.out _ Tb.out) (fun hHeld => ?_)
    clear hK K HT
    have FC := Lib.hid (FC.out.below Hb.out FC.out.lt)
    exact rg2C Q hQ w2 q x0 x1 x2 HS HEnd b Tb mC FC
  · obtain ⟨b, hb⟩ : ∃ v, W.alloc (.cells #[.int .u8 2, .string ⟨#[105, 110, 116]⟩, .int .i64 0, .slice none 0 0] 24) = v := ⟨_, rfl⟩
    have bb : Below W.heap.size W b := by rw [← hb]; exact (Below.refl _ _).alloc (Nat.le_refl _) _
    have BB : Blk b W.heap.size 24 #[.int .u8 2, .string ⟨#[105, 110, 116]⟩, .int .i64 0, .slice none 0 0] := by rw [← hb]; exact Blk.new _ _ _
    obtain ⟨mB, hn⟩ : ∃ v, W.heap.size = v := ⟨_, rfl⟩
    rw [hn] at BB
    have H := Lib.hid (And.intro hb (And.intro hn (And.intro bb BB)))
    have Tb : Hid (Below w2.heap.size w2 b) := Lib.hid (T.out.trans (bb.mono T.out.size))
    clear hb hn bb BB
    go_simp
    (try rw [H.out.1])
    (try rw [H.out.2.1])
    refine hK.out _ _ (HS.out _ Tb.out) (fun hHeld => ?_)
    clear hK K
    have FC := Lib.hid (FC.out.below H.out.2.2.1 FC.out.lt)
    have FB := Lib.hid H.out.2.2.2
    exact rg1BC Q hQ w2 q x0 x1 x2 HS HEnd b Tb mB FB mC FC
  · obtain ⟨b, hb⟩ : ∃ v, W.alloc (.cells #[.int .u8 2, .string ⟨#[105, 110, 116]⟩, .int .i64 0, .slice none 0 0] 24) = v := ⟨_, rfl⟩
    have bb : Below W.heap.size W b := by rw [← hb]; exact (Below.refl _ _).alloc (Nat.le_refl _) _
    have BB : Blk b W.heap.size 24 #[.int .u8 2, .string ⟨#[105, 110, 116]⟩, .int .i64 0, .slice none 0 0] := by rw [← hb]; exact Blk.new _ _ _
    obtain ⟨mD, hn⟩ : ∃ v, W.heap.size = v := ⟨_, rfl⟩
    rw [hn] at BB
    have H := Lib.hid (And.intro hb (And.intro hn (And.intro bb BB)))
    have Tb : Hid (Below w2.heap.size w2 b) := Lib.hid (T.out.trans (bb.mono T.out.size))
    clear hb hn bb BB
    go_simp
    (try rw [H.out.1])
    (try rw [H.out.2.1])
    refine hK.out _ _ (HS.out _ Tb.out) (fun hHeld => ?_)
    clear hK K
    have FC := Lib.hid (FC.out.below H.out.2.2.1 FC.out.lt)
    have FD := Lib.hid H.out.2.2.2
    refine takeY (oi := { dst := some 35, op := Op.build 24 #[(0, Operand.const (Value.int IntKind.u8 4)), (3, Operand.tmp 34)], type := 24, pos := "law.go:211", after := #[{ on := 17, ground := Ground.data }], guard := none }) 18 (some 35) rfl rfl (by kernel_rfl) (by kernel_rfl) (by kernel_rfl) (fun _ _ _ h => hQ _ _ _ _ _ h) (by rfl) (v := _) (by (intro _ hSw; (try dsimp only at hSw); go_simp; try with_reducible rfl)) hHeld ?_
    simp only [Act.put, List.setIfInBounds_toArray, List.set_cons_zero, List.set_cons_succ]
    exact rg1CD Q hQ w2 q x0 x1 x2 HS HEnd b Tb mC FC mD FD
set_option maxRecDepth 100000 in
set_option maxHeartbeats 4000000 in
theorem rg1D (Q : Exit → Act → World → Prop) (hQ : ∀ c d v (a : Act) (w : World), Q (.panic c) (a.put d v) w → Q (.panic c) a w) (w2 : World) (q : Nat) (x0 x1 x2 : Value) (HS : Hid (∀ W, Below w2.heap.size w2 W → (fun W : World => W.cell? ⟨q, 0, none⟩ = some (.int .u8 2) ∧ W.cell? ⟨q, 1, none⟩ = some (.string ⟨#[105, 110, 116]⟩) ∧ W.cell? ⟨q, 2, none⟩ = some (.int .i64 0) ∧ W.cell? ⟨q, 3, none⟩ = some (.slice none 0 0)) W)) (HEnd : Hid (RgEnd Q w2 q x0 x1 x2)) (W : World) (T : Hid (Below w2.heap.size w2 W)) (mD : Nat) (FD : Hid (Blk W mD 24 #[.int .u8 2, .string ⟨#[105, 110, 116]⟩, .int .i64 0, .slice none 0 0])) : wpAnyH Tryd.prog .any rops Q (fun W : World => W.cell? ⟨q, 0, none⟩ = some (.int .u8 2) ∧ W.cell? ⟨q, 1, none⟩ = some (.string ⟨#[105, 110, 116]⟩) ∧ W.cell? ⟨q, 2, none⟩ = some (.int .i64 0) ∧ W.cell? ⟨q, 3, none⟩ = some (.slice none 0 0)) 11 #[true, true, false, false, true, true, false, true, false, false, false, false, true, true, false, false, true, true, true, true, false, false] { tmps := #[x0, x1, x2, undef, undef, undef, .bool false, .pointer (some ⟨q, 0, none⟩), undef, undef, undef, undef, undef, undef, undef, undef, .agg #[.int .u8 2, .string ⟨#[105, 110, 116]⟩, .int .i64 0, .slice none 0 0], .agg #[.int .u8 2, .string ⟨#[105, 110, 116]⟩, .int .i64 0, .slice none 0 0], .agg #[.int .u8 2, .string ⟨#[105, 110, 116]⟩, .int .i64 0, .slice none 0 0], undef, undef, .agg #[.int .u8 1, .string ⟨#[39, 98]⟩, .int .i64 0, .slice none 0 0], .agg #[.int .u8 2, .string ⟨#[101, 120, 110]⟩, .int .i64 0, .slice none 0 0], undef, .agg #[.int .u8 2, .string ⟨#[105, 110, 116]⟩, .int .i64 0, .slice none 0 0], undef, undef, undef, undef, .agg #[.int .u8 2, .string ⟨#[105, 110, 116]⟩, .int .i64 0, .slice none 0 0], .agg #[.int .u8 2, .string ⟨#[105, 110, 116]⟩, .int .i64 0, .slice none 0 0], undef, undef, .agg #[.int .u8 2, .string ⟨#[105, 110, 116]⟩, .int .i64 0, .slice none 0 0], .slice (some ⟨mD, 0, none⟩) 1 1, .agg #[.int .u8 4, .string ⟨#[]⟩, .int .i64 0, .slice (some ⟨mD, 0, none⟩) 1 1], .agg #[.int .u8 0, .string ⟨#[]⟩, .int .i64 0, .slice none 0 0], undef, undef, undef, undef, undef, undef, undef, undef, undef, undef, undef, undef, undef, undef, undef, undef, undef, undef, undef, undef, undef, undef, undef, undef, undef, undef, undef, undef, undef, undef, undef, undef, undef, undef, undef, undef, undef, undef, undef, undef, undef, undef, undef, undef, undef, undef, undef, undef, undef, undef, undef, undef, undef, undef, undef, undef, undef, undef, undef, undef, undef, undef, undef, undef, undef, undef, undef, undef, undef, undef, undef, undef], defers := [] } W := by
  have hHeld := HS.out W T.out
  refine wpAnyH_ready (rs := [2, 6, 8, 14]) (by kernel_rfl) (by simp) ?_
  refine AllReadyH.cons (o := { dst := some 19, op := Op.buildSlice 22 2 #[(0, Operand.tmp 17), (1, Operand.tmp 18)], type := 22, pos := "law.go:211", after := #[{ on := 0, ground := Ground.data }, { on := 1, ground := Ground.data }], guard := none }) rfl (fun K hK => ?_) (AllReadyH.cons (o := { dst := some 23, op := Op.call { callee := Callee.value (Operand.func 10), args := #[Operand.const (Value.string { data := #[110, 111, 98, 111, 100, 121] }), Operand.const (Value.slice none 0 0)], argTypes := #[9, 22] }, type := 24, pos := "law.go:211", after := #[{ on := 5, ground := Ground.chain }], guard := none }) rfl (fun K hK => ?_) (AllReadyH.cons (o := { dst := some 25, op := Op.buildSlice 22 1 #[(0, Operand.tmp 24)], type := 22, pos := "law.go:211", after := #[{ on := 7, ground := Ground.data }], guard := none }) rfl (fun K hK => ?_) (AllReadyH.cons (o := { dst := some 31, op := Op.buildSlice 22 2 #[(0, Operand.tmp 29), (1, Operand.tmp 30)], type := 22, pos := "law.go:211", after := #[{ on := 12, ground := Ground.data }, { on := 13, ground := Ground.data }], guard := none }) rfl (fun K hK => ?_) AllReadyH.nil)))
  · obtain ⟨b, hb⟩ : ∃ v, W.alloc (.cells #[.int .u8 2, .string ⟨#[105, 110, 116]⟩, .int .i64 0, .slice none 0 0, .int .u8 2, .string ⟨#[105, 110, 116]⟩, .int .i64 0, .slice none 0 0] 24) = v := ⟨_, rfl⟩
    have bb : Below W.heap.size W b := by rw [← hb]; exact (Below.refl _ _).alloc (Nat.le_refl _) _
    have BB : Blk b W.heap.size 24 #[.int .u8 2, .string ⟨#[105, 110, 116]⟩, .int .i64 0, .slice none 0 0, .int .u8 2, .string ⟨#[105, 110, 116]⟩, .int .i64 0, .slice none 0 0] := by rw [← hb]; exact Blk.new _ _ _
    obtain ⟨mA, hn⟩ : ∃ v, W.heap.size = v := ⟨_, rfl⟩
    rw [hn] at BB
    have H := Lib.hid (And.intro hb (And.intro hn (And.intro bb BB)))
    have Tb : Hid (Below w2.heap.size w2 b) := Lib.hid (T.out.trans (bb.mono T.out.size))
    clear hb hn bb BB
    go_simp
    (try rw [H.out.1])
    (try rw [H.out.2.1])
    refine hK.out _ _ (HS.out _ Tb.out) (fun hHeld => ?_)
    clear hK K
    have FD := Lib.hid (FD.out.below H.out.2.2.1 FD.out.lt)
    have FA := Lib.hid H.out.2.2.2
    refine takeY (oi := { dst := some 20, op := Op.build 24 #[(0, Operand.const (Value.int IntKind.u8 3)), (3, Operand.tmp 19)], type := 24, pos := "law.go:211", after := #[{ on := 2, ground := Ground.data }], guard := none }) 3 (some 20) rfl rfl (by kernel_rfl) (by kernel_rfl) (by kernel_rfl) (fun _ _ _ h => hQ _ _ _ _ _ h) (by rfl) (v := _) (by (intro _ hSw; (try dsimp only at hSw); go_simp; try with_reducible rfl)) hHeld ?_
    simp only [Act.put, List.setIfInBounds_toArray, List.set_cons_zero, List.set_cons_succ]
    exact rg1AD Q hQ w2 q x0 x1 x2 HS HEnd b Tb mA FA mD FD
  · have HT := Lib.hid (named_any ⟨#[110, 111, 98, 111, 100, 121]⟩ none 0 0 W)
    clear hHeld
    go_simp
    go_wp2_with (go_at_call 10; refine Calls.mono HT.out ?_; rintro e b ⟨rfl, bb⟩; have Hb := Lib.hid bb; have Tb : Hid (Below w2.heap.size w2 b) := Lib.hid (T.out.trans (bb.mono T.out.size)))
    refine hK.out _ _ (HS.out _ Tb.out) (fun hHeld => ?_)
    clear hK K HT
    have FD := Lib.hid (FD.out.below Hb.out FD.out.lt)
    exact rg2D Q hQ w2 q x0 x1 x2 HS HEnd b Tb mD FD
  · obtain ⟨b, hb⟩ : ∃ v, W.alloc (.cells #[.int .u8 2, .string ⟨#[105, 110, 116]⟩, .int .i64 0, .slice none 0 0] 24) = v := ⟨_, rfl⟩
    have bb : Below W.heap.size W b := by rw [← hb]; exact (Below.refl _ _).alloc (Nat.le_refl _) _
    have BB : Blk b W.heap.size 24 #[.int .u8 2, .string ⟨#[105, 110, 116]⟩, .int .i64 0, .slice none 0 0] := by rw [← hb]; exact Blk.new _ _ _
    obtain ⟨mB, hn⟩ : ∃ v, W.heap.size = v := ⟨_, rfl⟩
    rw [hn] at BB
    have H := Lib.hid (And.intro hb (And.intro hn (And.intro bb BB)))
    have Tb : Hid (Below w2.heap.size w2 b) := Lib.hid (T.out.trans (bb.mono T.out.size))
    clear hb hn bb BB
    go_simp
    (try rw [H.out.1])
    (try rw [H.out.2.1])
    refine hK.out _ _ (HS.out _ Tb.out) (fun hHeld => ?_)
    clear hK K
    have FD := Lib.hid (FD.out.below H.out.2.2.1 FD.out.lt)
    have FB := Lib.hid H.out.2.2.2
    exact rg1BD Q hQ w2 q x0 x1 x2 HS HEnd b Tb mB FB mD FD
  · obtain ⟨b, hb⟩ : ∃ v, W.alloc (.cells #[.int .u8 2, .string ⟨#[105, 110, 116]⟩, .int .i64 0, .slice none 0 0, .int .u8 2, .string ⟨#[105, 110, 116]⟩, .int .i64 0, .slice none 0 0] 24) = v := ⟨_, rfl⟩
    have bb : Below W.heap.size W b := by rw [← hb]; exact (Below.refl _ _).alloc (Nat.le_refl _) _
    have BB : Blk b W.heap.size 24 #[.int .u8 2, .string ⟨#[105, 110, 116]⟩, .int .i64 0, .slice none 0 0, .int .u8 2, .string ⟨#[105, 110, 116]⟩, .int .i64 0, .slice none 0 0] := by rw [← hb]; exact Blk.new _ _ _
    obtain ⟨mC, hn⟩ : ∃ v, W.heap.size = v := ⟨_, rfl⟩
    rw [hn] at BB
    have H := Lib.hid (And.intro hb (And.intro hn (And.intro bb BB)))
    have Tb : Hid (Below w2.heap.size w2 b) := Lib.hid (T.out.trans (bb.mono T.out.size))
    clear hb hn bb BB
    go_simp
    (try rw [H.out.1])
    (try rw [H.out.2.1])
    refine hK.out _ _ (HS.out _ Tb.out) (fun hHeld => ?_)
    clear hK K
    have FD := Lib.hid (FD.out.below H.out.2.2.1 FD.out.lt)
    have FC := Lib.hid H.out.2.2.2
    exact rg1CD Q hQ w2 q x0 x1 x2 HS HEnd b Tb mC FC mD FD
set_option maxRecDepth 100000 in
set_option maxHeartbeats 4000000 in
theorem rg2 (Q : Exit → Act → World → Prop) (hQ : ∀ c d v (a : Act) (w : World), Q (.panic c) (a.put d v) w → Q (.panic c) a w) (w2 : World) (q : Nat) (x0 x1 x2 : Value) (HS : Hid (∀ W, Below w2.heap.size w2 W → (fun W : World => W.cell? ⟨q, 0, none⟩ = some (.int .u8 2) ∧ W.cell? ⟨q, 1, none⟩ = some (.string ⟨#[105, 110, 116]⟩) ∧ W.cell? ⟨q, 2, none⟩ = some (.int .i64 0) ∧ W.cell? ⟨q, 3, none⟩ = some (.slice none 0 0)) W)) (HEnd : Hid (RgEnd Q w2 q x0 x1 x2)) (W : World) (T : Hid (Below w2.heap.size w2 W))  : wpAnyH Tryd.prog .any rops Q (fun W : World => W.cell? ⟨q, 0, none⟩ = some (.int .u8 2) ∧ W.cell? ⟨q, 1, none⟩ = some (.string ⟨#[105, 110, 116]⟩) ∧ W.cell? ⟨q, 2, none⟩ = some (.int .i64 0) ∧ W.cell? ⟨q, 3, none⟩ = some (.slice none 0 0)) 12 #[true, true, false, false, true, true, true, true, false, false, false, false, true, true, false, false, true, false, false, true, false, false] { tmps := #[x0, x1, x2, undef, undef, undef, .bool false, .pointer (some ⟨q, 0, none⟩), undef, undef, undef, undef, undef, undef, undef, undef, .agg #[.int .u8 2, .string ⟨#[105, 110, 116]⟩, .int .i64 0, .slice none 0 0], .agg #[.int .u8 2, .string ⟨#[105, 110, 116]⟩, .int .i64 0, .slice none 0 0], .agg #[.int .u8 2, .string ⟨#[105, 110, 116]⟩, .int .i64 0, .slice none 0 0], undef, undef, .agg #[.int .u8 1, .string ⟨#[39, 98]⟩, .int .i64 0, .slice none 0 0], .agg #[.int .u8 2, .string ⟨#[101, 120, 110]⟩, .int .i64 0, .slice none 0 0], .agg #[.int .u8 2, .string ⟨#[110, 111, 98, 111, 100, 121]⟩, .int .i64 0, .slice none 0 0], .agg #[.int .u8 2, .string ⟨#[105, 110, 116]⟩, .int .i64 0, .slice none 0 0], undef, undef, undef, undef, .agg #[.int .u8 2, .string ⟨#[105, 110, 116]⟩, .int .i64 0, .slice none 0 0], .agg #[.int .u8 2, .string ⟨#[105, 110, 116]⟩, .int .i64 0, .slice none 0 0], undef, undef, .agg #[.int .u8 2, .string ⟨#[105, 110, 116]⟩, .int .i64 0, .slice none 0 0], undef, undef, .agg #[.int .u8 0, .string ⟨#[]⟩, .int .i64 0, .slice none 0 0], undef, undef, undef, undef, undef, undef, undef, undef, undef, undef, undef, undef, undef, undef, undef, undef, undef, undef, undef, undef, undef, undef, undef, undef, undef, undef, undef, undef, undef, undef, undef, undef, undef, undef, undef, undef, undef, undef, undef, undef, undef, undef, undef, undef, undef, undef, undef, undef, undef, undef, undef, undef, undef, undef, undef, undef, undef, undef, undef, undef, undef, undef, undef, undef, undef, undef, undef, undef, undef, undef, undef, undef], defers := [] } W := by
  have hHeld := HS.out W T.out
  refine wpAnyH_ready (rs := [2, 8, 14, 17]) (by kernel_rfl) (by simp) ?_
  refine AllReadyH.cons (o := { dst := some 19, op := Op.buildSlice 22 2 #[(0, Operand.tmp 17), (1, Operand.tmp 18)], type := 22, pos := "law.go:211", after := #[{ on := 0, ground := Ground.data }, { on := 1, ground := Ground.data }], guard := none }) rfl (fun K hK => ?_) (AllReadyH.cons (o := { dst := some 25, op := Op.buildSlice 22 1 #[(0, Operand.tmp 24)], type := 22, pos := "law.go:211", after := #[{ on := 7, ground := Ground.data }], guard := none }) rfl (fun K hK => ?_) (AllReadyH.cons (o := { dst := some 31, op := Op.buildSlice 22 2 #[(0, Operand.tmp 29), (1, Operand.tmp 30)], type := 22, pos := "law.go:211", after := #[{ on := 12, ground := Ground.data }, { on := 13, ground := Ground.data }], guard := none }) rfl (fun K hK => ?_) (AllReadyH.cons (o := { dst := some 34, op := Op.buildSlice 22 1 #[(0, Operand.tmp 33)], type := 22, pos := "law.go:211", after := #[{ on := 16, ground := Ground.data }], guard := none }) rfl (fun K hK => ?_) AllReadyH.nil)))
  · obtain ⟨b, hb⟩ : ∃ v, W.alloc (.cells #[.int .u8 2, .string ⟨#[105, 110, 116]⟩, .int .i64 0, .slice none 0 0, .int .u8 2, .string ⟨#[105, 110, 116]⟩, .int .i64 0, .slice none 0 0] 24) = v := ⟨_, rfl⟩
    have bb : Below W.heap.size W b := by rw [← hb]; exact (Below.refl _ _).alloc (Nat.le_refl _) _
    have BB : Blk b W.heap.size 24 #[.int .u8 2, .string ⟨#[105, 110, 116]⟩, .int .i64 0, .slice none 0 0, .int .u8 2, .string ⟨#[105, 110, 116]⟩, .int .i64 0, .slice none 0 0] := by rw [← hb]; exact Blk.new _ _ _
    obtain ⟨mA, hn⟩ : ∃ v, W.heap.size = v := ⟨_, rfl⟩
    rw [hn] at BB
    have H := Lib.hid (And.intro hb (And.intro hn (And.intro bb BB)))
    have Tb : Hid (Below w2.heap.size w2 b) := Lib.hid (T.out.trans (bb.mono T.out.size))
    clear hb hn bb BB
    go_simp
    (try rw [H.out.1])
    (try rw [H.out.2.1])
    refine hK.out _ _ (HS.out _ Tb.out) (fun hHeld => ?_)
    clear hK K
    have FA := Lib.hid H.out.2.2.2
    refine takeY (oi := { dst := some 20, op := Op.build 24 #[(0, Operand.const (Value.int IntKind.u8 3)), (3, Operand.tmp 19)], type := 24, pos := "law.go:211", after := #[{ on := 2, ground := Ground.data }], guard := none }) 3 (some 20) rfl rfl (by kernel_rfl) (by kernel_rfl) (by kernel_rfl) (fun _ _ _ h => hQ _ _ _ _ _ h) (by rfl) (v := _) (by (intro _ hSw; (try dsimp only at hSw); go_simp; try with_reducible rfl)) hHeld ?_
    simp only [Act.put, List.setIfInBounds_toArray, List.set_cons_zero, List.set_cons_succ]
    exact rg2A Q hQ w2 q x0 x1 x2 HS HEnd b Tb mA FA
  · obtain ⟨b, hb⟩ : ∃ v, W.alloc (.cells #[.int .u8 2, .string ⟨#[105, 110, 116]⟩, .int .i64 0, .slice none 0 0] 24) = v := ⟨_, rfl⟩
    have bb : Below W.heap.size W b := by rw [← hb]; exact (Below.refl _ _).alloc (Nat.le_refl _) _
    have BB : Blk b W.heap.size 24 #[.int .u8 2, .string ⟨#[105, 110, 116]⟩, .int .i64 0, .slice none 0 0] := by rw [← hb]; exact Blk.new _ _ _
    obtain ⟨mB, hn⟩ : ∃ v, W.heap.size = v := ⟨_, rfl⟩
    rw [hn] at BB
    have H := Lib.hid (And.intro hb (And.intro hn (And.intro bb BB)))
    have Tb : Hid (Below w2.heap.size w2 b) := Lib.hid (T.out.trans (bb.mono T.out.size))
    clear hb hn bb BB
    go_simp
    (try rw [H.out.1])
    (try rw [H.out.2.1])
    refine hK.out _ _ (HS.out _ Tb.out) (fun hHeld => ?_)
    clear hK K
    have FB := Lib.hid H.out.2.2.2
    exact rg2B Q hQ w2 q x0 x1 x2 HS HEnd b Tb mB FB
  · obtain ⟨b, hb⟩ : ∃ v, W.alloc (.cells #[.int .u8 2, .string ⟨#[105, 110, 116]⟩, .int .i64 0, .slice none 0 0, .int .u8 2, .string ⟨#[105, 110, 116]⟩, .int .i64 0, .slice none 0 0] 24) = v := ⟨_, rfl⟩
    have bb : Below W.heap.size W b := by rw [← hb]; exact (Below.refl _ _).alloc (Nat.le_refl _) _
    have BB : Blk b W.heap.size 24 #[.int .u8 2, .string ⟨#[105, 110, 116]⟩, .int .i64 0, .slice none 0 0, .int .u8 2, .string ⟨#[105, 110, 116]⟩, .int .i64 0, .slice none 0 0] := by rw [← hb]; exact Blk.new _ _ _
    obtain ⟨mC, hn⟩ : ∃ v, W.heap.size = v := ⟨_, rfl⟩
    rw [hn] at BB
    have H := Lib.hid (And.intro hb (And.intro hn (And.intro bb BB)))
    have Tb : Hid (Below w2.heap.size w2 b) := Lib.hid (T.out.trans (bb.mono T.out.size))
    clear hb hn bb BB
    go_simp
    (try rw [H.out.1])
    (try rw [H.out.2.1])
    refine hK.out _ _ (HS.out _ Tb.out) (fun hHeld => ?_)
    clear hK K
    have FC := Lib.hid H.out.2.2.2
    exact rg2C Q hQ w2 q x0 x1 x2 HS HEnd b Tb mC FC
  · obtain ⟨b, hb⟩ : ∃ v, W.alloc (.cells #[.int .u8 2, .string ⟨#[105, 110, 116]⟩, .int .i64 0, .slice none 0 0] 24) = v := ⟨_, rfl⟩
    have bb : Below W.heap.size W b := by rw [← hb]; exact (Below.refl _ _).alloc (Nat.le_refl _) _
    have BB : Blk b W.heap.size 24 #[.int .u8 2, .string ⟨#[105, 110, 116]⟩, .int .i64 0, .slice none 0 0] := by rw [← hb]; exact Blk.new _ _ _
    obtain ⟨mD, hn⟩ : ∃ v, W.heap.size = v := ⟨_, rfl⟩
    rw [hn] at BB
    have H := Lib.hid (And.intro hb (And.intro hn (And.intro bb BB)))
    have Tb : Hid (Below w2.heap.size w2 b) := Lib.hid (T.out.trans (bb.mono T.out.size))
    clear hb hn bb BB
    go_simp
    (try rw [H.out.1])
    (try rw [H.out.2.1])
    refine hK.out _ _ (HS.out _ Tb.out) (fun hHeld => ?_)
    clear hK K
    have FD := Lib.hid H.out.2.2.2
    refine takeY (oi := { dst := some 35, op := Op.build 24 #[(0, Operand.const (Value.int IntKind.u8 4)), (3, Operand.tmp 34)], type := 24, pos := "law.go:211", after := #[{ on := 17, ground := Ground.data }], guard := none }) 18 (some 35) rfl rfl (by kernel_rfl) (by kernel_rfl) (by kernel_rfl) (fun _ _ _ h => hQ _ _ _ _ _ h) (by rfl) (v := _) (by (intro _ hSw; (try dsimp only at hSw); go_simp; try with_reducible rfl)) hHeld ?_
    simp only [Act.put, List.setIfInBounds_toArray, List.set_cons_zero, List.set_cons_succ]
    exact rg2D Q hQ w2 q x0 x1 x2 HS HEnd b Tb mD FD
set_option maxRecDepth 100000 in
set_option maxHeartbeats 4000000 in
theorem rg0A (Q : Exit → Act → World → Prop) (hQ : ∀ c d v (a : Act) (w : World), Q (.panic c) (a.put d v) w → Q (.panic c) a w) (w2 : World) (q : Nat) (x0 x1 x2 : Value) (HS : Hid (∀ W, Below w2.heap.size w2 W → (fun W : World => W.cell? ⟨q, 0, none⟩ = some (.int .u8 2) ∧ W.cell? ⟨q, 1, none⟩ = some (.string ⟨#[105, 110, 116]⟩) ∧ W.cell? ⟨q, 2, none⟩ = some (.int .i64 0) ∧ W.cell? ⟨q, 3, none⟩ = some (.slice none 0 0)) W)) (HEnd : Hid (RgEnd Q w2 q x0 x1 x2)) (W : World) (T : Hid (Below w2.heap.size w2 W)) (mA : Nat) (FA : Hid (Blk W mA 24 #[.int .u8 2, .string ⟨#[105, 110, 116]⟩, .int .i64 0, .slice none 0 0, .int .u8 2, .string ⟨#[105, 110, 116]⟩, .int .i64 0, .slice none 0 0])) : wpAnyH Tryd.prog .any rops Q (fun W : World => W.cell? ⟨q, 0, none⟩ = some (.int .u8 2) ∧ W.cell? ⟨q, 1, none⟩ = some (.string ⟨#[105, 110, 116]⟩) ∧ W.cell? ⟨q, 2, none⟩ = some (.int .i64 0) ∧ W.cell? ⟨q, 3, none⟩ = some (.slice none 0 0)) 12 #[true, true, true, true, true, false, false, true, false, false, false, false, true, true, false, false, true, false, false, true, false, false] { tmps := #[x0, x1, x2, undef, undef, undef, .bool false, .pointer (some ⟨q, 0, none⟩), undef, undef, undef, undef, undef, undef, undef, undef, .agg #[.int .u8 2, .string ⟨#[105, 110, 116]⟩, .int .i64 0, .slice none 0 0], .agg #[.int .u8 2, .string ⟨#[105, 110, 116]⟩, .int .i64 0, .slice none 0 0], .agg #[.int .u8 2, .string ⟨#[105, 110, 116]⟩, .int .i64 0, .slice none 0 0], .slice (some ⟨mA, 0, none⟩) 2 2, .agg #[.int .u8 3, .string ⟨#[]⟩, .int .i64 0, .slice (some ⟨mA, 0, none⟩) 2 2], .agg #[.int .u8 1, .string ⟨#[39, 98]⟩, .int .i64 0, .slice none 0 0], undef, undef, .agg #[.int .u8 2, .string ⟨#[105, 110, 116]⟩, .int .i64 0, .slice none 0 0], undef, undef, undef, undef, .agg #[.int .u8 2, .string ⟨#[105, 110, 116]⟩, .int .i64 0, .slice none 0 0], .agg #[.int .u8 2, .string ⟨#[105, 110, 116]⟩, .int .i64 0, .slice none 0 0], undef, undef, .agg #[.int .u8 2, .string ⟨#[105, 110, 116]⟩, .int .i64 0, .slice none 0 0], undef, undef, .agg #[.int .u8 0, .string ⟨#[]⟩, .int .i64 0, .slice none 0 0], undef, undef, undef, undef, undef, undef, undef, undef, undef, undef, undef, undef, undef, undef, undef, undef, undef, undef, undef, undef, undef, undef, undef, undef, undef, undef, undef, undef, undef, undef, undef, undef, undef, undef, undef, undef, undef, undef, undef, undef, undef, undef, undef, undef, undef, undef, undef, undef, undef, undef, undef, undef, undef, undef, undef, undef, undef, undef, undef, undef, undef, undef, undef, undef, undef, undef, undef, undef, undef, undef, undef, undef], defers := [] } W := by
  have hHeld := HS.out W T.out
  refine wpAnyH_ready (rs := [5, 8, 14, 17]) (by kernel_rfl) (by simp) ?_
  refine AllReadyH.cons (o := { dst := some 22, op := Op.call { callee := Callee.value (Operand.func 10), args := #[Operand.const (Value.string { data := #[101, 120, 110] }), Operand.const (Value.slice none 0 0)], argTypes := #[9, 22] }, type := 24, pos := "law.go:211", after := #[], guard := none }) rfl (fun K hK => ?_) (AllReadyH.cons (o := { dst := some 25, op := Op.buildSlice 22 1 #[(0, Operand.tmp 24)], type := 22, pos := "law.go:211", after := #[{ on := 7, ground := Ground.data }], guard := none }) rfl (fun K hK => ?_) (AllReadyH.cons (o := { dst := some 31, op := Op.buildSlice 22 2 #[(0, Operand.tmp 29), (1, Operand.tmp 30)], type := 22, pos := "law.go:211", after := #[{ on := 12, ground := Ground.data }, { on := 13, ground := Ground.data }], guard := none }) rfl (fun K hK => ?_) (AllReadyH.cons (o := { dst := some 34, op := Op.buildSlice 22 1 #[(0, Operand.tmp 33)], type := 22, pos := "law.go:211", after := #[{ on := 16, ground := Ground.data }], guard := none }) rfl (fun K hK => ?_) AllReadyH.nil)))
  · have HT := Lib.hid (named_any ⟨#[101, 120, 110]⟩ none 0 0 W)
    clear hHeld
    go_simp
    go_wp2_with (go_at_call 10; refine Calls.mono HT.out ?_; rintro e b ⟨rfl, bb⟩; have Hb := Lib.hid bb; have Tb : Hid (Below w2.heap.size w2 b) := Lib.hid (T.out.trans (bb.mono T.out.size)))
    refine hK.out _ _ (HS.out _ Tb.out) (fun hHeld => ?_)
    clear hK K HT
    have FA := Lib.hid (FA.out.below Hb.out FA.out.lt)
    exact rg1A Q hQ w2 q x0 x1 x2 HS HEnd b Tb mA FA
  · obtain ⟨b, hb⟩ : ∃ v, W.alloc (.cells #[.int .u8 2, .string ⟨#[105, 110, 116]⟩, .int .i64 0, .slice none 0 0] 24) = v := ⟨_, rfl⟩
    have bb : Below W.heap.size W b := by rw [← hb]; exact (Below.refl _ _).alloc (Nat.le_refl _) _
    have BB : Blk b W.heap.size 24 #[.int .u8 2, .string ⟨#[105, 110, 116]⟩, .int .i64 0, .slice none 0 0] := by rw [← hb]; exact Blk.new _ _ _
    obtain ⟨mB, hn⟩ : ∃ v, W.heap.size = v := ⟨_, rfl⟩
    rw [hn] at BB
    have H := Lib.hid (And.intro hb (And.intro hn (And.intro bb BB)))
    have Tb : Hid (Below w2.heap.size w2 b) := Lib.hid (T.out.trans (bb.mono T.out.size))
    clear hb hn bb BB
    go_simp
    (try rw [H.out.1])
    (try rw [H.out.2.1])
    refine hK.out _ _ (HS.out _ Tb.out) (fun hHeld => ?_)
    clear hK K
    have FA := Lib.hid (FA.out.below H.out.2.2.1 FA.out.lt)
    have FB := Lib.hid H.out.2.2.2
    exact rg0AB Q hQ w2 q x0 x1 x2 HS HEnd b Tb mA FA mB FB
  · obtain ⟨b, hb⟩ : ∃ v, W.alloc (.cells #[.int .u8 2, .string ⟨#[105, 110, 116]⟩, .int .i64 0, .slice none 0 0, .int .u8 2, .string ⟨#[105, 110, 116]⟩, .int .i64 0, .slice none 0 0] 24) = v := ⟨_, rfl⟩
    have bb : Below W.heap.size W b := by rw [← hb]; exact (Below.refl _ _).alloc (Nat.le_refl _) _
    have BB : Blk b W.heap.size 24 #[.int .u8 2, .string ⟨#[105, 110, 116]⟩, .int .i64 0, .slice none 0 0, .int .u8 2, .string ⟨#[105, 110, 116]⟩, .int .i64 0, .slice none 0 0] := by rw [← hb]; exact Blk.new _ _ _
    obtain ⟨mC, hn⟩ : ∃ v, W.heap.size = v := ⟨_, rfl⟩
    rw [hn] at BB
    have H := Lib.hid (And.intro hb (And.intro hn (And.intro bb BB)))
    have Tb : Hid (Below w2.heap.size w2 b) := Lib.hid (T.out.trans (bb.mono T.out.size))
    clear hb hn bb BB
    go_simp
    (try rw [H.out.1])
    (try rw [H.out.2.1])
    refine hK.out _ _ (HS.out _ Tb.out) (fun hHeld => ?_)
    clear hK K
    have FA := Lib.hid (FA.out.below H.out.2.2.1 FA.out.lt)
    have FC := Lib.hid H.out.2.2.2
    exact rg0AC Q hQ w2 q x0 x1 x2 HS HEnd b Tb mA FA mC FC
  · obtain ⟨b, hb⟩ : ∃ v, W.alloc (.cells #[.int .u8 2, .string ⟨#[105, 110, 116]⟩, .int .i64 0, .slice none 0 0] 24) = v := ⟨_, rfl⟩
    have bb : Below W.heap.size W b := by rw [← hb]; exact (Below.refl _ _).alloc (Nat.le_refl _) _
    have BB : Blk b W.heap.size 24 #[.int .u8 2, .string ⟨#[105, 110, 116]⟩, .int .i64 0, .slice none 0 0] := by rw [← hb]; exact Blk.new _ _ _
    obtain ⟨mD, hn⟩ : ∃ v, W.heap.size = v := ⟨_, rfl⟩
    rw [hn] at BB
    have H := Lib.hid (And.intro hb (And.intro hn (And.intro bb BB)))
    have Tb : Hid (Below w2.heap.size w2 b) := Lib.hid (T.out.trans (bb.mono T.out.size))
    clear hb hn bb BB
    go_simp
    (try rw [H.out.1])
    (try rw [H.out.2.1])
    refine hK.out _ _ (HS.out _ Tb.out) (fun hHeld => ?_)
    clear hK K
    have FA := Lib.hid (FA.out.below H.out.2.2.1 FA.out.lt)
    have FD := Lib.hid H.out.2.2.2
    refine takeY (oi := { dst := some 35, op := Op.build 24 #[(0, Operand.const (Value.int IntKind.u8 4)), (3, Operand.tmp 34)], type := 24, pos := "law.go:211", after := #[{ on := 17, ground := Ground.data }], guard := none }) 18 (some 35) rfl rfl (by kernel_rfl) (by kernel_rfl) (by kernel_rfl) (fun _ _ _ h => hQ _ _ _ _ _ h) (by rfl) (v := _) (by (intro _ hSw; (try dsimp only at hSw); go_simp; try with_reducible rfl)) hHeld ?_
    simp only [Act.put, List.setIfInBounds_toArray, List.set_cons_zero, List.set_cons_succ]
    exact rg0AD Q hQ w2 q x0 x1 x2 HS HEnd b Tb mA FA mD FD
set_option maxRecDepth 100000 in
set_option maxHeartbeats 4000000 in
theorem rg0B (Q : Exit → Act → World → Prop) (hQ : ∀ c d v (a : Act) (w : World), Q (.panic c) (a.put d v) w → Q (.panic c) a w) (w2 : World) (q : Nat) (x0 x1 x2 : Value) (HS : Hid (∀ W, Below w2.heap.size w2 W → (fun W : World => W.cell? ⟨q, 0, none⟩ = some (.int .u8 2) ∧ W.cell? ⟨q, 1, none⟩ = some (.string ⟨#[105, 110, 116]⟩) ∧ W.cell? ⟨q, 2, none⟩ = some (.int .i64 0) ∧ W.cell? ⟨q, 3, none⟩ = some (.slice none 0 0)) W)) (HEnd : Hid (RgEnd Q w2 q x0 x1 x2)) (W : World) (T : Hid (Below w2.heap.size w2 W)) (mB : Nat) (FB : Hid (Blk W mB 24 #[.int .u8 2, .string ⟨#[105, 110, 116]⟩, .int .i64 0, .slice none 0 0])) : wpAnyH Tryd.prog .any rops Q (fun W : World => W.cell? ⟨q, 0, none⟩ = some (.int .u8 2) ∧ W.cell? ⟨q, 1, none⟩ = some (.string ⟨#[105, 110, 116]⟩) ∧ W.cell? ⟨q, 2, none⟩ = some (.int .i64 0) ∧ W.cell? ⟨q, 3, none⟩ = some (.slice none 0 0)) 13 #[true, true, false, false, true, false, false, true, true, false, false, false, true, true, false, false, true, false, false, true, false, false] { tmps := #[x0, x1, x2, undef, undef, undef, .bool false, .pointer (some ⟨q, 0, none⟩), undef, undef, undef, undef, undef, undef, undef, undef, .agg #[.int .u8 2, .string ⟨#[105, 110, 116]⟩, .int .i64 0, .slice none 0 0], .agg #[.int .u8 2, .string ⟨#[105, 110, 116]⟩, .int .i64 0, .slice none 0 0], .agg #[.int .u8 2, .string ⟨#[105, 110, 116]⟩, .int .i64 0, .slice none 0 0], undef, undef, .agg #[.int .u8 1, .string ⟨#[39, 98]⟩, .int .i64 0, .slice none 0 0], undef, undef, .agg #[.int .u8 2, .string ⟨#[105, 110, 116]⟩, .int .i64 0, .slice none 0 0], .slice (some ⟨mB, 0, none⟩) 1 1, undef, undef, undef, .agg #[.int .u8 2, .string ⟨#[105, 110, 116]⟩, .int .i64 0, .slice none 0 0], .agg #[.int .u8 2, .string ⟨#[105, 110, 116]⟩, .int .i64 0, .slice none 0 0], undef, undef, .agg #[.int .u8 2, .string ⟨#[105, 110, 116]⟩, .int .i64 0, .slice none 0 0], undef, undef, .agg #[.int .u8 0, .string ⟨#[]⟩, .int .i64 0, .slice none 0 0], undef, undef, undef, undef, undef, undef, undef, undef, undef, undef, undef, undef, undef, undef, undef, undef, undef, undef, undef, undef, undef, undef, undef, undef, undef, undef, undef, undef, undef, undef, undef, undef, undef, undef, undef, undef, undef, undef, undef, undef, undef, undef, undef, undef, undef, undef, undef, undef, undef, undef, undef, undef, undef, undef, undef, undef, undef, undef, undef, undef, undef, undef, undef, undef, undef, undef, undef, undef, undef, undef, undef, undef], defers := [] } W := by
  have hHeld := HS.out W T.out
  refine wpAnyH_ready (rs := [2, 5, 14, 17]) (by kernel_rfl) (by simp) ?_
  refine AllReadyH.cons (o := { dst := some 19, op := Op.buildSlice 22 2 #[(0, Operand.tmp 17), (1, Operand.tmp 18)], type := 22, pos := "law.go:211", after := #[{ on := 0, ground := Ground.data }, { on := 1, ground := Ground.data }], guard := none }) rfl (fun K hK => ?_) (AllReadyH.cons (o := { dst := some 22, op := Op.call { callee := Callee.value (Operand.func 10), args := #[Operand.const (Value.string { data := #[101, 120, 110] }), Operand.const (Value.slice none 0 0)], argTypes := #[9, 22] }, type := 24, pos := "law.go:211", after := #[], guard := none }) rfl (fun K hK => ?_) (AllReadyH.cons (o := { dst := some 31, op := Op.buildSlice 22 2 #[(0, Operand.tmp 29), (1, Operand.tmp 30)], type := 22, pos := "law.go:211", after := #[{ on := 12, ground := Ground.data }, { on := 13, ground := Ground.data }], guard := none }) rfl (fun K hK => ?_) (AllReadyH.cons (o := { dst := some 34, op := Op.buildSlice 22 1 #[(0, Operand.tmp 33)], type := 22, pos := "law.go:211", after := #[{ on := 16, ground := Ground.data }], guard := none }) rfl (fun K hK => ?_) AllReadyH.nil)))
  · obtain ⟨b, hb⟩ : ∃ v, W.alloc (.cells #[.int .u8 2, .string ⟨#[105, 110, 116]⟩, .int .i64 0, .slice none 0 0, .int .u8 2, .string ⟨#[105, 110, 116]⟩, .int .i64 0, .slice none 0 0] 24) = v := ⟨_, rfl⟩
    have bb : Below W.heap.size W b := by rw [← hb]; exact (Below.refl _ _).alloc (Nat.le_refl _) _
    have BB : Blk b W.heap.size 24 #[.int .u8 2, .string ⟨#[105, 110, 116]⟩, .int .i64 0, .slice none 0 0, .int .u8 2, .string ⟨#[105, 110, 116]⟩, .int .i64 0, .slice none 0 0] := by rw [← hb]; exact Blk.new _ _ _
    obtain ⟨mA, hn⟩ : ∃ v, W.heap.size = v := ⟨_, rfl⟩
    rw [hn] at BB
    have H := Lib.hid (And.intro hb (And.intro hn (And.intro bb BB)))
    have Tb : Hid (Below w2.heap.size w2 b) := Lib.hid (T.out.trans (bb.mono T.out.size))
    clear hb hn bb BB
    go_simp
    (try rw [H.out.1])
    (try rw [H.out.2.1])
    refine hK.out _ _ (HS.out _ Tb.out) (fun hHeld => ?_)
    clear hK K
    have FB := Lib.hid (FB.out.below H.out.2.2.1 FB.out.lt)
    have FA := Lib.hid H.out.2.2.2
    refine takeY (oi := { dst := some 20, op := Op.build 24 #[(0, Operand.const (Value.int IntKind.u8 3)), (3, Operand.tmp 19)], type := 24, pos := "law.go:211", after := #[{ on := 2, ground := Ground.data }], guard := none }) 3 (some 20) rfl rfl (by kernel_rfl) (by kernel_rfl) (by kernel_rfl) (fun _ _ _ h => hQ _ _ _ _ _ h) (by rfl) (v := _) (by (intro _ hSw; (try dsimp only at hSw); go_simp; try with_reducible rfl)) hHeld ?_
    simp only [Act.put, List.setIfInBounds_toArray, List.set_cons_zero, List.set_cons_succ]
    exact rg0AB Q hQ w2 q x0 x1 x2 HS HEnd b Tb mA FA mB FB
  · have HT := Lib.hid (named_any ⟨#[101, 120, 110]⟩ none 0 0 W)
    clear hHeld
    go_simp
    go_wp2_with (go_at_call 10; refine Calls.mono HT.out ?_; rintro e b ⟨rfl, bb⟩; have Hb := Lib.hid bb; have Tb : Hid (Below w2.heap.size w2 b) := Lib.hid (T.out.trans (bb.mono T.out.size)))
    refine hK.out _ _ (HS.out _ Tb.out) (fun hHeld => ?_)
    clear hK K HT
    have FB := Lib.hid (FB.out.below Hb.out FB.out.lt)
    exact rg1B Q hQ w2 q x0 x1 x2 HS HEnd b Tb mB FB
  · obtain ⟨b, hb⟩ : ∃ v, W.alloc (.cells #[.int .u8 2, .string ⟨#[105, 110, 116]⟩, .int .i64 0, .slice none 0 0, .int .u8 2, .string ⟨#[105, 110, 116]⟩, .int .i64 0, .slice none 0 0] 24) = v := ⟨_, rfl⟩
    have bb : Below W.heap.size W b := by rw [← hb]; exact (Below.refl _ _).alloc (Nat.le_refl _) _
    have BB : Blk b W.heap.size 24 #[.int .u8 2, .string ⟨#[105, 110, 116]⟩, .int .i64 0, .slice none 0 0, .int .u8 2, .string ⟨#[105, 110, 116]⟩, .int .i64 0, .slice none 0 0] := by rw [← hb]; exact Blk.new _ _ _
    obtain ⟨mC, hn⟩ : ∃ v, W.heap.size = v := ⟨_, rfl⟩
    rw [hn] at BB
    have H := Lib.hid (And.intro hb (And.intro hn (And.intro bb BB)))
    have Tb : Hid (Below w2.heap.size w2 b) := Lib.hid (T.out.trans (bb.mono T.out.size))
    clear hb hn bb BB
    go_simp
    (try rw [H.out.1])
    (try rw [H.out.2.1])
    refine hK.out _ _ (HS.out _ Tb.out) (fun hHeld => ?_)
    clear hK K
    have FB := Lib.hid (FB.out.below H.out.2.2.1 FB.out.lt)
    have FC := Lib.hid H.out.2.2.2
    exact rg0BC Q hQ w2 q x0 x1 x2 HS HEnd b Tb mB FB mC FC
  · obtain ⟨b, hb⟩ : ∃ v, W.alloc (.cells #[.int .u8 2, .string ⟨#[105, 110, 116]⟩, .int .i64 0, .slice none 0 0] 24) = v := ⟨_, rfl⟩
    have bb : Below W.heap.size W b := by rw [← hb]; exact (Below.refl _ _).alloc (Nat.le_refl _) _
    have BB : Blk b W.heap.size 24 #[.int .u8 2, .string ⟨#[105, 110, 116]⟩, .int .i64 0, .slice none 0 0] := by rw [← hb]; exact Blk.new _ _ _
    obtain ⟨mD, hn⟩ : ∃ v, W.heap.size = v := ⟨_, rfl⟩
    rw [hn] at BB
    have H := Lib.hid (And.intro hb (And.intro hn (And.intro bb BB)))
    have Tb : Hid (Below w2.heap.size w2 b) := Lib.hid (T.out.trans (bb.mono T.out.size))
    clear hb hn bb BB
    go_simp
    (try rw [H.out.1])
    (try rw [H.out.2.1])
    refine hK.out _ _ (HS.out _ Tb.out) (fun hHeld => ?_)
    clear hK K
    have FB := Lib.hid (FB.out.below H.out.2.2.1 FB.out.lt)
    have FD := Lib.hid H.out.2.2.2
    refine takeY (oi := { dst := some 35, op := Op.build 24 #[(0, Operand.const (Value.int IntKind.u8 4)), (3, Operand.tmp 34)], type := 24, pos := "law.go:211", after := #[{ on := 17, ground := Ground.data }], guard := none }) 18 (some 35) rfl rfl (by kernel_rfl) (by kernel_rfl) (by kernel_rfl) (fun _ _ _ h => hQ _ _ _ _ _ h) (by rfl) (v := _) (by (intro _ hSw; (try dsimp only at hSw); go_simp; try with_reducible rfl)) hHeld ?_
    simp only [Act.put, List.setIfInBounds_toArray, List.set_cons_zero, List.set_cons_succ]
    exact rg0BD Q hQ w2 q x0 x1 x2 HS HEnd b Tb mB FB mD FD
set_option maxRecDepth 100000 in
set_option maxHeartbeats 4000000 in
theorem rg0C (Q : Exit → Act → World → Prop) (hQ : ∀ c d v (a : Act) (w : World), Q (.panic c) (a.put d v) w → Q (.panic c) a w) (w2 : World) (q : Nat) (x0 x1 x2 : Value) (HS : Hid (∀ W, Below w2.heap.size w2 W → (fun W : World => W.cell? ⟨q, 0, none⟩ = some (.int .u8 2) ∧ W.cell? ⟨q, 1, none⟩ = some (.string ⟨#[105, 110, 116]⟩) ∧ W.cell? ⟨q, 2, none⟩ = some (.int .i64 0) ∧ W.cell? ⟨q, 3, none⟩ = some (.slice none 0 0)) W)) (HEnd : Hid (RgEnd Q w2 q x0 x1 x2)) (W : World) (T : Hid (Below w2.heap.size w2 W)) (mC : Nat) (FC : Hid (Blk W mC 24 #[.int .u8 2, .string ⟨#[105, 110, 116]⟩, .int .i64 0, .slice none 0 0, .int .u8 2, .string ⟨#[105, 110, 116]⟩, .int .i64 0, .slice none 0 0])) : wpAnyH Tryd.prog .any rops Q (fun W : World => W.cell? ⟨q, 0, none⟩ = some (.int .u8 2) ∧ W.cell? ⟨q, 1, none⟩ = some (.string ⟨#[105, 110, 116]⟩) ∧ W.cell? ⟨q, 2, none⟩ = some (.int .i64 0) ∧ W.cell? ⟨q, 3, none⟩ = some (.slice none 0 0)) 13 #[true, true, false, false, true, false, false, true, false, false, false, false, true, true, true, false, true, false, false, true, false, false] { tmps := #[x0, x1, x2, undef, undef, undef, .bool false, .pointer (some ⟨q, 0, none⟩), undef, undef, undef, undef, undef, undef, undef, undef, .agg #[.int .u8 2, .string ⟨#[105, 110, 116]⟩, .int .i64 0, .slice none 0 0], .agg #[.int .u8 2, .string ⟨#[105, 110, 116]⟩, .int .i64 0, .slice none 0 0], .agg #[.int .u8 2, .string ⟨#[105, 110, 116]⟩, .int .i64 0, .slice none 0 0], undef, undef, .agg #[.int .u8 1, .string ⟨#[39, 98]⟩, .int .i64 0, .slice none 0 0], undef, undef, .agg #[.int .u8 2, .string ⟨#[105, 110, 116]⟩, .int .i64 0, .slice none 0 0], undef, undef, undef, undef, .agg #[.int .u8 2, .string ⟨#[105, 110, 116]⟩, .int .i64 0, .slice none 0 0], .agg #[.int .u8 2, .string ⟨#[105, 110, 116]⟩, .int .i64 0, .slice none 0 0], .slice (some ⟨mC, 0, none⟩) 2 2, undef, .agg #[.int .u8 2, .string ⟨#[105, 110, 116]⟩, .int .i64 0, .slice none 0 0], undef, undef, .agg #[.int .u8 0, .string ⟨#[]⟩, .int .i64 0, .slice none 0 0], undef, undef, undef, undef, undef, undef, undef, undef, undef, undef, undef, undef, undef, undef, undef, undef, undef, undef, undef, undef, undef, undef, undef, undef, undef, undef, undef, undef, undef, undef, undef, undef, undef, undef, undef, undef, undef, undef, undef, undef, undef, undef, undef, undef, undef, undef, undef, undef, undef, undef, undef, undef, undef, undef, undef, undef, undef, undef, undef, undef, undef, undef, undef, undef, undef, undef, undef, undef, undef, undef, undef, undef], defers := [] } W := by
  have hHeld := HS.out W T.out
  refine wpAnyH_ready (rs := [2, 5, 8, 17]) (by kernel_rfl) (by simp) ?_
  refine AllReadyH.cons (o := { dst := some 19, op := Op.buildSlice 22 2 #[(0, Operand.tmp 17), (1, Operand.tmp 18)], type := 22, pos := "law.go:211", after := #[{ on := 0, ground := Ground.data }, { on := 1, ground := Ground.data }], guard := none }) rfl (fun K hK => ?_) (AllReadyH.cons (o := { dst := some 22, op := Op.call { callee := Callee.value (Operand.func 10), args := #[Operand.const (Value.string { data := #[101, 120, 110] }), Operand.const (Value.slice none 0 0)], argTypes := #[9, 22] }, type := 24, pos := "law.go:211", after := #[], guard := none }) rfl (fun K hK => ?_) (AllReadyH.cons (o := { dst := some 25, op := Op.buildSlice 22 1 #[(0, Operand.tmp 24)], type := 22, pos := "law.go:211", after := #[{ on := 7, ground := Ground.data }], guard := none }) rfl (fun K hK => ?_) (AllReadyH.cons (o := { dst := some 34, op := Op.buildSlice 22 1 #[(0, Operand.tmp 33)], type := 22, pos := "law.go:211", after := #[{ on := 16, ground := Ground.data }], guard := none }) rfl (fun K hK => ?_) AllReadyH.nil)))
  · obtain ⟨b, hb⟩ : ∃ v, W.alloc (.cells #[.int .u8 2, .string ⟨#[105, 110, 116]⟩, .int .i64 0, .slice none 0 0, .int .u8 2, .string ⟨#[105, 110, 116]⟩, .int .i64 0, .slice none 0 0] 24) = v := ⟨_, rfl⟩
    have bb : Below W.heap.size W b := by rw [← hb]; exact (Below.refl _ _).alloc (Nat.le_refl _) _
    have BB : Blk b W.heap.size 24 #[.int .u8 2, .string ⟨#[105, 110, 116]⟩, .int .i64 0, .slice none 0 0, .int .u8 2, .string ⟨#[105, 110, 116]⟩, .int .i64 0, .slice none 0 0] := by rw [← hb]; exact Blk.new _ _ _
    obtain ⟨mA, hn⟩ : ∃ v, W.heap.size = v := ⟨_, rfl⟩
    rw [hn] at BB
    have H := Lib.hid (And.intro hb (And.intro hn (And.intro bb BB)))
    have Tb : Hid (Below w2.heap.size w2 b) := Lib.hid (T.out.trans (bb.mono T.out.size))
    clear hb hn bb BB
    go_simp
    (try rw [H.out.1])
    (try rw [H.out.2.1])
    refine hK.out _ _ (HS.out _ Tb.out) (fun hHeld => ?_)
    clear hK K
    have FC := Lib.hid (FC.out.below H.out.2.2.1 FC.out.lt)
    have FA := Lib.hid H.out.2.2.2
    refine takeY (oi := { dst := some 20, op := Op.build 24 #[(0, Operand.const (Value.int IntKind.u8 3)), (3, Operand.tmp 19)], type := 24, pos := "law.go:211", after := #[{ on := 2, ground := Ground.data }], guard := none }) 3 (some 20) rfl rfl (by kernel_rfl) (by kernel_rfl) (by kernel_rfl) (fun _ _ _ h => hQ _ _ _ _ _ h) (by rfl) (v := _) (by (intro _ hSw; (try dsimp only at hSw); go_simp; try with_reducible rfl)) hHeld ?_
    simp only [Act.put, List.setIfInBounds_toArray, List.set_cons_zero, List.set_cons_succ]
    exact rg0AC Q hQ w2 q x0 x1 x2 HS HEnd b Tb mA FA mC FC
  · have HT := Lib.hid (named_any ⟨#[101, 120, 110]⟩ none 0 0 W)
    clear hHeld
    go_simp
    go_wp2_with (go_at_call 10; refine Calls.mono HT.out ?_; rintro e b ⟨rfl, bb⟩; have Hb := Lib.hid bb; have Tb : Hid (Below w2.heap.size w2 b) := Lib.hid (T.out.trans (bb.mono T.out.size)))
    refine hK.out _ _ (HS.out _ Tb.out) (fun hHeld => ?_)
    clear hK K HT
    have FC := Lib.hid (FC.out.below Hb.out FC.out.lt)
    exact rg1C Q hQ w2 q x0 x1 x2 HS HEnd b Tb mC FC
  · obtain ⟨b, hb⟩ : ∃ v, W.alloc (.cells #[.int .u8 2, .string ⟨#[105, 110, 116]⟩, .int .i64 0, .slice none 0 0] 24) = v := ⟨_, rfl⟩
    have bb : Below W.heap.size W b := by rw [← hb]; exact (Below.refl _ _).alloc (Nat.le_refl _) _
    have BB : Blk b W.heap.size 24 #[.int .u8 2, .string ⟨#[105, 110, 116]⟩, .int .i64 0, .slice none 0 0] := by rw [← hb]; exact Blk.new _ _ _
    obtain ⟨mB, hn⟩ : ∃ v, W.heap.size = v := ⟨_, rfl⟩
    rw [hn] at BB
    have H := Lib.hid (And.intro hb (And.intro hn (And.intro bb BB)))
    have Tb : Hid (Below w2.heap.size w2 b) := Lib.hid (T.out.trans (bb.mono T.out.size))
    clear hb hn bb BB
    go_simp
    (try rw [H.out.1])
    (try rw [H.out.2.1])
    refine hK.out _ _ (HS.out _ Tb.out) (fun hHeld => ?_)
    clear hK K
    have FC := Lib.hid (FC.out.below H.out.2.2.1 FC.out.lt)
    have FB := Lib.hid H.out.2.2.2
    exact rg0BC Q hQ w2 q x0 x1 x2 HS HEnd b Tb mB FB mC FC
  · obtain ⟨b, hb⟩ : ∃ v, W.alloc (.cells #[.int .u8 2, .string ⟨#[105, 110, 116]⟩, .int .i64 0, .slice none 0 0] 24) = v := ⟨_, rfl⟩
    have bb : Below W.heap.size W b := by rw [← hb]; exact (Below.refl _ _).alloc (Nat.le_refl _) _
    have BB : Blk b W.heap.size 24 #[.int .u8 2, .string ⟨#[105, 110, 116]⟩, .int .i64 0, .slice none 0 0] := by rw [← hb]; exact Blk.new _ _ _
    obtain ⟨mD, hn⟩ : ∃ v, W.heap.size = v := ⟨_, rfl⟩
    rw [hn] at BB
    have H := Lib.hid (And.intro hb (And.intro hn (And.intro bb BB)))
    have Tb : Hid (Below w2.heap.size w2 b) := Lib.hid (T.out.trans (bb.mono T.out.size))
    clear hb hn bb BB
    go_simp
    (try rw [H.out.1])
    (try rw [H.out.2.1])
    refine hK.out _ _ (HS.out _ Tb.out) (fun hHeld => ?_)
    clear hK K
    have FC := Lib.hid (FC.out.below H.out.2.2.1 FC.out.lt)
    have FD := Lib.hid H.out.2.2.2
    refine takeY (oi := { dst := some 35, op := Op.build 24 #[(0, Operand.const (Value.int IntKind.u8 4)), (3, Operand.tmp 34)], type := 24, pos := "law.go:211", after := #[{ on := 17, ground := Ground.data }], guard := none }) 18 (some 35) rfl rfl (by kernel_rfl) (by kernel_rfl) (by kernel_rfl) (fun _ _ _ h => hQ _ _ _ _ _ h) (by rfl) (v := _) (by (intro _ hSw; (try dsimp only at hSw); go_simp; try with_reducible rfl)) hHeld ?_
    simp only [Act.put, List.setIfInBounds_toArray, List.set_cons_zero, List.set_cons_succ]
    exact rg0CD Q hQ w2 q x0 x1 x2 HS HEnd b Tb mC FC mD FD
set_option maxRecDepth 100000 in
set_option maxHeartbeats 4000000 in
theorem rg0D (Q : Exit → Act → World → Prop) (hQ : ∀ c d v (a : Act) (w : World), Q (.panic c) (a.put d v) w → Q (.panic c) a w) (w2 : World) (q : Nat) (x0 x1 x2 : Value) (HS : Hid (∀ W, Below w2.heap.size w2 W → (fun W : World => W.cell? ⟨q, 0, none⟩ = some (.int .u8 2) ∧ W.cell? ⟨q, 1, none⟩ = some (.string ⟨#[105, 110, 116]⟩) ∧ W.cell? ⟨q, 2, none⟩ = some (.int .i64 0) ∧ W.cell? ⟨q, 3, none⟩ = some (.slice none 0 0)) W)) (HEnd : Hid (RgEnd Q w2 q x0 x1 x2)) (W : World) (T : Hid (Below w2.heap.size w2 W)) (mD : Nat) (FD : Hid (Blk W mD 24 #[.int .u8 2, .string ⟨#[105, 110, 116]⟩, .int .i64 0, .slice none 0 0])) : wpAnyH Tryd.prog .any rops Q (fun W : World => W.cell? ⟨q, 0, none⟩ = some (.int .u8 2) ∧ W.cell? ⟨q, 1, none⟩ = some (.string ⟨#[105, 110, 116]⟩) ∧ W.cell? ⟨q, 2, none⟩ = some (.int .i64 0) ∧ W.cell? ⟨q, 3, none⟩ = some (.slice none 0 0)) 12 #[true, true, false, false, true, false, false, true, false, false, false, false, true, true, false, false, true, true, true, true, false, false] { tmps := #[x0, x1, x2, undef, undef, undef, .bool false, .pointer (some ⟨q, 0, none⟩), undef, undef, undef, undef, undef, undef, undef, undef, .agg #[.int .u8 2, .string ⟨#[105, 110, 116]⟩, .int .i64 0, .slice none 0 0], .agg #[.int .u8 2, .string ⟨#[105, 110, 116]⟩, .int .i64 0, .slice none 0 0], .agg #[.int .u8 2, .string ⟨#[105, 110, 116]⟩, .int .i64 0, .slice none 0 0], undef, undef, .agg #[.int .u8 1, .string ⟨#[39, 98]⟩, .int .i64 0, .slice none 0 0], undef, undef, .agg #[.int .u8 2, .string ⟨#[105, 110, 116]⟩, .int .i64 0, .slice none 0 0], undef, undef, undef, undef, .agg #[.int .u8 2, .string ⟨#[105, 110, 116]⟩, .int .i64 0, .slice none 0 0], .agg #[.int .u8 2, .string ⟨#[105, 110, 116]⟩, .int .i64 0, .slice none 0 0], undef, undef, .agg #[.int .u8 2, .string ⟨#[105, 110, 116]⟩, .int .i64 0, .slice none 0 0], .slice (some ⟨mD, 0, none⟩) 1 1, .agg #[.int .u8 4, .string ⟨#[]⟩, .int .i64 0, .slice (some ⟨mD, 0, none⟩) 1 1], .agg #[.int .u8 0, .string ⟨#[]⟩, .int .i64 0, .slice none 0 0], undef, undef, undef, undef, undef, undef, undef, undef, undef, undef, undef, undef, undef, undef, undef, undef, undef, undef, undef, undef, undef, undef, undef, undef, undef, undef, undef, undef, undef, undef, undef, undef, undef, undef, undef, undef, undef, undef, undef, undef, undef, undef, undef, undef, undef, undef, undef, undef, undef, undef, undef, undef, undef, undef, undef, undef, undef, undef, undef, undef, undef, undef, undef, undef, undef, undef, undef, undef, undef, undef, undef, undef], defers := [] } W := by
  have hHeld := HS.out W T.out
  refine wpAnyH_ready (rs := [2, 5, 8, 14]) (by kernel_rfl) (by simp) ?_
  refine AllReadyH.cons (o := { dst := some 19, op := Op.buildSlice 22 2 #[(0, Operand.tmp 17), (1, Operand.tmp 18)], type := 22, pos := "law.go:211", after := #[{ on := 0, ground := Ground.data }, { on := 1, ground := Ground.data }], guard := none }) rfl (fun K hK => ?_) (AllReadyH.cons (o := { dst := some 22, op := Op.call { callee := Callee.value (Operand.func 10), args := #[Operand.const (Value.string { data := #[101, 120, 110] }), Operand.const (Value.slice none 0 0)], argTypes := #[9, 22] }, type := 24, pos := "law.go:211", after := #[], guard := none }) rfl (fun K hK => ?_) (AllReadyH.cons (o := { dst := some 25, op := Op.buildSlice 22 1 #[(0, Operand.tmp 24)], type := 22, pos := "law.go:211", after := #[{ on := 7, ground := Ground.data }], guard := none }) rfl (fun K hK => ?_) (AllReadyH.cons (o := { dst := some 31, op := Op.buildSlice 22 2 #[(0, Operand.tmp 29), (1, Operand.tmp 30)], type := 22, pos := "law.go:211", after := #[{ on := 12, ground := Ground.data }, { on := 13, ground := Ground.data }], guard := none }) rfl (fun K hK => ?_) AllReadyH.nil)))
  · obtain ⟨b, hb⟩ : ∃ v, W.alloc (.cells #[.int .u8 2, .string ⟨#[105, 110, 116]⟩, .int .i64 0, .slice none 0 0, .int .u8 2, .string ⟨#[105, 110, 116]⟩, .int .i64 0, .slice none 0 0] 24) = v := ⟨_, rfl⟩
    have bb : Below W.heap.size W b := by rw [← hb]; exact (Below.refl _ _).alloc (Nat.le_refl _) _
    have BB : Blk b W.heap.size 24 #[.int .u8 2, .string ⟨#[105, 110, 116]⟩, .int .i64 0, .slice none 0 0, .int .u8 2, .string ⟨#[105, 110, 116]⟩, .int .i64 0, .slice none 0 0] := by rw [← hb]; exact Blk.new _ _ _
    obtain ⟨mA, hn⟩ : ∃ v, W.heap.size = v := ⟨_, rfl⟩
    rw [hn] at BB
    have H := Lib.hid (And.intro hb (And.intro hn (And.intro bb BB)))
    have Tb : Hid (Below w2.heap.size w2 b) := Lib.hid (T.out.trans (bb.mono T.out.size))
    clear hb hn bb BB
    go_simp
    (try rw [H.out.1])
    (try rw [H.out.2.1])
    refine hK.out _ _ (HS.out _ Tb.out) (fun hHeld => ?_)
    clear hK K
    have FD := Lib.hid (FD.out.below H.out.2.2.1 FD.out.lt)
    have FA := Lib.hid H.out.2.2.2
    refine takeY (oi := { dst := some 20, op := Op.build 24 #[(0, Operand.const (Value.int IntKind.u8 3)), (3, Operand.tmp 19)], type := 24, pos := "law.go:211", after := #[{ on := 2, ground := Ground.data }], guard := none }) 3 (some 20) rfl rfl (by kernel_rfl) (by kernel_rfl) (by kernel_rfl) (fun _ _ _ h => hQ _ _ _ _ _ h) (by rfl) (v := _) (by (intro _ hSw; (try dsimp only at hSw); go_simp; try with_reducible rfl)) hHeld ?_
    simp only [Act.put, List.setIfInBounds_toArray, List.set_cons_zero, List.set_cons_succ]
    exact rg0AD Q hQ w2 q x0 x1 x2 HS HEnd b Tb mA FA mD FD
  · have HT := Lib.hid (named_any ⟨#[101, 120, 110]⟩ none 0 0 W)
    clear hHeld
    go_simp
    go_wp2_with (go_at_call 10; refine Calls.mono HT.out ?_; rintro e b ⟨rfl, bb⟩; have Hb := Lib.hid bb; have Tb : Hid (Below w2.heap.size w2 b) := Lib.hid (T.out.trans (bb.mono T.out.size)))
    refine hK.out _ _ (HS.out _ Tb.out) (fun hHeld => ?_)
    clear hK K HT
    have FD := Lib.hid (FD.out.below Hb.out FD.out.lt)
    exact rg1D Q hQ w2 q x0 x1 x2 HS HEnd b Tb mD FD
  · obtain ⟨b, hb⟩ : ∃ v, W.alloc (.cells #[.int .u8 2, .string ⟨#[105, 110, 116]⟩, .int .i64 0, .slice none 0 0] 24) = v := ⟨_, rfl⟩
    have bb : Below W.heap.size W b := by rw [← hb]; exact (Below.refl _ _).alloc (Nat.le_refl _) _
    have BB : Blk b W.heap.size 24 #[.int .u8 2, .string ⟨#[105, 110, 116]⟩, .int .i64 0, .slice none 0 0] := by rw [← hb]; exact Blk.new _ _ _
    obtain ⟨mB, hn⟩ : ∃ v, W.heap.size = v := ⟨_, rfl⟩
    rw [hn] at BB
    have H := Lib.hid (And.intro hb (And.intro hn (And.intro bb BB)))
    have Tb : Hid (Below w2.heap.size w2 b) := Lib.hid (T.out.trans (bb.mono T.out.size))
    clear hb hn bb BB
    go_simp
    (try rw [H.out.1])
    (try rw [H.out.2.1])
    refine hK.out _ _ (HS.out _ Tb.out) (fun hHeld => ?_)
    clear hK K
    have FD := Lib.hid (FD.out.below H.out.2.2.1 FD.out.lt)
    have FB := Lib.hid H.out.2.2.2
    exact rg0BD Q hQ w2 q x0 x1 x2 HS HEnd b Tb mB FB mD FD
  · obtain ⟨b, hb⟩ : ∃ v, W.alloc (.cells #[.int .u8 2, .string ⟨#[105, 110, 116]⟩, .int .i64 0, .slice none 0 0, .int .u8 2, .string ⟨#[105, 110, 116]⟩, .int .i64 0, .slice none 0 0] 24) = v := ⟨_, rfl⟩
    have bb : Below W.heap.size W b := by rw [← hb]; exact (Below.refl _ _).alloc (Nat.le_refl _) _
    have BB : Blk b W.heap.size 24 #[.int .u8 2, .string ⟨#[105, 110, 116]⟩, .int .i64 0, .slice none 0 0, .int .u8 2, .string ⟨#[105, 110, 116]⟩, .int .i64 0, .slice none 0 0] := by rw [← hb]; exact Blk.new _ _ _
    obtain ⟨mC, hn⟩ : ∃ v, W.heap.size = v := ⟨_, rfl⟩
    rw [hn] at BB
    have H := Lib.hid (And.intro hb (And.intro hn (And.intro bb BB)))
    have Tb : Hid (Below w2.heap.size w2 b) := Lib.hid (T.out.trans (bb.mono T.out.size))
    clear hb hn bb BB
    go_simp
    (try rw [H.out.1])
    (try rw [H.out.2.1])
    refine hK.out _ _ (HS.out _ Tb.out) (fun hHeld => ?_)
    clear hK K
    have FD := Lib.hid (FD.out.below H.out.2.2.1 FD.out.lt)
    have FC := Lib.hid H.out.2.2.2
    exact rg0CD Q hQ w2 q x0 x1 x2 HS HEnd b Tb mC FC mD FD
set_option maxRecDepth 100000 in
set_option maxHeartbeats 4000000 in
theorem rg1 (Q : Exit → Act → World → Prop) (hQ : ∀ c d v (a : Act) (w : World), Q (.panic c) (a.put d v) w → Q (.panic c) a w) (w2 : World) (q : Nat) (x0 x1 x2 : Value) (HS : Hid (∀ W, Below w2.heap.size w2 W → (fun W : World => W.cell? ⟨q, 0, none⟩ = some (.int .u8 2) ∧ W.cell? ⟨q, 1, none⟩ = some (.string ⟨#[105, 110, 116]⟩) ∧ W.cell? ⟨q, 2, none⟩ = some (.int .i64 0) ∧ W.cell? ⟨q, 3, none⟩ = some (.slice none 0 0)) W)) (HEnd : Hid (RgEnd Q w2 q x0 x1 x2)) (W : World) (T : Hid (Below w2.heap.size w2 W))  : wpAnyH Tryd.prog .any rops Q (fun W : World => W.cell? ⟨q, 0, none⟩ = some (.int .u8 2) ∧ W.cell? ⟨q, 1, none⟩ = some (.string ⟨#[105, 110, 116]⟩) ∧ W.cell? ⟨q, 2, none⟩ = some (.int .i64 0) ∧ W.cell? ⟨q, 3, none⟩ = some (.slice none 0 0)) 13 #[true, true, false, false, true, true, false, true, false, false, false, false, true, true, false, false, true, false, false, true, false, false] { tmps := #[x0, x1, x2, undef, undef, undef, .bool false, .pointer (some ⟨q, 0, none⟩), undef, undef, undef, undef, undef, undef, undef, undef, .agg #[.int .u8 2, .string ⟨#[105, 110, 116]⟩, .int .i64 0, .slice none 0 0], .agg #[.int .u8 2, .string ⟨#[105, 110, 116]⟩, .int .i64 0, .slice none 0 0], .agg #[.int .u8 2, .string ⟨#[105, 110, 116]⟩, .int .i64 0, .slice none 0 0], undef, undef, .agg #[.int .u8 1, .string ⟨#[39, 98]⟩, .int .i64 0, .slice none 0 0], .agg #[.int .u8 2, .string ⟨#[101, 120, 110]⟩, .int .i64 0, .slice none 0 0], undef, .agg #[.int .u8 2, .string ⟨#[105, 110, 116]⟩, .int .i64 0, .slice none 0 0], undef, undef, undef, undef, .agg #[.int .u8 2, .string ⟨#[105, 110, 116]⟩, .int .i64 0, .slice none 0 0], .agg #[.int .u8 2, .string ⟨#[105, 110, 116]⟩, .int .i64 0, .slice none 0 0], undef, undef, .agg #[.int .u8 2, .string ⟨#[105, 110, 116]⟩, .int .i64 0, .slice none 0 0], undef, undef, .agg #[.int .u8 0, .string ⟨#[]⟩, .int .i64 0, .slice none 0 0], undef, undef, undef, undef, undef, undef, undef, undef, undef, undef, undef, undef, undef, undef, undef, undef, undef, undef, undef, undef, undef, undef, undef, undef, undef, undef, undef, undef, undef, undef, undef, undef, undef, undef, undef, undef, undef, undef, undef, undef, undef, undef, undef, undef, undef, undef, undef, undef, undef, undef, undef, undef, undef, undef, undef, undef, undef, undef, undef, undef, undef, undef, undef, undef, undef, undef, undef, undef, undef, undef, undef, undef], defers := [] } W := by
  have hHeld := HS.out W T.out
  refine wpAnyH_ready (rs := [2, 6, 8, 14, 17]) (by kernel_rfl) (by simp) ?_
  refine AllReadyH.cons (o := { dst := some 19, op := Op.buildSlice 22 2 #[(0, Operand.tmp 17), (1, Operand.tmp 18)], type := 22, pos := "law.go:211", after := #[{ on := 0, ground := Ground.data }, { on := 1, ground := Ground.data }], guard := none }) rfl (fun K hK => ?_) (AllReadyH.cons (o := { dst := some 23, op := Op.call { callee := Callee.value (Operand.func 10), args := #[Operand.const (Value.string { data := #[110, 111, 98, 111, 100, 121] }), Operand.const (Value.slice none 0 0)], argTypes := #[9, 22] }, type := 24, pos := "law.go:211", after := #[{ on := 5, ground := Ground.chain }], guard := none }) rfl (fun K hK => ?_) (AllReadyH.cons (o := { dst := some 25, op := Op.buildSlice 22 1 #[(0, Operand.tmp 24)], type := 22, pos := "law.go:211", after := #[{ on := 7, ground := Ground.data }], guard := none }) rfl (fun K hK => ?_) (AllReadyH.cons (o := { dst := some 31, op := Op.buildSlice 22 2 #[(0, Operand.tmp 29), (1, Operand.tmp 30)], type := 22, pos := "law.go:211", after := #[{ on := 12, ground := Ground.data }, { on := 13, ground := Ground.data }], guard := none }) rfl (fun K hK => ?_) (AllReadyH.cons (o := { dst := some 34, op := Op.buildSlice 22 1 #[(0, Operand.tmp 33)], type := 22, pos := "law.go:211", after := #[{ on := 16, ground := Ground.data }], guard := none }) rfl (fun K hK => ?_) AllReadyH.nil))))
  · obtain ⟨b, hb⟩ : ∃ v, W.alloc (.cells #[.int .u8 2, .string ⟨#[105, 110, 116]⟩, .int .i64 0, .slice none 0 0, .int .u8 2, .string ⟨#[105, 110, 116]⟩, .int .i64 0, .slice none 0 0] 24) = v := ⟨_, rfl⟩
    have bb : Below W.heap.size W b := by rw [← hb]; exact (Below.refl _ _).alloc (Nat.le_refl _) _
    have BB : Blk b W.heap.size 24 #[.int .u8 2, .string ⟨#[105, 110, 116]⟩, .int .i64 0, .slice none 0 0, .int .u8 2, .string ⟨#[105, 110, 116]⟩, .int .i64 0, .slice none 0 0] := by rw [← hb]; exact Blk.new _ _ _
    obtain ⟨mA, hn⟩ : ∃ v, W.heap.size = v := ⟨_, rfl⟩
    rw [hn] at BB
    have H := Lib.hid (And.intro hb (And.intro hn (And.intro bb BB)))
    have Tb : Hid (Below w2.heap.size w2 b) := Lib.hid (T.out.trans (bb.mono T.out.size))
    clear hb hn bb BB
    go_simp
    (try rw [H.out.1])
    (try rw [H.out.2.1])
    refine hK.out _ _ (HS.out _ Tb.out) (fun hHeld => ?_)
    clear hK K
    have FA := Lib.hid H.out.2.2.2
    refine takeY (oi := { dst := some 20, op := Op.build 24 #[(0, Operand.const (Value.int IntKind.u8 3)), (3, Operand.tmp 19)], type := 24, pos := "law.go:211", after := #[{ on := 2, ground := Ground.data }], guard := none }) 3 (some 20) rfl rfl (by kernel_rfl) (by kernel_rfl) (by kernel_rfl) (fun _ _ _ h => hQ _ _ _ _ _ h) (by rfl) (v := _) (by (intro _ hSw; (try dsimp only at hSw); go_simp; try with_reducible rfl)) hHeld ?_
    simp only [Act.put, List.setIfInBounds_toArray, List.set_cons_zero, List.set_cons_succ]
    exact rg1A Q hQ w2 q x0 x1 x2 HS HEnd b Tb mA FA
  · have HT := Lib.hid (named_any ⟨#[110, 111, 98, 111, 100, 121]⟩ none 0 0 W)
    clear hHeld
    go_simp
    go_wp2_with (go_at_call 10; refine Calls.mono HT.out ?_; rintro e b ⟨rfl, bb⟩; have Hb := Lib.hid bb; have Tb : Hid (Below w2.heap.size w2 b) := Lib.hid (T.out.trans (bb.mono T.out.size)))
    refine hK.out _ _ (HS.out _ Tb.out) (fun hHeld => ?_)
    clear hK K HT
    exact rg2 Q hQ w2 q x0 x1 x2 HS HEnd b Tb 
  · obtain ⟨b, hb⟩ : ∃ v, W.alloc (.cells #[.int .u8 2, .string ⟨#[105, 110, 116]⟩, .int .i64 0, .slice none 0 0] 24) = v := ⟨_, rfl⟩
    have bb : Below W.heap.size W b := by rw [← hb]; exact (Below.refl _ _).alloc (Nat.le_refl _) _
    have BB : Blk b W.heap.size 24 #[.int .u8 2, .string ⟨#[105, 110, 116]⟩, .int .i64 0, .slice none 0 0] := by rw [← hb]; exact Blk.new _ _ _
    obtain ⟨mB, hn⟩ : ∃ v, W.heap.size = v := ⟨_, rfl⟩
    rw [hn] at BB
    have H := Lib.hid (And.intro hb (And.intro hn (And.intro bb BB)))
    have Tb : Hid (Below w2.heap.size w2 b) := Lib.hid (T.out.trans (bb.mono T.out.size))
    clear hb hn bb BB
    go_simp
    (try rw [H.out.1])
    (try rw [H.out.2.1])
    refine hK.out _ _ (HS.out _ Tb.out) (fun hHeld => ?_)
    clear hK K
    have FB := Lib.hid H.out.2.2.2
    exact rg1B Q hQ w2 q x0 x1 x2 HS HEnd b Tb mB FB
  · obtain ⟨b, hb⟩ : ∃ v, W.alloc (.cells #[.int .u8 2, .string ⟨#[105, 110, 116]⟩, .int .i64 0, .slice none 0 0, .int .u8 2, .string ⟨#[105, 110, 116]⟩, .int .i64 0, .slice none 0 0] 24) = v := ⟨_, rfl⟩
    have bb : Below W.heap.size W b := by rw [← hb]; exact (Below.refl _ _).alloc (Nat.le_refl _) _
    have BB : Blk b W.heap.size 24 #[.int .u8 2, .string ⟨#[105, 110, 116]⟩, .int .i64 0, .slice none 0 0, .int .u8 2, .string ⟨#[105, 110, 116]⟩, .int .i64 0, .slice none 0 0] := by rw [← hb]; exact Blk.new _ _ _
    obtain ⟨mC, hn⟩ : ∃ v, W.heap.size = v := ⟨_, rfl⟩
    rw [hn] at BB
    have H := Lib.hid (And.intro hb (And.intro hn (And.intro bb BB)))
    have Tb : Hid (Below w2.heap.size w2 b) := Lib.hid (T.out.trans (bb.mono T.out.size))
    clear hb hn bb BB
    go_simp
    (try rw [H.out.1])
    (try rw [H.out.2.1])
    refine hK.out _ _ (HS.out _ Tb.out) (fun hHeld => ?_)
    clear hK K
    have FC := Lib.hid H.out.2.2.2
    exact rg1C Q hQ w2 q x0 x1 x2 HS HEnd b Tb mC FC
  · obtain ⟨b, hb⟩ : ∃ v, W.alloc (.cells #[.int .u8 2, .string ⟨#[105, 110, 116]⟩, .int .i64 0, .slice none 0 0] 24) = v := ⟨_, rfl⟩
    have bb : Below W.heap.size W b := by rw [← hb]; exact (Below.refl _ _).alloc (Nat.le_refl _) _
    have BB : Blk b W.heap.size 24 #[.int .u8 2, .string ⟨#[105, 110, 116]⟩, .int .i64 0, .slice none 0 0] := by rw [← hb]; exact Blk.new _ _ _
    obtain ⟨mD, hn⟩ : ∃ v, W.heap.size = v := ⟨_, rfl⟩
    rw [hn] at BB
    have H := Lib.hid (And.intro hb (And.intro hn (And.intro bb BB)))
    have Tb : Hid (Below w2.heap.size w2 b) := Lib.hid (T.out.trans (bb.mono T.out.size))
    clear hb hn bb BB
    go_simp
    (try rw [H.out.1])
    (try rw [H.out.2.1])
    refine hK.out _ _ (HS.out _ Tb.out) (fun hHeld => ?_)
    clear hK K
    have FD := Lib.hid H.out.2.2.2
    refine takeY (oi := { dst := some 35, op := Op.build 24 #[(0, Operand.const (Value.int IntKind.u8 4)), (3, Operand.tmp 34)], type := 24, pos := "law.go:211", after := #[{ on := 17, ground := Ground.data }], guard := none }) 18 (some 35) rfl rfl (by kernel_rfl) (by kernel_rfl) (by kernel_rfl) (fun _ _ _ h => hQ _ _ _ _ _ h) (by rfl) (v := _) (by (intro _ hSw; (try dsimp only at hSw); go_simp; try with_reducible rfl)) hHeld ?_
    simp only [Act.put, List.setIfInBounds_toArray, List.set_cons_zero, List.set_cons_succ]
    exact rg1D Q hQ w2 q x0 x1 x2 HS HEnd b Tb mD FD
set_option maxRecDepth 100000 in
set_option maxHeartbeats 4000000 in
theorem rg0 (Q : Exit → Act → World → Prop) (hQ : ∀ c d v (a : Act) (w : World), Q (.panic c) (a.put d v) w → Q (.panic c) a w) (w2 : World) (q : Nat) (x0 x1 x2 : Value) (HS : Hid (∀ W, Below w2.heap.size w2 W → (fun W : World => W.cell? ⟨q, 0, none⟩ = some (.int .u8 2) ∧ W.cell? ⟨q, 1, none⟩ = some (.string ⟨#[105, 110, 116]⟩) ∧ W.cell? ⟨q, 2, none⟩ = some (.int .i64 0) ∧ W.cell? ⟨q, 3, none⟩ = some (.slice none 0 0)) W)) (HEnd : Hid (RgEnd Q w2 q x0 x1 x2)) (W : World) (T : Hid (Below w2.heap.size w2 W))  : wpAnyH Tryd.prog .any rops Q (fun W : World => W.cell? ⟨q, 0, none⟩ = some (.int .u8 2) ∧ W.cell? ⟨q, 1, none⟩ = some (.string ⟨#[105, 110, 116]⟩) ∧ W.cell? ⟨q, 2, none⟩ = some (.int .i64 0) ∧ W.cell? ⟨q, 3, none⟩ = some (.slice none 0 0)) 14 #[true, true, false, false, true, false, false, true, false, false, false, false, true, true, false, false, true, false, false, true, false, false] { tmps := #[x0, x1, x2, undef, undef, undef, .bool false, .pointer (some ⟨q, 0, none⟩), undef, undef, undef, undef, undef, undef, undef, undef, .agg #[.int .u8 2, .string ⟨#[105, 110, 116]⟩, .int .i64 0, .slice none 0 0], .agg #[.int .u8 2, .string ⟨#[105, 110, 116]⟩, .int .i64 0, .slice none 0 0], .agg #[.int .u8 2, .string ⟨#[105, 110, 116]⟩, .int .i64 0, .slice none 0 0], undef, undef, .agg #[.int .u8 1, .string ⟨#[39, 98]⟩, .int .i64 0, .slice none 0 0], undef, undef, .agg #[.int .u8 2, .string ⟨#[105, 110, 116]⟩, .int .i64 0, .slice none 0 0], undef, undef, undef, undef, .agg #[.int .u8 2, .string ⟨#[105, 110, 116]⟩, .int .i64 0, .slice none 0 0], .agg #[.int .u8 2, .string ⟨#[105, 110, 116]⟩, .int .i64 0, .slice none 0 0], undef, undef, .agg #[.int .u8 2, .string ⟨#[105, 110, 116]⟩, .int .i64 0, .slice none 0 0], undef, undef, .agg #[.int .u8 0, .string ⟨#[]⟩, .int .i64 0, .slice none 0 0], undef, undef, undef, undef, undef, undef, undef, undef, undef, undef, undef, undef, undef, undef, undef, undef, undef, undef, undef, undef, undef, undef, undef, undef, undef, undef, undef, undef, undef, undef, undef, undef, undef, undef, undef, undef, undef, undef, undef, undef, undef, undef, undef, undef, undef, undef, undef, undef, undef, undef, undef, undef, undef, undef, undef, undef, undef, undef, undef, undef, undef, undef, undef, undef, undef, undef, undef, undef, undef, undef, undef, undef], defers := [] } W := by
  have hHeld := HS.out W T.out
  refine wpAnyH_ready (rs := [2, 5, 8, 14, 17]) (by kernel_rfl) (by simp) ?_
  refine AllReadyH.cons (o := { dst := some 19, op := Op.buildSlice 22 2 #[(0, Operand.tmp 17), (1, Operand.tmp 18)], type := 22, pos := "law.go:211", after := #[{ on := 0, ground := Ground.data }, { on := 1, ground := Ground.data }], guard := none }) rfl (fun K hK => ?_) (AllReadyH.cons (o := { dst := some 22, op := Op.call { callee := Callee.value (Operand.func 10), args := #[Operand.const (Value.string { data := #[101, 120, 110] }), Operand.const (Value.slice none 0 0)], argTypes := #[9, 22] }, type := 24, pos := "law.go:211", after := #[], guard := none }) rfl (fun K hK => ?_) (AllReadyH.cons (o := { dst := some 25, op := Op.buildSlice 22 1 #[(0, Operand.tmp 24)], type := 22, pos := "law.go:211", after := #[{ on := 7, ground := Ground.data }], guard := none }) rfl (fun K hK => ?_) (AllReadyH.cons (o := { dst := some 31, op := Op.buildSlice 22 2 #[(0, Operand.tmp 29), (1, Operand.tmp 30)], type := 22, pos := "law.go:211", after := #[{ on := 12, ground := Ground.data }, { on := 13, ground := Ground.data }], guard := none }) rfl (fun K hK => ?_) (AllReadyH.cons (o := { dst := some 34, op := Op.buildSlice 22 1 #[(0, Operand.tmp 33)], type := 22, pos := "law.go:211", after := #[{ on := 16, ground := Ground.data }], guard := none }) rfl (fun K hK => ?_) AllReadyH.nil))))
  · obtain ⟨b, hb⟩ : ∃ v, W.alloc (.cells #[.int .u8 2, .string ⟨#[105, 110, 116]⟩, .int .i64 0, .slice none 0 0, .int .u8 2, .string ⟨#[105, 110, 116]⟩, .int .i64 0, .slice none 0 0] 24) = v := ⟨_, rfl⟩
    have bb : Below W.heap.size W b := by rw [← hb]; exact (Below.refl _ _).alloc (Nat.le_refl _) _
    have BB : Blk b W.heap.size 24 #[.int .u8 2, .string ⟨#[105, 110, 116]⟩, .int .i64 0, .slice none 0 0, .int .u8 2, .string ⟨#[105, 110, 116]⟩, .int .i64 0, .slice none 0 0] := by rw [← hb]; exact Blk.new _ _ _
    obtain ⟨mA, hn⟩ : ∃ v, W.heap.size = v := ⟨_, rfl⟩
    rw [hn] at BB
    have H := Lib.hid (And.intro hb (And.intro hn (And.intro bb BB)))
    have Tb : Hid (Below w2.heap.size w2 b) := Lib.hid (T.out.trans (bb.mono T.out.size))
    clear hb hn bb BB
    go_simp
    (try rw [H.out.1])
    (try rw [H.out.2.1])
    refine hK.out _ _ (HS.out _ Tb.out) (fun hHeld => ?_)
    clear hK K
    have FA := Lib.hid H.out.2.2.2
    refine takeY (oi := { dst := some 20, op := Op.build 24 #[(0, Operand.const (Value.int IntKind.u8 3)), (3, Operand.tmp 19)], type := 24, pos := "law.go:211", after := #[{ on := 2, ground := Ground.data }], guard := none }) 3 (some 20) rfl rfl (by kernel_rfl) (by kernel_rfl) (by kernel_rfl) (fun _ _ _ h => hQ _ _ _ _ _ h) (by rfl) (v := _) (by (intro _ hSw; (try dsimp only at hSw); go_simp; try with_reducible rfl)) hHeld ?_
    simp only [Act.put, List.setIfInBounds_toArray, List.set_cons_zero, List.set_cons_succ]
    exact rg0A Q hQ w2 q x0 x1 x2 HS HEnd b Tb mA FA
  · have HT := Lib.hid (named_any ⟨#[101, 120, 110]⟩ none 0 0 W)
    clear hHeld
    go_simp
    go_wp2_with (go_at_call 10; refine Calls.mono HT.out ?_; rintro e b ⟨rfl, bb⟩; have Hb := Lib.hid bb; have Tb : Hid (Below w2.heap.size w2 b) := Lib.hid (T.out.trans (bb.mono T.out.size)))
    refine hK.out _ _ (HS.out _ Tb.out) (fun hHeld => ?_)
    clear hK K HT
    exact rg1 Q hQ w2 q x0 x1 x2 HS HEnd b Tb 
  · obtain ⟨b, hb⟩ : ∃ v, W.alloc (.cells #[.int .u8 2, .string ⟨#[105, 110, 116]⟩, .int .i64 0, .slice none 0 0] 24) = v := ⟨_, rfl⟩
    have bb : Below W.heap.size W b := by rw [← hb]; exact (Below.refl _ _).alloc (Nat.le_refl _) _
    have BB : Blk b W.heap.size 24 #[.int .u8 2, .string ⟨#[105, 110, 116]⟩, .int .i64 0, .slice none 0 0] := by rw [← hb]; exact Blk.new _ _ _
    obtain ⟨mB, hn⟩ : ∃ v, W.heap.size = v := ⟨_, rfl⟩
    rw [hn] at BB
    have H := Lib.hid (And.intro hb (And.intro hn (And.intro bb BB)))
    have Tb : Hid (Below w2.heap.size w2 b) := Lib.hid (T.out.trans (bb.mono T.out.size))
    clear hb hn bb BB
    go_simp
    (try rw [H.out.1])
    (try rw [H.out.2.1])
    refine hK.out _ _ (HS.out _ Tb.out) (fun hHeld => ?_)
    clear hK K
    have FB := Lib.hid H.out.2.2.2
    exact rg0B Q hQ w2 q x0 x1 x2 HS HEnd b Tb mB FB
  · obtain ⟨b, hb⟩ : ∃ v, W.alloc (.cells #[.int .u8 2, .string ⟨#[105, 110, 116]⟩, .int .i64 0, .slice none 0 0, .int .u8 2, .string ⟨#[105, 110, 116]⟩, .int .i64 0, .slice none 0 0] 24) = v := ⟨_, rfl⟩
    have bb : Below W.heap.size W b := by rw [← hb]; exact (Below.refl _ _).alloc (Nat.le_refl _) _
    have BB : Blk b W.heap.size 24 #[.int .u8 2, .string ⟨#[105, 110, 116]⟩, .int .i64 0, .slice none 0 0, .int .u8 2, .string ⟨#[105, 110, 116]⟩, .int .i64 0, .slice none 0 0] := by rw [← hb]; exact Blk.new _ _ _
    obtain ⟨mC, hn⟩ : ∃ v, W.heap.size = v := ⟨_, rfl⟩
    rw [hn] at BB
    have H := Lib.hid (And.intro hb (And.intro hn (And.intro bb BB)))
    have Tb : Hid (Below w2.heap.size w2 b) := Lib.hid (T.out.trans (bb.mono T.out.size))
    clear hb hn bb BB
    go_simp
    (try rw [H.out.1])
    (try rw [H.out.2.1])
    refine hK.out _ _ (HS.out _ Tb.out) (fun hHeld => ?_)
    clear hK K
    have FC := Lib.hid H.out.2.2.2
    exact rg0C Q hQ w2 q x0 x1 x2 HS HEnd b Tb mC FC
  · obtain ⟨b, hb⟩ : ∃ v, W.alloc (.cells #[.int .u8 2, .string ⟨#[105, 110, 116]⟩, .int .i64 0, .slice none 0 0] 24) = v := ⟨_, rfl⟩
    have bb : Below W.heap.size W b := by rw [← hb]; exact (Below.refl _ _).alloc (Nat.le_refl _) _
    have BB : Blk b W.heap.size 24 #[.int .u8 2, .string ⟨#[105, 110, 116]⟩, .int .i64 0, .slice none 0 0] := by rw [← hb]; exact Blk.new _ _ _
    obtain ⟨mD, hn⟩ : ∃ v, W.heap.size = v := ⟨_, rfl⟩
    rw [hn] at BB
    have H := Lib.hid (And.intro hb (And.intro hn (And.intro bb BB)))
    have Tb : Hid (Below w2.heap.size w2 b) := Lib.hid (T.out.trans (bb.mono T.out.size))
    clear hb hn bb BB
    go_simp
    (try rw [H.out.1])
    (try rw [H.out.2.1])
    refine hK.out _ _ (HS.out _ Tb.out) (fun hHeld => ?_)
    clear hK K
    have FD := Lib.hid H.out.2.2.2
    refine takeY (oi := { dst := some 35, op := Op.build 24 #[(0, Operand.const (Value.int IntKind.u8 4)), (3, Operand.tmp 34)], type := 24, pos := "law.go:211", after := #[{ on := 17, ground := Ground.data }], guard := none }) 18 (some 35) rfl rfl (by kernel_rfl) (by kernel_rfl) (by kernel_rfl) (fun _ _ _ h => hQ _ _ _ _ _ h) (by rfl) (v := _) (by (intro _ hSw; (try dsimp only at hSw); go_simp; try with_reducible rfl)) hHeld ?_
    simp only [Act.put, List.setIfInBounds_toArray, List.set_cons_zero, List.set_cons_succ]
    exact rg0D Q hQ w2 q x0 x1 x2 HS HEnd b Tb mD FD
end Go.Proofs.YtadogebhkldeiaaDoor
