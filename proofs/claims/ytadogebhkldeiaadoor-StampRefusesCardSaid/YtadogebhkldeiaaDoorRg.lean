/- stamp: the region of StampRefuses that lays the ten types: for each set of operations that are done, the rest. Written by wip/strg.py. -/
import Derived.Test.YtadogebhkldeiaaDoorJ
namespace Go.Proofs.YtadogebhkldeiaaDoor
open Go.RowKit Ty
set_option linter.unusedVariables false
set_option linter.unusedSimpArgs false
attribute [local go_sem] Oper.semAt_some
def rops : Array Oper := #[{ dst := some 17, op := Op.load 24 (Operand.tmp 7), type := 24, pos := "law.go:211", after := #[], guard := none }, { dst := some 18, op := Op.load 24 (Operand.tmp 7), type := 24, pos := "law.go:211", after := #[], guard := none }, { dst := some 19, op := Op.buildSlice 22 2 #[(0, Operand.tmp 17), (1, Operand.tmp 18)], type := 22, pos := "law.go:211", after := #[{ on := 0, ground := Ground.data }, { on := 1, ground := Ground.data }], guard := none }, { dst := some 20, op := Op.build 24 #[(0, Operand.const (Value.int IntKind.u8 3)), (3, Operand.tmp 19)], type := 24, pos := "law.go:211", after := #[{ on := 2, ground := Ground.data }], guard := none }, { dst := some 21, op := Op.build 24 #[(0, Operand.const (Value.int IntKind.u8 1)), (1, Operand.const (Value.string { data := #[39, 98] }))], type := 24, pos := "law.go:211", after := #[], guard := none }, { dst := some 22, op := Op.call { callee := Callee.value (Operand.func 10), args := #[Operand.const (Value.string { data := #[101, 120, 110] }), Operand.const (Value.slice none 0 0)], argTypes := #[9, 22] }, type := 24, pos := "law.go:211", after := #[], guard := none }, { dst := some 23, op := Op.call { callee := Callee.value (Operand.func 10), args := #[Operand.const (Value.string { data := #[110, 111, 98, 111, 100, 121] }), Operand.const (Value.slice none 0 0)], argTypes := #[9, 22] }, type := 24, pos := "law.go:211", after := #[{ on := 5, ground := Ground.chain }], guard := none }, { dst := some 24, op := Op.load 24 (Operand.tmp 7), type := 24, pos := "law.go:211", after := #[], guard := none }, { dst := some 25, op := Op.buildSlice 22 1 #[(0, Operand.tmp 24)], type := 22, pos := "law.go:211", after := #[{ on := 7, ground := Ground.data }], guard := none }, { dst := some 26, op := Op.call { callee := Callee.value (Operand.func 10), args := #[Operand.const (Value.string { data := #[105, 110, 116] }), Operand.tmp 25], argTypes := #[9, 22] }, type := 24, pos := "law.go:211", after := #[{ on := 8, ground := Ground.data }, { on := 6, ground := Ground.chain }], guard := none }, { dst := some 27, op := Op.call { callee := Callee.value (Operand.func 10), args := #[Operand.const (Value.string { data := #[114, 101, 102] }), Operand.const (Value.slice none 0 0)], argTypes := #[9, 22] }, type := 24, pos := "law.go:211", after := #[{ on := 9, ground := Ground.chain }], guard := none }, { dst := some 28, op := Op.call { callee := Callee.value (Operand.func 10), args := #[Operand.const (Value.string { data := #[108, 105, 115, 116] }), Operand.const (Value.slice none 0 0)], argTypes := #[9, 22] }, type := 24, pos := "law.go:211", after := #[{ on := 10, ground := Ground.chain }], guard := none }, { dst := some 29, op := Op.load 24 (Operand.tmp 7), type := 24, pos := "law.go:211", after := #[], guard := none }, { dst := some 30, op := Op.load 24 (Operand.tmp 7), type := 24, pos := "law.go:211", after := #[], guard := none }, { dst := some 31, op := Op.buildSlice 22 2 #[(0, Operand.tmp 29), (1, Operand.tmp 30)], type := 22, pos := "law.go:211", after := #[{ on := 12, ground := Ground.data }, { on := 13, ground := Ground.data }], guard := none }, { dst := some 32, op := Op.call { callee := Callee.value (Operand.func 10), args := #[Operand.const (Value.string { data := #[97, 114, 114, 97, 121] }), Operand.tmp 31], argTypes := #[9, 22] }, type := 24, pos := "law.go:211", after := #[{ on := 14, ground := Ground.data }, { on := 11, ground := Ground.chain }], guard := none }, { dst := some 33, op := Op.load 24 (Operand.tmp 7), type := 24, pos := "law.go:211", after := #[], guard := none }, { dst := some 34, op := Op.buildSlice 22 1 #[(0, Operand.tmp 33)], type := 22, pos := "law.go:211", after := #[{ on := 16, ground := Ground.data }], guard := none }, { dst := some 35, op := Op.build 24 #[(0, Operand.const (Value.int IntKind.u8 4)), (3, Operand.tmp 34)], type := 24, pos := "law.go:211", after := #[{ on := 17, ground := Ground.data }], guard := none }, { dst := some 36, op := Op.build 24 #[], type := 24, pos := "law.go:211", after := #[], guard := none }, { dst := some 37, op := Op.buildSlice 22 10 #[(0, Operand.tmp 20), (1, Operand.tmp 21), (2, Operand.tmp 22), (3, Operand.tmp 23), (4, Operand.tmp 26), (5, Operand.tmp 27), (6, Operand.tmp 28), (7, Operand.tmp 32), (8, Operand.tmp 35), (9, Operand.tmp 36)], type := 22, pos := "law.go:211", after := #[{ on := 3, ground := Ground.data }, { on := 4, ground := Ground.data }, { on := 5, ground := Ground.data }, { on := 6, ground := Ground.data }, { on := 9, ground := Ground.data }, { on := 10, ground := Ground.data }, { on := 11, ground := Ground.data }, { on := 15, ground := Ground.data }, { on := 18, ground := Ground.data }, { on := 19, ground := Ground.data }], guard := none }, { dst := some 8, op := Op.assign (Operand.tmp 37), type := 22, pos := "law.go:211", after := #[{ on := 20, ground := Ground.data }, { on := 15, ground := Ground.chain }, { on := 0, ground := Ground.phase }, { on := 1, ground := Ground.phase }, { on := 2, ground := Ground.phase }, { on := 3, ground := Ground.phase }, { on := 4, ground := Ground.phase }, { on := 5, ground := Ground.phase }, { on := 6, ground := Ground.phase }, { on := 7, ground := Ground.phase }, { on := 8, ground := Ground.phase }, { on := 9, ground := Ground.phase }, { on := 10, ground := Ground.phase }, { on := 11, ground := Ground.phase }, { on := 12, ground := Ground.phase }, { on := 13, ground := Ground.phase }, { on := 14, ground := Ground.phase }, { on := 15, ground := Ground.phase }, { on := 16, ground := Ground.phase }, { on := 17, ground := Ground.phase }, { on := 18, ground := Ground.phase }, { on := 19, ground := Ground.phase }, { on := 20, ground := Ground.phase }], guard := none }]
/-- What the region's end is told. -/
def RgEnd (Q : Exit → Act → World → Prop) (w2 : World) (q : Nat) (x0 x1 x2 : Value) : Prop := ∀ (W : World) (mA mB mC mD mF : Nat), Below w2.heap.size w2 W → Blk W mA 24 #[.int .u8 2, .string ⟨#[105, 110, 116]⟩, .int .i64 0, .slice none 0 0, .int .u8 2, .string ⟨#[105, 110, 116]⟩, .int .i64 0, .slice none 0 0] → Blk W mB 24 #[.int .u8 2, .string ⟨#[105, 110, 116]⟩, .int .i64 0, .slice none 0 0] → Blk W mC 24 #[.int .u8 2, .string ⟨#[105, 110, 116]⟩, .int .i64 0, .slice none 0 0, .int .u8 2, .string ⟨#[105, 110, 116]⟩, .int .i64 0, .slice none 0 0] → Blk W mD 24 #[.int .u8 2, .string ⟨#[105, 110, 116]⟩, .int .i64 0, .slice none 0 0] → Blk W mF 24 #[.int .u8 3, .string ⟨#[]⟩, .int .i64 0, .slice (some ⟨mA, 0, none⟩) 2 2, .int .u8 1, .string ⟨#[39, 98]⟩, .int .i64 0, .slice none 0 0, .int .u8 2, .string ⟨#[101, 120, 110]⟩, .int .i64 0, .slice none 0 0, .int .u8 2, .string ⟨#[110, 111, 98, 111, 100, 121]⟩, .int .i64 0, .slice none 0 0, .int .u8 2, .string ⟨#[105, 110, 116]⟩, .int .i64 0, .slice (some ⟨mB, 0, none⟩) 1 1, .int .u8 2, .string ⟨#[114, 101, 102]⟩, .int .i64 0, .slice none 0 0, .int .u8 2, .string ⟨#[108, 105, 115, 116]⟩, .int .i64 0, .slice none 0 0, .int .u8 2, .string ⟨#[97, 114, 114, 97, 121]⟩, .int .i64 0, .slice (some ⟨mC, 0, none⟩) 2 2, .int .u8 4, .string ⟨#[]⟩, .int .i64 0, .slice (some ⟨mD, 0, none⟩) 1 1, .int .u8 0, .string ⟨#[]⟩, .int .i64 0, .slice none 0 0] → Q .normal { tmps := #[x0, x1, x2, undef, undef, undef, .bool false, .pointer (some ⟨q, 0, none⟩), .slice (some ⟨mF, 0, none⟩) 10 10, undef, undef, undef, undef, undef, undef, undef, .agg #[.int .u8 2, .string ⟨#[105, 110, 116]⟩, .int .i64 0, .slice none 0 0], .agg #[.int .u8 2, .string ⟨#[105, 110, 116]⟩, .int .i64 0, .slice none 0 0], .agg #[.int .u8 2, .string ⟨#[105, 110, 116]⟩, .int .i64 0, .slice none 0 0], .slice (some ⟨mA, 0, none⟩) 2 2, .agg #[.int .u8 3, .string ⟨#[]⟩, .int .i64 0, .slice (some ⟨mA, 0, none⟩) 2 2], .agg #[.int .u8 1, .string ⟨#[39, 98]⟩, .int .i64 0, .slice none 0 0], .agg #[.int .u8 2, .string ⟨#[101, 120, 110]⟩, .int .i64 0, .slice none 0 0], .agg #[.int .u8 2, .string ⟨#[110, 111, 98, 111, 100, 121]⟩, .int .i64 0, .slice none 0 0], .agg #[.int .u8 2, .string ⟨#[105, 110, 116]⟩, .int .i64 0, .slice none 0 0], .slice (some ⟨mB, 0, none⟩) 1 1, .agg #[.int .u8 2, .string ⟨#[105, 110, 116]⟩, .int .i64 0, .slice (some ⟨mB, 0, none⟩) 1 1], .agg #[.int .u8 2, .string ⟨#[114, 101, 102]⟩, .int .i64 0, .slice none 0 0], .agg #[.int .u8 2, .string ⟨#[108, 105, 115, 116]⟩, .int .i64 0, .slice none 0 0], .agg #[.int .u8 2, .string ⟨#[105, 110, 116]⟩, .int .i64 0, .slice none 0 0], .agg #[.int .u8 2, .string ⟨#[105, 110, 116]⟩, .int .i64 0, .slice none 0 0], .slice (some ⟨mC, 0, none⟩) 2 2, .agg #[.int .u8 2, .string ⟨#[97, 114, 114, 97, 121]⟩, .int .i64 0, .slice (some ⟨mC, 0, none⟩) 2 2], .agg #[.int .u8 2, .string ⟨#[105, 110, 116]⟩, .int .i64 0, .slice none 0 0], .slice (some ⟨mD, 0, none⟩) 1 1, .agg #[.int .u8 4, .string ⟨#[]⟩, .int .i64 0, .slice (some ⟨mD, 0, none⟩) 1 1], .agg #[.int .u8 0, .string ⟨#[]⟩, .int .i64 0, .slice none 0 0], .slice (some ⟨mF, 0, none⟩) 10 10, undef, undef, undef, undef, undef, undef, undef, undef, undef, undef, undef, undef, undef, undef, undef, undef, undef, undef, undef, undef, undef, undef, undef, undef, undef, undef, undef, undef, undef, undef, undef, undef, undef, undef, undef, undef, undef, undef, undef, undef, undef, undef, undef, undef, undef, undef, undef, undef, undef, undef, undef, undef, undef, undef, undef, undef, undef, undef, undef, undef, undef, undef, undef, undef, undef, undef, undef, undef, undef, undef, undef], defers := [] } W
def RgS (q : Nat) (W : World) : Prop := (fun W : World => W.cell? ⟨q, 0, none⟩ = some (.int .u8 2) ∧ W.cell? ⟨q, 1, none⟩ = some (.string ⟨#[105, 110, 116]⟩) ∧ W.cell? ⟨q, 2, none⟩ = some (.int .i64 0) ∧ W.cell? ⟨q, 3, none⟩ = some (.slice none 0 0)) W

set_option maxRecDepth 100000 in
set_option maxHeartbeats 4000000 in
theorem rg6ABCD (Q : Exit → Act → World → Prop) (hQ : ∀ c d v (a : Act) (w : World), Q (.panic c) (a.put d v) w → Q (.panic c) a w) (w2 : World) (q : Nat) (x0 x1 x2 : Value) (HS : Hid (∀ W, Below w2.heap.size w2 W → (fun W : World => W.cell? ⟨q, 0, none⟩ = some (.int .u8 2) ∧ W.cell? ⟨q, 1, none⟩ = some (.string ⟨#[105, 110, 116]⟩) ∧ W.cell? ⟨q, 2, none⟩ = some (.int .i64 0) ∧ W.cell? ⟨q, 3, none⟩ = some (.slice none 0 0)) W)) (HEnd : Hid (RgEnd Q w2 q x0 x1 x2)) (W : World) (T : Hid (Below w2.heap.size w2 W)) (mA : Nat) (FA : Hid (Blk W mA 24 #[.int .u8 2, .string ⟨#[105, 110, 116]⟩, .int .i64 0, .slice none 0 0, .int .u8 2, .string ⟨#[105, 110, 116]⟩, .int .i64 0, .slice none 0 0])) (mB : Nat) (FB : Hid (Blk W mB 24 #[.int .u8 2, .string ⟨#[105, 110, 116]⟩, .int .i64 0, .slice none 0 0])) (mC : Nat) (FC : Hid (Blk W mC 24 #[.int .u8 2, .string ⟨#[105, 110, 116]⟩, .int .i64 0, .slice none 0 0, .int .u8 2, .string ⟨#[105, 110, 116]⟩, .int .i64 0, .slice none 0 0])) (mD : Nat) (FD : Hid (Blk W mD 24 #[.int .u8 2, .string ⟨#[105, 110, 116]⟩, .int .i64 0, .slice none 0 0])) : wpAnyH Tryd.prog .any rops Q (fun W : World => W.cell? ⟨q, 0, none⟩ = some (.int .u8 2) ∧ W.cell? ⟨q, 1, none⟩ = some (.string ⟨#[105, 110, 116]⟩) ∧ W.cell? ⟨q, 2, none⟩ = some (.int .i64 0) ∧ W.cell? ⟨q, 3, none⟩ = some (.slice none 0 0)) 2 #[true, true, true, true, true, true, true, true, true, true, true, true, true, true, true, true, true, true, true, true, false, false] { tmps := #[x0, x1, x2, undef, undef, undef, .bool false, .pointer (some ⟨q, 0, none⟩), undef, undef, undef, undef, undef, undef, undef, undef, .agg #[.int .u8 2, .string ⟨#[105, 110, 116]⟩, .int .i64 0, .slice none 0 0], .agg #[.int .u8 2, .string ⟨#[105, 110, 116]⟩, .int .i64 0, .slice none 0 0], .agg #[.int .u8 2, .string ⟨#[105, 110, 116]⟩, .int .i64 0, .slice none 0 0], .slice (some ⟨mA, 0, none⟩) 2 2, .agg #[.int .u8 3, .string ⟨#[]⟩, .int .i64 0, .slice (some ⟨mA, 0, none⟩) 2 2], .agg #[.int .u8 1, .string ⟨#[39, 98]⟩, .int .i64 0, .slice none 0 0], .agg #[.int .u8 2, .string ⟨#[101, 120, 110]⟩, .int .i64 0, .slice none 0 0], .agg #[.int .u8 2, .string ⟨#[110, 111, 98, 111, 100, 121]⟩, .int .i64 0, .slice none 0 0], .agg #[.int .u8 2, .string ⟨#[105, 110, 116]⟩, .int .i64 0, .slice none 0 0], .slice (some ⟨mB, 0, none⟩) 1 1, .agg #[.int .u8 2, .string ⟨#[105, 110, 116]⟩, .int .i64 0, .slice (some ⟨mB, 0, none⟩) 1 1], .agg #[.int .u8 2, .string ⟨#[114, 101, 102]⟩, .int .i64 0, .slice none 0 0], .agg #[.int .u8 2, .string ⟨#[108, 105, 115, 116]⟩, .int .i64 0, .slice none 0 0], .agg #[.int .u8 2, .string ⟨#[105, 110, 116]⟩, .int .i64 0, .slice none 0 0], .agg #[.int .u8 2, .string ⟨#[105, 110, 116]⟩, .int .i64 0, .slice none 0 0], .slice (some ⟨mC, 0, none⟩) 2 2, .agg #[.int .u8 2, .string ⟨#[97, 114, 114, 97, 121]⟩, .int .i64 0, .slice (some ⟨mC, 0, none⟩) 2 2], .agg #[.int .u8 2, .string ⟨#[105, 110, 116]⟩, .int .i64 0, .slice none 0 0], .slice (some ⟨mD, 0, none⟩) 1 1, .agg #[.int .u8 4, .string ⟨#[]⟩, .int .i64 0, .slice (some ⟨mD, 0, none⟩) 1 1], .agg #[.int .u8 0, .string ⟨#[]⟩, .int .i64 0, .slice none 0 0], undef, undef, undef, undef, undef, undef, undef, undef, undef, undef, undef, undef, undef, undef, undef, undef, undef, undef, undef, undef, undef, undef, undef, undef, undef, undef, undef, undef, undef, undef, undef, undef, undef, undef, undef, undef, undef, undef, undef, undef, undef, undef, undef, undef, undef, undef, undef, undef, undef, undef, undef, undef, undef, undef, undef, undef, undef, undef, undef, undef, undef, undef, undef, undef, undef, undef, undef, undef, undef, undef, undef, undef], defers := [] } W := by
  have hHeld := HS.out W T.out
  refine wpAnyH_ready (rs := [20]) (by kernel_rfl) (by simp) ?_
  refine AllReadyH.cons (o := { dst := some 37, op := Op.buildSlice 22 10 #[(0, Operand.tmp 20), (1, Operand.tmp 21), (2, Operand.tmp 22), (3, Operand.tmp 23), (4, Operand.tmp 26), (5, Operand.tmp 27), (6, Operand.tmp 28), (7, Operand.tmp 32), (8, Operand.tmp 35), (9, Operand.tmp 36)], type := 22, pos := "law.go:211", after := #[{ on := 3, ground := Ground.data }, { on := 4, ground := Ground.data }, { on := 5, ground := Ground.data }, { on := 6, ground := Ground.data }, { on := 9, ground := Ground.data }, { on := 10, ground := Ground.data }, { on := 11, ground := Ground.data }, { on := 15, ground := Ground.data }, { on := 18, ground := Ground.data }, { on := 19, ground := Ground.data }], guard := none }) rfl (fun K hK => ?_) AllReadyH.nil
  · obtain ⟨b, hb⟩ : ∃ v, W.alloc (.cells #[.int .u8 3, .string ⟨#[]⟩, .int .i64 0, .slice (some ⟨mA, 0, none⟩) 2 2, .int .u8 1, .string ⟨#[39, 98]⟩, .int .i64 0, .slice none 0 0, .int .u8 2, .string ⟨#[101, 120, 110]⟩, .int .i64 0, .slice none 0 0, .int .u8 2, .string ⟨#[110, 111, 98, 111, 100, 121]⟩, .int .i64 0, .slice none 0 0, .int .u8 2, .string ⟨#[105, 110, 116]⟩, .int .i64 0, .slice (some ⟨mB, 0, none⟩) 1 1, .int .u8 2, .string ⟨#[114, 101, 102]⟩, .int .i64 0, .slice none 0 0, .int .u8 2, .string ⟨#[108, 105, 115, 116]⟩, .int .i64 0, .slice none 0 0, .int .u8 2, .string ⟨#[97, 114, 114, 97, 121]⟩, .int .i64 0, .slice (some ⟨mC, 0, none⟩) 2 2, .int .u8 4, .string ⟨#[]⟩, .int .i64 0, .slice (some ⟨mD, 0, none⟩) 1 1, .int .u8 0, .string ⟨#[]⟩, .int .i64 0, .slice none 0 0] 24) = v := ⟨_, rfl⟩
    have bb : Below W.heap.size W b := by rw [← hb]; exact (Below.refl _ _).alloc (Nat.le_refl _) _
    have BB : Blk b W.heap.size 24 #[.int .u8 3, .string ⟨#[]⟩, .int .i64 0, .slice (some ⟨mA, 0, none⟩) 2 2, .int .u8 1, .string ⟨#[39, 98]⟩, .int .i64 0, .slice none 0 0, .int .u8 2, .string ⟨#[101, 120, 110]⟩, .int .i64 0, .slice none 0 0, .int .u8 2, .string ⟨#[110, 111, 98, 111, 100, 121]⟩, .int .i64 0, .slice none 0 0, .int .u8 2, .string ⟨#[105, 110, 116]⟩, .int .i64 0, .slice (some ⟨mB, 0, none⟩) 1 1, .int .u8 2, .string ⟨#[114, 101, 102]⟩, .int .i64 0, .slice none 0 0, .int .u8 2, .string ⟨#[108, 105, 115, 116]⟩, .int .i64 0, .slice none 0 0, .int .u8 2, .string ⟨#[97, 114, 114, 97, 121]⟩, .int .i64 0, .slice (some ⟨mC, 0, none⟩) 2 2, .int .u8 4, .string ⟨#[]⟩, .int .i64 0, .slice (some ⟨mD, 0, none⟩) 1 1, .int .u8 0, .string ⟨#[]⟩, .int .i64 0, .slice none 0 0] := by rw [← hb]; exact Blk.new _ _ _
    obtain ⟨mF, hn⟩ : ∃ v, W.heap.size = v := ⟨_, rfl⟩
    rw [hn] at BB
    have H := Lib.hid (And.intro hb (And.intro hn (And.intro bb BB)))
    have Tb : Hid (Below w2.heap.size w2 b) := Lib.hid (T.out.trans (bb.mono T.out.size))
    clear hb hn bb BB
    go_simp
    (try rw [H.out.1])
    (try rw [H.out.2.1])
    refine hK.out _ _ (HS.out _ Tb.out) (fun hHeld => ?_)
    clear hK K
    have FA := Lib.hid (FA.out.below H.out.2.2.1 FA.out.lt)
    have FB := Lib.hid (FB.out.below H.out.2.2.1 FB.out.lt)
    have FC := Lib.hid (FC.out.below H.out.2.2.1 FC.out.lt)
    have FD := Lib.hid (FD.out.below H.out.2.2.1 FD.out.lt)
    have FF := Lib.hid H.out.2.2.2
    refine takeY (oi := { dst := some 8, op := Op.assign (Operand.tmp 37), type := 22, pos := "law.go:211", after := #[{ on := 20, ground := Ground.data }, { on := 15, ground := Ground.chain }, { on := 0, ground := Ground.phase }, { on := 1, ground := Ground.phase }, { on := 2, ground := Ground.phase }, { on := 3, ground := Ground.phase }, { on := 4, ground := Ground.phase }, { on := 5, ground := Ground.phase }, { on := 6, ground := Ground.phase }, { on := 7, ground := Ground.phase }, { on := 8, ground := Ground.phase }, { on := 9, ground := Ground.phase }, { on := 10, ground := Ground.phase }, { on := 11, ground := Ground.phase }, { on := 12, ground := Ground.phase }, { on := 13, ground := Ground.phase }, { on := 14, ground := Ground.phase }, { on := 15, ground := Ground.phase }, { on := 16, ground := Ground.phase }, { on := 17, ground := Ground.phase }, { on := 18, ground := Ground.phase }, { on := 19, ground := Ground.phase }, { on := 20, ground := Ground.phase }], guard := none }) 21 (some 8) rfl rfl (by kernel_rfl) (by kernel_rfl) (by kernel_rfl) (fun _ _ _ h => hQ _ _ _ _ _ h) (by rfl) (v := _) (by (intro _ hSw; (try dsimp only at hSw); go_simp; try with_reducible rfl)) hHeld ?_
    simp only [Act.put, List.setIfInBounds_toArray, List.set_cons_zero, List.set_cons_succ]
    refine wpAnyH_done (by kernel_rfl) ?_ _
    exact HEnd.out _ _ _ _ _ _ Tb.out FA.out FB.out FC.out FD.out FF.out
set_option maxRecDepth 100000 in
set_option maxHeartbeats 4000000 in
theorem rg5ABCD (Q : Exit → Act → World → Prop) (hQ : ∀ c d v (a : Act) (w : World), Q (.panic c) (a.put d v) w → Q (.panic c) a w) (w2 : World) (q : Nat) (x0 x1 x2 : Value) (HS : Hid (∀ W, Below w2.heap.size w2 W → (fun W : World => W.cell? ⟨q, 0, none⟩ = some (.int .u8 2) ∧ W.cell? ⟨q, 1, none⟩ = some (.string ⟨#[105, 110, 116]⟩) ∧ W.cell? ⟨q, 2, none⟩ = some (.int .i64 0) ∧ W.cell? ⟨q, 3, none⟩ = some (.slice none 0 0)) W)) (HEnd : Hid (RgEnd Q w2 q x0 x1 x2)) (W : World) (T : Hid (Below w2.heap.size w2 W)) (mA : Nat) (FA : Hid (Blk W mA 24 #[.int .u8 2, .string ⟨#[105, 110, 116]⟩, .int .i64 0, .slice none 0 0, .int .u8 2, .string ⟨#[105, 110, 116]⟩, .int .i64 0, .slice none 0 0])) (mB : Nat) (FB : Hid (Blk W mB 24 #[.int .u8 2, .string ⟨#[105, 110, 116]⟩, .int .i64 0, .slice none 0 0])) (mC : Nat) (FC : Hid (Blk W mC 24 #[.int .u8 2, .string ⟨#[105, 110, 116]⟩, .int .i64 0, .slice none 0 0, .int .u8 2, .string ⟨#[105, 110, 116]⟩, .int .i64 0, .slice none 0 0])) (mD : Nat) (FD : Hid (Blk W mD 24 #[.int .u8 2, .string ⟨#[105, 110, 116]⟩, .int .i64 0, .slice none 0 0])) : wpAnyH Tryd.prog .any rops Q (fun W : World => W.cell? ⟨q, 0, none⟩ = some (.int .u8 2) ∧ W.cell? ⟨q, 1, none⟩ = some (.string ⟨#[105, 110, 116]⟩) ∧ W.cell? ⟨q, 2, none⟩ = some (.int .i64 0) ∧ W.cell? ⟨q, 3, none⟩ = some (.slice none 0 0)) 3 #[true, true, true, true, true, true, true, true, true, true, true, true, true, true, true, false, true, true, true, true, false, false] { tmps := #[x0, x1, x2, undef, undef, undef, .bool false, .pointer (some ⟨q, 0, none⟩), undef, undef, undef, undef, undef, undef, undef, undef, .agg #[.int .u8 2, .string ⟨#[105, 110, 116]⟩, .int .i64 0, .slice none 0 0], .agg #[.int .u8 2, .string ⟨#[105, 110, 116]⟩, .int .i64 0, .slice none 0 0], .agg #[.int .u8 2, .string ⟨#[105, 110, 116]⟩, .int .i64 0, .slice none 0 0], .slice (some ⟨mA, 0, none⟩) 2 2, .agg #[.int .u8 3, .string ⟨#[]⟩, .int .i64 0, .slice (some ⟨mA, 0, none⟩) 2 2], .agg #[.int .u8 1, .string ⟨#[39, 98]⟩, .int .i64 0, .slice none 0 0], .agg #[.int .u8 2, .string ⟨#[101, 120, 110]⟩, .int .i64 0, .slice none 0 0], .agg #[.int .u8 2, .string ⟨#[110, 111, 98, 111, 100, 121]⟩, .int .i64 0, .slice none 0 0], .agg #[.int .u8 2, .string ⟨#[105, 110, 116]⟩, .int .i64 0, .slice none 0 0], .slice (some ⟨mB, 0, none⟩) 1 1, .agg #[.int .u8 2, .string ⟨#[105, 110, 116]⟩, .int .i64 0, .slice (some ⟨mB, 0, none⟩) 1 1], .agg #[.int .u8 2, .string ⟨#[114, 101, 102]⟩, .int .i64 0, .slice none 0 0], .agg #[.int .u8 2, .string ⟨#[108, 105, 115, 116]⟩, .int .i64 0, .slice none 0 0], .agg #[.int .u8 2, .string ⟨#[105, 110, 116]⟩, .int .i64 0, .slice none 0 0], .agg #[.int .u8 2, .string ⟨#[105, 110, 116]⟩, .int .i64 0, .slice none 0 0], .slice (some ⟨mC, 0, none⟩) 2 2, undef, .agg #[.int .u8 2, .string ⟨#[105, 110, 116]⟩, .int .i64 0, .slice none 0 0], .slice (some ⟨mD, 0, none⟩) 1 1, .agg #[.int .u8 4, .string ⟨#[]⟩, .int .i64 0, .slice (some ⟨mD, 0, none⟩) 1 1], .agg #[.int .u8 0, .string ⟨#[]⟩, .int .i64 0, .slice none 0 0], undef, undef, undef, undef, undef, undef, undef, undef, undef, undef, undef, undef, undef, undef, undef, undef, undef, undef, undef, undef, undef, undef, undef, undef, undef, undef, undef, undef, undef, undef, undef, undef, undef, undef, undef, undef, undef, undef, undef, undef, undef, undef, undef, undef, undef, undef, undef, undef, undef, undef, undef, undef, undef, undef, undef, undef, undef, undef, undef, undef, undef, undef, undef, undef, undef, undef, undef, undef, undef, undef, undef, undef], defers := [] } W := by
  have hHeld := HS.out W T.out
  refine wpAnyH_ready (rs := [15]) (by kernel_rfl) (by simp) ?_
  refine AllReadyH.cons (o := { dst := some 32, op := Op.call { callee := Callee.value (Operand.func 10), args := #[Operand.const (Value.string { data := #[97, 114, 114, 97, 121] }), Operand.tmp 31], argTypes := #[9, 22] }, type := 24, pos := "law.go:211", after := #[{ on := 14, ground := Ground.data }, { on := 11, ground := Ground.chain }], guard := none }) rfl (fun K hK => ?_) AllReadyH.nil
  · have HT := Lib.hid (named_any ⟨#[97, 114, 114, 97, 121]⟩ (some ⟨mC, 0, none⟩) 2 2 W)
    clear hHeld
    go_simp
    go_wp2_with (go_at_call 10; refine Calls.mono HT.out ?_; rintro e b ⟨rfl, bb⟩; have Hb := Lib.hid bb; have Tb : Hid (Below w2.heap.size w2 b) := Lib.hid (T.out.trans (bb.mono T.out.size)))
    refine hK.out _ _ (HS.out _ Tb.out) (fun hHeld => ?_)
    clear hK K HT
    have FA := Lib.hid (FA.out.below Hb.out FA.out.lt)
    have FB := Lib.hid (FB.out.below Hb.out FB.out.lt)
    have FC := Lib.hid (FC.out.below Hb.out FC.out.lt)
    have FD := Lib.hid (FD.out.below Hb.out FD.out.lt)
    exact rg6ABCD Q hQ w2 q x0 x1 x2 HS HEnd b Tb mA FA mB FB mC FC mD FD
set_option maxRecDepth 100000 in
set_option maxHeartbeats 4000000 in
theorem rg6ABC (Q : Exit → Act → World → Prop) (hQ : ∀ c d v (a : Act) (w : World), Q (.panic c) (a.put d v) w → Q (.panic c) a w) (w2 : World) (q : Nat) (x0 x1 x2 : Value) (HS : Hid (∀ W, Below w2.heap.size w2 W → (fun W : World => W.cell? ⟨q, 0, none⟩ = some (.int .u8 2) ∧ W.cell? ⟨q, 1, none⟩ = some (.string ⟨#[105, 110, 116]⟩) ∧ W.cell? ⟨q, 2, none⟩ = some (.int .i64 0) ∧ W.cell? ⟨q, 3, none⟩ = some (.slice none 0 0)) W)) (HEnd : Hid (RgEnd Q w2 q x0 x1 x2)) (W : World) (T : Hid (Below w2.heap.size w2 W)) (mA : Nat) (FA : Hid (Blk W mA 24 #[.int .u8 2, .string ⟨#[105, 110, 116]⟩, .int .i64 0, .slice none 0 0, .int .u8 2, .string ⟨#[105, 110, 116]⟩, .int .i64 0, .slice none 0 0])) (mB : Nat) (FB : Hid (Blk W mB 24 #[.int .u8 2, .string ⟨#[105, 110, 116]⟩, .int .i64 0, .slice none 0 0])) (mC : Nat) (FC : Hid (Blk W mC 24 #[.int .u8 2, .string ⟨#[105, 110, 116]⟩, .int .i64 0, .slice none 0 0, .int .u8 2, .string ⟨#[105, 110, 116]⟩, .int .i64 0, .slice none 0 0])) : wpAnyH Tryd.prog .any rops Q (fun W : World => W.cell? ⟨q, 0, none⟩ = some (.int .u8 2) ∧ W.cell? ⟨q, 1, none⟩ = some (.string ⟨#[105, 110, 116]⟩) ∧ W.cell? ⟨q, 2, none⟩ = some (.int .i64 0) ∧ W.cell? ⟨q, 3, none⟩ = some (.slice none 0 0)) 4 #[true, true, true, true, true, true, true, true, true, true, true, true, true, true, true, true, true, false, false, true, false, false] { tmps := #[x0, x1, x2, undef, undef, undef, .bool false, .pointer (some ⟨q, 0, none⟩), undef, undef, undef, undef, undef, undef, undef, undef, .agg #[.int .u8 2, .string ⟨#[105, 110, 116]⟩, .int .i64 0, .slice none 0 0], .agg #[.int .u8 2, .string ⟨#[105, 110, 116]⟩, .int .i64 0, .slice none 0 0], .agg #[.int .u8 2, .string ⟨#[105, 110, 116]⟩, .int .i64 0, .slice none 0 0], .slice (some ⟨mA, 0, none⟩) 2 2, .agg #[.int .u8 3, .string ⟨#[]⟩, .int .i64 0, .slice (some ⟨mA, 0, none⟩) 2 2], .agg #[.int .u8 1, .string ⟨#[39, 98]⟩, .int .i64 0, .slice none 0 0], .agg #[.int .u8 2, .string ⟨#[101, 120, 110]⟩, .int .i64 0, .slice none 0 0], .agg #[.int .u8 2, .string ⟨#[110, 111, 98, 111, 100, 121]⟩, .int .i64 0, .slice none 0 0], .agg #[.int .u8 2, .string ⟨#[105, 110, 116]⟩, .int .i64 0, .slice none 0 0], .slice (some ⟨mB, 0, none⟩) 1 1, .agg #[.int .u8 2, .string ⟨#[105, 110, 116]⟩, .int .i64 0, .slice (some ⟨mB, 0, none⟩) 1 1], .agg #[.int .u8 2, .string ⟨#[114, 101, 102]⟩, .int .i64 0, .slice none 0 0], .agg #[.int .u8 2, .string ⟨#[108, 105, 115, 116]⟩, .int .i64 0, .slice none 0 0], .agg #[.int .u8 2, .string ⟨#[105, 110, 116]⟩, .int .i64 0, .slice none 0 0], .agg #[.int .u8 2, .string ⟨#[105, 110, 116]⟩, .int .i64 0, .slice none 0 0], .slice (some ⟨mC, 0, none⟩) 2 2, .agg #[.int .u8 2, .string ⟨#[97, 114, 114, 97, 121]⟩, .int .i64 0, .slice (some ⟨mC, 0, none⟩) 2 2], .agg #[.int .u8 2, .string ⟨#[105, 110, 116]⟩, .int .i64 0, .slice none 0 0], undef, undef, .agg #[.int .u8 0, .string ⟨#[]⟩, .int .i64 0, .slice none 0 0], undef, undef, undef, undef, undef, undef, undef, undef, undef, undef, undef, undef, undef, undef, undef, undef, undef, undef, undef, undef, undef, undef, undef, undef, undef, undef, undef, undef, undef, undef, undef, undef, undef, undef, undef, undef, undef, undef, undef, undef, undef, undef, undef, undef, undef, undef, undef, undef, undef, undef, undef, undef, undef, undef, undef, undef, undef, undef, undef, undef, undef, undef, undef, undef, undef, undef, undef, undef, undef, undef, undef, undef], defers := [] } W := by
  have hHeld := HS.out W T.out
  refine wpAnyH_ready (rs := [17]) (by kernel_rfl) (by simp) ?_
  refine AllReadyH.cons (o := { dst := some 34, op := Op.buildSlice 22 1 #[(0, Operand.tmp 33)], type := 22, pos := "law.go:211", after := #[{ on := 16, ground := Ground.data }], guard := none }) rfl (fun K hK => ?_) AllReadyH.nil
  · obtain ⟨b, hb⟩ : ∃ v, W.alloc (.cells #[.int .u8 2, .string ⟨#[105, 110, 116]⟩, .int .i64 0, .slice none 0 0] 24) = v := ⟨_, rfl⟩
    have bb : Below W.heap.size W b := by rw [← hb]; exact (Below.refl _ _).alloc (Nat.le_refl _) _
    have BB : Blk b W.heap.size 24 #[.int .u8 2, .string ⟨#[105, 110, 116]⟩, .int .i64 0, .slice none 0 0] := by rw [← hb]; exact Blk.new _ _ _
    obtain ⟨mD, hn⟩ : ∃ v, W.heap.size = v := ⟨_, rfl⟩
    rw [hn] at BB
    have H := Lib.hid (And.intro hb (And.intro hn (And.intro bb BB)))
    have Tb : Hid (Below w2.heap.size w2 b) := Lib.hid (T.out.trans (bb.mono T.out.size))
    clear hb hn bb BB
    go_simp
    (try rw [H.out.1])
    (try rw [H.out.2.1])
    refine hK.out _ _ (HS.out _ Tb.out) (fun hHeld => ?_)
    clear hK K
    have FA := Lib.hid (FA.out.below H.out.2.2.1 FA.out.lt)
    have FB := Lib.hid (FB.out.below H.out.2.2.1 FB.out.lt)
    have FC := Lib.hid (FC.out.below H.out.2.2.1 FC.out.lt)
    have FD := Lib.hid H.out.2.2.2
    refine takeY (oi := { dst := some 35, op := Op.build 24 #[(0, Operand.const (Value.int IntKind.u8 4)), (3, Operand.tmp 34)], type := 24, pos := "law.go:211", after := #[{ on := 17, ground := Ground.data }], guard := none }) 18 (some 35) rfl rfl (by kernel_rfl) (by kernel_rfl) (by kernel_rfl) (fun _ _ _ h => hQ _ _ _ _ _ h) (by rfl) (v := _) (by (intro _ hSw; (try dsimp only at hSw); go_simp; try with_reducible rfl)) hHeld ?_
    simp only [Act.put, List.setIfInBounds_toArray, List.set_cons_zero, List.set_cons_succ]
    exact rg6ABCD Q hQ w2 q x0 x1 x2 HS HEnd b Tb mA FA mB FB mC FC mD FD
set_option maxRecDepth 100000 in
set_option maxHeartbeats 4000000 in
theorem rg6BCD (Q : Exit → Act → World → Prop) (hQ : ∀ c d v (a : Act) (w : World), Q (.panic c) (a.put d v) w → Q (.panic c) a w) (w2 : World) (q : Nat) (x0 x1 x2 : Value) (HS : Hid (∀ W, Below w2.heap.size w2 W → (fun W : World => W.cell? ⟨q, 0, none⟩ = some (.int .u8 2) ∧ W.cell? ⟨q, 1, none⟩ = some (.string ⟨#[105, 110, 116]⟩) ∧ W.cell? ⟨q, 2, none⟩ = some (.int .i64 0) ∧ W.cell? ⟨q, 3, none⟩ = some (.slice none 0 0)) W)) (HEnd : Hid (RgEnd Q w2 q x0 x1 x2)) (W : World) (T : Hid (Below w2.heap.size w2 W)) (mB : Nat) (FB : Hid (Blk W mB 24 #[.int .u8 2, .string ⟨#[105, 110, 116]⟩, .int .i64 0, .slice none 0 0])) (mC : Nat) (FC : Hid (Blk W mC 24 #[.int .u8 2, .string ⟨#[105, 110, 116]⟩, .int .i64 0, .slice none 0 0, .int .u8 2, .string ⟨#[105, 110, 116]⟩, .int .i64 0, .slice none 0 0])) (mD : Nat) (FD : Hid (Blk W mD 24 #[.int .u8 2, .string ⟨#[105, 110, 116]⟩, .int .i64 0, .slice none 0 0])) : wpAnyH Tryd.prog .any rops Q (fun W : World => W.cell? ⟨q, 0, none⟩ = some (.int .u8 2) ∧ W.cell? ⟨q, 1, none⟩ = some (.string ⟨#[105, 110, 116]⟩) ∧ W.cell? ⟨q, 2, none⟩ = some (.int .i64 0) ∧ W.cell? ⟨q, 3, none⟩ = some (.slice none 0 0)) 4 #[true, true, false, false, true, true, true, true, true, true, true, true, true, true, true, true, true, true, true, true, false, false] { tmps := #[x0, x1, x2, undef, undef, undef, .bool false, .pointer (some ⟨q, 0, none⟩), undef, undef, undef, undef, undef, undef, undef, undef, .agg #[.int .u8 2, .string ⟨#[105, 110, 116]⟩, .int .i64 0, .slice none 0 0], .agg #[.int .u8 2, .string ⟨#[105, 110, 116]⟩, .int .i64 0, .slice none 0 0], .agg #[.int .u8 2, .string ⟨#[105, 110, 116]⟩, .int .i64 0, .slice none 0 0], undef, undef, .agg #[.int .u8 1, .string ⟨#[39, 98]⟩, .int .i64 0, .slice none 0 0], .agg #[.int .u8 2, .string ⟨#[101, 120, 110]⟩, .int .i64 0, .slice none 0 0], .agg #[.int .u8 2, .string ⟨#[110, 111, 98, 111, 100, 121]⟩, .int .i64 0, .slice none 0 0], .agg #[.int .u8 2, .string ⟨#[105, 110, 116]⟩, .int .i64 0, .slice none 0 0], .slice (some ⟨mB, 0, none⟩) 1 1, .agg #[.int .u8 2, .string ⟨#[105, 110, 116]⟩, .int .i64 0, .slice (some ⟨mB, 0, none⟩) 1 1], .agg #[.int .u8 2, .string ⟨#[114, 101, 102]⟩, .int .i64 0, .slice none 0 0], .agg #[.int .u8 2, .string ⟨#[108, 105, 115, 116]⟩, .int .i64 0, .slice none 0 0], .agg #[.int .u8 2, .string ⟨#[105, 110, 116]⟩, .int .i64 0, .slice none 0 0], .agg #[.int .u8 2, .string ⟨#[105, 110, 116]⟩, .int .i64 0, .slice none 0 0], .slice (some ⟨mC, 0, none⟩) 2 2, .agg #[.int .u8 2, .string ⟨#[97, 114, 114, 97, 121]⟩, .int .i64 0, .slice (some ⟨mC, 0, none⟩) 2 2], .agg #[.int .u8 2, .string ⟨#[105, 110, 116]⟩, .int .i64 0, .slice none 0 0], .slice (some ⟨mD, 0, none⟩) 1 1, .agg #[.int .u8 4, .string ⟨#[]⟩, .int .i64 0, .slice (some ⟨mD, 0, none⟩) 1 1], .agg #[.int .u8 0, .string ⟨#[]⟩, .int .i64 0, .slice none 0 0], undef, undef, undef, undef, undef, undef, undef, undef, undef, undef, undef, undef, undef, undef, undef, undef, undef, undef, undef, undef, undef, undef, undef, undef, undef, undef, undef, undef, undef, undef, undef, undef, undef, undef, undef, undef, undef, undef, undef, undef, undef, undef, undef, undef, undef, undef, undef, undef, undef, undef, undef, undef, undef, undef, undef, undef, undef, undef, undef, undef, undef, undef, undef, undef, undef, undef, undef, undef, undef, undef, undef, undef], defers := [] } W := by
  have hHeld := HS.out W T.out
  refine wpAnyH_ready (rs := [2]) (by kernel_rfl) (by simp) ?_
  refine AllReadyH.cons (o := { dst := some 19, op := Op.buildSlice 22 2 #[(0, Operand.tmp 17), (1, Operand.tmp 18)], type := 22, pos := "law.go:211", after := #[{ on := 0, ground := Ground.data }, { on := 1, ground := Ground.data }], guard := none }) rfl (fun K hK => ?_) AllReadyH.nil
  · obtain ⟨b, hb⟩ : ∃ v, W.alloc (.cells #[.int .u8 2, .string ⟨#[105, 110, 116]⟩, .int .i64 0, .slice none 0 0, .int .u8 2, .string ⟨#[105, 110, 116]⟩, .int .i64 0, .slice none 0 0] 24) = v := ⟨_, rfl⟩
    have bb : Below W.heap.size W b := by rw [← hb]; exact (Below.refl _ _).alloc (Nat.le_refl _) _
    have BB : Blk b W.heap.size 24 #[.int .u8 2, .string ⟨#[105, 110, 116]⟩, .int .i64 0, .slice none 0 0, .int .u8 2, .string ⟨#[105, 110, 116]⟩, .int .i64 0, .slice none 0 0] := by rw [← hb]; exact Blk.new _ _ _
    obtain ⟨mA, hn⟩ : ∃ v, W.heap.size = v := ⟨_, rfl⟩
    rw [hn] at BB
    have H := Lib.hid (And.intro hb (And.intro hn (And.intro bb BB)))
    have Tb : Hid (Below w2.heap.size w2 b) := Lib.hid (T.out.trans (bb.mono T.out.size))
    clear hb hn bb BB
    go_simp
    (try rw [H.out.1])
    (try rw [H.out.2.1])
    refine hK.out _ _ (HS.out _ Tb.out) (fun hHeld => ?_)
    clear hK K
    have FB := Lib.hid (FB.out.below H.out.2.2.1 FB.out.lt)
    have FC := Lib.hid (FC.out.below H.out.2.2.1 FC.out.lt)
    have FD := Lib.hid (FD.out.below H.out.2.2.1 FD.out.lt)
    have FA := Lib.hid H.out.2.2.2
    refine takeY (oi := { dst := some 20, op := Op.build 24 #[(0, Operand.const (Value.int IntKind.u8 3)), (3, Operand.tmp 19)], type := 24, pos := "law.go:211", after := #[{ on := 2, ground := Ground.data }], guard := none }) 3 (some 20) rfl rfl (by kernel_rfl) (by kernel_rfl) (by kernel_rfl) (fun _ _ _ h => hQ _ _ _ _ _ h) (by rfl) (v := _) (by (intro _ hSw; (try dsimp only at hSw); go_simp; try with_reducible rfl)) hHeld ?_
    simp only [Act.put, List.setIfInBounds_toArray, List.set_cons_zero, List.set_cons_succ]
    exact rg6ABCD Q hQ w2 q x0 x1 x2 HS HEnd b Tb mA FA mB FB mC FC mD FD
set_option maxRecDepth 100000 in
set_option maxHeartbeats 4000000 in
theorem rg4ABCD (Q : Exit → Act → World → Prop) (hQ : ∀ c d v (a : Act) (w : World), Q (.panic c) (a.put d v) w → Q (.panic c) a w) (w2 : World) (q : Nat) (x0 x1 x2 : Value) (HS : Hid (∀ W, Below w2.heap.size w2 W → (fun W : World => W.cell? ⟨q, 0, none⟩ = some (.int .u8 2) ∧ W.cell? ⟨q, 1, none⟩ = some (.string ⟨#[105, 110, 116]⟩) ∧ W.cell? ⟨q, 2, none⟩ = some (.int .i64 0) ∧ W.cell? ⟨q, 3, none⟩ = some (.slice none 0 0)) W)) (HEnd : Hid (RgEnd Q w2 q x0 x1 x2)) (W : World) (T : Hid (Below w2.heap.size w2 W)) (mA : Nat) (FA : Hid (Blk W mA 24 #[.int .u8 2, .string ⟨#[105, 110, 116]⟩, .int .i64 0, .slice none 0 0, .int .u8 2, .string ⟨#[105, 110, 116]⟩, .int .i64 0, .slice none 0 0])) (mB : Nat) (FB : Hid (Blk W mB 24 #[.int .u8 2, .string ⟨#[105, 110, 116]⟩, .int .i64 0, .slice none 0 0])) (mC : Nat) (FC : Hid (Blk W mC 24 #[.int .u8 2, .string ⟨#[105, 110, 116]⟩, .int .i64 0, .slice none 0 0, .int .u8 2, .string ⟨#[105, 110, 116]⟩, .int .i64 0, .slice none 0 0])) (mD : Nat) (FD : Hid (Blk W mD 24 #[.int .u8 2, .string ⟨#[105, 110, 116]⟩, .int .i64 0, .slice none 0 0])) : wpAnyH Tryd.prog .any rops Q (fun W : World => W.cell? ⟨q, 0, none⟩ = some (.int .u8 2) ∧ W.cell? ⟨q, 1, none⟩ = some (.string ⟨#[105, 110, 116]⟩) ∧ W.cell? ⟨q, 2, none⟩ = some (.int .i64 0) ∧ W.cell? ⟨q, 3, none⟩ = some (.slice none 0 0)) 4 #[true, true, true, true, true, true, true, true, true, true, true, false, true, true, true, false, true, true, true, true, false, false] { tmps := #[x0, x1, x2, undef, undef, undef, .bool false, .pointer (some ⟨q, 0, none⟩), undef, undef, undef, undef, undef, undef, undef, undef, .agg #[.int .u8 2, .string ⟨#[105, 110, 116]⟩, .int .i64 0, .slice none 0 0], .agg #[.int .u8 2, .string ⟨#[105, 110, 116]⟩, .int .i64 0, .slice none 0 0], .agg #[.int .u8 2, .string ⟨#[105, 110, 116]⟩, .int .i64 0, .slice none 0 0], .slice (some ⟨mA, 0, none⟩) 2 2, .agg #[.int .u8 3, .string ⟨#[]⟩, .int .i64 0, .slice (some ⟨mA, 0, none⟩) 2 2], .agg #[.int .u8 1, .string ⟨#[39, 98]⟩, .int .i64 0, .slice none 0 0], .agg #[.int .u8 2, .string ⟨#[101, 120, 110]⟩, .int .i64 0, .slice none 0 0], .agg #[.int .u8 2, .string ⟨#[110, 111, 98, 111, 100, 121]⟩, .int .i64 0, .slice none 0 0], .agg #[.int .u8 2, .string ⟨#[105, 110, 116]⟩, .int .i64 0, .slice none 0 0], .slice (some ⟨mB, 0, none⟩) 1 1, .agg #[.int .u8 2, .string ⟨#[105, 110, 116]⟩, .int .i64 0, .slice (some ⟨mB, 0, none⟩) 1 1], .agg #[.int .u8 2, .string ⟨#[114, 101, 102]⟩, .int .i64 0, .slice none 0 0], undef, .agg #[.int .u8 2, .string ⟨#[105, 110, 116]⟩, .int .i64 0, .slice none 0 0], .agg #[.int .u8 2, .string ⟨#[105, 110, 116]⟩, .int .i64 0, .slice none 0 0], .slice (some ⟨mC, 0, none⟩) 2 2, undef, .agg #[.int .u8 2, .string ⟨#[105, 110, 116]⟩, .int .i64 0, .slice none 0 0], .slice (some ⟨mD, 0, none⟩) 1 1, .agg #[.int .u8 4, .string ⟨#[]⟩, .int .i64 0, .slice (some ⟨mD, 0, none⟩) 1 1], .agg #[.int .u8 0, .string ⟨#[]⟩, .int .i64 0, .slice none 0 0], undef, undef, undef, undef, undef, undef, undef, undef, undef, undef, undef, undef, undef, undef, undef, undef, undef, undef, undef, undef, undef, undef, undef, undef, undef, undef, undef, undef, undef, undef, undef, undef, undef, undef, undef, undef, undef, undef, undef, undef, undef, undef, undef, undef, undef, undef, undef, undef, undef, undef, undef, undef, undef, undef, undef, undef, undef, undef, undef, undef, undef, undef, undef, undef, undef, undef, undef, undef, undef, undef, undef, undef], defers := [] } W := by
  have hHeld := HS.out W T.out
  refine wpAnyH_ready (rs := [11]) (by kernel_rfl) (by simp) ?_
  refine AllReadyH.cons (o := { dst := some 28, op := Op.call { callee := Callee.value (Operand.func 10), args := #[Operand.const (Value.string { data := #[108, 105, 115, 116] }), Operand.const (Value.slice none 0 0)], argTypes := #[9, 22] }, type := 24, pos := "law.go:211", after := #[{ on := 10, ground := Ground.chain }], guard := none }) rfl (fun K hK => ?_) AllReadyH.nil
  · have HT := Lib.hid (named_any ⟨#[108, 105, 115, 116]⟩ none 0 0 W)
    clear hHeld
    go_simp
    go_wp2_with (go_at_call 10; refine Calls.mono HT.out ?_; rintro e b ⟨rfl, bb⟩; have Hb := Lib.hid bb; have Tb : Hid (Below w2.heap.size w2 b) := Lib.hid (T.out.trans (bb.mono T.out.size)))
    refine hK.out _ _ (HS.out _ Tb.out) (fun hHeld => ?_)
    clear hK K HT
    have FA := Lib.hid (FA.out.below Hb.out FA.out.lt)
    have FB := Lib.hid (FB.out.below Hb.out FB.out.lt)
    have FC := Lib.hid (FC.out.below Hb.out FC.out.lt)
    have FD := Lib.hid (FD.out.below Hb.out FD.out.lt)
    exact rg5ABCD Q hQ w2 q x0 x1 x2 HS HEnd b Tb mA FA mB FB mC FC mD FD
set_option maxRecDepth 100000 in
set_option maxHeartbeats 4000000 in
theorem rg5ABC (Q : Exit → Act → World → Prop) (hQ : ∀ c d v (a : Act) (w : World), Q (.panic c) (a.put d v) w → Q (.panic c) a w) (w2 : World) (q : Nat) (x0 x1 x2 : Value) (HS : Hid (∀ W, Below w2.heap.size w2 W → (fun W : World => W.cell? ⟨q, 0, none⟩ = some (.int .u8 2) ∧ W.cell? ⟨q, 1, none⟩ = some (.string ⟨#[105, 110, 116]⟩) ∧ W.cell? ⟨q, 2, none⟩ = some (.int .i64 0) ∧ W.cell? ⟨q, 3, none⟩ = some (.slice none 0 0)) W)) (HEnd : Hid (RgEnd Q w2 q x0 x1 x2)) (W : World) (T : Hid (Below w2.heap.size w2 W)) (mA : Nat) (FA : Hid (Blk W mA 24 #[.int .u8 2, .string ⟨#[105, 110, 116]⟩, .int .i64 0, .slice none 0 0, .int .u8 2, .string ⟨#[105, 110, 116]⟩, .int .i64 0, .slice none 0 0])) (mB : Nat) (FB : Hid (Blk W mB 24 #[.int .u8 2, .string ⟨#[105, 110, 116]⟩, .int .i64 0, .slice none 0 0])) (mC : Nat) (FC : Hid (Blk W mC 24 #[.int .u8 2, .string ⟨#[105, 110, 116]⟩, .int .i64 0, .slice none 0 0, .int .u8 2, .string ⟨#[105, 110, 116]⟩, .int .i64 0, .slice none 0 0])) : wpAnyH Tryd.prog .any rops Q (fun W : World => W.cell? ⟨q, 0, none⟩ = some (.int .u8 2) ∧ W.cell? ⟨q, 1, none⟩ = some (.string ⟨#[105, 110, 116]⟩) ∧ W.cell? ⟨q, 2, none⟩ = some (.int .i64 0) ∧ W.cell? ⟨q, 3, none⟩ = some (.slice none 0 0)) 5 #[true, true, true, true, true, true, true, true, true, true, true, true, true, true, true, false, true, false, false, true, false, false] { tmps := #[x0, x1, x2, undef, undef, undef, .bool false, .pointer (some ⟨q, 0, none⟩), undef, undef, undef, undef, undef, undef, undef, undef, .agg #[.int .u8 2, .string ⟨#[105, 110, 116]⟩, .int .i64 0, .slice none 0 0], .agg #[.int .u8 2, .string ⟨#[105, 110, 116]⟩, .int .i64 0, .slice none 0 0], .agg #[.int .u8 2, .string ⟨#[105, 110, 116]⟩, .int .i64 0, .slice none 0 0], .slice (some ⟨mA, 0, none⟩) 2 2, .agg #[.int .u8 3, .string ⟨#[]⟩, .int .i64 0, .slice (some ⟨mA, 0, none⟩) 2 2], .agg #[.int .u8 1, .string ⟨#[39, 98]⟩, .int .i64 0, .slice none 0 0], .agg #[.int .u8 2, .string ⟨#[101, 120, 110]⟩, .int .i64 0, .slice none 0 0], .agg #[.int .u8 2, .string ⟨#[110, 111, 98, 111, 100, 121]⟩, .int .i64 0, .slice none 0 0], .agg #[.int .u8 2, .string ⟨#[105, 110, 116]⟩, .int .i64 0, .slice none 0 0], .slice (some ⟨mB, 0, none⟩) 1 1, .agg #[.int .u8 2, .string ⟨#[105, 110, 116]⟩, .int .i64 0, .slice (some ⟨mB, 0, none⟩) 1 1], .agg #[.int .u8 2, .string ⟨#[114, 101, 102]⟩, .int .i64 0, .slice none 0 0], .agg #[.int .u8 2, .string ⟨#[108, 105, 115, 116]⟩, .int .i64 0, .slice none 0 0], .agg #[.int .u8 2, .string ⟨#[105, 110, 116]⟩, .int .i64 0, .slice none 0 0], .agg #[.int .u8 2, .string ⟨#[105, 110, 116]⟩, .int .i64 0, .slice none 0 0], .slice (some ⟨mC, 0, none⟩) 2 2, undef, .agg #[.int .u8 2, .string ⟨#[105, 110, 116]⟩, .int .i64 0, .slice none 0 0], undef, undef, .agg #[.int .u8 0, .string ⟨#[]⟩, .int .i64 0, .slice none 0 0], undef, undef, undef, undef, undef, undef, undef, undef, undef, undef, undef, undef, undef, undef, undef, undef, undef, undef, undef, undef, undef, undef, undef, undef, undef, undef, undef, undef, undef, undef, undef, undef, undef, undef, undef, undef, undef, undef, undef, undef, undef, undef, undef, undef, undef, undef, undef, undef, undef, undef, undef, undef, undef, undef, undef, undef, undef, undef, undef, undef, undef, undef, undef, undef, undef, undef, undef, undef, undef, undef, undef, undef], defers := [] } W := by
  have hHeld := HS.out W T.out
  refine wpAnyH_ready (rs := [15, 17]) (by kernel_rfl) (by simp) ?_
  refine AllReadyH.cons (o := { dst := some 32, op := Op.call { callee := Callee.value (Operand.func 10), args := #[Operand.const (Value.string { data := #[97, 114, 114, 97, 121] }), Operand.tmp 31], argTypes := #[9, 22] }, type := 24, pos := "law.go:211", after := #[{ on := 14, ground := Ground.data }, { on := 11, ground := Ground.chain }], guard := none }) rfl (fun K hK => ?_) (AllReadyH.cons (o := { dst := some 34, op := Op.buildSlice 22 1 #[(0, Operand.tmp 33)], type := 22, pos := "law.go:211", after := #[{ on := 16, ground := Ground.data }], guard := none }) rfl (fun K hK => ?_) AllReadyH.nil)
  · have HT := Lib.hid (named_any ⟨#[97, 114, 114, 97, 121]⟩ (some ⟨mC, 0, none⟩) 2 2 W)
    clear hHeld
    go_simp
    go_wp2_with (go_at_call 10; refine Calls.mono HT.out ?_; rintro e b ⟨rfl, bb⟩; have Hb := Lib.hid bb; have Tb : Hid (Below w2.heap.size w2 b) := Lib.hid (T.out.trans (bb.mono T.out.size)))
    refine hK.out _ _ (HS.out _ Tb.out) (fun hHeld => ?_)
    clear hK K HT
    have FA := Lib.hid (FA.out.below Hb.out FA.out.lt)
    have FB := Lib.hid (FB.out.below Hb.out FB.out.lt)
    have FC := Lib.hid (FC.out.below Hb.out FC.out.lt)
    exact rg6ABC Q hQ w2 q x0 x1 x2 HS HEnd b Tb mA FA mB FB mC FC
  · obtain ⟨b, hb⟩ : ∃ v, W.alloc (.cells #[.int .u8 2, .string ⟨#[105, 110, 116]⟩, .int .i64 0, .slice none 0 0] 24) = v := ⟨_, rfl⟩
    have bb : Below W.heap.size W b := by rw [← hb]; exact (Below.refl _ _).alloc (Nat.le_refl _) _
    have BB : Blk b W.heap.size 24 #[.int .u8 2, .string ⟨#[105, 110, 116]⟩, .int .i64 0, .slice none 0 0] := by rw [← hb]; exact Blk.new _ _ _
    obtain ⟨mD, hn⟩ : ∃ v, W.heap.size = v := ⟨_, rfl⟩
    rw [hn] at BB
    have H := Lib.hid (And.intro hb (And.intro hn (And.intro bb BB)))
    have Tb : Hid (Below w2.heap.size w2 b) := Lib.hid (T.out.trans (bb.mono T.out.size))
    clear hb hn bb BB
    go_simp
    (try rw [H.out.1])
    (try rw [H.out.2.1])
    refine hK.out _ _ (HS.out _ Tb.out) (fun hHeld => ?_)
    clear hK K
    have FA := Lib.hid (FA.out.below H.out.2.2.1 FA.out.lt)
    have FB := Lib.hid (FB.out.below H.out.2.2.1 FB.out.lt)
    have FC := Lib.hid (FC.out.below H.out.2.2.1 FC.out.lt)
    have FD := Lib.hid H.out.2.2.2
    refine takeY (oi := { dst := some 35, op := Op.build 24 #[(0, Operand.const (Value.int IntKind.u8 4)), (3, Operand.tmp 34)], type := 24, pos := "law.go:211", after := #[{ on := 17, ground := Ground.data }], guard := none }) 18 (some 35) rfl rfl (by kernel_rfl) (by kernel_rfl) (by kernel_rfl) (fun _ _ _ h => hQ _ _ _ _ _ h) (by rfl) (v := _) (by (intro _ hSw; (try dsimp only at hSw); go_simp; try with_reducible rfl)) hHeld ?_
    simp only [Act.put, List.setIfInBounds_toArray, List.set_cons_zero, List.set_cons_succ]
    exact rg5ABCD Q hQ w2 q x0 x1 x2 HS HEnd b Tb mA FA mB FB mC FC mD FD
set_option maxRecDepth 100000 in
set_option maxHeartbeats 4000000 in
theorem rg5ABD (Q : Exit → Act → World → Prop) (hQ : ∀ c d v (a : Act) (w : World), Q (.panic c) (a.put d v) w → Q (.panic c) a w) (w2 : World) (q : Nat) (x0 x1 x2 : Value) (HS : Hid (∀ W, Below w2.heap.size w2 W → (fun W : World => W.cell? ⟨q, 0, none⟩ = some (.int .u8 2) ∧ W.cell? ⟨q, 1, none⟩ = some (.string ⟨#[105, 110, 116]⟩) ∧ W.cell? ⟨q, 2, none⟩ = some (.int .i64 0) ∧ W.cell? ⟨q, 3, none⟩ = some (.slice none 0 0)) W)) (HEnd : Hid (RgEnd Q w2 q x0 x1 x2)) (W : World) (T : Hid (Below w2.heap.size w2 W)) (mA : Nat) (FA : Hid (Blk W mA 24 #[.int .u8 2, .string ⟨#[105, 110, 116]⟩, .int .i64 0, .slice none 0 0, .int .u8 2, .string ⟨#[105, 110, 116]⟩, .int .i64 0, .slice none 0 0])) (mB : Nat) (FB : Hid (Blk W mB 24 #[.int .u8 2, .string ⟨#[105, 110, 116]⟩, .int .i64 0, .slice none 0 0])) (mD : Nat) (FD : Hid (Blk W mD 24 #[.int .u8 2, .string ⟨#[105, 110, 116]⟩, .int .i64 0, .slice none 0 0])) : wpAnyH Tryd.prog .any rops Q (fun W : World => W.cell? ⟨q, 0, none⟩ = some (.int .u8 2) ∧ W.cell? ⟨q, 1, none⟩ = some (.string ⟨#[105, 110, 116]⟩) ∧ W.cell? ⟨q, 2, none⟩ = some (.int .i64 0) ∧ W.cell? ⟨q, 3, none⟩ = some (.slice none 0 0)) 4 #[true, true, true, true, true, true, true, true, true, true, true, true, true, true, false, false, true, true, true, true, false, false] { tmps := #[x0, x1, x2, undef, undef, undef, .bool false, .pointer (some ⟨q, 0, none⟩), undef, undef, undef, undef, undef, undef, undef, undef, .agg #[.int .u8 2, .string ⟨#[105, 110, 116]⟩, .int .i64 0, .slice none 0 0], .agg #[.int .u8 2, .string ⟨#[105, 110, 116]⟩, .int .i64 0, .slice none 0 0], .agg #[.int .u8 2, .string ⟨#[105, 110, 116]⟩, .int .i64 0, .slice none 0 0], .slice (some ⟨mA, 0, none⟩) 2 2, .agg #[.int .u8 3, .string ⟨#[]⟩, .int .i64 0, .slice (some ⟨mA, 0, none⟩) 2 2], .agg #[.int .u8 1, .string ⟨#[39, 98]⟩, .int .i64 0, .slice none 0 0], .agg #[.int .u8 2, .string ⟨#[101, 120, 110]⟩, .int .i64 0, .slice none 0 0], .agg #[.int .u8 2, .string ⟨#[110, 111, 98, 111, 100, 121]⟩, .int .i64 0, .slice none 0 0], .agg #[.int .u8 2, .string ⟨#[105, 110, 116]⟩, .int .i64 0, .slice none 0 0], .slice (some ⟨mB, 0, none⟩) 1 1, .agg #[.int .u8 2, .string ⟨#[105, 110, 116]⟩, .int .i64 0, .slice (some ⟨mB, 0, none⟩) 1 1], .agg #[.int .u8 2, .string ⟨#[114, 101, 102]⟩, .int .i64 0, .slice none 0 0], .agg #[.int .u8 2, .string ⟨#[108, 105, 115, 116]⟩, .int .i64 0, .slice none 0 0], .agg #[.int .u8 2, .string ⟨#[105, 110, 116]⟩, .int .i64 0, .slice none 0 0], .agg #[.int .u8 2, .string ⟨#[105, 110, 116]⟩, .int .i64 0, .slice none 0 0], undef, undef, .agg #[.int .u8 2, .string ⟨#[105, 110, 116]⟩, .int .i64 0, .slice none 0 0], .slice (some ⟨mD, 0, none⟩) 1 1, .agg #[.int .u8 4, .string ⟨#[]⟩, .int .i64 0, .slice (some ⟨mD, 0, none⟩) 1 1], .agg #[.int .u8 0, .string ⟨#[]⟩, .int .i64 0, .slice none 0 0], undef, undef, undef, undef, undef, undef, undef, undef, undef, undef, undef, undef, undef, undef, undef, undef, undef, undef, undef, undef, undef, undef, undef, undef, undef, undef, undef, undef, undef, undef, undef, undef, undef, undef, undef, undef, undef, undef, undef, undef, undef, undef, undef, undef, undef, undef, undef, undef, undef, undef, undef, undef, undef, undef, undef, undef, undef, undef, undef, undef, undef, undef, undef, undef, undef, undef, undef, undef, undef, undef, undef, undef], defers := [] } W := by
  have hHeld := HS.out W T.out
  refine wpAnyH_ready (rs := [14]) (by kernel_rfl) (by simp) ?_
  refine AllReadyH.cons (o := { dst := some 31, op := Op.buildSlice 22 2 #[(0, Operand.tmp 29), (1, Operand.tmp 30)], type := 22, pos := "law.go:211", after := #[{ on := 12, ground := Ground.data }, { on := 13, ground := Ground.data }], guard := none }) rfl (fun K hK => ?_) AllReadyH.nil
  · obtain ⟨b, hb⟩ : ∃ v, W.alloc (.cells #[.int .u8 2, .string ⟨#[105, 110, 116]⟩, .int .i64 0, .slice none 0 0, .int .u8 2, .string ⟨#[105, 110, 116]⟩, .int .i64 0, .slice none 0 0] 24) = v := ⟨_, rfl⟩
    have bb : Below W.heap.size W b := by rw [← hb]; exact (Below.refl _ _).alloc (Nat.le_refl _) _
    have BB : Blk b W.heap.size 24 #[.int .u8 2, .string ⟨#[105, 110, 116]⟩, .int .i64 0, .slice none 0 0, .int .u8 2, .string ⟨#[105, 110, 116]⟩, .int .i64 0, .slice none 0 0] := by rw [← hb]; exact Blk.new _ _ _
    obtain ⟨mC, hn⟩ : ∃ v, W.heap.size = v := ⟨_, rfl⟩
    rw [hn] at BB
    have H := Lib.hid (And.intro hb (And.intro hn (And.intro bb BB)))
    have Tb : Hid (Below w2.heap.size w2 b) := Lib.hid (T.out.trans (bb.mono T.out.size))
    clear hb hn bb BB
    go_simp
    (try rw [H.out.1])
    (try rw [H.out.2.1])
    refine hK.out _ _ (HS.out _ Tb.out) (fun hHeld => ?_)
    clear hK K
    have FA := Lib.hid (FA.out.below H.out.2.2.1 FA.out.lt)
    have FB := Lib.hid (FB.out.below H.out.2.2.1 FB.out.lt)
    have FD := Lib.hid (FD.out.below H.out.2.2.1 FD.out.lt)
    have FC := Lib.hid H.out.2.2.2
    exact rg5ABCD Q hQ w2 q x0 x1 x2 HS HEnd b Tb mA FA mB FB mC FC mD FD
set_option maxRecDepth 100000 in
set_option maxHeartbeats 4000000 in
theorem rg5BCD (Q : Exit → Act → World → Prop) (hQ : ∀ c d v (a : Act) (w : World), Q (.panic c) (a.put d v) w → Q (.panic c) a w) (w2 : World) (q : Nat) (x0 x1 x2 : Value) (HS : Hid (∀ W, Below w2.heap.size w2 W → (fun W : World => W.cell? ⟨q, 0, none⟩ = some (.int .u8 2) ∧ W.cell? ⟨q, 1, none⟩ = some (.string ⟨#[105, 110, 116]⟩) ∧ W.cell? ⟨q, 2, none⟩ = some (.int .i64 0) ∧ W.cell? ⟨q, 3, none⟩ = some (.slice none 0 0)) W)) (HEnd : Hid (RgEnd Q w2 q x0 x1 x2)) (W : World) (T : Hid (Below w2.heap.size w2 W)) (mB : Nat) (FB : Hid (Blk W mB 24 #[.int .u8 2, .string ⟨#[105, 110, 116]⟩, .int .i64 0, .slice none 0 0])) (mC : Nat) (FC : Hid (Blk W mC 24 #[.int .u8 2, .string ⟨#[105, 110, 116]⟩, .int .i64 0, .slice none 0 0, .int .u8 2, .string ⟨#[105, 110, 116]⟩, .int .i64 0, .slice none 0 0])) (mD : Nat) (FD : Hid (Blk W mD 24 #[.int .u8 2, .string ⟨#[105, 110, 116]⟩, .int .i64 0, .slice none 0 0])) : wpAnyH Tryd.prog .any rops Q (fun W : World => W.cell? ⟨q, 0, none⟩ = some (.int .u8 2) ∧ W.cell? ⟨q, 1, none⟩ = some (.string ⟨#[105, 110, 116]⟩) ∧ W.cell? ⟨q, 2, none⟩ = some (.int .i64 0) ∧ W.cell? ⟨q, 3, none⟩ = some (.slice none 0 0)) 5 #[true, true, false, false, true, true, true, true, true, true, true, true, true, true, true, false, true, true, true, true, false, false] { tmps := #[x0, x1, x2, undef, undef, undef, .bool false, .pointer (some ⟨q, 0, none⟩), undef, undef, undef, undef, undef, undef, undef, undef, .agg #[.int .u8 2, .string ⟨#[105, 110, 116]⟩, .int .i64 0, .slice none 0 0], .agg #[.int .u8 2, .string ⟨#[105, 110, 116]⟩, .int .i64 0, .slice none 0 0], .agg #[.int .u8 2, .string ⟨#[105, 110, 116]⟩, .int .i64 0, .slice none 0 0], undef, undef, .agg #[.int .u8 1, .string ⟨#[39, 98]⟩, .int .i64 0, .slice none 0 0], .agg #[.int .u8 2, .string ⟨#[101, 120, 110]⟩, .int .i64 0, .slice none 0 0], .agg #[.int .u8 2, .string ⟨#[110, 111, 98, 111, 100, 121]⟩, .int .i64 0, .slice none 0 0], .agg #[.int .u8 2, .string ⟨#[105, 110, 116]⟩, .int .i64 0, .slice none 0 0], .slice (some ⟨mB, 0, none⟩) 1 1, .agg #[.int .u8 2, .string ⟨#[105, 110, 116]⟩, .int .i64 0, .slice (some ⟨mB, 0, none⟩) 1 1], .agg #[.int .u8 2, .string ⟨#[114, 101, 102]⟩, .int .i64 0, .slice none 0 0], .agg #[.int .u8 2, .string ⟨#[108, 105, 115, 116]⟩, .int .i64 0, .slice none 0 0], .agg #[.int .u8 2, .string ⟨#[105, 110, 116]⟩, .int .i64 0, .slice none 0 0], .agg #[.int .u8 2, .string ⟨#[105, 110, 116]⟩, .int .i64 0, .slice none 0 0], .slice (some ⟨mC, 0, none⟩) 2 2, undef, .agg #[.int .u8 2, .string ⟨#[105, 110, 116]⟩, .int .i64 0, .slice none 0 0], .slice (some ⟨mD, 0, none⟩) 1 1, .agg #[.int .u8 4, .string ⟨#[]⟩, .int .i64 0, .slice (some ⟨mD, 0, none⟩) 1 1], .agg #[.int .u8 0, .string ⟨#[]⟩, .int .i64 0, .slice none 0 0], undef, undef, undef, undef, undef, undef, undef, undef, undef, undef, undef, undef, undef, undef, undef, undef, undef, undef, undef, undef, undef, undef, undef, undef, undef, undef, undef, undef, undef, undef, undef, undef, undef, undef, undef, undef, undef, undef, undef, undef, undef, undef, undef, undef, undef, undef, undef, undef, undef, undef, undef, undef, undef, undef, undef, undef, undef, undef, undef, undef, undef, undef, undef, undef, undef, undef, undef, undef, undef, undef, undef, undef], defers := [] } W := by
  have hHeld := HS.out W T.out
  refine wpAnyH_ready (rs := [2, 15]) (by kernel_rfl) (by simp) ?_
  refine AllReadyH.cons (o := { dst := some 19, op := Op.buildSlice 22 2 #[(0, Operand.tmp 17), (1, Operand.tmp 18)], type := 22, pos := "law.go:211", after := #[{ on := 0, ground := Ground.data }, { on := 1, ground := Ground.data }], guard := none }) rfl (fun K hK => ?_) (AllReadyH.cons (o := { dst := some 32, op := Op.call { callee := Callee.value (Operand.func 10), args := #[Operand.const (Value.string { data := #[97, 114, 114, 97, 121] }), Operand.tmp 31], argTypes := #[9, 22] }, type := 24, pos := "law.go:211", after := #[{ on := 14, ground := Ground.data }, { on := 11, ground := Ground.chain }], guard := none }) rfl (fun K hK => ?_) AllReadyH.nil)
  · obtain ⟨b, hb⟩ : ∃ v, W.alloc (.cells #[.int .u8 2, .string ⟨#[105, 110, 116]⟩, .int .i64 0, .slice none 0 0, .int .u8 2, .string ⟨#[105, 110, 116]⟩, .int .i64 0, .slice none 0 0] 24) = v := ⟨_, rfl⟩
    have bb : Below W.heap.size W b := by rw [← hb]; exact (Below.refl _ _).alloc (Nat.le_refl _) _
    have BB : Blk b W.heap.size 24 #[.int .u8 2, .string ⟨#[105, 110, 116]⟩, .int .i64 0, .slice none 0 0, .int .u8 2, .string ⟨#[105, 110, 116]⟩, .int .i64 0, .slice none 0 0] := by rw [← hb]; exact Blk.new _ _ _
    obtain ⟨mA, hn⟩ : ∃ v, W.heap.size = v := ⟨_, rfl⟩
    rw [hn] at BB
    have H := Lib.hid (And.intro hb (And.intro hn (And.intro bb BB)))
    have Tb : Hid (Below w2.heap.size w2 b) := Lib.hid (T.out.trans (bb.mono T.out.size))
    clear hb hn bb BB
    go_simp
    (try rw [H.out.1])
    (try rw [H.out.2.1])
    refine hK.out _ _ (HS.out _ Tb.out) (fun hHeld => ?_)
    clear hK K
    have FB := Lib.hid (FB.out.below H.out.2.2.1 FB.out.lt)
    have FC := Lib.hid (FC.out.below H.out.2.2.1 FC.out.lt)
    have FD := Lib.hid (FD.out.below H.out.2.2.1 FD.out.lt)
    have FA := Lib.hid H.out.2.2.2
    refine takeY (oi := { dst := some 20, op := Op.build 24 #[(0, Operand.const (Value.int IntKind.u8 3)), (3, Operand.tmp 19)], type := 24, pos := "law.go:211", after := #[{ on := 2, ground := Ground.data }], guard := none }) 3 (some 20) rfl rfl (by kernel_rfl) (by kernel_rfl) (by kernel_rfl) (fun _ _ _ h => hQ _ _ _ _ _ h) (by rfl) (v := _) (by (intro _ hSw; (try dsimp only at hSw); go_simp; try with_reducible rfl)) hHeld ?_
    simp only [Act.put, List.setIfInBounds_toArray, List.set_cons_zero, List.set_cons_succ]
    exact rg5ABCD Q hQ w2 q x0 x1 x2 HS HEnd b Tb mA FA mB FB mC FC mD FD
  · have HT := Lib.hid (named_any ⟨#[97, 114, 114, 97, 121]⟩ (some ⟨mC, 0, none⟩) 2 2 W)
    clear hHeld
    go_simp
    go_wp2_with (go_at_call 10; refine Calls.mono HT.out ?_; rintro e b ⟨rfl, bb⟩; have Hb := Lib.hid bb; have Tb : Hid (Below w2.heap.size w2 b) := Lib.hid (T.out.trans (bb.mono T.out.size)))
    refine hK.out _ _ (HS.out _ Tb.out) (fun hHeld => ?_)
    clear hK K HT
    have FB := Lib.hid (FB.out.below Hb.out FB.out.lt)
    have FC := Lib.hid (FC.out.below Hb.out FC.out.lt)
    have FD := Lib.hid (FD.out.below Hb.out FD.out.lt)
    exact rg6BCD Q hQ w2 q x0 x1 x2 HS HEnd b Tb mB FB mC FC mD FD
set_option maxRecDepth 100000 in
set_option maxHeartbeats 4000000 in
theorem rg6BC (Q : Exit → Act → World → Prop) (hQ : ∀ c d v (a : Act) (w : World), Q (.panic c) (a.put d v) w → Q (.panic c) a w) (w2 : World) (q : Nat) (x0 x1 x2 : Value) (HS : Hid (∀ W, Below w2.heap.size w2 W → (fun W : World => W.cell? ⟨q, 0, none⟩ = some (.int .u8 2) ∧ W.cell? ⟨q, 1, none⟩ = some (.string ⟨#[105, 110, 116]⟩) ∧ W.cell? ⟨q, 2, none⟩ = some (.int .i64 0) ∧ W.cell? ⟨q, 3, none⟩ = some (.slice none 0 0)) W)) (HEnd : Hid (RgEnd Q w2 q x0 x1 x2)) (W : World) (T : Hid (Below w2.heap.size w2 W)) (mB : Nat) (FB : Hid (Blk W mB 24 #[.int .u8 2, .string ⟨#[105, 110, 116]⟩, .int .i64 0, .slice none 0 0])) (mC : Nat) (FC : Hid (Blk W mC 24 #[.int .u8 2, .string ⟨#[105, 110, 116]⟩, .int .i64 0, .slice none 0 0, .int .u8 2, .string ⟨#[105, 110, 116]⟩, .int .i64 0, .slice none 0 0])) : wpAnyH Tryd.prog .any rops Q (fun W : World => W.cell? ⟨q, 0, none⟩ = some (.int .u8 2) ∧ W.cell? ⟨q, 1, none⟩ = some (.string ⟨#[105, 110, 116]⟩) ∧ W.cell? ⟨q, 2, none⟩ = some (.int .i64 0) ∧ W.cell? ⟨q, 3, none⟩ = some (.slice none 0 0)) 6 #[true, true, false, false, true, true, true, true, true, true, true, true, true, true, true, true, true, false, false, true, false, false] { tmps := #[x0, x1, x2, undef, undef, undef, .bool false, .pointer (some ⟨q, 0, none⟩), undef, undef, undef, undef, undef, undef, undef, undef, .agg #[.int .u8 2, .string ⟨#[105, 110, 116]⟩, .int .i64 0, .slice none 0 0], .agg #[.int .u8 2, .string ⟨#[105, 110, 116]⟩, .int .i64 0, .slice none 0 0], .agg #[.int .u8 2, .string ⟨#[105, 110, 116]⟩, .int .i64 0, .slice none 0 0], undef, undef, .agg #[.int .u8 1, .string ⟨#[39, 98]⟩, .int .i64 0, .slice none 0 0], .agg #[.int .u8 2, .string ⟨#[101, 120, 110]⟩, .int .i64 0, .slice none 0 0], .agg #[.int .u8 2, .string ⟨#[110, 111, 98, 111, 100, 121]⟩, .int .i64 0, .slice none 0 0], .agg #[.int .u8 2, .string ⟨#[105, 110, 116]⟩, .int .i64 0, .slice none 0 0], .slice (some ⟨mB, 0, none⟩) 1 1, .agg #[.int .u8 2, .string ⟨#[105, 110, 116]⟩, .int .i64 0, .slice (some ⟨mB, 0, none⟩) 1 1], .agg #[.int .u8 2, .string ⟨#[114, 101, 102]⟩, .int .i64 0, .slice none 0 0], .agg #[.int .u8 2, .string ⟨#[108, 105, 115, 116]⟩, .int .i64 0, .slice none 0 0], .agg #[.int .u8 2, .string ⟨#[105, 110, 116]⟩, .int .i64 0, .slice none 0 0], .agg #[.int .u8 2, .string ⟨#[105, 110, 116]⟩, .int .i64 0, .slice none 0 0], .slice (some ⟨mC, 0, none⟩) 2 2, .agg #[.int .u8 2, .string ⟨#[97, 114, 114, 97, 121]⟩, .int .i64 0, .slice (some ⟨mC, 0, none⟩) 2 2], .agg #[.int .u8 2, .string ⟨#[105, 110, 116]⟩, .int .i64 0, .slice none 0 0], undef, undef, .agg #[.int .u8 0, .string ⟨#[]⟩, .int .i64 0, .slice none 0 0], undef, undef, undef, undef, undef, undef, undef, undef, undef, undef, undef, undef, undef, undef, undef, undef, undef, undef, undef, undef, undef, undef, undef, undef, undef, undef, undef, undef, undef, undef, undef, undef, undef, undef, undef, undef, undef, undef, undef, undef, undef, undef, undef, undef, undef, undef, undef, undef, undef, undef, undef, undef, undef, undef, undef, undef, undef, undef, undef, undef, undef, undef, undef, undef, undef, undef, undef, undef, undef, undef, undef, undef], defers := [] } W := by
  have hHeld := HS.out W T.out
  refine wpAnyH_ready (rs := [2, 17]) (by kernel_rfl) (by simp) ?_
  refine AllReadyH.cons (o := { dst := some 19, op := Op.buildSlice 22 2 #[(0, Operand.tmp 17), (1, Operand.tmp 18)], type := 22, pos := "law.go:211", after := #[{ on := 0, ground := Ground.data }, { on := 1, ground := Ground.data }], guard := none }) rfl (fun K hK => ?_) (AllReadyH.cons (o := { dst := some 34, op := Op.buildSlice 22 1 #[(0, Operand.tmp 33)], type := 22, pos := "law.go:211", after := #[{ on := 16, ground := Ground.data }], guard := none }) rfl (fun K hK => ?_) AllReadyH.nil)
  · obtain ⟨b, hb⟩ : ∃ v, W.alloc (.cells #[.int .u8 2, .string ⟨#[105, 110, 116]⟩, .int .i64 0, .slice none 0 0, .int .u8 2, .string ⟨#[105, 110, 116]⟩, .int .i64 0, .slice none 0 0] 24) = v := ⟨_, rfl⟩
    have bb : Below W.heap.size W b := by rw [← hb]; exact (Below.refl _ _).alloc (Nat.le_refl _) _
    have BB : Blk b W.heap.size 24 #[.int .u8 2, .string ⟨#[105, 110, 116]⟩, .int .i64 0, .slice none 0 0, .int .u8 2, .string ⟨#[105, 110, 116]⟩, .int .i64 0, .slice none 0 0] := by rw [← hb]; exact Blk.new _ _ _
    obtain ⟨mA, hn⟩ : ∃ v, W.heap.size = v := ⟨_, rfl⟩
    rw [hn] at BB
    have H := Lib.hid (And.intro hb (And.intro hn (And.intro bb BB)))
    have Tb : Hid (Below w2.heap.size w2 b) := Lib.hid (T.out.trans (bb.mono T.out.size))
    clear hb hn bb BB
    go_simp
    (try rw [H.out.1])
    (try rw [H.out.2.1])
    refine hK.out _ _ (HS.out _ Tb.out) (fun hHeld => ?_)
    clear hK K
    have FB := Lib.hid (FB.out.below H.out.2.2.1 FB.out.lt)
    have FC := Lib.hid (FC.out.below H.out.2.2.1 FC.out.lt)
    have FA := Lib.hid H.out.2.2.2
    refine takeY (oi := { dst := some 20, op := Op.build 24 #[(0, Operand.const (Value.int IntKind.u8 3)), (3, Operand.tmp 19)], type := 24, pos := "law.go:211", after := #[{ on := 2, ground := Ground.data }], guard := none }) 3 (some 20) rfl rfl (by kernel_rfl) (by kernel_rfl) (by kernel_rfl) (fun _ _ _ h => hQ _ _ _ _ _ h) (by rfl) (v := _) (by (intro _ hSw; (try dsimp only at hSw); go_simp; try with_reducible rfl)) hHeld ?_
    simp only [Act.put, List.setIfInBounds_toArray, List.set_cons_zero, List.set_cons_succ]
    exact rg6ABC Q hQ w2 q x0 x1 x2 HS HEnd b Tb mA FA mB FB mC FC
  · obtain ⟨b, hb⟩ : ∃ v, W.alloc (.cells #[.int .u8 2, .string ⟨#[105, 110, 116]⟩, .int .i64 0, .slice none 0 0] 24) = v := ⟨_, rfl⟩
    have bb : Below W.heap.size W b := by rw [← hb]; exact (Below.refl _ _).alloc (Nat.le_refl _) _
    have BB : Blk b W.heap.size 24 #[.int .u8 2, .string ⟨#[105, 110, 116]⟩, .int .i64 0, .slice none 0 0] := by rw [← hb]; exact Blk.new _ _ _
    obtain ⟨mD, hn⟩ : ∃ v, W.heap.size = v := ⟨_, rfl⟩
    rw [hn] at BB
    have H := Lib.hid (And.intro hb (And.intro hn (And.intro bb BB)))
    have Tb : Hid (Below w2.heap.size w2 b) := Lib.hid (T.out.trans (bb.mono T.out.size))
    clear hb hn bb BB
    go_simp
    (try rw [H.out.1])
    (try rw [H.out.2.1])
    refine hK.out _ _ (HS.out _ Tb.out) (fun hHeld => ?_)
    clear hK K
    have FB := Lib.hid (FB.out.below H.out.2.2.1 FB.out.lt)
    have FC := Lib.hid (FC.out.below H.out.2.2.1 FC.out.lt)
    have FD := Lib.hid H.out.2.2.2
    refine takeY (oi := { dst := some 35, op := Op.build 24 #[(0, Operand.const (Value.int IntKind.u8 4)), (3, Operand.tmp 34)], type := 24, pos := "law.go:211", after := #[{ on := 17, ground := Ground.data }], guard := none }) 18 (some 35) rfl rfl (by kernel_rfl) (by kernel_rfl) (by kernel_rfl) (fun _ _ _ h => hQ _ _ _ _ _ h) (by rfl) (v := _) (by (intro _ hSw; (try dsimp only at hSw); go_simp; try with_reducible rfl)) hHeld ?_
    simp only [Act.put, List.setIfInBounds_toArray, List.set_cons_zero, List.set_cons_succ]
    exact rg6BCD Q hQ w2 q x0 x1 x2 HS HEnd b Tb mB FB mC FC mD FD
set_option maxRecDepth 100000 in
set_option maxHeartbeats 4000000 in
theorem rg3ABCD (Q : Exit → Act → World → Prop) (hQ : ∀ c d v (a : Act) (w : World), Q (.panic c) (a.put d v) w → Q (.panic c) a w) (w2 : World) (q : Nat) (x0 x1 x2 : Value) (HS : Hid (∀ W, Below w2.heap.size w2 W → (fun W : World => W.cell? ⟨q, 0, none⟩ = some (.int .u8 2) ∧ W.cell? ⟨q, 1, none⟩ = some (.string ⟨#[105, 110, 116]⟩) ∧ W.cell? ⟨q, 2, none⟩ = some (.int .i64 0) ∧ W.cell? ⟨q, 3, none⟩ = some (.slice none 0 0)) W)) (HEnd : Hid (RgEnd Q w2 q x0 x1 x2)) (W : World) (T : Hid (Below w2.heap.size w2 W)) (mA : Nat) (FA : Hid (Blk W mA 24 #[.int .u8 2, .string ⟨#[105, 110, 116]⟩, .int .i64 0, .slice none 0 0, .int .u8 2, .string ⟨#[105, 110, 116]⟩, .int .i64 0, .slice none 0 0])) (mB : Nat) (FB : Hid (Blk W mB 24 #[.int .u8 2, .string ⟨#[105, 110, 116]⟩, .int .i64 0, .slice none 0 0])) (mC : Nat) (FC : Hid (Blk W mC 24 #[.int .u8 2, .string ⟨#[105, 110, 116]⟩, .int .i64 0, .slice none 0 0, .int .u8 2, .string ⟨#[105, 110, 116]⟩, .int .i64 0, .slice none 0 0])) (mD : Nat) (FD : Hid (Blk W mD 24 #[.int .u8 2, .string ⟨#[105, 110, 116]⟩, .int .i64 0, .slice none 0 0])) : wpAnyH Tryd.prog .any rops Q (fun W : World => W.cell? ⟨q, 0, none⟩ = some (.int .u8 2) ∧ W.cell? ⟨q, 1, none⟩ = some (.string ⟨#[105, 110, 116]⟩) ∧ W.cell? ⟨q, 2, none⟩ = some (.int .i64 0) ∧ W.cell? ⟨q, 3, none⟩ = some (.slice none 0 0)) 5 #[true, true, true, true, true, true, true, true, true, true, false, false, true, true, true, false, true, true, true, true, false, false] { tmps := #[x0, x1, x2, undef, undef, undef, .bool false, .pointer (some ⟨q, 0, none⟩), undef, undef, undef, undef, undef, undef, undef, undef, .agg #[.int .u8 2, .string ⟨#[105, 110, 116]⟩, .int .i64 0, .slice none 0 0], .agg #[.int .u8 2, .string ⟨#[105, 110, 116]⟩, .int .i64 0, .slice none 0 0], .agg #[.int .u8 2, .string ⟨#[105, 110, 116]⟩, .int .i64 0, .slice none 0 0], .slice (some ⟨mA, 0, none⟩) 2 2, .agg #[.int .u8 3, .string ⟨#[]⟩, .int .i64 0, .slice (some ⟨mA, 0, none⟩) 2 2], .agg #[.int .u8 1, .string ⟨#[39, 98]⟩, .int .i64 0, .slice none 0 0], .agg #[.int .u8 2, .string ⟨#[101, 120, 110]⟩, .int .i64 0, .slice none 0 0], .agg #[.int .u8 2, .string ⟨#[110, 111, 98, 111, 100, 121]⟩, .int .i64 0, .slice none 0 0], .agg #[.int .u8 2, .string ⟨#[105, 110, 116]⟩, .int .i64 0, .slice none 0 0], .slice (some ⟨mB, 0, none⟩) 1 1, .agg #[.int .u8 2, .string ⟨#[105, 110, 116]⟩, .int .i64 0, .slice (some ⟨mB, 0, none⟩) 1 1], undef, undef, .agg #[.int .u8 2, .string ⟨#[105, 110, 116]⟩, .int .i64 0, .slice none 0 0], .agg #[.int .u8 2, .string ⟨#[105, 110, 116]⟩, .int .i64 0, .slice none 0 0], .slice (some ⟨mC, 0, none⟩) 2 2, undef, .agg #[.int .u8 2, .string ⟨#[105, 110, 116]⟩, .int .i64 0, .slice none 0 0], .slice (some ⟨mD, 0, none⟩) 1 1, .agg #[.int .u8 4, .string ⟨#[]⟩, .int .i64 0, .slice (some ⟨mD, 0, none⟩) 1 1], .agg #[.int .u8 0, .string ⟨#[]⟩, .int .i64 0, .slice none 0 0], undef, undef, undef, undef, undef, undef, undef, undef, undef, undef, undef, undef, undef, undef, undef, undef, undef, undef, undef, undef, undef, undef, undef, undef, undef, undef, undef, undef, undef, undef, undef, undef, undef, undef, undef, undef, undef, undef, undef, undef, undef, undef, undef, undef, undef, undef, undef, undef, undef, undef, undef, undef, undef, undef, undef, undef, undef, undef, undef, undef, undef, undef, undef, undef, undef, undef, undef, undef, undef, undef, undef, undef], defers := [] } W := by
  have hHeld := HS.out W T.out
  refine wpAnyH_ready (rs := [10]) (by kernel_rfl) (by simp) ?_
  refine AllReadyH.cons (o := { dst := some 27, op := Op.call { callee := Callee.value (Operand.func 10), args := #[Operand.const (Value.string { data := #[114, 101, 102] }), Operand.const (Value.slice none 0 0)], argTypes := #[9, 22] }, type := 24, pos := "law.go:211", after := #[{ on := 9, ground := Ground.chain }], guard := none }) rfl (fun K hK => ?_) AllReadyH.nil
  · have HT := Lib.hid (named_any ⟨#[114, 101, 102]⟩ none 0 0 W)
    clear hHeld
    go_simp
    go_wp2_with (go_at_call 10; refine Calls.mono HT.out ?_; rintro e b ⟨rfl, bb⟩; have Hb := Lib.hid bb; have Tb : Hid (Below w2.heap.size w2 b) := Lib.hid (T.out.trans (bb.mono T.out.size)))
    refine hK.out _ _ (HS.out _ Tb.out) (fun hHeld => ?_)
    clear hK K HT
    have FA := Lib.hid (FA.out.below Hb.out FA.out.lt)
    have FB := Lib.hid (FB.out.below Hb.out FB.out.lt)
    have FC := Lib.hid (FC.out.below Hb.out FC.out.lt)
    have FD := Lib.hid (FD.out.below Hb.out FD.out.lt)
    exact rg4ABCD Q hQ w2 q x0 x1 x2 HS HEnd b Tb mA FA mB FB mC FC mD FD
set_option maxRecDepth 100000 in
set_option maxHeartbeats 4000000 in
theorem rg4ABC (Q : Exit → Act → World → Prop) (hQ : ∀ c d v (a : Act) (w : World), Q (.panic c) (a.put d v) w → Q (.panic c) a w) (w2 : World) (q : Nat) (x0 x1 x2 : Value) (HS : Hid (∀ W, Below w2.heap.size w2 W → (fun W : World => W.cell? ⟨q, 0, none⟩ = some (.int .u8 2) ∧ W.cell? ⟨q, 1, none⟩ = some (.string ⟨#[105, 110, 116]⟩) ∧ W.cell? ⟨q, 2, none⟩ = some (.int .i64 0) ∧ W.cell? ⟨q, 3, none⟩ = some (.slice none 0 0)) W)) (HEnd : Hid (RgEnd Q w2 q x0 x1 x2)) (W : World) (T : Hid (Below w2.heap.size w2 W)) (mA : Nat) (FA : Hid (Blk W mA 24 #[.int .u8 2, .string ⟨#[105, 110, 116]⟩, .int .i64 0, .slice none 0 0, .int .u8 2, .string ⟨#[105, 110, 116]⟩, .int .i64 0, .slice none 0 0])) (mB : Nat) (FB : Hid (Blk W mB 24 #[.int .u8 2, .string ⟨#[105, 110, 116]⟩, .int .i64 0, .slice none 0 0])) (mC : Nat) (FC : Hid (Blk W mC 24 #[.int .u8 2, .string ⟨#[105, 110, 116]⟩, .int .i64 0, .slice none 0 0, .int .u8 2, .string ⟨#[105, 110, 116]⟩, .int .i64 0, .slice none 0 0])) : wpAnyH Tryd.prog .any rops Q (fun W : World => W.cell? ⟨q, 0, none⟩ = some (.int .u8 2) ∧ W.cell? ⟨q, 1, none⟩ = some (.string ⟨#[105, 110, 116]⟩) ∧ W.cell? ⟨q, 2, none⟩ = some (.int .i64 0) ∧ W.cell? ⟨q, 3, none⟩ = some (.slice none 0 0)) 6 #[true, true, true, true, true, true, true, true, true, true, true, false, true, true, true, false, true, false, false, true, false, false] { tmps := #[x0, x1, x2, undef, undef, undef, .bool false, .pointer (some ⟨q, 0, none⟩), undef, undef, undef, undef, undef, undef, undef, undef, .agg #[.int .u8 2, .string ⟨#[105, 110, 116]⟩, .int .i64 0, .slice none 0 0], .agg #[.int .u8 2, .string ⟨#[105, 110, 116]⟩, .int .i64 0, .slice none 0 0], .agg #[.int .u8 2, .string ⟨#[105, 110, 116]⟩, .int .i64 0, .slice none 0 0], .slice (some ⟨mA, 0, none⟩) 2 2, .agg #[.int .u8 3, .string ⟨#[]⟩, .int .i64 0, .slice (some ⟨mA, 0, none⟩) 2 2], .agg #[.int .u8 1, .string ⟨#[39, 98]⟩, .int .i64 0, .slice none 0 0], .agg #[.int .u8 2, .string ⟨#[101, 120, 110]⟩, .int .i64 0, .slice none 0 0], .agg #[.int .u8 2, .string ⟨#[110, 111, 98, 111, 100, 121]⟩, .int .i64 0, .slice none 0 0], .agg #[.int .u8 2, .string ⟨#[105, 110, 116]⟩, .int .i64 0, .slice none 0 0], .slice (some ⟨mB, 0, none⟩) 1 1, .agg #[.int .u8 2, .string ⟨#[105, 110, 116]⟩, .int .i64 0, .slice (some ⟨mB, 0, none⟩) 1 1], .agg #[.int .u8 2, .string ⟨#[114, 101, 102]⟩, .int .i64 0, .slice none 0 0], undef, .agg #[.int .u8 2, .string ⟨#[105, 110, 116]⟩, .int .i64 0, .slice none 0 0], .agg #[.int .u8 2, .string ⟨#[105, 110, 116]⟩, .int .i64 0, .slice none 0 0], .slice (some ⟨mC, 0, none⟩) 2 2, undef, .agg #[.int .u8 2, .string ⟨#[105, 110, 116]⟩, .int .i64 0, .slice none 0 0], undef, undef, .agg #[.int .u8 0, .string ⟨#[]⟩, .int .i64 0, .slice none 0 0], undef, undef, undef, undef, undef, undef, undef, undef, undef, undef, undef, undef, undef, undef, undef, undef, undef, undef, undef, undef, undef, undef, undef, undef, undef, undef, undef, undef, undef, undef, undef, undef, undef, undef, undef, undef, undef, undef, undef, undef, undef, undef, undef, undef, undef, undef, undef, undef, undef, undef, undef, undef, undef, undef, undef, undef, undef, undef, undef, undef, undef, undef, undef, undef, undef, undef, undef, undef, undef, undef, undef, undef], defers := [] } W := by
  have hHeld := HS.out W T.out
  refine wpAnyH_ready (rs := [11, 17]) (by kernel_rfl) (by simp) ?_
  refine AllReadyH.cons (o := { dst := some 28, op := Op.call { callee := Callee.value (Operand.func 10), args := #[Operand.const (Value.string { data := #[108, 105, 115, 116] }), Operand.const (Value.slice none 0 0)], argTypes := #[9, 22] }, type := 24, pos := "law.go:211", after := #[{ on := 10, ground := Ground.chain }], guard := none }) rfl (fun K hK => ?_) (AllReadyH.cons (o := { dst := some 34, op := Op.buildSlice 22 1 #[(0, Operand.tmp 33)], type := 22, pos := "law.go:211", after := #[{ on := 16, ground := Ground.data }], guard := none }) rfl (fun K hK => ?_) AllReadyH.nil)
  · have HT := Lib.hid (named_any ⟨#[108, 105, 115, 116]⟩ none 0 0 W)
    clear hHeld
    go_simp
    go_wp2_with (go_at_call 10; refine Calls.mono HT.out ?_; rintro e b ⟨rfl, bb⟩; have Hb := Lib.hid bb; have Tb : Hid (Below w2.heap.size w2 b) := Lib.hid (T.out.trans (bb.mono T.out.size)))
    refine hK.out _ _ (HS.out _ Tb.out) (fun hHeld => ?_)
    clear hK K HT
    have FA := Lib.hid (FA.out.below Hb.out FA.out.lt)
    have FB := Lib.hid (FB.out.below Hb.out FB.out.lt)
    have FC := Lib.hid (FC.out.below Hb.out FC.out.lt)
    exact rg5ABC Q hQ w2 q x0 x1 x2 HS HEnd b Tb mA FA mB FB mC FC
  · obtain ⟨b, hb⟩ : ∃ v, W.alloc (.cells #[.int .u8 2, .string ⟨#[105, 110, 116]⟩, .int .i64 0, .slice none 0 0] 24) = v := ⟨_, rfl⟩
    have bb : Below W.heap.size W b := by rw [← hb]; exact (Below.refl _ _).alloc (Nat.le_refl _) _
    have BB : Blk b W.heap.size 24 #[.int .u8 2, .string ⟨#[105, 110, 116]⟩, .int .i64 0, .slice none 0 0] := by rw [← hb]; exact Blk.new _ _ _
    obtain ⟨mD, hn⟩ : ∃ v, W.heap.size = v := ⟨_, rfl⟩
    rw [hn] at BB
    have H := Lib.hid (And.intro hb (And.intro hn (And.intro bb BB)))
    have Tb : Hid (Below w2.heap.size w2 b) := Lib.hid (T.out.trans (bb.mono T.out.size))
    clear hb hn bb BB
    go_simp
    (try rw [H.out.1])
    (try rw [H.out.2.1])
    refine hK.out _ _ (HS.out _ Tb.out) (fun hHeld => ?_)
    clear hK K
    have FA := Lib.hid (FA.out.below H.out.2.2.1 FA.out.lt)
    have FB := Lib.hid (FB.out.below H.out.2.2.1 FB.out.lt)
    have FC := Lib.hid (FC.out.below H.out.2.2.1 FC.out.lt)
    have FD := Lib.hid H.out.2.2.2
    refine takeY (oi := { dst := some 35, op := Op.build 24 #[(0, Operand.const (Value.int IntKind.u8 4)), (3, Operand.tmp 34)], type := 24, pos := "law.go:211", after := #[{ on := 17, ground := Ground.data }], guard := none }) 18 (some 35) rfl rfl (by kernel_rfl) (by kernel_rfl) (by kernel_rfl) (fun _ _ _ h => hQ _ _ _ _ _ h) (by rfl) (v := _) (by (intro _ hSw; (try dsimp only at hSw); go_simp; try with_reducible rfl)) hHeld ?_
    simp only [Act.put, List.setIfInBounds_toArray, List.set_cons_zero, List.set_cons_succ]
    exact rg4ABCD Q hQ w2 q x0 x1 x2 HS HEnd b Tb mA FA mB FB mC FC mD FD
set_option maxRecDepth 100000 in
set_option maxHeartbeats 4000000 in
theorem rg4ABD (Q : Exit → Act → World → Prop) (hQ : ∀ c d v (a : Act) (w : World), Q (.panic c) (a.put d v) w → Q (.panic c) a w) (w2 : World) (q : Nat) (x0 x1 x2 : Value) (HS : Hid (∀ W, Below w2.heap.size w2 W → (fun W : World => W.cell? ⟨q, 0, none⟩ = some (.int .u8 2) ∧ W.cell? ⟨q, 1, none⟩ = some (.string ⟨#[105, 110, 116]⟩) ∧ W.cell? ⟨q, 2, none⟩ = some (.int .i64 0) ∧ W.cell? ⟨q, 3, none⟩ = some (.slice none 0 0)) W)) (HEnd : Hid (RgEnd Q w2 q x0 x1 x2)) (W : World) (T : Hid (Below w2.heap.size w2 W)) (mA : Nat) (FA : Hid (Blk W mA 24 #[.int .u8 2, .string ⟨#[105, 110, 116]⟩, .int .i64 0, .slice none 0 0, .int .u8 2, .string ⟨#[105, 110, 116]⟩, .int .i64 0, .slice none 0 0])) (mB : Nat) (FB : Hid (Blk W mB 24 #[.int .u8 2, .string ⟨#[105, 110, 116]⟩, .int .i64 0, .slice none 0 0])) (mD : Nat) (FD : Hid (Blk W mD 24 #[.int .u8 2, .string ⟨#[105, 110, 116]⟩, .int .i64 0, .slice none 0 0])) : wpAnyH Tryd.prog .any rops Q (fun W : World => W.cell? ⟨q, 0, none⟩ = some (.int .u8 2) ∧ W.cell? ⟨q, 1, none⟩ = some (.string ⟨#[105, 110, 116]⟩) ∧ W.cell? ⟨q, 2, none⟩ = some (.int .i64 0) ∧ W.cell? ⟨q, 3, none⟩ = some (.slice none 0 0)) 5 #[true, true, true, true, true, true, true, true, true, true, true, false, true, true, false, false, true, true, true, true, false, false] { tmps := #[x0, x1, x2, undef, undef, undef, .bool false, .pointer (some ⟨q, 0, none⟩), undef, undef, undef, undef, undef, undef, undef, undef, .agg #[.int .u8 2, .string ⟨#[105, 110, 116]⟩, .int .i64 0, .slice none 0 0], .agg #[.int .u8 2, .string ⟨#[105, 110, 116]⟩, .int .i64 0, .slice none 0 0], .agg #[.int .u8 2, .string ⟨#[105, 110, 116]⟩, .int .i64 0, .slice none 0 0], .slice (some ⟨mA, 0, none⟩) 2 2, .agg #[.int .u8 3, .string ⟨#[]⟩, .int .i64 0, .slice (some ⟨mA, 0, none⟩) 2 2], .agg #[.int .u8 1, .string ⟨#[39, 98]⟩, .int .i64 0, .slice none 0 0], .agg #[.int .u8 2, .string ⟨#[101, 120, 110]⟩, .int .i64 0, .slice none 0 0], .agg #[.int .u8 2, .string ⟨#[110, 111, 98, 111, 100, 121]⟩, .int .i64 0, .slice none 0 0], .agg #[.int .u8 2, .string ⟨#[105, 110, 116]⟩, .int .i64 0, .slice none 0 0], .slice (some ⟨mB, 0, none⟩) 1 1, .agg #[.int .u8 2, .string ⟨#[105, 110, 116]⟩, .int .i64 0, .slice (some ⟨mB, 0, none⟩) 1 1], .agg #[.int .u8 2, .string ⟨#[114, 101, 102]⟩, .int .i64 0, .slice none 0 0], undef, .agg #[.int .u8 2, .string ⟨#[105, 110, 116]⟩, .int .i64 0, .slice none 0 0], .agg #[.int .u8 2, .string ⟨#[105, 110, 116]⟩, .int .i64 0, .slice none 0 0], undef, undef, .agg #[.int .u8 2, .string ⟨#[105, 110, 116]⟩, .int .i64 0, .slice none 0 0], .slice (some ⟨mD, 0, none⟩) 1 1, .agg #[.int .u8 4, .string ⟨#[]⟩, .int .i64 0, .slice (some ⟨mD, 0, none⟩) 1 1], .agg #[.int .u8 0, .string ⟨#[]⟩, .int .i64 0, .slice none 0 0], undef, undef, undef, undef, undef, undef, undef, undef, undef, undef, undef, undef, undef, undef, undef, undef, undef, undef, undef, undef, undef, undef, undef, undef, undef, undef, undef, undef, undef, undef, undef, undef, undef, undef, undef, undef, undef, undef, undef, undef, undef, undef, undef, undef, undef, undef, undef, undef, undef, undef, undef, undef, undef, undef, undef, undef, undef, undef, undef, undef, undef, undef, undef, undef, undef, undef, undef, undef, undef, undef, undef, undef], defers := [] } W := by
  have hHeld := HS.out W T.out
  refine wpAnyH_ready (rs := [11, 14]) (by kernel_rfl) (by simp) ?_
  refine AllReadyH.cons (o := { dst := some 28, op := Op.call { callee := Callee.value (Operand.func 10), args := #[Operand.const (Value.string { data := #[108, 105, 115, 116] }), Operand.const (Value.slice none 0 0)], argTypes := #[9, 22] }, type := 24, pos := "law.go:211", after := #[{ on := 10, ground := Ground.chain }], guard := none }) rfl (fun K hK => ?_) (AllReadyH.cons (o := { dst := some 31, op := Op.buildSlice 22 2 #[(0, Operand.tmp 29), (1, Operand.tmp 30)], type := 22, pos := "law.go:211", after := #[{ on := 12, ground := Ground.data }, { on := 13, ground := Ground.data }], guard := none }) rfl (fun K hK => ?_) AllReadyH.nil)
  · have HT := Lib.hid (named_any ⟨#[108, 105, 115, 116]⟩ none 0 0 W)
    clear hHeld
    go_simp
    go_wp2_with (go_at_call 10; refine Calls.mono HT.out ?_; rintro e b ⟨rfl, bb⟩; have Hb := Lib.hid bb; have Tb : Hid (Below w2.heap.size w2 b) := Lib.hid (T.out.trans (bb.mono T.out.size)))
    refine hK.out _ _ (HS.out _ Tb.out) (fun hHeld => ?_)
    clear hK K HT
    have FA := Lib.hid (FA.out.below Hb.out FA.out.lt)
    have FB := Lib.hid (FB.out.below Hb.out FB.out.lt)
    have FD := Lib.hid (FD.out.below Hb.out FD.out.lt)
    exact rg5ABD Q hQ w2 q x0 x1 x2 HS HEnd b Tb mA FA mB FB mD FD
  · obtain ⟨b, hb⟩ : ∃ v, W.alloc (.cells #[.int .u8 2, .string ⟨#[105, 110, 116]⟩, .int .i64 0, .slice none 0 0, .int .u8 2, .string ⟨#[105, 110, 116]⟩, .int .i64 0, .slice none 0 0] 24) = v := ⟨_, rfl⟩
    have bb : Below W.heap.size W b := by rw [← hb]; exact (Below.refl _ _).alloc (Nat.le_refl _) _
    have BB : Blk b W.heap.size 24 #[.int .u8 2, .string ⟨#[105, 110, 116]⟩, .int .i64 0, .slice none 0 0, .int .u8 2, .string ⟨#[105, 110, 116]⟩, .int .i64 0, .slice none 0 0] := by rw [← hb]; exact Blk.new _ _ _
    obtain ⟨mC, hn⟩ : ∃ v, W.heap.size = v := ⟨_, rfl⟩
    rw [hn] at BB
    have H := Lib.hid (And.intro hb (And.intro hn (And.intro bb BB)))
    have Tb : Hid (Below w2.heap.size w2 b) := Lib.hid (T.out.trans (bb.mono T.out.size))
    clear hb hn bb BB
    go_simp
    (try rw [H.out.1])
    (try rw [H.out.2.1])
    refine hK.out _ _ (HS.out _ Tb.out) (fun hHeld => ?_)
    clear hK K
    have FA := Lib.hid (FA.out.below H.out.2.2.1 FA.out.lt)
    have FB := Lib.hid (FB.out.below H.out.2.2.1 FB.out.lt)
    have FD := Lib.hid (FD.out.below H.out.2.2.1 FD.out.lt)
    have FC := Lib.hid H.out.2.2.2
    exact rg4ABCD Q hQ w2 q x0 x1 x2 HS HEnd b Tb mA FA mB FB mC FC mD FD
set_option maxRecDepth 100000 in
set_option maxHeartbeats 4000000 in
theorem rg4BCD (Q : Exit → Act → World → Prop) (hQ : ∀ c d v (a : Act) (w : World), Q (.panic c) (a.put d v) w → Q (.panic c) a w) (w2 : World) (q : Nat) (x0 x1 x2 : Value) (HS : Hid (∀ W, Below w2.heap.size w2 W → (fun W : World => W.cell? ⟨q, 0, none⟩ = some (.int .u8 2) ∧ W.cell? ⟨q, 1, none⟩ = some (.string ⟨#[105, 110, 116]⟩) ∧ W.cell? ⟨q, 2, none⟩ = some (.int .i64 0) ∧ W.cell? ⟨q, 3, none⟩ = some (.slice none 0 0)) W)) (HEnd : Hid (RgEnd Q w2 q x0 x1 x2)) (W : World) (T : Hid (Below w2.heap.size w2 W)) (mB : Nat) (FB : Hid (Blk W mB 24 #[.int .u8 2, .string ⟨#[105, 110, 116]⟩, .int .i64 0, .slice none 0 0])) (mC : Nat) (FC : Hid (Blk W mC 24 #[.int .u8 2, .string ⟨#[105, 110, 116]⟩, .int .i64 0, .slice none 0 0, .int .u8 2, .string ⟨#[105, 110, 116]⟩, .int .i64 0, .slice none 0 0])) (mD : Nat) (FD : Hid (Blk W mD 24 #[.int .u8 2, .string ⟨#[105, 110, 116]⟩, .int .i64 0, .slice none 0 0])) : wpAnyH Tryd.prog .any rops Q (fun W : World => W.cell? ⟨q, 0, none⟩ = some (.int .u8 2) ∧ W.cell? ⟨q, 1, none⟩ = some (.string ⟨#[105, 110, 116]⟩) ∧ W.cell? ⟨q, 2, none⟩ = some (.int .i64 0) ∧ W.cell? ⟨q, 3, none⟩ = some (.slice none 0 0)) 6 #[true, true, false, false, true, true, true, true, true, true, true, false, true, true, true, false, true, true, true, true, false, false] { tmps := #[x0, x1, x2, undef, undef, undef, .bool false, .pointer (some ⟨q, 0, none⟩), undef, undef, undef, undef, undef, undef, undef, undef, .agg #[.int .u8 2, .string ⟨#[105, 110, 116]⟩, .int .i64 0, .slice none 0 0], .agg #[.int .u8 2, .string ⟨#[105, 110, 116]⟩, .int .i64 0, .slice none 0 0], .agg #[.int .u8 2, .string ⟨#[105, 110, 116]⟩, .int .i64 0, .slice none 0 0], undef, undef, .agg #[.int .u8 1, .string ⟨#[39, 98]⟩, .int .i64 0, .slice none 0 0], .agg #[.int .u8 2, .string ⟨#[101, 120, 110]⟩, .int .i64 0, .slice none 0 0], .agg #[.int .u8 2, .string ⟨#[110, 111, 98, 111, 100, 121]⟩, .int .i64 0, .slice none 0 0], .agg #[.int .u8 2, .string ⟨#[105, 110, 116]⟩, .int .i64 0, .slice none 0 0], .slice (some ⟨mB, 0, none⟩) 1 1, .agg #[.int .u8 2, .string ⟨#[105, 110, 116]⟩, .int .i64 0, .slice (some ⟨mB, 0, none⟩) 1 1], .agg #[.int .u8 2, .string ⟨#[114, 101, 102]⟩, .int .i64 0, .slice none 0 0], undef, .agg #[.int .u8 2, .string ⟨#[105, 110, 116]⟩, .int .i64 0, .slice none 0 0], .agg #[.int .u8 2, .string ⟨#[105, 110, 116]⟩, .int .i64 0, .slice none 0 0], .slice (some ⟨mC, 0, none⟩) 2 2, undef, .agg #[.int .u8 2, .string ⟨#[105, 110, 116]⟩, .int .i64 0, .slice none 0 0], .slice (some ⟨mD, 0, none⟩) 1 1, .agg #[.int .u8 4, .string ⟨#[]⟩, .int .i64 0, .slice (some ⟨mD, 0, none⟩) 1 1], .agg #[.int .u8 0, .string ⟨#[]⟩, .int .i64 0, .slice none 0 0], undef, undef, undef, undef, undef, undef, undef, undef, undef, undef, undef, undef, undef, undef, undef, undef, undef, undef, undef, undef, undef, undef, undef, undef, undef, undef, undef, undef, undef, undef, undef, undef, undef, undef, undef, undef, undef, undef, undef, undef, undef, undef, undef, undef, undef, undef, undef, undef, undef, undef, undef, undef, undef, undef, undef, undef, undef, undef, undef, undef, undef, undef, undef, undef, undef, undef, undef, undef, undef, undef, undef, undef], defers := [] } W := by
  have hHeld := HS.out W T.out
  refine wpAnyH_ready (rs := [2, 11]) (by kernel_rfl) (by simp) ?_
  refine AllReadyH.cons (o := { dst := some 19, op := Op.buildSlice 22 2 #[(0, Operand.tmp 17), (1, Operand.tmp 18)], type := 22, pos := "law.go:211", after := #[{ on := 0, ground := Ground.data }, { on := 1, ground := Ground.data }], guard := none }) rfl (fun K hK => ?_) (AllReadyH.cons (o := { dst := some 28, op := Op.call { callee := Callee.value (Operand.func 10), args := #[Operand.const (Value.string { data := #[108, 105, 115, 116] }), Operand.const (Value.slice none 0 0)], argTypes := #[9, 22] }, type := 24, pos := "law.go:211", after := #[{ on := 10, ground := Ground.chain }], guard := none }) rfl (fun K hK => ?_) AllReadyH.nil)
  · obtain ⟨b, hb⟩ : ∃ v, W.alloc (.cells #[.int .u8 2, .string ⟨#[105, 110, 116]⟩, .int .i64 0, .slice none 0 0, .int .u8 2, .string ⟨#[105, 110, 116]⟩, .int .i64 0, .slice none 0 0] 24) = v := ⟨_, rfl⟩
    have bb : Below W.heap.size W b := by rw [← hb]; exact (Below.refl _ _).alloc (Nat.le_refl _) _
    have BB : Blk b W.heap.size 24 #[.int .u8 2, .string ⟨#[105, 110, 116]⟩, .int .i64 0, .slice none 0 0, .int .u8 2, .string ⟨#[105, 110, 116]⟩, .int .i64 0, .slice none 0 0] := by rw [← hb]; exact Blk.new _ _ _
    obtain ⟨mA, hn⟩ : ∃ v, W.heap.size = v := ⟨_, rfl⟩
    rw [hn] at BB
    have H := Lib.hid (And.intro hb (And.intro hn (And.intro bb BB)))
    have Tb : Hid (Below w2.heap.size w2 b) := Lib.hid (T.out.trans (bb.mono T.out.size))
    clear hb hn bb BB
    go_simp
    (try rw [H.out.1])
    (try rw [H.out.2.1])
    refine hK.out _ _ (HS.out _ Tb.out) (fun hHeld => ?_)
    clear hK K
    have FB := Lib.hid (FB.out.below H.out.2.2.1 FB.out.lt)
    have FC := Lib.hid (FC.out.below H.out.2.2.1 FC.out.lt)
    have FD := Lib.hid (FD.out.below H.out.2.2.1 FD.out.lt)
    have FA := Lib.hid H.out.2.2.2
    refine takeY (oi := { dst := some 20, op := Op.build 24 #[(0, Operand.const (Value.int IntKind.u8 3)), (3, Operand.tmp 19)], type := 24, pos := "law.go:211", after := #[{ on := 2, ground := Ground.data }], guard := none }) 3 (some 20) rfl rfl (by kernel_rfl) (by kernel_rfl) (by kernel_rfl) (fun _ _ _ h => hQ _ _ _ _ _ h) (by rfl) (v := _) (by (intro _ hSw; (try dsimp only at hSw); go_simp; try with_reducible rfl)) hHeld ?_
    simp only [Act.put, List.setIfInBounds_toArray, List.set_cons_zero, List.set_cons_succ]
    exact rg4ABCD Q hQ w2 q x0 x1 x2 HS HEnd b Tb mA FA mB FB mC FC mD FD
  · have HT := Lib.hid (named_any ⟨#[108, 105, 115, 116]⟩ none 0 0 W)
    clear hHeld
    go_simp
    go_wp2_with (go_at_call 10; refine Calls.mono HT.out ?_; rintro e b ⟨rfl, bb⟩; have Hb := Lib.hid bb; have Tb : Hid (Below w2.heap.size w2 b) := Lib.hid (T.out.trans (bb.mono T.out.size)))
    refine hK.out _ _ (HS.out _ Tb.out) (fun hHeld => ?_)
    clear hK K HT
    have FB := Lib.hid (FB.out.below Hb.out FB.out.lt)
    have FC := Lib.hid (FC.out.below Hb.out FC.out.lt)
    have FD := Lib.hid (FD.out.below Hb.out FD.out.lt)
    exact rg5BCD Q hQ w2 q x0 x1 x2 HS HEnd b Tb mB FB mC FC mD FD
set_option maxRecDepth 100000 in
set_option maxHeartbeats 4000000 in
theorem rg5AB (Q : Exit → Act → World → Prop) (hQ : ∀ c d v (a : Act) (w : World), Q (.panic c) (a.put d v) w → Q (.panic c) a w) (w2 : World) (q : Nat) (x0 x1 x2 : Value) (HS : Hid (∀ W, Below w2.heap.size w2 W → (fun W : World => W.cell? ⟨q, 0, none⟩ = some (.int .u8 2) ∧ W.cell? ⟨q, 1, none⟩ = some (.string ⟨#[105, 110, 116]⟩) ∧ W.cell? ⟨q, 2, none⟩ = some (.int .i64 0) ∧ W.cell? ⟨q, 3, none⟩ = some (.slice none 0 0)) W)) (HEnd : Hid (RgEnd Q w2 q x0 x1 x2)) (W : World) (T : Hid (Below w2.heap.size w2 W)) (mA : Nat) (FA : Hid (Blk W mA 24 #[.int .u8 2, .string ⟨#[105, 110, 116]⟩, .int .i64 0, .slice none 0 0, .int .u8 2, .string ⟨#[105, 110, 116]⟩, .int .i64 0, .slice none 0 0])) (mB : Nat) (FB : Hid (Blk W mB 24 #[.int .u8 2, .string ⟨#[105, 110, 116]⟩, .int .i64 0, .slice none 0 0])) : wpAnyH Tryd.prog .any rops Q (fun W : World => W.cell? ⟨q, 0, none⟩ = some (.int .u8 2) ∧ W.cell? ⟨q, 1, none⟩ = some (.string ⟨#[105, 110, 116]⟩) ∧ W.cell? ⟨q, 2, none⟩ = some (.int .i64 0) ∧ W.cell? ⟨q, 3, none⟩ = some (.slice none 0 0)) 6 #[true, true, true, true, true, true, true, true, true, true, true, true, true, true, false, false, true, false, false, true, false, false] { tmps := #[x0, x1, x2, undef, undef, undef, .bool false, .pointer (some ⟨q, 0, none⟩), undef, undef, undef, undef, undef, undef, undef, undef, .agg #[.int .u8 2, .string ⟨#[105, 110, 116]⟩, .int .i64 0, .slice none 0 0], .agg #[.int .u8 2, .string ⟨#[105, 110, 116]⟩, .int .i64 0, .slice none 0 0], .agg #[.int .u8 2, .string ⟨#[105, 110, 116]⟩, .int .i64 0, .slice none 0 0], .slice (some ⟨mA, 0, none⟩) 2 2, .agg #[.int .u8 3, .string ⟨#[]⟩, .int .i64 0, .slice (some ⟨mA, 0, none⟩) 2 2], .agg #[.int .u8 1, .string ⟨#[39, 98]⟩, .int .i64 0, .slice none 0 0], .agg #[.int .u8 2, .string ⟨#[101, 120, 110]⟩, .int .i64 0, .slice none 0 0], .agg #[.int .u8 2, .string ⟨#[110, 111, 98, 111, 100, 121]⟩, .int .i64 0, .slice none 0 0], .agg #[.int .u8 2, .string ⟨#[105, 110, 116]⟩, .int .i64 0, .slice none 0 0], .slice (some ⟨mB, 0, none⟩) 1 1, .agg #[.int .u8 2, .string ⟨#[105, 110, 116]⟩, .int .i64 0, .slice (some ⟨mB, 0, none⟩) 1 1], .agg #[.int .u8 2, .string ⟨#[114, 101, 102]⟩, .int .i64 0, .slice none 0 0], .agg #[.int .u8 2, .string ⟨#[108, 105, 115, 116]⟩, .int .i64 0, .slice none 0 0], .agg #[.int .u8 2, .string ⟨#[105, 110, 116]⟩, .int .i64 0, .slice none 0 0], .agg #[.int .u8 2, .string ⟨#[105, 110, 116]⟩, .int .i64 0, .slice none 0 0], undef, undef, .agg #[.int .u8 2, .string ⟨#[105, 110, 116]⟩, .int .i64 0, .slice none 0 0], undef, undef, .agg #[.int .u8 0, .string ⟨#[]⟩, .int .i64 0, .slice none 0 0], undef, undef, undef, undef, undef, undef, undef, undef, undef, undef, undef, undef, undef, undef, undef, undef, undef, undef, undef, undef, undef, undef, undef, undef, undef, undef, undef, undef, undef, undef, undef, undef, undef, undef, undef, undef, undef, undef, undef, undef, undef, undef, undef, undef, undef, undef, undef, undef, undef, undef, undef, undef, undef, undef, undef, undef, undef, undef, undef, undef, undef, undef, undef, undef, undef, undef, undef, undef, undef, undef, undef, undef], defers := [] } W := by
  have hHeld := HS.out W T.out
  refine wpAnyH_ready (rs := [14, 17]) (by kernel_rfl) (by simp) ?_
  refine AllReadyH.cons (o := { dst := some 31, op := Op.buildSlice 22 2 #[(0, Operand.tmp 29), (1, Operand.tmp 30)], type := 22, pos := "law.go:211", after := #[{ on := 12, ground := Ground.data }, { on := 13, ground := Ground.data }], guard := none }) rfl (fun K hK => ?_) (AllReadyH.cons (o := { dst := some 34, op := Op.buildSlice 22 1 #[(0, Operand.tmp 33)], type := 22, pos := "law.go:211", after := #[{ on := 16, ground := Ground.data }], guard := none }) rfl (fun K hK => ?_) AllReadyH.nil)
  · obtain ⟨b, hb⟩ : ∃ v, W.alloc (.cells #[.int .u8 2, .string ⟨#[105, 110, 116]⟩, .int .i64 0, .slice none 0 0, .int .u8 2, .string ⟨#[105, 110, 116]⟩, .int .i64 0, .slice none 0 0] 24) = v := ⟨_, rfl⟩
    have bb : Below W.heap.size W b := by rw [← hb]; exact (Below.refl _ _).alloc (Nat.le_refl _) _
    have BB : Blk b W.heap.size 24 #[.int .u8 2, .string ⟨#[105, 110, 116]⟩, .int .i64 0, .slice none 0 0, .int .u8 2, .string ⟨#[105, 110, 116]⟩, .int .i64 0, .slice none 0 0] := by rw [← hb]; exact Blk.new _ _ _
    obtain ⟨mC, hn⟩ : ∃ v, W.heap.size = v := ⟨_, rfl⟩
    rw [hn] at BB
    have H := Lib.hid (And.intro hb (And.intro hn (And.intro bb BB)))
    have Tb : Hid (Below w2.heap.size w2 b) := Lib.hid (T.out.trans (bb.mono T.out.size))
    clear hb hn bb BB
    go_simp
    (try rw [H.out.1])
    (try rw [H.out.2.1])
    refine hK.out _ _ (HS.out _ Tb.out) (fun hHeld => ?_)
    clear hK K
    have FA := Lib.hid (FA.out.below H.out.2.2.1 FA.out.lt)
    have FB := Lib.hid (FB.out.below H.out.2.2.1 FB.out.lt)
    have FC := Lib.hid H.out.2.2.2
    exact rg5ABC Q hQ w2 q x0 x1 x2 HS HEnd b Tb mA FA mB FB mC FC
  · obtain ⟨b, hb⟩ : ∃ v, W.alloc (.cells #[.int .u8 2, .string ⟨#[105, 110, 116]⟩, .int .i64 0, .slice none 0 0] 24) = v := ⟨_, rfl⟩
    have bb : Below W.heap.size W b := by rw [← hb]; exact (Below.refl _ _).alloc (Nat.le_refl _) _
    have BB : Blk b W.heap.size 24 #[.int .u8 2, .string ⟨#[105, 110, 116]⟩, .int .i64 0, .slice none 0 0] := by rw [← hb]; exact Blk.new _ _ _
    obtain ⟨mD, hn⟩ : ∃ v, W.heap.size = v := ⟨_, rfl⟩
    rw [hn] at BB
    have H := Lib.hid (And.intro hb (And.intro hn (And.intro bb BB)))
    have Tb : Hid (Below w2.heap.size w2 b) := Lib.hid (T.out.trans (bb.mono T.out.size))
    clear hb hn bb BB
    go_simp
    (try rw [H.out.1])
    (try rw [H.out.2.1])
    refine hK.out _ _ (HS.out _ Tb.out) (fun hHeld => ?_)
    clear hK K
    have FA := Lib.hid (FA.out.below H.out.2.2.1 FA.out.lt)
    have FB := Lib.hid (FB.out.below H.out.2.2.1 FB.out.lt)
    have FD := Lib.hid H.out.2.2.2
    refine takeY (oi := { dst := some 35, op := Op.build 24 #[(0, Operand.const (Value.int IntKind.u8 4)), (3, Operand.tmp 34)], type := 24, pos := "law.go:211", after := #[{ on := 17, ground := Ground.data }], guard := none }) 18 (some 35) rfl rfl (by kernel_rfl) (by kernel_rfl) (by kernel_rfl) (fun _ _ _ h => hQ _ _ _ _ _ h) (by rfl) (v := _) (by (intro _ hSw; (try dsimp only at hSw); go_simp; try with_reducible rfl)) hHeld ?_
    simp only [Act.put, List.setIfInBounds_toArray, List.set_cons_zero, List.set_cons_succ]
    exact rg5ABD Q hQ w2 q x0 x1 x2 HS HEnd b Tb mA FA mB FB mD FD
set_option maxRecDepth 100000 in
set_option maxHeartbeats 4000000 in
theorem rg5BC (Q : Exit → Act → World → Prop) (hQ : ∀ c d v (a : Act) (w : World), Q (.panic c) (a.put d v) w → Q (.panic c) a w) (w2 : World) (q : Nat) (x0 x1 x2 : Value) (HS : Hid (∀ W, Below w2.heap.size w2 W → (fun W : World => W.cell? ⟨q, 0, none⟩ = some (.int .u8 2) ∧ W.cell? ⟨q, 1, none⟩ = some (.string ⟨#[105, 110, 116]⟩) ∧ W.cell? ⟨q, 2, none⟩ = some (.int .i64 0) ∧ W.cell? ⟨q, 3, none⟩ = some (.slice none 0 0)) W)) (HEnd : Hid (RgEnd Q w2 q x0 x1 x2)) (W : World) (T : Hid (Below w2.heap.size w2 W)) (mB : Nat) (FB : Hid (Blk W mB 24 #[.int .u8 2, .string ⟨#[105, 110, 116]⟩, .int .i64 0, .slice none 0 0])) (mC : Nat) (FC : Hid (Blk W mC 24 #[.int .u8 2, .string ⟨#[105, 110, 116]⟩, .int .i64 0, .slice none 0 0, .int .u8 2, .string ⟨#[105, 110, 116]⟩, .int .i64 0, .slice none 0 0])) : wpAnyH Tryd.prog .any rops Q (fun W : World => W.cell? ⟨q, 0, none⟩ = some (.int .u8 2) ∧ W.cell? ⟨q, 1, none⟩ = some (.string ⟨#[105, 110, 116]⟩) ∧ W.cell? ⟨q, 2, none⟩ = some (.int .i64 0) ∧ W.cell? ⟨q, 3, none⟩ = some (.slice none 0 0)) 7 #[true, true, false, false, true, true, true, true, true, true, true, true, true, true, true, false, true, false, false, true, false, false] { tmps := #[x0, x1, x2, undef, undef, undef, .bool false, .pointer (some ⟨q, 0, none⟩), undef, undef, undef, undef, undef, undef, undef, undef, .agg #[.int .u8 2, .string ⟨#[105, 110, 116]⟩, .int .i64 0, .slice none 0 0], .agg #[.int .u8 2, .string ⟨#[105, 110, 116]⟩, .int .i64 0, .slice none 0 0], .agg #[.int .u8 2, .string ⟨#[105, 110, 116]⟩, .int .i64 0, .slice none 0 0], undef, undef, .agg #[.int .u8 1, .string ⟨#[39, 98]⟩, .int .i64 0, .slice none 0 0], .agg #[.int .u8 2, .string ⟨#[101, 120, 110]⟩, .int .i64 0, .slice none 0 0], .agg #[.int .u8 2, .string ⟨#[110, 111, 98, 111, 100, 121]⟩, .int .i64 0, .slice none 0 0], .agg #[.int .u8 2, .string ⟨#[105, 110, 116]⟩, .int .i64 0, .slice none 0 0], .slice (some ⟨mB, 0, none⟩) 1 1, .agg #[.int .u8 2, .string ⟨#[105, 110, 116]⟩, .int .i64 0, .slice (some ⟨mB, 0, none⟩) 1 1], .agg #[.int .u8 2, .string ⟨#[114, 101, 102]⟩, .int .i64 0, .slice none 0 0], .agg #[.int .u8 2, .string ⟨#[108, 105, 115, 116]⟩, .int .i64 0, .slice none 0 0], .agg #[.int .u8 2, .string ⟨#[105, 110, 116]⟩, .int .i64 0, .slice none 0 0], .agg #[.int .u8 2, .string ⟨#[105, 110, 116]⟩, .int .i64 0, .slice none 0 0], .slice (some ⟨mC, 0, none⟩) 2 2, undef, .agg #[.int .u8 2, .string ⟨#[105, 110, 116]⟩, .int .i64 0, .slice none 0 0], undef, undef, .agg #[.int .u8 0, .string ⟨#[]⟩, .int .i64 0, .slice none 0 0], undef, undef, undef, undef, undef, undef, undef, undef, undef, undef, undef, undef, undef, undef, undef, undef, undef, undef, undef, undef, undef, undef, undef, undef, undef, undef, undef, undef, undef, undef, undef, undef, undef, undef, undef, undef, undef, undef, undef, undef, undef, undef, undef, undef, undef, undef, undef, undef, undef, undef, undef, undef, undef, undef, undef, undef, undef, undef, undef, undef, undef, undef, undef, undef, undef, undef, undef, undef, undef, undef, undef, undef], defers := [] } W := by
  have hHeld := HS.out W T.out
  refine wpAnyH_ready (rs := [2, 15, 17]) (by kernel_rfl) (by simp) ?_
  refine AllReadyH.cons (o := { dst := some 19, op := Op.buildSlice 22 2 #[(0, Operand.tmp 17), (1, Operand.tmp 18)], type := 22, pos := "law.go:211", after := #[{ on := 0, ground := Ground.data }, { on := 1, ground := Ground.data }], guard := none }) rfl (fun K hK => ?_) (AllReadyH.cons (o := { dst := some 32, op := Op.call { callee := Callee.value (Operand.func 10), args := #[Operand.const (Value.string { data := #[97, 114, 114, 97, 121] }), Operand.tmp 31], argTypes := #[9, 22] }, type := 24, pos := "law.go:211", after := #[{ on := 14, ground := Ground.data }, { on := 11, ground := Ground.chain }], guard := none }) rfl (fun K hK => ?_) (AllReadyH.cons (o := { dst := some 34, op := Op.buildSlice 22 1 #[(0, Operand.tmp 33)], type := 22, pos := "law.go:211", after := #[{ on := 16, ground := Ground.data }], guard := none }) rfl (fun K hK => ?_) AllReadyH.nil))
  · obtain ⟨b, hb⟩ : ∃ v, W.alloc (.cells #[.int .u8 2, .string ⟨#[105, 110, 116]⟩, .int .i64 0, .slice none 0 0, .int .u8 2, .string ⟨#[105, 110, 116]⟩, .int .i64 0, .slice none 0 0] 24) = v := ⟨_, rfl⟩
    have bb : Below W.heap.size W b := by rw [← hb]; exact (Below.refl _ _).alloc (Nat.le_refl _) _
    have BB : Blk b W.heap.size 24 #[.int .u8 2, .string ⟨#[105, 110, 116]⟩, .int .i64 0, .slice none 0 0, .int .u8 2, .string ⟨#[105, 110, 116]⟩, .int .i64 0, .slice none 0 0] := by rw [← hb]; exact Blk.new _ _ _
    obtain ⟨mA, hn⟩ : ∃ v, W.heap.size = v := ⟨_, rfl⟩
    rw [hn] at BB
    have H := Lib.hid (And.intro hb (And.intro hn (And.intro bb BB)))
    have Tb : Hid (Below w2.heap.size w2 b) := Lib.hid (T.out.trans (bb.mono T.out.size))
    clear hb hn bb BB
    go_simp
    (try rw [H.out.1])
    (try rw [H.out.2.1])
    refine hK.out _ _ (HS.out _ Tb.out) (fun hHeld => ?_)
    clear hK K
    have FB := Lib.hid (FB.out.below H.out.2.2.1 FB.out.lt)
    have FC := Lib.hid (FC.out.below H.out.2.2.1 FC.out.lt)
    have FA := Lib.hid H.out.2.2.2
    refine takeY (oi := { dst := some 20, op := Op.build 24 #[(0, Operand.const (Value.int IntKind.u8 3)), (3, Operand.tmp 19)], type := 24, pos := "law.go:211", after := #[{ on := 2, ground := Ground.data }], guard := none }) 3 (some 20) rfl rfl (by kernel_rfl) (by kernel_rfl) (by kernel_rfl) (fun _ _ _ h => hQ _ _ _ _ _ h) (by rfl) (v := _) (by (intro _ hSw; (try dsimp only at hSw); go_simp; try with_reducible rfl)) hHeld ?_
    simp only [Act.put, List.setIfInBounds_toArray, List.set_cons_zero, List.set_cons_succ]
    exact rg5ABC Q hQ w2 q x0 x1 x2 HS HEnd b Tb mA FA mB FB mC FC
  · have HT := Lib.hid (named_any ⟨#[97, 114, 114, 97, 121]⟩ (some ⟨mC, 0, none⟩) 2 2 W)
    clear hHeld
    go_simp
    go_wp2_with (go_at_call 10; refine Calls.mono HT.out ?_; rintro e b ⟨rfl, bb⟩; have Hb := Lib.hid bb; have Tb : Hid (Below w2.heap.size w2 b) := Lib.hid (T.out.trans (bb.mono T.out.size)))
    refine hK.out _ _ (HS.out _ Tb.out) (fun hHeld => ?_)
    clear hK K HT
    have FB := Lib.hid (FB.out.below Hb.out FB.out.lt)
    have FC := Lib.hid (FC.out.below Hb.out FC.out.lt)
    exact rg6BC Q hQ w2 q x0 x1 x2 HS HEnd b Tb mB FB mC FC
  · obtain ⟨b, hb⟩ : ∃ v, W.alloc (.cells #[.int .u8 2, .string ⟨#[105, 110, 116]⟩, .int .i64 0, .slice none 0 0] 24) = v := ⟨_, rfl⟩
    have bb : Below W.heap.size W b := by rw [← hb]; exact (Below.refl _ _).alloc (Nat.le_refl _) _
    have BB : Blk b W.heap.size 24 #[.int .u8 2, .string ⟨#[105, 110, 116]⟩, .int .i64 0, .slice none 0 0] := by rw [← hb]; exact Blk.new _ _ _
    obtain ⟨mD, hn⟩ : ∃ v, W.heap.size = v := ⟨_, rfl⟩
    rw [hn] at BB
    have H := Lib.hid (And.intro hb (And.intro hn (And.intro bb BB)))
    have Tb : Hid (Below w2.heap.size w2 b) := Lib.hid (T.out.trans (bb.mono T.out.size))
    clear hb hn bb BB
    go_simp
    (try rw [H.out.1])
    (try rw [H.out.2.1])
    refine hK.out _ _ (HS.out _ Tb.out) (fun hHeld => ?_)
    clear hK K
    have FB := Lib.hid (FB.out.below H.out.2.2.1 FB.out.lt)
    have FC := Lib.hid (FC.out.below H.out.2.2.1 FC.out.lt)
    have FD := Lib.hid H.out.2.2.2
    refine takeY (oi := { dst := some 35, op := Op.build 24 #[(0, Operand.const (Value.int IntKind.u8 4)), (3, Operand.tmp 34)], type := 24, pos := "law.go:211", after := #[{ on := 17, ground := Ground.data }], guard := none }) 18 (some 35) rfl rfl (by kernel_rfl) (by kernel_rfl) (by kernel_rfl) (fun _ _ _ h => hQ _ _ _ _ _ h) (by rfl) (v := _) (by (intro _ hSw; (try dsimp only at hSw); go_simp; try with_reducible rfl)) hHeld ?_
    simp only [Act.put, List.setIfInBounds_toArray, List.set_cons_zero, List.set_cons_succ]
    exact rg5BCD Q hQ w2 q x0 x1 x2 HS HEnd b Tb mB FB mC FC mD FD
set_option maxRecDepth 100000 in
set_option maxHeartbeats 4000000 in
theorem rg5BD (Q : Exit → Act → World → Prop) (hQ : ∀ c d v (a : Act) (w : World), Q (.panic c) (a.put d v) w → Q (.panic c) a w) (w2 : World) (q : Nat) (x0 x1 x2 : Value) (HS : Hid (∀ W, Below w2.heap.size w2 W → (fun W : World => W.cell? ⟨q, 0, none⟩ = some (.int .u8 2) ∧ W.cell? ⟨q, 1, none⟩ = some (.string ⟨#[105, 110, 116]⟩) ∧ W.cell? ⟨q, 2, none⟩ = some (.int .i64 0) ∧ W.cell? ⟨q, 3, none⟩ = some (.slice none 0 0)) W)) (HEnd : Hid (RgEnd Q w2 q x0 x1 x2)) (W : World) (T : Hid (Below w2.heap.size w2 W)) (mB : Nat) (FB : Hid (Blk W mB 24 #[.int .u8 2, .string ⟨#[105, 110, 116]⟩, .int .i64 0, .slice none 0 0])) (mD : Nat) (FD : Hid (Blk W mD 24 #[.int .u8 2, .string ⟨#[105, 110, 116]⟩, .int .i64 0, .slice none 0 0])) : wpAnyH Tryd.prog .any rops Q (fun W : World => W.cell? ⟨q, 0, none⟩ = some (.int .u8 2) ∧ W.cell? ⟨q, 1, none⟩ = some (.string ⟨#[105, 110, 116]⟩) ∧ W.cell? ⟨q, 2, none⟩ = some (.int .i64 0) ∧ W.cell? ⟨q, 3, none⟩ = some (.slice none 0 0)) 6 #[true, true, false, false, true, true, true, true, true, true, true, true, true, true, false, false, true, true, true, true, false, false] { tmps := #[x0, x1, x2, undef, undef, undef, .bool false, .pointer (some ⟨q, 0, none⟩), undef, undef, undef, undef, undef, undef, undef, undef, .agg #[.int .u8 2, .string ⟨#[105, 110, 116]⟩, .int .i64 0, .slice none 0 0], .agg #[.int .u8 2, .string ⟨#[105, 110, 116]⟩, .int .i64 0, .slice none 0 0], .agg #[.int .u8 2, .string ⟨#[105, 110, 116]⟩, .int .i64 0, .slice none 0 0], undef, undef, .agg #[.int .u8 1, .string ⟨#[39, 98]⟩, .int .i64 0, .slice none 0 0], .agg #[.int .u8 2, .string ⟨#[101, 120, 110]⟩, .int .i64 0, .slice none 0 0], .agg #[.int .u8 2, .string ⟨#[110, 111, 98, 111, 100, 121]⟩, .int .i64 0, .slice none 0 0], .agg #[.int .u8 2, .string ⟨#[105, 110, 116]⟩, .int .i64 0, .slice none 0 0], .slice (some ⟨mB, 0, none⟩) 1 1, .agg #[.int .u8 2, .string ⟨#[105, 110, 116]⟩, .int .i64 0, .slice (some ⟨mB, 0, none⟩) 1 1], .agg #[.int .u8 2, .string ⟨#[114, 101, 102]⟩, .int .i64 0, .slice none 0 0], .agg #[.int .u8 2, .string ⟨#[108, 105, 115, 116]⟩, .int .i64 0, .slice none 0 0], .agg #[.int .u8 2, .string ⟨#[105, 110, 116]⟩, .int .i64 0, .slice none 0 0], .agg #[.int .u8 2, .string ⟨#[105, 110, 116]⟩, .int .i64 0, .slice none 0 0], undef, undef, .agg #[.int .u8 2, .string ⟨#[105, 110, 116]⟩, .int .i64 0, .slice none 0 0], .slice (some ⟨mD, 0, none⟩) 1 1, .agg #[.int .u8 4, .string ⟨#[]⟩, .int .i64 0, .slice (some ⟨mD, 0, none⟩) 1 1], .agg #[.int .u8 0, .string ⟨#[]⟩, .int .i64 0, .slice none 0 0], undef, undef, undef, undef, undef, undef, undef, undef, undef, undef, undef, undef, undef, undef, undef, undef, undef, undef, undef, undef, undef, undef, undef, undef, undef, undef, undef, undef, undef, undef, undef, undef, undef, undef, undef, undef, undef, undef, undef, undef, undef, undef, undef, undef, undef, undef, undef, undef, undef, undef, undef, undef, undef, undef, undef, undef, undef, undef, undef, undef, undef, undef, undef, undef, undef, undef, undef, undef, undef, undef, undef, undef], defers := [] } W := by
  have hHeld := HS.out W T.out
  refine wpAnyH_ready (rs := [2, 14]) (by kernel_rfl) (by simp) ?_
  refine AllReadyH.cons (o := { dst := some 19, op := Op.buildSlice 22 2 #[(0, Operand.tmp 17), (1, Operand.tmp 18)], type := 22, pos := "law.go:211", after := #[{ on := 0, ground := Ground.data }, { on := 1, ground := Ground.data }], guard := none }) rfl (fun K hK => ?_) (AllReadyH.cons (o := { dst := some 31, op := Op.buildSlice 22 2 #[(0, Operand.tmp 29), (1, Operand.tmp 30)], type := 22, pos := "law.go:211", after := #[{ on := 12, ground := Ground.data }, { on := 13, ground := Ground.data }], guard := none }) rfl (fun K hK => ?_) AllReadyH.nil)
  · obtain ⟨b, hb⟩ : ∃ v, W.alloc (.cells #[.int .u8 2, .string ⟨#[105, 110, 116]⟩, .int .i64 0, .slice none 0 0, .int .u8 2, .string ⟨#[105, 110, 116]⟩, .int .i64 0, .slice none 0 0] 24) = v := ⟨_, rfl⟩
    have bb : Below W.heap.size W b := by rw [← hb]; exact (Below.refl _ _).alloc (Nat.le_refl _) _
    have BB : Blk b W.heap.size 24 #[.int .u8 2, .string ⟨#[105, 110, 116]⟩, .int .i64 0, .slice none 0 0, .int .u8 2, .string ⟨#[105, 110, 116]⟩, .int .i64 0, .slice none 0 0] := by rw [← hb]; exact Blk.new _ _ _
    obtain ⟨mA, hn⟩ : ∃ v, W.heap.size = v := ⟨_, rfl⟩
    rw [hn] at BB
    have H := Lib.hid (And.intro hb (And.intro hn (And.intro bb BB)))
    have Tb : Hid (Below w2.heap.size w2 b) := Lib.hid (T.out.trans (bb.mono T.out.size))
    clear hb hn bb BB
    go_simp
    (try rw [H.out.1])
    (try rw [H.out.2.1])
    refine hK.out _ _ (HS.out _ Tb.out) (fun hHeld => ?_)
    clear hK K
    have FB := Lib.hid (FB.out.below H.out.2.2.1 FB.out.lt)
    have FD := Lib.hid (FD.out.below H.out.2.2.1 FD.out.lt)
    have FA := Lib.hid H.out.2.2.2
    refine takeY (oi := { dst := some 20, op := Op.build 24 #[(0, Operand.const (Value.int IntKind.u8 3)), (3, Operand.tmp 19)], type := 24, pos := "law.go:211", after := #[{ on := 2, ground := Ground.data }], guard := none }) 3 (some 20) rfl rfl (by kernel_rfl) (by kernel_rfl) (by kernel_rfl) (fun _ _ _ h => hQ _ _ _ _ _ h) (by rfl) (v := _) (by (intro _ hSw; (try dsimp only at hSw); go_simp; try with_reducible rfl)) hHeld ?_
    simp only [Act.put, List.setIfInBounds_toArray, List.set_cons_zero, List.set_cons_succ]
    exact rg5ABD Q hQ w2 q x0 x1 x2 HS HEnd b Tb mA FA mB FB mD FD
  · obtain ⟨b, hb⟩ : ∃ v, W.alloc (.cells #[.int .u8 2, .string ⟨#[105, 110, 116]⟩, .int .i64 0, .slice none 0 0, .int .u8 2, .string ⟨#[105, 110, 116]⟩, .int .i64 0, .slice none 0 0] 24) = v := ⟨_, rfl⟩
    have bb : Below W.heap.size W b := by rw [← hb]; exact (Below.refl _ _).alloc (Nat.le_refl _) _
    have BB : Blk b W.heap.size 24 #[.int .u8 2, .string ⟨#[105, 110, 116]⟩, .int .i64 0, .slice none 0 0, .int .u8 2, .string ⟨#[105, 110, 116]⟩, .int .i64 0, .slice none 0 0] := by rw [← hb]; exact Blk.new _ _ _
    obtain ⟨mC, hn⟩ : ∃ v, W.heap.size = v := ⟨_, rfl⟩
    rw [hn] at BB
    have H := Lib.hid (And.intro hb (And.intro hn (And.intro bb BB)))
    have Tb : Hid (Below w2.heap.size w2 b) := Lib.hid (T.out.trans (bb.mono T.out.size))
    clear hb hn bb BB
    go_simp
    (try rw [H.out.1])
    (try rw [H.out.2.1])
    refine hK.out _ _ (HS.out _ Tb.out) (fun hHeld => ?_)
    clear hK K
    have FB := Lib.hid (FB.out.below H.out.2.2.1 FB.out.lt)
    have FD := Lib.hid (FD.out.below H.out.2.2.1 FD.out.lt)
    have FC := Lib.hid H.out.2.2.2
    exact rg5BCD Q hQ w2 q x0 x1 x2 HS HEnd b Tb mB FB mC FC mD FD
set_option maxRecDepth 100000 in
set_option maxHeartbeats 4000000 in
theorem rg2ABCD (Q : Exit → Act → World → Prop) (hQ : ∀ c d v (a : Act) (w : World), Q (.panic c) (a.put d v) w → Q (.panic c) a w) (w2 : World) (q : Nat) (x0 x1 x2 : Value) (HS : Hid (∀ W, Below w2.heap.size w2 W → (fun W : World => W.cell? ⟨q, 0, none⟩ = some (.int .u8 2) ∧ W.cell? ⟨q, 1, none⟩ = some (.string ⟨#[105, 110, 116]⟩) ∧ W.cell? ⟨q, 2, none⟩ = some (.int .i64 0) ∧ W.cell? ⟨q, 3, none⟩ = some (.slice none 0 0)) W)) (HEnd : Hid (RgEnd Q w2 q x0 x1 x2)) (W : World) (T : Hid (Below w2.heap.size w2 W)) (mA : Nat) (FA : Hid (Blk W mA 24 #[.int .u8 2, .string ⟨#[105, 110, 116]⟩, .int .i64 0, .slice none 0 0, .int .u8 2, .string ⟨#[105, 110, 116]⟩, .int .i64 0, .slice none 0 0])) (mB : Nat) (FB : Hid (Blk W mB 24 #[.int .u8 2, .string ⟨#[105, 110, 116]⟩, .int .i64 0, .slice none 0 0])) (mC : Nat) (FC : Hid (Blk W mC 24 #[.int .u8 2, .string ⟨#[105, 110, 116]⟩, .int .i64 0, .slice none 0 0, .int .u8 2, .string ⟨#[105, 110, 116]⟩, .int .i64 0, .slice none 0 0])) (mD : Nat) (FD : Hid (Blk W mD 24 #[.int .u8 2, .string ⟨#[105, 110, 116]⟩, .int .i64 0, .slice none 0 0])) : wpAnyH Tryd.prog .any rops Q (fun W : World => W.cell? ⟨q, 0, none⟩ = some (.int .u8 2) ∧ W.cell? ⟨q, 1, none⟩ = some (.string ⟨#[105, 110, 116]⟩) ∧ W.cell? ⟨q, 2, none⟩ = some (.int .i64 0) ∧ W.cell? ⟨q, 3, none⟩ = some (.slice none 0 0)) 6 #[true, true, true, true, true, true, true, true, true, false, false, false, true, true, true, false, true, true, true, true, false, false] { tmps := #[x0, x1, x2, undef, undef, undef, .bool false, .pointer (some ⟨q, 0, none⟩), undef, undef, undef, undef, undef, undef, undef, undef, .agg #[.int .u8 2, .string ⟨#[105, 110, 116]⟩, .int .i64 0, .slice none 0 0], .agg #[.int .u8 2, .string ⟨#[105, 110, 116]⟩, .int .i64 0, .slice none 0 0], .agg #[.int .u8 2, .string ⟨#[105, 110, 116]⟩, .int .i64 0, .slice none 0 0], .slice (some ⟨mA, 0, none⟩) 2 2, .agg #[.int .u8 3, .string ⟨#[]⟩, .int .i64 0, .slice (some ⟨mA, 0, none⟩) 2 2], .agg #[.int .u8 1, .string ⟨#[39, 98]⟩, .int .i64 0, .slice none 0 0], .agg #[.int .u8 2, .string ⟨#[101, 120, 110]⟩, .int .i64 0, .slice none 0 0], .agg #[.int .u8 2, .string ⟨#[110, 111, 98, 111, 100, 121]⟩, .int .i64 0, .slice none 0 0], .agg #[.int .u8 2, .string ⟨#[105, 110, 116]⟩, .int .i64 0, .slice none 0 0], .slice (some ⟨mB, 0, none⟩) 1 1, undef, undef, undef, .agg #[.int .u8 2, .string ⟨#[105, 110, 116]⟩, .int .i64 0, .slice none 0 0], .agg #[.int .u8 2, .string ⟨#[105, 110, 116]⟩, .int .i64 0, .slice none 0 0], .slice (some ⟨mC, 0, none⟩) 2 2, undef, .agg #[.int .u8 2, .string ⟨#[105, 110, 116]⟩, .int .i64 0, .slice none 0 0], .slice (some ⟨mD, 0, none⟩) 1 1, .agg #[.int .u8 4, .string ⟨#[]⟩, .int .i64 0, .slice (some ⟨mD, 0, none⟩) 1 1], .agg #[.int .u8 0, .string ⟨#[]⟩, .int .i64 0, .slice none 0 0], undef, undef, undef, undef, undef, undef, undef, undef, undef, undef, undef, undef, undef, undef, undef, undef, undef, undef, undef, undef, undef, undef, undef, undef, undef, undef, undef, undef, undef, undef, undef, undef, undef, undef, undef, undef, undef, undef, undef, undef, undef, undef, undef, undef, undef, undef, undef, undef, undef, undef, undef, undef, undef, undef, undef, undef, undef, undef, undef, undef, undef, undef, undef, undef, undef, undef, undef, undef, undef, undef, undef, undef], defers := [] } W := by
  have hHeld := HS.out W T.out
  refine wpAnyH_ready (rs := [9]) (by kernel_rfl) (by simp) ?_
  refine AllReadyH.cons (o := { dst := some 26, op := Op.call { callee := Callee.value (Operand.func 10), args := #[Operand.const (Value.string { data := #[105, 110, 116] }), Operand.tmp 25], argTypes := #[9, 22] }, type := 24, pos := "law.go:211", after := #[{ on := 8, ground := Ground.data }, { on := 6, ground := Ground.chain }], guard := none }) rfl (fun K hK => ?_) AllReadyH.nil
  · have HT := Lib.hid (named_any ⟨#[105, 110, 116]⟩ (some ⟨mB, 0, none⟩) 1 1 W)
    clear hHeld
    go_simp
    go_wp2_with (go_at_call 10; refine Calls.mono HT.out ?_; rintro e b ⟨rfl, bb⟩; have Hb := Lib.hid bb; have Tb : Hid (Below w2.heap.size w2 b) := Lib.hid (T.out.trans (bb.mono T.out.size)))
    refine hK.out _ _ (HS.out _ Tb.out) (fun hHeld => ?_)
    clear hK K HT
    have FA := Lib.hid (FA.out.below Hb.out FA.out.lt)
    have FB := Lib.hid (FB.out.below Hb.out FB.out.lt)
    have FC := Lib.hid (FC.out.below Hb.out FC.out.lt)
    have FD := Lib.hid (FD.out.below Hb.out FD.out.lt)
    exact rg3ABCD Q hQ w2 q x0 x1 x2 HS HEnd b Tb mA FA mB FB mC FC mD FD
set_option maxRecDepth 100000 in
set_option maxHeartbeats 4000000 in
theorem rg3ABC (Q : Exit → Act → World → Prop) (hQ : ∀ c d v (a : Act) (w : World), Q (.panic c) (a.put d v) w → Q (.panic c) a w) (w2 : World) (q : Nat) (x0 x1 x2 : Value) (HS : Hid (∀ W, Below w2.heap.size w2 W → (fun W : World => W.cell? ⟨q, 0, none⟩ = some (.int .u8 2) ∧ W.cell? ⟨q, 1, none⟩ = some (.string ⟨#[105, 110, 116]⟩) ∧ W.cell? ⟨q, 2, none⟩ = some (.int .i64 0) ∧ W.cell? ⟨q, 3, none⟩ = some (.slice none 0 0)) W)) (HEnd : Hid (RgEnd Q w2 q x0 x1 x2)) (W : World) (T : Hid (Below w2.heap.size w2 W)) (mA : Nat) (FA : Hid (Blk W mA 24 #[.int .u8 2, .string ⟨#[105, 110, 116]⟩, .int .i64 0, .slice none 0 0, .int .u8 2, .string ⟨#[105, 110, 116]⟩, .int .i64 0, .slice none 0 0])) (mB : Nat) (FB : Hid (Blk W mB 24 #[.int .u8 2, .string ⟨#[105, 110, 116]⟩, .int .i64 0, .slice none 0 0])) (mC : Nat) (FC : Hid (Blk W mC 24 #[.int .u8 2, .string ⟨#[105, 110, 116]⟩, .int .i64 0, .slice none 0 0, .int .u8 2, .string ⟨#[105, 110, 116]⟩, .int .i64 0, .slice none 0 0])) : wpAnyH Tryd.prog .any rops Q (fun W : World => W.cell? ⟨q, 0, none⟩ = some (.int .u8 2) ∧ W.cell? ⟨q, 1, none⟩ = some (.string ⟨#[105, 110, 116]⟩) ∧ W.cell? ⟨q, 2, none⟩ = some (.int .i64 0) ∧ W.cell? ⟨q, 3, none⟩ = some (.slice none 0 0)) 7 #[true, true, true, true, true, true, true, true, true, true, false, false, true, true, true, false, true, false, false, true, false, false] { tmps := #[x0, x1, x2, undef, undef, undef, .bool false, .pointer (some ⟨q, 0, none⟩), undef, undef, undef, undef, undef, undef, undef, undef, .agg #[.int .u8 2, .string ⟨#[105, 110, 116]⟩, .int .i64 0, .slice none 0 0], .agg #[.int .u8 2, .string ⟨#[105, 110, 116]⟩, .int .i64 0, .slice none 0 0], .agg #[.int .u8 2, .string ⟨#[105, 110, 116]⟩, .int .i64 0, .slice none 0 0], .slice (some ⟨mA, 0, none⟩) 2 2, .agg #[.int .u8 3, .string ⟨#[]⟩, .int .i64 0, .slice (some ⟨mA, 0, none⟩) 2 2], .agg #[.int .u8 1, .string ⟨#[39, 98]⟩, .int .i64 0, .slice none 0 0], .agg #[.int .u8 2, .string ⟨#[101, 120, 110]⟩, .int .i64 0, .slice none 0 0], .agg #[.int .u8 2, .string ⟨#[110, 111, 98, 111, 100, 121]⟩, .int .i64 0, .slice none 0 0], .agg #[.int .u8 2, .string ⟨#[105, 110, 116]⟩, .int .i64 0, .slice none 0 0], .slice (some ⟨mB, 0, none⟩) 1 1, .agg #[.int .u8 2, .string ⟨#[105, 110, 116]⟩, .int .i64 0, .slice (some ⟨mB, 0, none⟩) 1 1], undef, undef, .agg #[.int .u8 2, .string ⟨#[105, 110, 116]⟩, .int .i64 0, .slice none 0 0], .agg #[.int .u8 2, .string ⟨#[105, 110, 116]⟩, .int .i64 0, .slice none 0 0], .slice (some ⟨mC, 0, none⟩) 2 2, undef, .agg #[.int .u8 2, .string ⟨#[105, 110, 116]⟩, .int .i64 0, .slice none 0 0], undef, undef, .agg #[.int .u8 0, .string ⟨#[]⟩, .int .i64 0, .slice none 0 0], undef, undef, undef, undef, undef, undef, undef, undef, undef, undef, undef, undef, undef, undef, undef, undef, undef, undef, undef, undef, undef, undef, undef, undef, undef, undef, undef, undef, undef, undef, undef, undef, undef, undef, undef, undef, undef, undef, undef, undef, undef, undef, undef, undef, undef, undef, undef, undef, undef, undef, undef, undef, undef, undef, undef, undef, undef, undef, undef, undef, undef, undef, undef, undef, undef, undef, undef, undef, undef, undef, undef, undef], defers := [] } W := by
  have hHeld := HS.out W T.out
  refine wpAnyH_ready (rs := [10, 17]) (by kernel_rfl) (by simp) ?_
  refine AllReadyH.cons (o := { dst := some 27, op := Op.call { callee := Callee.value (Operand.func 10), args := #[Operand.const (Value.string { data := #[114, 101, 102] }), Operand.const (Value.slice none 0 0)], argTypes := #[9, 22] }, type := 24, pos := "law.go:211", after := #[{ on := 9, ground := Ground.chain }], guard := none }) rfl (fun K hK => ?_) (AllReadyH.cons (o := { dst := some 34, op := Op.buildSlice 22 1 #[(0, Operand.tmp 33)], type := 22, pos := "law.go:211", after := #[{ on := 16, ground := Ground.data }], guard := none }) rfl (fun K hK => ?_) AllReadyH.nil)
  · have HT := Lib.hid (named_any ⟨#[114, 101, 102]⟩ none 0 0 W)
    clear hHeld
    go_simp
    go_wp2_with (go_at_call 10; refine Calls.mono HT.out ?_; rintro e b ⟨rfl, bb⟩; have Hb := Lib.hid bb; have Tb : Hid (Below w2.heap.size w2 b) := Lib.hid (T.out.trans (bb.mono T.out.size)))
    refine hK.out _ _ (HS.out _ Tb.out) (fun hHeld => ?_)
    clear hK K HT
    have FA := Lib.hid (FA.out.below Hb.out FA.out.lt)
    have FB := Lib.hid (FB.out.below Hb.out FB.out.lt)
    have FC := Lib.hid (FC.out.below Hb.out FC.out.lt)
    exact rg4ABC Q hQ w2 q x0 x1 x2 HS HEnd b Tb mA FA mB FB mC FC
  · obtain ⟨b, hb⟩ : ∃ v, W.alloc (.cells #[.int .u8 2, .string ⟨#[105, 110, 116]⟩, .int .i64 0, .slice none 0 0] 24) = v := ⟨_, rfl⟩
    have bb : Below W.heap.size W b := by rw [← hb]; exact (Below.refl _ _).alloc (Nat.le_refl _) _
    have BB : Blk b W.heap.size 24 #[.int .u8 2, .string ⟨#[105, 110, 116]⟩, .int .i64 0, .slice none 0 0] := by rw [← hb]; exact Blk.new _ _ _
    obtain ⟨mD, hn⟩ : ∃ v, W.heap.size = v := ⟨_, rfl⟩
    rw [hn] at BB
    have H := Lib.hid (And.intro hb (And.intro hn (And.intro bb BB)))
    have Tb : Hid (Below w2.heap.size w2 b) := Lib.hid (T.out.trans (bb.mono T.out.size))
    clear hb hn bb BB
    go_simp
    (try rw [H.out.1])
    (try rw [H.out.2.1])
    refine hK.out _ _ (HS.out _ Tb.out) (fun hHeld => ?_)
    clear hK K
    have FA := Lib.hid (FA.out.below H.out.2.2.1 FA.out.lt)
    have FB := Lib.hid (FB.out.below H.out.2.2.1 FB.out.lt)
    have FC := Lib.hid (FC.out.below H.out.2.2.1 FC.out.lt)
    have FD := Lib.hid H.out.2.2.2
    refine takeY (oi := { dst := some 35, op := Op.build 24 #[(0, Operand.const (Value.int IntKind.u8 4)), (3, Operand.tmp 34)], type := 24, pos := "law.go:211", after := #[{ on := 17, ground := Ground.data }], guard := none }) 18 (some 35) rfl rfl (by kernel_rfl) (by kernel_rfl) (by kernel_rfl) (fun _ _ _ h => hQ _ _ _ _ _ h) (by rfl) (v := _) (by (intro _ hSw; (try dsimp only at hSw); go_simp; try with_reducible rfl)) hHeld ?_
    simp only [Act.put, List.setIfInBounds_toArray, List.set_cons_zero, List.set_cons_succ]
    exact rg3ABCD Q hQ w2 q x0 x1 x2 HS HEnd b Tb mA FA mB FB mC FC mD FD
set_option maxRecDepth 100000 in
set_option maxHeartbeats 4000000 in
theorem rg3ABD (Q : Exit → Act → World → Prop) (hQ : ∀ c d v (a : Act) (w : World), Q (.panic c) (a.put d v) w → Q (.panic c) a w) (w2 : World) (q : Nat) (x0 x1 x2 : Value) (HS : Hid (∀ W, Below w2.heap.size w2 W → (fun W : World => W.cell? ⟨q, 0, none⟩ = some (.int .u8 2) ∧ W.cell? ⟨q, 1, none⟩ = some (.string ⟨#[105, 110, 116]⟩) ∧ W.cell? ⟨q, 2, none⟩ = some (.int .i64 0) ∧ W.cell? ⟨q, 3, none⟩ = some (.slice none 0 0)) W)) (HEnd : Hid (RgEnd Q w2 q x0 x1 x2)) (W : World) (T : Hid (Below w2.heap.size w2 W)) (mA : Nat) (FA : Hid (Blk W mA 24 #[.int .u8 2, .string ⟨#[105, 110, 116]⟩, .int .i64 0, .slice none 0 0, .int .u8 2, .string ⟨#[105, 110, 116]⟩, .int .i64 0, .slice none 0 0])) (mB : Nat) (FB : Hid (Blk W mB 24 #[.int .u8 2, .string ⟨#[105, 110, 116]⟩, .int .i64 0, .slice none 0 0])) (mD : Nat) (FD : Hid (Blk W mD 24 #[.int .u8 2, .string ⟨#[105, 110, 116]⟩, .int .i64 0, .slice none 0 0])) : wpAnyH Tryd.prog .any rops Q (fun W : World => W.cell? ⟨q, 0, none⟩ = some (.int .u8 2) ∧ W.cell? ⟨q, 1, none⟩ = some (.string ⟨#[105, 110, 116]⟩) ∧ W.cell? ⟨q, 2, none⟩ = some (.int .i64 0) ∧ W.cell? ⟨q, 3, none⟩ = some (.slice none 0 0)) 6 #[true, true, true, true, true, true, true, true, true, true, false, false, true, true, false, false, true, true, true, true, false, false] { tmps := #[x0, x1, x2, undef, undef, undef, .bool false, .pointer (some ⟨q, 0, none⟩), undef, undef, undef, undef, undef, undef, undef, undef, .agg #[.int .u8 2, .string ⟨#[105, 110, 116]⟩, .int .i64 0, .slice none 0 0], .agg #[.int .u8 2, .string ⟨#[105, 110, 116]⟩, .int .i64 0, .slice none 0 0], .agg #[.int .u8 2, .string ⟨#[105, 110, 116]⟩, .int .i64 0, .slice none 0 0], .slice (some ⟨mA, 0, none⟩) 2 2, .agg #[.int .u8 3, .string ⟨#[]⟩, .int .i64 0, .slice (some ⟨mA, 0, none⟩) 2 2], .agg #[.int .u8 1, .string ⟨#[39, 98]⟩, .int .i64 0, .slice none 0 0], .agg #[.int .u8 2, .string ⟨#[101, 120, 110]⟩, .int .i64 0, .slice none 0 0], .agg #[.int .u8 2, .string ⟨#[110, 111, 98, 111, 100, 121]⟩, .int .i64 0, .slice none 0 0], .agg #[.int .u8 2, .string ⟨#[105, 110, 116]⟩, .int .i64 0, .slice none 0 0], .slice (some ⟨mB, 0, none⟩) 1 1, .agg #[.int .u8 2, .string ⟨#[105, 110, 116]⟩, .int .i64 0, .slice (some ⟨mB, 0, none⟩) 1 1], undef, undef, .agg #[.int .u8 2, .string ⟨#[105, 110, 116]⟩, .int .i64 0, .slice none 0 0], .agg #[.int .u8 2, .string ⟨#[105, 110, 116]⟩, .int .i64 0, .slice none 0 0], undef, undef, .agg #[.int .u8 2, .string ⟨#[105, 110, 116]⟩, .int .i64 0, .slice none 0 0], .slice (some ⟨mD, 0, none⟩) 1 1, .agg #[.int .u8 4, .string ⟨#[]⟩, .int .i64 0, .slice (some ⟨mD, 0, none⟩) 1 1], .agg #[.int .u8 0, .string ⟨#[]⟩, .int .i64 0, .slice none 0 0], undef, undef, undef, undef, undef, undef, undef, undef, undef, undef, undef, undef, undef, undef, undef, undef, undef, undef, undef, undef, undef, undef, undef, undef, undef, undef, undef, undef, undef, undef, undef, undef, undef, undef, undef, undef, undef, undef, undef, undef, undef, undef, undef, undef, undef, undef, undef, undef, undef, undef, undef, undef, undef, undef, undef, undef, undef, undef, undef, undef, undef, undef, undef, undef, undef, undef, undef, undef, undef, undef, undef, undef], defers := [] } W := by
  have hHeld := HS.out W T.out
  refine wpAnyH_ready (rs := [10, 14]) (by kernel_rfl) (by simp) ?_
  refine AllReadyH.cons (o := { dst := some 27, op := Op.call { callee := Callee.value (Operand.func 10), args := #[Operand.const (Value.string { data := #[114, 101, 102] }), Operand.const (Value.slice none 0 0)], argTypes := #[9, 22] }, type := 24, pos := "law.go:211", after := #[{ on := 9, ground := Ground.chain }], guard := none }) rfl (fun K hK => ?_) (AllReadyH.cons (o := { dst := some 31, op := Op.buildSlice 22 2 #[(0, Operand.tmp 29), (1, Operand.tmp 30)], type := 22, pos := "law.go:211", after := #[{ on := 12, ground := Ground.data }, { on := 13, ground := Ground.data }], guard := none }) rfl (fun K hK => ?_) AllReadyH.nil)
  · have HT := Lib.hid (named_any ⟨#[114, 101, 102]⟩ none 0 0 W)
    clear hHeld
    go_simp
    go_wp2_with (go_at_call 10; refine Calls.mono HT.out ?_; rintro e b ⟨rfl, bb⟩; have Hb := Lib.hid bb; have Tb : Hid (Below w2.heap.size w2 b) := Lib.hid (T.out.trans (bb.mono T.out.size)))
    refine hK.out _ _ (HS.out _ Tb.out) (fun hHeld => ?_)
    clear hK K HT
    have FA := Lib.hid (FA.out.below Hb.out FA.out.lt)
    have FB := Lib.hid (FB.out.below Hb.out FB.out.lt)
    have FD := Lib.hid (FD.out.below Hb.out FD.out.lt)
    exact rg4ABD Q hQ w2 q x0 x1 x2 HS HEnd b Tb mA FA mB FB mD FD
  · obtain ⟨b, hb⟩ : ∃ v, W.alloc (.cells #[.int .u8 2, .string ⟨#[105, 110, 116]⟩, .int .i64 0, .slice none 0 0, .int .u8 2, .string ⟨#[105, 110, 116]⟩, .int .i64 0, .slice none 0 0] 24) = v := ⟨_, rfl⟩
    have bb : Below W.heap.size W b := by rw [← hb]; exact (Below.refl _ _).alloc (Nat.le_refl _) _
    have BB : Blk b W.heap.size 24 #[.int .u8 2, .string ⟨#[105, 110, 116]⟩, .int .i64 0, .slice none 0 0, .int .u8 2, .string ⟨#[105, 110, 116]⟩, .int .i64 0, .slice none 0 0] := by rw [← hb]; exact Blk.new _ _ _
    obtain ⟨mC, hn⟩ : ∃ v, W.heap.size = v := ⟨_, rfl⟩
    rw [hn] at BB
    have H := Lib.hid (And.intro hb (And.intro hn (And.intro bb BB)))
    have Tb : Hid (Below w2.heap.size w2 b) := Lib.hid (T.out.trans (bb.mono T.out.size))
    clear hb hn bb BB
    go_simp
    (try rw [H.out.1])
    (try rw [H.out.2.1])
    refine hK.out _ _ (HS.out _ Tb.out) (fun hHeld => ?_)
    clear hK K
    have FA := Lib.hid (FA.out.below H.out.2.2.1 FA.out.lt)
    have FB := Lib.hid (FB.out.below H.out.2.2.1 FB.out.lt)
    have FD := Lib.hid (FD.out.below H.out.2.2.1 FD.out.lt)
    have FC := Lib.hid H.out.2.2.2
    exact rg3ABCD Q hQ w2 q x0 x1 x2 HS HEnd b Tb mA FA mB FB mC FC mD FD
set_option maxRecDepth 100000 in
set_option maxHeartbeats 4000000 in
theorem rg3BCD (Q : Exit → Act → World → Prop) (hQ : ∀ c d v (a : Act) (w : World), Q (.panic c) (a.put d v) w → Q (.panic c) a w) (w2 : World) (q : Nat) (x0 x1 x2 : Value) (HS : Hid (∀ W, Below w2.heap.size w2 W → (fun W : World => W.cell? ⟨q, 0, none⟩ = some (.int .u8 2) ∧ W.cell? ⟨q, 1, none⟩ = some (.string ⟨#[105, 110, 116]⟩) ∧ W.cell? ⟨q, 2, none⟩ = some (.int .i64 0) ∧ W.cell? ⟨q, 3, none⟩ = some (.slice none 0 0)) W)) (HEnd : Hid (RgEnd Q w2 q x0 x1 x2)) (W : World) (T : Hid (Below w2.heap.size w2 W)) (mB : Nat) (FB : Hid (Blk W mB 24 #[.int .u8 2, .string ⟨#[105, 110, 116]⟩, .int .i64 0, .slice none 0 0])) (mC : Nat) (FC : Hid (Blk W mC 24 #[.int .u8 2, .string ⟨#[105, 110, 116]⟩, .int .i64 0, .slice none 0 0, .int .u8 2, .string ⟨#[105, 110, 116]⟩, .int .i64 0, .slice none 0 0])) (mD : Nat) (FD : Hid (Blk W mD 24 #[.int .u8 2, .string ⟨#[105, 110, 116]⟩, .int .i64 0, .slice none 0 0])) : wpAnyH Tryd.prog .any rops Q (fun W : World => W.cell? ⟨q, 0, none⟩ = some (.int .u8 2) ∧ W.cell? ⟨q, 1, none⟩ = some (.string ⟨#[105, 110, 116]⟩) ∧ W.cell? ⟨q, 2, none⟩ = some (.int .i64 0) ∧ W.cell? ⟨q, 3, none⟩ = some (.slice none 0 0)) 7 #[true, true, false, false, true, true, true, true, true, true, false, false, true, true, true, false, true, true, true, true, false, false] { tmps := #[x0, x1, x2, undef, undef, undef, .bool false, .pointer (some ⟨q, 0, none⟩), undef, undef, undef, undef, undef, undef, undef, undef, .agg #[.int .u8 2, .string ⟨#[105, 110, 116]⟩, .int .i64 0, .slice none 0 0], .agg #[.int .u8 2, .string ⟨#[105, 110, 116]⟩, .int .i64 0, .slice none 0 0], .agg #[.int .u8 2, .string ⟨#[105, 110, 116]⟩, .int .i64 0, .slice none 0 0], undef, undef, .agg #[.int .u8 1, .string ⟨#[39, 98]⟩, .int .i64 0, .slice none 0 0], .agg #[.int .u8 2, .string ⟨#[101, 120, 110]⟩, .int .i64 0, .slice none 0 0], .agg #[.int .u8 2, .string ⟨#[110, 111, 98, 111, 100, 121]⟩, .int .i64 0, .slice none 0 0], .agg #[.int .u8 2, .string ⟨#[105, 110, 116]⟩, .int .i64 0, .slice none 0 0], .slice (some ⟨mB, 0, none⟩) 1 1, .agg #[.int .u8 2, .string ⟨#[105, 110, 116]⟩, .int .i64 0, .slice (some ⟨mB, 0, none⟩) 1 1], undef, undef, .agg #[.int .u8 2, .string ⟨#[105, 110, 116]⟩, .int .i64 0, .slice none 0 0], .agg #[.int .u8 2, .string ⟨#[105, 110, 116]⟩, .int .i64 0, .slice none 0 0], .slice (some ⟨mC, 0, none⟩) 2 2, undef, .agg #[.int .u8 2, .string ⟨#[105, 110, 116]⟩, .int .i64 0, .slice none 0 0], .slice (some ⟨mD, 0, none⟩) 1 1, .agg #[.int .u8 4, .string ⟨#[]⟩, .int .i64 0, .slice (some ⟨mD, 0, none⟩) 1 1], .agg #[.int .u8 0, .string ⟨#[]⟩, .int .i64 0, .slice none 0 0], undef, undef, undef, undef, undef, undef, undef, undef, undef, undef, undef, undef, undef, undef, undef, undef, undef, undef, undef, undef, undef, undef, undef, undef, undef, undef, undef, undef, undef, undef, undef, undef, undef, undef, undef, undef, undef, undef, undef, undef, undef, undef, undef, undef, undef, undef, undef, undef, undef, undef, undef, undef, undef, undef, undef, undef, undef, undef, undef, undef, undef, undef, undef, undef, undef, undef, undef, undef, undef, undef, undef, undef], defers := [] } W := by
  have hHeld := HS.out W T.out
  refine wpAnyH_ready (rs := [2, 10]) (by kernel_rfl) (by simp) ?_
  refine AllReadyH.cons (o := { dst := some 19, op := Op.buildSlice 22 2 #[(0, Operand.tmp 17), (1, Operand.tmp 18)], type := 22, pos := "law.go:211", after := #[{ on := 0, ground := Ground.data }, { on := 1, ground := Ground.data }], guard := none }) rfl (fun K hK => ?_) (AllReadyH.cons (o := { dst := some 27, op := Op.call { callee := Callee.value (Operand.func 10), args := #[Operand.const (Value.string { data := #[114, 101, 102] }), Operand.const (Value.slice none 0 0)], argTypes := #[9, 22] }, type := 24, pos := "law.go:211", after := #[{ on := 9, ground := Ground.chain }], guard := none }) rfl (fun K hK => ?_) AllReadyH.nil)
  · obtain ⟨b, hb⟩ : ∃ v, W.alloc (.cells #[.int .u8 2, .string ⟨#[105, 110, 116]⟩, .int .i64 0, .slice none 0 0, .int .u8 2, .string ⟨#[105, 110, 116]⟩, .int .i64 0, .slice none 0 0] 24) = v := ⟨_, rfl⟩
    have bb : Below W.heap.size W b := by rw [← hb]; exact (Below.refl _ _).alloc (Nat.le_refl _) _
    have BB : Blk b W.heap.size 24 #[.int .u8 2, .string ⟨#[105, 110, 116]⟩, .int .i64 0, .slice none 0 0, .int .u8 2, .string ⟨#[105, 110, 116]⟩, .int .i64 0, .slice none 0 0] := by rw [← hb]; exact Blk.new _ _ _
    obtain ⟨mA, hn⟩ : ∃ v, W.heap.size = v := ⟨_, rfl⟩
    rw [hn] at BB
    have H := Lib.hid (And.intro hb (And.intro hn (And.intro bb BB)))
    have Tb : Hid (Below w2.heap.size w2 b) := Lib.hid (T.out.trans (bb.mono T.out.size))
    clear hb hn bb BB
    go_simp
    (try rw [H.out.1])
    (try rw [H.out.2.1])
    refine hK.out _ _ (HS.out _ Tb.out) (fun hHeld => ?_)
    clear hK K
    have FB := Lib.hid (FB.out.below H.out.2.2.1 FB.out.lt)
    have FC := Lib.hid (FC.out.below H.out.2.2.1 FC.out.lt)
    have FD := Lib.hid (FD.out.below H.out.2.2.1 FD.out.lt)
    have FA := Lib.hid H.out.2.2.2
    refine takeY (oi := { dst := some 20, op := Op.build 24 #[(0, Operand.const (Value.int IntKind.u8 3)), (3, Operand.tmp 19)], type := 24, pos := "law.go:211", after := #[{ on := 2, ground := Ground.data }], guard := none }) 3 (some 20) rfl rfl (by kernel_rfl) (by kernel_rfl) (by kernel_rfl) (fun _ _ _ h => hQ _ _ _ _ _ h) (by rfl) (v := _) (by (intro _ hSw; (try dsimp only at hSw); go_simp; try with_reducible rfl)) hHeld ?_
    simp only [Act.put, List.setIfInBounds_toArray, List.set_cons_zero, List.set_cons_succ]
    exact rg3ABCD Q hQ w2 q x0 x1 x2 HS HEnd b Tb mA FA mB FB mC FC mD FD
  · have HT := Lib.hid (named_any ⟨#[114, 101, 102]⟩ none 0 0 W)
    clear hHeld
    go_simp
    go_wp2_with (go_at_call 10; refine Calls.mono HT.out ?_; rintro e b ⟨rfl, bb⟩; have Hb := Lib.hid bb; have Tb : Hid (Below w2.heap.size w2 b) := Lib.hid (T.out.trans (bb.mono T.out.size)))
    refine hK.out _ _ (HS.out _ Tb.out) (fun hHeld => ?_)
    clear hK K HT
    have FB := Lib.hid (FB.out.below Hb.out FB.out.lt)
    have FC := Lib.hid (FC.out.below Hb.out FC.out.lt)
    have FD := Lib.hid (FD.out.below Hb.out FD.out.lt)
    exact rg4BCD Q hQ w2 q x0 x1 x2 HS HEnd b Tb mB FB mC FC mD FD
set_option maxRecDepth 100000 in
set_option maxHeartbeats 4000000 in
theorem rg4AB (Q : Exit → Act → World → Prop) (hQ : ∀ c d v (a : Act) (w : World), Q (.panic c) (a.put d v) w → Q (.panic c) a w) (w2 : World) (q : Nat) (x0 x1 x2 : Value) (HS : Hid (∀ W, Below w2.heap.size w2 W → (fun W : World => W.cell? ⟨q, 0, none⟩ = some (.int .u8 2) ∧ W.cell? ⟨q, 1, none⟩ = some (.string ⟨#[105, 110, 116]⟩) ∧ W.cell? ⟨q, 2, none⟩ = some (.int .i64 0) ∧ W.cell? ⟨q, 3, none⟩ = some (.slice none 0 0)) W)) (HEnd : Hid (RgEnd Q w2 q x0 x1 x2)) (W : World) (T : Hid (Below w2.heap.size w2 W)) (mA : Nat) (FA : Hid (Blk W mA 24 #[.int .u8 2, .string ⟨#[105, 110, 116]⟩, .int .i64 0, .slice none 0 0, .int .u8 2, .string ⟨#[105, 110, 116]⟩, .int .i64 0, .slice none 0 0])) (mB : Nat) (FB : Hid (Blk W mB 24 #[.int .u8 2, .string ⟨#[105, 110, 116]⟩, .int .i64 0, .slice none 0 0])) : wpAnyH Tryd.prog .any rops Q (fun W : World => W.cell? ⟨q, 0, none⟩ = some (.int .u8 2) ∧ W.cell? ⟨q, 1, none⟩ = some (.string ⟨#[105, 110, 116]⟩) ∧ W.cell? ⟨q, 2, none⟩ = some (.int .i64 0) ∧ W.cell? ⟨q, 3, none⟩ = some (.slice none 0 0)) 7 #[true, true, true, true, true, true, true, true, true, true, true, false, true, true, false, false, true, false, false, true, false, false] { tmps := #[x0, x1, x2, undef, undef, undef, .bool false, .pointer (some ⟨q, 0, none⟩), undef, undef, undef, undef, undef, undef, undef, undef, .agg #[.int .u8 2, .string ⟨#[105, 110, 116]⟩, .int .i64 0, .slice none 0 0], .agg #[.int .u8 2, .string ⟨#[105, 110, 116]⟩, .int .i64 0, .slice none 0 0], .agg #[.int .u8 2, .string ⟨#[105, 110, 116]⟩, .int .i64 0, .slice none 0 0], .slice (some ⟨mA, 0, none⟩) 2 2, .agg #[.int .u8 3, .string ⟨#[]⟩, .int .i64 0, .slice (some ⟨mA, 0, none⟩) 2 2], .agg #[.int .u8 1, .string ⟨#[39, 98]⟩, .int .i64 0, .slice none 0 0], .agg #[.int .u8 2, .string ⟨#[101, 120, 110]⟩, .int .i64 0, .slice none 0 0], .agg #[.int .u8 2, .string ⟨#[110, 111, 98, 111, 100, 121]⟩, .int .i64 0, .slice none 0 0], .agg #[.int .u8 2, .string ⟨#[105, 110, 116]⟩, .int .i64 0, .slice none 0 0], .slice (some ⟨mB, 0, none⟩) 1 1, .agg #[.int .u8 2, .string ⟨#[105, 110, 116]⟩, .int .i64 0, .slice (some ⟨mB, 0, none⟩) 1 1], .agg #[.int .u8 2, .string ⟨#[114, 101, 102]⟩, .int .i64 0, .slice none 0 0], undef, .agg #[.int .u8 2, .string ⟨#[105, 110, 116]⟩, .int .i64 0, .slice none 0 0], .agg #[.int .u8 2, .string ⟨#[105, 110, 116]⟩, .int .i64 0, .slice none 0 0], undef, undef, .agg #[.int .u8 2, .string ⟨#[105, 110, 116]⟩, .int .i64 0, .slice none 0 0], undef, undef, .agg #[.int .u8 0, .string ⟨#[]⟩, .int .i64 0, .slice none 0 0], undef, undef, undef, undef, undef, undef, undef, undef, undef, undef, undef, undef, undef, undef, undef, undef, undef, undef, undef, undef, undef, undef, undef, undef, undef, undef, undef, undef, undef, undef, undef, undef, undef, undef, undef, undef, undef, undef, undef, undef, undef, undef, undef, undef, undef, undef, undef, undef, undef, undef, undef, undef, undef, undef, undef, undef, undef, undef, undef, undef, undef, undef, undef, undef, undef, undef, undef, undef, undef, undef, undef, undef], defers := [] } W := by
  have hHeld := HS.out W T.out
  refine wpAnyH_ready (rs := [11, 14, 17]) (by kernel_rfl) (by simp) ?_
  refine AllReadyH.cons (o := { dst := some 28, op := Op.call { callee := Callee.value (Operand.func 10), args := #[Operand.const (Value.string { data := #[108, 105, 115, 116] }), Operand.const (Value.slice none 0 0)], argTypes := #[9, 22] }, type := 24, pos := "law.go:211", after := #[{ on := 10, ground := Ground.chain }], guard := none }) rfl (fun K hK => ?_) (AllReadyH.cons (o := { dst := some 31, op := Op.buildSlice 22 2 #[(0, Operand.tmp 29), (1, Operand.tmp 30)], type := 22, pos := "law.go:211", after := #[{ on := 12, ground := Ground.data }, { on := 13, ground := Ground.data }], guard := none }) rfl (fun K hK => ?_) (AllReadyH.cons (o := { dst := some 34, op := Op.buildSlice 22 1 #[(0, Operand.tmp 33)], type := 22, pos := "law.go:211", after := #[{ on := 16, ground := Ground.data }], guard := none }) rfl (fun K hK => ?_) AllReadyH.nil))
  · have HT := Lib.hid (named_any ⟨#[108, 105, 115, 116]⟩ none 0 0 W)
    clear hHeld
    go_simp
    go_wp2_with (go_at_call 10; refine Calls.mono HT.out ?_; rintro e b ⟨rfl, bb⟩; have Hb := Lib.hid bb; have Tb : Hid (Below w2.heap.size w2 b) := Lib.hid (T.out.trans (bb.mono T.out.size)))
    refine hK.out _ _ (HS.out _ Tb.out) (fun hHeld => ?_)
    clear hK K HT
    have FA := Lib.hid (FA.out.below Hb.out FA.out.lt)
    have FB := Lib.hid (FB.out.below Hb.out FB.out.lt)
    exact rg5AB Q hQ w2 q x0 x1 x2 HS HEnd b Tb mA FA mB FB
  · obtain ⟨b, hb⟩ : ∃ v, W.alloc (.cells #[.int .u8 2, .string ⟨#[105, 110, 116]⟩, .int .i64 0, .slice none 0 0, .int .u8 2, .string ⟨#[105, 110, 116]⟩, .int .i64 0, .slice none 0 0] 24) = v := ⟨_, rfl⟩
    have bb : Below W.heap.size W b := by rw [← hb]; exact (Below.refl _ _).alloc (Nat.le_refl _) _
    have BB : Blk b W.heap.size 24 #[.int .u8 2, .string ⟨#[105, 110, 116]⟩, .int .i64 0, .slice none 0 0, .int .u8 2, .string ⟨#[105, 110, 116]⟩, .int .i64 0, .slice none 0 0] := by rw [← hb]; exact Blk.new _ _ _
    obtain ⟨mC, hn⟩ : ∃ v, W.heap.size = v := ⟨_, rfl⟩
    rw [hn] at BB
    have H := Lib.hid (And.intro hb (And.intro hn (And.intro bb BB)))
    have Tb : Hid (Below w2.heap.size w2 b) := Lib.hid (T.out.trans (bb.mono T.out.size))
    clear hb hn bb BB
    go_simp
    (try rw [H.out.1])
    (try rw [H.out.2.1])
    refine hK.out _ _ (HS.out _ Tb.out) (fun hHeld => ?_)
    clear hK K
    have FA := Lib.hid (FA.out.below H.out.2.2.1 FA.out.lt)
    have FB := Lib.hid (FB.out.below H.out.2.2.1 FB.out.lt)
    have FC := Lib.hid H.out.2.2.2
    exact rg4ABC Q hQ w2 q x0 x1 x2 HS HEnd b Tb mA FA mB FB mC FC
  · obtain ⟨b, hb⟩ : ∃ v, W.alloc (.cells #[.int .u8 2, .string ⟨#[105, 110, 116]⟩, .int .i64 0, .slice none 0 0] 24) = v := ⟨_, rfl⟩
    have bb : Below W.heap.size W b := by rw [← hb]; exact (Below.refl _ _).alloc (Nat.le_refl _) _
    have BB : Blk b W.heap.size 24 #[.int .u8 2, .string ⟨#[105, 110, 116]⟩, .int .i64 0, .slice none 0 0] := by rw [← hb]; exact Blk.new _ _ _
    obtain ⟨mD, hn⟩ : ∃ v, W.heap.size = v := ⟨_, rfl⟩
    rw [hn] at BB
    have H := Lib.hid (And.intro hb (And.intro hn (And.intro bb BB)))
    have Tb : Hid (Below w2.heap.size w2 b) := Lib.hid (T.out.trans (bb.mono T.out.size))
    clear hb hn bb BB
    go_simp
    (try rw [H.out.1])
    (try rw [H.out.2.1])
    refine hK.out _ _ (HS.out _ Tb.out) (fun hHeld => ?_)
    clear hK K
    have FA := Lib.hid (FA.out.below H.out.2.2.1 FA.out.lt)
    have FB := Lib.hid (FB.out.below H.out.2.2.1 FB.out.lt)
    have FD := Lib.hid H.out.2.2.2
    refine takeY (oi := { dst := some 35, op := Op.build 24 #[(0, Operand.const (Value.int IntKind.u8 4)), (3, Operand.tmp 34)], type := 24, pos := "law.go:211", after := #[{ on := 17, ground := Ground.data }], guard := none }) 18 (some 35) rfl rfl (by kernel_rfl) (by kernel_rfl) (by kernel_rfl) (fun _ _ _ h => hQ _ _ _ _ _ h) (by rfl) (v := _) (by (intro _ hSw; (try dsimp only at hSw); go_simp; try with_reducible rfl)) hHeld ?_
    simp only [Act.put, List.setIfInBounds_toArray, List.set_cons_zero, List.set_cons_succ]
    exact rg4ABD Q hQ w2 q x0 x1 x2 HS HEnd b Tb mA FA mB FB mD FD
set_option maxRecDepth 100000 in
set_option maxHeartbeats 4000000 in
theorem rg4BC (Q : Exit → Act → World → Prop) (hQ : ∀ c d v (a : Act) (w : World), Q (.panic c) (a.put d v) w → Q (.panic c) a w) (w2 : World) (q : Nat) (x0 x1 x2 : Value) (HS : Hid (∀ W, Below w2.heap.size w2 W → (fun W : World => W.cell? ⟨q, 0, none⟩ = some (.int .u8 2) ∧ W.cell? ⟨q, 1, none⟩ = some (.string ⟨#[105, 110, 116]⟩) ∧ W.cell? ⟨q, 2, none⟩ = some (.int .i64 0) ∧ W.cell? ⟨q, 3, none⟩ = some (.slice none 0 0)) W)) (HEnd : Hid (RgEnd Q w2 q x0 x1 x2)) (W : World) (T : Hid (Below w2.heap.size w2 W)) (mB : Nat) (FB : Hid (Blk W mB 24 #[.int .u8 2, .string ⟨#[105, 110, 116]⟩, .int .i64 0, .slice none 0 0])) (mC : Nat) (FC : Hid (Blk W mC 24 #[.int .u8 2, .string ⟨#[105, 110, 116]⟩, .int .i64 0, .slice none 0 0, .int .u8 2, .string ⟨#[105, 110, 116]⟩, .int .i64 0, .slice none 0 0])) : wpAnyH Tryd.prog .any rops Q (fun W : World => W.cell? ⟨q, 0, none⟩ = some (.int .u8 2) ∧ W.cell? ⟨q, 1, none⟩ = some (.string ⟨#[105, 110, 116]⟩) ∧ W.cell? ⟨q, 2, none⟩ = some (.int .i64 0) ∧ W.cell? ⟨q, 3, none⟩ = some (.slice none 0 0)) 8 #[true, true, false, false, true, true, true, true, true, true, true, false, true, true, true, false, true, false, false, true, false, false] { tmps := #[x0, x1, x2, undef, undef, undef, .bool false, .pointer (some ⟨q, 0, none⟩), undef, undef, undef, undef, undef, undef, undef, undef, .agg #[.int .u8 2, .string ⟨#[105, 110, 116]⟩, .int .i64 0, .slice none 0 0], .agg #[.int .u8 2, .string ⟨#[105, 110, 116]⟩, .int .i64 0, .slice none 0 0], .agg #[.int .u8 2, .string ⟨#[105, 110, 116]⟩, .int .i64 0, .slice none 0 0], undef, undef, .agg #[.int .u8 1, .string ⟨#[39, 98]⟩, .int .i64 0, .slice none 0 0], .agg #[.int .u8 2, .string ⟨#[101, 120, 110]⟩, .int .i64 0, .slice none 0 0], .agg #[.int .u8 2, .string ⟨#[110, 111, 98, 111, 100, 121]⟩, .int .i64 0, .slice none 0 0], .agg #[.int .u8 2, .string ⟨#[105, 110, 116]⟩, .int .i64 0, .slice none 0 0], .slice (some ⟨mB, 0, none⟩) 1 1, .agg #[.int .u8 2, .string ⟨#[105, 110, 116]⟩, .int .i64 0, .slice (some ⟨mB, 0, none⟩) 1 1], .agg #[.int .u8 2, .string ⟨#[114, 101, 102]⟩, .int .i64 0, .slice none 0 0], undef, .agg #[.int .u8 2, .string ⟨#[105, 110, 116]⟩, .int .i64 0, .slice none 0 0], .agg #[.int .u8 2, .string ⟨#[105, 110, 116]⟩, .int .i64 0, .slice none 0 0], .slice (some ⟨mC, 0, none⟩) 2 2, undef, .agg #[.int .u8 2, .string ⟨#[105, 110, 116]⟩, .int .i64 0, .slice none 0 0], undef, undef, .agg #[.int .u8 0, .string ⟨#[]⟩, .int .i64 0, .slice none 0 0], undef, undef, undef, undef, undef, undef, undef, undef, undef, undef, undef, undef, undef, undef, undef, undef, undef, undef, undef, undef, undef, undef, undef, undef, undef, undef, undef, undef, undef, undef, undef, undef, undef, undef, undef, undef, undef, undef, undef, undef, undef, undef, undef, undef, undef, undef, undef, undef, undef, undef, undef, undef, undef, undef, undef, undef, undef, undef, undef, undef, undef, undef, undef, undef, undef, undef, undef, undef, undef, undef, undef, undef], defers := [] } W := by
  have hHeld := HS.out W T.out
  refine wpAnyH_ready (rs := [2, 11, 17]) (by kernel_rfl) (by simp) ?_
  refine AllReadyH.cons (o := { dst := some 19, op := Op.buildSlice 22 2 #[(0, Operand.tmp 17), (1, Operand.tmp 18)], type := 22, pos := "law.go:211", after := #[{ on := 0, ground := Ground.data }, { on := 1, ground := Ground.data }], guard := none }) rfl (fun K hK => ?_) (AllReadyH.cons (o := { dst := some 28, op := Op.call { callee := Callee.value (Operand.func 10), args := #[Operand.const (Value.string { data := #[108, 105, 115, 116] }), Operand.const (Value.slice none 0 0)], argTypes := #[9, 22] }, type := 24, pos := "law.go:211", after := #[{ on := 10, ground := Ground.chain }], guard := none }) rfl (fun K hK => ?_) (AllReadyH.cons (o := { dst := some 34, op := Op.buildSlice 22 1 #[(0, Operand.tmp 33)], type := 22, pos := "law.go:211", after := #[{ on := 16, ground := Ground.data }], guard := none }) rfl (fun K hK => ?_) AllReadyH.nil))
  · obtain ⟨b, hb⟩ : ∃ v, W.alloc (.cells #[.int .u8 2, .string ⟨#[105, 110, 116]⟩, .int .i64 0, .slice none 0 0, .int .u8 2, .string ⟨#[105, 110, 116]⟩, .int .i64 0, .slice none 0 0] 24) = v := ⟨_, rfl⟩
    have bb : Below W.heap.size W b := by rw [← hb]; exact (Below.refl _ _).alloc (Nat.le_refl _) _
    have BB : Blk b W.heap.size 24 #[.int .u8 2, .string ⟨#[105, 110, 116]⟩, .int .i64 0, .slice none 0 0, .int .u8 2, .string ⟨#[105, 110, 116]⟩, .int .i64 0, .slice none 0 0] := by rw [← hb]; exact Blk.new _ _ _
    obtain ⟨mA, hn⟩ : ∃ v, W.heap.size = v := ⟨_, rfl⟩
    rw [hn] at BB
    have H := Lib.hid (And.intro hb (And.intro hn (And.intro bb BB)))
    have Tb : Hid (Below w2.heap.size w2 b) := Lib.hid (T.out.trans (bb.mono T.out.size))
    clear hb hn bb BB
    go_simp
    (try rw [H.out.1])
    (try rw [H.out.2.1])
    refine hK.out _ _ (HS.out _ Tb.out) (fun hHeld => ?_)
    clear hK K
    have FB := Lib.hid (FB.out.below H.out.2.2.1 FB.out.lt)
    have FC := Lib.hid (FC.out.below H.out.2.2.1 FC.out.lt)
    have FA := Lib.hid H.out.2.2.2
    refine takeY (oi := { dst := some 20, op := Op.build 24 #[(0, Operand.const (Value.int IntKind.u8 3)), (3, Operand.tmp 19)], type := 24, pos := "law.go:211", after := #[{ on := 2, ground := Ground.data }], guard := none }) 3 (some 20) rfl rfl (by kernel_rfl) (by kernel_rfl) (by kernel_rfl) (fun _ _ _ h => hQ _ _ _ _ _ h) (by rfl) (v := _) (by (intro _ hSw; (try dsimp only at hSw); go_simp; try with_reducible rfl)) hHeld ?_
    simp only [Act.put, List.setIfInBounds_toArray, List.set_cons_zero, List.set_cons_succ]
    exact rg4ABC Q hQ w2 q x0 x1 x2 HS HEnd b Tb mA FA mB FB mC FC
  · have HT := Lib.hid (named_any ⟨#[108, 105, 115, 116]⟩ none 0 0 W)
    clear hHeld
    go_simp
    go_wp2_with (go_at_call 10; refine Calls.mono HT.out ?_; rintro e b ⟨rfl, bb⟩; have Hb := Lib.hid bb; have Tb : Hid (Below w2.heap.size w2 b) := Lib.hid (T.out.trans (bb.mono T.out.size)))
    refine hK.out _ _ (HS.out _ Tb.out) (fun hHeld => ?_)
    clear hK K HT
    have FB := Lib.hid (FB.out.below Hb.out FB.out.lt)
    have FC := Lib.hid (FC.out.below Hb.out FC.out.lt)
    exact rg5BC Q hQ w2 q x0 x1 x2 HS HEnd b Tb mB FB mC FC
  · obtain ⟨b, hb⟩ : ∃ v, W.alloc (.cells #[.int .u8 2, .string ⟨#[105, 110, 116]⟩, .int .i64 0, .slice none 0 0] 24) = v := ⟨_, rfl⟩
    have bb : Below W.heap.size W b := by rw [← hb]; exact (Below.refl _ _).alloc (Nat.le_refl _) _
    have BB : Blk b W.heap.size 24 #[.int .u8 2, .string ⟨#[105, 110, 116]⟩, .int .i64 0, .slice none 0 0] := by rw [← hb]; exact Blk.new _ _ _
    obtain ⟨mD, hn⟩ : ∃ v, W.heap.size = v := ⟨_, rfl⟩
    rw [hn] at BB
    have H := Lib.hid (And.intro hb (And.intro hn (And.intro bb BB)))
    have Tb : Hid (Below w2.heap.size w2 b) := Lib.hid (T.out.trans (bb.mono T.out.size))
    clear hb hn bb BB
    go_simp
    (try rw [H.out.1])
    (try rw [H.out.2.1])
    refine hK.out _ _ (HS.out _ Tb.out) (fun hHeld => ?_)
    clear hK K
    have FB := Lib.hid (FB.out.below H.out.2.2.1 FB.out.lt)
    have FC := Lib.hid (FC.out.below H.out.2.2.1 FC.out.lt)
    have FD := Lib.hid H.out.2.2.2
    refine takeY (oi := { dst := some 35, op := Op.build 24 #[(0, Operand.const (Value.int IntKind.u8 4)), (3, Operand.tmp 34)], type := 24, pos := "law.go:211", after := #[{ on := 17, ground := Ground.data }], guard := none }) 18 (some 35) rfl rfl (by kernel_rfl) (by kernel_rfl) (by kernel_rfl) (fun _ _ _ h => hQ _ _ _ _ _ h) (by rfl) (v := _) (by (intro _ hSw; (try dsimp only at hSw); go_simp; try with_reducible rfl)) hHeld ?_
    simp only [Act.put, List.setIfInBounds_toArray, List.set_cons_zero, List.set_cons_succ]
    exact rg4BCD Q hQ w2 q x0 x1 x2 HS HEnd b Tb mB FB mC FC mD FD
set_option maxRecDepth 100000 in
set_option maxHeartbeats 4000000 in
theorem rg4BD (Q : Exit → Act → World → Prop) (hQ : ∀ c d v (a : Act) (w : World), Q (.panic c) (a.put d v) w → Q (.panic c) a w) (w2 : World) (q : Nat) (x0 x1 x2 : Value) (HS : Hid (∀ W, Below w2.heap.size w2 W → (fun W : World => W.cell? ⟨q, 0, none⟩ = some (.int .u8 2) ∧ W.cell? ⟨q, 1, none⟩ = some (.string ⟨#[105, 110, 116]⟩) ∧ W.cell? ⟨q, 2, none⟩ = some (.int .i64 0) ∧ W.cell? ⟨q, 3, none⟩ = some (.slice none 0 0)) W)) (HEnd : Hid (RgEnd Q w2 q x0 x1 x2)) (W : World) (T : Hid (Below w2.heap.size w2 W)) (mB : Nat) (FB : Hid (Blk W mB 24 #[.int .u8 2, .string ⟨#[105, 110, 116]⟩, .int .i64 0, .slice none 0 0])) (mD : Nat) (FD : Hid (Blk W mD 24 #[.int .u8 2, .string ⟨#[105, 110, 116]⟩, .int .i64 0, .slice none 0 0])) : wpAnyH Tryd.prog .any rops Q (fun W : World => W.cell? ⟨q, 0, none⟩ = some (.int .u8 2) ∧ W.cell? ⟨q, 1, none⟩ = some (.string ⟨#[105, 110, 116]⟩) ∧ W.cell? ⟨q, 2, none⟩ = some (.int .i64 0) ∧ W.cell? ⟨q, 3, none⟩ = some (.slice none 0 0)) 7 #[true, true, false, false, true, true, true, true, true, true, true, false, true, true, false, false, true, true, true, true, false, false] { tmps := #[x0, x1, x2, undef, undef, undef, .bool false, .pointer (some ⟨q, 0, none⟩), undef, undef, undef, undef, undef, undef, undef, undef, .agg #[.int .u8 2, .string ⟨#[105, 110, 116]⟩, .int .i64 0, .slice none 0 0], .agg #[.int .u8 2, .string ⟨#[105, 110, 116]⟩, .int .i64 0, .slice none 0 0], .agg #[.int .u8 2, .string ⟨#[105, 110, 116]⟩, .int .i64 0, .slice none 0 0], undef, undef, .agg #[.int .u8 1, .string ⟨#[39, 98]⟩, .int .i64 0, .slice none 0 0], .agg #[.int .u8 2, .string ⟨#[101, 120, 110]⟩, .int .i64 0, .slice none 0 0], .agg #[.int .u8 2, .string ⟨#[110, 111, 98, 111, 100, 121]⟩, .int .i64 0, .slice none 0 0], .agg #[.int .u8 2, .string ⟨#[105, 110, 116]⟩, .int .i64 0, .slice none 0 0], .slice (some ⟨mB, 0, none⟩) 1 1, .agg #[.int .u8 2, .string ⟨#[105, 110, 116]⟩, .int .i64 0, .slice (some ⟨mB, 0, none⟩) 1 1], .agg #[.int .u8 2, .string ⟨#[114, 101, 102]⟩, .int .i64 0, .slice none 0 0], undef, .agg #[.int .u8 2, .string ⟨#[105, 110, 116]⟩, .int .i64 0, .slice none 0 0], .agg #[.int .u8 2, .string ⟨#[105, 110, 116]⟩, .int .i64 0, .slice none 0 0], undef, undef, .agg #[.int .u8 2, .string ⟨#[105, 110, 116]⟩, .int .i64 0, .slice none 0 0], .slice (some ⟨mD, 0, none⟩) 1 1, .agg #[.int .u8 4, .string ⟨#[]⟩, .int .i64 0, .slice (some ⟨mD, 0, none⟩) 1 1], .agg #[.int .u8 0, .string ⟨#[]⟩, .int .i64 0, .slice none 0 0], undef, undef, undef, undef, undef, undef, undef, undef, undef, undef, undef, undef, undef, undef, undef, undef, undef, undef, undef, undef, undef, undef, undef, undef, undef, undef, undef, undef, undef, undef, undef, undef, undef, undef, undef, undef, undef, undef, undef, undef, undef, undef, undef, undef, undef, undef, undef, undef, undef, undef, undef, undef, undef, undef, undef, undef, undef, undef, undef, undef, undef, undef, undef, undef, undef, undef, undef, undef, undef, undef, undef, undef], defers := [] } W := by
  have hHeld := HS.out W T.out
  refine wpAnyH_ready (rs := [2, 11, 14]) (by kernel_rfl) (by simp) ?_
  refine AllReadyH.cons (o := { dst := some 19, op := Op.buildSlice 22 2 #[(0, Operand.tmp 17), (1, Operand.tmp 18)], type := 22, pos := "law.go:211", after := #[{ on := 0, ground := Ground.data }, { on := 1, ground := Ground.data }], guard := none }) rfl (fun K hK => ?_) (AllReadyH.cons (o := { dst := some 28, op := Op.call { callee := Callee.value (Operand.func 10), args := #[Operand.const (Value.string { data := #[108, 105, 115, 116] }), Operand.const (Value.slice none 0 0)], argTypes := #[9, 22] }, type := 24, pos := "law.go:211", after := #[{ on := 10, ground := Ground.chain }], guard := none }) rfl (fun K hK => ?_) (AllReadyH.cons (o := { dst := some 31, op := Op.buildSlice 22 2 #[(0, Operand.tmp 29), (1, Operand.tmp 30)], type := 22, pos := "law.go:211", after := #[{ on := 12, ground := Ground.data }, { on := 13, ground := Ground.data }], guard := none }) rfl (fun K hK => ?_) AllReadyH.nil))
  · obtain ⟨b, hb⟩ : ∃ v, W.alloc (.cells #[.int .u8 2, .string ⟨#[105, 110, 116]⟩, .int .i64 0, .slice none 0 0, .int .u8 2, .string ⟨#[105, 110, 116]⟩, .int .i64 0, .slice none 0 0] 24) = v := ⟨_, rfl⟩
    have bb : Below W.heap.size W b := by rw [← hb]; exact (Below.refl _ _).alloc (Nat.le_refl _) _
    have BB : Blk b W.heap.size 24 #[.int .u8 2, .string ⟨#[105, 110, 116]⟩, .int .i64 0, .slice none 0 0, .int .u8 2, .string ⟨#[105, 110, 116]⟩, .int .i64 0, .slice none 0 0] := by rw [← hb]; exact Blk.new _ _ _
    obtain ⟨mA, hn⟩ : ∃ v, W.heap.size = v := ⟨_, rfl⟩
    rw [hn] at BB
    have H := Lib.hid (And.intro hb (And.intro hn (And.intro bb BB)))
    have Tb : Hid (Below w2.heap.size w2 b) := Lib.hid (T.out.trans (bb.mono T.out.size))
    clear hb hn bb BB
    go_simp
    (try rw [H.out.1])
    (try rw [H.out.2.1])
    refine hK.out _ _ (HS.out _ Tb.out) (fun hHeld => ?_)
    clear hK K
    have FB := Lib.hid (FB.out.below H.out.2.2.1 FB.out.lt)
    have FD := Lib.hid (FD.out.below H.out.2.2.1 FD.out.lt)
    have FA := Lib.hid H.out.2.2.2
    refine takeY (oi := { dst := some 20, op := Op.build 24 #[(0, Operand.const (Value.int IntKind.u8 3)), (3, Operand.tmp 19)], type := 24, pos := "law.go:211", after := #[{ on := 2, ground := Ground.data }], guard := none }) 3 (some 20) rfl rfl (by kernel_rfl) (by kernel_rfl) (by kernel_rfl) (fun _ _ _ h => hQ _ _ _ _ _ h) (by rfl) (v := _) (by (intro _ hSw; (try dsimp only at hSw); go_simp; try with_reducible rfl)) hHeld ?_
    simp only [Act.put, List.setIfInBounds_toArray, List.set_cons_zero, List.set_cons_succ]
    exact rg4ABD Q hQ w2 q x0 x1 x2 HS HEnd b Tb mA FA mB FB mD FD
  · have HT := Lib.hid (named_any ⟨#[108, 105, 115, 116]⟩ none 0 0 W)
    clear hHeld
    go_simp
    go_wp2_with (go_at_call 10; refine Calls.mono HT.out ?_; rintro e b ⟨rfl, bb⟩; have Hb := Lib.hid bb; have Tb : Hid (Below w2.heap.size w2 b) := Lib.hid (T.out.trans (bb.mono T.out.size)))
    refine hK.out _ _ (HS.out _ Tb.out) (fun hHeld => ?_)
    clear hK K HT
    have FB := Lib.hid (FB.out.below Hb.out FB.out.lt)
    have FD := Lib.hid (FD.out.below Hb.out FD.out.lt)
    exact rg5BD Q hQ w2 q x0 x1 x2 HS HEnd b Tb mB FB mD FD
  · obtain ⟨b, hb⟩ : ∃ v, W.alloc (.cells #[.int .u8 2, .string ⟨#[105, 110, 116]⟩, .int .i64 0, .slice none 0 0, .int .u8 2, .string ⟨#[105, 110, 116]⟩, .int .i64 0, .slice none 0 0] 24) = v := ⟨_, rfl⟩
    have bb : Below W.heap.size W b := by rw [← hb]; exact (Below.refl _ _).alloc (Nat.le_refl _) _
    have BB : Blk b W.heap.size 24 #[.int .u8 2, .string ⟨#[105, 110, 116]⟩, .int .i64 0, .slice none 0 0, .int .u8 2, .string ⟨#[105, 110, 116]⟩, .int .i64 0, .slice none 0 0] := by rw [← hb]; exact Blk.new _ _ _
    obtain ⟨mC, hn⟩ : ∃ v, W.heap.size = v := ⟨_, rfl⟩
    rw [hn] at BB
    have H := Lib.hid (And.intro hb (And.intro hn (And.intro bb BB)))
    have Tb : Hid (Below w2.heap.size w2 b) := Lib.hid (T.out.trans (bb.mono T.out.size))
    clear hb hn bb BB
    go_simp
    (try rw [H.out.1])
    (try rw [H.out.2.1])
    refine hK.out _ _ (HS.out _ Tb.out) (fun hHeld => ?_)
    clear hK K
    have FB := Lib.hid (FB.out.below H.out.2.2.1 FB.out.lt)
    have FD := Lib.hid (FD.out.below H.out.2.2.1 FD.out.lt)
    have FC := Lib.hid H.out.2.2.2
    exact rg4BCD Q hQ w2 q x0 x1 x2 HS HEnd b Tb mB FB mC FC mD FD
set_option maxRecDepth 100000 in
set_option maxHeartbeats 4000000 in
theorem rg5B (Q : Exit → Act → World → Prop) (hQ : ∀ c d v (a : Act) (w : World), Q (.panic c) (a.put d v) w → Q (.panic c) a w) (w2 : World) (q : Nat) (x0 x1 x2 : Value) (HS : Hid (∀ W, Below w2.heap.size w2 W → (fun W : World => W.cell? ⟨q, 0, none⟩ = some (.int .u8 2) ∧ W.cell? ⟨q, 1, none⟩ = some (.string ⟨#[105, 110, 116]⟩) ∧ W.cell? ⟨q, 2, none⟩ = some (.int .i64 0) ∧ W.cell? ⟨q, 3, none⟩ = some (.slice none 0 0)) W)) (HEnd : Hid (RgEnd Q w2 q x0 x1 x2)) (W : World) (T : Hid (Below w2.heap.size w2 W)) (mB : Nat) (FB : Hid (Blk W mB 24 #[.int .u8 2, .string ⟨#[105, 110, 116]⟩, .int .i64 0, .slice none 0 0])) : wpAnyH Tryd.prog .any rops Q (fun W : World => W.cell? ⟨q, 0, none⟩ = some (.int .u8 2) ∧ W.cell? ⟨q, 1, none⟩ = some (.string ⟨#[105, 110, 116]⟩) ∧ W.cell? ⟨q, 2, none⟩ = some (.int .i64 0) ∧ W.cell? ⟨q, 3, none⟩ = some (.slice none 0 0)) 8 #[true, true, false, false, true, true, true, true, true, true, true, true, true, true, false, false, true, false, false, true, false, false] { tmps := #[x0, x1, x2, undef, undef, undef, .bool false, .pointer (some ⟨q, 0, none⟩), undef, undef, undef, undef, undef, undef, undef, undef, .agg #[.int .u8 2, .string ⟨#[105, 110, 116]⟩, .int .i64 0, .slice none 0 0], .agg #[.int .u8 2, .string ⟨#[105, 110, 116]⟩, .int .i64 0, .slice none 0 0], .agg #[.int .u8 2, .string ⟨#[105, 110, 116]⟩, .int .i64 0, .slice none 0 0], undef, undef, .agg #[.int .u8 1, .string ⟨#[39, 98]⟩, .int .i64 0, .slice none 0 0], .agg #[.int .u8 2, .string ⟨#[101, 120, 110]⟩, .int .i64 0, .slice none 0 0], .agg #[.int .u8 2, .string ⟨#[110, 111, 98, 111, 100, 121]⟩, .int .i64 0, .slice none 0 0], .agg #[.int .u8 2, .string ⟨#[105, 110, 116]⟩, .int .i64 0, .slice none 0 0], .slice (some ⟨mB, 0, none⟩) 1 1, .agg #[.int .u8 2, .string ⟨#[105, 110, 116]⟩, .int .i64 0, .slice (some ⟨mB, 0, none⟩) 1 1], .agg #[.int .u8 2, .string ⟨#[114, 101, 102]⟩, .int .i64 0, .slice none 0 0], .agg #[.int .u8 2, .string ⟨#[108, 105, 115, 116]⟩, .int .i64 0, .slice none 0 0], .agg #[.int .u8 2, .string ⟨#[105, 110, 116]⟩, .int .i64 0, .slice none 0 0], .agg #[.int .u8 2, .string ⟨#[105, 110, 116]⟩, .int .i64 0, .slice none 0 0], undef, undef, .agg #[.int .u8 2, .string ⟨#[105, 110, 116]⟩, .int .i64 0, .slice none 0 0], undef, undef, .agg #[.int .u8 0, .string ⟨#[]⟩, .int .i64 0, .slice none 0 0], undef, undef, undef, undef, undef, undef, undef, undef, undef, undef, undef, undef, undef, undef, undef, undef, undef, undef, undef, undef, undef, undef, undef, undef, undef, undef, undef, undef, undef, undef, undef, undef, undef, undef, undef, undef, undef, undef, undef, undef, undef, undef, undef, undef, undef, undef, undef, undef, undef, undef, undef, undef, undef, undef, undef, undef, undef, undef, undef, undef, undef, undef, undef, undef, undef, undef, undef, undef, undef, undef, undef, undef], defers := [] } W := by
  have hHeld := HS.out W T.out
  refine wpAnyH_ready (rs := [2, 14, 17]) (by kernel_rfl) (by simp) ?_
  refine AllReadyH.cons (o := { dst := some 19, op := Op.buildSlice 22 2 #[(0, Operand.tmp 17), (1, Operand.tmp 18)], type := 22, pos := "law.go:211", after := #[{ on := 0, ground := Ground.data }, { on := 1, ground := Ground.data }], guard := none }) rfl (fun K hK => ?_) (AllReadyH.cons (o := { dst := some 31, op := Op.buildSlice 22 2 #[(0, Operand.tmp 29), (1, Operand.tmp 30)], type := 22, pos := "law.go:211", after := #[{ on := 12, ground := Ground.data }, { on := 13, ground := Ground.data }], guard := none }) rfl (fun K hK => ?_) (AllReadyH.cons (o := { dst := some 34, op := Op.buildSlice 22 1 #[(0, Operand.tmp 33)], type := 22, pos := "law.go:211", after := #[{ on := 16, ground := Ground.data }], guard := none }) rfl (fun K hK => ?_) AllReadyH.nil))
  · obtain ⟨b, hb⟩ : ∃ v, W.alloc (.cells #[.int .u8 2, .string ⟨#[105, 110, 116]⟩, .int .i64 0, .slice none 0 0, .int .u8 2, .string ⟨#[105, 110, 116]⟩, .int .i64 0, .slice none 0 0] 24) = v := ⟨_, rfl⟩
    have bb : Below W.heap.size W b := by rw [← hb]; exact (Below.refl _ _).alloc (Nat.le_refl _) _
    have BB : Blk b W.heap.size 24 #[.int .u8 2, .string ⟨#[105, 110, 116]⟩, .int .i64 0, .slice none 0 0, .int .u8 2, .string ⟨#[105, 110, 116]⟩, .int .i64 0, .slice none 0 0] := by rw [← hb]; exact Blk.new _ _ _
    obtain ⟨mA, hn⟩ : ∃ v, W.heap.size = v := ⟨_, rfl⟩
    rw [hn] at BB
    have H := Lib.hid (And.intro hb (And.intro hn (And.intro bb BB)))
    have Tb : Hid (Below w2.heap.size w2 b) := Lib.hid (T.out.trans (bb.mono T.out.size))
    clear hb hn bb BB
    go_simp
    (try rw [H.out.1])
    (try rw [H.out.2.1])
    refine hK.out _ _ (HS.out _ Tb.out) (fun hHeld => ?_)
    clear hK K
    have FB := Lib.hid (FB.out.below H.out.2.2.1 FB.out.lt)
    have FA := Lib.hid H.out.2.2.2
    refine takeY (oi := { dst := some 20, op := Op.build 24 #[(0, Operand.const (Value.int IntKind.u8 3)), (3, Operand.tmp 19)], type := 24, pos := "law.go:211", after := #[{ on := 2, ground := Ground.data }], guard := none }) 3 (some 20) rfl rfl (by kernel_rfl) (by kernel_rfl) (by kernel_rfl) (fun _ _ _ h => hQ _ _ _ _ _ h) (by rfl) (v := _) (by (intro _ hSw; (try dsimp only at hSw); go_simp; try with_reducible rfl)) hHeld ?_
    simp only [Act.put, List.setIfInBounds_toArray, List.set_cons_zero, List.set_cons_succ]
    exact rg5AB Q hQ w2 q x0 x1 x2 HS HEnd b Tb mA FA mB FB
  · obtain ⟨b, hb⟩ : ∃ v, W.alloc (.cells #[.int .u8 2, .string ⟨#[105, 110, 116]⟩, .int .i64 0, .slice none 0 0, .int .u8 2, .string ⟨#[105, 110, 116]⟩, .int .i64 0, .slice none 0 0] 24) = v := ⟨_, rfl⟩
    have bb : Below W.heap.size W b := by rw [← hb]; exact (Below.refl _ _).alloc (Nat.le_refl _) _
    have BB : Blk b W.heap.size 24 #[.int .u8 2, .string ⟨#[105, 110, 116]⟩, .int .i64 0, .slice none 0 0, .int .u8 2, .string ⟨#[105, 110, 116]⟩, .int .i64 0, .slice none 0 0] := by rw [← hb]; exact Blk.new _ _ _
    obtain ⟨mC, hn⟩ : ∃ v, W.heap.size = v := ⟨_, rfl⟩
    rw [hn] at BB
    have H := Lib.hid (And.intro hb (And.intro hn (And.intro bb BB)))
    have Tb : Hid (Below w2.heap.size w2 b) := Lib.hid (T.out.trans (bb.mono T.out.size))
    clear hb hn bb BB
    go_simp
    (try rw [H.out.1])
    (try rw [H.out.2.1])
    refine hK.out _ _ (HS.out _ Tb.out) (fun hHeld => ?_)
    clear hK K
    have FB := Lib.hid (FB.out.below H.out.2.2.1 FB.out.lt)
    have FC := Lib.hid H.out.2.2.2
    exact rg5BC Q hQ w2 q x0 x1 x2 HS HEnd b Tb mB FB mC FC
  · obtain ⟨b, hb⟩ : ∃ v, W.alloc (.cells #[.int .u8 2, .string ⟨#[105, 110, 116]⟩, .int .i64 0, .slice none 0 0] 24) = v := ⟨_, rfl⟩
    have bb : Below W.heap.size W b := by rw [← hb]; exact (Below.refl _ _).alloc (Nat.le_refl _) _
    have BB : Blk b W.heap.size 24 #[.int .u8 2, .string ⟨#[105, 110, 116]⟩, .int .i64 0, .slice none 0 0] := by rw [← hb]; exact Blk.new _ _ _
    obtain ⟨mD, hn⟩ : ∃ v, W.heap.size = v := ⟨_, rfl⟩
    rw [hn] at BB
    have H := Lib.hid (And.intro hb (And.intro hn (And.intro bb BB)))
    have Tb : Hid (Below w2.heap.size w2 b) := Lib.hid (T.out.trans (bb.mono T.out.size))
    clear hb hn bb BB
    go_simp
    (try rw [H.out.1])
    (try rw [H.out.2.1])
    refine hK.out _ _ (HS.out _ Tb.out) (fun hHeld => ?_)
    clear hK K
    have FB := Lib.hid (FB.out.below H.out.2.2.1 FB.out.lt)
    have FD := Lib.hid H.out.2.2.2
    refine takeY (oi := { dst := some 35, op := Op.build 24 #[(0, Operand.const (Value.int IntKind.u8 4)), (3, Operand.tmp 34)], type := 24, pos := "law.go:211", after := #[{ on := 17, ground := Ground.data }], guard := none }) 18 (some 35) rfl rfl (by kernel_rfl) (by kernel_rfl) (by kernel_rfl) (fun _ _ _ h => hQ _ _ _ _ _ h) (by rfl) (v := _) (by (intro _ hSw; (try dsimp only at hSw); go_simp; try with_reducible rfl)) hHeld ?_
    simp only [Act.put, List.setIfInBounds_toArray, List.set_cons_zero, List.set_cons_succ]
    exact rg5BD Q hQ w2 q x0 x1 x2 HS HEnd b Tb mB FB mD FD
set_option maxRecDepth 100000 in
set_option maxHeartbeats 4000000 in
theorem rg1ABCD (Q : Exit → Act → World → Prop) (hQ : ∀ c d v (a : Act) (w : World), Q (.panic c) (a.put d v) w → Q (.panic c) a w) (w2 : World) (q : Nat) (x0 x1 x2 : Value) (HS : Hid (∀ W, Below w2.heap.size w2 W → (fun W : World => W.cell? ⟨q, 0, none⟩ = some (.int .u8 2) ∧ W.cell? ⟨q, 1, none⟩ = some (.string ⟨#[105, 110, 116]⟩) ∧ W.cell? ⟨q, 2, none⟩ = some (.int .i64 0) ∧ W.cell? ⟨q, 3, none⟩ = some (.slice none 0 0)) W)) (HEnd : Hid (RgEnd Q w2 q x0 x1 x2)) (W : World) (T : Hid (Below w2.heap.size w2 W)) (mA : Nat) (FA : Hid (Blk W mA 24 #[.int .u8 2, .string ⟨#[105, 110, 116]⟩, .int .i64 0, .slice none 0 0, .int .u8 2, .string ⟨#[105, 110, 116]⟩, .int .i64 0, .slice none 0 0])) (mB : Nat) (FB : Hid (Blk W mB 24 #[.int .u8 2, .string ⟨#[105, 110, 116]⟩, .int .i64 0, .slice none 0 0])) (mC : Nat) (FC : Hid (Blk W mC 24 #[.int .u8 2, .string ⟨#[105, 110, 116]⟩, .int .i64 0, .slice none 0 0, .int .u8 2, .string ⟨#[105, 110, 116]⟩, .int .i64 0, .slice none 0 0])) (mD : Nat) (FD : Hid (Blk W mD 24 #[.int .u8 2, .string ⟨#[105, 110, 116]⟩, .int .i64 0, .slice none 0 0])) : wpAnyH Tryd.prog .any rops Q (fun W : World => W.cell? ⟨q, 0, none⟩ = some (.int .u8 2) ∧ W.cell? ⟨q, 1, none⟩ = some (.string ⟨#[105, 110, 116]⟩) ∧ W.cell? ⟨q, 2, none⟩ = some (.int .i64 0) ∧ W.cell? ⟨q, 3, none⟩ = some (.slice none 0 0)) 7 #[true, true, true, true, true, true, false, true, true, false, false, false, true, true, true, false, true, true, true, true, false, false] { tmps := #[x0, x1, x2, undef, undef, undef, .bool false, .pointer (some ⟨q, 0, none⟩), undef, undef, undef, undef, undef, undef, undef, undef, .agg #[.int .u8 2, .string ⟨#[105, 110, 116]⟩, .int .i64 0, .slice none 0 0], .agg #[.int .u8 2, .string ⟨#[105, 110, 116]⟩, .int .i64 0, .slice none 0 0], .agg #[.int .u8 2, .string ⟨#[105, 110, 116]⟩, .int .i64 0, .slice none 0 0], .slice (some ⟨mA, 0, none⟩) 2 2, .agg #[.int .u8 3, .string ⟨#[]⟩, .int .i64 0, .slice (some ⟨mA, 0, none⟩) 2 2], .agg #[.int .u8 1, .string ⟨#[39, 98]⟩, .int .i64 0, .slice none 0 0], .agg #[.int .u8 2, .string ⟨#[101, 120, 110]⟩, .int .i64 0, .slice none 0 0], undef, .agg #[.int .u8 2, .string ⟨#[105, 110, 116]⟩, .int .i64 0, .slice none 0 0], .slice (some ⟨mB, 0, none⟩) 1 1, undef, undef, undef, .agg #[.int .u8 2, .string ⟨#[105, 110, 116]⟩, .int .i64 0, .slice none 0 0], .agg #[.int .u8 2, .string ⟨#[105, 110, 116]⟩, .int .i64 0, .slice none 0 0], .slice (some ⟨mC, 0, none⟩) 2 2, undef, .agg #[.int .u8 2, .string ⟨#[105, 110, 116]⟩, .int .i64 0, .slice none 0 0], .slice (some ⟨mD, 0, none⟩) 1 1, .agg #[.int .u8 4, .string ⟨#[]⟩, .int .i64 0, .slice (some ⟨mD, 0, none⟩) 1 1], .agg #[.int .u8 0, .string ⟨#[]⟩, .int .i64 0, .slice none 0 0], undef, undef, undef, undef, undef, undef, undef, undef, undef, undef, undef, undef, undef, undef, undef, undef, undef, undef, undef, undef, undef, undef, undef, undef, undef, undef, undef, undef, undef, undef, undef, undef, undef, undef, undef, undef, undef, undef, undef, undef, undef, undef, undef, undef, undef, undef, undef, undef, undef, undef, undef, undef, undef, undef, undef, undef, undef, undef, undef, undef, undef, undef, undef, undef, undef, undef, undef, undef, undef, undef, undef, undef], defers := [] } W := by
  have hHeld := HS.out W T.out
  refine wpAnyH_ready (rs := [6]) (by kernel_rfl) (by simp) ?_
  refine AllReadyH.cons (o := { dst := some 23, op := Op.call { callee := Callee.value (Operand.func 10), args := #[Operand.const (Value.string { data := #[110, 111, 98, 111, 100, 121] }), Operand.const (Value.slice none 0 0)], argTypes := #[9, 22] }, type := 24, pos := "law.go:211", after := #[{ on := 5, ground := Ground.chain }], guard := none }) rfl (fun K hK => ?_) AllReadyH.nil
  · have HT := Lib.hid (named_any ⟨#[110, 111, 98, 111, 100, 121]⟩ none 0 0 W)
    clear hHeld
    go_simp
    go_wp2_with (go_at_call 10; refine Calls.mono HT.out ?_; rintro e b ⟨rfl, bb⟩; have Hb := Lib.hid bb; have Tb : Hid (Below w2.heap.size w2 b) := Lib.hid (T.out.trans (bb.mono T.out.size)))
    refine hK.out _ _ (HS.out _ Tb.out) (fun hHeld => ?_)
    clear hK K HT
    have FA := Lib.hid (FA.out.below Hb.out FA.out.lt)
    have FB := Lib.hid (FB.out.below Hb.out FB.out.lt)
    have FC := Lib.hid (FC.out.below Hb.out FC.out.lt)
    have FD := Lib.hid (FD.out.below Hb.out FD.out.lt)
    exact rg2ABCD Q hQ w2 q x0 x1 x2 HS HEnd b Tb mA FA mB FB mC FC mD FD
set_option maxRecDepth 100000 in
set_option maxHeartbeats 4000000 in
theorem rg2ABC (Q : Exit → Act → World → Prop) (hQ : ∀ c d v (a : Act) (w : World), Q (.panic c) (a.put d v) w → Q (.panic c) a w) (w2 : World) (q : Nat) (x0 x1 x2 : Value) (HS : Hid (∀ W, Below w2.heap.size w2 W → (fun W : World => W.cell? ⟨q, 0, none⟩ = some (.int .u8 2) ∧ W.cell? ⟨q, 1, none⟩ = some (.string ⟨#[105, 110, 116]⟩) ∧ W.cell? ⟨q, 2, none⟩ = some (.int .i64 0) ∧ W.cell? ⟨q, 3, none⟩ = some (.slice none 0 0)) W)) (HEnd : Hid (RgEnd Q w2 q x0 x1 x2)) (W : World) (T : Hid (Below w2.heap.size w2 W)) (mA : Nat) (FA : Hid (Blk W mA 24 #[.int .u8 2, .string ⟨#[105, 110, 116]⟩, .int .i64 0, .slice none 0 0, .int .u8 2, .string ⟨#[105, 110, 116]⟩, .int .i64 0, .slice none 0 0])) (mB : Nat) (FB : Hid (Blk W mB 24 #[.int .u8 2, .string ⟨#[105, 110, 116]⟩, .int .i64 0, .slice none 0 0])) (mC : Nat) (FC : Hid (Blk W mC 24 #[.int .u8 2, .string ⟨#[105, 110, 116]⟩, .int .i64 0, .slice none 0 0, .int .u8 2, .string ⟨#[105, 110, 116]⟩, .int .i64 0, .slice none 0 0])) : wpAnyH Tryd.prog .any rops Q (fun W : World => W.cell? ⟨q, 0, none⟩ = some (.int .u8 2) ∧ W.cell? ⟨q, 1, none⟩ = some (.string ⟨#[105, 110, 116]⟩) ∧ W.cell? ⟨q, 2, none⟩ = some (.int .i64 0) ∧ W.cell? ⟨q, 3, none⟩ = some (.slice none 0 0)) 8 #[true, true, true, true, true, true, true, true, true, false, false, false, true, true, true, false, true, false, false, true, false, false] { tmps := #[x0, x1, x2, undef, undef, undef, .bool false, .pointer (some ⟨q, 0, none⟩), undef, undef, undef, undef, undef, undef, undef, undef, .agg #[.int .u8 2, .string ⟨#[105, 110, 116]⟩, .int .i64 0, .slice none 0 0], .agg #[.int .u8 2, .string ⟨#[105, 110, 116]⟩, .int .i64 0, .slice none 0 0], .agg #[.int .u8 2, .string ⟨#[105, 110, 116]⟩, .int .i64 0, .slice none 0 0], .slice (some ⟨mA, 0, none⟩) 2 2, .agg #[.int .u8 3, .string ⟨#[]⟩, .int .i64 0, .slice (some ⟨mA, 0, none⟩) 2 2], .agg #[.int .u8 1, .string ⟨#[39, 98]⟩, .int .i64 0, .slice none 0 0], .agg #[.int .u8 2, .string ⟨#[101, 120, 110]⟩, .int .i64 0, .slice none 0 0], .agg #[.int .u8 2, .string ⟨#[110, 111, 98, 111, 100, 121]⟩, .int .i64 0, .slice none 0 0], .agg #[.int .u8 2, .string ⟨#[105, 110, 116]⟩, .int .i64 0, .slice none 0 0], .slice (some ⟨mB, 0, none⟩) 1 1, undef, undef, undef, .agg #[.int .u8 2, .string ⟨#[105, 110, 116]⟩, .int .i64 0, .slice none 0 0], .agg #[.int .u8 2, .string ⟨#[105, 110, 116]⟩, .int .i64 0, .slice none 0 0], .slice (some ⟨mC, 0, none⟩) 2 2, undef, .agg #[.int .u8 2, .string ⟨#[105, 110, 116]⟩, .int .i64 0, .slice none 0 0], undef, undef, .agg #[.int .u8 0, .string ⟨#[]⟩, .int .i64 0, .slice none 0 0], undef, undef, undef, undef, undef, undef, undef, undef, undef, undef, undef, undef, undef, undef, undef, undef, undef, undef, undef, undef, undef, undef, undef, undef, undef, undef, undef, undef, undef, undef, undef, undef, undef, undef, undef, undef, undef, undef, undef, undef, undef, undef, undef, undef, undef, undef, undef, undef, undef, undef, undef, undef, undef, undef, undef, undef, undef, undef, undef, undef, undef, undef, undef, undef, undef, undef, undef, undef, undef, undef, undef, undef], defers := [] } W := by
  have hHeld := HS.out W T.out
  refine wpAnyH_ready (rs := [9, 17]) (by kernel_rfl) (by simp) ?_
  refine AllReadyH.cons (o := { dst := some 26, op := Op.call { callee := Callee.value (Operand.func 10), args := #[Operand.const (Value.string { data := #[105, 110, 116] }), Operand.tmp 25], argTypes := #[9, 22] }, type := 24, pos := "law.go:211", after := #[{ on := 8, ground := Ground.data }, { on := 6, ground := Ground.chain }], guard := none }) rfl (fun K hK => ?_) (AllReadyH.cons (o := { dst := some 34, op := Op.buildSlice 22 1 #[(0, Operand.tmp 33)], type := 22, pos := "law.go:211", after := #[{ on := 16, ground := Ground.data }], guard := none }) rfl (fun K hK => ?_) AllReadyH.nil)
  · have HT := Lib.hid (named_any ⟨#[105, 110, 116]⟩ (some ⟨mB, 0, none⟩) 1 1 W)
    clear hHeld
    go_simp
    go_wp2_with (go_at_call 10; refine Calls.mono HT.out ?_; rintro e b ⟨rfl, bb⟩; have Hb := Lib.hid bb; have Tb : Hid (Below w2.heap.size w2 b) := Lib.hid (T.out.trans (bb.mono T.out.size)))
    refine hK.out _ _ (HS.out _ Tb.out) (fun hHeld => ?_)
    clear hK K HT
    have FA := Lib.hid (FA.out.below Hb.out FA.out.lt)
    have FB := Lib.hid (FB.out.below Hb.out FB.out.lt)
    have FC := Lib.hid (FC.out.below Hb.out FC.out.lt)
    exact rg3ABC Q hQ w2 q x0 x1 x2 HS HEnd b Tb mA FA mB FB mC FC
  · obtain ⟨b, hb⟩ : ∃ v, W.alloc (.cells #[.int .u8 2, .string ⟨#[105, 110, 116]⟩, .int .i64 0, .slice none 0 0] 24) = v := ⟨_, rfl⟩
    have bb : Below W.heap.size W b := by rw [← hb]; exact (Below.refl _ _).alloc (Nat.le_refl _) _
    have BB : Blk b W.heap.size 24 #[.int .u8 2, .string ⟨#[105, 110, 116]⟩, .int .i64 0, .slice none 0 0] := by rw [← hb]; exact Blk.new _ _ _
    obtain ⟨mD, hn⟩ : ∃ v, W.heap.size = v := ⟨_, rfl⟩
    rw [hn] at BB
    have H := Lib.hid (And.intro hb (And.intro hn (And.intro bb BB)))
    have Tb : Hid (Below w2.heap.size w2 b) := Lib.hid (T.out.trans (bb.mono T.out.size))
    clear hb hn bb BB
    go_simp
    (try rw [H.out.1])
    (try rw [H.out.2.1])
    refine hK.out _ _ (HS.out _ Tb.out) (fun hHeld => ?_)
    clear hK K
    have FA := Lib.hid (FA.out.below H.out.2.2.1 FA.out.lt)
    have FB := Lib.hid (FB.out.below H.out.2.2.1 FB.out.lt)
    have FC := Lib.hid (FC.out.below H.out.2.2.1 FC.out.lt)
    have FD := Lib.hid H.out.2.2.2
    refine takeY (oi := { dst := some 35, op := Op.build 24 #[(0, Operand.const (Value.int IntKind.u8 4)), (3, Operand.tmp 34)], type := 24, pos := "law.go:211", after := #[{ on := 17, ground := Ground.data }], guard := none }) 18 (some 35) rfl rfl (by kernel_rfl) (by kernel_rfl) (by kernel_rfl) (fun _ _ _ h => hQ _ _ _ _ _ h) (by rfl) (v := _) (by (intro _ hSw; (try dsimp only at hSw); go_simp; try with_reducible rfl)) hHeld ?_
    simp only [Act.put, List.setIfInBounds_toArray, List.set_cons_zero, List.set_cons_succ]
    exact rg2ABCD Q hQ w2 q x0 x1 x2 HS HEnd b Tb mA FA mB FB mC FC mD FD
set_option maxRecDepth 100000 in
set_option maxHeartbeats 4000000 in
theorem rg2ABD (Q : Exit → Act → World → Prop) (hQ : ∀ c d v (a : Act) (w : World), Q (.panic c) (a.put d v) w → Q (.panic c) a w) (w2 : World) (q : Nat) (x0 x1 x2 : Value) (HS : Hid (∀ W, Below w2.heap.size w2 W → (fun W : World => W.cell? ⟨q, 0, none⟩ = some (.int .u8 2) ∧ W.cell? ⟨q, 1, none⟩ = some (.string ⟨#[105, 110, 116]⟩) ∧ W.cell? ⟨q, 2, none⟩ = some (.int .i64 0) ∧ W.cell? ⟨q, 3, none⟩ = some (.slice none 0 0)) W)) (HEnd : Hid (RgEnd Q w2 q x0 x1 x2)) (W : World) (T : Hid (Below w2.heap.size w2 W)) (mA : Nat) (FA : Hid (Blk W mA 24 #[.int .u8 2, .string ⟨#[105, 110, 116]⟩, .int .i64 0, .slice none 0 0, .int .u8 2, .string ⟨#[105, 110, 116]⟩, .int .i64 0, .slice none 0 0])) (mB : Nat) (FB : Hid (Blk W mB 24 #[.int .u8 2, .string ⟨#[105, 110, 116]⟩, .int .i64 0, .slice none 0 0])) (mD : Nat) (FD : Hid (Blk W mD 24 #[.int .u8 2, .string ⟨#[105, 110, 116]⟩, .int .i64 0, .slice none 0 0])) : wpAnyH Tryd.prog .any rops Q (fun W : World => W.cell? ⟨q, 0, none⟩ = some (.int .u8 2) ∧ W.cell? ⟨q, 1, none⟩ = some (.string ⟨#[105, 110, 116]⟩) ∧ W.cell? ⟨q, 2, none⟩ = some (.int .i64 0) ∧ W.cell? ⟨q, 3, none⟩ = some (.slice none 0 0)) 7 #[true, true, true, true, true, true, true, true, true, false, false, false, true, true, false, false, true, true, true, true, false, false] { tmps := #[x0, x1, x2, undef, undef, undef, .bool false, .pointer (some ⟨q, 0, none⟩), undef, undef, undef, undef, undef, undef, undef, undef, .agg #[.int .u8 2, .string ⟨#[105, 110, 116]⟩, .int .i64 0, .slice none 0 0], .agg #[.int .u8 2, .string ⟨#[105, 110, 116]⟩, .int .i64 0, .slice none 0 0], .agg #[.int .u8 2, .string ⟨#[105, 110, 116]⟩, .int .i64 0, .slice none 0 0], .slice (some ⟨mA, 0, none⟩) 2 2, .agg #[.int .u8 3, .string ⟨#[]⟩, .int .i64 0, .slice (some ⟨mA, 0, none⟩) 2 2], .agg #[.int .u8 1, .string ⟨#[39, 98]⟩, .int .i64 0, .slice none 0 0], .agg #[.int .u8 2, .string ⟨#[101, 120, 110]⟩, .int .i64 0, .slice none 0 0], .agg #[.int .u8 2, .string ⟨#[110, 111, 98, 111, 100, 121]⟩, .int .i64 0, .slice none 0 0], .agg #[.int .u8 2, .string ⟨#[105, 110, 116]⟩, .int .i64 0, .slice none 0 0], .slice (some ⟨mB, 0, none⟩) 1 1, undef, undef, undef, .agg #[.int .u8 2, .string ⟨#[105, 110, 116]⟩, .int .i64 0, .slice none 0 0], .agg #[.int .u8 2, .string ⟨#[105, 110, 116]⟩, .int .i64 0, .slice none 0 0], undef, undef, .agg #[.int .u8 2, .string ⟨#[105, 110, 116]⟩, .int .i64 0, .slice none 0 0], .slice (some ⟨mD, 0, none⟩) 1 1, .agg #[.int .u8 4, .string ⟨#[]⟩, .int .i64 0, .slice (some ⟨mD, 0, none⟩) 1 1], .agg #[.int .u8 0, .string ⟨#[]⟩, .int .i64 0, .slice none 0 0], undef, undef, undef, undef, undef, undef, undef, undef, undef, undef, undef, undef, undef, undef, undef, undef, undef, undef, undef, undef, undef, undef, undef, undef, undef, undef, undef, undef, undef, undef, undef, undef, undef, undef, undef, undef, undef, undef, undef, undef, undef, undef, undef, undef, undef, undef, undef, undef, undef, undef, undef, undef, undef, undef, undef, undef, undef, undef, undef, undef, undef, undef, undef, undef, undef, undef, undef, undef, undef, undef, undef, undef], defers := [] } W := by
  have hHeld := HS.out W T.out
  refine wpAnyH_ready (rs := [9, 14]) (by kernel_rfl) (by simp) ?_
  refine AllReadyH.cons (o := { dst := some 26, op := Op.call { callee := Callee.value (Operand.func 10), args := #[Operand.const (Value.string { data := #[105, 110, 116] }), Operand.tmp 25], argTypes := #[9, 22] }, type := 24, pos := "law.go:211", after := #[{ on := 8, ground := Ground.data }, { on := 6, ground := Ground.chain }], guard := none }) rfl (fun K hK => ?_) (AllReadyH.cons (o := { dst := some 31, op := Op.buildSlice 22 2 #[(0, Operand.tmp 29), (1, Operand.tmp 30)], type := 22, pos := "law.go:211", after := #[{ on := 12, ground := Ground.data }, { on := 13, ground := Ground.data }], guard := none }) rfl (fun K hK => ?_) AllReadyH.nil)
  · have HT := Lib.hid (named_any ⟨#[105, 110, 116]⟩ (some ⟨mB, 0, none⟩) 1 1 W)
    clear hHeld
    go_simp
    go_wp2_with (go_at_call 10; refine Calls.mono HT.out ?_; rintro e b ⟨rfl, bb⟩; have Hb := Lib.hid bb; have Tb : Hid (Below w2.heap.size w2 b) := Lib.hid (T.out.trans (bb.mono T.out.size)))
    refine hK.out _ _ (HS.out _ Tb.out) (fun hHeld => ?_)
    clear hK K HT
    have FA := Lib.hid (FA.out.below Hb.out FA.out.lt)
    have FB := Lib.hid (FB.out.below Hb.out FB.out.lt)
    have FD := Lib.hid (FD.out.below Hb.out FD.out.lt)
    exact rg3ABD Q hQ w2 q x0 x1 x2 HS HEnd b Tb mA FA mB FB mD FD
  · obtain ⟨b, hb⟩ : ∃ v, W.alloc (.cells #[.int .u8 2, .string ⟨#[105, 110, 116]⟩, .int .i64 0, .slice none 0 0, .int .u8 2, .string ⟨#[105, 110, 116]⟩, .int .i64 0, .slice none 0 0] 24) = v := ⟨_, rfl⟩
    have bb : Below W.heap.size W b := by rw [← hb]; exact (Below.refl _ _).alloc (Nat.le_refl _) _
    have BB : Blk b W.heap.size 24 #[.int .u8 2, .string ⟨#[105, 110, 116]⟩, .int .i64 0, .slice none 0 0, .int .u8 2, .string ⟨#[105, 110, 116]⟩, .int .i64 0, .slice none 0 0] := by rw [← hb]; exact Blk.new _ _ _
    obtain ⟨mC, hn⟩ : ∃ v, W.heap.size = v := ⟨_, rfl⟩
    rw [hn] at BB
    have H := Lib.hid (And.intro hb (And.intro hn (And.intro bb BB)))
    have Tb : Hid (Below w2.heap.size w2 b) := Lib.hid (T.out.trans (bb.mono T.out.size))
    clear hb hn bb BB
    go_simp
    (try rw [H.out.1])
    (try rw [H.out.2.1])
    refine hK.out _ _ (HS.out _ Tb.out) (fun hHeld => ?_)
    clear hK K
    have FA := Lib.hid (FA.out.below H.out.2.2.1 FA.out.lt)
    have FB := Lib.hid (FB.out.below H.out.2.2.1 FB.out.lt)
    have FD := Lib.hid (FD.out.below H.out.2.2.1 FD.out.lt)
    have FC := Lib.hid H.out.2.2.2
    exact rg2ABCD Q hQ w2 q x0 x1 x2 HS HEnd b Tb mA FA mB FB mC FC mD FD
set_option maxRecDepth 100000 in
set_option maxHeartbeats 4000000 in
theorem rg2ACD (Q : Exit → Act → World → Prop) (hQ : ∀ c d v (a : Act) (w : World), Q (.panic c) (a.put d v) w → Q (.panic c) a w) (w2 : World) (q : Nat) (x0 x1 x2 : Value) (HS : Hid (∀ W, Below w2.heap.size w2 W → (fun W : World => W.cell? ⟨q, 0, none⟩ = some (.int .u8 2) ∧ W.cell? ⟨q, 1, none⟩ = some (.string ⟨#[105, 110, 116]⟩) ∧ W.cell? ⟨q, 2, none⟩ = some (.int .i64 0) ∧ W.cell? ⟨q, 3, none⟩ = some (.slice none 0 0)) W)) (HEnd : Hid (RgEnd Q w2 q x0 x1 x2)) (W : World) (T : Hid (Below w2.heap.size w2 W)) (mA : Nat) (FA : Hid (Blk W mA 24 #[.int .u8 2, .string ⟨#[105, 110, 116]⟩, .int .i64 0, .slice none 0 0, .int .u8 2, .string ⟨#[105, 110, 116]⟩, .int .i64 0, .slice none 0 0])) (mC : Nat) (FC : Hid (Blk W mC 24 #[.int .u8 2, .string ⟨#[105, 110, 116]⟩, .int .i64 0, .slice none 0 0, .int .u8 2, .string ⟨#[105, 110, 116]⟩, .int .i64 0, .slice none 0 0])) (mD : Nat) (FD : Hid (Blk W mD 24 #[.int .u8 2, .string ⟨#[105, 110, 116]⟩, .int .i64 0, .slice none 0 0])) : wpAnyH Tryd.prog .any rops Q (fun W : World => W.cell? ⟨q, 0, none⟩ = some (.int .u8 2) ∧ W.cell? ⟨q, 1, none⟩ = some (.string ⟨#[105, 110, 116]⟩) ∧ W.cell? ⟨q, 2, none⟩ = some (.int .i64 0) ∧ W.cell? ⟨q, 3, none⟩ = some (.slice none 0 0)) 7 #[true, true, true, true, true, true, true, true, false, false, false, false, true, true, true, false, true, true, true, true, false, false] { tmps := #[x0, x1, x2, undef, undef, undef, .bool false, .pointer (some ⟨q, 0, none⟩), undef, undef, undef, undef, undef, undef, undef, undef, .agg #[.int .u8 2, .string ⟨#[105, 110, 116]⟩, .int .i64 0, .slice none 0 0], .agg #[.int .u8 2, .string ⟨#[105, 110, 116]⟩, .int .i64 0, .slice none 0 0], .agg #[.int .u8 2, .string ⟨#[105, 110, 116]⟩, .int .i64 0, .slice none 0 0], .slice (some ⟨mA, 0, none⟩) 2 2, .agg #[.int .u8 3, .string ⟨#[]⟩, .int .i64 0, .slice (some ⟨mA, 0, none⟩) 2 2], .agg #[.int .u8 1, .string ⟨#[39, 98]⟩, .int .i64 0, .slice none 0 0], .agg #[.int .u8 2, .string ⟨#[101, 120, 110]⟩, .int .i64 0, .slice none 0 0], .agg #[.int .u8 2, .string ⟨#[110, 111, 98, 111, 100, 121]⟩, .int .i64 0, .slice none 0 0], .agg #[.int .u8 2, .string ⟨#[105, 110, 116]⟩, .int .i64 0, .slice none 0 0], undef, undef, undef, undef, .agg #[.int .u8 2, .string ⟨#[105, 110, 116]⟩, .int .i64 0, .slice none 0 0], .agg #[.int .u8 2, .string ⟨#[105, 110, 116]⟩, .int .i64 0, .slice none 0 0], .slice (some ⟨mC, 0, none⟩) 2 2, undef, .agg #[.int .u8 2, .string ⟨#[105, 110, 116]⟩, .int .i64 0, .slice none 0 0], .slice (some ⟨mD, 0, none⟩) 1 1, .agg #[.int .u8 4, .string ⟨#[]⟩, .int .i64 0, .slice (some ⟨mD, 0, none⟩) 1 1], .agg #[.int .u8 0, .string ⟨#[]⟩, .int .i64 0, .slice none 0 0], undef, undef, undef, undef, undef, undef, undef, undef, undef, undef, undef, undef, undef, undef, undef, undef, undef, undef, undef, undef, undef, undef, undef, undef, undef, undef, undef, undef, undef, undef, undef, undef, undef, undef, undef, undef, undef, undef, undef, undef, undef, undef, undef, undef, undef, undef, undef, undef, undef, undef, undef, undef, undef, undef, undef, undef, undef, undef, undef, undef, undef, undef, undef, undef, undef, undef, undef, undef, undef, undef, undef, undef], defers := [] } W := by
  have hHeld := HS.out W T.out
  refine wpAnyH_ready (rs := [8]) (by kernel_rfl) (by simp) ?_
  refine AllReadyH.cons (o := { dst := some 25, op := Op.buildSlice 22 1 #[(0, Operand.tmp 24)], type := 22, pos := "law.go:211", after := #[{ on := 7, ground := Ground.data }], guard := none }) rfl (fun K hK => ?_) AllReadyH.nil
  · obtain ⟨b, hb⟩ : ∃ v, W.alloc (.cells #[.int .u8 2, .string ⟨#[105, 110, 116]⟩, .int .i64 0, .slice none 0 0] 24) = v := ⟨_, rfl⟩
    have bb : Below W.heap.size W b := by rw [← hb]; exact (Below.refl _ _).alloc (Nat.le_refl _) _
    have BB : Blk b W.heap.size 24 #[.int .u8 2, .string ⟨#[105, 110, 116]⟩, .int .i64 0, .slice none 0 0] := by rw [← hb]; exact Blk.new _ _ _
    obtain ⟨mB, hn⟩ : ∃ v, W.heap.size = v := ⟨_, rfl⟩
    rw [hn] at BB
    have H := Lib.hid (And.intro hb (And.intro hn (And.intro bb BB)))
    have Tb : Hid (Below w2.heap.size w2 b) := Lib.hid (T.out.trans (bb.mono T.out.size))
    clear hb hn bb BB
    go_simp
    (try rw [H.out.1])
    (try rw [H.out.2.1])
    refine hK.out _ _ (HS.out _ Tb.out) (fun hHeld => ?_)
    clear hK K
    have FA := Lib.hid (FA.out.below H.out.2.2.1 FA.out.lt)
    have FC := Lib.hid (FC.out.below H.out.2.2.1 FC.out.lt)
    have FD := Lib.hid (FD.out.below H.out.2.2.1 FD.out.lt)
    have FB := Lib.hid H.out.2.2.2
    exact rg2ABCD Q hQ w2 q x0 x1 x2 HS HEnd b Tb mA FA mB FB mC FC mD FD
set_option maxRecDepth 100000 in
set_option maxHeartbeats 4000000 in
theorem rg2BCD (Q : Exit → Act → World → Prop) (hQ : ∀ c d v (a : Act) (w : World), Q (.panic c) (a.put d v) w → Q (.panic c) a w) (w2 : World) (q : Nat) (x0 x1 x2 : Value) (HS : Hid (∀ W, Below w2.heap.size w2 W → (fun W : World => W.cell? ⟨q, 0, none⟩ = some (.int .u8 2) ∧ W.cell? ⟨q, 1, none⟩ = some (.string ⟨#[105, 110, 116]⟩) ∧ W.cell? ⟨q, 2, none⟩ = some (.int .i64 0) ∧ W.cell? ⟨q, 3, none⟩ = some (.slice none 0 0)) W)) (HEnd : Hid (RgEnd Q w2 q x0 x1 x2)) (W : World) (T : Hid (Below w2.heap.size w2 W)) (mB : Nat) (FB : Hid (Blk W mB 24 #[.int .u8 2, .string ⟨#[105, 110, 116]⟩, .int .i64 0, .slice none 0 0])) (mC : Nat) (FC : Hid (Blk W mC 24 #[.int .u8 2, .string ⟨#[105, 110, 116]⟩, .int .i64 0, .slice none 0 0, .int .u8 2, .string ⟨#[105, 110, 116]⟩, .int .i64 0, .slice none 0 0])) (mD : Nat) (FD : Hid (Blk W mD 24 #[.int .u8 2, .string ⟨#[105, 110, 116]⟩, .int .i64 0, .slice none 0 0])) : wpAnyH Tryd.prog .any rops Q (fun W : World => W.cell? ⟨q, 0, none⟩ = some (.int .u8 2) ∧ W.cell? ⟨q, 1, none⟩ = some (.string ⟨#[105, 110, 116]⟩) ∧ W.cell? ⟨q, 2, none⟩ = some (.int .i64 0) ∧ W.cell? ⟨q, 3, none⟩ = some (.slice none 0 0)) 8 #[true, true, false, false, true, true, true, true, true, false, false, false, true, true, true, false, true, true, true, true, false, false] { tmps := #[x0, x1, x2, undef, undef, undef, .bool false, .pointer (some ⟨q, 0, none⟩), undef, undef, undef, undef, undef, undef, undef, undef, .agg #[.int .u8 2, .string ⟨#[105, 110, 116]⟩, .int .i64 0, .slice none 0 0], .agg #[.int .u8 2, .string ⟨#[105, 110, 116]⟩, .int .i64 0, .slice none 0 0], .agg #[.int .u8 2, .string ⟨#[105, 110, 116]⟩, .int .i64 0, .slice none 0 0], undef, undef, .agg #[.int .u8 1, .string ⟨#[39, 98]⟩, .int .i64 0, .slice none 0 0], .agg #[.int .u8 2, .string ⟨#[101, 120, 110]⟩, .int .i64 0, .slice none 0 0], .agg #[.int .u8 2, .string ⟨#[110, 111, 98, 111, 100, 121]⟩, .int .i64 0, .slice none 0 0], .agg #[.int .u8 2, .string ⟨#[105, 110, 116]⟩, .int .i64 0, .slice none 0 0], .slice (some ⟨mB, 0, none⟩) 1 1, undef, undef, undef, .agg #[.int .u8 2, .string ⟨#[105, 110, 116]⟩, .int .i64 0, .slice none 0 0], .agg #[.int .u8 2, .string ⟨#[105, 110, 116]⟩, .int .i64 0, .slice none 0 0], .slice (some ⟨mC, 0, none⟩) 2 2, undef, .agg #[.int .u8 2, .string ⟨#[105, 110, 116]⟩, .int .i64 0, .slice none 0 0], .slice (some ⟨mD, 0, none⟩) 1 1, .agg #[.int .u8 4, .string ⟨#[]⟩, .int .i64 0, .slice (some ⟨mD, 0, none⟩) 1 1], .agg #[.int .u8 0, .string ⟨#[]⟩, .int .i64 0, .slice none 0 0], undef, undef, undef, undef, undef, undef, undef, undef, undef, undef, undef, undef, undef, undef, undef, undef, undef, undef, undef, undef, undef, undef, undef, undef, undef, undef, undef, undef, undef, undef, undef, undef, undef, undef, undef, undef, undef, undef, undef, undef, undef, undef, undef, undef, undef, undef, undef, undef, undef, undef, undef, undef, undef, undef, undef, undef, undef, undef, undef, undef, undef, undef, undef, undef, undef, undef, undef, undef, undef, undef, undef, undef], defers := [] } W := by
  have hHeld := HS.out W T.out
  refine wpAnyH_ready (rs := [2, 9]) (by kernel_rfl) (by simp) ?_
  refine AllReadyH.cons (o := { dst := some 19, op := Op.buildSlice 22 2 #[(0, Operand.tmp 17), (1, Operand.tmp 18)], type := 22, pos := "law.go:211", after := #[{ on := 0, ground := Ground.data }, { on := 1, ground := Ground.data }], guard := none }) rfl (fun K hK => ?_) (AllReadyH.cons (o := { dst := some 26, op := Op.call { callee := Callee.value (Operand.func 10), args := #[Operand.const (Value.string { data := #[105, 110, 116] }), Operand.tmp 25], argTypes := #[9, 22] }, type := 24, pos := "law.go:211", after := #[{ on := 8, ground := Ground.data }, { on := 6, ground := Ground.chain }], guard := none }) rfl (fun K hK => ?_) AllReadyH.nil)
  · obtain ⟨b, hb⟩ : ∃ v, W.alloc (.cells #[.int .u8 2, .string ⟨#[105, 110, 116]⟩, .int .i64 0, .slice none 0 0, .int .u8 2, .string ⟨#[105, 110, 116]⟩, .int .i64 0, .slice none 0 0] 24) = v := ⟨_, rfl⟩
    have bb : Below W.heap.size W b := by rw [← hb]; exact (Below.refl _ _).alloc (Nat.le_refl _) _
    have BB : Blk b W.heap.size 24 #[.int .u8 2, .string ⟨#[105, 110, 116]⟩, .int .i64 0, .slice none 0 0, .int .u8 2, .string ⟨#[105, 110, 116]⟩, .int .i64 0, .slice none 0 0] := by rw [← hb]; exact Blk.new _ _ _
    obtain ⟨mA, hn⟩ : ∃ v, W.heap.size = v := ⟨_, rfl⟩
    rw [hn] at BB
    have H := Lib.hid (And.intro hb (And.intro hn (And.intro bb BB)))
    have Tb : Hid (Below w2.heap.size w2 b) := Lib.hid (T.out.trans (bb.mono T.out.size))
    clear hb hn bb BB
    go_simp
    (try rw [H.out.1])
    (try rw [H.out.2.1])
    refine hK.out _ _ (HS.out _ Tb.out) (fun hHeld => ?_)
    clear hK K
    have FB := Lib.hid (FB.out.below H.out.2.2.1 FB.out.lt)
    have FC := Lib.hid (FC.out.below H.out.2.2.1 FC.out.lt)
    have FD := Lib.hid (FD.out.below H.out.2.2.1 FD.out.lt)
    have FA := Lib.hid H.out.2.2.2
    refine takeY (oi := { dst := some 20, op := Op.build 24 #[(0, Operand.const (Value.int IntKind.u8 3)), (3, Operand.tmp 19)], type := 24, pos := "law.go:211", after := #[{ on := 2, ground := Ground.data }], guard := none }) 3 (some 20) rfl rfl (by kernel_rfl) (by kernel_rfl) (by kernel_rfl) (fun _ _ _ h => hQ _ _ _ _ _ h) (by rfl) (v := _) (by (intro _ hSw; (try dsimp only at hSw); go_simp; try with_reducible rfl)) hHeld ?_
    simp only [Act.put, List.setIfInBounds_toArray, List.set_cons_zero, List.set_cons_succ]
    exact rg2ABCD Q hQ w2 q x0 x1 x2 HS HEnd b Tb mA FA mB FB mC FC mD FD
  · have HT := Lib.hid (named_any ⟨#[105, 110, 116]⟩ (some ⟨mB, 0, none⟩) 1 1 W)
    clear hHeld
    go_simp
    go_wp2_with (go_at_call 10; refine Calls.mono HT.out ?_; rintro e b ⟨rfl, bb⟩; have Hb := Lib.hid bb; have Tb : Hid (Below w2.heap.size w2 b) := Lib.hid (T.out.trans (bb.mono T.out.size)))
    refine hK.out _ _ (HS.out _ Tb.out) (fun hHeld => ?_)
    clear hK K HT
    have FB := Lib.hid (FB.out.below Hb.out FB.out.lt)
    have FC := Lib.hid (FC.out.below Hb.out FC.out.lt)
    have FD := Lib.hid (FD.out.below Hb.out FD.out.lt)
    exact rg3BCD Q hQ w2 q x0 x1 x2 HS HEnd b Tb mB FB mC FC mD FD
set_option maxRecDepth 100000 in
set_option maxHeartbeats 4000000 in
theorem rg3AB (Q : Exit → Act → World → Prop) (hQ : ∀ c d v (a : Act) (w : World), Q (.panic c) (a.put d v) w → Q (.panic c) a w) (w2 : World) (q : Nat) (x0 x1 x2 : Value) (HS : Hid (∀ W, Below w2.heap.size w2 W → (fun W : World => W.cell? ⟨q, 0, none⟩ = some (.int .u8 2) ∧ W.cell? ⟨q, 1, none⟩ = some (.string ⟨#[105, 110, 116]⟩) ∧ W.cell? ⟨q, 2, none⟩ = some (.int .i64 0) ∧ W.cell? ⟨q, 3, none⟩ = some (.slice none 0 0)) W)) (HEnd : Hid (RgEnd Q w2 q x0 x1 x2)) (W : World) (T : Hid (Below w2.heap.size w2 W)) (mA : Nat) (FA : Hid (Blk W mA 24 #[.int .u8 2, .string ⟨#[105, 110, 116]⟩, .int .i64 0, .slice none 0 0, .int .u8 2, .string ⟨#[105, 110, 116]⟩, .int .i64 0, .slice none 0 0])) (mB : Nat) (FB : Hid (Blk W mB 24 #[.int .u8 2, .string ⟨#[105, 110, 116]⟩, .int .i64 0, .slice none 0 0])) : wpAnyH Tryd.prog .any rops Q (fun W : World => W.cell? ⟨q, 0, none⟩ = some (.int .u8 2) ∧ W.cell? ⟨q, 1, none⟩ = some (.string ⟨#[105, 110, 116]⟩) ∧ W.cell? ⟨q, 2, none⟩ = some (.int .i64 0) ∧ W.cell? ⟨q, 3, none⟩ = some (.slice none 0 0)) 8 #[true, true, true, true, true, true, true, true, true, true, false, false, true, true, false, false, true, false, false, true, false, false] { tmps := #[x0, x1, x2, undef, undef, undef, .bool false, .pointer (some ⟨q, 0, none⟩), undef, undef, undef, undef, undef, undef, undef, undef, .agg #[.int .u8 2, .string ⟨#[105, 110, 116]⟩, .int .i64 0, .slice none 0 0], .agg #[.int .u8 2, .string ⟨#[105, 110, 116]⟩, .int .i64 0, .slice none 0 0], .agg #[.int .u8 2, .string ⟨#[105, 110, 116]⟩, .int .i64 0, .slice none 0 0], .slice (some ⟨mA, 0, none⟩) 2 2, .agg #[.int .u8 3, .string ⟨#[]⟩, .int .i64 0, .slice (some ⟨mA, 0, none⟩) 2 2], .agg #[.int .u8 1, .string ⟨#[39, 98]⟩, .int .i64 0, .slice none 0 0], .agg #[.int .u8 2, .string ⟨#[101, 120, 110]⟩, .int .i64 0, .slice none 0 0], .agg #[.int .u8 2, .string ⟨#[110, 111, 98, 111, 100, 121]⟩, .int .i64 0, .slice none 0 0], .agg #[.int .u8 2, .string ⟨#[105, 110, 116]⟩, .int .i64 0, .slice none 0 0], .slice (some ⟨mB, 0, none⟩) 1 1, .agg #[.int .u8 2, .string ⟨#[105, 110, 116]⟩, .int .i64 0, .slice (some ⟨mB, 0, none⟩) 1 1], undef, undef, .agg #[.int .u8 2, .string ⟨#[105, 110, 116]⟩, .int .i64 0, .slice none 0 0], .agg #[.int .u8 2, .string ⟨#[105, 110, 116]⟩, .int .i64 0, .slice none 0 0], undef, undef, .agg #[.int .u8 2, .string ⟨#[105, 110, 116]⟩, .int .i64 0, .slice none 0 0], undef, undef, .agg #[.int .u8 0, .string ⟨#[]⟩, .int .i64 0, .slice none 0 0], undef, undef, undef, undef, undef, undef, undef, undef, undef, undef, undef, undef, undef, undef, undef, undef, undef, undef, undef, undef, undef, undef, undef, undef, undef, undef, undef, undef, undef, undef, undef, undef, undef, undef, undef, undef, undef, undef, undef, undef, undef, undef, undef, undef, undef, undef, undef, undef, undef, undef, undef, undef, undef, undef, undef, undef, undef, undef, undef, undef, undef, undef, undef, undef, undef, undef, undef, undef, undef, undef, undef, undef], defers := [] } W := by
  have hHeld := HS.out W T.out
  refine wpAnyH_ready (rs := [10, 14, 17]) (by kernel_rfl) (by simp) ?_
  refine AllReadyH.cons (o := { dst := some 27, op := Op.call { callee := Callee.value (Operand.func 10), args := #[Operand.const (Value.string { data := #[114, 101, 102] }), Operand.const (Value.slice none 0 0)], argTypes := #[9, 22] }, type := 24, pos := "law.go:211", after := #[{ on := 9, ground := Ground.chain }], guard := none }) rfl (fun K hK => ?_) (AllReadyH.cons (o := { dst := some 31, op := Op.buildSlice 22 2 #[(0, Operand.tmp 29), (1, Operand.tmp 30)], type := 22, pos := "law.go:211", after := #[{ on := 12, ground := Ground.data }, { on := 13, ground := Ground.data }], guard := none }) rfl (fun K hK => ?_) (AllReadyH.cons (o := { dst := some 34, op := Op.buildSlice 22 1 #[(0, Operand.tmp 33)], type := 22, pos := "law.go:211", after := #[{ on := 16, ground := Ground.data }], guard := none }) rfl (fun K hK => ?_) AllReadyH.nil))
  · have HT := Lib.hid (named_any ⟨#[114, 101, 102]⟩ none 0 0 W)
    clear hHeld
    go_simp
    go_wp2_with (go_at_call 10; refine Calls.mono HT.out ?_; rintro e b ⟨rfl, bb⟩; have Hb := Lib.hid bb; have Tb : Hid (Below w2.heap.size w2 b) := Lib.hid (T.out.trans (bb.mono T.out.size)))
    refine hK.out _ _ (HS.out _ Tb.out) (fun hHeld => ?_)
    clear hK K HT
    have FA := Lib.hid (FA.out.below Hb.out FA.out.lt)
    have FB := Lib.hid (FB.out.below Hb.out FB.out.lt)
    exact rg4AB Q hQ w2 q x0 x1 x2 HS HEnd b Tb mA FA mB FB
  · obtain ⟨b, hb⟩ : ∃ v, W.alloc (.cells #[.int .u8 2, .string ⟨#[105, 110, 116]⟩, .int .i64 0, .slice none 0 0, .int .u8 2, .string ⟨#[105, 110, 116]⟩, .int .i64 0, .slice none 0 0] 24) = v := ⟨_, rfl⟩
    have bb : Below W.heap.size W b := by rw [← hb]; exact (Below.refl _ _).alloc (Nat.le_refl _) _
    have BB : Blk b W.heap.size 24 #[.int .u8 2, .string ⟨#[105, 110, 116]⟩, .int .i64 0, .slice none 0 0, .int .u8 2, .string ⟨#[105, 110, 116]⟩, .int .i64 0, .slice none 0 0] := by rw [← hb]; exact Blk.new _ _ _
    obtain ⟨mC, hn⟩ : ∃ v, W.heap.size = v := ⟨_, rfl⟩
    rw [hn] at BB
    have H := Lib.hid (And.intro hb (And.intro hn (And.intro bb BB)))
    have Tb : Hid (Below w2.heap.size w2 b) := Lib.hid (T.out.trans (bb.mono T.out.size))
    clear hb hn bb BB
    go_simp
    (try rw [H.out.1])
    (try rw [H.out.2.1])
    refine hK.out _ _ (HS.out _ Tb.out) (fun hHeld => ?_)
    clear hK K
    have FA := Lib.hid (FA.out.below H.out.2.2.1 FA.out.lt)
    have FB := Lib.hid (FB.out.below H.out.2.2.1 FB.out.lt)
    have FC := Lib.hid H.out.2.2.2
    exact rg3ABC Q hQ w2 q x0 x1 x2 HS HEnd b Tb mA FA mB FB mC FC
  · obtain ⟨b, hb⟩ : ∃ v, W.alloc (.cells #[.int .u8 2, .string ⟨#[105, 110, 116]⟩, .int .i64 0, .slice none 0 0] 24) = v := ⟨_, rfl⟩
    have bb : Below W.heap.size W b := by rw [← hb]; exact (Below.refl _ _).alloc (Nat.le_refl _) _
    have BB : Blk b W.heap.size 24 #[.int .u8 2, .string ⟨#[105, 110, 116]⟩, .int .i64 0, .slice none 0 0] := by rw [← hb]; exact Blk.new _ _ _
    obtain ⟨mD, hn⟩ : ∃ v, W.heap.size = v := ⟨_, rfl⟩
    rw [hn] at BB
    have H := Lib.hid (And.intro hb (And.intro hn (And.intro bb BB)))
    have Tb : Hid (Below w2.heap.size w2 b) := Lib.hid (T.out.trans (bb.mono T.out.size))
    clear hb hn bb BB
    go_simp
    (try rw [H.out.1])
    (try rw [H.out.2.1])
    refine hK.out _ _ (HS.out _ Tb.out) (fun hHeld => ?_)
    clear hK K
    have FA := Lib.hid (FA.out.below H.out.2.2.1 FA.out.lt)
    have FB := Lib.hid (FB.out.below H.out.2.2.1 FB.out.lt)
    have FD := Lib.hid H.out.2.2.2
    refine takeY (oi := { dst := some 35, op := Op.build 24 #[(0, Operand.const (Value.int IntKind.u8 4)), (3, Operand.tmp 34)], type := 24, pos := "law.go:211", after := #[{ on := 17, ground := Ground.data }], guard := none }) 18 (some 35) rfl rfl (by kernel_rfl) (by kernel_rfl) (by kernel_rfl) (fun _ _ _ h => hQ _ _ _ _ _ h) (by rfl) (v := _) (by (intro _ hSw; (try dsimp only at hSw); go_simp; try with_reducible rfl)) hHeld ?_
    simp only [Act.put, List.setIfInBounds_toArray, List.set_cons_zero, List.set_cons_succ]
    exact rg3ABD Q hQ w2 q x0 x1 x2 HS HEnd b Tb mA FA mB FB mD FD
set_option maxRecDepth 100000 in
set_option maxHeartbeats 4000000 in
theorem rg3BC (Q : Exit → Act → World → Prop) (hQ : ∀ c d v (a : Act) (w : World), Q (.panic c) (a.put d v) w → Q (.panic c) a w) (w2 : World) (q : Nat) (x0 x1 x2 : Value) (HS : Hid (∀ W, Below w2.heap.size w2 W → (fun W : World => W.cell? ⟨q, 0, none⟩ = some (.int .u8 2) ∧ W.cell? ⟨q, 1, none⟩ = some (.string ⟨#[105, 110, 116]⟩) ∧ W.cell? ⟨q, 2, none⟩ = some (.int .i64 0) ∧ W.cell? ⟨q, 3, none⟩ = some (.slice none 0 0)) W)) (HEnd : Hid (RgEnd Q w2 q x0 x1 x2)) (W : World) (T : Hid (Below w2.heap.size w2 W)) (mB : Nat) (FB : Hid (Blk W mB 24 #[.int .u8 2, .string ⟨#[105, 110, 116]⟩, .int .i64 0, .slice none 0 0])) (mC : Nat) (FC : Hid (Blk W mC 24 #[.int .u8 2, .string ⟨#[105, 110, 116]⟩, .int .i64 0, .slice none 0 0, .int .u8 2, .string ⟨#[105, 110, 116]⟩, .int .i64 0, .slice none 0 0])) : wpAnyH Tryd.prog .any rops Q (fun W : World => W.cell? ⟨q, 0, none⟩ = some (.int .u8 2) ∧ W.cell? ⟨q, 1, none⟩ = some (.string ⟨#[105, 110, 116]⟩) ∧ W.cell? ⟨q, 2, none⟩ = some (.int .i64 0) ∧ W.cell? ⟨q, 3, none⟩ = some (.slice none 0 0)) 9 #[true, true, false, false, true, true, true, true, true, true, false, false, true, true, true, false, true, false, false, true, false, false] { tmps := #[x0, x1, x2, undef, undef, undef, .bool false, .pointer (some ⟨q, 0, none⟩), undef, undef, undef, undef, undef, undef, undef, undef, .agg #[.int .u8 2, .string ⟨#[105, 110, 116]⟩, .int .i64 0, .slice none 0 0], .agg #[.int .u8 2, .string ⟨#[105, 110, 116]⟩, .int .i64 0, .slice none 0 0], .agg #[.int .u8 2, .string ⟨#[105, 110, 116]⟩, .int .i64 0, .slice none 0 0], undef, undef, .agg #[.int .u8 1, .string ⟨#[39, 98]⟩, .int .i64 0, .slice none 0 0], .agg #[.int .u8 2, .string ⟨#[101, 120, 110]⟩, .int .i64 0, .slice none 0 0], .agg #[.int .u8 2, .string ⟨#[110, 111, 98, 111, 100, 121]⟩, .int .i64 0, .slice none 0 0], .agg #[.int .u8 2, .string ⟨#[105, 110, 116]⟩, .int .i64 0, .slice none 0 0], .slice (some ⟨mB, 0, none⟩) 1 1, .agg #[.int .u8 2, .string ⟨#[105, 110, 116]⟩, .int .i64 0, .slice (some ⟨mB, 0, none⟩) 1 1], undef, undef, .agg #[.int .u8 2, .string ⟨#[105, 110, 116]⟩, .int .i64 0, .slice none 0 0], .agg #[.int .u8 2, .string ⟨#[105, 110, 116]⟩, .int .i64 0, .slice none 0 0], .slice (some ⟨mC, 0, none⟩) 2 2, undef, .agg #[.int .u8 2, .string ⟨#[105, 110, 116]⟩, .int .i64 0, .slice none 0 0], undef, undef, .agg #[.int .u8 0, .string ⟨#[]⟩, .int .i64 0, .slice none 0 0], undef, undef, undef, undef, undef, undef, undef, undef, undef, undef, undef, undef, undef, undef, undef, undef, undef, undef, undef, undef, undef, undef, undef, undef, undef, undef, undef, undef, undef, undef, undef, undef, undef, undef, undef, undef, undef, undef, undef, undef, undef, undef, undef, undef, undef, undef, undef, undef, undef, undef, undef, undef, undef, undef, undef, undef, undef, undef, undef, undef, undef, undef, undef, undef, undef, undef, undef, undef, undef, undef, undef, undef], defers := [] } W := by
  have hHeld := HS.out W T.out
  refine wpAnyH_ready (rs := [2, 10, 17]) (by kernel_rfl) (by simp) ?_
  refine AllReadyH.cons (o := { dst := some 19, op := Op.buildSlice 22 2 #[(0, Operand.tmp 17), (1, Operand.tmp 18)], type := 22, pos := "law.go:211", after := #[{ on := 0, ground := Ground.data }, { on := 1, ground := Ground.data }], guard := none }) rfl (fun K hK => ?_) (AllReadyH.cons (o := { dst := some 27, op := Op.call { callee := Callee.value (Operand.func 10), args := #[Operand.const (Value.string { data := #[114, 101, 102] }), Operand.const (Value.slice none 0 0)], argTypes := #[9, 22] }, type := 24, pos := "law.go:211", after := #[{ on := 9, ground := Ground.chain }], guard := none }) rfl (fun K hK => ?_) (AllReadyH.cons (o := { dst := some 34, op := Op.buildSlice 22 1 #[(0, Operand.tmp 33)], type := 22, pos := "law.go:211", after := #[{ on := 16, ground := Ground.data }], guard := none }) rfl (fun K hK => ?_) AllReadyH.nil))
  · obtain ⟨b, hb⟩ : ∃ v, W.alloc (.cells #[.int .u8 2, .string ⟨#[105, 110, 116]⟩, .int .i64 0, .slice none 0 0, .int .u8 2, .string ⟨#[105, 110, 116]⟩, .int .i64 0, .slice none 0 0] 24) = v := ⟨_, rfl⟩
    have bb : Below W.heap.size W b := by rw [← hb]; exact (Below.refl _ _).alloc (Nat.le_refl _) _
    have BB : Blk b W.heap.size 24 #[.int .u8 2, .string ⟨#[105, 110, 116]⟩, .int .i64 0, .slice none 0 0, .int .u8 2, .string ⟨#[105, 110, 116]⟩, .int .i64 0, .slice none 0 0] := by rw [← hb]; exact Blk.new _ _ _
    obtain ⟨mA, hn⟩ : ∃ v, W.heap.size = v := ⟨_, rfl⟩
    rw [hn] at BB
    have H := Lib.hid (And.intro hb (And.intro hn (And.intro bb BB)))
    have Tb : Hid (Below w2.heap.size w2 b) := Lib.hid (T.out.trans (bb.mono T.out.size))
    clear hb hn bb BB
    go_simp
    (try rw [H.out.1])
    (try rw [H.out.2.1])
    refine hK.out _ _ (HS.out _ Tb.out) (fun hHeld => ?_)
    clear hK K
    have FB := Lib.hid (FB.out.below H.out.2.2.1 FB.out.lt)
    have FC := Lib.hid (FC.out.below H.out.2.2.1 FC.out.lt)
    have FA := Lib.hid H.out.2.2.2
    refine takeY (oi := { dst := some 20, op := Op.build 24 #[(0, Operand.const (Value.int IntKind.u8 3)), (3, Operand.tmp 19)], type := 24, pos := "law.go:211", after := #[{ on := 2, ground := Ground.data }], guard := none }) 3 (some 20) rfl rfl (by kernel_rfl) (by kernel_rfl) (by kernel_rfl) (fun _ _ _ h => hQ _ _ _ _ _ h) (by rfl) (v := _) (by (intro _ hSw; (try dsimp only at hSw); go_simp; try with_reducible rfl)) hHeld ?_
    simp only [Act.put, List.setIfInBounds_toArray, List.set_cons_zero, List.set_cons_succ]
    exact rg3ABC Q hQ w2 q x0 x1 x2 HS HEnd b Tb mA FA mB FB mC FC
  · have HT := Lib.hid (named_any ⟨#[114, 101, 102]⟩ none 0 0 W)
    clear hHeld
    go_simp
    go_wp2_with (go_at_call 10; refine Calls.mono HT.out ?_; rintro e b ⟨rfl, bb⟩; have Hb := Lib.hid bb; have Tb : Hid (Below w2.heap.size w2 b) := Lib.hid (T.out.trans (bb.mono T.out.size)))
    refine hK.out _ _ (HS.out _ Tb.out) (fun hHeld => ?_)
    clear hK K HT
    have FB := Lib.hid (FB.out.below Hb.out FB.out.lt)
    have FC := Lib.hid (FC.out.below Hb.out FC.out.lt)
    exact rg4BC Q hQ w2 q x0 x1 x2 HS HEnd b Tb mB FB mC FC
  · obtain ⟨b, hb⟩ : ∃ v, W.alloc (.cells #[.int .u8 2, .string ⟨#[105, 110, 116]⟩, .int .i64 0, .slice none 0 0] 24) = v := ⟨_, rfl⟩
    have bb : Below W.heap.size W b := by rw [← hb]; exact (Below.refl _ _).alloc (Nat.le_refl _) _
    have BB : Blk b W.heap.size 24 #[.int .u8 2, .string ⟨#[105, 110, 116]⟩, .int .i64 0, .slice none 0 0] := by rw [← hb]; exact Blk.new _ _ _
    obtain ⟨mD, hn⟩ : ∃ v, W.heap.size = v := ⟨_, rfl⟩
    rw [hn] at BB
    have H := Lib.hid (And.intro hb (And.intro hn (And.intro bb BB)))
    have Tb : Hid (Below w2.heap.size w2 b) := Lib.hid (T.out.trans (bb.mono T.out.size))
    clear hb hn bb BB
    go_simp
    (try rw [H.out.1])
    (try rw [H.out.2.1])
    refine hK.out _ _ (HS.out _ Tb.out) (fun hHeld => ?_)
    clear hK K
    have FB := Lib.hid (FB.out.below H.out.2.2.1 FB.out.lt)
    have FC := Lib.hid (FC.out.below H.out.2.2.1 FC.out.lt)
    have FD := Lib.hid H.out.2.2.2
    refine takeY (oi := { dst := some 35, op := Op.build 24 #[(0, Operand.const (Value.int IntKind.u8 4)), (3, Operand.tmp 34)], type := 24, pos := "law.go:211", after := #[{ on := 17, ground := Ground.data }], guard := none }) 18 (some 35) rfl rfl (by kernel_rfl) (by kernel_rfl) (by kernel_rfl) (fun _ _ _ h => hQ _ _ _ _ _ h) (by rfl) (v := _) (by (intro _ hSw; (try dsimp only at hSw); go_simp; try with_reducible rfl)) hHeld ?_
    simp only [Act.put, List.setIfInBounds_toArray, List.set_cons_zero, List.set_cons_succ]
    exact rg3BCD Q hQ w2 q x0 x1 x2 HS HEnd b Tb mB FB mC FC mD FD
set_option maxRecDepth 100000 in
set_option maxHeartbeats 4000000 in
theorem rg3BD (Q : Exit → Act → World → Prop) (hQ : ∀ c d v (a : Act) (w : World), Q (.panic c) (a.put d v) w → Q (.panic c) a w) (w2 : World) (q : Nat) (x0 x1 x2 : Value) (HS : Hid (∀ W, Below w2.heap.size w2 W → (fun W : World => W.cell? ⟨q, 0, none⟩ = some (.int .u8 2) ∧ W.cell? ⟨q, 1, none⟩ = some (.string ⟨#[105, 110, 116]⟩) ∧ W.cell? ⟨q, 2, none⟩ = some (.int .i64 0) ∧ W.cell? ⟨q, 3, none⟩ = some (.slice none 0 0)) W)) (HEnd : Hid (RgEnd Q w2 q x0 x1 x2)) (W : World) (T : Hid (Below w2.heap.size w2 W)) (mB : Nat) (FB : Hid (Blk W mB 24 #[.int .u8 2, .string ⟨#[105, 110, 116]⟩, .int .i64 0, .slice none 0 0])) (mD : Nat) (FD : Hid (Blk W mD 24 #[.int .u8 2, .string ⟨#[105, 110, 116]⟩, .int .i64 0, .slice none 0 0])) : wpAnyH Tryd.prog .any rops Q (fun W : World => W.cell? ⟨q, 0, none⟩ = some (.int .u8 2) ∧ W.cell? ⟨q, 1, none⟩ = some (.string ⟨#[105, 110, 116]⟩) ∧ W.cell? ⟨q, 2, none⟩ = some (.int .i64 0) ∧ W.cell? ⟨q, 3, none⟩ = some (.slice none 0 0)) 8 #[true, true, false, false, true, true, true, true, true, true, false, false, true, true, false, false, true, true, true, true, false, false] { tmps := #[x0, x1, x2, undef, undef, undef, .bool false, .pointer (some ⟨q, 0, none⟩), undef, undef, undef, undef, undef, undef, undef, undef, .agg #[.int .u8 2, .string ⟨#[105, 110, 116]⟩, .int .i64 0, .slice none 0 0], .agg #[.int .u8 2, .string ⟨#[105, 110, 116]⟩, .int .i64 0, .slice none 0 0], .agg #[.int .u8 2, .string ⟨#[105, 110, 116]⟩, .int .i64 0, .slice none 0 0], undef, undef, .agg #[.int .u8 1, .string ⟨#[39, 98]⟩, .int .i64 0, .slice none 0 0], .agg #[.int .u8 2, .string ⟨#[101, 120, 110]⟩, .int .i64 0, .slice none 0 0], .agg #[.int .u8 2, .string ⟨#[110, 111, 98, 111, 100, 121]⟩, .int .i64 0, .slice none 0 0], .agg #[.int .u8 2, .string ⟨#[105, 110, 116]⟩, .int .i64 0, .slice none 0 0], .slice (some ⟨mB, 0, none⟩) 1 1, .agg #[.int .u8 2, .string ⟨#[105, 110, 116]⟩, .int .i64 0, .slice (some ⟨mB, 0, none⟩) 1 1], undef, undef, .agg #[.int .u8 2, .string ⟨#[105, 110, 116]⟩, .int .i64 0, .slice none 0 0], .agg #[.int .u8 2, .string ⟨#[105, 110, 116]⟩, .int .i64 0, .slice none 0 0], undef, undef, .agg #[.int .u8 2, .string ⟨#[105, 110, 116]⟩, .int .i64 0, .slice none 0 0], .slice (some ⟨mD, 0, none⟩) 1 1, .agg #[.int .u8 4, .string ⟨#[]⟩, .int .i64 0, .slice (some ⟨mD, 0, none⟩) 1 1], .agg #[.int .u8 0, .string ⟨#[]⟩, .int .i64 0, .slice none 0 0], undef, undef, undef, undef, undef, undef, undef, undef, undef, undef, undef, undef, undef, undef, undef, undef, undef, undef, undef, undef, undef, undef, undef, undef, undef, undef, undef, undef, undef, undef, undef, undef, undef, undef, undef, undef, undef, undef, undef, undef, undef, undef, undef, undef, undef, undef, undef, undef, undef, undef, undef, undef, undef, undef, undef, undef, undef, undef, undef, undef, undef, undef, undef, undef, undef, undef, undef, undef, undef, undef, undef, undef], defers := [] } W := by
  have hHeld := HS.out W T.out
  refine wpAnyH_ready (rs := [2, 10, 14]) (by kernel_rfl) (by simp) ?_
  refine AllReadyH.cons (o := { dst := some 19, op := Op.buildSlice 22 2 #[(0, Operand.tmp 17), (1, Operand.tmp 18)], type := 22, pos := "law.go:211", after := #[{ on := 0, ground := Ground.data }, { on := 1, ground := Ground.data }], guard := none }) rfl (fun K hK => ?_) (AllReadyH.cons (o := { dst := some 27, op := Op.call { callee := Callee.value (Operand.func 10), args := #[Operand.const (Value.string { data := #[114, 101, 102] }), Operand.const (Value.slice none 0 0)], argTypes := #[9, 22] }, type := 24, pos := "law.go:211", after := #[{ on := 9, ground := Ground.chain }], guard := none }) rfl (fun K hK => ?_) (AllReadyH.cons (o := { dst := some 31, op := Op.buildSlice 22 2 #[(0, Operand.tmp 29), (1, Operand.tmp 30)], type := 22, pos := "law.go:211", after := #[{ on := 12, ground := Ground.data }, { on := 13, ground := Ground.data }], guard := none }) rfl (fun K hK => ?_) AllReadyH.nil))
  · obtain ⟨b, hb⟩ : ∃ v, W.alloc (.cells #[.int .u8 2, .string ⟨#[105, 110, 116]⟩, .int .i64 0, .slice none 0 0, .int .u8 2, .string ⟨#[105, 110, 116]⟩, .int .i64 0, .slice none 0 0] 24) = v := ⟨_, rfl⟩
    have bb : Below W.heap.size W b := by rw [← hb]; exact (Below.refl _ _).alloc (Nat.le_refl _) _
    have BB : Blk b W.heap.size 24 #[.int .u8 2, .string ⟨#[105, 110, 116]⟩, .int .i64 0, .slice none 0 0, .int .u8 2, .string ⟨#[105, 110, 116]⟩, .int .i64 0, .slice none 0 0] := by rw [← hb]; exact Blk.new _ _ _
    obtain ⟨mA, hn⟩ : ∃ v, W.heap.size = v := ⟨_, rfl⟩
    rw [hn] at BB
    have H := Lib.hid (And.intro hb (And.intro hn (And.intro bb BB)))
    have Tb : Hid (Below w2.heap.size w2 b) := Lib.hid (T.out.trans (bb.mono T.out.size))
    clear hb hn bb BB
    go_simp
    (try rw [H.out.1])
    (try rw [H.out.2.1])
    refine hK.out _ _ (HS.out _ Tb.out) (fun hHeld => ?_)
    clear hK K
    have FB := Lib.hid (FB.out.below H.out.2.2.1 FB.out.lt)
    have FD := Lib.hid (FD.out.below H.out.2.2.1 FD.out.lt)
    have FA := Lib.hid H.out.2.2.2
    refine takeY (oi := { dst := some 20, op := Op.build 24 #[(0, Operand.const (Value.int IntKind.u8 3)), (3, Operand.tmp 19)], type := 24, pos := "law.go:211", after := #[{ on := 2, ground := Ground.data }], guard := none }) 3 (some 20) rfl rfl (by kernel_rfl) (by kernel_rfl) (by kernel_rfl) (fun _ _ _ h => hQ _ _ _ _ _ h) (by rfl) (v := _) (by (intro _ hSw; (try dsimp only at hSw); go_simp; try with_reducible rfl)) hHeld ?_
    simp only [Act.put, List.setIfInBounds_toArray, List.set_cons_zero, List.set_cons_succ]
    exact rg3ABD Q hQ w2 q x0 x1 x2 HS HEnd b Tb mA FA mB FB mD FD
  · have HT := Lib.hid (named_any ⟨#[114, 101, 102]⟩ none 0 0 W)
    clear hHeld
    go_simp
    go_wp2_with (go_at_call 10; refine Calls.mono HT.out ?_; rintro e b ⟨rfl, bb⟩; have Hb := Lib.hid bb; have Tb : Hid (Below w2.heap.size w2 b) := Lib.hid (T.out.trans (bb.mono T.out.size)))
    refine hK.out _ _ (HS.out _ Tb.out) (fun hHeld => ?_)
    clear hK K HT
    have FB := Lib.hid (FB.out.below Hb.out FB.out.lt)
    have FD := Lib.hid (FD.out.below Hb.out FD.out.lt)
    exact rg4BD Q hQ w2 q x0 x1 x2 HS HEnd b Tb mB FB mD FD
  · obtain ⟨b, hb⟩ : ∃ v, W.alloc (.cells #[.int .u8 2, .string ⟨#[105, 110, 116]⟩, .int .i64 0, .slice none 0 0, .int .u8 2, .string ⟨#[105, 110, 116]⟩, .int .i64 0, .slice none 0 0] 24) = v := ⟨_, rfl⟩
    have bb : Below W.heap.size W b := by rw [← hb]; exact (Below.refl _ _).alloc (Nat.le_refl _) _
    have BB : Blk b W.heap.size 24 #[.int .u8 2, .string ⟨#[105, 110, 116]⟩, .int .i64 0, .slice none 0 0, .int .u8 2, .string ⟨#[105, 110, 116]⟩, .int .i64 0, .slice none 0 0] := by rw [← hb]; exact Blk.new _ _ _
    obtain ⟨mC, hn⟩ : ∃ v, W.heap.size = v := ⟨_, rfl⟩
    rw [hn] at BB
    have H := Lib.hid (And.intro hb (And.intro hn (And.intro bb BB)))
    have Tb : Hid (Below w2.heap.size w2 b) := Lib.hid (T.out.trans (bb.mono T.out.size))
    clear hb hn bb BB
    go_simp
    (try rw [H.out.1])
    (try rw [H.out.2.1])
    refine hK.out _ _ (HS.out _ Tb.out) (fun hHeld => ?_)
    clear hK K
    have FB := Lib.hid (FB.out.below H.out.2.2.1 FB.out.lt)
    have FD := Lib.hid (FD.out.below H.out.2.2.1 FD.out.lt)
    have FC := Lib.hid H.out.2.2.2
    exact rg3BCD Q hQ w2 q x0 x1 x2 HS HEnd b Tb mB FB mC FC mD FD
set_option maxRecDepth 100000 in
set_option maxHeartbeats 4000000 in
theorem rg4B (Q : Exit → Act → World → Prop) (hQ : ∀ c d v (a : Act) (w : World), Q (.panic c) (a.put d v) w → Q (.panic c) a w) (w2 : World) (q : Nat) (x0 x1 x2 : Value) (HS : Hid (∀ W, Below w2.heap.size w2 W → (fun W : World => W.cell? ⟨q, 0, none⟩ = some (.int .u8 2) ∧ W.cell? ⟨q, 1, none⟩ = some (.string ⟨#[105, 110, 116]⟩) ∧ W.cell? ⟨q, 2, none⟩ = some (.int .i64 0) ∧ W.cell? ⟨q, 3, none⟩ = some (.slice none 0 0)) W)) (HEnd : Hid (RgEnd Q w2 q x0 x1 x2)) (W : World) (T : Hid (Below w2.heap.size w2 W)) (mB : Nat) (FB : Hid (Blk W mB 24 #[.int .u8 2, .string ⟨#[105, 110, 116]⟩, .int .i64 0, .slice none 0 0])) : wpAnyH Tryd.prog .any rops Q (fun W : World => W.cell? ⟨q, 0, none⟩ = some (.int .u8 2) ∧ W.cell? ⟨q, 1, none⟩ = some (.string ⟨#[105, 110, 116]⟩) ∧ W.cell? ⟨q, 2, none⟩ = some (.int .i64 0) ∧ W.cell? ⟨q, 3, none⟩ = some (.slice none 0 0)) 9 #[true, true, false, false, true, true, true, true, true, true, true, false, true, true, false, false, true, false, false, true, false, false] { tmps := #[x0, x1, x2, undef, undef, undef, .bool false, .pointer (some ⟨q, 0, none⟩), undef, undef, undef, undef, undef, undef, undef, undef, .agg #[.int .u8 2, .string ⟨#[105, 110, 116]⟩, .int .i64 0, .slice none 0 0], .agg #[.int .u8 2, .string ⟨#[105, 110, 116]⟩, .int .i64 0, .slice none 0 0], .agg #[.int .u8 2, .string ⟨#[105, 110, 116]⟩, .int .i64 0, .slice none 0 0], undef, undef, .agg #[.int .u8 1, .string ⟨#[39, 98]⟩, .int .i64 0, .slice none 0 0], .agg #[.int .u8 2, .string ⟨#[101, 120, 110]⟩, .int .i64 0, .slice none 0 0], .agg #[.int .u8 2, .string ⟨#[110, 111, 98, 111, 100, 121]⟩, .int .i64 0, .slice none 0 0], .agg #[.int .u8 2, .string ⟨#[105, 110, 116]⟩, .int .i64 0, .slice none 0 0], .slice (some ⟨mB, 0, none⟩) 1 1, .agg #[.int .u8 2, .string ⟨#[105, 110, 116]⟩, .int .i64 0, .slice (some ⟨mB, 0, none⟩) 1 1], .agg #[.int .u8 2, .string ⟨#[114, 101, 102]⟩, .int .i64 0, .slice none 0 0], undef, .agg #[.int .u8 2, .string ⟨#[105, 110, 116]⟩, .int .i64 0, .slice none 0 0], .agg #[.int .u8 2, .string ⟨#[105, 110, 116]⟩, .int .i64 0, .slice none 0 0], undef, undef, .agg #[.int .u8 2, .string ⟨#[105, 110, 116]⟩, .int .i64 0, .slice none 0 0], undef, undef, .agg #[.int .u8 0, .string ⟨#[]⟩, .int .i64 0, .slice none 0 0], undef, undef, undef, undef, undef, undef, undef, undef, undef, undef, undef, undef, undef, undef, undef, undef, undef, undef, undef, undef, undef, undef, undef, undef, undef, undef, undef, undef, undef, undef, undef, undef, undef, undef, undef, undef, undef, undef, undef, undef, undef, undef, undef, undef, undef, undef, undef, undef, undef, undef, undef, undef, undef, undef, undef, undef, undef, undef, undef, undef, undef, undef, undef, undef, undef, undef, undef, undef, undef, undef, undef, undef], defers := [] } W := by
  have hHeld := HS.out W T.out
  refine wpAnyH_ready (rs := [2, 11, 14, 17]) (by kernel_rfl) (by simp) ?_
  refine AllReadyH.cons (o := { dst := some 19, op := Op.buildSlice 22 2 #[(0, Operand.tmp 17), (1, Operand.tmp 18)], type := 22, pos := "law.go:211", after := #[{ on := 0, ground := Ground.data }, { on := 1, ground := Ground.data }], guard := none }) rfl (fun K hK => ?_) (AllReadyH.cons (o := { dst := some 28, op := Op.call { callee := Callee.value (Operand.func 10), args := #[Operand.const (Value.string { data := #[108, 105, 115, 116] }), Operand.const (Value.slice none 0 0)], argTypes := #[9, 22] }, type := 24, pos := "law.go:211", after := #[{ on := 10, ground := Ground.chain }], guard := none }) rfl (fun K hK => ?_) (AllReadyH.cons (o := { dst := some 31, op := Op.buildSlice 22 2 #[(0, Operand.tmp 29), (1, Operand.tmp 30)], type := 22, pos := "law.go:211", after := #[{ on := 12, ground := Ground.data }, { on := 13, ground := Ground.data }], guard := none }) rfl (fun K hK => ?_) (AllReadyH.cons (o := { dst := some 34, op := Op.buildSlice 22 1 #[(0, Operand.tmp 33)], type := 22, pos := "law.go:211", after := #[{ on := 16, ground := Ground.data }], guard := none }) rfl (fun K hK => ?_) AllReadyH.nil)))
  · obtain ⟨b, hb⟩ : ∃ v, W.alloc (.cells #[.int .u8 2, .string ⟨#[105, 110, 116]⟩, .int .i64 0, .slice none 0 0, .int .u8 2, .string ⟨#[105, 110, 116]⟩, .int .i64 0, .slice none 0 0] 24) = v := ⟨_, rfl⟩
    have bb : Below W.heap.size W b := by rw [← hb]; exact (Below.refl _ _).alloc (Nat.le_refl _) _
    have BB : Blk b W.heap.size 24 #[.int .u8 2, .string ⟨#[105, 110, 116]⟩, .int .i64 0, .slice none 0 0, .int .u8 2, .string ⟨#[105, 110, 116]⟩, .int .i64 0, .slice none 0 0] := by rw [← hb]; exact Blk.new _ _ _
    obtain ⟨mA, hn⟩ : ∃ v, W.heap.size = v := ⟨_, rfl⟩
    rw [hn] at BB
    have H := Lib.hid (And.intro hb (And.intro hn (And.intro bb BB)))
    have Tb : Hid (Below w2.heap.size w2 b) := Lib.hid (T.out.trans (bb.mono T.out.size))
    clear hb hn bb BB
    go_simp
    (try rw [H.out.1])
    (try rw [H.out.2.1])
    refine hK.out _ _ (HS.out _ Tb.out) (fun hHeld => ?_)
    clear hK K
    have FB := Lib.hid (FB.out.below H.out.2.2.1 FB.out.lt)
    have FA := Lib.hid H.out.2.2.2
    refine takeY (oi := { dst := some 20, op := Op.build 24 #[(0, Operand.const (Value.int IntKind.u8 3)), (3, Operand.tmp 19)], type := 24, pos := "law.go:211", after := #[{ on := 2, ground := Ground.data }], guard := none }) 3 (some 20) rfl rfl (by kernel_rfl) (by kernel_rfl) (by kernel_rfl) (fun _ _ _ h => hQ _ _ _ _ _ h) (by rfl) (v := _) (by (intro _ hSw; (try dsimp only at hSw); go_simp; try with_reducible rfl)) hHeld ?_
    simp only [Act.put, List.setIfInBounds_toArray, List.set_cons_zero, List.set_cons_succ]
    exact rg4AB Q hQ w2 q x0 x1 x2 HS HEnd b Tb mA FA mB FB
  · have HT := Lib.hid (named_any ⟨#[108, 105, 115, 116]⟩ none 0 0 W)
    clear hHeld
    go_simp
    go_wp2_with (go_at_call 10; refine Calls.mono HT.out ?_; rintro e b ⟨rfl, bb⟩; have Hb := Lib.hid bb; have Tb : Hid (Below w2.heap.size w2 b) := Lib.hid (T.out.trans (bb.mono T.out.size)))
    refine hK.out _ _ (HS.out _ Tb.out) (fun hHeld => ?_)
    clear hK K HT
    have FB := Lib.hid (FB.out.below Hb.out FB.out.lt)
    exact rg5B Q hQ w2 q x0 x1 x2 HS HEnd b Tb mB FB
  · obtain ⟨b, hb⟩ : ∃ v, W.alloc (.cells #[.int .u8 2, .string ⟨#[105, 110, 116]⟩, .int .i64 0, .slice none 0 0, .int .u8 2, .string ⟨#[105, 110, 116]⟩, .int .i64 0, .slice none 0 0] 24) = v := ⟨_, rfl⟩
    have bb : Below W.heap.size W b := by rw [← hb]; exact (Below.refl _ _).alloc (Nat.le_refl _) _
    have BB : Blk b W.heap.size 24 #[.int .u8 2, .string ⟨#[105, 110, 116]⟩, .int .i64 0, .slice none 0 0, .int .u8 2, .string ⟨#[105, 110, 116]⟩, .int .i64 0, .slice none 0 0] := by rw [← hb]; exact Blk.new _ _ _
    obtain ⟨mC, hn⟩ : ∃ v, W.heap.size = v := ⟨_, rfl⟩
    rw [hn] at BB
    have H := Lib.hid (And.intro hb (And.intro hn (And.intro bb BB)))
    have Tb : Hid (Below w2.heap.size w2 b) := Lib.hid (T.out.trans (bb.mono T.out.size))
    clear hb hn bb BB
    go_simp
    (try rw [H.out.1])
    (try rw [H.out.2.1])
    refine hK.out _ _ (HS.out _ Tb.out) (fun hHeld => ?_)
    clear hK K
    have FB := Lib.hid (FB.out.below H.out.2.2.1 FB.out.lt)
    have FC := Lib.hid H.out.2.2.2
    exact rg4BC Q hQ w2 q x0 x1 x2 HS HEnd b Tb mB FB mC FC
  · obtain ⟨b, hb⟩ : ∃ v, W.alloc (.cells #[.int .u8 2, .string ⟨#[105, 110, 116]⟩, .int .i64 0, .slice none 0 0] 24) = v := ⟨_, rfl⟩
    have bb : Below W.heap.size W b := by rw [← hb]; exact (Below.refl _ _).alloc (Nat.le_refl _) _
    have BB : Blk b W.heap.size 24 #[.int .u8 2, .string ⟨#[105, 110, 116]⟩, .int .i64 0, .slice none 0 0] := by rw [← hb]; exact Blk.new _ _ _
    obtain ⟨mD, hn⟩ : ∃ v, W.heap.size = v := ⟨_, rfl⟩
    rw [hn] at BB
    have H := Lib.hid (And.intro hb (And.intro hn (And.intro bb BB)))
    have Tb : Hid (Below w2.heap.size w2 b) := Lib.hid (T.out.trans (bb.mono T.out.size))
    clear hb hn bb BB
    go_simp
    (try rw [H.out.1])
    (try rw [H.out.2.1])
    refine hK.out _ _ (HS.out _ Tb.out) (fun hHeld => ?_)
    clear hK K
    have FB := Lib.hid (FB.out.below H.out.2.2.1 FB.out.lt)
    have FD := Lib.hid H.out.2.2.2
    refine takeY (oi := { dst := some 35, op := Op.build 24 #[(0, Operand.const (Value.int IntKind.u8 4)), (3, Operand.tmp 34)], type := 24, pos := "law.go:211", after := #[{ on := 17, ground := Ground.data }], guard := none }) 18 (some 35) rfl rfl (by kernel_rfl) (by kernel_rfl) (by kernel_rfl) (fun _ _ _ h => hQ _ _ _ _ _ h) (by rfl) (v := _) (by (intro _ hSw; (try dsimp only at hSw); go_simp; try with_reducible rfl)) hHeld ?_
    simp only [Act.put, List.setIfInBounds_toArray, List.set_cons_zero, List.set_cons_succ]
    exact rg4BD Q hQ w2 q x0 x1 x2 HS HEnd b Tb mB FB mD FD
set_option maxRecDepth 100000 in
set_option maxHeartbeats 4000000 in
theorem rg0ABCD (Q : Exit → Act → World → Prop) (hQ : ∀ c d v (a : Act) (w : World), Q (.panic c) (a.put d v) w → Q (.panic c) a w) (w2 : World) (q : Nat) (x0 x1 x2 : Value) (HS : Hid (∀ W, Below w2.heap.size w2 W → (fun W : World => W.cell? ⟨q, 0, none⟩ = some (.int .u8 2) ∧ W.cell? ⟨q, 1, none⟩ = some (.string ⟨#[105, 110, 116]⟩) ∧ W.cell? ⟨q, 2, none⟩ = some (.int .i64 0) ∧ W.cell? ⟨q, 3, none⟩ = some (.slice none 0 0)) W)) (HEnd : Hid (RgEnd Q w2 q x0 x1 x2)) (W : World) (T : Hid (Below w2.heap.size w2 W)) (mA : Nat) (FA : Hid (Blk W mA 24 #[.int .u8 2, .string ⟨#[105, 110, 116]⟩, .int .i64 0, .slice none 0 0, .int .u8 2, .string ⟨#[105, 110, 116]⟩, .int .i64 0, .slice none 0 0])) (mB : Nat) (FB : Hid (Blk W mB 24 #[.int .u8 2, .string ⟨#[105, 110, 116]⟩, .int .i64 0, .slice none 0 0])) (mC : Nat) (FC : Hid (Blk W mC 24 #[.int .u8 2, .string ⟨#[105, 110, 116]⟩, .int .i64 0, .slice none 0 0, .int .u8 2, .string ⟨#[105, 110, 116]⟩, .int .i64 0, .slice none 0 0])) (mD : Nat) (FD : Hid (Blk W mD 24 #[.int .u8 2, .string ⟨#[105, 110, 116]⟩, .int .i64 0, .slice none 0 0])) : wpAnyH Tryd.prog .any rops Q (fun W : World => W.cell? ⟨q, 0, none⟩ = some (.int .u8 2) ∧ W.cell? ⟨q, 1, none⟩ = some (.string ⟨#[105, 110, 116]⟩) ∧ W.cell? ⟨q, 2, none⟩ = some (.int .i64 0) ∧ W.cell? ⟨q, 3, none⟩ = some (.slice none 0 0)) 8 #[true, true, true, true, true, false, false, true, true, false, false, false, true, true, true, false, true, true, true, true, false, false] { tmps := #[x0, x1, x2, undef, undef, undef, .bool false, .pointer (some ⟨q, 0, none⟩), undef, undef, undef, undef, undef, undef, undef, undef, .agg #[.int .u8 2, .string ⟨#[105, 110, 116]⟩, .int .i64 0, .slice none 0 0], .agg #[.int .u8 2, .string ⟨#[105, 110, 116]⟩, .int .i64 0, .slice none 0 0], .agg #[.int .u8 2, .string ⟨#[105, 110, 116]⟩, .int .i64 0, .slice none 0 0], .slice (some ⟨mA, 0, none⟩) 2 2, .agg #[.int .u8 3, .string ⟨#[]⟩, .int .i64 0, .slice (some ⟨mA, 0, none⟩) 2 2], .agg #[.int .u8 1, .string ⟨#[39, 98]⟩, .int .i64 0, .slice none 0 0], undef, undef, .agg #[.int .u8 2, .string ⟨#[105, 110, 116]⟩, .int .i64 0, .slice none 0 0], .slice (some ⟨mB, 0, none⟩) 1 1, undef, undef, undef, .agg #[.int .u8 2, .string ⟨#[105, 110, 116]⟩, .int .i64 0, .slice none 0 0], .agg #[.int .u8 2, .string ⟨#[105, 110, 116]⟩, .int .i64 0, .slice none 0 0], .slice (some ⟨mC, 0, none⟩) 2 2, undef, .agg #[.int .u8 2, .string ⟨#[105, 110, 116]⟩, .int .i64 0, .slice none 0 0], .slice (some ⟨mD, 0, none⟩) 1 1, .agg #[.int .u8 4, .string ⟨#[]⟩, .int .i64 0, .slice (some ⟨mD, 0, none⟩) 1 1], .agg #[.int .u8 0, .string ⟨#[]⟩, .int .i64 0, .slice none 0 0], undef, undef, undef, undef, undef, undef, undef, undef, undef, undef, undef, undef, undef, undef, undef, undef, undef, undef, undef, undef, undef, undef, undef, undef, undef, undef, undef, undef, undef, undef, undef, undef, undef, undef, undef, undef, undef, undef, undef, undef, undef, undef, undef, undef, undef, undef, undef, undef, undef, undef, undef, undef, undef, undef, undef, undef, undef, undef, undef, undef, undef, undef, undef, undef, undef, undef, undef, undef, undef, undef, undef, undef], defers := [] } W := by
  have hHeld := HS.out W T.out
  refine wpAnyH_ready (rs := [5]) (by kernel_rfl) (by simp) ?_
  refine AllReadyH.cons (o := { dst := some 22, op := Op.call { callee := Callee.value (Operand.func 10), args := #[Operand.const (Value.string { data := #[101, 120, 110] }), Operand.const (Value.slice none 0 0)], argTypes := #[9, 22] }, type := 24, pos := "law.go:211", after := #[], guard := none }) rfl (fun K hK => ?_) AllReadyH.nil
  · have HT := Lib.hid (named_any ⟨#[101, 120, 110]⟩ none 0 0 W)
    clear hHeld
    go_simp
    go_wp2_with (go_at_call 10; refine Calls.mono HT.out ?_; rintro e b ⟨rfl, bb⟩; have Hb := Lib.hid bb; have Tb : Hid (Below w2.heap.size w2 b) := Lib.hid (T.out.trans (bb.mono T.out.size)))
    refine hK.out _ _ (HS.out _ Tb.out) (fun hHeld => ?_)
    clear hK K HT
    have FA := Lib.hid (FA.out.below Hb.out FA.out.lt)
    have FB := Lib.hid (FB.out.below Hb.out FB.out.lt)
    have FC := Lib.hid (FC.out.below Hb.out FC.out.lt)
    have FD := Lib.hid (FD.out.below Hb.out FD.out.lt)
    exact rg1ABCD Q hQ w2 q x0 x1 x2 HS HEnd b Tb mA FA mB FB mC FC mD FD
set_option maxRecDepth 100000 in
set_option maxHeartbeats 4000000 in
theorem rg1ABC (Q : Exit → Act → World → Prop) (hQ : ∀ c d v (a : Act) (w : World), Q (.panic c) (a.put d v) w → Q (.panic c) a w) (w2 : World) (q : Nat) (x0 x1 x2 : Value) (HS : Hid (∀ W, Below w2.heap.size w2 W → (fun W : World => W.cell? ⟨q, 0, none⟩ = some (.int .u8 2) ∧ W.cell? ⟨q, 1, none⟩ = some (.string ⟨#[105, 110, 116]⟩) ∧ W.cell? ⟨q, 2, none⟩ = some (.int .i64 0) ∧ W.cell? ⟨q, 3, none⟩ = some (.slice none 0 0)) W)) (HEnd : Hid (RgEnd Q w2 q x0 x1 x2)) (W : World) (T : Hid (Below w2.heap.size w2 W)) (mA : Nat) (FA : Hid (Blk W mA 24 #[.int .u8 2, .string ⟨#[105, 110, 116]⟩, .int .i64 0, .slice none 0 0, .int .u8 2, .string ⟨#[105, 110, 116]⟩, .int .i64 0, .slice none 0 0])) (mB : Nat) (FB : Hid (Blk W mB 24 #[.int .u8 2, .string ⟨#[105, 110, 116]⟩, .int .i64 0, .slice none 0 0])) (mC : Nat) (FC : Hid (Blk W mC 24 #[.int .u8 2, .string ⟨#[105, 110, 116]⟩, .int .i64 0, .slice none 0 0, .int .u8 2, .string ⟨#[105, 110, 116]⟩, .int .i64 0, .slice none 0 0])) : wpAnyH Tryd.prog .any rops Q (fun W : World => W.cell? ⟨q, 0, none⟩ = some (.int .u8 2) ∧ W.cell? ⟨q, 1, none⟩ = some (.string ⟨#[105, 110, 116]⟩) ∧ W.cell? ⟨q, 2, none⟩ = some (.int .i64 0) ∧ W.cell? ⟨q, 3, none⟩ = some (.slice none 0 0)) 9 #[true, true, true, true, true, true, false, true, true, false, false, false, true, true, true, false, true, false, false, true, false, false] { tmps := #[x0, x1, x2, undef, undef, undef, .bool false, .pointer (some ⟨q, 0, none⟩), undef, undef, undef, undef, undef, undef, undef, undef, .agg #[.int .u8 2, .string ⟨#[105, 110, 116]⟩, .int .i64 0, .slice none 0 0], .agg #[.int .u8 2, .string ⟨#[105, 110, 116]⟩, .int .i64 0, .slice none 0 0], .agg #[.int .u8 2, .string ⟨#[105, 110, 116]⟩, .int .i64 0, .slice none 0 0], .slice (some ⟨mA, 0, none⟩) 2 2, .agg #[.int .u8 3, .string ⟨#[]⟩, .int .i64 0, .slice (some ⟨mA, 0, none⟩) 2 2], .agg #[.int .u8 1, .string ⟨#[39, 98]⟩, .int .i64 0, .slice none 0 0], .agg #[.int .u8 2, .string ⟨#[101, 120, 110]⟩, .int .i64 0, .slice none 0 0], undef, .agg #[.int .u8 2, .string ⟨#[105, 110, 116]⟩, .int .i64 0, .slice none 0 0], .slice (some ⟨mB, 0, none⟩) 1 1, undef, undef, undef, .agg #[.int .u8 2, .string ⟨#[105, 110, 116]⟩, .int .i64 0, .slice none 0 0], .agg #[.int .u8 2, .string ⟨#[105, 110, 116]⟩, .int .i64 0, .slice none 0 0], .slice (some ⟨mC, 0, none⟩) 2 2, undef, .agg #[.int .u8 2, .string ⟨#[105, 110, 116]⟩, .int .i64 0, .slice none 0 0], undef, undef, .agg #[.int .u8 0, .string ⟨#[]⟩, .int .i64 0, .slice none 0 0], undef, undef, undef, undef, undef, undef, undef, undef, undef, undef, undef, undef, undef, undef, undef, undef, undef, undef, undef, undef, undef, undef, undef, undef, undef, undef, undef, undef, undef, undef, undef, undef, undef, undef, undef, undef, undef, undef, undef, undef, undef, undef, undef, undef, undef, undef, undef, undef, undef, undef, undef, undef, undef, undef, undef, undef, undef, undef, undef, undef, undef, undef, undef, undef, undef, undef, undef, undef, undef, undef, undef, undef], defers := [] } W := by
  have hHeld := HS.out W T.out
  refine wpAnyH_ready (rs := [6, 17]) (by kernel_rfl) (by simp) ?_
  refine AllReadyH.cons (o := { dst := some 23, op := Op.call { callee := Callee.value (Operand.func 10), args := #[Operand.const (Value.string { data := #[110, 111, 98, 111, 100, 121] }), Operand.const (Value.slice none 0 0)], argTypes := #[9, 22] }, type := 24, pos := "law.go:211", after := #[{ on := 5, ground := Ground.chain }], guard := none }) rfl (fun K hK => ?_) (AllReadyH.cons (o := { dst := some 34, op := Op.buildSlice 22 1 #[(0, Operand.tmp 33)], type := 22, pos := "law.go:211", after := #[{ on := 16, ground := Ground.data }], guard := none }) rfl (fun K hK => ?_) AllReadyH.nil)
  · have HT := Lib.hid (named_any ⟨#[110, 111, 98, 111, 100, 121]⟩ none 0 0 W)
    clear hHeld
    go_simp
    go_wp2_with (go_at_call 10; refine Calls.mono HT.out ?_; rintro e b ⟨rfl, bb⟩; have Hb := Lib.hid bb; have Tb : Hid (Below w2.heap.size w2 b) := Lib.hid (T.out.trans (bb.mono T.out.size)))
    refine hK.out _ _ (HS.out _ Tb.out) (fun hHeld => ?_)
    clear hK K HT
    have FA := Lib.hid (FA.out.below Hb.out FA.out.lt)
    have FB := Lib.hid (FB.out.below Hb.out FB.out.lt)
    have FC := Lib.hid (FC.out.below Hb.out FC.out.lt)
    exact rg2ABC Q hQ w2 q x0 x1 x2 HS HEnd b Tb mA FA mB FB mC FC
  · obtain ⟨b, hb⟩ : ∃ v, W.alloc (.cells #[.int .u8 2, .string ⟨#[105, 110, 116]⟩, .int .i64 0, .slice none 0 0] 24) = v := ⟨_, rfl⟩
    have bb : Below W.heap.size W b := by rw [← hb]; exact (Below.refl _ _).alloc (Nat.le_refl _) _
    have BB : Blk b W.heap.size 24 #[.int .u8 2, .string ⟨#[105, 110, 116]⟩, .int .i64 0, .slice none 0 0] := by rw [← hb]; exact Blk.new _ _ _
    obtain ⟨mD, hn⟩ : ∃ v, W.heap.size = v := ⟨_, rfl⟩
    rw [hn] at BB
    have H := Lib.hid (And.intro hb (And.intro hn (And.intro bb BB)))
    have Tb : Hid (Below w2.heap.size w2 b) := Lib.hid (T.out.trans (bb.mono T.out.size))
    clear hb hn bb BB
    go_simp
    (try rw [H.out.1])
    (try rw [H.out.2.1])
    refine hK.out _ _ (HS.out _ Tb.out) (fun hHeld => ?_)
    clear hK K
    have FA := Lib.hid (FA.out.below H.out.2.2.1 FA.out.lt)
    have FB := Lib.hid (FB.out.below H.out.2.2.1 FB.out.lt)
    have FC := Lib.hid (FC.out.below H.out.2.2.1 FC.out.lt)
    have FD := Lib.hid H.out.2.2.2
    refine takeY (oi := { dst := some 35, op := Op.build 24 #[(0, Operand.const (Value.int IntKind.u8 4)), (3, Operand.tmp 34)], type := 24, pos := "law.go:211", after := #[{ on := 17, ground := Ground.data }], guard := none }) 18 (some 35) rfl rfl (by kernel_rfl) (by kernel_rfl) (by kernel_rfl) (fun _ _ _ h => hQ _ _ _ _ _ h) (by rfl) (v := _) (by (intro _ hSw; (try dsimp only at hSw); go_simp; try with_reducible rfl)) hHeld ?_
    simp only [Act.put, List.setIfInBounds_toArray, List.set_cons_zero, List.set_cons_succ]
    exact rg1ABCD Q hQ w2 q x0 x1 x2 HS HEnd b Tb mA FA mB FB mC FC mD FD
set_option maxRecDepth 100000 in
set_option maxHeartbeats 4000000 in
theorem rg1ABD (Q : Exit → Act → World → Prop) (hQ : ∀ c d v (a : Act) (w : World), Q (.panic c) (a.put d v) w → Q (.panic c) a w) (w2 : World) (q : Nat) (x0 x1 x2 : Value) (HS : Hid (∀ W, Below w2.heap.size w2 W → (fun W : World => W.cell? ⟨q, 0, none⟩ = some (.int .u8 2) ∧ W.cell? ⟨q, 1, none⟩ = some (.string ⟨#[105, 110, 116]⟩) ∧ W.cell? ⟨q, 2, none⟩ = some (.int .i64 0) ∧ W.cell? ⟨q, 3, none⟩ = some (.slice none 0 0)) W)) (HEnd : Hid (RgEnd Q w2 q x0 x1 x2)) (W : World) (T : Hid (Below w2.heap.size w2 W)) (mA : Nat) (FA : Hid (Blk W mA 24 #[.int .u8 2, .string ⟨#[105, 110, 116]⟩, .int .i64 0, .slice none 0 0, .int .u8 2, .string ⟨#[105, 110, 116]⟩, .int .i64 0, .slice none 0 0])) (mB : Nat) (FB : Hid (Blk W mB 24 #[.int .u8 2, .string ⟨#[105, 110, 116]⟩, .int .i64 0, .slice none 0 0])) (mD : Nat) (FD : Hid (Blk W mD 24 #[.int .u8 2, .string ⟨#[105, 110, 116]⟩, .int .i64 0, .slice none 0 0])) : wpAnyH Tryd.prog .any rops Q (fun W : World => W.cell? ⟨q, 0, none⟩ = some (.int .u8 2) ∧ W.cell? ⟨q, 1, none⟩ = some (.string ⟨#[105, 110, 116]⟩) ∧ W.cell? ⟨q, 2, none⟩ = some (.int .i64 0) ∧ W.cell? ⟨q, 3, none⟩ = some (.slice none 0 0)) 8 #[true, true, true, true, true, true, false, true, true, false, false, false, true, true, false, false, true, true, true, true, false, false] { tmps := #[x0, x1, x2, undef, undef, undef, .bool false, .pointer (some ⟨q, 0, none⟩), undef, undef, undef, undef, undef, undef, undef, undef, .agg #[.int .u8 2, .string ⟨#[105, 110, 116]⟩, .int .i64 0, .slice none 0 0], .agg #[.int .u8 2, .string ⟨#[105, 110, 116]⟩, .int .i64 0, .slice none 0 0], .agg #[.int .u8 2, .string ⟨#[105, 110, 116]⟩, .int .i64 0, .slice none 0 0], .slice (some ⟨mA, 0, none⟩) 2 2, .agg #[.int .u8 3, .string ⟨#[]⟩, .int .i64 0, .slice (some ⟨mA, 0, none⟩) 2 2], .agg #[.int .u8 1, .string ⟨#[39, 98]⟩, .int .i64 0, .slice none 0 0], .agg #[.int .u8 2, .string ⟨#[101, 120, 110]⟩, .int .i64 0, .slice none 0 0], undef, .agg #[.int .u8 2, .string ⟨#[105, 110, 116]⟩, .int .i64 0, .slice none 0 0], .slice (some ⟨mB, 0, none⟩) 1 1, undef, undef, undef, .agg #[.int .u8 2, .string ⟨#[105, 110, 116]⟩, .int .i64 0, .slice none 0 0], .agg #[.int .u8 2, .string ⟨#[105, 110, 116]⟩, .int .i64 0, .slice none 0 0], undef, undef, .agg #[.int .u8 2, .string ⟨#[105, 110, 116]⟩, .int .i64 0, .slice none 0 0], .slice (some ⟨mD, 0, none⟩) 1 1, .agg #[.int .u8 4, .string ⟨#[]⟩, .int .i64 0, .slice (some ⟨mD, 0, none⟩) 1 1], .agg #[.int .u8 0, .string ⟨#[]⟩, .int .i64 0, .slice none 0 0], undef, undef, undef, undef, undef, undef, undef, undef, undef, undef, undef, undef, undef, undef, undef, undef, undef, undef, undef, undef, undef, undef, undef, undef, undef, undef, undef, undef, undef, undef, undef, undef, undef, undef, undef, undef, undef, undef, undef, undef, undef, undef, undef, undef, undef, undef, undef, undef, undef, undef, undef, undef, undef, undef, undef, undef, undef, undef, undef, undef, undef, undef, undef, undef, undef, undef, undef, undef, undef, undef, undef, undef], defers := [] } W := by
  have hHeld := HS.out W T.out
  refine wpAnyH_ready (rs := [6, 14]) (by kernel_rfl) (by simp) ?_
  refine AllReadyH.cons (o := { dst := some 23, op := Op.call { callee := Callee.value (Operand.func 10), args := #[Operand.const (Value.string { data := #[110, 111, 98, 111, 100, 121] }), Operand.const (Value.slice none 0 0)], argTypes := #[9, 22] }, type := 24, pos := "law.go:211", after := #[{ on := 5, ground := Ground.chain }], guard := none }) rfl (fun K hK => ?_) (AllReadyH.cons (o := { dst := some 31, op := Op.buildSlice 22 2 #[(0, Operand.tmp 29), (1, Operand.tmp 30)], type := 22, pos := "law.go:211", after := #[{ on := 12, ground := Ground.data }, { on := 13, ground := Ground.data }], guard := none }) rfl (fun K hK => ?_) AllReadyH.nil)
  · have HT := Lib.hid (named_any ⟨#[110, 111, 98, 111, 100, 121]⟩ none 0 0 W)
    clear hHeld
    go_simp
    go_wp2_with (go_at_call 10; refine Calls.mono HT.out ?_; rintro e b ⟨rfl, bb⟩; have Hb := Lib.hid bb; have Tb : Hid (Below w2.heap.size w2 b) := Lib.hid (T.out.trans (bb.mono T.out.size)))
    refine hK.out _ _ (HS.out _ Tb.out) (fun hHeld => ?_)
    clear hK K HT
    have FA := Lib.hid (FA.out.below Hb.out FA.out.lt)
    have FB := Lib.hid (FB.out.below Hb.out FB.out.lt)
    have FD := Lib.hid (FD.out.below Hb.out FD.out.lt)
    exact rg2ABD Q hQ w2 q x0 x1 x2 HS HEnd b Tb mA FA mB FB mD FD
  · obtain ⟨b, hb⟩ : ∃ v, W.alloc (.cells #[.int .u8 2, .string ⟨#[105, 110, 116]⟩, .int .i64 0, .slice none 0 0, .int .u8 2, .string ⟨#[105, 110, 116]⟩, .int .i64 0, .slice none 0 0] 24) = v := ⟨_, rfl⟩
    have bb : Below W.heap.size W b := by rw [← hb]; exact (Below.refl _ _).alloc (Nat.le_refl _) _
    have BB : Blk b W.heap.size 24 #[.int .u8 2, .string ⟨#[105, 110, 116]⟩, .int .i64 0, .slice none 0 0, .int .u8 2, .string ⟨#[105, 110, 116]⟩, .int .i64 0, .slice none 0 0] := by rw [← hb]; exact Blk.new _ _ _
    obtain ⟨mC, hn⟩ : ∃ v, W.heap.size = v := ⟨_, rfl⟩
    rw [hn] at BB
    have H := Lib.hid (And.intro hb (And.intro hn (And.intro bb BB)))
    have Tb : Hid (Below w2.heap.size w2 b) := Lib.hid (T.out.trans (bb.mono T.out.size))
    clear hb hn bb BB
    go_simp
    (try rw [H.out.1])
    (try rw [H.out.2.1])
    refine hK.out _ _ (HS.out _ Tb.out) (fun hHeld => ?_)
    clear hK K
    have FA := Lib.hid (FA.out.below H.out.2.2.1 FA.out.lt)
    have FB := Lib.hid (FB.out.below H.out.2.2.1 FB.out.lt)
    have FD := Lib.hid (FD.out.below H.out.2.2.1 FD.out.lt)
    have FC := Lib.hid H.out.2.2.2
    exact rg1ABCD Q hQ w2 q x0 x1 x2 HS HEnd b Tb mA FA mB FB mC FC mD FD
set_option maxRecDepth 100000 in
set_option maxHeartbeats 4000000 in
theorem rg1ACD (Q : Exit → Act → World → Prop) (hQ : ∀ c d v (a : Act) (w : World), Q (.panic c) (a.put d v) w → Q (.panic c) a w) (w2 : World) (q : Nat) (x0 x1 x2 : Value) (HS : Hid (∀ W, Below w2.heap.size w2 W → (fun W : World => W.cell? ⟨q, 0, none⟩ = some (.int .u8 2) ∧ W.cell? ⟨q, 1, none⟩ = some (.string ⟨#[105, 110, 116]⟩) ∧ W.cell? ⟨q, 2, none⟩ = some (.int .i64 0) ∧ W.cell? ⟨q, 3, none⟩ = some (.slice none 0 0)) W)) (HEnd : Hid (RgEnd Q w2 q x0 x1 x2)) (W : World) (T : Hid (Below w2.heap.size w2 W)) (mA : Nat) (FA : Hid (Blk W mA 24 #[.int .u8 2, .string ⟨#[105, 110, 116]⟩, .int .i64 0, .slice none 0 0, .int .u8 2, .string ⟨#[105, 110, 116]⟩, .int .i64 0, .slice none 0 0])) (mC : Nat) (FC : Hid (Blk W mC 24 #[.int .u8 2, .string ⟨#[105, 110, 116]⟩, .int .i64 0, .slice none 0 0, .int .u8 2, .string ⟨#[105, 110, 116]⟩, .int .i64 0, .slice none 0 0])) (mD : Nat) (FD : Hid (Blk W mD 24 #[.int .u8 2, .string ⟨#[105, 110, 116]⟩, .int .i64 0, .slice none 0 0])) : wpAnyH Tryd.prog .any rops Q (fun W : World => W.cell? ⟨q, 0, none⟩ = some (.int .u8 2) ∧ W.cell? ⟨q, 1, none⟩ = some (.string ⟨#[105, 110, 116]⟩) ∧ W.cell? ⟨q, 2, none⟩ = some (.int .i64 0) ∧ W.cell? ⟨q, 3, none⟩ = some (.slice none 0 0)) 8 #[true, true, true, true, true, true, false, true, false, false, false, false, true, true, true, false, true, true, true, true, false, false] { tmps := #[x0, x1, x2, undef, undef, undef, .bool false, .pointer (some ⟨q, 0, none⟩), undef, undef, undef, undef, undef, undef, undef, undef, .agg #[.int .u8 2, .string ⟨#[105, 110, 116]⟩, .int .i64 0, .slice none 0 0], .agg #[.int .u8 2, .string ⟨#[105, 110, 116]⟩, .int .i64 0, .slice none 0 0], .agg #[.int .u8 2, .string ⟨#[105, 110, 116]⟩, .int .i64 0, .slice none 0 0], .slice (some ⟨mA, 0, none⟩) 2 2, .agg #[.int .u8 3, .string ⟨#[]⟩, .int .i64 0, .slice (some ⟨mA, 0, none⟩) 2 2], .agg #[.int .u8 1, .string ⟨#[39, 98]⟩, .int .i64 0, .slice none 0 0], .agg #[.int .u8 2, .string ⟨#[101, 120, 110]⟩, .int .i64 0, .slice none 0 0], undef, .agg #[.int .u8 2, .string ⟨#[105, 110, 116]⟩, .int .i64 0, .slice none 0 0], undef, undef, undef, undef, .agg #[.int .u8 2, .string ⟨#[105, 110, 116]⟩, .int .i64 0, .slice none 0 0], .agg #[.int .u8 2, .string ⟨#[105, 110, 116]⟩, .int .i64 0, .slice none 0 0], .slice (some ⟨mC, 0, none⟩) 2 2, undef, .agg #[.int .u8 2, .string ⟨#[105, 110, 116]⟩, .int .i64 0, .slice none 0 0], .slice (some ⟨mD, 0, none⟩) 1 1, .agg #[.int .u8 4, .string ⟨#[]⟩, .int .i64 0, .slice (some ⟨mD, 0, none⟩) 1 1], .agg #[.int .u8 0, .string ⟨#[]⟩, .int .i64 0, .slice none 0 0], undef, undef, undef, undef, undef, undef, undef, undef, undef, undef, undef, undef, undef, undef, undef, undef, undef, undef, undef, undef, undef, undef, undef, undef, undef, undef, undef, undef, undef, undef, undef, undef, undef, undef, undef, undef, undef, undef, undef, undef, undef, undef, undef, undef, undef, undef, undef, undef, undef, undef, undef, undef, undef, undef, undef, undef, undef, undef, undef, undef, undef, undef, undef, undef, undef, undef, undef, undef, undef, undef, undef, undef], defers := [] } W := by
  have hHeld := HS.out W T.out
  refine wpAnyH_ready (rs := [6, 8]) (by kernel_rfl) (by simp) ?_
  refine AllReadyH.cons (o := { dst := some 23, op := Op.call { callee := Callee.value (Operand.func 10), args := #[Operand.const (Value.string { data := #[110, 111, 98, 111, 100, 121] }), Operand.const (Value.slice none 0 0)], argTypes := #[9, 22] }, type := 24, pos := "law.go:211", after := #[{ on := 5, ground := Ground.chain }], guard := none }) rfl (fun K hK => ?_) (AllReadyH.cons (o := { dst := some 25, op := Op.buildSlice 22 1 #[(0, Operand.tmp 24)], type := 22, pos := "law.go:211", after := #[{ on := 7, ground := Ground.data }], guard := none }) rfl (fun K hK => ?_) AllReadyH.nil)
  · have HT := Lib.hid (named_any ⟨#[110, 111, 98, 111, 100, 121]⟩ none 0 0 W)
    clear hHeld
    go_simp
    go_wp2_with (go_at_call 10; refine Calls.mono HT.out ?_; rintro e b ⟨rfl, bb⟩; have Hb := Lib.hid bb; have Tb : Hid (Below w2.heap.size w2 b) := Lib.hid (T.out.trans (bb.mono T.out.size)))
    refine hK.out _ _ (HS.out _ Tb.out) (fun hHeld => ?_)
    clear hK K HT
    have FA := Lib.hid (FA.out.below Hb.out FA.out.lt)
    have FC := Lib.hid (FC.out.below Hb.out FC.out.lt)
    have FD := Lib.hid (FD.out.below Hb.out FD.out.lt)
    exact rg2ACD Q hQ w2 q x0 x1 x2 HS HEnd b Tb mA FA mC FC mD FD
  · obtain ⟨b, hb⟩ : ∃ v, W.alloc (.cells #[.int .u8 2, .string ⟨#[105, 110, 116]⟩, .int .i64 0, .slice none 0 0] 24) = v := ⟨_, rfl⟩
    have bb : Below W.heap.size W b := by rw [← hb]; exact (Below.refl _ _).alloc (Nat.le_refl _) _
    have BB : Blk b W.heap.size 24 #[.int .u8 2, .string ⟨#[105, 110, 116]⟩, .int .i64 0, .slice none 0 0] := by rw [← hb]; exact Blk.new _ _ _
    obtain ⟨mB, hn⟩ : ∃ v, W.heap.size = v := ⟨_, rfl⟩
    rw [hn] at BB
    have H := Lib.hid (And.intro hb (And.intro hn (And.intro bb BB)))
    have Tb : Hid (Below w2.heap.size w2 b) := Lib.hid (T.out.trans (bb.mono T.out.size))
    clear hb hn bb BB
    go_simp
    (try rw [H.out.1])
    (try rw [H.out.2.1])
    refine hK.out _ _ (HS.out _ Tb.out) (fun hHeld => ?_)
    clear hK K
    have FA := Lib.hid (FA.out.below H.out.2.2.1 FA.out.lt)
    have FC := Lib.hid (FC.out.below H.out.2.2.1 FC.out.lt)
    have FD := Lib.hid (FD.out.below H.out.2.2.1 FD.out.lt)
    have FB := Lib.hid H.out.2.2.2
    exact rg1ABCD Q hQ w2 q x0 x1 x2 HS HEnd b Tb mA FA mB FB mC FC mD FD
set_option maxRecDepth 100000 in
set_option maxHeartbeats 4000000 in
theorem rg1BCD (Q : Exit → Act → World → Prop) (hQ : ∀ c d v (a : Act) (w : World), Q (.panic c) (a.put d v) w → Q (.panic c) a w) (w2 : World) (q : Nat) (x0 x1 x2 : Value) (HS : Hid (∀ W, Below w2.heap.size w2 W → (fun W : World => W.cell? ⟨q, 0, none⟩ = some (.int .u8 2) ∧ W.cell? ⟨q, 1, none⟩ = some (.string ⟨#[105, 110, 116]⟩) ∧ W.cell? ⟨q, 2, none⟩ = some (.int .i64 0) ∧ W.cell? ⟨q, 3, none⟩ = some (.slice none 0 0)) W)) (HEnd : Hid (RgEnd Q w2 q x0 x1 x2)) (W : World) (T : Hid (Below w2.heap.size w2 W)) (mB : Nat) (FB : Hid (Blk W mB 24 #[.int .u8 2, .string ⟨#[105, 110, 116]⟩, .int .i64 0, .slice none 0 0])) (mC : Nat) (FC : Hid (Blk W mC 24 #[.int .u8 2, .string ⟨#[105, 110, 116]⟩, .int .i64 0, .slice none 0 0, .int .u8 2, .string ⟨#[105, 110, 116]⟩, .int .i64 0, .slice none 0 0])) (mD : Nat) (FD : Hid (Blk W mD 24 #[.int .u8 2, .string ⟨#[105, 110, 116]⟩, .int .i64 0, .slice none 0 0])) : wpAnyH Tryd.prog .any rops Q (fun W : World => W.cell? ⟨q, 0, none⟩ = some (.int .u8 2) ∧ W.cell? ⟨q, 1, none⟩ = some (.string ⟨#[105, 110, 116]⟩) ∧ W.cell? ⟨q, 2, none⟩ = some (.int .i64 0) ∧ W.cell? ⟨q, 3, none⟩ = some (.slice none 0 0)) 9 #[true, true, false, false, true, true, false, true, true, false, false, false, true, true, true, false, true, true, true, true, false, false] { tmps := #[x0, x1, x2, undef, undef, undef, .bool false, .pointer (some ⟨q, 0, none⟩), undef, undef, undef, undef, undef, undef, undef, undef, .agg #[.int .u8 2, .string ⟨#[105, 110, 116]⟩, .int .i64 0, .slice none 0 0], .agg #[.int .u8 2, .string ⟨#[105, 110, 116]⟩, .int .i64 0, .slice none 0 0], .agg #[.int .u8 2, .string ⟨#[105, 110, 116]⟩, .int .i64 0, .slice none 0 0], undef, undef, .agg #[.int .u8 1, .string ⟨#[39, 98]⟩, .int .i64 0, .slice none 0 0], .agg #[.int .u8 2, .string ⟨#[101, 120, 110]⟩, .int .i64 0, .slice none 0 0], undef, .agg #[.int .u8 2, .string ⟨#[105, 110, 116]⟩, .int .i64 0, .slice none 0 0], .slice (some ⟨mB, 0, none⟩) 1 1, undef, undef, undef, .agg #[.int .u8 2, .string ⟨#[105, 110, 116]⟩, .int .i64 0, .slice none 0 0], .agg #[.int .u8 2, .string ⟨#[105, 110, 116]⟩, .int .i64 0, .slice none 0 0], .slice (some ⟨mC, 0, none⟩) 2 2, undef, .agg #[.int .u8 2, .string ⟨#[105, 110, 116]⟩, .int .i64 0, .slice none 0 0], .slice (some ⟨mD, 0, none⟩) 1 1, .agg #[.int .u8 4, .string ⟨#[]⟩, .int .i64 0, .slice (some ⟨mD, 0, none⟩) 1 1], .agg #[.int .u8 0, .string ⟨#[]⟩, .int .i64 0, .slice none 0 0], undef, undef, undef, undef, undef, undef, undef, undef, undef, undef, undef, undef, undef, undef, undef, undef, undef, undef, undef, undef, undef, undef, undef, undef, undef, undef, undef, undef, undef, undef, undef, undef, undef, undef, undef, undef, undef, undef, undef, undef, undef, undef, undef, undef, undef, undef, undef, undef, undef, undef, undef, undef, undef, undef, undef, undef, undef, undef, undef, undef, undef, undef, undef, undef, undef, undef, undef, undef, undef, undef, undef, undef], defers := [] } W := by
  have hHeld := HS.out W T.out
  refine wpAnyH_ready (rs := [2, 6]) (by kernel_rfl) (by simp) ?_
  refine AllReadyH.cons (o := { dst := some 19, op := Op.buildSlice 22 2 #[(0, Operand.tmp 17), (1, Operand.tmp 18)], type := 22, pos := "law.go:211", after := #[{ on := 0, ground := Ground.data }, { on := 1, ground := Ground.data }], guard := none }) rfl (fun K hK => ?_) (AllReadyH.cons (o := { dst := some 23, op := Op.call { callee := Callee.value (Operand.func 10), args := #[Operand.const (Value.string { data := #[110, 111, 98, 111, 100, 121] }), Operand.const (Value.slice none 0 0)], argTypes := #[9, 22] }, type := 24, pos := "law.go:211", after := #[{ on := 5, ground := Ground.chain }], guard := none }) rfl (fun K hK => ?_) AllReadyH.nil)
  · obtain ⟨b, hb⟩ : ∃ v, W.alloc (.cells #[.int .u8 2, .string ⟨#[105, 110, 116]⟩, .int .i64 0, .slice none 0 0, .int .u8 2, .string ⟨#[105, 110, 116]⟩, .int .i64 0, .slice none 0 0] 24) = v := ⟨_, rfl⟩
    have bb : Below W.heap.size W b := by rw [← hb]; exact (Below.refl _ _).alloc (Nat.le_refl _) _
    have BB : Blk b W.heap.size 24 #[.int .u8 2, .string ⟨#[105, 110, 116]⟩, .int .i64 0, .slice none 0 0, .int .u8 2, .string ⟨#[105, 110, 116]⟩, .int .i64 0, .slice none 0 0] := by rw [← hb]; exact Blk.new _ _ _
    obtain ⟨mA, hn⟩ : ∃ v, W.heap.size = v := ⟨_, rfl⟩
    rw [hn] at BB
    have H := Lib.hid (And.intro hb (And.intro hn (And.intro bb BB)))
    have Tb : Hid (Below w2.heap.size w2 b) := Lib.hid (T.out.trans (bb.mono T.out.size))
    clear hb hn bb BB
    go_simp
    (try rw [H.out.1])
    (try rw [H.out.2.1])
    refine hK.out _ _ (HS.out _ Tb.out) (fun hHeld => ?_)
    clear hK K
    have FB := Lib.hid (FB.out.below H.out.2.2.1 FB.out.lt)
    have FC := Lib.hid (FC.out.below H.out.2.2.1 FC.out.lt)
    have FD := Lib.hid (FD.out.below H.out.2.2.1 FD.out.lt)
    have FA := Lib.hid H.out.2.2.2
    refine takeY (oi := { dst := some 20, op := Op.build 24 #[(0, Operand.const (Value.int IntKind.u8 3)), (3, Operand.tmp 19)], type := 24, pos := "law.go:211", after := #[{ on := 2, ground := Ground.data }], guard := none }) 3 (some 20) rfl rfl (by kernel_rfl) (by kernel_rfl) (by kernel_rfl) (fun _ _ _ h => hQ _ _ _ _ _ h) (by rfl) (v := _) (by (intro _ hSw; (try dsimp only at hSw); go_simp; try with_reducible rfl)) hHeld ?_
    simp only [Act.put, List.setIfInBounds_toArray, List.set_cons_zero, List.set_cons_succ]
    exact rg1ABCD Q hQ w2 q x0 x1 x2 HS HEnd b Tb mA FA mB FB mC FC mD FD
  · have HT := Lib.hid (named_any ⟨#[110, 111, 98, 111, 100, 121]⟩ none 0 0 W)
    clear hHeld
    go_simp
    go_wp2_with (go_at_call 10; refine Calls.mono HT.out ?_; rintro e b ⟨rfl, bb⟩; have Hb := Lib.hid bb; have Tb : Hid (Below w2.heap.size w2 b) := Lib.hid (T.out.trans (bb.mono T.out.size)))
    refine hK.out _ _ (HS.out _ Tb.out) (fun hHeld => ?_)
    clear hK K HT
    have FB := Lib.hid (FB.out.below Hb.out FB.out.lt)
    have FC := Lib.hid (FC.out.below Hb.out FC.out.lt)
    have FD := Lib.hid (FD.out.below Hb.out FD.out.lt)
    exact rg2BCD Q hQ w2 q x0 x1 x2 HS HEnd b Tb mB FB mC FC mD FD
end Go.Proofs.YtadogebhkldeiaaDoor
