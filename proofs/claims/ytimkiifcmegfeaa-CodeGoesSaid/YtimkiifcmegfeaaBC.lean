/- Contracts, part BC. -/
import Derived.Test.YtimkiifcmegfeaaBA
/- code: the reference's Takes (written by cdrtakes.py). -/
namespace Go.Proofs.Ytimkiifcmegfeaa
open Go.RowKit
set_option linter.unusedVariables false
set_option linter.unusedSimpArgs false
attribute [local go_sem] Oper.semAt_some
set_option maxRecDepth 20000 in
set_option maxHeartbeats 4000000 in
theorem rtakes0 (s : List UInt8) (w : World)  (h0 : s = [112, 114, 105, 110, 116]) : Calls Try.prog 23 #[.string (str s)] w fun e w' => e = .returned (.tuple #[.int .i64 1, .bool true]) ∧ w = w' := by
  have q0 : ((str s).toList == [112, 114, 105, 110, 116]) = true := by rw [str_toList]; rw [h0]; rfl
  clear h0
  go_enter Try.func23, Try.ntmps23
  go_wp2_with fail
  go_ret2
  exact ⟨rfl, rfl⟩
set_option maxRecDepth 20000 in
set_option maxHeartbeats 4000000 in
theorem rtakes1 (s : List UInt8) (w : World) (h0 : s ≠ [112, 114, 105, 110, 116]) (h1 : s = [105, 116, 111, 115]) : Calls Try.prog 23 #[.string (str s)] w fun e w' => e = .returned (.tuple #[.int .i64 1, .bool true]) ∧ w = w' := by
  have q0 : ((str s).toList == [112, 114, 105, 110, 116]) = false := by rw [str_toList]; exact beq_eq_false_iff_ne.2 h0
  have q1 : ((str s).toList == [105, 116, 111, 115]) = true := by rw [str_toList]; rw [h1]; rfl
  clear h0 h1
  go_enter Try.func23, Try.ntmps23
  go_wp2_with fail
  go_ret2
  exact ⟨rfl, rfl⟩
set_option maxRecDepth 20000 in
set_option maxHeartbeats 4000000 in
theorem rtakes2 (s : List UInt8) (w : World) (h0 : s ≠ [112, 114, 105, 110, 116]) (h1 : s ≠ [105, 116, 111, 115]) (h2 : s = [115, 105, 122, 101]) : Calls Try.prog 23 #[.string (str s)] w fun e w' => e = .returned (.tuple #[.int .i64 1, .bool true]) ∧ w = w' := by
  have q0 : ((str s).toList == [112, 114, 105, 110, 116]) = false := by rw [str_toList]; exact beq_eq_false_iff_ne.2 h0
  have q1 : ((str s).toList == [105, 116, 111, 115]) = false := by rw [str_toList]; exact beq_eq_false_iff_ne.2 h1
  have q2 : ((str s).toList == [115, 105, 122, 101]) = true := by rw [str_toList]; rw [h2]; rfl
  clear h0 h1 h2
  go_enter Try.func23, Try.ntmps23
  go_wp2_with fail
  go_ret2
  exact ⟨rfl, rfl⟩
set_option maxRecDepth 20000 in
set_option maxHeartbeats 4000000 in
theorem rtakes3 (s : List UInt8) (w : World) (h0 : s ≠ [112, 114, 105, 110, 116]) (h1 : s ≠ [105, 116, 111, 115]) (h2 : s ≠ [115, 105, 122, 101]) (h3 : s = [110, 111, 116]) : Calls Try.prog 23 #[.string (str s)] w fun e w' => e = .returned (.tuple #[.int .i64 1, .bool true]) ∧ w = w' := by
  have q0 : ((str s).toList == [112, 114, 105, 110, 116]) = false := by rw [str_toList]; exact beq_eq_false_iff_ne.2 h0
  have q1 : ((str s).toList == [105, 116, 111, 115]) = false := by rw [str_toList]; exact beq_eq_false_iff_ne.2 h1
  have q2 : ((str s).toList == [115, 105, 122, 101]) = false := by rw [str_toList]; exact beq_eq_false_iff_ne.2 h2
  have q3 : ((str s).toList == [110, 111, 116]) = true := by rw [str_toList]; rw [h3]; rfl
  clear h0 h1 h2 h3
  go_enter Try.func23, Try.ntmps23
  go_wp2_with fail
  go_ret2
  exact ⟨rfl, rfl⟩
set_option maxRecDepth 20000 in
set_option maxHeartbeats 4000000 in
theorem rtakes4 (s : List UInt8) (w : World) (h0 : s ≠ [112, 114, 105, 110, 116]) (h1 : s ≠ [105, 116, 111, 115]) (h2 : s ≠ [115, 105, 122, 101]) (h3 : s ≠ [110, 111, 116]) (h4 : s = [114, 101, 102]) : Calls Try.prog 23 #[.string (str s)] w fun e w' => e = .returned (.tuple #[.int .i64 1, .bool true]) ∧ w = w' := by
  have q0 : ((str s).toList == [112, 114, 105, 110, 116]) = false := by rw [str_toList]; exact beq_eq_false_iff_ne.2 h0
  have q1 : ((str s).toList == [105, 116, 111, 115]) = false := by rw [str_toList]; exact beq_eq_false_iff_ne.2 h1
  have q2 : ((str s).toList == [115, 105, 122, 101]) = false := by rw [str_toList]; exact beq_eq_false_iff_ne.2 h2
  have q3 : ((str s).toList == [110, 111, 116]) = false := by rw [str_toList]; exact beq_eq_false_iff_ne.2 h3
  have q4 : ((str s).toList == [114, 101, 102]) = true := by rw [str_toList]; rw [h4]; rfl
  clear h0 h1 h2 h3 h4
  go_enter Try.func23, Try.ntmps23
  go_wp2_with fail
  go_ret2
  exact ⟨rfl, rfl⟩
set_option maxRecDepth 20000 in
set_option maxHeartbeats 4000000 in
theorem rtakes5 (s : List UInt8) (w : World) (h0 : s ≠ [112, 114, 105, 110, 116]) (h1 : s ≠ [105, 116, 111, 115]) (h2 : s ≠ [115, 105, 122, 101]) (h3 : s ≠ [110, 111, 116]) (h4 : s ≠ [114, 101, 102]) (h5 : s = [108, 101, 110]) : Calls Try.prog 23 #[.string (str s)] w fun e w' => e = .returned (.tuple #[.int .i64 1, .bool true]) ∧ w = w' := by
  have q0 : ((str s).toList == [112, 114, 105, 110, 116]) = false := by rw [str_toList]; exact beq_eq_false_iff_ne.2 h0
  have q1 : ((str s).toList == [105, 116, 111, 115]) = false := by rw [str_toList]; exact beq_eq_false_iff_ne.2 h1
  have q2 : ((str s).toList == [115, 105, 122, 101]) = false := by rw [str_toList]; exact beq_eq_false_iff_ne.2 h2
  have q3 : ((str s).toList == [110, 111, 116]) = false := by rw [str_toList]; exact beq_eq_false_iff_ne.2 h3
  have q4 : ((str s).toList == [114, 101, 102]) = false := by rw [str_toList]; exact beq_eq_false_iff_ne.2 h4
  have q5 : ((str s).toList == [108, 101, 110]) = true := by rw [str_toList]; rw [h5]; rfl
  clear h0 h1 h2 h3 h4 h5
  go_enter Try.func23, Try.ntmps23
  go_wp2_with fail
  go_ret2
  exact ⟨rfl, rfl⟩
set_option maxRecDepth 20000 in
set_option maxHeartbeats 4000000 in
theorem rtakes6 (s : List UInt8) (w : World) (h0 : s ≠ [112, 114, 105, 110, 116]) (h1 : s ≠ [105, 116, 111, 115]) (h2 : s ≠ [115, 105, 122, 101]) (h3 : s ≠ [110, 111, 116]) (h4 : s ≠ [114, 101, 102]) (h5 : s ≠ [108, 101, 110]) (h6 : s = [99, 111, 109, 109, 105, 116]) : Calls Try.prog 23 #[.string (str s)] w fun e w' => e = .returned (.tuple #[.int .i64 1, .bool true]) ∧ w = w' := by
  have q0 : ((str s).toList == [112, 114, 105, 110, 116]) = false := by rw [str_toList]; exact beq_eq_false_iff_ne.2 h0
  have q1 : ((str s).toList == [105, 116, 111, 115]) = false := by rw [str_toList]; exact beq_eq_false_iff_ne.2 h1
  have q2 : ((str s).toList == [115, 105, 122, 101]) = false := by rw [str_toList]; exact beq_eq_false_iff_ne.2 h2
  have q3 : ((str s).toList == [110, 111, 116]) = false := by rw [str_toList]; exact beq_eq_false_iff_ne.2 h3
  have q4 : ((str s).toList == [114, 101, 102]) = false := by rw [str_toList]; exact beq_eq_false_iff_ne.2 h4
  have q5 : ((str s).toList == [108, 101, 110]) = false := by rw [str_toList]; exact beq_eq_false_iff_ne.2 h5
  have q6 : ((str s).toList == [99, 111, 109, 109, 105, 116]) = true := by rw [str_toList]; rw [h6]; rfl
  clear h0 h1 h2 h3 h4 h5 h6
  go_enter Try.func23, Try.ntmps23
  go_wp2_with fail
  go_ret2
  exact ⟨rfl, rfl⟩
set_option maxRecDepth 20000 in
set_option maxHeartbeats 4000000 in
theorem rtakes7 (s : List UInt8) (w : World) (h0 : s ≠ [112, 114, 105, 110, 116]) (h1 : s ≠ [105, 116, 111, 115]) (h2 : s ≠ [115, 105, 122, 101]) (h3 : s ≠ [110, 111, 116]) (h4 : s ≠ [114, 101, 102]) (h5 : s ≠ [108, 101, 110]) (h6 : s ≠ [99, 111, 109, 109, 105, 116]) (h7 : s = [97, 98, 111, 114, 116]) : Calls Try.prog 23 #[.string (str s)] w fun e w' => e = .returned (.tuple #[.int .i64 1, .bool true]) ∧ w = w' := by
  have q0 : ((str s).toList == [112, 114, 105, 110, 116]) = false := by rw [str_toList]; exact beq_eq_false_iff_ne.2 h0
  have q1 : ((str s).toList == [105, 116, 111, 115]) = false := by rw [str_toList]; exact beq_eq_false_iff_ne.2 h1
  have q2 : ((str s).toList == [115, 105, 122, 101]) = false := by rw [str_toList]; exact beq_eq_false_iff_ne.2 h2
  have q3 : ((str s).toList == [110, 111, 116]) = false := by rw [str_toList]; exact beq_eq_false_iff_ne.2 h3
  have q4 : ((str s).toList == [114, 101, 102]) = false := by rw [str_toList]; exact beq_eq_false_iff_ne.2 h4
  have q5 : ((str s).toList == [108, 101, 110]) = false := by rw [str_toList]; exact beq_eq_false_iff_ne.2 h5
  have q6 : ((str s).toList == [99, 111, 109, 109, 105, 116]) = false := by rw [str_toList]; exact beq_eq_false_iff_ne.2 h6
  have q7 : ((str s).toList == [97, 98, 111, 114, 116]) = true := by rw [str_toList]; rw [h7]; rfl
  clear h0 h1 h2 h3 h4 h5 h6 h7
  go_enter Try.func23, Try.ntmps23
  go_wp2_with fail
  go_ret2
  exact ⟨rfl, rfl⟩
set_option maxRecDepth 20000 in
set_option maxHeartbeats 4000000 in
theorem rtakes8 (s : List UInt8) (w : World) (h0 : s ≠ [112, 114, 105, 110, 116]) (h1 : s ≠ [105, 116, 111, 115]) (h2 : s ≠ [115, 105, 122, 101]) (h3 : s ≠ [110, 111, 116]) (h4 : s ≠ [114, 101, 102]) (h5 : s ≠ [108, 101, 110]) (h6 : s ≠ [99, 111, 109, 109, 105, 116]) (h7 : s ≠ [97, 98, 111, 114, 116]) (h8 : s = [126]) : Calls Try.prog 23 #[.string (str s)] w fun e w' => e = .returned (.tuple #[.int .i64 1, .bool true]) ∧ w = w' := by
  have q0 : ((str s).toList == [112, 114, 105, 110, 116]) = false := by rw [str_toList]; exact beq_eq_false_iff_ne.2 h0
  have q1 : ((str s).toList == [105, 116, 111, 115]) = false := by rw [str_toList]; exact beq_eq_false_iff_ne.2 h1
  have q2 : ((str s).toList == [115, 105, 122, 101]) = false := by rw [str_toList]; exact beq_eq_false_iff_ne.2 h2
  have q3 : ((str s).toList == [110, 111, 116]) = false := by rw [str_toList]; exact beq_eq_false_iff_ne.2 h3
  have q4 : ((str s).toList == [114, 101, 102]) = false := by rw [str_toList]; exact beq_eq_false_iff_ne.2 h4
  have q5 : ((str s).toList == [108, 101, 110]) = false := by rw [str_toList]; exact beq_eq_false_iff_ne.2 h5
  have q6 : ((str s).toList == [99, 111, 109, 109, 105, 116]) = false := by rw [str_toList]; exact beq_eq_false_iff_ne.2 h6
  have q7 : ((str s).toList == [97, 98, 111, 114, 116]) = false := by rw [str_toList]; exact beq_eq_false_iff_ne.2 h7
  have q8 : ((str s).toList == [126]) = true := by rw [str_toList]; rw [h8]; rfl
  clear h0 h1 h2 h3 h4 h5 h6 h7 h8
  go_enter Try.func23, Try.ntmps23
  go_wp2_with fail
  go_ret2
  exact ⟨rfl, rfl⟩
set_option maxRecDepth 20000 in
set_option maxHeartbeats 4000000 in
theorem rtakes9 (s : List UInt8) (w : World) (h0 : s ≠ [112, 114, 105, 110, 116]) (h1 : s ≠ [105, 116, 111, 115]) (h2 : s ≠ [115, 105, 122, 101]) (h3 : s ≠ [110, 111, 116]) (h4 : s ≠ [114, 101, 102]) (h5 : s ≠ [108, 101, 110]) (h6 : s ≠ [99, 111, 109, 109, 105, 116]) (h7 : s ≠ [97, 98, 111, 114, 116]) (h8 : s ≠ [126]) (h9 : s = [33]) : Calls Try.prog 23 #[.string (str s)] w fun e w' => e = .returned (.tuple #[.int .i64 1, .bool true]) ∧ w = w' := by
  have q0 : ((str s).toList == [112, 114, 105, 110, 116]) = false := by rw [str_toList]; exact beq_eq_false_iff_ne.2 h0
  have q1 : ((str s).toList == [105, 116, 111, 115]) = false := by rw [str_toList]; exact beq_eq_false_iff_ne.2 h1
  have q2 : ((str s).toList == [115, 105, 122, 101]) = false := by rw [str_toList]; exact beq_eq_false_iff_ne.2 h2
  have q3 : ((str s).toList == [110, 111, 116]) = false := by rw [str_toList]; exact beq_eq_false_iff_ne.2 h3
  have q4 : ((str s).toList == [114, 101, 102]) = false := by rw [str_toList]; exact beq_eq_false_iff_ne.2 h4
  have q5 : ((str s).toList == [108, 101, 110]) = false := by rw [str_toList]; exact beq_eq_false_iff_ne.2 h5
  have q6 : ((str s).toList == [99, 111, 109, 109, 105, 116]) = false := by rw [str_toList]; exact beq_eq_false_iff_ne.2 h6
  have q7 : ((str s).toList == [97, 98, 111, 114, 116]) = false := by rw [str_toList]; exact beq_eq_false_iff_ne.2 h7
  have q8 : ((str s).toList == [126]) = false := by rw [str_toList]; exact beq_eq_false_iff_ne.2 h8
  have q9 : ((str s).toList == [33]) = true := by rw [str_toList]; rw [h9]; rfl
  clear h0 h1 h2 h3 h4 h5 h6 h7 h8 h9
  go_enter Try.func23, Try.ntmps23
  go_wp2_with fail
  go_ret2
  exact ⟨rfl, rfl⟩
set_option maxRecDepth 20000 in
set_option maxHeartbeats 4000000 in
theorem rtakes10 (s : List UInt8) (w : World) (h0 : s ≠ [112, 114, 105, 110, 116]) (h1 : s ≠ [105, 116, 111, 115]) (h2 : s ≠ [115, 105, 122, 101]) (h3 : s ≠ [110, 111, 116]) (h4 : s ≠ [114, 101, 102]) (h5 : s ≠ [108, 101, 110]) (h6 : s ≠ [99, 111, 109, 109, 105, 116]) (h7 : s ≠ [97, 98, 111, 114, 116]) (h8 : s ≠ [126]) (h9 : s ≠ [33]) (h10 : s = [115, 97, 109, 101]) : Calls Try.prog 23 #[.string (str s)] w fun e w' => e = .returned (.tuple #[.int .i64 2, .bool true]) ∧ w = w' := by
  have q0 : ((str s).toList == [112, 114, 105, 110, 116]) = false := by rw [str_toList]; exact beq_eq_false_iff_ne.2 h0
  have q1 : ((str s).toList == [105, 116, 111, 115]) = false := by rw [str_toList]; exact beq_eq_false_iff_ne.2 h1
  have q2 : ((str s).toList == [115, 105, 122, 101]) = false := by rw [str_toList]; exact beq_eq_false_iff_ne.2 h2
  have q3 : ((str s).toList == [110, 111, 116]) = false := by rw [str_toList]; exact beq_eq_false_iff_ne.2 h3
  have q4 : ((str s).toList == [114, 101, 102]) = false := by rw [str_toList]; exact beq_eq_false_iff_ne.2 h4
  have q5 : ((str s).toList == [108, 101, 110]) = false := by rw [str_toList]; exact beq_eq_false_iff_ne.2 h5
  have q6 : ((str s).toList == [99, 111, 109, 109, 105, 116]) = false := by rw [str_toList]; exact beq_eq_false_iff_ne.2 h6
  have q7 : ((str s).toList == [97, 98, 111, 114, 116]) = false := by rw [str_toList]; exact beq_eq_false_iff_ne.2 h7
  have q8 : ((str s).toList == [126]) = false := by rw [str_toList]; exact beq_eq_false_iff_ne.2 h8
  have q9 : ((str s).toList == [33]) = false := by rw [str_toList]; exact beq_eq_false_iff_ne.2 h9
  have q10 : ((str s).toList == [115, 97, 109, 101]) = true := by rw [str_toList]; rw [h10]; rfl
  clear h0 h1 h2 h3 h4 h5 h6 h7 h8 h9 h10
  go_enter Try.func23, Try.ntmps23
  go_wp2_with fail
  go_ret2
  exact ⟨rfl, rfl⟩
set_option maxRecDepth 20000 in
set_option maxHeartbeats 4000000 in
theorem rtakes11 (s : List UInt8) (w : World) (h0 : s ≠ [112, 114, 105, 110, 116]) (h1 : s ≠ [105, 116, 111, 115]) (h2 : s ≠ [115, 105, 122, 101]) (h3 : s ≠ [110, 111, 116]) (h4 : s ≠ [114, 101, 102]) (h5 : s ≠ [108, 101, 110]) (h6 : s ≠ [99, 111, 109, 109, 105, 116]) (h7 : s ≠ [97, 98, 111, 114, 116]) (h8 : s ≠ [126]) (h9 : s ≠ [33]) (h10 : s ≠ [115, 97, 109, 101]) (h11 : s = [97, 114, 114, 97, 121]) : Calls Try.prog 23 #[.string (str s)] w fun e w' => e = .returned (.tuple #[.int .i64 2, .bool true]) ∧ w = w' := by
  have q0 : ((str s).toList == [112, 114, 105, 110, 116]) = false := by rw [str_toList]; exact beq_eq_false_iff_ne.2 h0
  have q1 : ((str s).toList == [105, 116, 111, 115]) = false := by rw [str_toList]; exact beq_eq_false_iff_ne.2 h1
  have q2 : ((str s).toList == [115, 105, 122, 101]) = false := by rw [str_toList]; exact beq_eq_false_iff_ne.2 h2
  have q3 : ((str s).toList == [110, 111, 116]) = false := by rw [str_toList]; exact beq_eq_false_iff_ne.2 h3
  have q4 : ((str s).toList == [114, 101, 102]) = false := by rw [str_toList]; exact beq_eq_false_iff_ne.2 h4
  have q5 : ((str s).toList == [108, 101, 110]) = false := by rw [str_toList]; exact beq_eq_false_iff_ne.2 h5
  have q6 : ((str s).toList == [99, 111, 109, 109, 105, 116]) = false := by rw [str_toList]; exact beq_eq_false_iff_ne.2 h6
  have q7 : ((str s).toList == [97, 98, 111, 114, 116]) = false := by rw [str_toList]; exact beq_eq_false_iff_ne.2 h7
  have q8 : ((str s).toList == [126]) = false := by rw [str_toList]; exact beq_eq_false_iff_ne.2 h8
  have q9 : ((str s).toList == [33]) = false := by rw [str_toList]; exact beq_eq_false_iff_ne.2 h9
  have q10 : ((str s).toList == [115, 97, 109, 101]) = false := by rw [str_toList]; exact beq_eq_false_iff_ne.2 h10
  have q11 : ((str s).toList == [97, 114, 114, 97, 121]) = true := by rw [str_toList]; rw [h11]; rfl
  clear h0 h1 h2 h3 h4 h5 h6 h7 h8 h9 h10 h11
  go_enter Try.func23, Try.ntmps23
  go_wp2_with fail
  go_ret2
  exact ⟨rfl, rfl⟩
set_option maxRecDepth 20000 in
set_option maxHeartbeats 4000000 in
theorem rtakes12 (s : List UInt8) (w : World) (h0 : s ≠ [112, 114, 105, 110, 116]) (h1 : s ≠ [105, 116, 111, 115]) (h2 : s ≠ [115, 105, 122, 101]) (h3 : s ≠ [110, 111, 116]) (h4 : s ≠ [114, 101, 102]) (h5 : s ≠ [108, 101, 110]) (h6 : s ≠ [99, 111, 109, 109, 105, 116]) (h7 : s ≠ [97, 98, 111, 114, 116]) (h8 : s ≠ [126]) (h9 : s ≠ [33]) (h10 : s ≠ [115, 97, 109, 101]) (h11 : s ≠ [97, 114, 114, 97, 121]) (h12 : s = [103, 101, 116]) : Calls Try.prog 23 #[.string (str s)] w fun e w' => e = .returned (.tuple #[.int .i64 2, .bool true]) ∧ w = w' := by
  have q0 : ((str s).toList == [112, 114, 105, 110, 116]) = false := by rw [str_toList]; exact beq_eq_false_iff_ne.2 h0
  have q1 : ((str s).toList == [105, 116, 111, 115]) = false := by rw [str_toList]; exact beq_eq_false_iff_ne.2 h1
  have q2 : ((str s).toList == [115, 105, 122, 101]) = false := by rw [str_toList]; exact beq_eq_false_iff_ne.2 h2
  have q3 : ((str s).toList == [110, 111, 116]) = false := by rw [str_toList]; exact beq_eq_false_iff_ne.2 h3
  have q4 : ((str s).toList == [114, 101, 102]) = false := by rw [str_toList]; exact beq_eq_false_iff_ne.2 h4
  have q5 : ((str s).toList == [108, 101, 110]) = false := by rw [str_toList]; exact beq_eq_false_iff_ne.2 h5
  have q6 : ((str s).toList == [99, 111, 109, 109, 105, 116]) = false := by rw [str_toList]; exact beq_eq_false_iff_ne.2 h6
  have q7 : ((str s).toList == [97, 98, 111, 114, 116]) = false := by rw [str_toList]; exact beq_eq_false_iff_ne.2 h7
  have q8 : ((str s).toList == [126]) = false := by rw [str_toList]; exact beq_eq_false_iff_ne.2 h8
  have q9 : ((str s).toList == [33]) = false := by rw [str_toList]; exact beq_eq_false_iff_ne.2 h9
  have q10 : ((str s).toList == [115, 97, 109, 101]) = false := by rw [str_toList]; exact beq_eq_false_iff_ne.2 h10
  have q11 : ((str s).toList == [97, 114, 114, 97, 121]) = false := by rw [str_toList]; exact beq_eq_false_iff_ne.2 h11
  have q12 : ((str s).toList == [103, 101, 116]) = true := by rw [str_toList]; rw [h12]; rfl
  clear h0 h1 h2 h3 h4 h5 h6 h7 h8 h9 h10 h11 h12
  go_enter Try.func23, Try.ntmps23
  go_wp2_with fail
  go_ret2
  exact ⟨rfl, rfl⟩
set_option maxRecDepth 20000 in
set_option maxHeartbeats 4000000 in
theorem rtakes13 (s : List UInt8) (w : World) (h0 : s ≠ [112, 114, 105, 110, 116]) (h1 : s ≠ [105, 116, 111, 115]) (h2 : s ≠ [115, 105, 122, 101]) (h3 : s ≠ [110, 111, 116]) (h4 : s ≠ [114, 101, 102]) (h5 : s ≠ [108, 101, 110]) (h6 : s ≠ [99, 111, 109, 109, 105, 116]) (h7 : s ≠ [97, 98, 111, 114, 116]) (h8 : s ≠ [126]) (h9 : s ≠ [33]) (h10 : s ≠ [115, 97, 109, 101]) (h11 : s ≠ [97, 114, 114, 97, 121]) (h12 : s ≠ [103, 101, 116]) (h13 : s = [43]) : Calls Try.prog 23 #[.string (str s)] w fun e w' => e = .returned (.tuple #[.int .i64 2, .bool true]) ∧ w = w' := by
  have q0 : ((str s).toList == [112, 114, 105, 110, 116]) = false := by rw [str_toList]; exact beq_eq_false_iff_ne.2 h0
  have q1 : ((str s).toList == [105, 116, 111, 115]) = false := by rw [str_toList]; exact beq_eq_false_iff_ne.2 h1
  have q2 : ((str s).toList == [115, 105, 122, 101]) = false := by rw [str_toList]; exact beq_eq_false_iff_ne.2 h2
  have q3 : ((str s).toList == [110, 111, 116]) = false := by rw [str_toList]; exact beq_eq_false_iff_ne.2 h3
  have q4 : ((str s).toList == [114, 101, 102]) = false := by rw [str_toList]; exact beq_eq_false_iff_ne.2 h4
  have q5 : ((str s).toList == [108, 101, 110]) = false := by rw [str_toList]; exact beq_eq_false_iff_ne.2 h5
  have q6 : ((str s).toList == [99, 111, 109, 109, 105, 116]) = false := by rw [str_toList]; exact beq_eq_false_iff_ne.2 h6
  have q7 : ((str s).toList == [97, 98, 111, 114, 116]) = false := by rw [str_toList]; exact beq_eq_false_iff_ne.2 h7
  have q8 : ((str s).toList == [126]) = false := by rw [str_toList]; exact beq_eq_false_iff_ne.2 h8
  have q9 : ((str s).toList == [33]) = false := by rw [str_toList]; exact beq_eq_false_iff_ne.2 h9
  have q10 : ((str s).toList == [115, 97, 109, 101]) = false := by rw [str_toList]; exact beq_eq_false_iff_ne.2 h10
  have q11 : ((str s).toList == [97, 114, 114, 97, 121]) = false := by rw [str_toList]; exact beq_eq_false_iff_ne.2 h11
  have q12 : ((str s).toList == [103, 101, 116]) = false := by rw [str_toList]; exact beq_eq_false_iff_ne.2 h12
  have q13 : ((str s).toList == [43]) = true := by rw [str_toList]; rw [h13]; rfl
  clear h0 h1 h2 h3 h4 h5 h6 h7 h8 h9 h10 h11 h12 h13
  go_enter Try.func23, Try.ntmps23
  go_wp2_with fail
  go_ret2
  exact ⟨rfl, rfl⟩
set_option maxRecDepth 20000 in
set_option maxHeartbeats 4000000 in
theorem rtakes14 (s : List UInt8) (w : World) (h0 : s ≠ [112, 114, 105, 110, 116]) (h1 : s ≠ [105, 116, 111, 115]) (h2 : s ≠ [115, 105, 122, 101]) (h3 : s ≠ [110, 111, 116]) (h4 : s ≠ [114, 101, 102]) (h5 : s ≠ [108, 101, 110]) (h6 : s ≠ [99, 111, 109, 109, 105, 116]) (h7 : s ≠ [97, 98, 111, 114, 116]) (h8 : s ≠ [126]) (h9 : s ≠ [33]) (h10 : s ≠ [115, 97, 109, 101]) (h11 : s ≠ [97, 114, 114, 97, 121]) (h12 : s ≠ [103, 101, 116]) (h13 : s ≠ [43]) (h14 : s = [45]) : Calls Try.prog 23 #[.string (str s)] w fun e w' => e = .returned (.tuple #[.int .i64 2, .bool true]) ∧ w = w' := by
  have q0 : ((str s).toList == [112, 114, 105, 110, 116]) = false := by rw [str_toList]; exact beq_eq_false_iff_ne.2 h0
  have q1 : ((str s).toList == [105, 116, 111, 115]) = false := by rw [str_toList]; exact beq_eq_false_iff_ne.2 h1
  have q2 : ((str s).toList == [115, 105, 122, 101]) = false := by rw [str_toList]; exact beq_eq_false_iff_ne.2 h2
  have q3 : ((str s).toList == [110, 111, 116]) = false := by rw [str_toList]; exact beq_eq_false_iff_ne.2 h3
  have q4 : ((str s).toList == [114, 101, 102]) = false := by rw [str_toList]; exact beq_eq_false_iff_ne.2 h4
  have q5 : ((str s).toList == [108, 101, 110]) = false := by rw [str_toList]; exact beq_eq_false_iff_ne.2 h5
  have q6 : ((str s).toList == [99, 111, 109, 109, 105, 116]) = false := by rw [str_toList]; exact beq_eq_false_iff_ne.2 h6
  have q7 : ((str s).toList == [97, 98, 111, 114, 116]) = false := by rw [str_toList]; exact beq_eq_false_iff_ne.2 h7
  have q8 : ((str s).toList == [126]) = false := by rw [str_toList]; exact beq_eq_false_iff_ne.2 h8
  have q9 : ((str s).toList == [33]) = false := by rw [str_toList]; exact beq_eq_false_iff_ne.2 h9
  have q10 : ((str s).toList == [115, 97, 109, 101]) = false := by rw [str_toList]; exact beq_eq_false_iff_ne.2 h10
  have q11 : ((str s).toList == [97, 114, 114, 97, 121]) = false := by rw [str_toList]; exact beq_eq_false_iff_ne.2 h11
  have q12 : ((str s).toList == [103, 101, 116]) = false := by rw [str_toList]; exact beq_eq_false_iff_ne.2 h12
  have q13 : ((str s).toList == [43]) = false := by rw [str_toList]; exact beq_eq_false_iff_ne.2 h13
  have q14 : ((str s).toList == [45]) = true := by rw [str_toList]; rw [h14]; rfl
  clear h0 h1 h2 h3 h4 h5 h6 h7 h8 h9 h10 h11 h12 h13 h14
  go_enter Try.func23, Try.ntmps23
  go_wp2_with fail
  go_ret2
  exact ⟨rfl, rfl⟩
set_option maxRecDepth 20000 in
set_option maxHeartbeats 4000000 in
theorem rtakes15 (s : List UInt8) (w : World) (h0 : s ≠ [112, 114, 105, 110, 116]) (h1 : s ≠ [105, 116, 111, 115]) (h2 : s ≠ [115, 105, 122, 101]) (h3 : s ≠ [110, 111, 116]) (h4 : s ≠ [114, 101, 102]) (h5 : s ≠ [108, 101, 110]) (h6 : s ≠ [99, 111, 109, 109, 105, 116]) (h7 : s ≠ [97, 98, 111, 114, 116]) (h8 : s ≠ [126]) (h9 : s ≠ [33]) (h10 : s ≠ [115, 97, 109, 101]) (h11 : s ≠ [97, 114, 114, 97, 121]) (h12 : s ≠ [103, 101, 116]) (h13 : s ≠ [43]) (h14 : s ≠ [45]) (h15 : s = [42]) : Calls Try.prog 23 #[.string (str s)] w fun e w' => e = .returned (.tuple #[.int .i64 2, .bool true]) ∧ w = w' := by
  have q0 : ((str s).toList == [112, 114, 105, 110, 116]) = false := by rw [str_toList]; exact beq_eq_false_iff_ne.2 h0
  have q1 : ((str s).toList == [105, 116, 111, 115]) = false := by rw [str_toList]; exact beq_eq_false_iff_ne.2 h1
  have q2 : ((str s).toList == [115, 105, 122, 101]) = false := by rw [str_toList]; exact beq_eq_false_iff_ne.2 h2
  have q3 : ((str s).toList == [110, 111, 116]) = false := by rw [str_toList]; exact beq_eq_false_iff_ne.2 h3
  have q4 : ((str s).toList == [114, 101, 102]) = false := by rw [str_toList]; exact beq_eq_false_iff_ne.2 h4
  have q5 : ((str s).toList == [108, 101, 110]) = false := by rw [str_toList]; exact beq_eq_false_iff_ne.2 h5
  have q6 : ((str s).toList == [99, 111, 109, 109, 105, 116]) = false := by rw [str_toList]; exact beq_eq_false_iff_ne.2 h6
  have q7 : ((str s).toList == [97, 98, 111, 114, 116]) = false := by rw [str_toList]; exact beq_eq_false_iff_ne.2 h7
  have q8 : ((str s).toList == [126]) = false := by rw [str_toList]; exact beq_eq_false_iff_ne.2 h8
  have q9 : ((str s).toList == [33]) = false := by rw [str_toList]; exact beq_eq_false_iff_ne.2 h9
  have q10 : ((str s).toList == [115, 97, 109, 101]) = false := by rw [str_toList]; exact beq_eq_false_iff_ne.2 h10
  have q11 : ((str s).toList == [97, 114, 114, 97, 121]) = false := by rw [str_toList]; exact beq_eq_false_iff_ne.2 h11
  have q12 : ((str s).toList == [103, 101, 116]) = false := by rw [str_toList]; exact beq_eq_false_iff_ne.2 h12
  have q13 : ((str s).toList == [43]) = false := by rw [str_toList]; exact beq_eq_false_iff_ne.2 h13
  have q14 : ((str s).toList == [45]) = false := by rw [str_toList]; exact beq_eq_false_iff_ne.2 h14
  have q15 : ((str s).toList == [42]) = true := by rw [str_toList]; rw [h15]; rfl
  clear h0 h1 h2 h3 h4 h5 h6 h7 h8 h9 h10 h11 h12 h13 h14 h15
  go_enter Try.func23, Try.ntmps23
  go_wp2_with fail
  go_ret2
  exact ⟨rfl, rfl⟩
set_option maxRecDepth 20000 in
set_option maxHeartbeats 4000000 in
theorem rtakes16 (s : List UInt8) (w : World) (h0 : s ≠ [112, 114, 105, 110, 116]) (h1 : s ≠ [105, 116, 111, 115]) (h2 : s ≠ [115, 105, 122, 101]) (h3 : s ≠ [110, 111, 116]) (h4 : s ≠ [114, 101, 102]) (h5 : s ≠ [108, 101, 110]) (h6 : s ≠ [99, 111, 109, 109, 105, 116]) (h7 : s ≠ [97, 98, 111, 114, 116]) (h8 : s ≠ [126]) (h9 : s ≠ [33]) (h10 : s ≠ [115, 97, 109, 101]) (h11 : s ≠ [97, 114, 114, 97, 121]) (h12 : s ≠ [103, 101, 116]) (h13 : s ≠ [43]) (h14 : s ≠ [45]) (h15 : s ≠ [42]) (h16 : s = [100, 105, 118]) : Calls Try.prog 23 #[.string (str s)] w fun e w' => e = .returned (.tuple #[.int .i64 2, .bool true]) ∧ w = w' := by
  have q0 : ((str s).toList == [112, 114, 105, 110, 116]) = false := by rw [str_toList]; exact beq_eq_false_iff_ne.2 h0
  have q1 : ((str s).toList == [105, 116, 111, 115]) = false := by rw [str_toList]; exact beq_eq_false_iff_ne.2 h1
  have q2 : ((str s).toList == [115, 105, 122, 101]) = false := by rw [str_toList]; exact beq_eq_false_iff_ne.2 h2
  have q3 : ((str s).toList == [110, 111, 116]) = false := by rw [str_toList]; exact beq_eq_false_iff_ne.2 h3
  have q4 : ((str s).toList == [114, 101, 102]) = false := by rw [str_toList]; exact beq_eq_false_iff_ne.2 h4
  have q5 : ((str s).toList == [108, 101, 110]) = false := by rw [str_toList]; exact beq_eq_false_iff_ne.2 h5
  have q6 : ((str s).toList == [99, 111, 109, 109, 105, 116]) = false := by rw [str_toList]; exact beq_eq_false_iff_ne.2 h6
  have q7 : ((str s).toList == [97, 98, 111, 114, 116]) = false := by rw [str_toList]; exact beq_eq_false_iff_ne.2 h7
  have q8 : ((str s).toList == [126]) = false := by rw [str_toList]; exact beq_eq_false_iff_ne.2 h8
  have q9 : ((str s).toList == [33]) = false := by rw [str_toList]; exact beq_eq_false_iff_ne.2 h9
  have q10 : ((str s).toList == [115, 97, 109, 101]) = false := by rw [str_toList]; exact beq_eq_false_iff_ne.2 h10
  have q11 : ((str s).toList == [97, 114, 114, 97, 121]) = false := by rw [str_toList]; exact beq_eq_false_iff_ne.2 h11
  have q12 : ((str s).toList == [103, 101, 116]) = false := by rw [str_toList]; exact beq_eq_false_iff_ne.2 h12
  have q13 : ((str s).toList == [43]) = false := by rw [str_toList]; exact beq_eq_false_iff_ne.2 h13
  have q14 : ((str s).toList == [45]) = false := by rw [str_toList]; exact beq_eq_false_iff_ne.2 h14
  have q15 : ((str s).toList == [42]) = false := by rw [str_toList]; exact beq_eq_false_iff_ne.2 h15
  have q16 : ((str s).toList == [100, 105, 118]) = true := by rw [str_toList]; rw [h16]; rfl
  clear h0 h1 h2 h3 h4 h5 h6 h7 h8 h9 h10 h11 h12 h13 h14 h15 h16
  go_enter Try.func23, Try.ntmps23
  go_wp2_with fail
  go_ret2
  exact ⟨rfl, rfl⟩
set_option maxRecDepth 20000 in
set_option maxHeartbeats 4000000 in
theorem rtakes17 (s : List UInt8) (w : World) (h0 : s ≠ [112, 114, 105, 110, 116]) (h1 : s ≠ [105, 116, 111, 115]) (h2 : s ≠ [115, 105, 122, 101]) (h3 : s ≠ [110, 111, 116]) (h4 : s ≠ [114, 101, 102]) (h5 : s ≠ [108, 101, 110]) (h6 : s ≠ [99, 111, 109, 109, 105, 116]) (h7 : s ≠ [97, 98, 111, 114, 116]) (h8 : s ≠ [126]) (h9 : s ≠ [33]) (h10 : s ≠ [115, 97, 109, 101]) (h11 : s ≠ [97, 114, 114, 97, 121]) (h12 : s ≠ [103, 101, 116]) (h13 : s ≠ [43]) (h14 : s ≠ [45]) (h15 : s ≠ [42]) (h16 : s ≠ [100, 105, 118]) (h17 : s = [109, 111, 100]) : Calls Try.prog 23 #[.string (str s)] w fun e w' => e = .returned (.tuple #[.int .i64 2, .bool true]) ∧ w = w' := by
  have q0 : ((str s).toList == [112, 114, 105, 110, 116]) = false := by rw [str_toList]; exact beq_eq_false_iff_ne.2 h0
  have q1 : ((str s).toList == [105, 116, 111, 115]) = false := by rw [str_toList]; exact beq_eq_false_iff_ne.2 h1
  have q2 : ((str s).toList == [115, 105, 122, 101]) = false := by rw [str_toList]; exact beq_eq_false_iff_ne.2 h2
  have q3 : ((str s).toList == [110, 111, 116]) = false := by rw [str_toList]; exact beq_eq_false_iff_ne.2 h3
  have q4 : ((str s).toList == [114, 101, 102]) = false := by rw [str_toList]; exact beq_eq_false_iff_ne.2 h4
  have q5 : ((str s).toList == [108, 101, 110]) = false := by rw [str_toList]; exact beq_eq_false_iff_ne.2 h5
  have q6 : ((str s).toList == [99, 111, 109, 109, 105, 116]) = false := by rw [str_toList]; exact beq_eq_false_iff_ne.2 h6
  have q7 : ((str s).toList == [97, 98, 111, 114, 116]) = false := by rw [str_toList]; exact beq_eq_false_iff_ne.2 h7
  have q8 : ((str s).toList == [126]) = false := by rw [str_toList]; exact beq_eq_false_iff_ne.2 h8
  have q9 : ((str s).toList == [33]) = false := by rw [str_toList]; exact beq_eq_false_iff_ne.2 h9
  have q10 : ((str s).toList == [115, 97, 109, 101]) = false := by rw [str_toList]; exact beq_eq_false_iff_ne.2 h10
  have q11 : ((str s).toList == [97, 114, 114, 97, 121]) = false := by rw [str_toList]; exact beq_eq_false_iff_ne.2 h11
  have q12 : ((str s).toList == [103, 101, 116]) = false := by rw [str_toList]; exact beq_eq_false_iff_ne.2 h12
  have q13 : ((str s).toList == [43]) = false := by rw [str_toList]; exact beq_eq_false_iff_ne.2 h13
  have q14 : ((str s).toList == [45]) = false := by rw [str_toList]; exact beq_eq_false_iff_ne.2 h14
  have q15 : ((str s).toList == [42]) = false := by rw [str_toList]; exact beq_eq_false_iff_ne.2 h15
  have q16 : ((str s).toList == [100, 105, 118]) = false := by rw [str_toList]; exact beq_eq_false_iff_ne.2 h16
  have q17 : ((str s).toList == [109, 111, 100]) = true := by rw [str_toList]; rw [h17]; rfl
  clear h0 h1 h2 h3 h4 h5 h6 h7 h8 h9 h10 h11 h12 h13 h14 h15 h16 h17
  go_enter Try.func23, Try.ntmps23
  go_wp2_with fail
  go_ret2
  exact ⟨rfl, rfl⟩
set_option maxRecDepth 20000 in
set_option maxHeartbeats 4000000 in
theorem rtakes18 (s : List UInt8) (w : World) (h0 : s ≠ [112, 114, 105, 110, 116]) (h1 : s ≠ [105, 116, 111, 115]) (h2 : s ≠ [115, 105, 122, 101]) (h3 : s ≠ [110, 111, 116]) (h4 : s ≠ [114, 101, 102]) (h5 : s ≠ [108, 101, 110]) (h6 : s ≠ [99, 111, 109, 109, 105, 116]) (h7 : s ≠ [97, 98, 111, 114, 116]) (h8 : s ≠ [126]) (h9 : s ≠ [33]) (h10 : s ≠ [115, 97, 109, 101]) (h11 : s ≠ [97, 114, 114, 97, 121]) (h12 : s ≠ [103, 101, 116]) (h13 : s ≠ [43]) (h14 : s ≠ [45]) (h15 : s ≠ [42]) (h16 : s ≠ [100, 105, 118]) (h17 : s ≠ [109, 111, 100]) (h18 : s = [60]) : Calls Try.prog 23 #[.string (str s)] w fun e w' => e = .returned (.tuple #[.int .i64 2, .bool true]) ∧ w = w' := by
  have q0 : ((str s).toList == [112, 114, 105, 110, 116]) = false := by rw [str_toList]; exact beq_eq_false_iff_ne.2 h0
  have q1 : ((str s).toList == [105, 116, 111, 115]) = false := by rw [str_toList]; exact beq_eq_false_iff_ne.2 h1
  have q2 : ((str s).toList == [115, 105, 122, 101]) = false := by rw [str_toList]; exact beq_eq_false_iff_ne.2 h2
  have q3 : ((str s).toList == [110, 111, 116]) = false := by rw [str_toList]; exact beq_eq_false_iff_ne.2 h3
  have q4 : ((str s).toList == [114, 101, 102]) = false := by rw [str_toList]; exact beq_eq_false_iff_ne.2 h4
  have q5 : ((str s).toList == [108, 101, 110]) = false := by rw [str_toList]; exact beq_eq_false_iff_ne.2 h5
  have q6 : ((str s).toList == [99, 111, 109, 109, 105, 116]) = false := by rw [str_toList]; exact beq_eq_false_iff_ne.2 h6
  have q7 : ((str s).toList == [97, 98, 111, 114, 116]) = false := by rw [str_toList]; exact beq_eq_false_iff_ne.2 h7
  have q8 : ((str s).toList == [126]) = false := by rw [str_toList]; exact beq_eq_false_iff_ne.2 h8
  have q9 : ((str s).toList == [33]) = false := by rw [str_toList]; exact beq_eq_false_iff_ne.2 h9
  have q10 : ((str s).toList == [115, 97, 109, 101]) = false := by rw [str_toList]; exact beq_eq_false_iff_ne.2 h10
  have q11 : ((str s).toList == [97, 114, 114, 97, 121]) = false := by rw [str_toList]; exact beq_eq_false_iff_ne.2 h11
  have q12 : ((str s).toList == [103, 101, 116]) = false := by rw [str_toList]; exact beq_eq_false_iff_ne.2 h12
  have q13 : ((str s).toList == [43]) = false := by rw [str_toList]; exact beq_eq_false_iff_ne.2 h13
  have q14 : ((str s).toList == [45]) = false := by rw [str_toList]; exact beq_eq_false_iff_ne.2 h14
  have q15 : ((str s).toList == [42]) = false := by rw [str_toList]; exact beq_eq_false_iff_ne.2 h15
  have q16 : ((str s).toList == [100, 105, 118]) = false := by rw [str_toList]; exact beq_eq_false_iff_ne.2 h16
  have q17 : ((str s).toList == [109, 111, 100]) = false := by rw [str_toList]; exact beq_eq_false_iff_ne.2 h17
  have q18 : ((str s).toList == [60]) = true := by rw [str_toList]; rw [h18]; rfl
  clear h0 h1 h2 h3 h4 h5 h6 h7 h8 h9 h10 h11 h12 h13 h14 h15 h16 h17 h18
  go_enter Try.func23, Try.ntmps23
  go_wp2_with fail
  go_ret2
  exact ⟨rfl, rfl⟩
set_option maxRecDepth 20000 in
set_option maxHeartbeats 4000000 in
theorem rtakes19 (s : List UInt8) (w : World) (h0 : s ≠ [112, 114, 105, 110, 116]) (h1 : s ≠ [105, 116, 111, 115]) (h2 : s ≠ [115, 105, 122, 101]) (h3 : s ≠ [110, 111, 116]) (h4 : s ≠ [114, 101, 102]) (h5 : s ≠ [108, 101, 110]) (h6 : s ≠ [99, 111, 109, 109, 105, 116]) (h7 : s ≠ [97, 98, 111, 114, 116]) (h8 : s ≠ [126]) (h9 : s ≠ [33]) (h10 : s ≠ [115, 97, 109, 101]) (h11 : s ≠ [97, 114, 114, 97, 121]) (h12 : s ≠ [103, 101, 116]) (h13 : s ≠ [43]) (h14 : s ≠ [45]) (h15 : s ≠ [42]) (h16 : s ≠ [100, 105, 118]) (h17 : s ≠ [109, 111, 100]) (h18 : s ≠ [60]) (h19 : s = [60, 61]) : Calls Try.prog 23 #[.string (str s)] w fun e w' => e = .returned (.tuple #[.int .i64 2, .bool true]) ∧ w = w' := by
  have q0 : ((str s).toList == [112, 114, 105, 110, 116]) = false := by rw [str_toList]; exact beq_eq_false_iff_ne.2 h0
  have q1 : ((str s).toList == [105, 116, 111, 115]) = false := by rw [str_toList]; exact beq_eq_false_iff_ne.2 h1
  have q2 : ((str s).toList == [115, 105, 122, 101]) = false := by rw [str_toList]; exact beq_eq_false_iff_ne.2 h2
  have q3 : ((str s).toList == [110, 111, 116]) = false := by rw [str_toList]; exact beq_eq_false_iff_ne.2 h3
  have q4 : ((str s).toList == [114, 101, 102]) = false := by rw [str_toList]; exact beq_eq_false_iff_ne.2 h4
  have q5 : ((str s).toList == [108, 101, 110]) = false := by rw [str_toList]; exact beq_eq_false_iff_ne.2 h5
  have q6 : ((str s).toList == [99, 111, 109, 109, 105, 116]) = false := by rw [str_toList]; exact beq_eq_false_iff_ne.2 h6
  have q7 : ((str s).toList == [97, 98, 111, 114, 116]) = false := by rw [str_toList]; exact beq_eq_false_iff_ne.2 h7
  have q8 : ((str s).toList == [126]) = false := by rw [str_toList]; exact beq_eq_false_iff_ne.2 h8
  have q9 : ((str s).toList == [33]) = false := by rw [str_toList]; exact beq_eq_false_iff_ne.2 h9
  have q10 : ((str s).toList == [115, 97, 109, 101]) = false := by rw [str_toList]; exact beq_eq_false_iff_ne.2 h10
  have q11 : ((str s).toList == [97, 114, 114, 97, 121]) = false := by rw [str_toList]; exact beq_eq_false_iff_ne.2 h11
  have q12 : ((str s).toList == [103, 101, 116]) = false := by rw [str_toList]; exact beq_eq_false_iff_ne.2 h12
  have q13 : ((str s).toList == [43]) = false := by rw [str_toList]; exact beq_eq_false_iff_ne.2 h13
  have q14 : ((str s).toList == [45]) = false := by rw [str_toList]; exact beq_eq_false_iff_ne.2 h14
  have q15 : ((str s).toList == [42]) = false := by rw [str_toList]; exact beq_eq_false_iff_ne.2 h15
  have q16 : ((str s).toList == [100, 105, 118]) = false := by rw [str_toList]; exact beq_eq_false_iff_ne.2 h16
  have q17 : ((str s).toList == [109, 111, 100]) = false := by rw [str_toList]; exact beq_eq_false_iff_ne.2 h17
  have q18 : ((str s).toList == [60]) = false := by rw [str_toList]; exact beq_eq_false_iff_ne.2 h18
  have q19 : ((str s).toList == [60, 61]) = true := by rw [str_toList]; rw [h19]; rfl
  clear h0 h1 h2 h3 h4 h5 h6 h7 h8 h9 h10 h11 h12 h13 h14 h15 h16 h17 h18 h19
  go_enter Try.func23, Try.ntmps23
  go_wp2_with fail
  go_ret2
  exact ⟨rfl, rfl⟩
set_option maxRecDepth 20000 in
set_option maxHeartbeats 4000000 in
theorem rtakes20 (s : List UInt8) (w : World) (h0 : s ≠ [112, 114, 105, 110, 116]) (h1 : s ≠ [105, 116, 111, 115]) (h2 : s ≠ [115, 105, 122, 101]) (h3 : s ≠ [110, 111, 116]) (h4 : s ≠ [114, 101, 102]) (h5 : s ≠ [108, 101, 110]) (h6 : s ≠ [99, 111, 109, 109, 105, 116]) (h7 : s ≠ [97, 98, 111, 114, 116]) (h8 : s ≠ [126]) (h9 : s ≠ [33]) (h10 : s ≠ [115, 97, 109, 101]) (h11 : s ≠ [97, 114, 114, 97, 121]) (h12 : s ≠ [103, 101, 116]) (h13 : s ≠ [43]) (h14 : s ≠ [45]) (h15 : s ≠ [42]) (h16 : s ≠ [100, 105, 118]) (h17 : s ≠ [109, 111, 100]) (h18 : s ≠ [60]) (h19 : s ≠ [60, 61]) (h20 : s = [62]) : Calls Try.prog 23 #[.string (str s)] w fun e w' => e = .returned (.tuple #[.int .i64 2, .bool true]) ∧ w = w' := by
  have q0 : ((str s).toList == [112, 114, 105, 110, 116]) = false := by rw [str_toList]; exact beq_eq_false_iff_ne.2 h0
  have q1 : ((str s).toList == [105, 116, 111, 115]) = false := by rw [str_toList]; exact beq_eq_false_iff_ne.2 h1
  have q2 : ((str s).toList == [115, 105, 122, 101]) = false := by rw [str_toList]; exact beq_eq_false_iff_ne.2 h2
  have q3 : ((str s).toList == [110, 111, 116]) = false := by rw [str_toList]; exact beq_eq_false_iff_ne.2 h3
  have q4 : ((str s).toList == [114, 101, 102]) = false := by rw [str_toList]; exact beq_eq_false_iff_ne.2 h4
  have q5 : ((str s).toList == [108, 101, 110]) = false := by rw [str_toList]; exact beq_eq_false_iff_ne.2 h5
  have q6 : ((str s).toList == [99, 111, 109, 109, 105, 116]) = false := by rw [str_toList]; exact beq_eq_false_iff_ne.2 h6
  have q7 : ((str s).toList == [97, 98, 111, 114, 116]) = false := by rw [str_toList]; exact beq_eq_false_iff_ne.2 h7
  have q8 : ((str s).toList == [126]) = false := by rw [str_toList]; exact beq_eq_false_iff_ne.2 h8
  have q9 : ((str s).toList == [33]) = false := by rw [str_toList]; exact beq_eq_false_iff_ne.2 h9
  have q10 : ((str s).toList == [115, 97, 109, 101]) = false := by rw [str_toList]; exact beq_eq_false_iff_ne.2 h10
  have q11 : ((str s).toList == [97, 114, 114, 97, 121]) = false := by rw [str_toList]; exact beq_eq_false_iff_ne.2 h11
  have q12 : ((str s).toList == [103, 101, 116]) = false := by rw [str_toList]; exact beq_eq_false_iff_ne.2 h12
  have q13 : ((str s).toList == [43]) = false := by rw [str_toList]; exact beq_eq_false_iff_ne.2 h13
  have q14 : ((str s).toList == [45]) = false := by rw [str_toList]; exact beq_eq_false_iff_ne.2 h14
  have q15 : ((str s).toList == [42]) = false := by rw [str_toList]; exact beq_eq_false_iff_ne.2 h15
  have q16 : ((str s).toList == [100, 105, 118]) = false := by rw [str_toList]; exact beq_eq_false_iff_ne.2 h16
  have q17 : ((str s).toList == [109, 111, 100]) = false := by rw [str_toList]; exact beq_eq_false_iff_ne.2 h17
  have q18 : ((str s).toList == [60]) = false := by rw [str_toList]; exact beq_eq_false_iff_ne.2 h18
  have q19 : ((str s).toList == [60, 61]) = false := by rw [str_toList]; exact beq_eq_false_iff_ne.2 h19
  have q20 : ((str s).toList == [62]) = true := by rw [str_toList]; rw [h20]; rfl
  clear h0 h1 h2 h3 h4 h5 h6 h7 h8 h9 h10 h11 h12 h13 h14 h15 h16 h17 h18 h19 h20
  go_enter Try.func23, Try.ntmps23
  go_wp2_with fail
  go_ret2
  exact ⟨rfl, rfl⟩
set_option maxRecDepth 20000 in
set_option maxHeartbeats 4000000 in
theorem rtakes21 (s : List UInt8) (w : World) (h0 : s ≠ [112, 114, 105, 110, 116]) (h1 : s ≠ [105, 116, 111, 115]) (h2 : s ≠ [115, 105, 122, 101]) (h3 : s ≠ [110, 111, 116]) (h4 : s ≠ [114, 101, 102]) (h5 : s ≠ [108, 101, 110]) (h6 : s ≠ [99, 111, 109, 109, 105, 116]) (h7 : s ≠ [97, 98, 111, 114, 116]) (h8 : s ≠ [126]) (h9 : s ≠ [33]) (h10 : s ≠ [115, 97, 109, 101]) (h11 : s ≠ [97, 114, 114, 97, 121]) (h12 : s ≠ [103, 101, 116]) (h13 : s ≠ [43]) (h14 : s ≠ [45]) (h15 : s ≠ [42]) (h16 : s ≠ [100, 105, 118]) (h17 : s ≠ [109, 111, 100]) (h18 : s ≠ [60]) (h19 : s ≠ [60, 61]) (h20 : s ≠ [62]) (h21 : s = [62, 61]) : Calls Try.prog 23 #[.string (str s)] w fun e w' => e = .returned (.tuple #[.int .i64 2, .bool true]) ∧ w = w' := by
  have q0 : ((str s).toList == [112, 114, 105, 110, 116]) = false := by rw [str_toList]; exact beq_eq_false_iff_ne.2 h0
  have q1 : ((str s).toList == [105, 116, 111, 115]) = false := by rw [str_toList]; exact beq_eq_false_iff_ne.2 h1
  have q2 : ((str s).toList == [115, 105, 122, 101]) = false := by rw [str_toList]; exact beq_eq_false_iff_ne.2 h2
  have q3 : ((str s).toList == [110, 111, 116]) = false := by rw [str_toList]; exact beq_eq_false_iff_ne.2 h3
  have q4 : ((str s).toList == [114, 101, 102]) = false := by rw [str_toList]; exact beq_eq_false_iff_ne.2 h4
  have q5 : ((str s).toList == [108, 101, 110]) = false := by rw [str_toList]; exact beq_eq_false_iff_ne.2 h5
  have q6 : ((str s).toList == [99, 111, 109, 109, 105, 116]) = false := by rw [str_toList]; exact beq_eq_false_iff_ne.2 h6
  have q7 : ((str s).toList == [97, 98, 111, 114, 116]) = false := by rw [str_toList]; exact beq_eq_false_iff_ne.2 h7
  have q8 : ((str s).toList == [126]) = false := by rw [str_toList]; exact beq_eq_false_iff_ne.2 h8
  have q9 : ((str s).toList == [33]) = false := by rw [str_toList]; exact beq_eq_false_iff_ne.2 h9
  have q10 : ((str s).toList == [115, 97, 109, 101]) = false := by rw [str_toList]; exact beq_eq_false_iff_ne.2 h10
  have q11 : ((str s).toList == [97, 114, 114, 97, 121]) = false := by rw [str_toList]; exact beq_eq_false_iff_ne.2 h11
  have q12 : ((str s).toList == [103, 101, 116]) = false := by rw [str_toList]; exact beq_eq_false_iff_ne.2 h12
  have q13 : ((str s).toList == [43]) = false := by rw [str_toList]; exact beq_eq_false_iff_ne.2 h13
  have q14 : ((str s).toList == [45]) = false := by rw [str_toList]; exact beq_eq_false_iff_ne.2 h14
  have q15 : ((str s).toList == [42]) = false := by rw [str_toList]; exact beq_eq_false_iff_ne.2 h15
  have q16 : ((str s).toList == [100, 105, 118]) = false := by rw [str_toList]; exact beq_eq_false_iff_ne.2 h16
  have q17 : ((str s).toList == [109, 111, 100]) = false := by rw [str_toList]; exact beq_eq_false_iff_ne.2 h17
  have q18 : ((str s).toList == [60]) = false := by rw [str_toList]; exact beq_eq_false_iff_ne.2 h18
  have q19 : ((str s).toList == [60, 61]) = false := by rw [str_toList]; exact beq_eq_false_iff_ne.2 h19
  have q20 : ((str s).toList == [62]) = false := by rw [str_toList]; exact beq_eq_false_iff_ne.2 h20
  have q21 : ((str s).toList == [62, 61]) = true := by rw [str_toList]; rw [h21]; rfl
  clear h0 h1 h2 h3 h4 h5 h6 h7 h8 h9 h10 h11 h12 h13 h14 h15 h16 h17 h18 h19 h20 h21
  go_enter Try.func23, Try.ntmps23
  go_wp2_with fail
  go_ret2
  exact ⟨rfl, rfl⟩
set_option maxRecDepth 20000 in
set_option maxHeartbeats 4000000 in
theorem rtakes22 (s : List UInt8) (w : World) (h0 : s ≠ [112, 114, 105, 110, 116]) (h1 : s ≠ [105, 116, 111, 115]) (h2 : s ≠ [115, 105, 122, 101]) (h3 : s ≠ [110, 111, 116]) (h4 : s ≠ [114, 101, 102]) (h5 : s ≠ [108, 101, 110]) (h6 : s ≠ [99, 111, 109, 109, 105, 116]) (h7 : s ≠ [97, 98, 111, 114, 116]) (h8 : s ≠ [126]) (h9 : s ≠ [33]) (h10 : s ≠ [115, 97, 109, 101]) (h11 : s ≠ [97, 114, 114, 97, 121]) (h12 : s ≠ [103, 101, 116]) (h13 : s ≠ [43]) (h14 : s ≠ [45]) (h15 : s ≠ [42]) (h16 : s ≠ [100, 105, 118]) (h17 : s ≠ [109, 111, 100]) (h18 : s ≠ [60]) (h19 : s ≠ [60, 61]) (h20 : s ≠ [62]) (h21 : s ≠ [62, 61]) (h22 : s = [61]) : Calls Try.prog 23 #[.string (str s)] w fun e w' => e = .returned (.tuple #[.int .i64 2, .bool true]) ∧ w = w' := by
  have q0 : ((str s).toList == [112, 114, 105, 110, 116]) = false := by rw [str_toList]; exact beq_eq_false_iff_ne.2 h0
  have q1 : ((str s).toList == [105, 116, 111, 115]) = false := by rw [str_toList]; exact beq_eq_false_iff_ne.2 h1
  have q2 : ((str s).toList == [115, 105, 122, 101]) = false := by rw [str_toList]; exact beq_eq_false_iff_ne.2 h2
  have q3 : ((str s).toList == [110, 111, 116]) = false := by rw [str_toList]; exact beq_eq_false_iff_ne.2 h3
  have q4 : ((str s).toList == [114, 101, 102]) = false := by rw [str_toList]; exact beq_eq_false_iff_ne.2 h4
  have q5 : ((str s).toList == [108, 101, 110]) = false := by rw [str_toList]; exact beq_eq_false_iff_ne.2 h5
  have q6 : ((str s).toList == [99, 111, 109, 109, 105, 116]) = false := by rw [str_toList]; exact beq_eq_false_iff_ne.2 h6
  have q7 : ((str s).toList == [97, 98, 111, 114, 116]) = false := by rw [str_toList]; exact beq_eq_false_iff_ne.2 h7
  have q8 : ((str s).toList == [126]) = false := by rw [str_toList]; exact beq_eq_false_iff_ne.2 h8
  have q9 : ((str s).toList == [33]) = false := by rw [str_toList]; exact beq_eq_false_iff_ne.2 h9
  have q10 : ((str s).toList == [115, 97, 109, 101]) = false := by rw [str_toList]; exact beq_eq_false_iff_ne.2 h10
  have q11 : ((str s).toList == [97, 114, 114, 97, 121]) = false := by rw [str_toList]; exact beq_eq_false_iff_ne.2 h11
  have q12 : ((str s).toList == [103, 101, 116]) = false := by rw [str_toList]; exact beq_eq_false_iff_ne.2 h12
  have q13 : ((str s).toList == [43]) = false := by rw [str_toList]; exact beq_eq_false_iff_ne.2 h13
  have q14 : ((str s).toList == [45]) = false := by rw [str_toList]; exact beq_eq_false_iff_ne.2 h14
  have q15 : ((str s).toList == [42]) = false := by rw [str_toList]; exact beq_eq_false_iff_ne.2 h15
  have q16 : ((str s).toList == [100, 105, 118]) = false := by rw [str_toList]; exact beq_eq_false_iff_ne.2 h16
  have q17 : ((str s).toList == [109, 111, 100]) = false := by rw [str_toList]; exact beq_eq_false_iff_ne.2 h17
  have q18 : ((str s).toList == [60]) = false := by rw [str_toList]; exact beq_eq_false_iff_ne.2 h18
  have q19 : ((str s).toList == [60, 61]) = false := by rw [str_toList]; exact beq_eq_false_iff_ne.2 h19
  have q20 : ((str s).toList == [62]) = false := by rw [str_toList]; exact beq_eq_false_iff_ne.2 h20
  have q21 : ((str s).toList == [62, 61]) = false := by rw [str_toList]; exact beq_eq_false_iff_ne.2 h21
  have q22 : ((str s).toList == [61]) = true := by rw [str_toList]; rw [h22]; rfl
  clear h0 h1 h2 h3 h4 h5 h6 h7 h8 h9 h10 h11 h12 h13 h14 h15 h16 h17 h18 h19 h20 h21 h22
  go_enter Try.func23, Try.ntmps23
  go_wp2_with fail
  go_ret2
  exact ⟨rfl, rfl⟩
set_option maxRecDepth 20000 in
set_option maxHeartbeats 4000000 in
theorem rtakes23 (s : List UInt8) (w : World) (h0 : s ≠ [112, 114, 105, 110, 116]) (h1 : s ≠ [105, 116, 111, 115]) (h2 : s ≠ [115, 105, 122, 101]) (h3 : s ≠ [110, 111, 116]) (h4 : s ≠ [114, 101, 102]) (h5 : s ≠ [108, 101, 110]) (h6 : s ≠ [99, 111, 109, 109, 105, 116]) (h7 : s ≠ [97, 98, 111, 114, 116]) (h8 : s ≠ [126]) (h9 : s ≠ [33]) (h10 : s ≠ [115, 97, 109, 101]) (h11 : s ≠ [97, 114, 114, 97, 121]) (h12 : s ≠ [103, 101, 116]) (h13 : s ≠ [43]) (h14 : s ≠ [45]) (h15 : s ≠ [42]) (h16 : s ≠ [100, 105, 118]) (h17 : s ≠ [109, 111, 100]) (h18 : s ≠ [60]) (h19 : s ≠ [60, 61]) (h20 : s ≠ [62]) (h21 : s ≠ [62, 61]) (h22 : s ≠ [61]) (h23 : s = [60, 62]) : Calls Try.prog 23 #[.string (str s)] w fun e w' => e = .returned (.tuple #[.int .i64 2, .bool true]) ∧ w = w' := by
  have q0 : ((str s).toList == [112, 114, 105, 110, 116]) = false := by rw [str_toList]; exact beq_eq_false_iff_ne.2 h0
  have q1 : ((str s).toList == [105, 116, 111, 115]) = false := by rw [str_toList]; exact beq_eq_false_iff_ne.2 h1
  have q2 : ((str s).toList == [115, 105, 122, 101]) = false := by rw [str_toList]; exact beq_eq_false_iff_ne.2 h2
  have q3 : ((str s).toList == [110, 111, 116]) = false := by rw [str_toList]; exact beq_eq_false_iff_ne.2 h3
  have q4 : ((str s).toList == [114, 101, 102]) = false := by rw [str_toList]; exact beq_eq_false_iff_ne.2 h4
  have q5 : ((str s).toList == [108, 101, 110]) = false := by rw [str_toList]; exact beq_eq_false_iff_ne.2 h5
  have q6 : ((str s).toList == [99, 111, 109, 109, 105, 116]) = false := by rw [str_toList]; exact beq_eq_false_iff_ne.2 h6
  have q7 : ((str s).toList == [97, 98, 111, 114, 116]) = false := by rw [str_toList]; exact beq_eq_false_iff_ne.2 h7
  have q8 : ((str s).toList == [126]) = false := by rw [str_toList]; exact beq_eq_false_iff_ne.2 h8
  have q9 : ((str s).toList == [33]) = false := by rw [str_toList]; exact beq_eq_false_iff_ne.2 h9
  have q10 : ((str s).toList == [115, 97, 109, 101]) = false := by rw [str_toList]; exact beq_eq_false_iff_ne.2 h10
  have q11 : ((str s).toList == [97, 114, 114, 97, 121]) = false := by rw [str_toList]; exact beq_eq_false_iff_ne.2 h11
  have q12 : ((str s).toList == [103, 101, 116]) = false := by rw [str_toList]; exact beq_eq_false_iff_ne.2 h12
  have q13 : ((str s).toList == [43]) = false := by rw [str_toList]; exact beq_eq_false_iff_ne.2 h13
  have q14 : ((str s).toList == [45]) = false := by rw [str_toList]; exact beq_eq_false_iff_ne.2 h14
  have q15 : ((str s).toList == [42]) = false := by rw [str_toList]; exact beq_eq_false_iff_ne.2 h15
  have q16 : ((str s).toList == [100, 105, 118]) = false := by rw [str_toList]; exact beq_eq_false_iff_ne.2 h16
  have q17 : ((str s).toList == [109, 111, 100]) = false := by rw [str_toList]; exact beq_eq_false_iff_ne.2 h17
  have q18 : ((str s).toList == [60]) = false := by rw [str_toList]; exact beq_eq_false_iff_ne.2 h18
  have q19 : ((str s).toList == [60, 61]) = false := by rw [str_toList]; exact beq_eq_false_iff_ne.2 h19
  have q20 : ((str s).toList == [62]) = false := by rw [str_toList]; exact beq_eq_false_iff_ne.2 h20
  have q21 : ((str s).toList == [62, 61]) = false := by rw [str_toList]; exact beq_eq_false_iff_ne.2 h21
  have q22 : ((str s).toList == [61]) = false := by rw [str_toList]; exact beq_eq_false_iff_ne.2 h22
  have q23 : ((str s).toList == [60, 62]) = true := by rw [str_toList]; rw [h23]; rfl
  clear h0 h1 h2 h3 h4 h5 h6 h7 h8 h9 h10 h11 h12 h13 h14 h15 h16 h17 h18 h19 h20 h21 h22 h23
  go_enter Try.func23, Try.ntmps23
  go_wp2_with fail
  go_ret2
  exact ⟨rfl, rfl⟩
set_option maxRecDepth 20000 in
set_option maxHeartbeats 4000000 in
theorem rtakes24 (s : List UInt8) (w : World) (h0 : s ≠ [112, 114, 105, 110, 116]) (h1 : s ≠ [105, 116, 111, 115]) (h2 : s ≠ [115, 105, 122, 101]) (h3 : s ≠ [110, 111, 116]) (h4 : s ≠ [114, 101, 102]) (h5 : s ≠ [108, 101, 110]) (h6 : s ≠ [99, 111, 109, 109, 105, 116]) (h7 : s ≠ [97, 98, 111, 114, 116]) (h8 : s ≠ [126]) (h9 : s ≠ [33]) (h10 : s ≠ [115, 97, 109, 101]) (h11 : s ≠ [97, 114, 114, 97, 121]) (h12 : s ≠ [103, 101, 116]) (h13 : s ≠ [43]) (h14 : s ≠ [45]) (h15 : s ≠ [42]) (h16 : s ≠ [100, 105, 118]) (h17 : s ≠ [109, 111, 100]) (h18 : s ≠ [60]) (h19 : s ≠ [60, 61]) (h20 : s ≠ [62]) (h21 : s ≠ [62, 61]) (h22 : s ≠ [61]) (h23 : s ≠ [60, 62]) (h24 : s = [94]) : Calls Try.prog 23 #[.string (str s)] w fun e w' => e = .returned (.tuple #[.int .i64 2, .bool true]) ∧ w = w' := by
  have q0 : ((str s).toList == [112, 114, 105, 110, 116]) = false := by rw [str_toList]; exact beq_eq_false_iff_ne.2 h0
  have q1 : ((str s).toList == [105, 116, 111, 115]) = false := by rw [str_toList]; exact beq_eq_false_iff_ne.2 h1
  have q2 : ((str s).toList == [115, 105, 122, 101]) = false := by rw [str_toList]; exact beq_eq_false_iff_ne.2 h2
  have q3 : ((str s).toList == [110, 111, 116]) = false := by rw [str_toList]; exact beq_eq_false_iff_ne.2 h3
  have q4 : ((str s).toList == [114, 101, 102]) = false := by rw [str_toList]; exact beq_eq_false_iff_ne.2 h4
  have q5 : ((str s).toList == [108, 101, 110]) = false := by rw [str_toList]; exact beq_eq_false_iff_ne.2 h5
  have q6 : ((str s).toList == [99, 111, 109, 109, 105, 116]) = false := by rw [str_toList]; exact beq_eq_false_iff_ne.2 h6
  have q7 : ((str s).toList == [97, 98, 111, 114, 116]) = false := by rw [str_toList]; exact beq_eq_false_iff_ne.2 h7
  have q8 : ((str s).toList == [126]) = false := by rw [str_toList]; exact beq_eq_false_iff_ne.2 h8
  have q9 : ((str s).toList == [33]) = false := by rw [str_toList]; exact beq_eq_false_iff_ne.2 h9
  have q10 : ((str s).toList == [115, 97, 109, 101]) = false := by rw [str_toList]; exact beq_eq_false_iff_ne.2 h10
  have q11 : ((str s).toList == [97, 114, 114, 97, 121]) = false := by rw [str_toList]; exact beq_eq_false_iff_ne.2 h11
  have q12 : ((str s).toList == [103, 101, 116]) = false := by rw [str_toList]; exact beq_eq_false_iff_ne.2 h12
  have q13 : ((str s).toList == [43]) = false := by rw [str_toList]; exact beq_eq_false_iff_ne.2 h13
  have q14 : ((str s).toList == [45]) = false := by rw [str_toList]; exact beq_eq_false_iff_ne.2 h14
  have q15 : ((str s).toList == [42]) = false := by rw [str_toList]; exact beq_eq_false_iff_ne.2 h15
  have q16 : ((str s).toList == [100, 105, 118]) = false := by rw [str_toList]; exact beq_eq_false_iff_ne.2 h16
  have q17 : ((str s).toList == [109, 111, 100]) = false := by rw [str_toList]; exact beq_eq_false_iff_ne.2 h17
  have q18 : ((str s).toList == [60]) = false := by rw [str_toList]; exact beq_eq_false_iff_ne.2 h18
  have q19 : ((str s).toList == [60, 61]) = false := by rw [str_toList]; exact beq_eq_false_iff_ne.2 h19
  have q20 : ((str s).toList == [62]) = false := by rw [str_toList]; exact beq_eq_false_iff_ne.2 h20
  have q21 : ((str s).toList == [62, 61]) = false := by rw [str_toList]; exact beq_eq_false_iff_ne.2 h21
  have q22 : ((str s).toList == [61]) = false := by rw [str_toList]; exact beq_eq_false_iff_ne.2 h22
  have q23 : ((str s).toList == [60, 62]) = false := by rw [str_toList]; exact beq_eq_false_iff_ne.2 h23
  have q24 : ((str s).toList == [94]) = true := by rw [str_toList]; rw [h24]; rfl
  clear h0 h1 h2 h3 h4 h5 h6 h7 h8 h9 h10 h11 h12 h13 h14 h15 h16 h17 h18 h19 h20 h21 h22 h23 h24
  go_enter Try.func23, Try.ntmps23
  go_wp2_with fail
  go_ret2
  exact ⟨rfl, rfl⟩
set_option maxRecDepth 20000 in
set_option maxHeartbeats 4000000 in
theorem rtakes25 (s : List UInt8) (w : World) (h0 : s ≠ [112, 114, 105, 110, 116]) (h1 : s ≠ [105, 116, 111, 115]) (h2 : s ≠ [115, 105, 122, 101]) (h3 : s ≠ [110, 111, 116]) (h4 : s ≠ [114, 101, 102]) (h5 : s ≠ [108, 101, 110]) (h6 : s ≠ [99, 111, 109, 109, 105, 116]) (h7 : s ≠ [97, 98, 111, 114, 116]) (h8 : s ≠ [126]) (h9 : s ≠ [33]) (h10 : s ≠ [115, 97, 109, 101]) (h11 : s ≠ [97, 114, 114, 97, 121]) (h12 : s ≠ [103, 101, 116]) (h13 : s ≠ [43]) (h14 : s ≠ [45]) (h15 : s ≠ [42]) (h16 : s ≠ [100, 105, 118]) (h17 : s ≠ [109, 111, 100]) (h18 : s ≠ [60]) (h19 : s ≠ [60, 61]) (h20 : s ≠ [62]) (h21 : s ≠ [62, 61]) (h22 : s ≠ [61]) (h23 : s ≠ [60, 62]) (h24 : s ≠ [94]) (h25 : s = [58, 61]) : Calls Try.prog 23 #[.string (str s)] w fun e w' => e = .returned (.tuple #[.int .i64 2, .bool true]) ∧ w = w' := by
  have q0 : ((str s).toList == [112, 114, 105, 110, 116]) = false := by rw [str_toList]; exact beq_eq_false_iff_ne.2 h0
  have q1 : ((str s).toList == [105, 116, 111, 115]) = false := by rw [str_toList]; exact beq_eq_false_iff_ne.2 h1
  have q2 : ((str s).toList == [115, 105, 122, 101]) = false := by rw [str_toList]; exact beq_eq_false_iff_ne.2 h2
  have q3 : ((str s).toList == [110, 111, 116]) = false := by rw [str_toList]; exact beq_eq_false_iff_ne.2 h3
  have q4 : ((str s).toList == [114, 101, 102]) = false := by rw [str_toList]; exact beq_eq_false_iff_ne.2 h4
  have q5 : ((str s).toList == [108, 101, 110]) = false := by rw [str_toList]; exact beq_eq_false_iff_ne.2 h5
  have q6 : ((str s).toList == [99, 111, 109, 109, 105, 116]) = false := by rw [str_toList]; exact beq_eq_false_iff_ne.2 h6
  have q7 : ((str s).toList == [97, 98, 111, 114, 116]) = false := by rw [str_toList]; exact beq_eq_false_iff_ne.2 h7
  have q8 : ((str s).toList == [126]) = false := by rw [str_toList]; exact beq_eq_false_iff_ne.2 h8
  have q9 : ((str s).toList == [33]) = false := by rw [str_toList]; exact beq_eq_false_iff_ne.2 h9
  have q10 : ((str s).toList == [115, 97, 109, 101]) = false := by rw [str_toList]; exact beq_eq_false_iff_ne.2 h10
  have q11 : ((str s).toList == [97, 114, 114, 97, 121]) = false := by rw [str_toList]; exact beq_eq_false_iff_ne.2 h11
  have q12 : ((str s).toList == [103, 101, 116]) = false := by rw [str_toList]; exact beq_eq_false_iff_ne.2 h12
  have q13 : ((str s).toList == [43]) = false := by rw [str_toList]; exact beq_eq_false_iff_ne.2 h13
  have q14 : ((str s).toList == [45]) = false := by rw [str_toList]; exact beq_eq_false_iff_ne.2 h14
  have q15 : ((str s).toList == [42]) = false := by rw [str_toList]; exact beq_eq_false_iff_ne.2 h15
  have q16 : ((str s).toList == [100, 105, 118]) = false := by rw [str_toList]; exact beq_eq_false_iff_ne.2 h16
  have q17 : ((str s).toList == [109, 111, 100]) = false := by rw [str_toList]; exact beq_eq_false_iff_ne.2 h17
  have q18 : ((str s).toList == [60]) = false := by rw [str_toList]; exact beq_eq_false_iff_ne.2 h18
  have q19 : ((str s).toList == [60, 61]) = false := by rw [str_toList]; exact beq_eq_false_iff_ne.2 h19
  have q20 : ((str s).toList == [62]) = false := by rw [str_toList]; exact beq_eq_false_iff_ne.2 h20
  have q21 : ((str s).toList == [62, 61]) = false := by rw [str_toList]; exact beq_eq_false_iff_ne.2 h21
  have q22 : ((str s).toList == [61]) = false := by rw [str_toList]; exact beq_eq_false_iff_ne.2 h22
  have q23 : ((str s).toList == [60, 62]) = false := by rw [str_toList]; exact beq_eq_false_iff_ne.2 h23
  have q24 : ((str s).toList == [94]) = false := by rw [str_toList]; exact beq_eq_false_iff_ne.2 h24
  have q25 : ((str s).toList == [58, 61]) = true := by rw [str_toList]; rw [h25]; rfl
  clear h0 h1 h2 h3 h4 h5 h6 h7 h8 h9 h10 h11 h12 h13 h14 h15 h16 h17 h18 h19 h20 h21 h22 h23 h24 h25
  go_enter Try.func23, Try.ntmps23
  go_wp2_with fail
  go_ret2
  exact ⟨rfl, rfl⟩
set_option maxRecDepth 20000 in
set_option maxHeartbeats 4000000 in
theorem rtakes26 (s : List UInt8) (w : World) (h0 : s ≠ [112, 114, 105, 110, 116]) (h1 : s ≠ [105, 116, 111, 115]) (h2 : s ≠ [115, 105, 122, 101]) (h3 : s ≠ [110, 111, 116]) (h4 : s ≠ [114, 101, 102]) (h5 : s ≠ [108, 101, 110]) (h6 : s ≠ [99, 111, 109, 109, 105, 116]) (h7 : s ≠ [97, 98, 111, 114, 116]) (h8 : s ≠ [126]) (h9 : s ≠ [33]) (h10 : s ≠ [115, 97, 109, 101]) (h11 : s ≠ [97, 114, 114, 97, 121]) (h12 : s ≠ [103, 101, 116]) (h13 : s ≠ [43]) (h14 : s ≠ [45]) (h15 : s ≠ [42]) (h16 : s ≠ [100, 105, 118]) (h17 : s ≠ [109, 111, 100]) (h18 : s ≠ [60]) (h19 : s ≠ [60, 61]) (h20 : s ≠ [62]) (h21 : s ≠ [62, 61]) (h22 : s ≠ [61]) (h23 : s ≠ [60, 62]) (h24 : s ≠ [94]) (h25 : s ≠ [58, 61]) (h26 : s = [112, 117, 116]) : Calls Try.prog 23 #[.string (str s)] w fun e w' => e = .returned (.tuple #[.int .i64 3, .bool true]) ∧ w = w' := by
  have q0 : ((str s).toList == [112, 114, 105, 110, 116]) = false := by rw [str_toList]; exact beq_eq_false_iff_ne.2 h0
  have q1 : ((str s).toList == [105, 116, 111, 115]) = false := by rw [str_toList]; exact beq_eq_false_iff_ne.2 h1
  have q2 : ((str s).toList == [115, 105, 122, 101]) = false := by rw [str_toList]; exact beq_eq_false_iff_ne.2 h2
  have q3 : ((str s).toList == [110, 111, 116]) = false := by rw [str_toList]; exact beq_eq_false_iff_ne.2 h3
  have q4 : ((str s).toList == [114, 101, 102]) = false := by rw [str_toList]; exact beq_eq_false_iff_ne.2 h4
  have q5 : ((str s).toList == [108, 101, 110]) = false := by rw [str_toList]; exact beq_eq_false_iff_ne.2 h5
  have q6 : ((str s).toList == [99, 111, 109, 109, 105, 116]) = false := by rw [str_toList]; exact beq_eq_false_iff_ne.2 h6
  have q7 : ((str s).toList == [97, 98, 111, 114, 116]) = false := by rw [str_toList]; exact beq_eq_false_iff_ne.2 h7
  have q8 : ((str s).toList == [126]) = false := by rw [str_toList]; exact beq_eq_false_iff_ne.2 h8
  have q9 : ((str s).toList == [33]) = false := by rw [str_toList]; exact beq_eq_false_iff_ne.2 h9
  have q10 : ((str s).toList == [115, 97, 109, 101]) = false := by rw [str_toList]; exact beq_eq_false_iff_ne.2 h10
  have q11 : ((str s).toList == [97, 114, 114, 97, 121]) = false := by rw [str_toList]; exact beq_eq_false_iff_ne.2 h11
  have q12 : ((str s).toList == [103, 101, 116]) = false := by rw [str_toList]; exact beq_eq_false_iff_ne.2 h12
  have q13 : ((str s).toList == [43]) = false := by rw [str_toList]; exact beq_eq_false_iff_ne.2 h13
  have q14 : ((str s).toList == [45]) = false := by rw [str_toList]; exact beq_eq_false_iff_ne.2 h14
  have q15 : ((str s).toList == [42]) = false := by rw [str_toList]; exact beq_eq_false_iff_ne.2 h15
  have q16 : ((str s).toList == [100, 105, 118]) = false := by rw [str_toList]; exact beq_eq_false_iff_ne.2 h16
  have q17 : ((str s).toList == [109, 111, 100]) = false := by rw [str_toList]; exact beq_eq_false_iff_ne.2 h17
  have q18 : ((str s).toList == [60]) = false := by rw [str_toList]; exact beq_eq_false_iff_ne.2 h18
  have q19 : ((str s).toList == [60, 61]) = false := by rw [str_toList]; exact beq_eq_false_iff_ne.2 h19
  have q20 : ((str s).toList == [62]) = false := by rw [str_toList]; exact beq_eq_false_iff_ne.2 h20
  have q21 : ((str s).toList == [62, 61]) = false := by rw [str_toList]; exact beq_eq_false_iff_ne.2 h21
  have q22 : ((str s).toList == [61]) = false := by rw [str_toList]; exact beq_eq_false_iff_ne.2 h22
  have q23 : ((str s).toList == [60, 62]) = false := by rw [str_toList]; exact beq_eq_false_iff_ne.2 h23
  have q24 : ((str s).toList == [94]) = false := by rw [str_toList]; exact beq_eq_false_iff_ne.2 h24
  have q25 : ((str s).toList == [58, 61]) = false := by rw [str_toList]; exact beq_eq_false_iff_ne.2 h25
  have q26 : ((str s).toList == [112, 117, 116]) = true := by rw [str_toList]; rw [h26]; rfl
  clear h0 h1 h2 h3 h4 h5 h6 h7 h8 h9 h10 h11 h12 h13 h14 h15 h16 h17 h18 h19 h20 h21 h22 h23 h24 h25 h26
  go_enter Try.func23, Try.ntmps23
  go_wp2_with fail
  go_ret2
  exact ⟨rfl, rfl⟩
set_option maxRecDepth 20000 in
set_option maxHeartbeats 4000000 in
theorem rtakes27 (s : List UInt8) (w : World) (h0 : s ≠ [112, 114, 105, 110, 116]) (h1 : s ≠ [105, 116, 111, 115]) (h2 : s ≠ [115, 105, 122, 101]) (h3 : s ≠ [110, 111, 116]) (h4 : s ≠ [114, 101, 102]) (h5 : s ≠ [108, 101, 110]) (h6 : s ≠ [99, 111, 109, 109, 105, 116]) (h7 : s ≠ [97, 98, 111, 114, 116]) (h8 : s ≠ [126]) (h9 : s ≠ [33]) (h10 : s ≠ [115, 97, 109, 101]) (h11 : s ≠ [97, 114, 114, 97, 121]) (h12 : s ≠ [103, 101, 116]) (h13 : s ≠ [43]) (h14 : s ≠ [45]) (h15 : s ≠ [42]) (h16 : s ≠ [100, 105, 118]) (h17 : s ≠ [109, 111, 100]) (h18 : s ≠ [60]) (h19 : s ≠ [60, 61]) (h20 : s ≠ [62]) (h21 : s ≠ [62, 61]) (h22 : s ≠ [61]) (h23 : s ≠ [60, 62]) (h24 : s ≠ [94]) (h25 : s ≠ [58, 61]) (h26 : s ≠ [112, 117, 116]) : Calls Try.prog 23 #[.string (str s)] w fun e w' => e = .returned (.tuple #[.int .i64 0, .bool false]) ∧ w = w' := by
  have q0 : ((str s).toList == [112, 114, 105, 110, 116]) = false := by rw [str_toList]; exact beq_eq_false_iff_ne.2 h0
  have q1 : ((str s).toList == [105, 116, 111, 115]) = false := by rw [str_toList]; exact beq_eq_false_iff_ne.2 h1
  have q2 : ((str s).toList == [115, 105, 122, 101]) = false := by rw [str_toList]; exact beq_eq_false_iff_ne.2 h2
  have q3 : ((str s).toList == [110, 111, 116]) = false := by rw [str_toList]; exact beq_eq_false_iff_ne.2 h3
  have q4 : ((str s).toList == [114, 101, 102]) = false := by rw [str_toList]; exact beq_eq_false_iff_ne.2 h4
  have q5 : ((str s).toList == [108, 101, 110]) = false := by rw [str_toList]; exact beq_eq_false_iff_ne.2 h5
  have q6 : ((str s).toList == [99, 111, 109, 109, 105, 116]) = false := by rw [str_toList]; exact beq_eq_false_iff_ne.2 h6
  have q7 : ((str s).toList == [97, 98, 111, 114, 116]) = false := by rw [str_toList]; exact beq_eq_false_iff_ne.2 h7
  have q8 : ((str s).toList == [126]) = false := by rw [str_toList]; exact beq_eq_false_iff_ne.2 h8
  have q9 : ((str s).toList == [33]) = false := by rw [str_toList]; exact beq_eq_false_iff_ne.2 h9
  have q10 : ((str s).toList == [115, 97, 109, 101]) = false := by rw [str_toList]; exact beq_eq_false_iff_ne.2 h10
  have q11 : ((str s).toList == [97, 114, 114, 97, 121]) = false := by rw [str_toList]; exact beq_eq_false_iff_ne.2 h11
  have q12 : ((str s).toList == [103, 101, 116]) = false := by rw [str_toList]; exact beq_eq_false_iff_ne.2 h12
  have q13 : ((str s).toList == [43]) = false := by rw [str_toList]; exact beq_eq_false_iff_ne.2 h13
  have q14 : ((str s).toList == [45]) = false := by rw [str_toList]; exact beq_eq_false_iff_ne.2 h14
  have q15 : ((str s).toList == [42]) = false := by rw [str_toList]; exact beq_eq_false_iff_ne.2 h15
  have q16 : ((str s).toList == [100, 105, 118]) = false := by rw [str_toList]; exact beq_eq_false_iff_ne.2 h16
  have q17 : ((str s).toList == [109, 111, 100]) = false := by rw [str_toList]; exact beq_eq_false_iff_ne.2 h17
  have q18 : ((str s).toList == [60]) = false := by rw [str_toList]; exact beq_eq_false_iff_ne.2 h18
  have q19 : ((str s).toList == [60, 61]) = false := by rw [str_toList]; exact beq_eq_false_iff_ne.2 h19
  have q20 : ((str s).toList == [62]) = false := by rw [str_toList]; exact beq_eq_false_iff_ne.2 h20
  have q21 : ((str s).toList == [62, 61]) = false := by rw [str_toList]; exact beq_eq_false_iff_ne.2 h21
  have q22 : ((str s).toList == [61]) = false := by rw [str_toList]; exact beq_eq_false_iff_ne.2 h22
  have q23 : ((str s).toList == [60, 62]) = false := by rw [str_toList]; exact beq_eq_false_iff_ne.2 h23
  have q24 : ((str s).toList == [94]) = false := by rw [str_toList]; exact beq_eq_false_iff_ne.2 h24
  have q25 : ((str s).toList == [58, 61]) = false := by rw [str_toList]; exact beq_eq_false_iff_ne.2 h25
  have q26 : ((str s).toList == [112, 117, 116]) = false := by rw [str_toList]; exact beq_eq_false_iff_ne.2 h26
  clear h0 h1 h2 h3 h4 h5 h6 h7 h8 h9 h10 h11 h12 h13 h14 h15 h16 h17 h18 h19 h20 h21 h22 h23 h24 h25 h26
  go_enter Try.func23, Try.ntmps23
  go_wp2_with fail
  go_ret2
  exact ⟨rfl, rfl⟩
theorem rtakes_any (s : List UInt8) (w : World) : Calls Try.prog 23 #[.string (str s)] w fun e w' => e = .returned (.tuple #[.int .i64 (takesN s : Int), .bool (decide (0 < takesN s))]) ∧ w = w' := by
  by_cases h0 : s = [112, 114, 105, 110, 116]
  · have e : takesN s = 1 := by rw [h0]; decide
    rw [e]
    exact rtakes0 s w h0
  by_cases h1 : s = [105, 116, 111, 115]
  · have e : takesN s = 1 := by rw [h1]; decide
    rw [e]
    exact rtakes1 s w h0 h1
  by_cases h2 : s = [115, 105, 122, 101]
  · have e : takesN s = 1 := by rw [h2]; decide
    rw [e]
    exact rtakes2 s w h0 h1 h2
  by_cases h3 : s = [110, 111, 116]
  · have e : takesN s = 1 := by rw [h3]; decide
    rw [e]
    exact rtakes3 s w h0 h1 h2 h3
  by_cases h4 : s = [114, 101, 102]
  · have e : takesN s = 1 := by rw [h4]; decide
    rw [e]
    exact rtakes4 s w h0 h1 h2 h3 h4
  by_cases h5 : s = [108, 101, 110]
  · have e : takesN s = 1 := by rw [h5]; decide
    rw [e]
    exact rtakes5 s w h0 h1 h2 h3 h4 h5
  by_cases h6 : s = [99, 111, 109, 109, 105, 116]
  · have e : takesN s = 1 := by rw [h6]; decide
    rw [e]
    exact rtakes6 s w h0 h1 h2 h3 h4 h5 h6
  by_cases h7 : s = [97, 98, 111, 114, 116]
  · have e : takesN s = 1 := by rw [h7]; decide
    rw [e]
    exact rtakes7 s w h0 h1 h2 h3 h4 h5 h6 h7
  by_cases h8 : s = [126]
  · have e : takesN s = 1 := by rw [h8]; decide
    rw [e]
    exact rtakes8 s w h0 h1 h2 h3 h4 h5 h6 h7 h8
  by_cases h9 : s = [33]
  · have e : takesN s = 1 := by rw [h9]; decide
    rw [e]
    exact rtakes9 s w h0 h1 h2 h3 h4 h5 h6 h7 h8 h9
  by_cases h10 : s = [115, 97, 109, 101]
  · have e : takesN s = 2 := by rw [h10]; decide
    rw [e]
    exact rtakes10 s w h0 h1 h2 h3 h4 h5 h6 h7 h8 h9 h10
  by_cases h11 : s = [97, 114, 114, 97, 121]
  · have e : takesN s = 2 := by rw [h11]; decide
    rw [e]
    exact rtakes11 s w h0 h1 h2 h3 h4 h5 h6 h7 h8 h9 h10 h11
  by_cases h12 : s = [103, 101, 116]
  · have e : takesN s = 2 := by rw [h12]; decide
    rw [e]
    exact rtakes12 s w h0 h1 h2 h3 h4 h5 h6 h7 h8 h9 h10 h11 h12
  by_cases h13 : s = [43]
  · have e : takesN s = 2 := by rw [h13]; decide
    rw [e]
    exact rtakes13 s w h0 h1 h2 h3 h4 h5 h6 h7 h8 h9 h10 h11 h12 h13
  by_cases h14 : s = [45]
  · have e : takesN s = 2 := by rw [h14]; decide
    rw [e]
    exact rtakes14 s w h0 h1 h2 h3 h4 h5 h6 h7 h8 h9 h10 h11 h12 h13 h14
  by_cases h15 : s = [42]
  · have e : takesN s = 2 := by rw [h15]; decide
    rw [e]
    exact rtakes15 s w h0 h1 h2 h3 h4 h5 h6 h7 h8 h9 h10 h11 h12 h13 h14 h15
  by_cases h16 : s = [100, 105, 118]
  · have e : takesN s = 2 := by rw [h16]; decide
    rw [e]
    exact rtakes16 s w h0 h1 h2 h3 h4 h5 h6 h7 h8 h9 h10 h11 h12 h13 h14 h15 h16
  by_cases h17 : s = [109, 111, 100]
  · have e : takesN s = 2 := by rw [h17]; decide
    rw [e]
    exact rtakes17 s w h0 h1 h2 h3 h4 h5 h6 h7 h8 h9 h10 h11 h12 h13 h14 h15 h16 h17
  by_cases h18 : s = [60]
  · have e : takesN s = 2 := by rw [h18]; decide
    rw [e]
    exact rtakes18 s w h0 h1 h2 h3 h4 h5 h6 h7 h8 h9 h10 h11 h12 h13 h14 h15 h16 h17 h18
  by_cases h19 : s = [60, 61]
  · have e : takesN s = 2 := by rw [h19]; decide
    rw [e]
    exact rtakes19 s w h0 h1 h2 h3 h4 h5 h6 h7 h8 h9 h10 h11 h12 h13 h14 h15 h16 h17 h18 h19
  by_cases h20 : s = [62]
  · have e : takesN s = 2 := by rw [h20]; decide
    rw [e]
    exact rtakes20 s w h0 h1 h2 h3 h4 h5 h6 h7 h8 h9 h10 h11 h12 h13 h14 h15 h16 h17 h18 h19 h20
  by_cases h21 : s = [62, 61]
  · have e : takesN s = 2 := by rw [h21]; decide
    rw [e]
    exact rtakes21 s w h0 h1 h2 h3 h4 h5 h6 h7 h8 h9 h10 h11 h12 h13 h14 h15 h16 h17 h18 h19 h20 h21
  by_cases h22 : s = [61]
  · have e : takesN s = 2 := by rw [h22]; decide
    rw [e]
    exact rtakes22 s w h0 h1 h2 h3 h4 h5 h6 h7 h8 h9 h10 h11 h12 h13 h14 h15 h16 h17 h18 h19 h20 h21 h22
  by_cases h23 : s = [60, 62]
  · have e : takesN s = 2 := by rw [h23]; decide
    rw [e]
    exact rtakes23 s w h0 h1 h2 h3 h4 h5 h6 h7 h8 h9 h10 h11 h12 h13 h14 h15 h16 h17 h18 h19 h20 h21 h22 h23
  by_cases h24 : s = [94]
  · have e : takesN s = 2 := by rw [h24]; decide
    rw [e]
    exact rtakes24 s w h0 h1 h2 h3 h4 h5 h6 h7 h8 h9 h10 h11 h12 h13 h14 h15 h16 h17 h18 h19 h20 h21 h22 h23 h24
  by_cases h25 : s = [58, 61]
  · have e : takesN s = 2 := by rw [h25]; decide
    rw [e]
    exact rtakes25 s w h0 h1 h2 h3 h4 h5 h6 h7 h8 h9 h10 h11 h12 h13 h14 h15 h16 h17 h18 h19 h20 h21 h22 h23 h24 h25
  by_cases h26 : s = [112, 117, 116]
  · have e : takesN s = 3 := by rw [h26]; decide
    rw [e]
    exact rtakes26 s w h0 h1 h2 h3 h4 h5 h6 h7 h8 h9 h10 h11 h12 h13 h14 h15 h16 h17 h18 h19 h20 h21 h22 h23 h24 h25 h26
  have e : takesN s = 0 := by
    have h1 : s ∉ prims1 := by unfold prims1; simp only [List.mem_cons, List.not_mem_nil, or_false, not_or]; exact ⟨h0, h1, h2, h3, h4, h5, h6, h7, h8, h9⟩
    have h2 : s ∉ prims2 := by unfold prims2; simp only [List.mem_cons, List.not_mem_nil, or_false, not_or]; exact ⟨h10, h11, h12, h13, h14, h15, h16, h17, h18, h19, h20, h21, h22, h23, h24, h25⟩
    have h3 : s ∉ prims3 := by unfold prims3; simp only [List.mem_cons, List.not_mem_nil, or_false]; exact h26
    unfold takesN
    rw [if_neg h1, if_neg h2, if_neg h3]
  rw [e]
  exact rtakes27 s w h0 h1 h2 h3 h4 h5 h6 h7 h8 h9 h10 h11 h12 h13 h14 h15 h16 h17 h18 h19 h20 h21 h22 h23 h24 h25 h26
end Go.Proofs.Ytimkiifcmegfeaa
