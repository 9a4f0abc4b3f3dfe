/- cover: two heads compared. -/
import Derived.Test.YtigaondgopahgaaWi
import Derived.ChangeKeysEq
import Derived.DeepKeys
namespace Go.Proofs.Ytigaondgopahgaa
open Go.RowKit
theorem eqF_cons {P : Program} {w : World} (d : Nat) (xs ys : Array Value) (f : Field) (fs : List Field) (a b : Value) (r : Bool) (hn : f.name ≠ "_") (ha : (part f.type xs f.offset).run P w = .ok a w) (hb : (part f.type ys f.offset).run P w = .ok b w) (hr : (Op.equalIn d f.type a b).run P w = .ok r w) : (Op.eqFields d xs ys (f :: fs)).run P w = if r then (Op.eqFields d xs ys fs).run P w else .ok false w := by
  simp only [Op.eqFields, hn, ne_eq, not_false_eq_true, if_true, Sem.run_bind, ha, hb, hr, Result.andThen_ok]
  cases r <;> simp
theorem eqH (a0 a1 : Int) (s0 s1 : ByteArray) (n0 n1 m0 m1 : Int) (w : World) : (Op.equal 65 (.agg #[.int .u8 a0, .string s0, .int .i64 n0, .int .i64 m0]) (.agg #[.int .u8 a1, .string s1, .int .i64 n1, .int .i64 m1])).run Try.prog w = .ok (a0 == a1 && (s0.toList == s1.toList && (n0 == n1 && m0 == m1))) w := by
  have e : Op.equal 65 (.agg #[.int .u8 a0, .string s0, .int .i64 n0, .int .i64 m0]) (.agg #[.int .u8 a1, .string s1, .int .i64 n1, .int .i64 m1]) = Op.equalIn (9999 + 1) 65 (.agg #[.int .u8 a0, .string s0, .int .i64 n0, .int .i64 m0]) (.agg #[.int .u8 a1, .string s1, .int .i64 n1, .int .i64 m1]) := rfl
  have hf : Try.prog.fieldsOf 65 = #[{ name := "kind", type := 5, offset := 0, embedded := false, tag := "", pkgPath := "aumbry/cover", byteOffset := 0 }, { name := "name", type := 9, offset := 1, embedded := false, tag := "", pkgPath := "aumbry/cover", byteOffset := 8 }, { name := "num", type := 2, offset := 2, embedded := false, tag := "", pkgPath := "aumbry/cover", byteOffset := 24 }, { name := "many", type := 3, offset := 3, embedded := false, tag := "", pkgPath := "aumbry/cover", byteOffset := 32 }] := by
    unfold Program.fieldsOf; rw [Try.underlying65]
  rw [e, run_equalIn_struct _ _ _ _ _ (by rw [hf]; exact Try.underlying65) (by kernel_rfl), hf]
  show (Op.eqFields 9999 _ _ [_, _, _, _]).run Try.prog w = _
  rw [eqF_cons 9999 _ _ _ _ (.int .u8 a0) (.int .u8 a1) (a0 == a1) (by decide) (by kernel_rfl) (by kernel_rfl) (run_equalIn_int w 9998 5 .u8 _ a0 a1 Try.underlying5)]
  rw [eqF_cons 9999 _ _ _ _ (.string s0) (.string s1) (s0.toList == s1.toList) (by decide) (by kernel_rfl) (by kernel_rfl) (run_equalIn_string w 9998 9 s0 s1 Try.underlying9)]
  rw [eqF_cons 9999 _ _ _ _ (.int .i64 n0) (.int .i64 n1) (n0 == n1) (by decide) (by kernel_rfl) (by kernel_rfl) (run_equalIn_int w 9998 2 .i64 _ n0 n1 Try.underlying2)]
  rw [eqF_cons 9999 _ _ _ _ (.int .i64 m0) (.int .i64 m1) (m0 == m1) (by decide) (by kernel_rfl) (by kernel_rfl) (run_equalIn_int w 9998 3 .i64 _ m0 m1 Try.underlying3)]
  have en : (Op.eqFields 9999 #[.int .u8 a0, .string s0, .int .i64 n0, .int .i64 m0] #[.int .u8 a1, .string s1, .int .i64 n1, .int .i64 m1] []).run Try.prog w = .ok true w := by simp [Op.eqFields]
  rw [en]
  cases (a0 == a1) <;> cases (s0.toList == s1.toList) <;> cases (n0 == n1) <;> cases (m0 == m1) <;> rfl
theorem str_inj {a b : List UInt8} (h : str a = str b) : a = b := by rw [← str_toList a, h, str_toList]
theorem eqHead (x h : Head) (w : World) : (Op.equal 65 x.val h.val).run Try.prog w = .ok (decide (x = h)) w := by
  refine (eqH _ _ _ _ _ _ _ _ w).trans ?_
  congr 1
  rw [str_toList, str_toList, Bool.eq_iff_iff]
  obtain ⟨a, b, c, d⟩ := x
  obtain ⟨a', b', c', d'⟩ := h
  simp only [Bool.and_eq_true, beq_iff_eq, decide_eq_true_eq, Head.mk.injEq, Int.natCast_inj]

/-- Two heads compared, as the walk spells it. -/
theorem head_dec (x : Head) (k : Nat) (nm : List UInt8) (m : Int) (mn : Nat) : decide (x = (⟨k, nm, m, mn⟩ : Head)) = (decide ((x.k : Int) = (k : Int)) && (decide ((str x.nm).toList = (str nm).toList) && (decide (x.n = m) && decide ((x.many : Int) = (mn : Int))))) := by
  obtain ⟨a, b, c, d⟩ := x
  rw [str_toList, str_toList, Bool.eq_iff_iff]
  simp only [Bool.and_eq_true, decide_eq_true_eq, Head.mk.injEq, Int.natCast_inj]
end Go.Proofs.Ytigaondgopahgaa
