/- cover: right. -/
import Derived.Test.YtigaondgopahgaaN
namespace Go.Proofs.Ytigaondgopahgaa
open Go.RowKit
set_option linter.unusedVariables false
set_option linter.unusedSimpArgs false
attribute [local go_sem] Oper.semAt_some
theorem Ask.look1' {F : Nat → Prop} {w : World} {b1 b2 n : Nat} {l : List Inf} (h : Ask F w b1 b2 n l) (s : List UInt8) (hs : s.length ≤ maxLen) : ∃ s1 p m, (Instr.lookup 54 (.map (some b1)) (.string (str s)) false).run Try.prog w = .ok (.agg #[.string s1, .string (str (ofOf l s)), .int .i64 p, .int .i64 m, .bool (hasOf l s)]) w := by
  obtain ⟨p, m, h⟩ := h.look1 s hs
  refine ⟨str ((inf l s).getD ⟨[], [], false⟩).nm, p, m, h.trans ?_⟩
  unfold infV ofOf hasOf
  cases inf l s <;> rfl
theorem info_has (s1 s2 : ByteArray) (p m : Int) (b : Bool) (w : World) : (Instr.field 30 (.agg #[.string s1, .string s2, .int .i64 p, .int .i64 m, .bool b]) 4).run Try.prog w = .ok (.bool b) w := by kernel_rfl
theorem info_of (s1 s2 : ByteArray) (p m : Int) (b : Bool) (w : World) : (Instr.field 30 (.agg #[.string s1, .string s2, .int .i64 p, .int .i64 m, .bool b]) 1).run Try.prog w = .ok (.string s2) w := by kernel_rfl
set_option maxRecDepth 20000 in
set_option maxHeartbeats 8000000 in
theorem right_any {F : Nat → Prop} {l : List Inf} {b1 b2 en : Nat} (t : Ty) (A : Option Addr) (c : Nat) (w : World) (hl : t.nm.length ≤ maxLen) (hc : t.ks.length ≤ c) (hm : c ≤ maxLen) (hS : Ask F w b1 b2 en l) :
    Calls Try.prog 24 #[.agg #[.map (some b1), .map (some b2)], t.val A c] w fun e w' => e = .returned (.bool (right l t)) ∧ Below w.heap.size w w' := by
  obtain ⟨k, nm, n, ks⟩ := t
  have hl : nm.length ≤ maxLen := hl
  have hc : ks.length ≤ c := hc
  show Calls Try.prog 24 #[.agg #[.map (some b1), .map (some b2)], .agg #[.int .u8 (k : Int), .string (str nm), .int .i64 n, .slice A ks.length c]] w _
  obtain ⟨rv, hrv⟩ : ∃ rv, right l (.node k nm n ks) = rv := ⟨_, rfl⟩
  rw [hrv]
  have hre : rv = (if k = 1 ∨ k = 2 then true else if k = 3 ∨ k = 4 then ks.isEmpty else if k = 5 then decide (2 ≤ ks.length) else if k = 6 then (if hasOf l nm then ks.length == 1 else ks.isEmpty) else false) := hrv.symm
  obtain ⟨kl, hkl⟩ : ∃ kl, ks.length = kl := ⟨_, rfl⟩
  obtain ⟨c0, hc0⟩ : ∃ c0, decide (kl = 0) = c0 := ⟨_, rfl⟩
  have hc0' : (((kl : Nat) : Int) == 0) = c0 := by rw [← hc0]; exact eq_of kl 0
  have hke : ks.isEmpty = c0 := by rw [← hc0, ← hkl]; cases ks <;> simp
  obtain ⟨c1, hc1⟩ : ∃ c1, (kl == 1) = c1 := ⟨_, rfl⟩
  have hc1' : (((kl : Nat) : Int) == 1) = c1 := by rw [← hc1]; exact (eq_of kl 1).trans (by by_cases e : kl = 1 <;> simp [e])
  obtain ⟨c2, hc2⟩ : ∃ c2, decide (2 ≤ kl) = c2 := ⟨_, rfl⟩
  have hc2' : decide (((kl : Nat) : Int) ≥ 2) = c2 := by rw [← hc2]; by_cases e : 2 ≤ kl <;> simp [e] <;> omega
  obtain ⟨hv, hhv⟩ : ∃ hv, hasOf l nm = hv := ⟨_, rfl⟩
  rw [hkl, hke, hc1, hc2, hhv] at hre
  rw [hkl]
  have hmx : kl ≤ 9223372036854775807 := by rw [hkl] at hc; unfold maxLen at hm; omega
  obtain ⟨w0, hw0⟩ : ∃ w0, w.alloc (.cells #[.map (some b1), .map (some b2)] 57) = w0 := ⟨_, rfl⟩
  have hb0 : Below w.heap.size w w0 := by rw [← hw0]; exact (Below.refl _ _).alloc (Nat.le_refl _) _
  have hB0 : Blk w0 w.heap.size 57 #[.map (some b1), .map (some b2)] := by rw [← hw0]; exact Blk.new _ _ _
  have hs0 : w0.heap.size = w.heap.size + 1 := by rw [← hw0]; simp
  obtain ⟨w1, hw1⟩ : ∃ w1, w0.alloc (.cells #[.int .u8 (k : Int), .string (str nm), .int .i64 n, .slice A kl c] 40) = w1 := ⟨_, rfl⟩
  have hb1 : Below w0.heap.size w0 w1 := by rw [← hw1]; exact (Below.refl _ _).alloc (Nat.le_refl _) _
  have hB1 : Blk w1 (w.heap.size + 1) 40 #[.int .u8 (k : Int), .string (str nm), .int .i64 n, .slice A kl c] := by rw [← hw1, ← hs0]; exact Blk.new _ _ _
  have hB01 := hB0.below hb1 hB0.lt
  obtain ⟨s1, pp, mm, hlk⟩ := ((hS.bel hb0).bel hb1).look1' nm hl
  rw [hhv] at hlk
  have a0 := hB01.cell 0
  have d0 := hB1.cell 0
  have d1 := hB1.cell 1
  have d3 := hB1.cell 3
  simp only [List.getElem?_toArray, List.getElem?_cons_zero, List.getElem?_cons_succ] at a0 d0 d1 d3
  have HB := Lib.hid (hb0.trans (hb1.mono hb0.size))
  have HRE := Lib.hid hre
  have HKK : Hid (∀ m : Nat, (((k : Nat) : Int) == ((m : Nat) : Int)) = decide (k = m)) := Lib.hid fun m => eq_of k m
  clear hrv hre hkl hc0 hke hc1 hc2 hhv hl hc hm hS hb0 hB0 hb1 hB1 hB01
  by_cases e1 : k = 1
  · have hk1 : (((k : Nat) : Int) == 1) = true := (HKK.out 1).trans (by simp [e1])
    have HV : Hid (rv = true) := Lib.hid (by rw [HRE.out]; simp [e1])
    clear HRE HKK e1
    go_enter Try.func24, Try.ntmps24
    go_upto_region 1 with fail
    (try rw [hw0])
    (try rw [hw1])
    (try simp only [hs0])
    clear hw0 hw1 hs0
    go_wp2_with fail
    go_ret
    exact ⟨congrArg (fun b => Ending.returned (Value.bool b)) HV.out.symm, HB.out⟩
  by_cases e2 : k = 2
  · have hk1 : (((k : Nat) : Int) == 1) = false := (HKK.out 1).trans (by simp [e1])
    have hk2 : (((k : Nat) : Int) == 2) = true := (HKK.out 2).trans (by simp [e2])
    have HV : Hid (rv = true) := Lib.hid (by rw [HRE.out]; simp [e2])
    clear HRE HKK e1 e2
    go_enter Try.func24, Try.ntmps24
    go_upto_region 1 with fail
    (try rw [hw0])
    (try rw [hw1])
    (try simp only [hs0])
    clear hw0 hw1 hs0
    go_wp2_with fail
    go_ret
    exact ⟨congrArg (fun b => Ending.returned (Value.bool b)) HV.out.symm, HB.out⟩
  by_cases e3 : k = 3
  · have hk1 : (((k : Nat) : Int) == 1) = false := (HKK.out 1).trans (by simp [e1])
    have hk2 : (((k : Nat) : Int) == 2) = false := (HKK.out 2).trans (by simp [e2])
    have hk3 : (((k : Nat) : Int) == 3) = true := (HKK.out 3).trans (by simp [e3])
    have HV : Hid (rv = c0) := Lib.hid (by rw [HRE.out]; simp [e3])
    clear HRE HKK e1 e2 e3
    go_enter Try.func24, Try.ntmps24
    go_upto_region 1 with fail
    (try rw [hw0])
    (try rw [hw1])
    (try simp only [hs0])
    clear hw0 hw1 hs0
    go_wp2_with fail
    go_ret
    exact ⟨congrArg (fun b => Ending.returned (Value.bool b)) HV.out.symm, HB.out⟩
  by_cases e4 : k = 4
  · have hk1 : (((k : Nat) : Int) == 1) = false := (HKK.out 1).trans (by simp [e1])
    have hk2 : (((k : Nat) : Int) == 2) = false := (HKK.out 2).trans (by simp [e2])
    have hk3 : (((k : Nat) : Int) == 3) = false := (HKK.out 3).trans (by simp [e3])
    have hk4 : (((k : Nat) : Int) == 4) = true := (HKK.out 4).trans (by simp [e4])
    have HV : Hid (rv = c0) := Lib.hid (by rw [HRE.out]; simp [e4])
    clear HRE HKK e1 e2 e3 e4
    go_enter Try.func24, Try.ntmps24
    go_upto_region 1 with fail
    (try rw [hw0])
    (try rw [hw1])
    (try simp only [hs0])
    clear hw0 hw1 hs0
    go_wp2_with fail
    go_ret
    exact ⟨congrArg (fun b => Ending.returned (Value.bool b)) HV.out.symm, HB.out⟩
  by_cases e5 : k = 5
  · have hk1 : (((k : Nat) : Int) == 1) = false := (HKK.out 1).trans (by simp [e1])
    have hk2 : (((k : Nat) : Int) == 2) = false := (HKK.out 2).trans (by simp [e2])
    have hk3 : (((k : Nat) : Int) == 3) = false := (HKK.out 3).trans (by simp [e3])
    have hk4 : (((k : Nat) : Int) == 4) = false := (HKK.out 4).trans (by simp [e4])
    have hk5 : (((k : Nat) : Int) == 5) = true := (HKK.out 5).trans (by simp [e5])
    have HV : Hid (rv = c2) := Lib.hid (by rw [HRE.out]; simp [e5])
    clear HRE HKK e1 e2 e3 e4 e5
    go_enter Try.func24, Try.ntmps24
    go_upto_region 1 with fail
    (try rw [hw0])
    (try rw [hw1])
    (try simp only [hs0])
    clear hw0 hw1 hs0
    go_wp2_with fail
    go_ret
    exact ⟨congrArg (fun b => Ending.returned (Value.bool b)) HV.out.symm, HB.out⟩
  by_cases e6 : k = 6
  · have hk1 : (((k : Nat) : Int) == 1) = false := (HKK.out 1).trans (by simp [e1])
    have hk2 : (((k : Nat) : Int) == 2) = false := (HKK.out 2).trans (by simp [e2])
    have hk3 : (((k : Nat) : Int) == 3) = false := (HKK.out 3).trans (by simp [e3])
    have hk4 : (((k : Nat) : Int) == 4) = false := (HKK.out 4).trans (by simp [e4])
    have hk5 : (((k : Nat) : Int) == 5) = false := (HKK.out 5).trans (by simp [e5])
    have hk6 : (((k : Nat) : Int) == 6) = true := (HKK.out 6).trans (by simp [e6])
    have hfd := info_has s1 (str (ofOf l nm)) pp mm hv w1
    cases hv with
    | true =>
      have HV : Hid (rv = c1) := Lib.hid (by rw [HRE.out]; simp [e6])
      clear HRE HKK e1 e2 e3 e4 e5 e6
      go_enter Try.func24, Try.ntmps24
      go_upto_region 1 with fail
      (try rw [hw0])
      (try rw [hw1])
      (try simp only [hs0])
      clear hw0 hw1 hs0
      go_wp2_with fail
      go_ret
      exact ⟨congrArg (fun b => Ending.returned (Value.bool b)) HV.out.symm, HB.out⟩
    | false =>
      have HV : Hid (rv = c0) := Lib.hid (by rw [HRE.out]; simp [e6])
      clear HRE HKK e1 e2 e3 e4 e5 e6
      go_enter Try.func24, Try.ntmps24
      go_upto_region 1 with fail
      (try rw [hw0])
      (try rw [hw1])
      (try simp only [hs0])
      clear hw0 hw1 hs0
      go_wp2_with fail
      go_ret
      exact ⟨congrArg (fun b => Ending.returned (Value.bool b)) HV.out.symm, HB.out⟩
  have hk1 : (((k : Nat) : Int) == 1) = false := (HKK.out 1).trans (by simp [e1])
  have hk2 : (((k : Nat) : Int) == 2) = false := (HKK.out 2).trans (by simp [e2])
  have hk3 : (((k : Nat) : Int) == 3) = false := (HKK.out 3).trans (by simp [e3])
  have hk4 : (((k : Nat) : Int) == 4) = false := (HKK.out 4).trans (by simp [e4])
  have hk5 : (((k : Nat) : Int) == 5) = false := (HKK.out 5).trans (by simp [e5])
  have hk6 : (((k : Nat) : Int) == 6) = false := (HKK.out 6).trans (by simp [e6])
  have HV : Hid (rv = false) := Lib.hid (by rw [HRE.out]; simp [e1, e2, e3, e4, e5, e6])
  clear HRE HKK e1 e2 e3 e4 e5 e6
  go_enter Try.func24, Try.ntmps24
  go_upto_region 1 with fail
  (try rw [hw0])
  (try rw [hw1])
  (try simp only [hs0])
  clear hw0 hw1 hs0
  go_wp2_with fail
  go_ret
  exact ⟨congrArg (fun b => Ending.returned (Value.bool b)) HV.out.symm, HB.out⟩
end Go.Proofs.Ytigaondgopahgaa
