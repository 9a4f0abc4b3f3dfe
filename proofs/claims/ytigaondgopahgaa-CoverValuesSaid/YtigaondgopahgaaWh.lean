/- cover: whole. -/
import Derived.Test.YtigaondgopahgaaO
import Derived.BigQuiet
namespace Go.Proofs.Ytigaondgopahgaa
open Go.RowKit
set_option linter.unusedVariables false
set_option linter.unusedSimpArgs false
attribute [local go_sem] Oper.semAt_some
/-- A row of heads in memory. -/
def HAt (w : World) (A : Option Addr) (hs : List Head) : Prop := ∀ (r : Nat) (h : Head), hs[r]? = some h → ∃ b off, A = some ⟨b, off, none⟩ ∧ b < w.heap.size ∧ w.cell? ⟨b, off + r * 4, none⟩ = some (.int .u8 (h.k : Int)) ∧ w.cell? ⟨b, off + r * 4 + 1, none⟩ = some (.string (str h.nm)) ∧ w.cell? ⟨b, off + r * 4 + 2, none⟩ = some (.int .i64 h.n) ∧ w.cell? ⟨b, off + r * 4 + 3, none⟩ = some (.int .i64 (h.many : Int))
theorem HAt.bel {w w' : World} {A : Option Addr} {hs : List Head} (h : HAt w A hs) (hb : Below w.heap.size w w') : HAt w' A hs := fun r x hx => by
  obtain ⟨b, off, e, hlt, h0, h1, h2, h3⟩ := h r x hx
  exact ⟨b, off, e, Nat.lt_of_lt_of_le hlt hb.size, (hb.cell (p := ⟨b, _, none⟩) hlt).trans h0, (hb.cell (p := ⟨b, _, none⟩) hlt).trans h1, (hb.cell (p := ⟨b, _, none⟩) hlt).trans h2, (hb.cell (p := ⟨b, _, none⟩) hlt).trans h3⟩
set_option maxRecDepth 20000 in
set_option maxHeartbeats 8000000 in
theorem whole_nil {b1 b2 : Nat} (l : List Inf) (A : Option Addr) (c : Nat) (w : World) :
    Calls Try.prog 31 #[.agg #[.map (some b1), .map (some b2)], .slice A 0 c] w fun e w' => e = .returned (.bool (wholeOf l [])) ∧ Below w.heap.size w w' := by
  obtain ⟨w0, hw0⟩ : ∃ w0, w.alloc (.cells #[.map (some b1), .map (some b2)] 57) = w0 := ⟨_, rfl⟩
  have HB : Hid (Below w.heap.size w w0) := Lib.hid (by rw [← hw0]; exact (Below.refl _ _).alloc (Nat.le_refl _) _)
  go_enter Try.func31, Try.ntmps31
  go_upto_region 1 with fail
  (try rw [hw0])
  clear hw0
  go_wp2_with fail
  go_ret
  exact ⟨rfl, HB.out⟩
set_option maxRecDepth 20000 in
set_option maxHeartbeats 8000000 in
theorem whole_cons {F : Nat → Prop} {l : List Inf} {b1 b2 en : Nat} (h : Head) (hs : List Head) (A : Option Addr) (c : Nat) (w : World) (hA : HAt w A (h :: hs)) (hc : (h :: hs).length ≤ c) (hm : c ≤ maxLen) (hl : h.nm.length ≤ maxLen) (hol : (ofOf l h.nm).length ≤ maxLen) (hS : Ask F w b1 b2 en l) (h6 : h.k ≠ 6) :
    Calls Try.prog 31 #[.agg #[.map (some b1), .map (some b2)], .slice A (h :: hs).length c] w fun e w' => e = .returned (.bool (wholeOf l (h :: hs))) ∧ Below w.heap.size w w' := by
  obtain ⟨nl, hnl⟩ : ∃ nl, (h :: hs).length = nl := ⟨_, rfl⟩
  have hpos : 0 < nl := by rw [← hnl]; simp
  rw [hnl] at hc ⊢
  have hmx : nl ≤ 9223372036854775807 := by unfold maxLen at hm; omega
  have hn0 : (((nl : Nat) : Int) == 0) = false := by simp; omega
  obtain ⟨rv, hrv⟩ : ∃ rv, wholeOf l (h :: hs) = rv := ⟨_, rfl⟩
  rw [hrv]
  have hre : rv = (if h.k = 4 ∨ h.k = 5 then true else if h.k = 6 then (ofOf l h.nm != [101, 120, 110] && (hs.length + 1 == manyOf l (ofOf l h.nm))) else false) := hrv.symm
  obtain ⟨w0, hw0⟩ : ∃ w0, w.alloc (.cells #[.map (some b1), .map (some b2)] 57) = w0 := ⟨_, rfl⟩
  have hb0 : Below w.heap.size w w0 := by rw [← hw0]; exact (Below.refl _ _).alloc (Nat.le_refl _) _
  have HB := Lib.hid hb0
  obtain ⟨b, off, rfl, hlt, z0, z1, _, _⟩ := (hA.bel hb0) 0 h rfl
  rw [Nat.zero_mul, Nat.add_zero] at z0 z1
  obtain ⟨k, hk⟩ : ∃ k, h.k = k := ⟨_, rfl⟩
  rw [hk] at hre z0 h6
  have hk4 : (((k : Nat) : Int) == 4) = decide (k = 4) := eq_of k 4
  have hk5 : (((k : Nat) : Int) == 5) = decide (k = 5) := eq_of k 5
  have hk6 : (((k : Nat) : Int) == 6) = decide (k = 6) := eq_of k 6
  rw [decide_eq_false h6] at hk6
  clear hA hc hm hrv hS hb0 hnl hlt hk
  by_cases e4 : k = 4
  · rw [decide_eq_true e4] at hk4
    have HV : Hid (rv = true) := Lib.hid (by rw [hre]; simp [e4])
    clear hre hk5 hk6 h6 e4 hol hl z1
    go_enter Try.func31, Try.ntmps31
    go_upto_region 1 with fail
    (try rw [hw0])
    clear hw0
    go_wp2_with fail
    go_ret
    exact ⟨congrArg (fun b => Ending.returned (Value.bool b)) HV.out.symm, HB.out⟩
  by_cases e5 : k = 5
  · rw [decide_eq_true e5] at hk5
    rw [decide_eq_false e4] at hk4
    have HV : Hid (rv = true) := Lib.hid (by rw [hre]; simp [e5])
    clear hre hk6 h6 e4 e5 hol hl z1
    go_enter Try.func31, Try.ntmps31
    go_upto_region 1 with fail
    (try rw [hw0])
    clear hw0
    go_wp2_with fail
    go_ret
    exact ⟨congrArg (fun b => Ending.returned (Value.bool b)) HV.out.symm, HB.out⟩
  rw [decide_eq_false e5] at hk5
  rw [decide_eq_false e4] at hk4
  have HV : Hid (rv = false) := Lib.hid (by rw [hre]; simp [e4, e5, h6])
  clear hre h6 e4 e5 hol hl z1
  go_enter Try.func31, Try.ntmps31
  go_upto_region 1 with fail
  (try rw [hw0])
  clear hw0
  go_wp2_with fail
  go_ret
  exact ⟨congrArg (fun b => Ending.returned (Value.bool b)) HV.out.symm, HB.out⟩
end Go.Proofs.Ytigaondgopahgaa
