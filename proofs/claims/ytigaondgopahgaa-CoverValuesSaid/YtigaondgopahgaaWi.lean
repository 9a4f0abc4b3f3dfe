/- cover: whole, of a constructor. -/
import Derived.Test.YtigaondgopahgaaWh
namespace Go.Proofs.Ytigaondgopahgaa
open Go.RowKit
set_option linter.unusedVariables false
set_option linter.unusedSimpArgs false
attribute [local go_sem] Oper.semAt_some
set_option maxRecDepth 20000 in
set_option maxHeartbeats 8000000 in
theorem whole_six {F : Nat → Prop} {l : List Inf} {b1 b2 en : Nat} (h : Head) (hs : List Head) (A : Option Addr) (c : Nat) (w : World) (hA : HAt w A (h :: hs)) (hc : (h :: hs).length ≤ c) (hm : c ≤ maxLen) (hl : h.nm.length ≤ maxLen) (hol : (ofOf l h.nm).length ≤ maxLen) (hS : Ask F w b1 b2 en l) (h6 : h.k = 6) :
    Calls Try.prog 31 #[.agg #[.map (some b1), .map (some b2)], .slice A (h :: hs).length c] w fun e w' => e = .returned (.bool (wholeOf l (h :: hs))) ∧ Below w.heap.size w w' := by
  obtain ⟨nl, hnl⟩ : ∃ nl, (h :: hs).length = nl := ⟨_, rfl⟩
  have hpos : 0 < nl := by rw [← hnl]; simp
  rw [hnl] at hc ⊢
  have hmx : nl ≤ 9223372036854775807 := by unfold maxLen at hm; omega
  have hn0 : (((nl : Nat) : Int) == 0) = false := by simp; omega
  obtain ⟨rv, hrv⟩ : ∃ rv, wholeOf l (h :: hs) = rv := ⟨_, rfl⟩
  rw [hrv]
  have hre : rv = (if h.k = 4 ∨ h.k = 5 then true else if h.k = 6 then (ofOf l h.nm != [101, 120, 110] && (hs.length + 1 == manyOf l (ofOf l h.nm))) else false) := hrv.symm
  obtain ⟨w0, hw0⟩ : ∃ w0, w.alloc (.cells #[.map (some b1), .map (some b2)] 57) = w0 := ⟨_, rfl⟩
  have hb0 : Below w.heap.size w w0 := by rw [← hw0]; exact (Below.refl _ _).alloc (Nat.le_refl _) _
  have HB := Lib.hid hb0
  obtain ⟨b, off, rfl, hlt, z0, z1, _, _⟩ := (hA.bel hb0) 0 h rfl
  rw [Nat.zero_mul, Nat.add_zero] at z0 z1
  obtain ⟨k, hk⟩ : ∃ k, h.k = k := ⟨_, rfl⟩
  rw [hk] at hre z0 h6
  rw [if_neg (by omega), if_pos h6] at hre
  have hk4 : (((k : Nat) : Int) == 4) = decide (k = 4) := eq_of k 4
  have hk5 : (((k : Nat) : Int) == 5) = decide (k = 5) := eq_of k 5
  have hk6 : (((k : Nat) : Int) == 6) = decide (k = 6) := eq_of k 6
  rw [decide_eq_true h6] at hk6
  rw [decide_eq_false (by omega)] at hk4 hk5
  have hB0 : Blk w0 w.heap.size 57 #[.map (some b1), .map (some b2)] := by rw [← hw0]; exact Blk.new _ _ _
  have g0 := hB0.cell 0
  have g1 := hB0.cell 1
  simp only [List.getElem?_toArray, List.getElem?_cons_zero, List.getElem?_cons_succ] at g0 g1
  obtain ⟨ov, hov⟩ : ∃ ov, ofOf l h.nm = ov := ⟨_, rfl⟩
  obtain ⟨s1, pp, mm, hlk0⟩ := ((hS.bel hb0).off (Off.drew (fun _ => False) w0) (fun _ _ h => h)).look1' h.nm hl
  have hfd0 := info_of s1 (str (ofOf l h.nm)) pp mm (hasOf l h.nm) w0.drew
  rw [hov] at hlk0 hfd0 hre hol
  obtain ⟨A2, c2, hlo0⟩ := ((hS.bel hb0).off (Off.drew (fun _ => False) w0) (fun _ _ h => h)).lookOf ov hol
  obtain ⟨ml, hml⟩ : ∃ ml, manyOf l ov = ml := ⟨_, rfl⟩
  rw [hml] at hlo0 hre
  have hnl' : hs.length + 1 = nl := by rw [← hnl]; simp
  rw [hnl'] at hre
  obtain ⟨bx, hbx⟩ : ∃ bx, (ov != [101, 120, 110]) = bx := ⟨_, rfl⟩
  have hbx' : ((str ov).toList == [101, 120, 110]) = !bx := by rw [str_toList, ← hbx]; unfold bne; simp
  obtain ⟨bm, hbm⟩ : ∃ bm, (nl == ml) = bm := ⟨_, rfl⟩
  have hbm' : (((nl : Nat) : Int) == ((ml : Nat) : Int)) = bm := by rw [← hbm]; exact (eq_of nl ml).trans (by by_cases e : nl = ml <;> simp [e])
  rw [hbx, hbm] at hre
  have HRE := Lib.hid hre
  clear hA hc hm hrv hS hb0 hnl hlt hk hB0 hov hml hbx hbm hnl' hol hl hre h6
  cases bx with
  | false =>
    have HV : Hid (rv = false) := Lib.hid (by rw [HRE.out]; rfl)
    go_enter Try.func31, Try.ntmps31
    go_upto_region 1 with fail
    (try rw [hw0])
    clear hw0
    go_upto_region 8 with fail
    go_region
    go_wp2_with fail
    go_ret
    exact ⟨congrArg (fun b => Ending.returned (Value.bool b)) HV.out.symm, HB.out.trans ((Below.refl _ _).drew)⟩
  | true =>
    have HV : Hid (rv = bm) := Lib.hid (by rw [HRE.out]; rfl)
    go_enter Try.func31, Try.ntmps31
    go_upto_region 1 with fail
    (try rw [hw0])
    clear hw0
    go_upto_region 8 with fail
    go_region
    go_wp2_with fail
    go_ret
    exact ⟨congrArg (fun b => Ending.returned (Value.bool b)) HV.out.symm, HB.out.trans ((Below.refl _ _).drew)⟩
end Go.Proofs.Ytigaondgopahgaa
