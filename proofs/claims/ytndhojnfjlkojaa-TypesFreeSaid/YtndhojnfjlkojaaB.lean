/- types: the reference's Right. -/
import Derived.Test.YtndhojnfjlkojaaA
namespace Go.Proofs.Ytndhojnfjlkojaa
open Go.RowKit
set_option linter.unusedVariables false
set_option linter.unusedSimpArgs false
attribute [local go_sem] Oper.semAt_some
set_option maxRecDepth 20000 in
set_option maxHeartbeats 8000000 in
theorem rright_any {F : Nat → Prop} : ∀ (t : Ty) (A : Option Addr) (c : Nat) (w : World), Ty.At F w A t.ks → t.ks.length ≤ c → c ≤ maxLen →
    Calls Try.prog 12 #[t.val A c] w fun e w' => e = .returned (.bool t.right) ∧ Below w.heap.size w w' := Ty.ind fun k nm n ks ih A c w hA hc hm => by
  have hA : Ty.At F w A ks := hA
  have hc : ks.length ≤ c := hc
  show Calls Try.prog 12 #[.agg #[.int .u8 (k : Int), .string (str nm), .int .i64 n, .slice A ks.length c]] w _
  obtain ⟨kl, hkl⟩ : ∃ kl, ks.length = kl := ⟨_, rfl⟩
  rw [hkl] at hc ⊢
  obtain ⟨rv, hrv⟩ : ∃ rv, Ty.right (.node k nm n ks) = rv := ⟨_, rfl⟩
  rw [hrv]
  have HR : Hid (Ty.right (.node k nm n ks) = rv) := Lib.hid hrv
  have HRE := Lib.hid (Ty.right_eq k nm n ks)
  obtain ⟨te, hte⟩ : ∃ te, nm.isEmpty = te := ⟨_, rfl⟩
  have hse : ((str nm).toList == []) = te := by rw [str_nil]; exact hte
  have hse2 : ((str nm).toList != []) = !te := by unfold bne; rw [hse]
  have HK := Lib.hid (And.intro hkl (And.intro hA ih))
  have hmx : kl ≤ 9223372036854775807 := by unfold maxLen at hm; omega
  have HTE := Lib.hid hte
  clear hrv hkl hA ih hte hm hc
  by_cases k1 : k = 1
  · subst k1
    show Calls Try.prog 12 #[.agg #[.int .u8 1, .string (str nm), .int .i64 n, .slice A kl c]] w _
    obtain ⟨w0, hw0⟩ : ∃ w0, w.alloc (.cells #[.int .u8 1, .string (str nm), .int .i64 n, .slice A kl c] 24) = w0 := ⟨_, rfl⟩
    have hb0 : Below w.heap.size w w0 := by rw [← hw0]; exact (Below.refl _ _).alloc (Nat.le_refl _) _
    have hB0 : Blk w0 w.heap.size 24 #[.int .u8 1, .string (str nm), .int .i64 n, .slice A kl c] := by rw [← hw0]; exact Blk.new _ _ _
    have d0 := hB0.cell 0
    have d1 := hB0.cell 1
    have d2 := hB0.cell 2
    have d3 := hB0.cell 3
    simp only [List.getElem?_toArray, List.getElem?_cons_zero, List.getElem?_cons_succ] at d0 d1 d2 d3
    have HB0 := Lib.hid (And.intro hb0 hB0)
    clear hb0 hB0
    have hrr := HRE.out
    rw [if_pos rfl, HTE.out] at hrr
    obtain ⟨b1, hb1⟩ : ∃ b1, decide (0 ≤ n) = b1 := ⟨_, rfl⟩
    have hb1' : decide (n ≥ 0) = b1 := hb1
    have hke : ks.isEmpty = decide (kl = 0) := by rw [← HK.out.1]; cases ks <;> simp
    obtain ⟨b3, hb3⟩ : ∃ b3, decide (kl = 0) = b3 := ⟨_, rfl⟩
    have hb3' : ((kl : Int) == 0) = b3 := by rw [← hb3]; cases kl <;> simp <;> omega
    rw [hb1, hke, hb3] at hrr
    clear hke
    have HRR := Lib.hid hrr
    clear hrr
    have HV : Hid (rv = (b1 && te && b3)) := Lib.hid (by rw [← HR.out, HRR.out])
    clear HRR
    cases b1 with
    | false =>
      go_enter Try.func12, Try.ntmps12
      go_upto_region 1 with fail
      (try rw [hw0])
      clear hw0
      go_wp2_with fail
      go_ret
      exact ⟨congrArg (fun b => Ending.returned (Value.bool b)) HV.out.symm, HB0.out.1⟩
    | true =>
      cases te with
      | false =>
        go_enter Try.func12, Try.ntmps12
        go_upto_region 1 with fail
        (try rw [hw0])
        clear hw0
        go_wp2_with fail
        go_ret
        exact ⟨congrArg (fun b => Ending.returned (Value.bool b)) HV.out.symm, HB0.out.1⟩
      | true =>
        go_enter Try.func12, Try.ntmps12
        go_upto_region 1 with fail
        (try rw [hw0])
        clear hw0
        go_wp2_with fail
        go_ret
        exact ⟨congrArg (fun b => Ending.returned (Value.bool b)) HV.out.symm, HB0.out.1⟩
  by_cases k2 : k = 2
  · subst k2
    show Calls Try.prog 12 #[.agg #[.int .u8 2, .string (str nm), .int .i64 n, .slice A kl c]] w _
    obtain ⟨w0, hw0⟩ : ∃ w0, w.alloc (.cells #[.int .u8 2, .string (str nm), .int .i64 n, .slice A kl c] 24) = w0 := ⟨_, rfl⟩
    have hb0 : Below w.heap.size w w0 := by rw [← hw0]; exact (Below.refl _ _).alloc (Nat.le_refl _) _
    have hB0 : Blk w0 w.heap.size 24 #[.int .u8 2, .string (str nm), .int .i64 n, .slice A kl c] := by rw [← hw0]; exact Blk.new _ _ _
    have d0 := hB0.cell 0
    have d1 := hB0.cell 1
    have d2 := hB0.cell 2
    have d3 := hB0.cell 3
    simp only [List.getElem?_toArray, List.getElem?_cons_zero, List.getElem?_cons_succ] at d0 d1 d2 d3
    have HB0 := Lib.hid (And.intro hb0 hB0)
    clear hb0 hB0
    have hrr := HRE.out
    rw [if_neg (by omega), if_pos rfl, HTE.out] at hrr
    obtain ⟨b1, hb1⟩ : ∃ b1, decide (n = 0) = b1 := ⟨_, rfl⟩
    have hb1' : (n != 0) = !b1 := by rw [← hb1]; unfold bne; by_cases e : n = 0 <;> simp [e]
    rw [hb1] at hrr
    have HRR := Lib.hid hrr
    clear hrr
    cases te with
    | true =>
      have HV : Hid (rv = false) := Lib.hid (by rw [← HR.out, HRR.out]; simp)
      clear HRR
      go_enter Try.func12, Try.ntmps12
      go_upto_region 1 with fail
      (try rw [hw0])
      clear hw0
      go_wp2_with fail
      go_ret
      exact ⟨congrArg (fun b => Ending.returned (Value.bool b)) HV.out.symm, HB0.out.1⟩
    | false =>
      cases b1 with
      | false =>
        have HV : Hid (rv = false) := Lib.hid (by rw [← HR.out, HRR.out]; simp)
        clear HRR
        go_enter Try.func12, Try.ntmps12
        go_upto_region 1 with fail
        (try rw [hw0])
        clear hw0
        go_wp2_with fail
        go_ret
        exact ⟨congrArg (fun b => Ending.returned (Value.bool b)) HV.out.symm, HB0.out.1⟩
      | true =>
        have hrr : Ty.right (.node 2 nm n ks) = ks.all Ty.right := by rw [HRR.out]; simp
        have HRV : Hid (((∀ t ∈ ks, t.right = true) → rv = true) ∧ ((∃ t, t ∈ ks ∧ t.right = false) → rv = false)) := Lib.hid ⟨fun h => by rw [← HR.out, hrr]; simpa using h, fun ⟨t, ht, hf⟩ => by
          rw [← HR.out, hrr]
          cases ha : ks.all Ty.right with
          | false => simp
          | true => rw [List.all_eq_true.1 ha t ht] at hf; cases hf⟩
        clear hrr HRR
        go_enter Try.func12, Try.ntmps12
        go_upto_region 1 with fail
        (try rw [hw0])
        clear hw0
        go_upto_region 14 with fail
        clear d0 d1 d2 d3
        go_wp2_with fail
        go_loopw [3] (fun iv wr => ∃ i : Nat, i ≤ kl ∧ iv = .int .i64 (i : Int) ∧ Hid (Below w0.heap.size w0 wr ∧ ∀ r : Nat, r < i → ∀ t, ks[r]? = some t → t.right = true)) (fun iv _ => kl - (intOf iv).toNat)
        case atStart => exact ⟨0, Nat.zero_le _, rfl, Lib.hid ⟨Below.refl _ _, fun r h => absurd h (Nat.not_lt_zero r)⟩⟩
        case round =>
          obtain ⟨i, hi, rfl, hJ⟩ := hrel
          have hBr := HB0.out.2.below hJ.out.1 HB0.out.2.lt
          have d0 := hBr.cell 0
          have d1 := hBr.cell 1
          have d2 := hBr.cell 2
          have d3 := hBr.cell 3
          simp only [List.getElem?_toArray, List.getElem?_cons_zero, List.getElem?_cons_succ] at d0 d1 d2 d3
          by_cases hli : i < kl
          · have hd : decide ((i : Int) < (kl : Int)) = true := by simpa using hli
            obtain ⟨t, ht⟩ : ∃ t, ks[i]? = some t := ⟨_, List.getElem?_eq_getElem (by rw [HK.out.1]; exact hli)⟩
            obtain ⟨b, off, A', c', rfl, _, hbl, z0, z1, z2, z3, _, hlc, hcm, hAt⟩ := ((HK.out.2.1.bel HB0.out.1).bel hJ.out.1).get ht
            have HC := HK.out.2.2 t (List.mem_of_getElem? ht) A' c' wr hAt hlc hcm
            unfold Ty.val at HC
            replace HC := Lib.hid HC
            have HT := Lib.hid ht
            obtain ⟨rt, hrt⟩ : ∃ rt, t.right = rt := ⟨_, rfl⟩
            rw [hrt] at HC
            have HRT := Lib.hid hrt
            clear ht hAt hBr hrt hlc hcm
            go_wp2_with fail
            refine HC.out.mono ?_
            rintro e w7 ⟨rfl, hb7⟩
            have HB7 := Lib.hid (hJ.out.1.trans (hb7.mono hJ.out.1.size))
            clear hb7 HC d0 d1 d2 d3 z0 z1 z2 z3
            cases rt with
            | true =>
              have HN : Hid (Below w0.heap.size w0 w7 ∧ ∀ r : Nat, r < i + 1 → ∀ t, ks[r]? = some t → t.right = true) := Lib.hid ⟨HB7.out, fun r hr t' ht' => by
                by_cases e : r = i
                · subst e; rw [HT.out] at ht'; cases ht'; exact HRT.out
                · exact hJ.out.2 r (by omega) t' ht'⟩
              clear hJ HT HRT HB7
              go_wp2_with fail
              go_roundw
              case rel => exact ⟨i + 1, by omega, by go_num, HN⟩
              case measure => simp [intOf]; omega
            | false =>
              have HV : Hid (rv = false) := Lib.hid (HRV.out.2 ⟨t, List.mem_of_getElem? HT.out, HRT.out⟩)
              clear hJ HT HRT
              go_wp2_with fail
              go_ret
              exact ⟨congrArg (fun b => Ending.returned (Value.bool b)) HV.out.symm, HB0.out.1.trans (HB7.out.mono HB0.out.1.size)⟩
          · obtain rfl : kl = i := by omega
            have hd : decide ((kl : Int) < (kl : Int)) = false := by simp
            have HV : Hid (rv = true) := Lib.hid (HRV.out.1 fun t ht => by
              obtain ⟨r, hr⟩ := List.getElem?_of_mem ht
              exact hJ.out.2 r (by have := (List.getElem?_eq_some_iff.1 hr).1; have := HK.out.1; omega) t hr)
            have HJ := Lib.hid (HB0.out.1.trans (hJ.out.1.mono HB0.out.1.size))
            clear hJ
            go_wp2_with fail
            go_ret
            exact ⟨congrArg (fun b => Ending.returned (Value.bool b)) HV.out.symm, HJ.out⟩
  by_cases k3 : k = 3
  · subst k3
    show Calls Try.prog 12 #[.agg #[.int .u8 3, .string (str nm), .int .i64 n, .slice A kl c]] w _
    obtain ⟨w0, hw0⟩ : ∃ w0, w.alloc (.cells #[.int .u8 3, .string (str nm), .int .i64 n, .slice A kl c] 24) = w0 := ⟨_, rfl⟩
    have hb0 : Below w.heap.size w w0 := by rw [← hw0]; exact (Below.refl _ _).alloc (Nat.le_refl _) _
    have hB0 : Blk w0 w.heap.size 24 #[.int .u8 3, .string (str nm), .int .i64 n, .slice A kl c] := by rw [← hw0]; exact Blk.new _ _ _
    have d0 := hB0.cell 0
    have d1 := hB0.cell 1
    have d2 := hB0.cell 2
    have d3 := hB0.cell 3
    simp only [List.getElem?_toArray, List.getElem?_cons_zero, List.getElem?_cons_succ] at d0 d1 d2 d3
    have HB0 := Lib.hid (And.intro hb0 hB0)
    clear hb0 hB0
    have hrr := HRE.out
    rw [if_neg (by omega), if_neg (by omega), if_pos rfl, HTE.out] at hrr
    obtain ⟨b1, hb1⟩ : ∃ b1, decide (n = 0) = b1 := ⟨_, rfl⟩
    have hb1' : (n != 0) = !b1 := by rw [← hb1]; unfold bne; by_cases e : n = 0 <;> simp [e]
    rw [hb1] at hrr
    obtain ⟨b3, hb3⟩ : ∃ b3, decide (kl = 2) = b3 := ⟨_, rfl⟩
    have hb3' : ((kl : Int) != 2) = !b3 := by rw [← hb3]; unfold bne; by_cases e : kl = 2 <;> simp [e]; omega
    rw [HK.out.1, hb3] at hrr
    have HRR := Lib.hid hrr
    clear hrr
    cases b3 with
    | false =>
      have HV : Hid (rv = false) := Lib.hid (by rw [← HR.out, HRR.out]; simp)
      clear HRR
      go_enter Try.func12, Try.ntmps12
      go_upto_region 1 with fail
      (try rw [hw0])
      clear hw0
      go_wp2_with fail
      go_ret
      exact ⟨congrArg (fun b => Ending.returned (Value.bool b)) HV.out.symm, HB0.out.1⟩
    | true =>
      cases te with
      | false =>
        have HV : Hid (rv = false) := Lib.hid (by rw [← HR.out, HRR.out]; simp)
        clear HRR
        go_enter Try.func12, Try.ntmps12
        go_upto_region 1 with fail
        (try rw [hw0])
        clear hw0
        go_wp2_with fail
        go_ret
        exact ⟨congrArg (fun b => Ending.returned (Value.bool b)) HV.out.symm, HB0.out.1⟩
      | true =>
        cases b1 with
        | false =>
          have HV : Hid (rv = false) := Lib.hid (by rw [← HR.out, HRR.out]; simp)
          clear HRR
          go_enter Try.func12, Try.ntmps12
          go_upto_region 1 with fail
          (try rw [hw0])
          clear hw0
          go_wp2_with fail
          go_ret
          exact ⟨congrArg (fun b => Ending.returned (Value.bool b)) HV.out.symm, HB0.out.1⟩
        | true =>
          have hrr : Ty.right (.node 3 nm n ks) = ks.all Ty.right := by rw [HRR.out]; simp
          have HRV : Hid (((∀ t ∈ ks, t.right = true) → rv = true) ∧ ((∃ t, t ∈ ks ∧ t.right = false) → rv = false)) := Lib.hid ⟨fun h => by rw [← HR.out, hrr]; simpa using h, fun ⟨t, ht, hf⟩ => by
            rw [← HR.out, hrr]
            cases ha : ks.all Ty.right with
            | false => simp
            | true => rw [List.all_eq_true.1 ha t ht] at hf; cases hf⟩
          clear hrr HRR
          go_enter Try.func12, Try.ntmps12
          go_upto_region 1 with fail
          (try rw [hw0])
          clear hw0
          go_upto_region 14 with fail
          clear d0 d1 d2 d3
          go_wp2_with fail
          go_loopw [3] (fun iv wr => ∃ i : Nat, i ≤ kl ∧ iv = .int .i64 (i : Int) ∧ Hid (Below w0.heap.size w0 wr ∧ ∀ r : Nat, r < i → ∀ t, ks[r]? = some t → t.right = true)) (fun iv _ => kl - (intOf iv).toNat)
          case atStart => exact ⟨0, Nat.zero_le _, rfl, Lib.hid ⟨Below.refl _ _, fun r h => absurd h (Nat.not_lt_zero r)⟩⟩
          case round =>
            obtain ⟨i, hi, rfl, hJ⟩ := hrel
            have hBr := HB0.out.2.below hJ.out.1 HB0.out.2.lt
            have d0 := hBr.cell 0
            have d1 := hBr.cell 1
            have d2 := hBr.cell 2
            have d3 := hBr.cell 3
            simp only [List.getElem?_toArray, List.getElem?_cons_zero, List.getElem?_cons_succ] at d0 d1 d2 d3
            by_cases hli : i < kl
            · have hd : decide ((i : Int) < (kl : Int)) = true := by simpa using hli
              obtain ⟨t, ht⟩ : ∃ t, ks[i]? = some t := ⟨_, List.getElem?_eq_getElem (by rw [HK.out.1]; exact hli)⟩
              obtain ⟨b, off, A', c', rfl, _, hbl, z0, z1, z2, z3, _, hlc, hcm, hAt⟩ := ((HK.out.2.1.bel HB0.out.1).bel hJ.out.1).get ht
              have HC := HK.out.2.2 t (List.mem_of_getElem? ht) A' c' wr hAt hlc hcm
              unfold Ty.val at HC
              replace HC := Lib.hid HC
              have HT := Lib.hid ht
              obtain ⟨rt, hrt⟩ : ∃ rt, t.right = rt := ⟨_, rfl⟩
              rw [hrt] at HC
              have HRT := Lib.hid hrt
              clear ht hAt hBr hrt hlc hcm
              go_wp2_with fail
              refine HC.out.mono ?_
              rintro e w7 ⟨rfl, hb7⟩
              have HB7 := Lib.hid (hJ.out.1.trans (hb7.mono hJ.out.1.size))
              clear hb7 HC d0 d1 d2 d3 z0 z1 z2 z3
              cases rt with
              | true =>
                have HN : Hid (Below w0.heap.size w0 w7 ∧ ∀ r : Nat, r < i + 1 → ∀ t, ks[r]? = some t → t.right = true) := Lib.hid ⟨HB7.out, fun r hr t' ht' => by
                  by_cases e : r = i
                  · subst e; rw [HT.out] at ht'; cases ht'; exact HRT.out
                  · exact hJ.out.2 r (by omega) t' ht'⟩
                clear hJ HT HRT HB7
                go_wp2_with fail
                go_roundw
                case rel => exact ⟨i + 1, by omega, by go_num, HN⟩
                case measure => simp [intOf]; omega
              | false =>
                have HV : Hid (rv = false) := Lib.hid (HRV.out.2 ⟨t, List.mem_of_getElem? HT.out, HRT.out⟩)
                clear hJ HT HRT
                go_wp2_with fail
                go_ret
                exact ⟨congrArg (fun b => Ending.returned (Value.bool b)) HV.out.symm, HB0.out.1.trans (HB7.out.mono HB0.out.1.size)⟩
            · obtain rfl : kl = i := by omega
              have hd : decide ((kl : Int) < (kl : Int)) = false := by simp
              have HV : Hid (rv = true) := Lib.hid (HRV.out.1 fun t ht => by
                obtain ⟨r, hr⟩ := List.getElem?_of_mem ht
                exact hJ.out.2 r (by have := (List.getElem?_eq_some_iff.1 hr).1; have := HK.out.1; omega) t hr)
              have HJ := Lib.hid (HB0.out.1.trans (hJ.out.1.mono HB0.out.1.size))
              clear hJ
              go_wp2_with fail
              go_ret
              exact ⟨congrArg (fun b => Ending.returned (Value.bool b)) HV.out.symm, HJ.out⟩
  by_cases k4 : k = 4
  · subst k4
    show Calls Try.prog 12 #[.agg #[.int .u8 4, .string (str nm), .int .i64 n, .slice A kl c]] w _
    obtain ⟨w0, hw0⟩ : ∃ w0, w.alloc (.cells #[.int .u8 4, .string (str nm), .int .i64 n, .slice A kl c] 24) = w0 := ⟨_, rfl⟩
    have hb0 : Below w.heap.size w w0 := by rw [← hw0]; exact (Below.refl _ _).alloc (Nat.le_refl _) _
    have hB0 : Blk w0 w.heap.size 24 #[.int .u8 4, .string (str nm), .int .i64 n, .slice A kl c] := by rw [← hw0]; exact Blk.new _ _ _
    have d0 := hB0.cell 0
    have d1 := hB0.cell 1
    have d2 := hB0.cell 2
    have d3 := hB0.cell 3
    simp only [List.getElem?_toArray, List.getElem?_cons_zero, List.getElem?_cons_succ] at d0 d1 d2 d3
    have HB0 := Lib.hid (And.intro hb0 hB0)
    clear hb0 hB0
    have hrr := HRE.out
    rw [if_neg (by omega), if_neg (by omega), if_neg (by omega), if_pos rfl, HTE.out] at hrr
    obtain ⟨b1, hb1⟩ : ∃ b1, decide (n = 0) = b1 := ⟨_, rfl⟩
    have hb1' : (n != 0) = !b1 := by rw [← hb1]; unfold bne; by_cases e : n = 0 <;> simp [e]
    rw [hb1] at hrr
    obtain ⟨b3, hb3⟩ : ∃ b3, decide (2 ≤ kl) = b3 := ⟨_, rfl⟩
    have hb3' : decide ((kl : Int) < 2) = !b3 := by rw [← hb3]; by_cases e : 2 ≤ kl <;> simp [e] <;> omega
    have hb3n : decide (kl < 2) = !b3 := by rw [← hb3]; by_cases e : 2 ≤ kl <;> simp [e] <;> omega
    rw [HK.out.1, hb3] at hrr
    have HRR := Lib.hid hrr
    clear hrr
    cases b3 with
    | false =>
      have HV : Hid (rv = false) := Lib.hid (by rw [← HR.out, HRR.out]; simp)
      clear HRR
      go_enter Try.func12, Try.ntmps12
      go_upto_region 1 with fail
      (try rw [hw0])
      clear hw0
      go_wp2_with fail
      go_ret
      exact ⟨congrArg (fun b => Ending.returned (Value.bool b)) HV.out.symm, HB0.out.1⟩
    | true =>
      cases te with
      | false =>
        have HV : Hid (rv = false) := Lib.hid (by rw [← HR.out, HRR.out]; simp)
        clear HRR
        go_enter Try.func12, Try.ntmps12
        go_upto_region 1 with fail
        (try rw [hw0])
        clear hw0
        go_wp2_with fail
        go_ret
        exact ⟨congrArg (fun b => Ending.returned (Value.bool b)) HV.out.symm, HB0.out.1⟩
      | true =>
        cases b1 with
        | false =>
          have HV : Hid (rv = false) := Lib.hid (by rw [← HR.out, HRR.out]; simp)
          clear HRR
          go_enter Try.func12, Try.ntmps12
          go_upto_region 1 with fail
          (try rw [hw0])
          clear hw0
          go_wp2_with fail
          go_ret
          exact ⟨congrArg (fun b => Ending.returned (Value.bool b)) HV.out.symm, HB0.out.1⟩
        | true =>
          have hrr : Ty.right (.node 4 nm n ks) = ks.all Ty.right := by rw [HRR.out]; simp
          have HRV : Hid (((∀ t ∈ ks, t.right = true) → rv = true) ∧ ((∃ t, t ∈ ks ∧ t.right = false) → rv = false)) := Lib.hid ⟨fun h => by rw [← HR.out, hrr]; simpa using h, fun ⟨t, ht, hf⟩ => by
            rw [← HR.out, hrr]
            cases ha : ks.all Ty.right with
            | false => simp
            | true => rw [List.all_eq_true.1 ha t ht] at hf; cases hf⟩
          clear hrr HRR
          go_enter Try.func12, Try.ntmps12
          go_upto_region 1 with fail
          (try rw [hw0])
          clear hw0
          go_upto_region 14 with fail
          clear d0 d1 d2 d3
          go_wp2_with fail
          go_loopw [3] (fun iv wr => ∃ i : Nat, i ≤ kl ∧ iv = .int .i64 (i : Int) ∧ Hid (Below w0.heap.size w0 wr ∧ ∀ r : Nat, r < i → ∀ t, ks[r]? = some t → t.right = true)) (fun iv _ => kl - (intOf iv).toNat)
          case atStart => exact ⟨0, Nat.zero_le _, rfl, Lib.hid ⟨Below.refl _ _, fun r h => absurd h (Nat.not_lt_zero r)⟩⟩
          case round =>
            obtain ⟨i, hi, rfl, hJ⟩ := hrel
            have hBr := HB0.out.2.below hJ.out.1 HB0.out.2.lt
            have d0 := hBr.cell 0
            have d1 := hBr.cell 1
            have d2 := hBr.cell 2
            have d3 := hBr.cell 3
            simp only [List.getElem?_toArray, List.getElem?_cons_zero, List.getElem?_cons_succ] at d0 d1 d2 d3
            by_cases hli : i < kl
            · have hd : decide ((i : Int) < (kl : Int)) = true := by simpa using hli
              obtain ⟨t, ht⟩ : ∃ t, ks[i]? = some t := ⟨_, List.getElem?_eq_getElem (by rw [HK.out.1]; exact hli)⟩
              obtain ⟨b, off, A', c', rfl, _, hbl, z0, z1, z2, z3, _, hlc, hcm, hAt⟩ := ((HK.out.2.1.bel HB0.out.1).bel hJ.out.1).get ht
              have HC := HK.out.2.2 t (List.mem_of_getElem? ht) A' c' wr hAt hlc hcm
              unfold Ty.val at HC
              replace HC := Lib.hid HC
              have HT := Lib.hid ht
              obtain ⟨rt, hrt⟩ : ∃ rt, t.right = rt := ⟨_, rfl⟩
              rw [hrt] at HC
              have HRT := Lib.hid hrt
              clear ht hAt hBr hrt hlc hcm
              go_wp2_with fail
              refine HC.out.mono ?_
              rintro e w7 ⟨rfl, hb7⟩
              have HB7 := Lib.hid (hJ.out.1.trans (hb7.mono hJ.out.1.size))
              clear hb7 HC d0 d1 d2 d3 z0 z1 z2 z3
              cases rt with
              | true =>
                have HN : Hid (Below w0.heap.size w0 w7 ∧ ∀ r : Nat, r < i + 1 → ∀ t, ks[r]? = some t → t.right = true) := Lib.hid ⟨HB7.out, fun r hr t' ht' => by
                  by_cases e : r = i
                  · subst e; rw [HT.out] at ht'; cases ht'; exact HRT.out
                  · exact hJ.out.2 r (by omega) t' ht'⟩
                clear hJ HT HRT HB7
                go_wp2_with fail
                go_roundw
                case rel => exact ⟨i + 1, by omega, by go_num, HN⟩
                case measure => simp [intOf]; omega
              | false =>
                have HV : Hid (rv = false) := Lib.hid (HRV.out.2 ⟨t, List.mem_of_getElem? HT.out, HRT.out⟩)
                clear hJ HT HRT
                go_wp2_with fail
                go_ret
                exact ⟨congrArg (fun b => Ending.returned (Value.bool b)) HV.out.symm, HB0.out.1.trans (HB7.out.mono HB0.out.1.size)⟩
            · obtain rfl : kl = i := by omega
              have hd : decide ((kl : Int) < (kl : Int)) = false := by simp
              have HV : Hid (rv = true) := Lib.hid (HRV.out.1 fun t ht => by
                obtain ⟨r, hr⟩ := List.getElem?_of_mem ht
                exact hJ.out.2 r (by have := (List.getElem?_eq_some_iff.1 hr).1; have := HK.out.1; omega) t hr)
              have HJ := Lib.hid (HB0.out.1.trans (hJ.out.1.mono HB0.out.1.size))
              clear hJ
              go_wp2_with fail
              go_ret
              exact ⟨congrArg (fun b => Ending.returned (Value.bool b)) HV.out.symm, HJ.out⟩
  have hrr := HRE.out
  rw [if_neg k1, if_neg k2, if_neg k3, if_neg k4, HR.out] at hrr
  have HV := Lib.hid hrr
  obtain ⟨w0, hw0⟩ : ∃ w0, w.alloc (.cells #[.int .u8 (k : Int), .string (str nm), .int .i64 n, .slice A kl c] 24) = w0 := ⟨_, rfl⟩
  have hb0 : Below w.heap.size w w0 := by rw [← hw0]; exact (Below.refl _ _).alloc (Nat.le_refl _) _
  have hB0 : Blk w0 w.heap.size 24 #[.int .u8 (k : Int), .string (str nm), .int .i64 n, .slice A kl c] := by rw [← hw0]; exact Blk.new _ _ _
  have d0 := hB0.cell 0
  have d1 := hB0.cell 1
  have d2 := hB0.cell 2
  have d3 := hB0.cell 3
  simp only [List.getElem?_toArray, List.getElem?_cons_zero, List.getElem?_cons_succ] at d0 d1 d2 d3
  have HB0 := Lib.hid (And.intro hb0 hB0)
  clear hb0 hB0
  have q1 : ((k : Int) == 1) = false := by simp; omega
  have q2 : ((k : Int) == 2) = false := by simp; omega
  have q3 : ((k : Int) == 3) = false := by simp; omega
  have q4 : ((k : Int) == 4) = false := by simp; omega
  go_enter Try.func12, Try.ntmps12
  go_upto_region 1 with fail
  (try rw [hw0])
  clear hw0
  clear k1 k2 k3 k4
  go_wp2_with fail
  go_ret
  exact ⟨congrArg (fun b => Ending.returned (Value.bool b)) HV.out.symm, HB0.out.1⟩
end Go.Proofs.Ytndhojnfjlkojaa
