/- heap: the reference's May. -/
import Derived.Test.YtclkkfffecmjnaaAa
namespace Go.Proofs.Ytclkkfffecmjnaa
open Go.RowKit
set_option linter.unusedVariables false
set_option linter.unusedSimpArgs false
attribute [local go_sem] Oper.semAt_some
def mayB (k n : Nat) (tag : Int) (te : Bool) : Bool := match Hp.kindO k n with
  | none => false
  | some (least, most, tags) => decide (least ≤ n) && decide (n ≤ most) && decide (0 ≤ tag) && decide (tag ≤ tags) && (decide (k ≠ 8) || decide (0 < tag)) && (decide (k = 5) || te)
theorem mayO_eq (o : Ob) : Hp.mayO o = (mayB o.k o.ws.length o.tag o.t.isEmpty && o.ws.all Hp.wordOk) := by
  unfold Hp.mayO mayB
  cases Hp.kindO o.k o.ws.length with
  | none => rfl
  | some p => obtain ⟨a, b, c⟩ := p; rfl
set_option maxRecDepth 20000 in
set_option maxHeartbeats 4000000 in
theorem refmay_any (o : Ob) (A : Option Addr) (c : Nat) (w : World) (ho : OArg w o A) :
    Calls Try.prog 39 #[.agg #[.int .u8 (o.k : Int), .int .i64 o.tag, .slice A o.ws.length c, .string (str o.t)]] w fun e w' => e = .returned (.bool (Hp.mayO o)) ∧ Below w.heap.size w w' := by
  obtain ⟨hA, ⟨hl, hl2, hk⟩, ht1, ht2⟩ := ho
  have hm := mayO_eq o
  obtain ⟨k, tag, ws, t⟩ := o
  dsimp only at hl hl2 hk hA ht1 ht2 hm ⊢
  obtain ⟨n, hn⟩ : ∃ n, ws.length = n := ⟨_, rfl⟩
  rw [hn] at hl hm ⊢
  obtain ⟨w0, hw0⟩ : ∃ w0, w.alloc (.cells #[.int .u8 (k : Int), .int .i64 tag, .slice A n c, .string (str t)] 35) = w0 := ⟨_, rfl⟩
  have hB0 : Blk w0 w.heap.size 35 #[.int .u8 (k : Int), .int .i64 tag, .slice A n c, .string (str t)] := by rw [← hw0]; exact Blk.new _ _ _
  have hb0 : Below w.heap.size w w0 := by rw [← hw0]; exact (Below.refl _ _).alloc (Nat.le_refl _) _
  have d0 : w0.cell? ⟨w.heap.size, 0, none⟩ = some (.int .u8 (k : Int)) := hB0.cell 0
  have d1 : w0.cell? ⟨w.heap.size, 1, none⟩ = some (.int .i64 tag) := hB0.cell 1
  have d2 : w0.cell? ⟨w.heap.size, 2, none⟩ = some (.slice A n c) := hB0.cell 2
  have d3 : w0.cell? ⟨w.heap.size, 3, none⟩ = some (.string (str t)) := hB0.cell 3
  obtain ⟨te, hte⟩ : ∃ p, t.isEmpty = p := ⟨_, rfl⟩
  have hse : (str t).toList.isEmpty = te := by rw [str_toList]; exact hte
  have hsq : ((str t).toList == []) = te := by rw [str_toList]; rw [← hte]; cases t <;> rfl
  rw [hte] at hm
  have HM := Lib.hid (And.intro hm (And.intro hn (And.intro hb0 (hA.below hb0))))
  clear hm hB0 hb0 hA hn hte
  go_enter Try.func39, Try.ntmps39
  go_wp2_with fail
  go_loopw [3] (fun iv wr => ∃ i : Nat, i ≤ n ∧ iv = .int .i64 (i : Int) ∧ wr = w0 ∧ Hid (∀ j x, j < i → ws[j]? = some x → Hp.wordOk x = true)) (fun iv _ => n - (intOf iv).toNat)
  case atStart => exact ⟨0, Nat.zero_le _, rfl, rfl, Lib.hid fun j x hj => by omega⟩
  case round =>
    obtain ⟨i, hi, rfl, rfl, hI⟩ := hrel
    by_cases hlt : i < n
    · have hd : decide ((i : Int) < (n : Int)) = true := by simpa using hlt
      obtain ⟨x, hx⟩ : ∃ x, ws[i]? = some x := ⟨_, List.getElem?_eq_getElem (by rw [HM.out.2.1]; exact hlt)⟩
      obtain ⟨b, off, rfl, _, c0, _, hxo⟩ := HM.out.2.2.2 i x hx
      have HX := Lib.hid hx
      obtain ⟨xk, xn⟩ := x
      have c0 : wr.cell? ⟨b, off + i * 2, none⟩ = some (.int .u8 (xk : Int)) := c0
      have hxk : xk < 256 := hxo.1
      clear hx hxo
      by_cases h1 : xk = 1
      · subst h1
        go_wp2_with fail
        go_roundw
        case rel => exact ⟨i + 1, by omega, by go_num, trivial, Lib.hid fun j y hj hy => by
            by_cases e : j = i
            · rw [e, HX.out] at hy; cases hy; rfl
            · exact hI.out j y (by omega) hy⟩
        case measure => simp [intOf]; omega
      · have e1 : ((xk : Int) != 1) = true := by simp; omega
        by_cases h2 : xk = 2
        · subst h2
          go_wp2_with fail
          go_roundw
          case rel => exact ⟨i + 1, by omega, by go_num, trivial, Lib.hid fun j y hj hy => by
              by_cases e : j = i
              · rw [e, HX.out] at hy; cases hy; rfl
              · exact hI.out j y (by omega) hy⟩
          case measure => simp [intOf]; omega
        · have e2 : ((xk : Int) != 2) = true := by simp; omega
          go_wp2_with fail
          go_ret
          refine ⟨?_, HM.out.2.2.1⟩
          have hall : ws.all Hp.wordOk = false := by
            rw [List.all_eq_false]
            exact ⟨⟨xk, xn⟩, List.mem_of_getElem? HX.out, by unfold Hp.wordOk; simp [h1, h2]⟩
          rw [HM.out.1, hall, Bool.and_false]
          rfl
    · obtain rfl : n = i := by omega
      have hd : decide ((n : Int) < (n : Int)) = false := by simp
      have hall : ws.all Hp.wordOk = true := by
        rw [List.all_eq_true]
        intro x hx
        obtain ⟨j, hj, rfl⟩ := List.getElem_of_mem hx
        exact hI.out j _ (by rw [← HM.out.2.1]; exact hj) (List.getElem?_eq_getElem hj)
      have HR : Hid (Hp.mayO ⟨k, tag, ws, t⟩ = mayB k n tag te) := Lib.hid (by rw [HM.out.1, hall, Bool.and_true])
      have HB := Lib.hid HM.out.2.2.1
      clear hall hI HM
      by_cases k1 : k = 1
      · subst k1
        by_cases hn2 : n < 2
        · have q : decide ((n : Int) < 2) = true := by simp; omega
          have q2 : ¬ (2 ≤ n) := by omega
          go_wp2_with fail
          go_ret
          exact ⟨by rw [HR.out]; simp [mayB, Hp.kindO, q2] <;> omega, HB.out⟩
        · have q : decide ((n : Int) < 2) = false := by simp; omega
          have q2 : 2 ≤ n := by omega
          cases te
          · skip
            go_wp2_with fail
            go_ret
            exact ⟨by rw [HR.out]; simp [mayB, Hp.kindO, q2] <;> omega, HB.out⟩
          · skip
            by_cases h3 : 0 ≤ tag
            · have p3 : decide (tag ≥ 0) = true := by simpa using h3
              by_cases h4 : tag ≤ 0
              · have p4 : decide (tag ≤ (0 : Int)) = true := by simpa using h4
                go_wp2_with fail
                go_ret
                exact ⟨by rw [HR.out]; simp [mayB, Hp.kindO, q2, h3, h4] <;> omega, HB.out⟩
              · have p4 : decide (tag ≤ (0 : Int)) = false := by simpa using h4
                go_wp2_with fail
                go_ret
                exact ⟨by rw [HR.out]; simp [mayB, Hp.kindO, q2, h3, h4] <;> omega, HB.out⟩
            · have p3 : decide (tag ≥ 0) = false := by simpa using h3
              go_wp2_with fail
              go_ret
              exact ⟨by rw [HR.out]; simp [mayB, Hp.kindO, q2, h3] <;> omega, HB.out⟩
      have e1 : ((k : Int) == 1) = false := by simp; omega
      by_cases k2 : k = 2
      · subst k2
        by_cases hn2 : 1 < n
        · have q : decide ((n : Int) > 1) = true := by simp; omega
          have q2 : ¬ (n ≤ 1) := by omega
          go_wp2_with fail
          go_ret
          exact ⟨by rw [HR.out]; simp [mayB, Hp.kindO, q2] <;> omega, HB.out⟩
        · have q : decide ((n : Int) > 1) = false := by simp; omega
          have q2 : n ≤ 1 := by omega
          cases te
          · skip
            go_wp2_with fail
            go_ret
            exact ⟨by rw [HR.out]; simp [mayB, Hp.kindO, q2] <;> omega, HB.out⟩
          · skip
            by_cases h3 : 0 ≤ tag
            · have p3 : decide (tag ≥ 0) = true := by simpa using h3
              by_cases h4 : tag ≤ 65535
              · have p4 : decide (tag ≤ (65535 : Int)) = true := by simpa using h4
                go_wp2_with fail
                go_ret
                exact ⟨by rw [HR.out]; simp [mayB, Hp.kindO, q2, h3, h4] <;> omega, HB.out⟩
              · have p4 : decide (tag ≤ (65535 : Int)) = false := by simpa using h4
                go_wp2_with fail
                go_ret
                exact ⟨by rw [HR.out]; simp [mayB, Hp.kindO, q2, h3, h4] <;> omega, HB.out⟩
            · have p3 : decide (tag ≥ 0) = false := by simpa using h3
              go_wp2_with fail
              go_ret
              exact ⟨by rw [HR.out]; simp [mayB, Hp.kindO, q2, h3] <;> omega, HB.out⟩
      have e2 : ((k : Int) == 2) = false := by simp; omega
      by_cases k3 : k = 3
      · subst k3
        by_cases hn2 : n = 1
        · subst hn2
          cases te
          · skip
            go_wp2_with fail
            go_ret
            exact ⟨by rw [HR.out]; simp [mayB, Hp.kindO] <;> omega, HB.out⟩
          · skip
            by_cases h3 : 0 ≤ tag
            · have p3 : decide (tag ≥ 0) = true := by simpa using h3
              by_cases h4 : tag ≤ 0
              · have p4 : decide (tag ≤ (0 : Int)) = true := by simpa using h4
                go_wp2_with fail
                go_ret
                exact ⟨by rw [HR.out]; simp [mayB, Hp.kindO, h3, h4] <;> omega, HB.out⟩
              · have p4 : decide (tag ≤ (0 : Int)) = false := by simpa using h4
                go_wp2_with fail
                go_ret
                exact ⟨by rw [HR.out]; simp [mayB, Hp.kindO, h3, h4] <;> omega, HB.out⟩
            · have p3 : decide (tag ≥ 0) = false := by simpa using h3
              go_wp2_with fail
              go_ret
              exact ⟨by rw [HR.out]; simp [mayB, Hp.kindO, h3] <;> omega, HB.out⟩
        · have q : ((n : Int) != 1) = true := by simp; omega
          have q2 : ¬ (1 ≤ n ∧ n ≤ 1) := by omega
          have q3 : 1 ≤ n → ¬ (n ≤ 1) := by omega
          go_wp2_with fail
          go_ret
          refine ⟨?_, HB.out⟩
          rw [HR.out]
          simp only [mayB, Hp.kindO]
          by_cases a : 1 ≤ n
          · simp [q3 a]
          · simp [a]
      have e3 : ((k : Int) == 3) = false := by simp; omega
      by_cases k4 : k = 4
      · subst k4
        cases te
        · skip
          go_wp2_with fail
          go_ret
          exact ⟨by rw [HR.out]; simp [mayB, Hp.kindO] <;> omega, HB.out⟩
        · skip
          by_cases h3 : 0 ≤ tag
          · have p3 : decide (tag ≥ 0) = true := by simpa using h3
            by_cases h4 : tag ≤ 0
            · have p4 : decide (tag ≤ (0 : Int)) = true := by simpa using h4
              go_wp2_with fail
              go_ret
              exact ⟨by rw [HR.out]; simp [mayB, Hp.kindO, h3, h4] <;> omega, HB.out⟩
            · have p4 : decide (tag ≤ (0 : Int)) = false := by simpa using h4
              go_wp2_with fail
              go_ret
              exact ⟨by rw [HR.out]; simp [mayB, Hp.kindO, h3, h4] <;> omega, HB.out⟩
          · have p3 : decide (tag ≥ 0) = false := by simpa using h3
            go_wp2_with fail
            go_ret
            exact ⟨by rw [HR.out]; simp [mayB, Hp.kindO, h3] <;> omega, HB.out⟩
      have e4 : ((k : Int) == 4) = false := by simp; omega
      by_cases k5 : k = 5
      · subst k5
        by_cases hn2 : n = 0
        · subst hn2
          by_cases h3 : 0 ≤ tag
          · have p3 : decide (tag ≥ 0) = true := by simpa using h3
            by_cases h4 : tag ≤ 0
            · have p4 : decide (tag ≤ (0 : Int)) = true := by simpa using h4
              go_wp2_with fail
              go_ret
              exact ⟨by rw [HR.out]; simp [mayB, Hp.kindO, h3, h4] <;> omega, HB.out⟩
            · have p4 : decide (tag ≤ (0 : Int)) = false := by simpa using h4
              go_wp2_with fail
              go_ret
              exact ⟨by rw [HR.out]; simp [mayB, Hp.kindO, h3, h4] <;> omega, HB.out⟩
          · have p3 : decide (tag ≥ 0) = false := by simpa using h3
            go_wp2_with fail
            go_ret
            exact ⟨by rw [HR.out]; simp [mayB, Hp.kindO, h3] <;> omega, HB.out⟩
        · have q : ((n : Int) != 0) = true := by simp; omega
          go_wp2_with fail
          go_ret
          exact ⟨by rw [HR.out]; simp [mayB, Hp.kindO, hn2] <;> omega, HB.out⟩
      have e5 : ((k : Int) == 5) = false := by simp; omega
      by_cases k6 : k = 6
      · subst k6
        by_cases hn2 : 1 < n
        · have q : decide ((n : Int) > 1) = true := by simp; omega
          have q2 : ¬ (n ≤ 1) := by omega
          go_wp2_with fail
          go_ret
          exact ⟨by rw [HR.out]; simp [mayB, Hp.kindO, q2] <;> omega, HB.out⟩
        · have q : decide ((n : Int) > 1) = false := by simp; omega
          have q2 : n ≤ 1 := by omega
          cases te
          · skip
            go_wp2_with fail
            go_ret
            exact ⟨by rw [HR.out]; simp [mayB, Hp.kindO, q2] <;> omega, HB.out⟩
          · skip
            by_cases h3 : 0 ≤ tag
            · have p3 : decide (tag ≥ 0) = true := by simpa using h3
              by_cases h4 : tag ≤ 65535
              · have p4 : decide (tag ≤ (65535 : Int)) = true := by simpa using h4
                go_wp2_with fail
                go_ret
                exact ⟨by rw [HR.out]; simp [mayB, Hp.kindO, q2, h3, h4] <;> omega, HB.out⟩
              · have p4 : decide (tag ≤ (65535 : Int)) = false := by simpa using h4
                go_wp2_with fail
                go_ret
                exact ⟨by rw [HR.out]; simp [mayB, Hp.kindO, q2, h3, h4] <;> omega, HB.out⟩
            · have p3 : decide (tag ≥ 0) = false := by simpa using h3
              go_wp2_with fail
              go_ret
              exact ⟨by rw [HR.out]; simp [mayB, Hp.kindO, q2, h3] <;> omega, HB.out⟩
      have e6 : ((k : Int) == 6) = false := by simp; omega
      by_cases k7 : k = 7
      · subst k7
        cases te
        · skip
          go_wp2_with fail
          go_ret
          exact ⟨by rw [HR.out]; simp [mayB, Hp.kindO] <;> omega, HB.out⟩
        · skip
          by_cases h3 : 0 ≤ tag
          · have p3 : decide (tag ≥ 0) = true := by simpa using h3
            by_cases h4 : tag ≤ 65535
            · have p4 : decide (tag ≤ (65535 : Int)) = true := by simpa using h4
              go_wp2_with fail
              go_ret
              exact ⟨by rw [HR.out]; simp [mayB, Hp.kindO, h3, h4] <;> omega, HB.out⟩
            · have p4 : decide (tag ≤ (65535 : Int)) = false := by simpa using h4
              go_wp2_with fail
              go_ret
              exact ⟨by rw [HR.out]; simp [mayB, Hp.kindO, h3, h4] <;> omega, HB.out⟩
          · have p3 : decide (tag ≥ 0) = false := by simpa using h3
            go_wp2_with fail
            go_ret
            exact ⟨by rw [HR.out]; simp [mayB, Hp.kindO, h3] <;> omega, HB.out⟩
      have e7 : ((k : Int) == 7) = false := by simp; omega
      by_cases k8 : k = 8
      · subst k8
        by_cases hn2 : n = 0
        · subst hn2
          by_cases ht0 : tag < 1
          · have q : decide (tag < 1) = true := by simpa using ht0
            have q2 : ¬ (0 < tag) := by omega
            go_wp2_with fail
            go_ret
            exact ⟨by rw [HR.out]; simp [mayB, Hp.kindO, q2] <;> omega, HB.out⟩
          · have q : decide (tag < 1) = false := by simpa using ht0
            have q2 : 0 < tag := by omega
            cases te
            · skip
              go_wp2_with fail
              go_ret
              exact ⟨by rw [HR.out]; simp [mayB, Hp.kindO, q2] <;> omega, HB.out⟩
            · skip
              by_cases h3 : 0 ≤ tag
              · have p3 : decide (tag ≥ 0) = true := by simpa using h3
                by_cases h4 : tag ≤ 16384
                · have p4 : decide (tag ≤ (16384 : Int)) = true := by simpa using h4
                  go_wp2_with fail
                  go_ret
                  exact ⟨by rw [HR.out]; simp [mayB, Hp.kindO, q2, h3, h4] <;> omega, HB.out⟩
                · have p4 : decide (tag ≤ (16384 : Int)) = false := by simpa using h4
                  go_wp2_with fail
                  go_ret
                  exact ⟨by rw [HR.out]; simp [mayB, Hp.kindO, q2, h3, h4] <;> omega, HB.out⟩
              · exact absurd (by omega) h3
        · have q : ((n : Int) != 0) = true := by simp; omega
          go_wp2_with fail
          go_ret
          exact ⟨by rw [HR.out]; simp [mayB, Hp.kindO, hn2] <;> omega, HB.out⟩
      have e8 : ((k : Int) == 8) = false := by simp; omega
      go_wp2_with fail
      go_ret
      exact ⟨by rw [HR.out]; simp [mayB, Hp.kindO, k1, k2, k3, k4, k5, k6, k7, k8], HB.out⟩
end Go.Proofs.Ytclkkfffecmjnaa
