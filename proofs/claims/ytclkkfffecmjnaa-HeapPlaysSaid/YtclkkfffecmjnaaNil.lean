/- HeapNil. -/
import Derived.Test.YtclkkfffecmjnaaAh
import Derived.Test.YtclkkfffecmjnaaAi
import Derived.Test.YtclkkfffecmjnaaZ
namespace Go.Proofs.Ytclkkfffecmjnaa
open Go.RowKit
set_option linter.unusedVariables false
attribute [local go_sem] Oper.semAt_some
/-- The zero of what is done, as a value. -/
abbrev zeroOv : Value := .agg #[.int .i64 0, .int .i64 0, .int .i64 0, .int .u8 0, .int .i64 0, .slice none 0 0, .string ⟨#[]⟩, .int .u8 0, .int .i64 0, .slice none 0 0]
theorem ops_one {w1 : World} {q : Nat} {ty : TypeId} {o : Ov} {A R : Option Addr} {c d : Nat} (hB : Blk w1 q ty (opC o A c R d)) (hv : OpV w1 o A c R d) : OpsM w1 (some ⟨q, 0, none⟩) [o] := fun r x hx => by
  cases r with
  | zero =>
    simp at hx
    subst hx
    exact ⟨q, 0, A, c, R, d, rfl, hB.lt, fun j v hj => by rw [Nat.zero_mul, Nat.zero_add, hB.cell, hj], hv⟩
  | succ r => simp at hx
theorem oids_nil (w : World) : Calls Try.prog 26 #[.pointer none] w fun e w' => e = .returned (.slice none 0 0) ∧ w = w' := by
  go_enter Try.func26, Try.ntmps26
  go_wp2_with fail
  go_ret
  exact ⟨rfl, rfl⟩
set_option maxRecDepth 20000 in
set_option maxHeartbeats 4000000 in
theorem nil_any (o : Ov) (A R : Option Addr) (c d : Nat) (limit : Int) (w : World) (hv : OpV w o A c R d) (hlt : LtO o) (hwl : (Lit.int .i64 limit).wf = true) :
    Calls Try.prog 10 #[.agg (opC o A c R d), .int .i64 limit] w fun e w' => e = .returned (.bool true) ∧ Below w.heap.size w w' := by
  obtain ⟨w0, hw0⟩ : ∃ w0, w.alloc (.cells (opC o A c R d) 43) = w0 := ⟨_, rfl⟩
  have hb0 : Below w.heap.size w w0 := by rw [← hw0]; exact (Below.refl _ _).alloc (Nat.le_refl _) _
  have hB0 : Blk w0 w.heap.size 43 (opC o A c R d) := by rw [← hw0]; exact Blk.new _ _ _
  obtain ⟨w1, hw1⟩ : ∃ w1, w0.alloc (.cells (opC o A c R d) 43) = w1 := ⟨_, rfl⟩
  have hb1 : Below w0.heap.size w0 w1 := by rw [← hw1]; exact (Below.refl _ _).alloc (Nat.le_refl _) _
  have hB1 : Blk w1 w0.heap.size 43 (opC o A c R d) := by rw [← hw1]; exact Blk.new _ _ _
  have hv0 := hv.below hb0
  have hv1 := hv0.below hb1
  have hB01 := hB0.below hb1 hB0.lt
  have HV := vast_any (some ⟨w0.heap.size, 0, none⟩) 1 1 [o] w1 rfl (by unfold maxLen; omega) (ops_one hB1 hv1) (fun x hx => by rw [List.mem_singleton.1 hx]; exact hlt)
  have HF := Lib.hid (And.intro hb0 (And.intro hb1 (And.intro hB01 hv1)))
  have HL := Lib.hid (wf_i64 hwl)
  replace HV := Lib.hid HV
  obtain ⟨kind, k, i, ⟨ok, tag, ws, t⟩, ⟨wk, wn⟩, roots⟩ := o
  unfold opC at hw0 hw1 hB0 ⊢
  dsimp only at hw0 hw1 hB0 ⊢
  have c0 := hB0.cell 0
  have c1 := hB0.cell 1
  have c2 := hB0.cell 2
  have c3 := hB0.cell 3
  have c4 := hB0.cell 4
  have c5 := hB0.cell 5
  have c6 := hB0.cell 6
  have c7 := hB0.cell 7
  have c8 := hB0.cell 8
  have c9 := hB0.cell 9
  simp only [List.getElem?_toArray, List.getElem?_cons_zero, List.getElem?_cons_succ] at c0 c1 c2 c3 c4 c5 c6 c7 c8 c9
  clear hb0 hB0 hb1 hB1 hv0 hv1 hB01 hv hlt hwl
  go_enter Try.func10, Try.ntmps10
  go_wp2_with fail
  refine HV.out.mono ?_
  rintro e w2 ⟨b, rfl, hbf, hb2⟩
  obtain ⟨g1, g2, g3, g4⟩ := HF.out
  have hb02 : Below w.heap.size w w2 := g1.trans ((g2.trans (hb2.mono g2.size)).mono g1.size)
  cases b with
  | true =>
    have HW := Lib.hid (works_any w2)
    have HB := Lib.hid hb02
    clear g1 g2 g3 g4 hb02 hb2 hbf HF HV c0 c1 c2 c3 c4 c5 c6 c7 c8 c9
    go_wp2_with fail
    refine HW.out.mono ?_
    rintro e w3 ⟨rfl, hb3⟩
    have HB3 := Lib.hid (HB.out.trans (hb3.mono HB.out.size))
    clear hb3 HW
    go_wp2_with fail
    go_ret
    exact ⟨rfl, HB3.out⟩
  | false =>
    have hfit := (hbf rfl).2 _ (List.mem_singleton.2 rfl)
    have hB2 := g3.below hb2 g3.lt
    have HD := Lib.hid (does_nil (g4.below hb2) hfit)
    unfold opC at hB2 HD
    dsimp only at hB2 HD
    have c0 := hB2.cell 0
    have c1 := hB2.cell 1
    have c2 := hB2.cell 2
    have c3 := hB2.cell 3
    have c4 := hB2.cell 4
    have c5 := hB2.cell 5
    have c6 := hB2.cell 6
    have c7 := hB2.cell 7
    have c8 := hB2.cell 8
    have c9 := hB2.cell 9
    simp only [List.getElem?_toArray, List.getElem?_cons_zero, List.getElem?_cons_succ] at c0 c1 c2 c3 c4 c5 c6 c7 c8 c9
    have HB := Lib.hid (And.intro hb02 hB2)
    clear g1 g2 g3 g4 hb02 hb2 hbf HF HV hB2
    go_wp2_with fail
    refine HD.out.mono ?_
    rintro e w3 ⟨T, c2', rfl, hb3⟩
    have hb03 := HB.out.1.trans (hb3.mono HB.out.1.size)
    have hB3 := HB.out.2.below hb3 HB.out.2.lt
    have HS : Hid (∀ W, Calls Try.prog 33 #[.agg #[.int .u8 0, .int .i64 0, .slice T 0 c2', .string ⟨#[]⟩], .agg #[.int .u8 0, .int .i64 0, .slice none 0 0, .string ⟨#[]⟩]] W fun e w' => e = .returned (.bool true) ∧ Below W.heap.size W w') := Lib.hid fun W => same_ok noOb T none c2' 0 W (Words.nil _ _) (Words.nil _ _) (Nat.zero_le _)
    have hcase : ((kind = 0 ∨ kind = 4 ∨ kind = 8) ∧ toldC (doN ⟨kind, k, i, ⟨ok, tag, ws, t⟩, ⟨wk, wn⟩, roots⟩) T c2' = #[.int .u8 0, .int .i64 0, .slice T 0 c2', .string ⟨#[]⟩, .int .u8 0, .int .i64 0, .int .i64 0, .bool false, .int .i64 2]) ∨
        ((kind ≠ 0 ∧ kind ≠ 4 ∧ kind ≠ 8) ∧ toldC (doN ⟨kind, k, i, ⟨ok, tag, ws, t⟩, ⟨wk, wn⟩, roots⟩) T c2' = #[.int .u8 0, .int .i64 0, .slice T 0 c2', .string ⟨#[]⟩, .int .u8 0, .int .i64 0, .int .i64 0, .bool false, .int .i64 0]) := by
      by_cases hk : kind = 0 ∨ kind = 4 ∨ kind = 8
      · exact .inl ⟨hk, by unfold doN; rw [if_pos hk]; rfl⟩
      · refine .inr ⟨by omega, ?_⟩
        unfold doN; rw [if_neg hk]; rfl
    have c0 := hB3.cell 0
    simp only [List.getElem?_toArray, List.getElem?_cons_zero] at c0
    have HB3 := Lib.hid hb03
    clear hb03 hB3 hb3 HB HD hfit c1 c2 c3 c4 c5 c6 c7 c8 c9
    have hm : (1 ≤ limit ∧ limit ≤ 16777216) ∨ (limit < 1 ∨ 16777216 < limit) := by omega
    rcases hcase with ⟨hk, hC⟩ | ⟨hk, hC⟩
    · rw [hC]
      clear hC
      obtain ⟨w4, hw4⟩ : ∃ w4, w3.alloc (.cells #[.int .u8 0, .int .i64 0, .slice T 0 c2', .string ⟨#[]⟩, .int .u8 0, .int .i64 0, .int .i64 0, .bool false, .int .i64 2] 39) = w4 := ⟨_, rfl⟩
      have hb4 : Below w3.heap.size w3 w4 := by rw [← hw4]; exact (Below.refl _ _).alloc (Nat.le_refl _) _
      have hB4 : Blk w4 w3.heap.size 39 #[.int .u8 0, .int .i64 0, .slice T 0 c2', .string ⟨#[]⟩, .int .u8 0, .int .i64 0, .int .i64 0, .bool false, .int .i64 2] := by rw [← hw4]; exact Blk.new _ _ _
      have c0 := (hb4.cell (p := ⟨w.heap.size, 0, none⟩) (World.block_lt_of_cell? _ _ c0)).trans c0
      have x0 := hB4.cell 0
      have x1 := hB4.cell 1
      have x2 := hB4.cell 2
      have x3 := hB4.cell 3
      have x4 := hB4.cell 4
      have x5 := hB4.cell 5
      have x6 := hB4.cell 6
      have x7 := hB4.cell 7
      have x8 := hB4.cell 8
      simp only [List.getElem?_toArray, List.getElem?_cons_zero, List.getElem?_cons_succ] at x0 x1 x2 x3 x4 x5 x6 x7 x8
      have HB4 := Lib.hid (And.intro (HB3.out.trans (hb4.mono HB3.out.size)) hB4)
      clear hb4 hB4
      rcases hk with rfl | rfl | rfl
      all_goals
        go_wp2_with fail
        refine (HS.out _).mono ?_
        rintro e w5 ⟨rfl, hb5⟩
        have x4 := (hb5.cell (p := ⟨w3.heap.size, 4, none⟩) HB4.out.2.lt).trans x4
        have x5 := (hb5.cell (p := ⟨w3.heap.size, 5, none⟩) HB4.out.2.lt).trans x5
        have HB5 := Lib.hid (HB4.out.1.trans (hb5.mono HB4.out.1.size))
        clear hb5
        rcases hm with hm | hm
        · obtain ⟨l, hl⟩ : ∃ l : Nat, limit = l := ⟨limit.toNat, by omega⟩
          subst hl
          have HN := Lib.hid (new_ok l w5 w5 (fun _ => False) (fun k h => h.elim) (Below.refl _ _) (by omega))
          have m1 : decide ((l : Int) ≥ 1) = true := by simp; omega
          have m2 : decide ((l : Int) ≤ 16777216) = true := by simp; omega
          clear hm
          go_wp2_with fail
          refine HN.out.mono ?_
          rintro e w6 ⟨g, rfl, _, hb6⟩
          have H1 := Lib.hid (used_nil w6)
          have H2 := Lib.hid (count_nil w6)
          have H3 := Lib.hid (limit_nil w6)
          have H4 := Lib.hid (dirty_nil w6)
          have H5 := Lib.hid (oids_nil w6)
          have H6 := Lib.hid (works_any w6)
          have HB6 := Lib.hid (HB5.out.trans (hb6.mono HB5.out.size))
          clear hb6 HN
          go_wp2_with fail
          refine H1.out.mono ?_
          rintro e v1 ⟨rfl, rfl⟩
          go_wp2_with fail
          refine H2.out.mono ?_
          rintro e v1 ⟨rfl, rfl⟩
          go_wp2_with fail
          refine H3.out.mono ?_
          rintro e v1 ⟨rfl, rfl⟩
          go_wp2_with fail
          refine H4.out.mono ?_
          rintro e v1 ⟨rfl, rfl⟩
          go_wp2_with fail
          refine H5.out.mono ?_
          rintro e v1 ⟨rfl, rfl⟩
          go_wp2_with fail
          refine H6.out.mono ?_
          rintro e v1 ⟨rfl, hb7⟩
          have HB7 := Lib.hid (HB6.out.trans (hb7.mono HB6.out.size))
          clear hb7
          go_wp2_with fail
          go_ret
          exact ⟨rfl, HB7.out⟩
        · have HN := Lib.hid (new_no limit w5 hm)
          have H1 := Lib.hid (used_nil w5)
          have H2 := Lib.hid (count_nil w5)
          have H3 := Lib.hid (limit_nil w5)
          have H4 := Lib.hid (dirty_nil w5)
          have H5 := Lib.hid (oids_nil w5)
          have H6 := Lib.hid (works_any w5)
          rcases hm with hm | hm
          · have m1 : decide (limit ≥ 1) = false := by simp; omega
            clear hm
            go_wp2_with fail
            refine HN.out.mono ?_
            rintro e v1 ⟨rfl, rfl⟩
            go_wp2_with fail
            refine H1.out.mono ?_
            rintro e v1 ⟨rfl, rfl⟩
            go_wp2_with fail
            refine H2.out.mono ?_
            rintro e v1 ⟨rfl, rfl⟩
            go_wp2_with fail
            refine H3.out.mono ?_
            rintro e v1 ⟨rfl, rfl⟩
            go_wp2_with fail
            refine H4.out.mono ?_
            rintro e v1 ⟨rfl, rfl⟩
            go_wp2_with fail
            refine H5.out.mono ?_
            rintro e v1 ⟨rfl, rfl⟩
            go_wp2_with fail
            refine H6.out.mono ?_
            rintro e v1 ⟨rfl, hb7⟩
            have HB7 := Lib.hid (HB5.out.trans (hb7.mono HB5.out.size))
            clear hb7
            go_wp2_with fail
            go_ret
            exact ⟨rfl, HB7.out⟩
          · have m1 : decide (limit ≥ 1) = true := by simp; omega
            have m2 : decide (limit ≤ 16777216) = false := by simp; omega
            clear hm
            go_wp2_with fail
            refine HN.out.mono ?_
            rintro e v1 ⟨rfl, rfl⟩
            go_wp2_with fail
            refine H1.out.mono ?_
            rintro e v1 ⟨rfl, rfl⟩
            go_wp2_with fail
            refine H2.out.mono ?_
            rintro e v1 ⟨rfl, rfl⟩
            go_wp2_with fail
            refine H3.out.mono ?_
            rintro e v1 ⟨rfl, rfl⟩
            go_wp2_with fail
            refine H4.out.mono ?_
            rintro e v1 ⟨rfl, rfl⟩
            go_wp2_with fail
            refine H5.out.mono ?_
            rintro e v1 ⟨rfl, rfl⟩
            go_wp2_with fail
            refine H6.out.mono ?_
            rintro e v1 ⟨rfl, hb7⟩
            have HB7 := Lib.hid (HB5.out.trans (hb7.mono HB5.out.size))
            clear hb7
            go_wp2_with fail
            go_ret
            exact ⟨rfl, HB7.out⟩
    · rw [hC]
      clear hC
      obtain ⟨w4, hw4⟩ : ∃ w4, w3.alloc (.cells #[.int .u8 0, .int .i64 0, .slice T 0 c2', .string ⟨#[]⟩, .int .u8 0, .int .i64 0, .int .i64 0, .bool false, .int .i64 0] 39) = w4 := ⟨_, rfl⟩
      have hb4 : Below w3.heap.size w3 w4 := by rw [← hw4]; exact (Below.refl _ _).alloc (Nat.le_refl _) _
      have hB4 : Blk w4 w3.heap.size 39 #[.int .u8 0, .int .i64 0, .slice T 0 c2', .string ⟨#[]⟩, .int .u8 0, .int .i64 0, .int .i64 0, .bool false, .int .i64 0] := by rw [← hw4]; exact Blk.new _ _ _
      have c0 := (hb4.cell (p := ⟨w.heap.size, 0, none⟩) (World.block_lt_of_cell? _ _ c0)).trans c0
      have x0 := hB4.cell 0
      have x1 := hB4.cell 1
      have x2 := hB4.cell 2
      have x3 := hB4.cell 3
      have x4 := hB4.cell 4
      have x5 := hB4.cell 5
      have x6 := hB4.cell 6
      have x7 := hB4.cell 7
      have x8 := hB4.cell 8
      simp only [List.getElem?_toArray, List.getElem?_cons_zero, List.getElem?_cons_succ] at x0 x1 x2 x3 x4 x5 x6 x7 x8
      have HB4 := Lib.hid (And.intro (HB3.out.trans (hb4.mono HB3.out.size)) hB4)
      clear hb4 hB4
      have d0 : (kind == 0) = false := by simp; omega
      have d4 : (kind == 4) = false := by simp; omega
      have d8 : (kind == 8) = false := by simp; omega
      clear hk
      have HW4 := Lib.hid hw4
      clear hw4
      go_upto_region 5 with fail
      rw [HW4.out]
      clear HW4
      go_wp2_with fail
      refine (HS.out _).mono ?_
      rintro e w5 ⟨rfl, hb5⟩
      have x4 := (hb5.cell (p := ⟨w3.heap.size, 4, none⟩) HB4.out.2.lt).trans x4
      have x5 := (hb5.cell (p := ⟨w3.heap.size, 5, none⟩) HB4.out.2.lt).trans x5
      have HB5 := Lib.hid (HB4.out.1.trans (hb5.mono HB4.out.1.size))
      clear hb5
      rcases hm with hm | hm
      · obtain ⟨l, hl⟩ : ∃ l : Nat, limit = l := ⟨limit.toNat, by omega⟩
        subst hl
        have HN := Lib.hid (new_ok l w5 w5 (fun _ => False) (fun k h => h.elim) (Below.refl _ _) (by omega))
        have m1 : decide ((l : Int) ≥ 1) = true := by simp; omega
        have m2 : decide ((l : Int) ≤ 16777216) = true := by simp; omega
        clear hm
        go_wp2_with fail
        refine HN.out.mono ?_
        rintro e w6 ⟨g, rfl, _, hb6⟩
        have H1 := Lib.hid (used_nil w6)
        have H2 := Lib.hid (count_nil w6)
        have H3 := Lib.hid (limit_nil w6)
        have H4 := Lib.hid (dirty_nil w6)
        have H5 := Lib.hid (oids_nil w6)
        have H6 := Lib.hid (works_any w6)
        have HB6 := Lib.hid (HB5.out.trans (hb6.mono HB5.out.size))
        clear hb6 HN
        go_wp2_with fail
        refine H1.out.mono ?_
        rintro e v1 ⟨rfl, rfl⟩
        go_wp2_with fail
        refine H2.out.mono ?_
        rintro e v1 ⟨rfl, rfl⟩
        go_wp2_with fail
        refine H3.out.mono ?_
        rintro e v1 ⟨rfl, rfl⟩
        go_wp2_with fail
        refine H4.out.mono ?_
        rintro e v1 ⟨rfl, rfl⟩
        go_wp2_with fail
        refine H5.out.mono ?_
        rintro e v1 ⟨rfl, rfl⟩
        go_wp2_with fail
        refine H6.out.mono ?_
        rintro e v1 ⟨rfl, hb7⟩
        have HB7 := Lib.hid (HB6.out.trans (hb7.mono HB6.out.size))
        clear hb7
        go_wp2_with fail
        go_ret
        exact ⟨rfl, HB7.out⟩
      · have HN := Lib.hid (new_no limit w5 hm)
        have H1 := Lib.hid (used_nil w5)
        have H2 := Lib.hid (count_nil w5)
        have H3 := Lib.hid (limit_nil w5)
        have H4 := Lib.hid (dirty_nil w5)
        have H5 := Lib.hid (oids_nil w5)
        have H6 := Lib.hid (works_any w5)
        rcases hm with hm | hm
        · have m1 : decide (limit ≥ 1) = false := by simp; omega
          clear hm
          go_wp2_with fail
          refine HN.out.mono ?_
          rintro e v1 ⟨rfl, rfl⟩
          go_wp2_with fail
          refine H1.out.mono ?_
          rintro e v1 ⟨rfl, rfl⟩
          go_wp2_with fail
          refine H2.out.mono ?_
          rintro e v1 ⟨rfl, rfl⟩
          go_wp2_with fail
          refine H3.out.mono ?_
          rintro e v1 ⟨rfl, rfl⟩
          go_wp2_with fail
          refine H4.out.mono ?_
          rintro e v1 ⟨rfl, rfl⟩
          go_wp2_with fail
          refine H5.out.mono ?_
          rintro e v1 ⟨rfl, rfl⟩
          go_wp2_with fail
          refine H6.out.mono ?_
          rintro e v1 ⟨rfl, hb7⟩
          have HB7 := Lib.hid (HB5.out.trans (hb7.mono HB5.out.size))
          clear hb7
          go_wp2_with fail
          go_ret
          exact ⟨rfl, HB7.out⟩
        · have m1 : decide (limit ≥ 1) = true := by simp; omega
          have m2 : decide (limit ≤ 16777216) = false := by simp; omega
          clear hm
          go_wp2_with fail
          refine HN.out.mono ?_
          rintro e v1 ⟨rfl, rfl⟩
          go_wp2_with fail
          refine H1.out.mono ?_
          rintro e v1 ⟨rfl, rfl⟩
          go_wp2_with fail
          refine H2.out.mono ?_
          rintro e v1 ⟨rfl, rfl⟩
          go_wp2_with fail
          refine H3.out.mono ?_
          rintro e v1 ⟨rfl, rfl⟩
          go_wp2_with fail
          refine H4.out.mono ?_
          rintro e v1 ⟨rfl, rfl⟩
          go_wp2_with fail
          refine H5.out.mono ?_
          rintro e v1 ⟨rfl, rfl⟩
          go_wp2_with fail
          refine H6.out.mono ?_
          rintro e v1 ⟨rfl, hb7⟩
          have HB7 := Lib.hid (HB5.out.trans (hb7.mono HB5.out.size))
          clear hb7
          go_wp2_with fail
          go_ret
          exact ⟨rfl, HB7.out⟩
end Go.Proofs.Ytclkkfffecmjnaa
