/- PagesNil. -/
import Derived.Test.YtcmaehilgeonjaaAK
namespace Go.Proofs.Ytcmaehilgeonjaa
open Go.RowKit Pgs
/-- The zero op, as a value. -/
abbrev zeroOu : Value := .agg #[.int .i64 0, .int .i64 0, .int .i64 0, .slice none 0 0]
theorem ops_one {w : World} {g : Nat} {o : Ou} {A : Option Addr} {n c : Nat} (hB : Blk w g 32 #[.int .i64 o.k, .int .i64 o.p, .int .i64 o.s, .slice A n c]) (hl : o.B.length = n) (h1 : n ≤ c) (h2 : c ≤ maxLen) (hA : Bytes w A o.B) : Ops w (some ⟨g, 0, none⟩) [o] := fun r x hr => by
  cases r with
  | zero =>
    cases hr
    exact ⟨g, 0, _, _, _, _, rfl, hB.lt, hB.cell 0, hB.cell 1, hB.cell 2, hB.cell 3, rfl, rfl, rfl, A, c, by rw [hl]; rfl, by omega, h2, hA⟩
  | succ r => exact absurd hr (by simp)
theorem vastB_one (o : Ou) {n : Nat} (hl : o.B.length = n) : vastB [o] = decide (1024 < n) := by
  unfold vastB
  simp [hl]
set_option maxRecDepth 20000 in
set_option maxHeartbeats 2000000 in
theorem nil_any (o : Ou) (A : Option Addr) (n c : Nat) (at_ : Int) (w : World) (hl : o.B.length = n) (h1 : n ≤ c) (h2 : c ≤ maxLen) (hA : Bytes w A o.B) :
    Calls Try.prog 8 #[.agg #[.int .i64 o.k, .int .i64 o.p, .int .i64 o.s, .slice A n c], .int .i64 at_] w fun e w' => e = .returned (.bool true) ∧ Below w.heap.size w w' := by
  obtain ⟨w0, hw0⟩ : ∃ w0, w.alloc (.cells #[.int .i64 o.k, .int .i64 o.p, .int .i64 o.s, .slice A n c] 32) = w0 := ⟨_, rfl⟩
  have hB0 : Blk w0 w.heap.size 32 #[.int .i64 o.k, .int .i64 o.p, .int .i64 o.s, .slice A n c] := by rw [← hw0]; exact Blk.new _ _ _
  have hb0 : Below w.heap.size w w0 := by rw [← hw0]; exact (Below.refl _ _).alloc (Nat.le_refl _) _
  obtain ⟨w1, hw1⟩ : ∃ w1, w0.alloc (.cells #[.int .i64 o.k, .int .i64 o.p, .int .i64 o.s, .slice A n c] 32) = w1 := ⟨_, rfl⟩
  have hB1 : Blk w1 w0.heap.size 32 #[.int .i64 o.k, .int .i64 o.p, .int .i64 o.s, .slice A n c] := by rw [← hw1]; exact Blk.new _ _ _
  have hb1 : Below w0.heap.size w0 w1 := by rw [← hw1]; exact (Below.refl _ _).alloc (Nat.le_refl _) _
  have hA1 := (hA.below hb0).below hb1
  have c0 := hB0.cell 0
  have c1 := hB0.cell 1
  have c2 := hB0.cell 2
  have c3 := hB0.cell 3
  simp only [List.getElem?_toArray, List.getElem?_cons_zero, List.getElem?_cons_succ] at c0 c1 c2 c3
  have hk : ∀ j, w1.cell? ⟨w.heap.size, j, none⟩ = w0.cell? ⟨w.heap.size, j, none⟩ := fun j => hb1.cell (p := ⟨w.heap.size, j, none⟩) hB0.lt
  have k0 := (hk 0).trans c0
  have k1 := (hk 1).trans c1
  have k2 := (hk 2).trans c2
  have k3 := (hk 3).trans c3
  have HV := Lib.hid (vast_any (some ⟨w0.heap.size, 0, none⟩) 1 1 [o] w1 rfl (ops_one hB1 hl h1 h2 hA1))
  rw [vastB_one o hl] at HV
  have HB1 : Hid (Below w.heap.size w w1) := Lib.hid (hb0.trans (hb1.mono hb0.size))
  have HW := Lib.hid (fun W => works_any W)
  by_cases hbig : 1024 < n
  · rw [decide_eq_true hbig] at HV
    have HW1 := Lib.hid (HW.out w1)
    clear hA hA1 hB0 hb0 hB1 hb1 hk hl h1 h2
    go_enter Try.func8, Try.ntmps8
    go_wp2_with (first
      | (go_at_call 9; refine Calls.mono HV.out ?_; rintro e w' ⟨rfl, rfl⟩)
      | (go_at_call 10; refine Calls.mono HW1.out ?_; rintro e w' ⟨rfl, hbw⟩))
    go_ret
    exact ⟨rfl, HB1.out.trans (hbw.mono HB1.out.size)⟩
  · rw [decide_eq_false hbig] at HV
    have H1 := Lib.hid (get_nil at_ w1)
    have H2 := Lib.hid (does_nil n c A o w1 hl (by omega) hA1)
    clear hA hA1 hB0 hb0 hB1 hb1 hk hl h1 h2
    go_enter Try.func8, Try.ntmps8
    go_wp2_with (first
      | (go_at_call 9; refine Calls.mono HV.out ?_; rintro e w' ⟨rfl, rfl⟩)
      | (go_at_call 17; refine Calls.mono H1.out ?_; rintro e w' ⟨rfl, rfl⟩)
      | (go_at_call 15; refine Calls.mono H2.out ?_; rintro e w2 ⟨rfl, hb2⟩))
    have HB := Lib.hid (HB1.out.trans (hb2.mono HB1.out.size))
    have H1 := Lib.hid (pages_nil w2)
    clear hb2
    refine H1.out.mono ?_
    rintro e w3 ⟨sv, rfl, hi, _, hb⟩
    rw [pagesL_none] at hi
    obtain ⟨A3, c3, rfl, _, _⟩ := hi.shape
    have HB := Lib.hid (HB.out.trans (hb.mono HB.out.size))
    have H1 := Lib.hid (sectors_nil w3)
    clear hi hb
    go_wp2_with fail
    refine H1.out.mono ?_
    rintro e w4 ⟨sv, rfl, hi, _, hb⟩
    unfold sectorsL at hi
    rw [pagesL_none] at hi
    obtain ⟨A4, c4, rfl, _, _⟩ := hi.shape
    have HB := Lib.hid (HB.out.trans (hb.mono HB.out.size))
    have H1 := Lib.hid (part_nil at_ w4)
    have H2 := Lib.hid (copy_nil w4)
    have H3 := Lib.hid (new_any w4)
    clear hi hb
    go_wp2_with (first
      | (go_at_call 26; refine Calls.mono H1.out ?_; rintro e w' ⟨rfl, rfl⟩)
      | (go_at_call 13; refine Calls.mono H2.out ?_; rintro e w' ⟨rfl, rfl⟩)
      | (go_at_call 11; refine Calls.mono H3.out ?_; rintro e w5 ⟨rfl, hP, hb⟩))
    have HB := Lib.hid (HB.out.trans (hb.mono HB.out.size))
    have H1 := Lib.hid (turned_any none _ none_ none_ w5 (.inl ⟨rfl, rfl⟩) (.inr ⟨_, rfl, hP⟩))
    clear hb hP
    refine H1.out.mono ?_
    rintro e w6 ⟨lv, rfl, hi, _, hb⟩
    rw [turnedL_same] at hi
    obtain ⟨A6, c6, rfl, _, _⟩ := hi.shape
    have HB := Lib.hid (HB.out.trans (hb.mono HB.out.size))
    have H1 := Lib.hid (HW.out w6)
    clear hb hi
    go_wp2_with fail
    refine H1.out.mono ?_
    rintro e w7 ⟨rfl, hb⟩
    go_wp2_with fail
    go_ret
    exact ⟨rfl, HB.out.trans (hb.mono HB.out.size)⟩
end Go.Proofs.Ytcmaehilgeonjaa
