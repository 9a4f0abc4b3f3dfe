/- types: TypesNil. -/
import Derived.Test.YtndhojnfjlkojaaVa
import Derived.Test.YtndhojnfjlkojaaWk
import Derived.Test.YtndhojnfjlkojaaOp
namespace Go.Proofs.Ytndhojnfjlkojaa
open Go.RowKit
set_option linter.unusedVariables false
set_option linter.unusedSimpArgs false
attribute [local go_sem] Oper.semAt_some
open Ty
theorem rsame_zero (w : World) : Calls Try.prog 14 #[.agg #[.int .u8 0, .string ⟨#[]⟩, .int .i64 0, .slice none 0 0], .agg #[.int .u8 0, .string ⟨#[]⟩, .int .i64 0, .slice none 0 0]] w fun e w' => e = .returned (.bool true) ∧ Below w.heap.size w w' := by
  have h := rsame_any (F := fun _ => False) (G := fun _ => False) (.node 0 [] 0 []) (.node 0 [] 0 []) none 0 none 0 w (.nil _) (Nat.le_refl _) (Nat.zero_le _) (.nil _)
  rw [same_refl] at h
  exact h
set_option maxRecDepth 20000 in
set_option maxHeartbeats 4000000 in
theorem nil_law (t : Ty) (A : Option Addr) (c : Nat) (n : Int) (hn : -9223372036854775808 ≤ n ∧ n < 9223372036854775808) (w : World) (hT : Tb w.heap.size w t A c) :
    Calls Try.prog 7 #[t.val A c, .int .i64 n] w fun e w' => e = .returned (.bool true) ∧ Below w.heap.size w w' := by
  obtain ⟨tl, htl⟩ : ∃ tl, t.ks.length = tl := ⟨_, rfl⟩
  obtain ⟨w0, hw0⟩ : ∃ w0, w.alloc (.cells #[.int .u8 (t.k : Int), .string (str t.nm), .int .i64 t.n, .slice A tl c] 24) = w0 := ⟨_, rfl⟩
  have hb0 : Below w.heap.size w w0 := by rw [← hw0]; exact (Below.refl _ _).alloc (Nat.le_refl _) _
  have hT0 : Blk w0 w.heap.size 24 #[.int .u8 (t.k : Int), .string (str t.nm), .int .i64 t.n, .slice A tl c] := by rw [← hw0]; exact Blk.new _ _ _
  have HV := vast_any t A c w0 ((hT.at_.bel hb0).now |> fun h => ⟨h, hT.len, hT.cap, hT.ok⟩)
  unfold Ty.val at HV ⊢
  rw [htl] at HV ⊢
  have d0 := hT0.cell 0
  have d1 := hT0.cell 1
  have d2 := hT0.cell 2
  have d3 := hT0.cell 3
  simp only [List.getElem?_toArray, List.getElem?_cons_zero, List.getElem?_cons_succ] at d0 d1 d2 d3
  have HT := Lib.hid hT0
  have HB := Lib.hid hb0
  have HB0 := Lib.hid (Below.refl w0.heap.size w0)
  have HWk := Lib.hid works_any
  have HBa := Lib.hid (back_nil n hn)
  have HUn := Lib.hid unify_nil
  have HFr := Lib.hid fresh_nil
  have HSa := Lib.hid rsame_zero
  have HAp := Lib.hid apply_nil
  have HFe := Lib.hid free_nil
  have HMa := Lib.hid mark_nil
  replace HV := Lib.hid HV
  clear hb0 hT0 hT htl hn
  go_enter Try.func7, Try.ntmps7
  go_upto_region 1 with fail
  (try rw [hw0])
  clear hw0
  go_upto_if 7 with ((go_at_call 8; refine (HV.out).mono ?_; rintro e w1 ⟨vb, rfl, _, hb⟩; have HB1 := Lib.hid (HB0.out.trans (hb.mono HB0.out.size)); clear hb d0 d1 d2 d3; have bx := HT.out.below HB1.out HT.out.lt; have d0 := bx.cell 0; have d1 := bx.cell 1; have d2 := bx.cell 2; have d3 := bx.cell 3; simp only [List.getElem?_toArray, List.getElem?_cons_zero, List.getElem?_cons_succ] at d0 d1 d2 d3; clear bx))
  cases vb with
  | true =>
    go_wp2_with ((go_at_call 9; refine (HWk.out _).mono ?_; rintro e w2 ⟨rfl, hb⟩; have HB2 := Lib.hid (HB1.out.trans (hb.mono HB1.out.size)); clear hb d0 d1 d2 d3; have bx := HT.out.below HB2.out HT.out.lt; have d0 := bx.cell 0; have d1 := bx.cell 1; have d2 := bx.cell 2; have d3 := bx.cell 3; simp only [List.getElem?_toArray, List.getElem?_cons_zero, List.getElem?_cons_succ] at d0 d1 d2 d3; clear bx))
    go_ret
    exact ⟨rfl, HB.out.trans (HB2.out.mono HB.out.size)⟩
  | false =>
    go_wp2_with (first
      | (go_at_call 26; refine (HBa.out _).mono ?_; rintro e w2 ⟨rfl, rfl⟩)
      | (go_at_call 21; refine (HMa.out _).mono ?_; rintro e w8 ⟨rfl, rfl⟩)
      | (go_at_call 20; refine (HUn.out _ _ _ _ _ _ _ _ _ _ _ _ _).mono ?_; rintro e w3 ⟨rfl, hb⟩; have HB3 := Lib.hid (HB1.out.trans (hb.mono HB1.out.size)); clear hb d0 d1 d2 d3; have bx := HT.out.below HB3.out HT.out.lt; have d0 := bx.cell 0; have d1 := bx.cell 1; have d2 := bx.cell 2; have d3 := bx.cell 3; simp only [List.getElem?_toArray, List.getElem?_cons_zero, List.getElem?_cons_succ] at d0 d1 d2 d3; clear bx)
      | (go_at_call 27; refine (HFr.out _).mono ?_; rintro e w4 ⟨rfl, hb⟩; have HB4 := Lib.hid (HB3.out.trans (hb.mono HB3.out.size)); clear hb d0 d1 d2 d3; have bx := HT.out.below HB4.out HT.out.lt; have d0 := bx.cell 0; have d1 := bx.cell 1; have d2 := bx.cell 2; have d3 := bx.cell 3; simp only [List.getElem?_toArray, List.getElem?_cons_zero, List.getElem?_cons_succ] at d0 d1 d2 d3; clear bx)
      | (go_at_call 22; refine (HAp.out _ _ _ _ _ _ _).mono ?_; rintro e w6 ⟨rfl, hb⟩; have HB6 := Lib.hid (HB5.out.trans (hb.mono HB5.out.size)); clear hb d0 d1 d2 d3; have bx := HT.out.below HB6.out HT.out.lt; have d0 := bx.cell 0; have d1 := bx.cell 1; have d2 := bx.cell 2; have d3 := bx.cell 3; simp only [List.getElem?_toArray, List.getElem?_cons_zero, List.getElem?_cons_succ] at d0 d1 d2 d3; clear bx)
      | (go_at_call 24; refine (HFe.out _ _ _ _ _ _ _).mono ?_; rintro e w8 ⟨rfl, hb⟩; have HB8 := Lib.hid (HB7.out.trans (hb.mono HB7.out.size)); clear hb d0 d1 d2 d3; have bx := HT.out.below HB8.out HT.out.lt; have d0 := bx.cell 0; have d1 := bx.cell 1; have d2 := bx.cell 2; have d3 := bx.cell 3; simp only [List.getElem?_toArray, List.getElem?_cons_zero, List.getElem?_cons_succ] at d0 d1 d2 d3; clear bx)
      | (go_at_call 9; refine (HWk.out _).mono ?_; rintro e w9 ⟨rfl, hb⟩; have HB9 := Lib.hid (HB8.out.trans (hb.mono HB8.out.size)); clear hb d0 d1 d2 d3; have bx := HT.out.below HB9.out HT.out.lt; have d0 := bx.cell 0; have d1 := bx.cell 1; have d2 := bx.cell 2; have d3 := bx.cell 3; simp only [List.getElem?_toArray, List.getElem?_cons_zero, List.getElem?_cons_succ] at d0 d1 d2 d3; clear bx)
      | (go_at_call 14; refine (HSa.out _).mono ?_; rintro e w7 ⟨rfl, hb⟩; have HB7 := Lib.hid (HB6.out.trans (hb.mono HB6.out.size)); clear hb d0 d1 d2 d3; have bx := HT.out.below HB7.out HT.out.lt; have d0 := bx.cell 0; have d1 := bx.cell 1; have d2 := bx.cell 2; have d3 := bx.cell 3; simp only [List.getElem?_toArray, List.getElem?_cons_zero, List.getElem?_cons_succ] at d0 d1 d2 d3; clear bx)
      | (go_at_call 14; refine (HSa.out _).mono ?_; rintro e w5 ⟨rfl, hb⟩; have HB5 := Lib.hid (HB4.out.trans (hb.mono HB4.out.size)); clear hb d0 d1 d2 d3; have bx := HT.out.below HB5.out HT.out.lt; have d0 := bx.cell 0; have d1 := bx.cell 1; have d2 := bx.cell 2; have d3 := bx.cell 3; simp only [List.getElem?_toArray, List.getElem?_cons_zero, List.getElem?_cons_succ] at d0 d1 d2 d3; clear bx))
    go_ret
    exact ⟨rfl, HB.out.trans (HB9.out.mono HB.out.size)⟩
end Go.Proofs.Ytndhojnfjlkojaa
