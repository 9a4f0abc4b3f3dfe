/- types: Vast, Depth; what there is of no book. -/
import Derived.Test.YtndhojnfjlkojaaG
import Derived.Test.YtndhojnfjlkojaaE
import Derived.Test.YtndhojnfjlkojaaB
import Derived.Test.YtndhojnfjlkojaaBk
import Derived.Test.YtndhojnfjlkojaaNw
namespace Go.Proofs.Ytndhojnfjlkojaa
open Go.RowKit
set_option linter.unusedVariables false
set_option linter.unusedSimpArgs false
attribute [local go_sem] Oper.semAt_some
open Ty
/-- No type too great for a statement. -/
def small (t : Ty) : Prop := t.parts ≤ 400 ∧ t.depth ≤ 60
set_option maxRecDepth 20000 in
set_option maxHeartbeats 2000000 in
theorem vast_any (t : Ty) (A : Option Addr) (c : Nat) (w : World) (hT : Tb w.heap.size w t A c) :
    Calls Try.prog 8 #[t.val A c] w fun e w' => ∃ b, e = .returned (.bool b) ∧ (b = false → small t) ∧ Below w.heap.size w w' := by
  obtain ⟨tl, htl⟩ : ∃ tl, t.ks.length = tl := ⟨_, rfl⟩
  obtain ⟨w0, hw0⟩ : ∃ w0, w.alloc (.cells #[.int .u8 (t.k : Int), .string (str t.nm), .int .i64 t.n, .slice A tl c] 24) = w0 := ⟨_, rfl⟩
  have hb0 : Below w.heap.size w w0 := by rw [← hw0]; exact (Below.refl _ _).alloc (Nat.le_refl _) _
  have hT0 : Blk w0 w.heap.size 24 #[.int .u8 (t.k : Int), .string (str t.nm), .int .i64 t.n, .slice A tl c] := by rw [← hw0]; exact Blk.new _ _ _
  obtain ⟨w1, hw1⟩ : ∃ w1, w0.alloc (.cells #[.int .i64 0] 3) = w1 := ⟨_, rfl⟩
  have hb1 : Below w0.heap.size w0 w1 := by rw [← hw1]; exact (Below.refl _ _).alloc (Nat.le_refl _) _
  have hP1 : Blk w1 w0.heap.size 3 #[.int .i64 ((0 : Nat) : Int)] := by rw [← hw1]; exact Blk.new _ _ _
  have hT1 := hT0.below hb1 hT0.lt
  have hbw := hb0.trans (hb1.mono hb0.size)
  have HC := large_any (F := fun b => b < w.heap.size) (pb := w0.heap.size) (fun b hb => by have := hb0.size; omega) t A c 60 0 w1 (hT.bel hbw).at_ hT.len hT.cap (Nat.le_refl _) (by omega) hP1
  have d0 := hT1.cell 0
  have d1 := hT1.cell 1
  have d2 := hT1.cell 2
  have d3 := hT1.cell 3
  simp only [List.getElem?_toArray, List.getElem?_cons_zero, List.getElem?_cons_succ] at d0 d1 d2 d3
  unfold Ty.val at HC ⊢
  rw [htl] at HC ⊢
  replace HC := Lib.hid HC
  have HB := Lib.hid (And.intro hbw hb0.size)
  have HW1 := Lib.hid hw1
  clear hb0 hT0 hb1 hP1 hT1 hbw hT htl hw1
  go_enter Try.func8, Try.ntmps8
  go_upto_region 1 with fail
  (try rw [hw0])
  clear hw0
  go_upto_region 2 with fail
  (try rw [HW1.out])
  clear HW1
  go_wp2_with (go_at_call 28; refine HC.out.mono ?_; rintro e w2 ⟨b, m', rfl, hm, ho, _, hf⟩; have HR := Lib.hid (And.intro ho hf); clear hm ho hf)
  go_ret
  exact ⟨b, rfl, fun h => by have := HR.out.2 h; exact ⟨by omega, this.2.2.1⟩, HB.out.1.trans (HR.out.1.below HB.out.1.size (fun k e => by have := HB.out.2; omega))⟩
def depthT (t : Ty) : Nat := if t.right = true then t.depth else 0
set_option maxRecDepth 20000 in
set_option maxHeartbeats 2000000 in
theorem Depth_any {F : Nat → Prop} (t : Ty) (A : Option Addr) (c : Nat) (w : World) (hA : Ty.At F w A t.ks) (hc : t.ks.length ≤ c) (hm : c ≤ maxLen) (hd : t.depth ≤ 1000000) :
    Calls Try.prog 15 #[t.val A c] w fun e w' => e = .returned (.int .i64 (depthT t : Int)) ∧ Below w.heap.size w w' := by
  obtain ⟨tl, htl⟩ : ∃ tl, t.ks.length = tl := ⟨_, rfl⟩
  obtain ⟨w0, hw0⟩ : ∃ w0, w.alloc (.cells #[.int .u8 (t.k : Int), .string (str t.nm), .int .i64 t.n, .slice A tl c] 24) = w0 := ⟨_, rfl⟩
  have hb0 : Below w.heap.size w w0 := by rw [← hw0]; exact (Below.refl _ _).alloc (Nat.le_refl _) _
  have hT0 : Blk w0 w.heap.size 24 #[.int .u8 (t.k : Int), .string (str t.nm), .int .i64 t.n, .slice A tl c] := by rw [← hw0]; exact Blk.new _ _ _
  have HC := right_any t A c w0 (hA.bel hb0) hc hm
  have HD : ∀ W, Below w0.heap.size w0 W → Calls Try.prog 32 #[t.val A c] W fun e w' => e = .returned (.int .i64 (t.depth : Int)) ∧ Below W.heap.size W w' := fun W hW => depth_any t A c W ((hA.bel hb0).bel hW) hc hm hd
  have d0 := hT0.cell 0
  have d1 := hT0.cell 1
  have d2 := hT0.cell 2
  have d3 := hT0.cell 3
  simp only [List.getElem?_toArray, List.getElem?_cons_zero, List.getElem?_cons_succ] at d0 d1 d2 d3
  unfold Ty.val at HC HD ⊢
  rw [htl] at HC ⊢
  simp only [htl] at HD
  obtain ⟨dp, hdp⟩ : ∃ dp, t.depth = dp := ⟨_, rfl⟩
  obtain ⟨rt, hrt⟩ : ∃ rt, t.right = rt := ⟨_, rfl⟩
  rw [hrt] at HC
  rw [hdp] at HD
  have HV : Hid (depthT t = if rt = true then dp else 0) := Lib.hid (by unfold depthT; rw [hrt, hdp])
  replace HC := Lib.hid HC
  replace HD := Lib.hid HD
  have HB := Lib.hid (And.intro hb0 hT0)
  clear hb0 hT0 hA htl hdp hrt hd
  go_enter Try.func15, Try.ntmps15
  go_upto_region 1 with fail
  (try rw [hw0])
  clear hw0
  cases rt with
  | false =>
    go_wp2_with (go_at_call 11; refine HC.out.mono ?_; rintro e w2 ⟨rfl, hb2⟩; have HB2 := Lib.hid hb2; clear hb2)
    go_ret
    exact ⟨by rw [HV.out]; rfl, HB.out.1.trans (HB2.out.mono HB.out.1.size)⟩
  | true =>
    go_wp2_with (first | (go_at_call 11; refine HC.out.mono ?_; rintro e w2 ⟨rfl, hb2⟩; have hT2 := HB.out.2.below hb2 HB.out.2.lt; have HB2 := Lib.hid hb2; clear hb2 d0 d1 d2 d3; have d0 := hT2.cell 0; have d1 := hT2.cell 1; have d2 := hT2.cell 2; have d3 := hT2.cell 3; simp only [List.getElem?_toArray, List.getElem?_cons_zero, List.getElem?_cons_succ] at d0 d1 d2 d3; clear hT2) | (go_at_call 32; refine (HD.out _ HB2.out).mono ?_; rintro e w3 ⟨rfl, hb3⟩; have HB3 := Lib.hid (HB2.out.trans (hb3.mono HB2.out.size)); clear hb3))
    go_ret
    exact ⟨by rw [HV.out]; rfl, HB.out.1.trans (HB3.out.mono HB.out.1.size)⟩
set_option maxRecDepth 20000 in
set_option maxHeartbeats 2000000 in
theorem rDepth_any {F : Nat → Prop} (t : Ty) (A : Option Addr) (c : Nat) (w : World) (hA : Ty.At F w A t.ks) (hc : t.ks.length ≤ c) (hm : c ≤ maxLen) (hd : t.depth ≤ 1000000) :
    Calls Try.prog 16 #[t.val A c] w fun e w' => e = .returned (.int .i64 (depthT t : Int)) ∧ Below w.heap.size w w' := by
  obtain ⟨tl, htl⟩ : ∃ tl, t.ks.length = tl := ⟨_, rfl⟩
  obtain ⟨w0, hw0⟩ : ∃ w0, w.alloc (.cells #[.int .u8 (t.k : Int), .string (str t.nm), .int .i64 t.n, .slice A tl c] 24) = w0 := ⟨_, rfl⟩
  have hb0 : Below w.heap.size w w0 := by rw [← hw0]; exact (Below.refl _ _).alloc (Nat.le_refl _) _
  have hT0 : Blk w0 w.heap.size 24 #[.int .u8 (t.k : Int), .string (str t.nm), .int .i64 t.n, .slice A tl c] := by rw [← hw0]; exact Blk.new _ _ _
  have HC := rright_any t A c w0 (hA.bel hb0) hc hm
  have HD : ∀ W, Below w0.heap.size w0 W → Calls Try.prog 33 #[t.val A c] W fun e w' => e = .returned (.int .i64 (t.depth : Int)) ∧ Below W.heap.size W w' := fun W hW => rdeep_any t A c W ((hA.bel hb0).bel hW) hc hm hd
  have d0 := hT0.cell 0
  have d1 := hT0.cell 1
  have d2 := hT0.cell 2
  have d3 := hT0.cell 3
  simp only [List.getElem?_toArray, List.getElem?_cons_zero, List.getElem?_cons_succ] at d0 d1 d2 d3
  unfold Ty.val at HC HD ⊢
  rw [htl] at HC ⊢
  simp only [htl] at HD
  obtain ⟨dp, hdp⟩ : ∃ dp, t.depth = dp := ⟨_, rfl⟩
  obtain ⟨rt, hrt⟩ : ∃ rt, t.right = rt := ⟨_, rfl⟩
  rw [hrt] at HC
  rw [hdp] at HD
  have HV : Hid (depthT t = if rt = true then dp else 0) := Lib.hid (by unfold depthT; rw [hrt, hdp])
  replace HC := Lib.hid HC
  replace HD := Lib.hid HD
  have HB := Lib.hid (And.intro hb0 hT0)
  clear hb0 hT0 hA htl hdp hrt hd
  go_enter Try.func16, Try.ntmps16
  go_upto_region 1 with fail
  (try rw [hw0])
  clear hw0
  cases rt with
  | false =>
    go_wp2_with (go_at_call 12; refine HC.out.mono ?_; rintro e w2 ⟨rfl, hb2⟩; have HB2 := Lib.hid hb2; clear hb2)
    go_ret
    exact ⟨by rw [HV.out]; rfl, HB.out.1.trans (HB2.out.mono HB.out.1.size)⟩
  | true =>
    go_wp2_with (first | (go_at_call 12; refine HC.out.mono ?_; rintro e w2 ⟨rfl, hb2⟩; have hT2 := HB.out.2.below hb2 HB.out.2.lt; have HB2 := Lib.hid hb2; clear hb2 d0 d1 d2 d3; have d0 := hT2.cell 0; have d1 := hT2.cell 1; have d2 := hT2.cell 2; have d3 := hT2.cell 3; simp only [List.getElem?_toArray, List.getElem?_cons_zero, List.getElem?_cons_succ] at d0 d1 d2 d3; clear hT2) | (go_at_call 33; refine (HD.out _ HB2.out).mono ?_; rintro e w3 ⟨rfl, hb3⟩; have HB3 := Lib.hid (HB2.out.trans (hb3.mono HB2.out.size)); clear hb3))
    go_ret
    exact ⟨by rw [HV.out]; rfl, HB.out.1.trans (HB3.out.mono HB.out.1.size)⟩
theorem tagg (t : Ty) (A : Option Addr) (c : Nat) : t.val A c = .agg #[.int .u8 (t.k : Int), .string (str t.nm), .int .i64 t.n, .slice A t.ks.length c] := rfl
set_option maxRecDepth 20000 in
set_option maxHeartbeats 2000000 in
theorem fresh_nil (w : World) : Calls Try.prog 27 #[.pointer none] w fun e w' => e = .returned (.agg #[.int .u8 0, .string ⟨#[]⟩, .int .i64 0, .slice none 0 0]) ∧ Below w.heap.size w w' := by
  obtain ⟨w0, hw0⟩ : ∃ w0, w.alloc (.cells #[.int .u8 0, .string ⟨#[]⟩, .int .i64 0, .slice none 0 0] 24) = w0 := ⟨_, rfl⟩
  have hb0 : Below w.heap.size w w0 := by rw [← hw0]; exact (Below.refl _ _).alloc (Nat.le_refl _) _
  have hR0 : Blk w0 w.heap.size 24 #[.int .u8 0, .string ⟨#[]⟩, .int .i64 0, .slice none 0 0] := by rw [← hw0]; exact Blk.new _ _ _
  have r0 := hR0.cell 0
  have r1 := hR0.cell 1
  have r2 := hR0.cell 2
  have r3 := hR0.cell 3
  simp only [List.getElem?_toArray, List.getElem?_cons_zero, List.getElem?_cons_succ] at r0 r1 r2 r3
  have rf := hR0.frozen
  have HB := Lib.hid (And.intro hR0 hb0)
  have HW0 := Lib.hid hw0
  clear hb0 hR0 hw0
  go_enter Try.func27, Try.ntmps27
  go_upto_region 1 with fail
  rw [HW0.out]
  go_wp2_with fail
  refine bodyPost_ret (results_cell_row rfl _ _ w.heap.size 24 _ (0, 0) _ rfl (HB.out.1.set4 (.int .u8 0) (.string ⟨#[]⟩) (.int .i64 0) (.slice none 0 0)) Try.underlying24 rfl (by kernel_rfl)) rfl ?_
  exact ⟨rfl, HB.out.2.trans ((off4 w0 w.heap.size (.int .u8 0) (.string ⟨#[]⟩) (.int .i64 0) (.slice none 0 0)).below HB.out.2.size (fun g e => by omega))⟩
set_option maxRecDepth 20000 in
set_option maxHeartbeats 2000000 in
theorem apply_nil (k : Nat) (s : ByteArray) (n : Int) (A : Option Addr) (l c : Nat) (w : World) : Calls Try.prog 22 #[.pointer none, .agg #[.int .u8 (k : Int), .string s, .int .i64 n, .slice A l c]] w fun e w' => e = .returned (.agg #[.int .u8 0, .string ⟨#[]⟩, .int .i64 0, .slice none 0 0]) ∧ Below w.heap.size w w' := by
  obtain ⟨w0, hw0⟩ : ∃ w0, (w.alloc (.cells #[.int .u8 (k : Int), .string s, .int .i64 n, .slice A l c] 24)).alloc (.cells #[.int .u8 0, .string ⟨#[]⟩, .int .i64 0, .slice none 0 0] 24) = w0 := ⟨_, rfl⟩
  have hb0 : Below w.heap.size w w0 := by rw [← hw0]; exact ((Below.refl _ _).alloc (Nat.le_refl _) _).alloc (by simp) _
  have hR0 : Blk w0 (w.heap.size + 1) 24 #[.int .u8 0, .string ⟨#[]⟩, .int .i64 0, .slice none 0 0] := by
    have := Blk.new (w.alloc (.cells #[.int .u8 (k : Int), .string s, .int .i64 n, .slice A l c] 24)) 24 #[.int .u8 0, .string ⟨#[]⟩, .int .i64 0, .slice none 0 0]
    rw [World.size_alloc] at this
    rw [← hw0]; exact this
  have r0 := hR0.cell 0
  have r1 := hR0.cell 1
  have r2 := hR0.cell 2
  have r3 := hR0.cell 3
  simp only [List.getElem?_toArray, List.getElem?_cons_zero, List.getElem?_cons_succ] at r0 r1 r2 r3
  have rf := hR0.frozen
  have HB := Lib.hid (And.intro hR0 hb0)
  have HW0 := Lib.hid hw0
  clear hb0 hR0 hw0
  go_enter Try.func22, Try.ntmps22
  go_upto_region 1 with fail
  rw [HW0.out]
  go_wp2_with fail
  refine bodyPost_ret (results_cell_row rfl _ _ (w.heap.size + 1) 24 _ (0, 0) _ rfl (HB.out.1.set4 (.int .u8 0) (.string ⟨#[]⟩) (.int .i64 0) (.slice none 0 0)) Try.underlying24 rfl (by kernel_rfl)) rfl ?_
  exact ⟨rfl, HB.out.2.trans ((off4 w0 (w.heap.size + 1) (.int .u8 0) (.string ⟨#[]⟩) (.int .i64 0) (.slice none 0 0)).below HB.out.2.size (fun g e => by omega))⟩
set_option maxRecDepth 20000 in
set_option maxHeartbeats 2000000 in
theorem unify_nil (k : Nat) (s : ByteArray) (n : Int) (A : Option Addr) (l c : Nat) (k' : Nat) (s' : ByteArray) (n' : Int) (A' : Option Addr) (l' c' : Nat) (w : World) : Calls Try.prog 20 #[.pointer none, .agg #[.int .u8 (k : Int), .string s, .int .i64 n, .slice A l c], .agg #[.int .u8 (k' : Int), .string s', .int .i64 n', .slice A' l' c']] w fun e w' => e = .returned (.int .i64 2) ∧ Below w.heap.size w w' := by
  obtain ⟨w0, hw0⟩ : ∃ w0, (w.alloc (.cells #[.int .u8 (k : Int), .string s, .int .i64 n, .slice A l c] 24)).alloc (.cells #[.int .u8 (k' : Int), .string s', .int .i64 n', .slice A' l' c'] 24) = w0 := ⟨_, rfl⟩
  have hb0 : Below w.heap.size w w0 := by rw [← hw0]; exact ((Below.refl _ _).alloc (Nat.le_refl _) _).alloc (by simp) _
  have HB := Lib.hid hb0
  clear hb0
  go_enter Try.func20, Try.ntmps20
  go_upto_region 1 with fail
  (try rw [hw0])
  clear hw0
  go_wp2_with fail
  go_ret
  exact ⟨rfl, HB.out⟩
set_option maxRecDepth 20000 in
set_option maxHeartbeats 2000000 in
theorem free_nil (k : Nat) (s : ByteArray) (n : Int) (A : Option Addr) (l c : Nat) (w : World) : Calls Try.prog 24 #[.pointer none, .agg #[.int .u8 (k : Int), .string s, .int .i64 n, .slice A l c]] w fun e w' => e = .returned (.slice none 0 0) ∧ Below w.heap.size w w' := by
  obtain ⟨w0, hw0⟩ : ∃ w0, w.alloc (.cells #[.int .u8 (k : Int), .string s, .int .i64 n, .slice A l c] 24) = w0 := ⟨_, rfl⟩
  have hb0 : Below w.heap.size w w0 := by rw [← hw0]; exact (Below.refl _ _).alloc (Nat.le_refl _) _
  have HB := Lib.hid hb0
  clear hb0
  go_enter Try.func24, Try.ntmps24
  go_upto_region 1 with fail
  (try rw [hw0])
  clear hw0
  go_wp2_with fail
  go_ret
  exact ⟨rfl, HB.out⟩
end Go.Proofs.Ytndhojnfjlkojaa
