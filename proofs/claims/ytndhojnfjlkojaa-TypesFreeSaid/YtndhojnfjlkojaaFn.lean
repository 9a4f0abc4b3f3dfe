/- types: the reference's New, Fresh, Var, Con, Fun; books. -/
import Derived.Test.YtndhojnfjlkojaaNw
namespace Go.Proofs.Ytndhojnfjlkojaa
open Go.RowKit
set_option linter.unusedVariables false
set_option linter.unusedSimpArgs false
attribute [local go_sem] Oper.semAt_some
open Ty
set_option maxRecDepth 20000 in
set_option maxHeartbeats 2000000 in
theorem rnew_any (w : World) : Calls Try.prog 38 #[] w fun e w' => e = .returned (.pointer (some ⟨w.heap.size, 0, none⟩)) ∧ Blk w' w.heap.size 71 #[.int .i64 0, .slice none 0 0] ∧ Below w.heap.size w w' := by
  obtain ⟨w1, hw1⟩ : ∃ w1, w.alloc (.cells #[.int .i64 0, .slice none 0 0] 71) = w1 := ⟨_, rfl⟩
  have hb : Below w.heap.size w w1 := by rw [← hw1]; exact (Below.refl _ _).alloc (Nat.le_refl _) _
  have hB : Blk w1 w.heap.size 71 #[.int .i64 0, .slice none 0 0] := by rw [← hw1]; exact Blk.new _ _ _
  have HB := Lib.hid (And.intro hB hb)
  clear hb hB
  go_enter Try.func38, Try.ntmps38
  go_wp2_with fail
  (try rw [hw1])
  go_ret
  exact ⟨rfl, HB.out⟩
set_option maxRecDepth 20000 in
set_option maxHeartbeats 2000000 in
theorem rvar_any (n : Int) (w : World) : Calls Try.prog 23 #[.int .i64 n] w fun e w' => e = .returned (.agg #[.int .u8 1, .string ⟨#[]⟩, .int .i64 n, .slice none 0 0]) ∧ Below w.heap.size w w' := by
  obtain ⟨w0, hw0⟩ : ∃ w0, w.alloc (.cells #[.int .u8 0, .string ⟨#[]⟩, .int .i64 0, .slice none 0 0] 24) = w0 := ⟨_, rfl⟩
  have hb0 : Below w.heap.size w w0 := by rw [← hw0]; exact (Below.refl _ _).alloc (Nat.le_refl _) _
  have hR0 : Blk w0 w.heap.size 24 #[.int .u8 0, .string ⟨#[]⟩, .int .i64 0, .slice none 0 0] := by rw [← hw0]; exact Blk.new _ _ _
  have r0 := hR0.cell 0
  have r1 := hR0.cell 1
  have r2 := hR0.cell 2
  have r3 := hR0.cell 3
  simp only [List.getElem?_toArray, List.getElem?_cons_zero, List.getElem?_cons_succ] at r0 r1 r2 r3
  have rf := hR0.frozen
  have HB := Lib.hid (And.intro hR0 hb0)
  have HW0 := Lib.hid hw0
  clear hb0 hR0 hw0
  go_enter Try.func23, Try.ntmps23
  go_upto_region 1 with fail
  rw [HW0.out]
  go_wp2_with fail
  refine bodyPost_ret (results_cell_row rfl _ _ w.heap.size 24 _ (0, 0) _ rfl (HB.out.1.set4 (.int .u8 1) (.string ⟨#[]⟩) (.int .i64 n) (.slice none 0 0)) Try.underlying24 rfl (by kernel_rfl)) rfl ?_
  exact ⟨rfl, HB.out.2.trans ((off4 w0 w.heap.size (.int .u8 1) (.string ⟨#[]⟩) (.int .i64 n) (.slice none 0 0)).below HB.out.2.size (fun g e => by omega))⟩
set_option maxRecDepth 20000 in
set_option maxHeartbeats 2000000 in
theorem rcon_any (s : ByteArray) (A : Option Addr) (n c : Nat) (w : World) : Calls Try.prog 30 #[.string s, .slice A n c] w fun e w' => e = .returned (.agg #[.int .u8 2, .string s, .int .i64 0, .slice A n c]) ∧ Below w.heap.size w w' := by
  obtain ⟨w0, hw0⟩ : ∃ w0, w.alloc (.cells #[.int .u8 0, .string ⟨#[]⟩, .int .i64 0, .slice none 0 0] 24) = w0 := ⟨_, rfl⟩
  have hb0 : Below w.heap.size w w0 := by rw [← hw0]; exact (Below.refl _ _).alloc (Nat.le_refl _) _
  have hR0 : Blk w0 w.heap.size 24 #[.int .u8 0, .string ⟨#[]⟩, .int .i64 0, .slice none 0 0] := by rw [← hw0]; exact Blk.new _ _ _
  have r0 := hR0.cell 0
  have r1 := hR0.cell 1
  have r2 := hR0.cell 2
  have r3 := hR0.cell 3
  simp only [List.getElem?_toArray, List.getElem?_cons_zero, List.getElem?_cons_succ] at r0 r1 r2 r3
  have rf := hR0.frozen
  have HB := Lib.hid (And.intro hR0 hb0)
  have HW0 := Lib.hid hw0
  clear hb0 hR0 hw0
  go_enter Try.func30, Try.ntmps30
  go_upto_region 1 with fail
  rw [HW0.out]
  go_wp2_with fail
  refine bodyPost_ret (results_cell_row rfl _ _ w.heap.size 24 _ (0, 0) _ rfl (HB.out.1.set4 (.int .u8 2) (.string s) (.int .i64 0) (.slice A n c)) Try.underlying24 rfl (by kernel_rfl)) rfl ?_
  exact ⟨rfl, HB.out.2.trans ((off4 w0 w.heap.size (.int .u8 2) (.string s) (.int .i64 0) (.slice A n c)).below HB.out.2.size (fun g e => by omega))⟩
/-- A row of two types. -/
theorem two_at {F : Nat → Prop} {w : World} {b : Nat} {x y : Ty} {A B : Option Addr} {c d : Nat} (hb : Blk w b 24 #[.int .u8 (x.k : Int), .string (str x.nm), .int .i64 x.n, .slice A x.ks.length c, .int .u8 (y.k : Int), .string (str y.nm), .int .i64 y.n, .slice B y.ks.length d]) (hF : F b)
    (hx : Te.in_ F w ⟨x, A, c⟩) (hy : Te.in_ F w ⟨y, B, d⟩) : Ty.At F w (some ⟨b, 0, none⟩) [x, y] := by
  refine .mk b 0 [x, y] (fun r => if r = 0 then A else B) (fun r => if r = 0 then c else d) hF hb.lt (fun r t ht => ?_) fun r t ht => ?_
  · match r with
    | 0 =>
      cases ht
      refine ⟨fun j v hj => ?_, hx.2.1, hx.2.2.1, hx.2.2.2⟩
      rw [hb.cell]
      match j with
      | 0 => exact hj
      | 1 => exact hj
      | 2 => exact hj
      | 3 => exact hj
      | j + 4 => cases hj
    | 1 =>
      cases ht
      refine ⟨fun j v hj => ?_, hy.2.1, hy.2.2.1, hy.2.2.2⟩
      rw [hb.cell]
      match j with
      | 0 => exact hj
      | 1 => exact hj
      | 2 => exact hj
      | 3 => exact hj
      | j + 4 => cases hj
    | r + 2 => cases ht
  · match r with
    | 0 => cases ht; exact hx.1
    | 1 => cases ht; exact hy.1
    | r + 2 => cases ht
theorem one_at {F : Nat → Prop} {w : World} {b : Nat} {x : Ty} {A : Option Addr} {c : Nat} (hb : Blk w b 24 #[.int .u8 (x.k : Int), .string (str x.nm), .int .i64 x.n, .slice A x.ks.length c]) (hF : F b)
    (hx : Te.in_ F w ⟨x, A, c⟩) : Ty.At F w (some ⟨b, 0, none⟩) [x] := by
  refine .mk b 0 [x] (fun r => A) (fun r => c) hF hb.lt (fun r t ht => ?_) fun r t ht => ?_
  · match r with
    | 0 =>
      cases ht
      refine ⟨fun j v hj => ?_, hx.2.1, hx.2.2.1, hx.2.2.2⟩
      rw [hb.cell]
      match j with
      | 0 => exact hj
      | 1 => exact hj
      | 2 => exact hj
      | 3 => exact hj
      | j + 4 => cases hj
    | r + 1 => cases ht
  · match r with
    | 0 => cases ht; exact hx.1
    | r + 1 => cases ht
/-- From, to. -/
def tfun (x y : Ty) : Ty := .node 3 [] 0 [x, y]
set_option maxRecDepth 20000 in
set_option maxHeartbeats 4000000 in
theorem rfun_any {F : Nat → Prop} (x y : Ty) (A B : Option Addr) (c d : Nat) (w : World) (hx : Te.in_ F w ⟨x, A, c⟩) (hy : Te.in_ F w ⟨y, B, d⟩) : Calls Try.prog 31 #[x.val A c, y.val B d] w fun e w' => ∃ A' c', e = .returned ((tfun x y).val A' c') ∧ Te.in_ (fun b => F b ∨ (w.heap.size ≤ b ∧ b < w'.heap.size)) w' ⟨tfun x y, A', c'⟩ ∧ Below w.heap.size w w' := by
  obtain ⟨xl, hxl⟩ : ∃ xl, x.ks.length = xl := ⟨_, rfl⟩
  obtain ⟨yl, hyl⟩ : ∃ yl, y.ks.length = yl := ⟨_, rfl⟩
  obtain ⟨w0, hw0⟩ : ∃ w0, ((w.alloc (.cells #[.int .u8 (x.k : Int), .string (str x.nm), .int .i64 x.n, .slice A xl c] 24)).alloc (.cells #[.int .u8 (y.k : Int), .string (str y.nm), .int .i64 y.n, .slice B yl d] 24)).alloc (.cells #[.int .u8 0, .string ⟨#[]⟩, .int .i64 0, .slice none 0 0] 24) = w0 := ⟨_, rfl⟩
  have hb0 : Below w.heap.size w w0 := by rw [← hw0]; exact (((Below.refl _ _).alloc (Nat.le_refl _) _).alloc (by simp) _).alloc (by simp; omega) _
  have hX0 : Blk w0 w.heap.size 24 #[.int .u8 (x.k : Int), .string (str x.nm), .int .i64 x.n, .slice A xl c] := by rw [← hw0]; exact ((Blk.new _ _ _).alloc _).alloc _
  have hY0 : Blk w0 (w.heap.size + 1) 24 #[.int .u8 (y.k : Int), .string (str y.nm), .int .i64 y.n, .slice B yl d] := by
    have := Blk.new (w.alloc (.cells #[.int .u8 (x.k : Int), .string (str x.nm), .int .i64 x.n, .slice A xl c] 24)) 24 #[.int .u8 (y.k : Int), .string (str y.nm), .int .i64 y.n, .slice B yl d]
    rw [World.size_alloc] at this
    rw [← hw0]; exact this.alloc _
  have hR0 : Blk w0 (w.heap.size + 1 + 1) 24 #[.int .u8 0, .string ⟨#[]⟩, .int .i64 0, .slice none 0 0] := by
    have := Blk.new ((w.alloc (.cells #[.int .u8 (x.k : Int), .string (str x.nm), .int .i64 x.n, .slice A xl c] 24)).alloc (.cells #[.int .u8 (y.k : Int), .string (str y.nm), .int .i64 y.n, .slice B yl d] 24)) 24 #[.int .u8 0, .string ⟨#[]⟩, .int .i64 0, .slice none 0 0]
    rw [World.size_alloc, World.size_alloc] at this
    rw [← hw0]; exact this
  have d0 := hX0.cell 0
  have d1 := hX0.cell 1
  have d2 := hX0.cell 2
  have d3 := hX0.cell 3
  have g0 := hY0.cell 0
  have g1 := hY0.cell 1
  have g2 := hY0.cell 2
  have g3 := hY0.cell 3
  simp only [List.getElem?_toArray, List.getElem?_cons_zero, List.getElem?_cons_succ] at d0 d1 d2 d3 g0 g1 g2 g3
  obtain ⟨w1, hw1⟩ : ∃ w1, w0.alloc (.cells #[.int .u8 (x.k : Int), .string (str x.nm), .int .i64 x.n, .slice A xl c, .int .u8 (y.k : Int), .string (str y.nm), .int .i64 y.n, .slice B yl d] 24) = w1 := ⟨_, rfl⟩
  have hb1 : Below w0.heap.size w0 w1 := by rw [← hw1]; exact (Below.refl _ _).alloc (Nat.le_refl _) _
  have hK1 : Blk w1 w0.heap.size 24 #[.int .u8 (x.k : Int), .string (str x.nm), .int .i64 x.n, .slice A xl c, .int .u8 (y.k : Int), .string (str y.nm), .int .i64 y.n, .slice B yl d] := by rw [← hw1]; exact Blk.new _ _ _
  have hR1 := hR0.below hb1 hR0.lt
  have r0 := hR1.cell 0
  have r1 := hR1.cell 1
  have r2 := hR1.cell 2
  have r3 := hR1.cell 3
  simp only [List.getElem?_toArray, List.getElem?_cons_zero, List.getElem?_cons_succ] at r0 r1 r2 r3
  have rf := hR1.frozen
  have hR2 := hR1.set4 (.int .u8 3) (.string ⟨#[]⟩) (.int .i64 0) (.slice (some ⟨w0.heap.size, 0, none⟩) 2 2)
  have ho2 := off4 w1 (w.heap.size + 1 + 1) (.int .u8 3) (.string ⟨#[]⟩) (.int .i64 0) (.slice (some ⟨w0.heap.size, 0, none⟩) 2 2)
  have hRl := hR0.lt
  have hK2 := hK1.off ho2 (by omega)
  have hbw := hb0.trans (hb1.mono hb0.size)
  have hbf := hbw.trans (ho2.below hbw.size (fun g e => by omega))
  have HX := Lib.hid (And.intro hR2 (And.intro hK2 (And.intro hbf (And.intro hx (And.intro hy (And.intro hxl (And.intro hyl (And.intro hb0 hb1))))))))
  have HW0 := Lib.hid hw0
  unfold Ty.val
  rw [hxl, hyl]
  clear hb0 hX0 hY0 hR0 hb1 hK1 hR1 hR2 ho2 hRl hK2 hbw hbf hx hy hxl hyl hw0
  go_enter Try.func31, Try.ntmps31
  go_upto_region 1 with fail
  rw [HW0.out]
  go_wp2_with fail
  refine bodyPost_ret (results_cell_row rfl _ _ (w.heap.size + 1 + 1) 24 _ (0, 0) _ rfl HX.out.1 Try.underlying24 rfl (by kernel_rfl)) rfl ?_
  have k1 := HX.out.2.1
  have k2 := HX.out.2.2.1
  refine ⟨some ⟨w0.heap.size, 0, none⟩, 2, rfl, ⟨?_, ⟨(by show (3 : Nat) < 256; omega), (by show (-9223372036854775808 : Int) ≤ 0; omega), (by show (0 : Int) < 9223372036854775808; omega)⟩, Nat.le_refl _, (by show 2 ≤ maxLen; unfold maxLen; omega)⟩, k2⟩
  rw [← HX.out.2.2.2.2.2.1, ← HX.out.2.2.2.2.2.2.1] at k1
  exact two_at k1 (.inr ⟨HX.out.2.2.2.2.2.2.2.1.size, k1.lt⟩) ⟨(HX.out.2.2.2.1.1.bel k2).mono fun b h => .inl h, HX.out.2.2.2.1.2⟩ ⟨(HX.out.2.2.2.2.1.1.bel k2).mono fun b h => .inl h, HX.out.2.2.2.2.1.2⟩
set_option maxRecDepth 20000 in
set_option maxHeartbeats 2000000 in
theorem rfresh_any {r n : Nat} (w : World) (hB : Blk w r 71 #[.int .i64 (n : Int), .slice none 0 0]) (hn : n ≤ 100000) : Calls Try.prog 39 #[.pointer (some ⟨r, 0, none⟩)] w fun e w' => (∃ v, e = .returned v) ∧ Blk w' r 71 #[.int .i64 ((n + 1 : Nat) : Int), .slice none 0 0] ∧ Off (fun b => b = r) w w' := by
  obtain ⟨w0, hw0⟩ : ∃ w0, w.alloc (.cells #[.int .u8 0, .string ⟨#[]⟩, .int .i64 0, .slice none 0 0] 24) = w0 := ⟨_, rfl⟩
  have hb0 : Below w.heap.size w w0 := by rw [← hw0]; exact (Below.refl _ _).alloc (Nat.le_refl _) _
  have hR0 : Blk w0 w.heap.size 24 #[.int .u8 0, .string ⟨#[]⟩, .int .i64 0, .slice none 0 0] := by rw [← hw0]; exact Blk.new _ _ _
  have hB0 := hB.below hb0 hB.lt
  obtain ⟨q, hq⟩ : ∃ q, n + 1 = q := ⟨_, rfl⟩
  have hqi : (n : Int) + 1 = (q : Int) := by omega
  have hqj : (q : Int) - 1 = (n : Int) := by omega
  have hqb : q ≤ 100001 := by omega
  obtain ⟨w1, hw1⟩ : ∃ w1, w0.setCell ⟨r, 0, none⟩ (.int .i64 (q : Int)) = w1 := ⟨_, rfl⟩
  have hB1 : Blk w1 r 71 #[.int .i64 (q : Int), .slice none 0 0] := by
    have := hB0.set_ 0 (.int .i64 (q : Int))
    rw [hw1] at this
    simpa using this
  have ho1 : Off (fun b => b = r) w0 w1 := by rw [← hw1]; exact Off.setc _ _ _ _
  have hR1 := hR0.off ho1 (fun e => by have := hB.lt; have : w.heap.size = r := e; omega)
  have HV := Lib.hid fun W => rvar_any (n : Int) W
  have b0 := hB0.cell 0
  have bf := hB0.frozen
  have c0 := hB1.cell 0
  simp only [List.getElem?_toArray, List.getElem?_cons_zero, List.getElem?_cons_succ] at b0 c0
  have HH := Lib.hid (And.intro hB1 (And.intro hR1 (And.intro ((Off.of_new hb0 _).trans ho1) (And.intro hB.lt (And.intro hb0 hq)))))
  have HW0 := Lib.hid hw0
  have HW1 := Lib.hid hw1
  clear hb0 hR0 hB0 hB1 ho1 hR1 hw0 hB hq
  go_enter Try.func39, Try.ntmps39
  go_upto_region 1 with fail
  rw [HW0.out]
  clear HW0
  go_upto_region 4 with fail
  (try rw [hqi])
  (try rw [HW1.out])
  clear HW1 b0 bf
  go_wp2_with (go_at_call 23; refine (HV.out _).mono ?_; rintro e w2 ⟨rfl, hb2⟩; have hR2 := HH.out.2.1.below hb2 HH.out.2.1.lt; have hB2 := HH.out.1.below hb2 HH.out.1.lt; have r0 := hR2.cell 0; have r1 := hR2.cell 1; have r2 := hR2.cell 2; have r3 := hR2.cell 3; have rf := hR2.frozen; simp only [List.getElem?_toArray, List.getElem?_cons_zero, List.getElem?_cons_succ] at r0 r1 r2 r3; have HB2 := Lib.hid (And.intro hR2 (And.intro hB2 hb2)); clear hR2 hB2 hb2)
  refine bodyPost_ret (results_cell_row rfl _ _ w.heap.size 24 _ (0, 0) _ rfl (HB2.out.1.set4 (.int .u8 1) (.string ⟨#[]⟩) (.int .i64 (n : Int)) (.slice none 0 0)) Try.underlying24 rfl (by kernel_rfl)) rfl ?_
  have ho4 := off4 w2 w.heap.size (.int .u8 1) (.string ⟨#[]⟩) (.int .i64 (n : Int)) (.slice none 0 0)
  have hrl := HH.out.2.2.2.1
  refine ⟨⟨_, rfl⟩, by rw [HH.out.2.2.2.2.2]; exact HB2.out.2.1.off ho4 (fun e => by have : r = w.heap.size := e; omega), ?_⟩
  exact (HH.out.2.2.1.trans (Off.of_new HB2.out.2.2 _)).then ho4 (fun j hj e => by omega)
end Go.Proofs.Ytndhojnfjlkojaa
