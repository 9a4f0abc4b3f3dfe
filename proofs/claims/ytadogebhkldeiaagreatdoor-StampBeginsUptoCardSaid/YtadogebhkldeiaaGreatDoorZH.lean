/- stamp, numbers too: the laws' helpers: named, list. -/
import Derived.Test.YtadogebhkldeiaaGreatDoorZG
namespace Go.Proofs.YtadogebhkldeiaaGreatDoor
open Go.RowKit Ty
set_option linter.unusedVariables false
set_option linter.unusedSimpArgs false
attribute [local go_sem] Oper.semAt_some
theorem Blk.set4 {w : World} {g : Nat} {t : TypeId} {a0 a1 a2 a3 : Value} (h : Blk w g t #[a0, a1, a2, a3]) (v0 v1 v2 v3 : Value) : Blk ((((w.setCell ⟨g, 0, none⟩ v0).setCell ⟨g, 1, none⟩ v1).setCell ⟨g, 2, none⟩ v2).setCell ⟨g, 3, none⟩ v3) g t #[v0, v1, v2, v3] := by
  have := (((h.set_ 0 v0).set_ 1 v1).set_ 2 v2).set_ 3 v3
  simpa using this
theorem off4 (w : World) (g : Nat) (v0 v1 v2 v3 : Value) : Off (fun k => k = g) w ((((w.setCell ⟨g, 0, none⟩ v0).setCell ⟨g, 1, none⟩ v1).setCell ⟨g, 2, none⟩ v2).setCell ⟨g, 3, none⟩ v3) :=
  (((Off.setc _ _ _ _).trans (Off.setc _ _ _ _)).trans (Off.setc _ _ _ _)).trans (Off.setc _ _ _ _)
set_option maxRecDepth 20000 in
set_option maxHeartbeats 2000000 in
theorem named_any (s : ByteArray) (A : Option Addr) (n c : Nat) (w : World) : Calls Tryz.prog 10 #[.string s, .slice A n c] w fun e w' => e = .returned (.agg #[.int .u8 2, .string s, .int .i64 0, .slice A n c]) ∧ Below w.heap.size w w' := by
  obtain ⟨w0, hw0⟩ : ∃ w0, w.alloc (.cells #[.int .u8 0, .string ⟨#[]⟩, .int .i64 0, .slice none 0 0] 24) = w0 := ⟨_, rfl⟩
  have hb0 : Below w.heap.size w w0 := by rw [← hw0]; exact (Below.refl _ _).alloc (Nat.le_refl _) _
  have hB0 : Blk w0 w.heap.size 24 #[.int .u8 0, .string ⟨#[]⟩, .int .i64 0, .slice none 0 0] := by rw [← hw0]; exact Blk.new _ _ _
  have r0 := hB0.cell 0
  have r1 := hB0.cell 1
  have r2 := hB0.cell 2
  have r3 := hB0.cell 3
  have rf := hB0.frozen
  simp only [List.getElem?_toArray, List.getElem?_cons_zero, List.getElem?_cons_succ] at r0 r1 r2 r3
  have HB := Lib.hid (And.intro hB0 hb0)
  have HW := Lib.hid hw0
  clear hb0 hB0 hw0
  go_enter Tryz.func10, Tryz.ntmps10
  go_upto_region 1 with fail
  (try rw [HW.out])
  clear HW
  go_wp2_with fail
  refine bodyPost_ret (results_cell_row rfl _ _ w.heap.size 24 _ (0, 0) _ rfl (HB.out.1.set4 (.int .u8 2) (.string s) (.int .i64 0) (.slice A n c)) Tryz.underlying24 rfl (by kernel_rfl)) rfl ?_
  exact ⟨rfl, HB.out.2.trans (Off.below (off4 _ w.heap.size (.int .u8 2) (.string s) (.int .i64 0) (.slice A n c)) HB.out.2.size (fun g e => by omega))⟩
def tyA : Ty := .node 1 [39, 97] 0 []
def tyL : Ty := .node 2 [108, 105, 115, 116] 0 [tyA]
def tyN : Ty := .node 0 [] 0 []
def tyC : Ty := .node 4 [] 0 [tyA, tyL]
/-- The datatype that everybody knows. -/
def listDc (vA cA : Option Addr) : Dc := ⟨1, [108, 105, 115, 116], [[39, 97]], [⟨[78, 105, 108], false, tyN⟩, ⟨[67, 111, 110, 115], true, tyC⟩], vA, 1, cA, 2, zRst⟩
theorem ok_A : tyA.ok := ⟨by decide, by decide, by decide⟩
theorem ok_L : tyL.ok := ⟨by decide, by decide, by decide⟩
theorem ok_N : tyN.ok := ⟨by decide, by decide, by decide⟩
theorem ok_C : tyC.ok := ⟨by decide, by decide, by decide⟩
theorem listK {z : World} {nV nK nP nC : Nat} (hV : Blk z nV 9 #[.string ⟨#[39, 97]⟩]) (hK : Blk z nK 24 #[.int .u8 1, .string ⟨#[39, 97]⟩, .int .i64 0, .slice none 0 0]) (hP : Blk z nP 24 #[.int .u8 1, .string ⟨#[39, 97]⟩, .int .i64 0, .slice none 0 0, .int .u8 2, .string ⟨#[108, 105, 115, 116]⟩, .int .i64 0, .slice (some ⟨nK, 0, none⟩) 1 1]) (hC : Blk z nC 44 #[.string ⟨#[78, 105, 108]⟩, .bool false, .int .u8 0, .string ⟨#[]⟩, .int .i64 0, .slice none 0 0, .string ⟨#[67, 111, 110, 115]⟩, .bool true, .int .u8 4, .string ⟨#[]⟩, .int .i64 0, .slice (some ⟨nP, 0, none⟩) 2 2]) :
    (listDc (some ⟨nV, 0, none⟩) (some ⟨nC, 0, none⟩)).K (fun k => k < z.heap.size) z := by
  have hA : (⟨tyA, none, 0⟩ : Te).in_ (fun k => k < z.heap.size) z := ⟨.nil _, ok_A, Nat.le_refl _, Nat.zero_le _⟩
  have h1 : Ty.At (fun k => k < z.heap.size) z (some ⟨nK, 0, none⟩) [tyA] := At_blk (es := [⟨tyA, none, 0⟩]) hK (fun i v hv => by rw [List.getElem?_toArray]; exact hv) (fun e he => by rw [List.mem_singleton.1 he]; exact hA) hK.lt
  have hL : (⟨tyL, some ⟨nK, 0, none⟩, 1⟩ : Te).in_ (fun k => k < z.heap.size) z := ⟨h1, ok_L, Nat.le_refl _, (by decide : 1 ≤ maxLen)⟩
  have h2 : Ty.At (fun k => k < z.heap.size) z (some ⟨nP, 0, none⟩) [tyA, tyL] := At_blk (es := [⟨tyA, none, 0⟩, ⟨tyL, some ⟨nK, 0, none⟩, 1⟩]) hP (fun i v hv => by rw [List.getElem?_toArray]; exact hv) (fun e he => by
    rcases List.mem_cons.1 he with rfl | he
    · exact hA
    · rw [List.mem_singleton.1 he]; exact hL) hP.lt
  refine ⟨fun r s hs => ⟨nV, 0, rfl, hV.lt, hV.lt, ?_⟩, fun r c hc => ?_⟩
  · have hs : [[39, 97]][r]? = some s := hs
    match r, hs with
    | 0, hs =>
      cases hs
      exact hV.cell 0
  · have hc : ([⟨[78, 105, 108], false, tyN⟩, ⟨[67, 111, 110, 115], true, tyC⟩] : List Cn)[r]? = some c := hc
    match r, hc with
    | 0, hc =>
      cases hc
      refine ⟨nC, 0, none, 0, rfl, hC.lt, hC.lt, fun j v hj => ?_, ⟨.nil _, ok_N, Nat.le_refl _, Nat.zero_le _⟩⟩
      have hj6 : j < 6 := (List.getElem?_eq_some_iff.1 hj).1
      rw [hC.cell]
      match j, hj6 with
      | 0, _ => exact hj
      | 1, _ => exact hj
      | 2, _ => exact hj
      | 3, _ => exact hj
      | 4, _ => exact hj
      | 5, _ => exact hj
    | 1, hc =>
      cases hc
      refine ⟨nC, 0, some ⟨nP, 0, none⟩, 2, rfl, hC.lt, hC.lt, fun j v hj => ?_, ⟨h2, ok_C, Nat.le_refl _, (by decide : 2 ≤ maxLen)⟩⟩
      have hj6 : j < 6 := (List.getElem?_eq_some_iff.1 hj).1
      rw [hC.cell]
      match j, hj6 with
      | 0, _ => exact hj
      | 1, _ => exact hj
      | 2, _ => exact hj
      | 3, _ => exact hj
      | 4, _ => exact hj
      | 5, _ => exact hj
theorem Blk.set16 {w : World} {g : Nat} {t : TypeId} {a0 a1 a2 a3 a4 a5 a6 a7 a8 a9 a10 a11 a12 a13 a14 a15 : Value} (h : Blk w g t #[a0, a1, a2, a3, a4, a5, a6, a7, a8, a9, a10, a11, a12, a13, a14, a15]) (b0 b1 b2 b3 b4 b5 b6 b7 b8 b9 b10 b11 b12 b13 b14 b15 : Value) : Blk ((((((((((((((((w.setCell ⟨g, 0, none⟩ (b0)).setCell ⟨g, 1, none⟩ (b1)).setCell ⟨g, 2, none⟩ (b2)).setCell ⟨g, 3, none⟩ (b3)).setCell ⟨g, 4, none⟩ (b4)).setCell ⟨g, 5, none⟩ (b5)).setCell ⟨g, 6, none⟩ (b6)).setCell ⟨g, 7, none⟩ (b7)).setCell ⟨g, 8, none⟩ (b8)).setCell ⟨g, 9, none⟩ (b9)).setCell ⟨g, 10, none⟩ (b10)).setCell ⟨g, 11, none⟩ (b11)).setCell ⟨g, 12, none⟩ (b12)).setCell ⟨g, 13, none⟩ (b13)).setCell ⟨g, 14, none⟩ (b14)).setCell ⟨g, 15, none⟩ (b15)) g t #[b0, b1, b2, b3, b4, b5, b6, b7, b8, b9, b10, b11, b12, b13, b14, b15] := by
  have := ((((((((((((((((h.set_ 0 b0).set_ 1 b1).set_ 2 b2).set_ 3 b3).set_ 4 b4).set_ 5 b5).set_ 6 b6).set_ 7 b7).set_ 8 b8).set_ 9 b9).set_ 10 b10).set_ 11 b11).set_ 12 b12).set_ 13 b13).set_ 14 b14).set_ 15 b15)
  simpa using this
theorem off16 (w : World) (g : Nat) (b0 b1 b2 b3 b4 b5 b6 b7 b8 b9 b10 b11 b12 b13 b14 b15 : Value) : Off (fun k => k = g) w ((((((((((((((((w.setCell ⟨g, 0, none⟩ (b0)).setCell ⟨g, 1, none⟩ (b1)).setCell ⟨g, 2, none⟩ (b2)).setCell ⟨g, 3, none⟩ (b3)).setCell ⟨g, 4, none⟩ (b4)).setCell ⟨g, 5, none⟩ (b5)).setCell ⟨g, 6, none⟩ (b6)).setCell ⟨g, 7, none⟩ (b7)).setCell ⟨g, 8, none⟩ (b8)).setCell ⟨g, 9, none⟩ (b9)).setCell ⟨g, 10, none⟩ (b10)).setCell ⟨g, 11, none⟩ (b11)).setCell ⟨g, 12, none⟩ (b12)).setCell ⟨g, 13, none⟩ (b13)).setCell ⟨g, 14, none⟩ (b14)).setCell ⟨g, 15, none⟩ (b15)) := ((((((((((((((((Off.setc _ _ _ _).trans (Off.setc _ _ _ _)).trans (Off.setc _ _ _ _)).trans (Off.setc _ _ _ _)).trans (Off.setc _ _ _ _)).trans (Off.setc _ _ _ _)).trans (Off.setc _ _ _ _)).trans (Off.setc _ _ _ _)).trans (Off.setc _ _ _ _)).trans (Off.setc _ _ _ _)).trans (Off.setc _ _ _ _)).trans (Off.setc _ _ _ _)).trans (Off.setc _ _ _ _)).trans (Off.setc _ _ _ _)).trans (Off.setc _ _ _ _)).trans (Off.setc _ _ _ _))
theorem list_end {a : World} {p0 nV nK nP nC : Nat} (h0 : Blk a p0 42 #[.int .u8 0, .string ⟨#[]⟩, .slice none 0 0, .slice none 0 0, .slice none 0 0, .int .u8 0, .string ⟨#[]⟩, .int .i64 0, .slice none 0 0, .int .u8 0, .string ⟨#[]⟩, .int .i64 0, .string ⟨#[]⟩, .slice none 0 0, .slice none 0 0, .slice none 0 0]) (hV : Blk a nV 9 #[.string ⟨#[39, 97]⟩]) (hK : Blk a nK 24 #[.int .u8 1, .string ⟨#[39, 97]⟩, .int .i64 0, .slice none 0 0]) (hP : Blk a nP 24 #[.int .u8 1, .string ⟨#[39, 97]⟩, .int .i64 0, .slice none 0 0, .int .u8 2, .string ⟨#[108, 105, 115, 116]⟩, .int .i64 0, .slice (some ⟨nK, 0, none⟩) 1 1]) (hC : Blk a nC 44 #[.string ⟨#[78, 105, 108]⟩, .bool false, .int .u8 0, .string ⟨#[]⟩, .int .i64 0, .slice none 0 0, .string ⟨#[67, 111, 110, 115]⟩, .bool true, .int .u8 4, .string ⟨#[]⟩, .int .i64 0, .slice (some ⟨nP, 0, none⟩) 2 2]) (n1 : nV ≠ p0) (n2 : nK ≠ p0) (n3 : nP ≠ p0) (n4 : nC ≠ p0) (z : World) (hz : (((((((((((((((a.setCell ⟨p0, 0, none⟩ (.int .u8 1)).setCell ⟨p0, 1, none⟩ (.string ⟨#[108, 105, 115, 116]⟩)).setCell ⟨p0, 2, none⟩ (.slice (some ⟨nV, 0, none⟩) 1 1)).setCell ⟨p0, 3, none⟩ (.slice (some ⟨nC, 0, none⟩) 2 2)).setCell ⟨p0, 4, none⟩ (.slice none 0 0)).setCell ⟨p0, 5, none⟩ (.int .u8 0)).setCell ⟨p0, 6, none⟩ (.string ⟨#[]⟩)).setCell ⟨p0, 7, none⟩ (.int .i64 0)).setCell ⟨p0, 8, none⟩ (.slice none 0 0)).setCell ⟨p0, 9, none⟩ (.int .u8 0)).setCell ⟨p0, 10, none⟩ (.string ⟨#[]⟩)).setCell ⟨p0, 11, none⟩ (.int .i64 0)).setCell ⟨p0, 12, none⟩ (.string ⟨#[]⟩)).setCell ⟨p0, 13, none⟩ (.slice none 0 0)).setCell ⟨p0, 14, none⟩ (.slice none 0 0)).setCell ⟨p0, 15, none⟩ (.slice none 0 0) = z) :
    Blk z p0 42 #[.int .u8 1, .string ⟨#[108, 105, 115, 116]⟩, .slice (some ⟨nV, 0, none⟩) 1 1, .slice (some ⟨nC, 0, none⟩) 2 2, .slice none 0 0, .int .u8 0, .string ⟨#[]⟩, .int .i64 0, .slice none 0 0, .int .u8 0, .string ⟨#[]⟩, .int .i64 0, .string ⟨#[]⟩, .slice none 0 0, .slice none 0 0, .slice none 0 0] ∧ (listDc (some ⟨nV, 0, none⟩) (some ⟨nC, 0, none⟩)).K (fun k => k < z.heap.size) z ∧ Off (fun k => k = p0) a z := by
  have h := h0.set16 (.int .u8 1) (.string ⟨#[108, 105, 115, 116]⟩) (.slice (some ⟨nV, 0, none⟩) 1 1) (.slice (some ⟨nC, 0, none⟩) 2 2) (.slice none 0 0) (.int .u8 0) (.string ⟨#[]⟩) (.int .i64 0) (.slice none 0 0) (.int .u8 0) (.string ⟨#[]⟩) (.int .i64 0) (.string ⟨#[]⟩) (.slice none 0 0) (.slice none 0 0) (.slice none 0 0)
  have ho := off16 a p0 (.int .u8 1) (.string ⟨#[108, 105, 115, 116]⟩) (.slice (some ⟨nV, 0, none⟩) 1 1) (.slice (some ⟨nC, 0, none⟩) 2 2) (.slice none 0 0) (.int .u8 0) (.string ⟨#[]⟩) (.int .i64 0) (.slice none 0 0) (.int .u8 0) (.string ⟨#[]⟩) (.int .i64 0) (.string ⟨#[]⟩) (.slice none 0 0) (.slice none 0 0) (.slice none 0 0)
  rw [hz] at h ho
  exact ⟨h, listK (hV.off ho n1) (hK.off ho n2) (hP.off ho n3) (hC.off ho n4), ho⟩
set_option maxRecDepth 100000 in
set_option maxHeartbeats 8000000 in
theorem list_any (w : World) : Calls Tryz.prog 11 #[] w fun e w' => (∃ vA cA, e = .returned (listDc vA cA).val ∧ (listDc vA cA).K (fun k => k < w'.heap.size) w') ∧ Below w.heap.size w w' := by
  obtain ⟨w0, hw0⟩ : ∃ w0, w.alloc (.cells #[.int .u8 0, .string ⟨#[]⟩, .slice none 0 0, .slice none 0 0, .slice none 0 0, .int .u8 0, .string ⟨#[]⟩, .int .i64 0, .slice none 0 0, .int .u8 0, .string ⟨#[]⟩, .int .i64 0, .string ⟨#[]⟩, .slice none 0 0, .slice none 0 0, .slice none 0 0] 42) = w0 := ⟨_, rfl⟩
  have hb0 : Below w.heap.size w w0 := by rw [← hw0]; exact (Below.refl _ _).alloc (Nat.le_refl _) _
  have hB0 : Blk w0 w.heap.size 42 #[.int .u8 0, .string ⟨#[]⟩, .slice none 0 0, .slice none 0 0, .slice none 0 0, .int .u8 0, .string ⟨#[]⟩, .int .i64 0, .slice none 0 0, .int .u8 0, .string ⟨#[]⟩, .int .i64 0, .string ⟨#[]⟩, .slice none 0 0, .slice none 0 0, .slice none 0 0] := by rw [← hw0]; exact Blk.new _ _ _
  obtain ⟨w1, hw1⟩ : ∃ w1, w0.alloc (.cells #[.int .u8 1, .string ⟨#[39, 97]⟩, .int .i64 0, .slice none 0 0] 24) = w1 := ⟨_, rfl⟩
  have hb1 : Below w0.heap.size w0 w1 := by rw [← hw1]; exact (Below.refl _ _).alloc (Nat.le_refl _) _
  have hB1 : Blk w1 w0.heap.size 24 #[.int .u8 1, .string ⟨#[39, 97]⟩, .int .i64 0, .slice none 0 0] := by rw [← hw1]; exact Blk.new _ _ _
  obtain ⟨p0, hp0⟩ : ∃ p, w.heap.size = p := ⟨_, rfl⟩
  obtain ⟨p1, hp1⟩ : ∃ p, w0.heap.size = p := ⟨_, rfl⟩
  have hp01 : p0 + 1 = p1 := by rw [← hp1, ← hw0, ← hp0]; simp
  have hB01 := hB0.below hb1 hB0.lt
  rw [hp0] at hB01
  rw [hp1] at hB1
  have h01 : Below w.heap.size w w1 := hb0.trans (hb1.mono hb0.size)
  have HS : Hid (∀ W, Below w1.heap.size w1 W → (fun W : World => W.cell? ⟨p1, 0, none⟩ = some (.int .u8 1) ∧ W.cell? ⟨p1, 1, none⟩ = some (.string ⟨#[39, 97]⟩) ∧ W.cell? ⟨p1, 2, none⟩ = some (.int .i64 0) ∧ W.cell? ⟨p1, 3, none⟩ = some (.slice none 0 0)) W) := Lib.hid fun W hW => by
    have h := hB1.below hW hB1.lt
    exact ⟨h.cell 0, h.cell 1, h.cell 2, h.cell 3⟩
  have HSO : Hid (∀ W W2, Below w1.heap.size w1 W → Off (fun k => k = p0) W W2 → (fun W : World => W.cell? ⟨p1, 0, none⟩ = some (.int .u8 1) ∧ W.cell? ⟨p1, 1, none⟩ = some (.string ⟨#[39, 97]⟩) ∧ W.cell? ⟨p1, 2, none⟩ = some (.int .i64 0) ∧ W.cell? ⟨p1, 3, none⟩ = some (.slice none 0 0)) W2) := Lib.hid fun W W2 hW h2 => by
    have h := (hB1.below hW hB1.lt).off h2 (by omega)
    exact ⟨h.cell 0, h.cell 1, h.cell 2, h.cell 3⟩
  have H0 := Lib.hid (And.intro hB01 h01)
  have HP0 := Lib.hid hp0
  have HP1 : Hid (p0 ≠ p1) := Lib.hid (by omega)
  have HW := Lib.hid (And.intro hw0 (And.intro hp0 (And.intro hw1 (And.intro hp1 hp01))))
  have hS1 : (fun W : World => W.cell? ⟨p1, 0, none⟩ = some (.int .u8 1) ∧ W.cell? ⟨p1, 1, none⟩ = some (.string ⟨#[39, 97]⟩) ∧ W.cell? ⟨p1, 2, none⟩ = some (.int .i64 0) ∧ W.cell? ⟨p1, 3, none⟩ = some (.slice none 0 0)) w1.drew := HS.out _ (Below.refl _ w1).drew
  clear hw0 hb0 hB0 hw1 hb1 hB1 hp0 hp1 hp01 hB01 h01
  go_enter Tryz.func11, Tryz.ntmps11
  go_upto_region 1 with fail
  (try rw [HW.out.1])
  (try rw [HW.out.2.1])
  go_upto_region 2 with fail
  (try rw [HW.out.2.2.1])
  (try rw [HW.out.2.2.2.1])
  (try rw [HW.out.2.2.2.2])
  refine wp_region_held_drew (S := (fun W : World => W.cell? ⟨p1, 0, none⟩ = some (.int .u8 1) ∧ W.cell? ⟨p1, 1, none⟩ = some (.string ⟨#[39, 97]⟩) ∧ W.cell? ⟨p1, 2, none⟩ = some (.int .i64 0) ∧ W.cell? ⟨p1, 3, none⟩ = some (.slice none 0 0))) (by kernel_rfl) hS1 (fun hHeld => ?_)
  have hwd0 : Below w1.heap.size w1 w1.drew := (Below.refl _ w1).drew
  generalize w1.drew = wd at hHeld hwd0 ⊢
  clear hS1 HW
  refine takeY 1 (some 4) rfl rfl (by kernel_rfl) (by kernel_rfl) (by kernel_rfl) (fun _ _ _ h => h) (by rfl) (v := _) (by (intro _ hSw; (try dsimp only at hSw); go_simp; try with_reducible rfl)) hHeld ?_
  simp only [Act.put, List.setIfInBounds_toArray, List.set_cons_zero, List.set_cons_succ]
  refine takeY 2 (some 5) rfl rfl (by kernel_rfl) (by kernel_rfl) (by kernel_rfl) (fun _ _ _ h => h) (by rfl) (v := _) (by (intro _ hSw; (try dsimp only at hSw); go_simp; try with_reducible rfl)) hHeld ?_
  simp only [Act.put, List.setIfInBounds_toArray, List.set_cons_zero, List.set_cons_succ]
  refine takeY 3 (some 6) rfl rfl (by kernel_rfl) (by kernel_rfl) (by kernel_rfl) (fun _ _ _ h => h) (by rfl) (v := _) (by (intro _ hSw; (try dsimp only at hSw); go_simp; try with_reducible rfl)) hHeld ?_
  simp only [Act.put, List.setIfInBounds_toArray, List.set_cons_zero, List.set_cons_succ]
  have Twd := Lib.hid hwd0
  refine wpAnyH_ready (rs := [0, 4]) (by kernel_rfl) (by simp) ?_
  refine AllReadyH.cons rfl (fun K hK => ?_) (AllReadyH.cons rfl (fun K hK => ?_) AllReadyH.nil)
  · obtain ⟨v1, hv1⟩ : ∃ v, wd.alloc (.cells #[.string ⟨#[39, 97]⟩] 9) = v := ⟨_, rfl⟩
    have bv1 : Below wd.heap.size wd v1 := by rw [← hv1]; exact (Below.refl _ _).alloc (Nat.le_refl _) _
    have Bv1 : Blk v1 wd.heap.size 9 #[.string ⟨#[39, 97]⟩] := by rw [← hv1]; exact Blk.new _ _ _
    obtain ⟨m1, hm1⟩ : ∃ v, wd.heap.size = v := ⟨_, rfl⟩
    rw [hm1] at Bv1
    have Hv1 := Lib.hid (And.intro hv1 (And.intro hm1 (And.intro bv1 Bv1)))
    have Tv1 : Hid (Below w1.heap.size w1 v1) := Lib.hid (Twd.out.trans (bv1.mono Twd.out.size))
    clear hv1 hm1 bv1 Bv1
    go_simp
    (try rw [Hv1.out.1])
    (try rw [Hv1.out.2.1])
    refine hK.out _ _ (HS.out _ Tv1.out) (fun hHeld => ?_)
    clear hK K
    refine wpAnyH_ready (rs := [4]) (by kernel_rfl) (by simp) ?_
    refine AllReadyH.cons rfl (fun K hK => ?_) AllReadyH.nil
    · obtain ⟨v2, hv2⟩ : ∃ v, v1.alloc (.cells #[.int .u8 1, .string ⟨#[39, 97]⟩, .int .i64 0, .slice none 0 0] 24) = v := ⟨_, rfl⟩
      have bv2 : Below v1.heap.size v1 v2 := by rw [← hv2]; exact (Below.refl _ _).alloc (Nat.le_refl _) _
      have Bv2 : Blk v2 v1.heap.size 24 #[.int .u8 1, .string ⟨#[39, 97]⟩, .int .i64 0, .slice none 0 0] := by rw [← hv2]; exact Blk.new _ _ _
      obtain ⟨m2, hm2⟩ : ∃ v, v1.heap.size = v := ⟨_, rfl⟩
      rw [hm2] at Bv2
      have Hv2 := Lib.hid (And.intro hv2 (And.intro hm2 (And.intro bv2 Bv2)))
      have Tv2 : Hid (Below w1.heap.size w1 v2) := Lib.hid (Tv1.out.trans (bv2.mono Tv1.out.size))
      clear hv2 hm2 bv2 Bv2
      go_simp
      (try rw [Hv2.out.1])
      (try rw [Hv2.out.2.1])
      refine hK.out _ _ (HS.out _ Tv2.out) (fun hHeld => ?_)
      clear hK K
      refine wpAnyH_ready (rs := [5]) (by kernel_rfl) (by simp) ?_
      refine AllReadyH.cons rfl (fun K hK => ?_) AllReadyH.nil
      · have HT := Lib.hid (named_any ⟨#[108, 105, 115, 116]⟩ (some ⟨m2, 0, none⟩) 1 1 v2)
        clear hHeld
        go_simp
        go_wp2_with (go_at_call 10; refine Calls.mono HT.out ?_; rintro e v3 ⟨rfl, bv3⟩; have Tv3 : Hid (Below w1.heap.size w1 v3) := Lib.hid (Tv2.out.trans (bv3.mono Tv2.out.size)); have Hv3 := Lib.hid (And.intro trivial (And.intro trivial (And.intro bv3 trivial))))
        refine hK.out _ _ (HS.out _ Tv3.out) (fun hHeld => ?_)
        clear hK K HT
        refine wpAnyH_ready (rs := [6]) (by kernel_rfl) (by simp) ?_
        refine AllReadyH.cons rfl (fun K hK => ?_) AllReadyH.nil
        · obtain ⟨v4, hv4⟩ : ∃ v, v3.alloc (.cells #[.int .u8 1, .string ⟨#[39, 97]⟩, .int .i64 0, .slice none 0 0, .int .u8 2, .string ⟨#[108, 105, 115, 116]⟩, .int .i64 0, .slice (some ⟨m2, 0, none⟩) 1 1] 24) = v := ⟨_, rfl⟩
          have bv4 : Below v3.heap.size v3 v4 := by rw [← hv4]; exact (Below.refl _ _).alloc (Nat.le_refl _) _
          have Bv4 : Blk v4 v3.heap.size 24 #[.int .u8 1, .string ⟨#[39, 97]⟩, .int .i64 0, .slice none 0 0, .int .u8 2, .string ⟨#[108, 105, 115, 116]⟩, .int .i64 0, .slice (some ⟨m2, 0, none⟩) 1 1] := by rw [← hv4]; exact Blk.new _ _ _
          obtain ⟨m4, hm4⟩ : ∃ v, v3.heap.size = v := ⟨_, rfl⟩
          rw [hm4] at Bv4
          have Hv4 := Lib.hid (And.intro hv4 (And.intro hm4 (And.intro bv4 Bv4)))
          have Tv4 : Hid (Below w1.heap.size w1 v4) := Lib.hid (Tv3.out.trans (bv4.mono Tv3.out.size))
          clear hv4 hm4 bv4 Bv4
          go_simp
          (try rw [Hv4.out.1])
          (try rw [Hv4.out.2.1])
          refine hK.out _ _ (HS.out _ Tv4.out) (fun hHeld => ?_)
          clear hK K
          refine takeY 7 (some 10) rfl rfl (by kernel_rfl) (by kernel_rfl) (by kernel_rfl) (fun _ _ _ h => h) (by rfl) (v := _) (by (intro _ hSw; (try dsimp only at hSw); go_simp; try with_reducible rfl)) hHeld ?_
          simp only [Act.put, List.setIfInBounds_toArray, List.set_cons_zero, List.set_cons_succ]
          refine takeY 8 (some 11) rfl rfl (by kernel_rfl) (by kernel_rfl) (by kernel_rfl) (fun _ _ _ h => h) (by rfl) (v := _) (by (intro _ hSw; (try dsimp only at hSw); go_simp; try with_reducible rfl)) hHeld ?_
          simp only [Act.put, List.setIfInBounds_toArray, List.set_cons_zero, List.set_cons_succ]
          refine wpAnyH_ready (rs := [9]) (by kernel_rfl) (by simp) ?_
          refine AllReadyH.cons rfl (fun K hK => ?_) AllReadyH.nil
          · obtain ⟨v5, hv5⟩ : ∃ v, v4.alloc (.cells #[.string ⟨#[78, 105, 108]⟩, .bool false, .int .u8 0, .string ⟨#[]⟩, .int .i64 0, .slice none 0 0, .string ⟨#[67, 111, 110, 115]⟩, .bool true, .int .u8 4, .string ⟨#[]⟩, .int .i64 0, .slice (some ⟨m4, 0, none⟩) 2 2] 44) = v := ⟨_, rfl⟩
            have bv5 : Below v4.heap.size v4 v5 := by rw [← hv5]; exact (Below.refl _ _).alloc (Nat.le_refl _) _
            have Bv5 : Blk v5 v4.heap.size 44 #[.string ⟨#[78, 105, 108]⟩, .bool false, .int .u8 0, .string ⟨#[]⟩, .int .i64 0, .slice none 0 0, .string ⟨#[67, 111, 110, 115]⟩, .bool true, .int .u8 4, .string ⟨#[]⟩, .int .i64 0, .slice (some ⟨m4, 0, none⟩) 2 2] := by rw [← hv5]; exact Blk.new _ _ _
            obtain ⟨m5, hm5⟩ : ∃ v, v4.heap.size = v := ⟨_, rfl⟩
            rw [hm5] at Bv5
            have Hv5 := Lib.hid (And.intro hv5 (And.intro hm5 (And.intro bv5 Bv5)))
            have Tv5 : Hid (Below w1.heap.size w1 v5) := Lib.hid (Tv4.out.trans (bv5.mono Tv4.out.size))
            clear hv5 hm5 bv5 Bv5
            go_simp
            (try rw [Hv5.out.1])
            (try rw [Hv5.out.2.1])
            refine hK.out _ _ (HS.out _ Tv5.out) (fun hHeld => ?_)
            clear hK K
            refine takeY 10 (some 13) rfl rfl (by kernel_rfl) (by kernel_rfl) (by kernel_rfl) (fun _ _ _ h => h) (by rfl) (v := _) (by (intro _ hSw; (try dsimp only at hSw); go_simp; try with_reducible rfl)) hHeld ?_
            simp only [Act.put, List.setIfInBounds_toArray, List.set_cons_zero, List.set_cons_succ]
            refine wpAnyH_ready (rs := [11]) (by kernel_rfl) (by simp) ?_
            refine AllReadyH.cons rfl (fun K hK => ?_) AllReadyH.nil
            · have FV := ((((((((Hv1.out.2.2.2).below Hv2.out.2.2.1 (Hv1.out.2.2.2).lt)).below Hv3.out.2.2.1 (((Hv1.out.2.2.2).below Hv2.out.2.2.1 (Hv1.out.2.2.2).lt)).lt)).below Hv4.out.2.2.1 (((((Hv1.out.2.2.2).below Hv2.out.2.2.1 (Hv1.out.2.2.2).lt)).below Hv3.out.2.2.1 (((Hv1.out.2.2.2).below Hv2.out.2.2.1 (Hv1.out.2.2.2).lt)).lt)).lt)).below Hv5.out.2.2.1 (((((((Hv1.out.2.2.2).below Hv2.out.2.2.1 (Hv1.out.2.2.2).lt)).below Hv3.out.2.2.1 (((Hv1.out.2.2.2).below Hv2.out.2.2.1 (Hv1.out.2.2.2).lt)).lt)).below Hv4.out.2.2.1 (((((Hv1.out.2.2.2).below Hv2.out.2.2.1 (Hv1.out.2.2.2).lt)).below Hv3.out.2.2.1 (((Hv1.out.2.2.2).below Hv2.out.2.2.1 (Hv1.out.2.2.2).lt)).lt)).lt)).lt)
              have FK := ((((((Hv2.out.2.2.2).below Hv3.out.2.2.1 (Hv2.out.2.2.2).lt)).below Hv4.out.2.2.1 (((Hv2.out.2.2.2).below Hv3.out.2.2.1 (Hv2.out.2.2.2).lt)).lt)).below Hv5.out.2.2.1 (((((Hv2.out.2.2.2).below Hv3.out.2.2.1 (Hv2.out.2.2.2).lt)).below Hv4.out.2.2.1 (((Hv2.out.2.2.2).below Hv3.out.2.2.1 (Hv2.out.2.2.2).lt)).lt)).lt)
              have FP := ((Hv4.out.2.2.2).below Hv5.out.2.2.1 (Hv4.out.2.2.2).lt)
              have FC := Hv5.out.2.2.2
              have F0 := H0.out.1.below Tv5.out H0.out.1.lt
              obtain ⟨z, hz⟩ : ∃ z, (((((((((((((((v5.setCell ⟨p0, 0, none⟩ (.int .u8 1)).setCell ⟨p0, 1, none⟩ (.string ⟨#[108, 105, 115, 116]⟩)).setCell ⟨p0, 2, none⟩ (.slice (some ⟨m1, 0, none⟩) 1 1)).setCell ⟨p0, 3, none⟩ (.slice (some ⟨m5, 0, none⟩) 2 2)).setCell ⟨p0, 4, none⟩ (.slice none 0 0)).setCell ⟨p0, 5, none⟩ (.int .u8 0)).setCell ⟨p0, 6, none⟩ (.string ⟨#[]⟩)).setCell ⟨p0, 7, none⟩ (.int .i64 0)).setCell ⟨p0, 8, none⟩ (.slice none 0 0)).setCell ⟨p0, 9, none⟩ (.int .u8 0)).setCell ⟨p0, 10, none⟩ (.string ⟨#[]⟩)).setCell ⟨p0, 11, none⟩ (.int .i64 0)).setCell ⟨p0, 12, none⟩ (.string ⟨#[]⟩)).setCell ⟨p0, 13, none⟩ (.slice none 0 0)).setCell ⟨p0, 14, none⟩ (.slice none 0 0)).setCell ⟨p0, 15, none⟩ (.slice none 0 0) = z := ⟨_, rfl⟩
              have FE := Lib.hid (list_end F0 FV FK FP FC (by have h1 := Twd.out.size; have h2 := H0.out.1.lt; have h3 := Hv1.out.2.1; omega) (by have h1 := Tv1.out.size; have h2 := H0.out.1.lt; have h3 := Hv2.out.2.1; omega) (by have h1 := Tv3.out.size; have h2 := H0.out.1.lt; have h3 := Hv4.out.2.1; omega) (by have h1 := Tv4.out.size; have h2 := H0.out.1.lt; have h3 := Hv5.out.2.1; omega) z hz)
              have FB : Hid (Below w1.heap.size w1 v5) := Tv5
              have hzz : Below w.heap.size w z := (H0.out.2.trans (FB.out.mono H0.out.2.size)).trans (FE.out.2.2.below (H0.out.2.trans (FB.out.mono H0.out.2.size)).size (fun k e => by rw [e]; exact Nat.le_of_eq HP0.out))
              have HZ := Lib.hid (And.intro hz hzz)
              have f0 := F0.cell 0
              have f1 := F0.cell 1
              have f2 := F0.cell 2
              have f3 := F0.cell 3
              have f4 := F0.cell 4
              have f5 := F0.cell 5
              have f6 := F0.cell 6
              have f7 := F0.cell 7
              have f8 := F0.cell 8
              have f9 := F0.cell 9
              have f10 := F0.cell 10
              have f11 := F0.cell 11
              have f12 := F0.cell 12
              have f13 := F0.cell 13
              have f14 := F0.cell 14
              have f15 := F0.cell 15
              have ff := F0.frozen
              simp only [List.getElem?_toArray, List.getElem?_cons_zero, List.getElem?_cons_succ] at f0 f1 f2 f3 f4 f5 f6 f7 f8 f9 f10 f11 f12 f13 f14 f15
              clear F0 FV FK FP FC hz hzz
              go_simp
              (try rw [HZ.out.1])
              refine hK.out _ _ (HSO.out _ _ FB.out FE.out.2.2) (fun hHeld => ?_)
              clear hK K
              refine wpAnyH_done (by kernel_rfl) ?_ _
              clear hHeld f0 f1 f2 f3 f4 f5 f6 f7 f8 f9 f10 f11 f12 f13 f14 f15 ff
              go_wp2_with fail
              refine bodyPost_ret (results_cell_row rfl _ _ p0 42 _ (0, 0) _ rfl FE.out.1 Tryz.underlying42 rfl (by kernel_rfl)) rfl ?_
              exact ⟨⟨_, _, rfl, FE.out.2.1⟩, HZ.out.2⟩
  · obtain ⟨v7, hv7⟩ : ∃ v, wd.alloc (.cells #[.int .u8 1, .string ⟨#[39, 97]⟩, .int .i64 0, .slice none 0 0] 24) = v := ⟨_, rfl⟩
    have bv7 : Below wd.heap.size wd v7 := by rw [← hv7]; exact (Below.refl _ _).alloc (Nat.le_refl _) _
    have Bv7 : Blk v7 wd.heap.size 24 #[.int .u8 1, .string ⟨#[39, 97]⟩, .int .i64 0, .slice none 0 0] := by rw [← hv7]; exact Blk.new _ _ _
    obtain ⟨m7, hm7⟩ : ∃ v, wd.heap.size = v := ⟨_, rfl⟩
    rw [hm7] at Bv7
    have Hv7 := Lib.hid (And.intro hv7 (And.intro hm7 (And.intro bv7 Bv7)))
    have Tv7 : Hid (Below w1.heap.size w1 v7) := Lib.hid (Twd.out.trans (bv7.mono Twd.out.size))
    clear hv7 hm7 bv7 Bv7
    go_simp
    (try rw [Hv7.out.1])
    (try rw [Hv7.out.2.1])
    refine hK.out _ _ (HS.out _ Tv7.out) (fun hHeld => ?_)
    clear hK K
    refine wpAnyH_ready (rs := [0, 5]) (by kernel_rfl) (by simp) ?_
    refine AllReadyH.cons rfl (fun K hK => ?_) (AllReadyH.cons rfl (fun K hK => ?_) AllReadyH.nil)
    · obtain ⟨v8, hv8⟩ : ∃ v, v7.alloc (.cells #[.string ⟨#[39, 97]⟩] 9) = v := ⟨_, rfl⟩
      have bv8 : Below v7.heap.size v7 v8 := by rw [← hv8]; exact (Below.refl _ _).alloc (Nat.le_refl _) _
      have Bv8 : Blk v8 v7.heap.size 9 #[.string ⟨#[39, 97]⟩] := by rw [← hv8]; exact Blk.new _ _ _
      obtain ⟨m8, hm8⟩ : ∃ v, v7.heap.size = v := ⟨_, rfl⟩
      rw [hm8] at Bv8
      have Hv8 := Lib.hid (And.intro hv8 (And.intro hm8 (And.intro bv8 Bv8)))
      have Tv8 : Hid (Below w1.heap.size w1 v8) := Lib.hid (Tv7.out.trans (bv8.mono Tv7.out.size))
      clear hv8 hm8 bv8 Bv8
      go_simp
      (try rw [Hv8.out.1])
      (try rw [Hv8.out.2.1])
      refine hK.out _ _ (HS.out _ Tv8.out) (fun hHeld => ?_)
      clear hK K
      refine wpAnyH_ready (rs := [5]) (by kernel_rfl) (by simp) ?_
      refine AllReadyH.cons rfl (fun K hK => ?_) AllReadyH.nil
      · have HT := Lib.hid (named_any ⟨#[108, 105, 115, 116]⟩ (some ⟨m7, 0, none⟩) 1 1 v8)
        clear hHeld
        go_simp
        go_wp2_with (go_at_call 10; refine Calls.mono HT.out ?_; rintro e v9 ⟨rfl, bv9⟩; have Tv9 : Hid (Below w1.heap.size w1 v9) := Lib.hid (Tv8.out.trans (bv9.mono Tv8.out.size)); have Hv9 := Lib.hid (And.intro trivial (And.intro trivial (And.intro bv9 trivial))))
        refine hK.out _ _ (HS.out _ Tv9.out) (fun hHeld => ?_)
        clear hK K HT
        refine wpAnyH_ready (rs := [6]) (by kernel_rfl) (by simp) ?_
        refine AllReadyH.cons rfl (fun K hK => ?_) AllReadyH.nil
        · obtain ⟨v10, hv10⟩ : ∃ v, v9.alloc (.cells #[.int .u8 1, .string ⟨#[39, 97]⟩, .int .i64 0, .slice none 0 0, .int .u8 2, .string ⟨#[108, 105, 115, 116]⟩, .int .i64 0, .slice (some ⟨m7, 0, none⟩) 1 1] 24) = v := ⟨_, rfl⟩
          have bv10 : Below v9.heap.size v9 v10 := by rw [← hv10]; exact (Below.refl _ _).alloc (Nat.le_refl _) _
          have Bv10 : Blk v10 v9.heap.size 24 #[.int .u8 1, .string ⟨#[39, 97]⟩, .int .i64 0, .slice none 0 0, .int .u8 2, .string ⟨#[108, 105, 115, 116]⟩, .int .i64 0, .slice (some ⟨m7, 0, none⟩) 1 1] := by rw [← hv10]; exact Blk.new _ _ _
          obtain ⟨m10, hm10⟩ : ∃ v, v9.heap.size = v := ⟨_, rfl⟩
          rw [hm10] at Bv10
          have Hv10 := Lib.hid (And.intro hv10 (And.intro hm10 (And.intro bv10 Bv10)))
          have Tv10 : Hid (Below w1.heap.size w1 v10) := Lib.hid (Tv9.out.trans (bv10.mono Tv9.out.size))
          clear hv10 hm10 bv10 Bv10
          go_simp
          (try rw [Hv10.out.1])
          (try rw [Hv10.out.2.1])
          refine hK.out _ _ (HS.out _ Tv10.out) (fun hHeld => ?_)
          clear hK K
          refine takeY 7 (some 10) rfl rfl (by kernel_rfl) (by kernel_rfl) (by kernel_rfl) (fun _ _ _ h => h) (by rfl) (v := _) (by (intro _ hSw; (try dsimp only at hSw); go_simp; try with_reducible rfl)) hHeld ?_
          simp only [Act.put, List.setIfInBounds_toArray, List.set_cons_zero, List.set_cons_succ]
          refine takeY 8 (some 11) rfl rfl (by kernel_rfl) (by kernel_rfl) (by kernel_rfl) (fun _ _ _ h => h) (by rfl) (v := _) (by (intro _ hSw; (try dsimp only at hSw); go_simp; try with_reducible rfl)) hHeld ?_
          simp only [Act.put, List.setIfInBounds_toArray, List.set_cons_zero, List.set_cons_succ]
          refine wpAnyH_ready (rs := [9]) (by kernel_rfl) (by simp) ?_
          refine AllReadyH.cons rfl (fun K hK => ?_) AllReadyH.nil
          · obtain ⟨v11, hv11⟩ : ∃ v, v10.alloc (.cells #[.string ⟨#[78, 105, 108]⟩, .bool false, .int .u8 0, .string ⟨#[]⟩, .int .i64 0, .slice none 0 0, .string ⟨#[67, 111, 110, 115]⟩, .bool true, .int .u8 4, .string ⟨#[]⟩, .int .i64 0, .slice (some ⟨m10, 0, none⟩) 2 2] 44) = v := ⟨_, rfl⟩
            have bv11 : Below v10.heap.size v10 v11 := by rw [← hv11]; exact (Below.refl _ _).alloc (Nat.le_refl _) _
            have Bv11 : Blk v11 v10.heap.size 44 #[.string ⟨#[78, 105, 108]⟩, .bool false, .int .u8 0, .string ⟨#[]⟩, .int .i64 0, .slice none 0 0, .string ⟨#[67, 111, 110, 115]⟩, .bool true, .int .u8 4, .string ⟨#[]⟩, .int .i64 0, .slice (some ⟨m10, 0, none⟩) 2 2] := by rw [← hv11]; exact Blk.new _ _ _
            obtain ⟨m11, hm11⟩ : ∃ v, v10.heap.size = v := ⟨_, rfl⟩
            rw [hm11] at Bv11
            have Hv11 := Lib.hid (And.intro hv11 (And.intro hm11 (And.intro bv11 Bv11)))
            have Tv11 : Hid (Below w1.heap.size w1 v11) := Lib.hid (Tv10.out.trans (bv11.mono Tv10.out.size))
            clear hv11 hm11 bv11 Bv11
            go_simp
            (try rw [Hv11.out.1])
            (try rw [Hv11.out.2.1])
            refine hK.out _ _ (HS.out _ Tv11.out) (fun hHeld => ?_)
            clear hK K
            refine takeY 10 (some 13) rfl rfl (by kernel_rfl) (by kernel_rfl) (by kernel_rfl) (fun _ _ _ h => h) (by rfl) (v := _) (by (intro _ hSw; (try dsimp only at hSw); go_simp; try with_reducible rfl)) hHeld ?_
            simp only [Act.put, List.setIfInBounds_toArray, List.set_cons_zero, List.set_cons_succ]
            refine wpAnyH_ready (rs := [11]) (by kernel_rfl) (by simp) ?_
            refine AllReadyH.cons rfl (fun K hK => ?_) AllReadyH.nil
            · have FV := ((((((Hv8.out.2.2.2).below Hv9.out.2.2.1 (Hv8.out.2.2.2).lt)).below Hv10.out.2.2.1 (((Hv8.out.2.2.2).below Hv9.out.2.2.1 (Hv8.out.2.2.2).lt)).lt)).below Hv11.out.2.2.1 (((((Hv8.out.2.2.2).below Hv9.out.2.2.1 (Hv8.out.2.2.2).lt)).below Hv10.out.2.2.1 (((Hv8.out.2.2.2).below Hv9.out.2.2.1 (Hv8.out.2.2.2).lt)).lt)).lt)
              have FK := ((((((((Hv7.out.2.2.2).below Hv8.out.2.2.1 (Hv7.out.2.2.2).lt)).below Hv9.out.2.2.1 (((Hv7.out.2.2.2).below Hv8.out.2.2.1 (Hv7.out.2.2.2).lt)).lt)).below Hv10.out.2.2.1 (((((Hv7.out.2.2.2).below Hv8.out.2.2.1 (Hv7.out.2.2.2).lt)).below Hv9.out.2.2.1 (((Hv7.out.2.2.2).below Hv8.out.2.2.1 (Hv7.out.2.2.2).lt)).lt)).lt)).below Hv11.out.2.2.1 (((((((Hv7.out.2.2.2).below Hv8.out.2.2.1 (Hv7.out.2.2.2).lt)).below Hv9.out.2.2.1 (((Hv7.out.2.2.2).below Hv8.out.2.2.1 (Hv7.out.2.2.2).lt)).lt)).below Hv10.out.2.2.1 (((((Hv7.out.2.2.2).below Hv8.out.2.2.1 (Hv7.out.2.2.2).lt)).below Hv9.out.2.2.1 (((Hv7.out.2.2.2).below Hv8.out.2.2.1 (Hv7.out.2.2.2).lt)).lt)).lt)).lt)
              have FP := ((Hv10.out.2.2.2).below Hv11.out.2.2.1 (Hv10.out.2.2.2).lt)
              have FC := Hv11.out.2.2.2
              have F0 := H0.out.1.below Tv11.out H0.out.1.lt
              obtain ⟨z, hz⟩ : ∃ z, (((((((((((((((v11.setCell ⟨p0, 0, none⟩ (.int .u8 1)).setCell ⟨p0, 1, none⟩ (.string ⟨#[108, 105, 115, 116]⟩)).setCell ⟨p0, 2, none⟩ (.slice (some ⟨m8, 0, none⟩) 1 1)).setCell ⟨p0, 3, none⟩ (.slice (some ⟨m11, 0, none⟩) 2 2)).setCell ⟨p0, 4, none⟩ (.slice none 0 0)).setCell ⟨p0, 5, none⟩ (.int .u8 0)).setCell ⟨p0, 6, none⟩ (.string ⟨#[]⟩)).setCell ⟨p0, 7, none⟩ (.int .i64 0)).setCell ⟨p0, 8, none⟩ (.slice none 0 0)).setCell ⟨p0, 9, none⟩ (.int .u8 0)).setCell ⟨p0, 10, none⟩ (.string ⟨#[]⟩)).setCell ⟨p0, 11, none⟩ (.int .i64 0)).setCell ⟨p0, 12, none⟩ (.string ⟨#[]⟩)).setCell ⟨p0, 13, none⟩ (.slice none 0 0)).setCell ⟨p0, 14, none⟩ (.slice none 0 0)).setCell ⟨p0, 15, none⟩ (.slice none 0 0) = z := ⟨_, rfl⟩
              have FE := Lib.hid (list_end F0 FV FK FP FC (by have h1 := Tv7.out.size; have h2 := H0.out.1.lt; have h3 := Hv8.out.2.1; omega) (by have h1 := Twd.out.size; have h2 := H0.out.1.lt; have h3 := Hv7.out.2.1; omega) (by have h1 := Tv9.out.size; have h2 := H0.out.1.lt; have h3 := Hv10.out.2.1; omega) (by have h1 := Tv10.out.size; have h2 := H0.out.1.lt; have h3 := Hv11.out.2.1; omega) z hz)
              have FB : Hid (Below w1.heap.size w1 v11) := Tv11
              have hzz : Below w.heap.size w z := (H0.out.2.trans (FB.out.mono H0.out.2.size)).trans (FE.out.2.2.below (H0.out.2.trans (FB.out.mono H0.out.2.size)).size (fun k e => by rw [e]; exact Nat.le_of_eq HP0.out))
              have HZ := Lib.hid (And.intro hz hzz)
              have f0 := F0.cell 0
              have f1 := F0.cell 1
              have f2 := F0.cell 2
              have f3 := F0.cell 3
              have f4 := F0.cell 4
              have f5 := F0.cell 5
              have f6 := F0.cell 6
              have f7 := F0.cell 7
              have f8 := F0.cell 8
              have f9 := F0.cell 9
              have f10 := F0.cell 10
              have f11 := F0.cell 11
              have f12 := F0.cell 12
              have f13 := F0.cell 13
              have f14 := F0.cell 14
              have f15 := F0.cell 15
              have ff := F0.frozen
              simp only [List.getElem?_toArray, List.getElem?_cons_zero, List.getElem?_cons_succ] at f0 f1 f2 f3 f4 f5 f6 f7 f8 f9 f10 f11 f12 f13 f14 f15
              clear F0 FV FK FP FC hz hzz
              go_simp
              (try rw [HZ.out.1])
              refine hK.out _ _ (HSO.out _ _ FB.out FE.out.2.2) (fun hHeld => ?_)
              clear hK K
              refine wpAnyH_done (by kernel_rfl) ?_ _
              clear hHeld f0 f1 f2 f3 f4 f5 f6 f7 f8 f9 f10 f11 f12 f13 f14 f15 ff
              go_wp2_with fail
              refine bodyPost_ret (results_cell_row rfl _ _ p0 42 _ (0, 0) _ rfl FE.out.1 Tryz.underlying42 rfl (by kernel_rfl)) rfl ?_
              exact ⟨⟨_, _, rfl, FE.out.2.1⟩, HZ.out.2⟩
    · have HT := Lib.hid (named_any ⟨#[108, 105, 115, 116]⟩ (some ⟨m7, 0, none⟩) 1 1 v7)
      clear hHeld
      go_simp
      go_wp2_with (go_at_call 10; refine Calls.mono HT.out ?_; rintro e v13 ⟨rfl, bv13⟩; have Tv13 : Hid (Below w1.heap.size w1 v13) := Lib.hid (Tv7.out.trans (bv13.mono Tv7.out.size)); have Hv13 := Lib.hid (And.intro trivial (And.intro trivial (And.intro bv13 trivial))))
      refine hK.out _ _ (HS.out _ Tv13.out) (fun hHeld => ?_)
      clear hK K HT
      refine wpAnyH_ready (rs := [0, 6]) (by kernel_rfl) (by simp) ?_
      refine AllReadyH.cons rfl (fun K hK => ?_) (AllReadyH.cons rfl (fun K hK => ?_) AllReadyH.nil)
      · obtain ⟨v14, hv14⟩ : ∃ v, v13.alloc (.cells #[.string ⟨#[39, 97]⟩] 9) = v := ⟨_, rfl⟩
        have bv14 : Below v13.heap.size v13 v14 := by rw [← hv14]; exact (Below.refl _ _).alloc (Nat.le_refl _) _
        have Bv14 : Blk v14 v13.heap.size 9 #[.string ⟨#[39, 97]⟩] := by rw [← hv14]; exact Blk.new _ _ _
        obtain ⟨m14, hm14⟩ : ∃ v, v13.heap.size = v := ⟨_, rfl⟩
        rw [hm14] at Bv14
        have Hv14 := Lib.hid (And.intro hv14 (And.intro hm14 (And.intro bv14 Bv14)))
        have Tv14 : Hid (Below w1.heap.size w1 v14) := Lib.hid (Tv13.out.trans (bv14.mono Tv13.out.size))
        clear hv14 hm14 bv14 Bv14
        go_simp
        (try rw [Hv14.out.1])
        (try rw [Hv14.out.2.1])
        refine hK.out _ _ (HS.out _ Tv14.out) (fun hHeld => ?_)
        clear hK K
        refine wpAnyH_ready (rs := [6]) (by kernel_rfl) (by simp) ?_
        refine AllReadyH.cons rfl (fun K hK => ?_) AllReadyH.nil
        · obtain ⟨v15, hv15⟩ : ∃ v, v14.alloc (.cells #[.int .u8 1, .string ⟨#[39, 97]⟩, .int .i64 0, .slice none 0 0, .int .u8 2, .string ⟨#[108, 105, 115, 116]⟩, .int .i64 0, .slice (some ⟨m7, 0, none⟩) 1 1] 24) = v := ⟨_, rfl⟩
          have bv15 : Below v14.heap.size v14 v15 := by rw [← hv15]; exact (Below.refl _ _).alloc (Nat.le_refl _) _
          have Bv15 : Blk v15 v14.heap.size 24 #[.int .u8 1, .string ⟨#[39, 97]⟩, .int .i64 0, .slice none 0 0, .int .u8 2, .string ⟨#[108, 105, 115, 116]⟩, .int .i64 0, .slice (some ⟨m7, 0, none⟩) 1 1] := by rw [← hv15]; exact Blk.new _ _ _
          obtain ⟨m15, hm15⟩ : ∃ v, v14.heap.size = v := ⟨_, rfl⟩
          rw [hm15] at Bv15
          have Hv15 := Lib.hid (And.intro hv15 (And.intro hm15 (And.intro bv15 Bv15)))
          have Tv15 : Hid (Below w1.heap.size w1 v15) := Lib.hid (Tv14.out.trans (bv15.mono Tv14.out.size))
          clear hv15 hm15 bv15 Bv15
          go_simp
          (try rw [Hv15.out.1])
          (try rw [Hv15.out.2.1])
          refine hK.out _ _ (HS.out _ Tv15.out) (fun hHeld => ?_)
          clear hK K
          refine takeY 7 (some 10) rfl rfl (by kernel_rfl) (by kernel_rfl) (by kernel_rfl) (fun _ _ _ h => h) (by rfl) (v := _) (by (intro _ hSw; (try dsimp only at hSw); go_simp; try with_reducible rfl)) hHeld ?_
          simp only [Act.put, List.setIfInBounds_toArray, List.set_cons_zero, List.set_cons_succ]
          refine takeY 8 (some 11) rfl rfl (by kernel_rfl) (by kernel_rfl) (by kernel_rfl) (fun _ _ _ h => h) (by rfl) (v := _) (by (intro _ hSw; (try dsimp only at hSw); go_simp; try with_reducible rfl)) hHeld ?_
          simp only [Act.put, List.setIfInBounds_toArray, List.set_cons_zero, List.set_cons_succ]
          refine wpAnyH_ready (rs := [9]) (by kernel_rfl) (by simp) ?_
          refine AllReadyH.cons rfl (fun K hK => ?_) AllReadyH.nil
          · obtain ⟨v16, hv16⟩ : ∃ v, v15.alloc (.cells #[.string ⟨#[78, 105, 108]⟩, .bool false, .int .u8 0, .string ⟨#[]⟩, .int .i64 0, .slice none 0 0, .string ⟨#[67, 111, 110, 115]⟩, .bool true, .int .u8 4, .string ⟨#[]⟩, .int .i64 0, .slice (some ⟨m15, 0, none⟩) 2 2] 44) = v := ⟨_, rfl⟩
            have bv16 : Below v15.heap.size v15 v16 := by rw [← hv16]; exact (Below.refl _ _).alloc (Nat.le_refl _) _
            have Bv16 : Blk v16 v15.heap.size 44 #[.string ⟨#[78, 105, 108]⟩, .bool false, .int .u8 0, .string ⟨#[]⟩, .int .i64 0, .slice none 0 0, .string ⟨#[67, 111, 110, 115]⟩, .bool true, .int .u8 4, .string ⟨#[]⟩, .int .i64 0, .slice (some ⟨m15, 0, none⟩) 2 2] := by rw [← hv16]; exact Blk.new _ _ _
            obtain ⟨m16, hm16⟩ : ∃ v, v15.heap.size = v := ⟨_, rfl⟩
            rw [hm16] at Bv16
            have Hv16 := Lib.hid (And.intro hv16 (And.intro hm16 (And.intro bv16 Bv16)))
            have Tv16 : Hid (Below w1.heap.size w1 v16) := Lib.hid (Tv15.out.trans (bv16.mono Tv15.out.size))
            clear hv16 hm16 bv16 Bv16
            go_simp
            (try rw [Hv16.out.1])
            (try rw [Hv16.out.2.1])
            refine hK.out _ _ (HS.out _ Tv16.out) (fun hHeld => ?_)
            clear hK K
            refine takeY 10 (some 13) rfl rfl (by kernel_rfl) (by kernel_rfl) (by kernel_rfl) (fun _ _ _ h => h) (by rfl) (v := _) (by (intro _ hSw; (try dsimp only at hSw); go_simp; try with_reducible rfl)) hHeld ?_
            simp only [Act.put, List.setIfInBounds_toArray, List.set_cons_zero, List.set_cons_succ]
            refine wpAnyH_ready (rs := [11]) (by kernel_rfl) (by simp) ?_
            refine AllReadyH.cons rfl (fun K hK => ?_) AllReadyH.nil
            · have FV := ((((Hv14.out.2.2.2).below Hv15.out.2.2.1 (Hv14.out.2.2.2).lt)).below Hv16.out.2.2.1 (((Hv14.out.2.2.2).below Hv15.out.2.2.1 (Hv14.out.2.2.2).lt)).lt)
              have FK := ((((((((Hv7.out.2.2.2).below Hv13.out.2.2.1 (Hv7.out.2.2.2).lt)).below Hv14.out.2.2.1 (((Hv7.out.2.2.2).below Hv13.out.2.2.1 (Hv7.out.2.2.2).lt)).lt)).below Hv15.out.2.2.1 (((((Hv7.out.2.2.2).below Hv13.out.2.2.1 (Hv7.out.2.2.2).lt)).below Hv14.out.2.2.1 (((Hv7.out.2.2.2).below Hv13.out.2.2.1 (Hv7.out.2.2.2).lt)).lt)).lt)).below Hv16.out.2.2.1 (((((((Hv7.out.2.2.2).below Hv13.out.2.2.1 (Hv7.out.2.2.2).lt)).below Hv14.out.2.2.1 (((Hv7.out.2.2.2).below Hv13.out.2.2.1 (Hv7.out.2.2.2).lt)).lt)).below Hv15.out.2.2.1 (((((Hv7.out.2.2.2).below Hv13.out.2.2.1 (Hv7.out.2.2.2).lt)).below Hv14.out.2.2.1 (((Hv7.out.2.2.2).below Hv13.out.2.2.1 (Hv7.out.2.2.2).lt)).lt)).lt)).lt)
              have FP := ((Hv15.out.2.2.2).below Hv16.out.2.2.1 (Hv15.out.2.2.2).lt)
              have FC := Hv16.out.2.2.2
              have F0 := H0.out.1.below Tv16.out H0.out.1.lt
              obtain ⟨z, hz⟩ : ∃ z, (((((((((((((((v16.setCell ⟨p0, 0, none⟩ (.int .u8 1)).setCell ⟨p0, 1, none⟩ (.string ⟨#[108, 105, 115, 116]⟩)).setCell ⟨p0, 2, none⟩ (.slice (some ⟨m14, 0, none⟩) 1 1)).setCell ⟨p0, 3, none⟩ (.slice (some ⟨m16, 0, none⟩) 2 2)).setCell ⟨p0, 4, none⟩ (.slice none 0 0)).setCell ⟨p0, 5, none⟩ (.int .u8 0)).setCell ⟨p0, 6, none⟩ (.string ⟨#[]⟩)).setCell ⟨p0, 7, none⟩ (.int .i64 0)).setCell ⟨p0, 8, none⟩ (.slice none 0 0)).setCell ⟨p0, 9, none⟩ (.int .u8 0)).setCell ⟨p0, 10, none⟩ (.string ⟨#[]⟩)).setCell ⟨p0, 11, none⟩ (.int .i64 0)).setCell ⟨p0, 12, none⟩ (.string ⟨#[]⟩)).setCell ⟨p0, 13, none⟩ (.slice none 0 0)).setCell ⟨p0, 14, none⟩ (.slice none 0 0)).setCell ⟨p0, 15, none⟩ (.slice none 0 0) = z := ⟨_, rfl⟩
              have FE := Lib.hid (list_end F0 FV FK FP FC (by have h1 := Tv13.out.size; have h2 := H0.out.1.lt; have h3 := Hv14.out.2.1; omega) (by have h1 := Twd.out.size; have h2 := H0.out.1.lt; have h3 := Hv7.out.2.1; omega) (by have h1 := Tv14.out.size; have h2 := H0.out.1.lt; have h3 := Hv15.out.2.1; omega) (by have h1 := Tv15.out.size; have h2 := H0.out.1.lt; have h3 := Hv16.out.2.1; omega) z hz)
              have FB : Hid (Below w1.heap.size w1 v16) := Tv16
              have hzz : Below w.heap.size w z := (H0.out.2.trans (FB.out.mono H0.out.2.size)).trans (FE.out.2.2.below (H0.out.2.trans (FB.out.mono H0.out.2.size)).size (fun k e => by rw [e]; exact Nat.le_of_eq HP0.out))
              have HZ := Lib.hid (And.intro hz hzz)
              have f0 := F0.cell 0
              have f1 := F0.cell 1
              have f2 := F0.cell 2
              have f3 := F0.cell 3
              have f4 := F0.cell 4
              have f5 := F0.cell 5
              have f6 := F0.cell 6
              have f7 := F0.cell 7
              have f8 := F0.cell 8
              have f9 := F0.cell 9
              have f10 := F0.cell 10
              have f11 := F0.cell 11
              have f12 := F0.cell 12
              have f13 := F0.cell 13
              have f14 := F0.cell 14
              have f15 := F0.cell 15
              have ff := F0.frozen
              simp only [List.getElem?_toArray, List.getElem?_cons_zero, List.getElem?_cons_succ] at f0 f1 f2 f3 f4 f5 f6 f7 f8 f9 f10 f11 f12 f13 f14 f15
              clear F0 FV FK FP FC hz hzz
              go_simp
              (try rw [HZ.out.1])
              refine hK.out _ _ (HSO.out _ _ FB.out FE.out.2.2) (fun hHeld => ?_)
              clear hK K
              refine wpAnyH_done (by kernel_rfl) ?_ _
              clear hHeld f0 f1 f2 f3 f4 f5 f6 f7 f8 f9 f10 f11 f12 f13 f14 f15 ff
              go_wp2_with fail
              refine bodyPost_ret (results_cell_row rfl _ _ p0 42 _ (0, 0) _ rfl FE.out.1 Tryz.underlying42 rfl (by kernel_rfl)) rfl ?_
              exact ⟨⟨_, _, rfl, FE.out.2.1⟩, HZ.out.2⟩
      · obtain ⟨v18, hv18⟩ : ∃ v, v13.alloc (.cells #[.int .u8 1, .string ⟨#[39, 97]⟩, .int .i64 0, .slice none 0 0, .int .u8 2, .string ⟨#[108, 105, 115, 116]⟩, .int .i64 0, .slice (some ⟨m7, 0, none⟩) 1 1] 24) = v := ⟨_, rfl⟩
        have bv18 : Below v13.heap.size v13 v18 := by rw [← hv18]; exact (Below.refl _ _).alloc (Nat.le_refl _) _
        have Bv18 : Blk v18 v13.heap.size 24 #[.int .u8 1, .string ⟨#[39, 97]⟩, .int .i64 0, .slice none 0 0, .int .u8 2, .string ⟨#[108, 105, 115, 116]⟩, .int .i64 0, .slice (some ⟨m7, 0, none⟩) 1 1] := by rw [← hv18]; exact Blk.new _ _ _
        obtain ⟨m18, hm18⟩ : ∃ v, v13.heap.size = v := ⟨_, rfl⟩
        rw [hm18] at Bv18
        have Hv18 := Lib.hid (And.intro hv18 (And.intro hm18 (And.intro bv18 Bv18)))
        have Tv18 : Hid (Below w1.heap.size w1 v18) := Lib.hid (Tv13.out.trans (bv18.mono Tv13.out.size))
        clear hv18 hm18 bv18 Bv18
        go_simp
        (try rw [Hv18.out.1])
        (try rw [Hv18.out.2.1])
        refine hK.out _ _ (HS.out _ Tv18.out) (fun hHeld => ?_)
        clear hK K
        refine takeY 7 (some 10) rfl rfl (by kernel_rfl) (by kernel_rfl) (by kernel_rfl) (fun _ _ _ h => h) (by rfl) (v := _) (by (intro _ hSw; (try dsimp only at hSw); go_simp; try with_reducible rfl)) hHeld ?_
        simp only [Act.put, List.setIfInBounds_toArray, List.set_cons_zero, List.set_cons_succ]
        refine takeY 8 (some 11) rfl rfl (by kernel_rfl) (by kernel_rfl) (by kernel_rfl) (fun _ _ _ h => h) (by rfl) (v := _) (by (intro _ hSw; (try dsimp only at hSw); go_simp; try with_reducible rfl)) hHeld ?_
        simp only [Act.put, List.setIfInBounds_toArray, List.set_cons_zero, List.set_cons_succ]
        refine wpAnyH_ready (rs := [0, 9]) (by kernel_rfl) (by simp) ?_
        refine AllReadyH.cons rfl (fun K hK => ?_) (AllReadyH.cons rfl (fun K hK => ?_) AllReadyH.nil)
        · obtain ⟨v19, hv19⟩ : ∃ v, v18.alloc (.cells #[.string ⟨#[39, 97]⟩] 9) = v := ⟨_, rfl⟩
          have bv19 : Below v18.heap.size v18 v19 := by rw [← hv19]; exact (Below.refl _ _).alloc (Nat.le_refl _) _
          have Bv19 : Blk v19 v18.heap.size 9 #[.string ⟨#[39, 97]⟩] := by rw [← hv19]; exact Blk.new _ _ _
          obtain ⟨m19, hm19⟩ : ∃ v, v18.heap.size = v := ⟨_, rfl⟩
          rw [hm19] at Bv19
          have Hv19 := Lib.hid (And.intro hv19 (And.intro hm19 (And.intro bv19 Bv19)))
          have Tv19 : Hid (Below w1.heap.size w1 v19) := Lib.hid (Tv18.out.trans (bv19.mono Tv18.out.size))
          clear hv19 hm19 bv19 Bv19
          go_simp
          (try rw [Hv19.out.1])
          (try rw [Hv19.out.2.1])
          refine hK.out _ _ (HS.out _ Tv19.out) (fun hHeld => ?_)
          clear hK K
          refine wpAnyH_ready (rs := [9]) (by kernel_rfl) (by simp) ?_
          refine AllReadyH.cons rfl (fun K hK => ?_) AllReadyH.nil
          · obtain ⟨v20, hv20⟩ : ∃ v, v19.alloc (.cells #[.string ⟨#[78, 105, 108]⟩, .bool false, .int .u8 0, .string ⟨#[]⟩, .int .i64 0, .slice none 0 0, .string ⟨#[67, 111, 110, 115]⟩, .bool true, .int .u8 4, .string ⟨#[]⟩, .int .i64 0, .slice (some ⟨m18, 0, none⟩) 2 2] 44) = v := ⟨_, rfl⟩
            have bv20 : Below v19.heap.size v19 v20 := by rw [← hv20]; exact (Below.refl _ _).alloc (Nat.le_refl _) _
            have Bv20 : Blk v20 v19.heap.size 44 #[.string ⟨#[78, 105, 108]⟩, .bool false, .int .u8 0, .string ⟨#[]⟩, .int .i64 0, .slice none 0 0, .string ⟨#[67, 111, 110, 115]⟩, .bool true, .int .u8 4, .string ⟨#[]⟩, .int .i64 0, .slice (some ⟨m18, 0, none⟩) 2 2] := by rw [← hv20]; exact Blk.new _ _ _
            obtain ⟨m20, hm20⟩ : ∃ v, v19.heap.size = v := ⟨_, rfl⟩
            rw [hm20] at Bv20
            have Hv20 := Lib.hid (And.intro hv20 (And.intro hm20 (And.intro bv20 Bv20)))
            have Tv20 : Hid (Below w1.heap.size w1 v20) := Lib.hid (Tv19.out.trans (bv20.mono Tv19.out.size))
            clear hv20 hm20 bv20 Bv20
            go_simp
            (try rw [Hv20.out.1])
            (try rw [Hv20.out.2.1])
            refine hK.out _ _ (HS.out _ Tv20.out) (fun hHeld => ?_)
            clear hK K
            refine takeY 10 (some 13) rfl rfl (by kernel_rfl) (by kernel_rfl) (by kernel_rfl) (fun _ _ _ h => h) (by rfl) (v := _) (by (intro _ hSw; (try dsimp only at hSw); go_simp; try with_reducible rfl)) hHeld ?_
            simp only [Act.put, List.setIfInBounds_toArray, List.set_cons_zero, List.set_cons_succ]
            refine wpAnyH_ready (rs := [11]) (by kernel_rfl) (by simp) ?_
            refine AllReadyH.cons rfl (fun K hK => ?_) AllReadyH.nil
            · have FV := ((Hv19.out.2.2.2).below Hv20.out.2.2.1 (Hv19.out.2.2.2).lt)
              have FK := ((((((((Hv7.out.2.2.2).below Hv13.out.2.2.1 (Hv7.out.2.2.2).lt)).below Hv18.out.2.2.1 (((Hv7.out.2.2.2).below Hv13.out.2.2.1 (Hv7.out.2.2.2).lt)).lt)).below Hv19.out.2.2.1 (((((Hv7.out.2.2.2).below Hv13.out.2.2.1 (Hv7.out.2.2.2).lt)).below Hv18.out.2.2.1 (((Hv7.out.2.2.2).below Hv13.out.2.2.1 (Hv7.out.2.2.2).lt)).lt)).lt)).below Hv20.out.2.2.1 (((((((Hv7.out.2.2.2).below Hv13.out.2.2.1 (Hv7.out.2.2.2).lt)).below Hv18.out.2.2.1 (((Hv7.out.2.2.2).below Hv13.out.2.2.1 (Hv7.out.2.2.2).lt)).lt)).below Hv19.out.2.2.1 (((((Hv7.out.2.2.2).below Hv13.out.2.2.1 (Hv7.out.2.2.2).lt)).below Hv18.out.2.2.1 (((Hv7.out.2.2.2).below Hv13.out.2.2.1 (Hv7.out.2.2.2).lt)).lt)).lt)).lt)
              have FP := ((((Hv18.out.2.2.2).below Hv19.out.2.2.1 (Hv18.out.2.2.2).lt)).below Hv20.out.2.2.1 (((Hv18.out.2.2.2).below Hv19.out.2.2.1 (Hv18.out.2.2.2).lt)).lt)
              have FC := Hv20.out.2.2.2
              have F0 := H0.out.1.below Tv20.out H0.out.1.lt
              obtain ⟨z, hz⟩ : ∃ z, (((((((((((((((v20.setCell ⟨p0, 0, none⟩ (.int .u8 1)).setCell ⟨p0, 1, none⟩ (.string ⟨#[108, 105, 115, 116]⟩)).setCell ⟨p0, 2, none⟩ (.slice (some ⟨m19, 0, none⟩) 1 1)).setCell ⟨p0, 3, none⟩ (.slice (some ⟨m20, 0, none⟩) 2 2)).setCell ⟨p0, 4, none⟩ (.slice none 0 0)).setCell ⟨p0, 5, none⟩ (.int .u8 0)).setCell ⟨p0, 6, none⟩ (.string ⟨#[]⟩)).setCell ⟨p0, 7, none⟩ (.int .i64 0)).setCell ⟨p0, 8, none⟩ (.slice none 0 0)).setCell ⟨p0, 9, none⟩ (.int .u8 0)).setCell ⟨p0, 10, none⟩ (.string ⟨#[]⟩)).setCell ⟨p0, 11, none⟩ (.int .i64 0)).setCell ⟨p0, 12, none⟩ (.string ⟨#[]⟩)).setCell ⟨p0, 13, none⟩ (.slice none 0 0)).setCell ⟨p0, 14, none⟩ (.slice none 0 0)).setCell ⟨p0, 15, none⟩ (.slice none 0 0) = z := ⟨_, rfl⟩
              have FE := Lib.hid (list_end F0 FV FK FP FC (by have h1 := Tv18.out.size; have h2 := H0.out.1.lt; have h3 := Hv19.out.2.1; omega) (by have h1 := Twd.out.size; have h2 := H0.out.1.lt; have h3 := Hv7.out.2.1; omega) (by have h1 := Tv13.out.size; have h2 := H0.out.1.lt; have h3 := Hv18.out.2.1; omega) (by have h1 := Tv19.out.size; have h2 := H0.out.1.lt; have h3 := Hv20.out.2.1; omega) z hz)
              have FB : Hid (Below w1.heap.size w1 v20) := Tv20
              have hzz : Below w.heap.size w z := (H0.out.2.trans (FB.out.mono H0.out.2.size)).trans (FE.out.2.2.below (H0.out.2.trans (FB.out.mono H0.out.2.size)).size (fun k e => by rw [e]; exact Nat.le_of_eq HP0.out))
              have HZ := Lib.hid (And.intro hz hzz)
              have f0 := F0.cell 0
              have f1 := F0.cell 1
              have f2 := F0.cell 2
              have f3 := F0.cell 3
              have f4 := F0.cell 4
              have f5 := F0.cell 5
              have f6 := F0.cell 6
              have f7 := F0.cell 7
              have f8 := F0.cell 8
              have f9 := F0.cell 9
              have f10 := F0.cell 10
              have f11 := F0.cell 11
              have f12 := F0.cell 12
              have f13 := F0.cell 13
              have f14 := F0.cell 14
              have f15 := F0.cell 15
              have ff := F0.frozen
              simp only [List.getElem?_toArray, List.getElem?_cons_zero, List.getElem?_cons_succ] at f0 f1 f2 f3 f4 f5 f6 f7 f8 f9 f10 f11 f12 f13 f14 f15
              clear F0 FV FK FP FC hz hzz
              go_simp
              (try rw [HZ.out.1])
              refine hK.out _ _ (HSO.out _ _ FB.out FE.out.2.2) (fun hHeld => ?_)
              clear hK K
              refine wpAnyH_done (by kernel_rfl) ?_ _
              clear hHeld f0 f1 f2 f3 f4 f5 f6 f7 f8 f9 f10 f11 f12 f13 f14 f15 ff
              go_wp2_with fail
              refine bodyPost_ret (results_cell_row rfl _ _ p0 42 _ (0, 0) _ rfl FE.out.1 Tryz.underlying42 rfl (by kernel_rfl)) rfl ?_
              exact ⟨⟨_, _, rfl, FE.out.2.1⟩, HZ.out.2⟩
        · obtain ⟨v22, hv22⟩ : ∃ v, v18.alloc (.cells #[.string ⟨#[78, 105, 108]⟩, .bool false, .int .u8 0, .string ⟨#[]⟩, .int .i64 0, .slice none 0 0, .string ⟨#[67, 111, 110, 115]⟩, .bool true, .int .u8 4, .string ⟨#[]⟩, .int .i64 0, .slice (some ⟨m18, 0, none⟩) 2 2] 44) = v := ⟨_, rfl⟩
          have bv22 : Below v18.heap.size v18 v22 := by rw [← hv22]; exact (Below.refl _ _).alloc (Nat.le_refl _) _
          have Bv22 : Blk v22 v18.heap.size 44 #[.string ⟨#[78, 105, 108]⟩, .bool false, .int .u8 0, .string ⟨#[]⟩, .int .i64 0, .slice none 0 0, .string ⟨#[67, 111, 110, 115]⟩, .bool true, .int .u8 4, .string ⟨#[]⟩, .int .i64 0, .slice (some ⟨m18, 0, none⟩) 2 2] := by rw [← hv22]; exact Blk.new _ _ _
          obtain ⟨m22, hm22⟩ : ∃ v, v18.heap.size = v := ⟨_, rfl⟩
          rw [hm22] at Bv22
          have Hv22 := Lib.hid (And.intro hv22 (And.intro hm22 (And.intro bv22 Bv22)))
          have Tv22 : Hid (Below w1.heap.size w1 v22) := Lib.hid (Tv18.out.trans (bv22.mono Tv18.out.size))
          clear hv22 hm22 bv22 Bv22
          go_simp
          (try rw [Hv22.out.1])
          (try rw [Hv22.out.2.1])
          refine hK.out _ _ (HS.out _ Tv22.out) (fun hHeld => ?_)
          clear hK K
          refine wpAnyH_ready (rs := [0]) (by kernel_rfl) (by simp) ?_
          refine AllReadyH.cons rfl (fun K hK => ?_) AllReadyH.nil
          · obtain ⟨v23, hv23⟩ : ∃ v, v22.alloc (.cells #[.string ⟨#[39, 97]⟩] 9) = v := ⟨_, rfl⟩
            have bv23 : Below v22.heap.size v22 v23 := by rw [← hv23]; exact (Below.refl _ _).alloc (Nat.le_refl _) _
            have Bv23 : Blk v23 v22.heap.size 9 #[.string ⟨#[39, 97]⟩] := by rw [← hv23]; exact Blk.new _ _ _
            obtain ⟨m23, hm23⟩ : ∃ v, v22.heap.size = v := ⟨_, rfl⟩
            rw [hm23] at Bv23
            have Hv23 := Lib.hid (And.intro hv23 (And.intro hm23 (And.intro bv23 Bv23)))
            have Tv23 : Hid (Below w1.heap.size w1 v23) := Lib.hid (Tv22.out.trans (bv23.mono Tv22.out.size))
            clear hv23 hm23 bv23 Bv23
            go_simp
            (try rw [Hv23.out.1])
            (try rw [Hv23.out.2.1])
            refine hK.out _ _ (HS.out _ Tv23.out) (fun hHeld => ?_)
            clear hK K
            refine takeY 10 (some 13) rfl rfl (by kernel_rfl) (by kernel_rfl) (by kernel_rfl) (fun _ _ _ h => h) (by rfl) (v := _) (by (intro _ hSw; (try dsimp only at hSw); go_simp; try with_reducible rfl)) hHeld ?_
            simp only [Act.put, List.setIfInBounds_toArray, List.set_cons_zero, List.set_cons_succ]
            refine wpAnyH_ready (rs := [11]) (by kernel_rfl) (by simp) ?_
            refine AllReadyH.cons rfl (fun K hK => ?_) AllReadyH.nil
            · have FV := Hv23.out.2.2.2
              have FK := ((((((((Hv7.out.2.2.2).below Hv13.out.2.2.1 (Hv7.out.2.2.2).lt)).below Hv18.out.2.2.1 (((Hv7.out.2.2.2).below Hv13.out.2.2.1 (Hv7.out.2.2.2).lt)).lt)).below Hv22.out.2.2.1 (((((Hv7.out.2.2.2).below Hv13.out.2.2.1 (Hv7.out.2.2.2).lt)).below Hv18.out.2.2.1 (((Hv7.out.2.2.2).below Hv13.out.2.2.1 (Hv7.out.2.2.2).lt)).lt)).lt)).below Hv23.out.2.2.1 (((((((Hv7.out.2.2.2).below Hv13.out.2.2.1 (Hv7.out.2.2.2).lt)).below Hv18.out.2.2.1 (((Hv7.out.2.2.2).below Hv13.out.2.2.1 (Hv7.out.2.2.2).lt)).lt)).below Hv22.out.2.2.1 (((((Hv7.out.2.2.2).below Hv13.out.2.2.1 (Hv7.out.2.2.2).lt)).below Hv18.out.2.2.1 (((Hv7.out.2.2.2).below Hv13.out.2.2.1 (Hv7.out.2.2.2).lt)).lt)).lt)).lt)
              have FP := ((((Hv18.out.2.2.2).below Hv22.out.2.2.1 (Hv18.out.2.2.2).lt)).below Hv23.out.2.2.1 (((Hv18.out.2.2.2).below Hv22.out.2.2.1 (Hv18.out.2.2.2).lt)).lt)
              have FC := ((Hv22.out.2.2.2).below Hv23.out.2.2.1 (Hv22.out.2.2.2).lt)
              have F0 := H0.out.1.below Tv23.out H0.out.1.lt
              obtain ⟨z, hz⟩ : ∃ z, (((((((((((((((v23.setCell ⟨p0, 0, none⟩ (.int .u8 1)).setCell ⟨p0, 1, none⟩ (.string ⟨#[108, 105, 115, 116]⟩)).setCell ⟨p0, 2, none⟩ (.slice (some ⟨m23, 0, none⟩) 1 1)).setCell ⟨p0, 3, none⟩ (.slice (some ⟨m22, 0, none⟩) 2 2)).setCell ⟨p0, 4, none⟩ (.slice none 0 0)).setCell ⟨p0, 5, none⟩ (.int .u8 0)).setCell ⟨p0, 6, none⟩ (.string ⟨#[]⟩)).setCell ⟨p0, 7, none⟩ (.int .i64 0)).setCell ⟨p0, 8, none⟩ (.slice none 0 0)).setCell ⟨p0, 9, none⟩ (.int .u8 0)).setCell ⟨p0, 10, none⟩ (.string ⟨#[]⟩)).setCell ⟨p0, 11, none⟩ (.int .i64 0)).setCell ⟨p0, 12, none⟩ (.string ⟨#[]⟩)).setCell ⟨p0, 13, none⟩ (.slice none 0 0)).setCell ⟨p0, 14, none⟩ (.slice none 0 0)).setCell ⟨p0, 15, none⟩ (.slice none 0 0) = z := ⟨_, rfl⟩
              have FE := Lib.hid (list_end F0 FV FK FP FC (by have h1 := Tv22.out.size; have h2 := H0.out.1.lt; have h3 := Hv23.out.2.1; omega) (by have h1 := Twd.out.size; have h2 := H0.out.1.lt; have h3 := Hv7.out.2.1; omega) (by have h1 := Tv13.out.size; have h2 := H0.out.1.lt; have h3 := Hv18.out.2.1; omega) (by have h1 := Tv18.out.size; have h2 := H0.out.1.lt; have h3 := Hv22.out.2.1; omega) z hz)
              have FB : Hid (Below w1.heap.size w1 v23) := Tv23
              have hzz : Below w.heap.size w z := (H0.out.2.trans (FB.out.mono H0.out.2.size)).trans (FE.out.2.2.below (H0.out.2.trans (FB.out.mono H0.out.2.size)).size (fun k e => by rw [e]; exact Nat.le_of_eq HP0.out))
              have HZ := Lib.hid (And.intro hz hzz)
              have f0 := F0.cell 0
              have f1 := F0.cell 1
              have f2 := F0.cell 2
              have f3 := F0.cell 3
              have f4 := F0.cell 4
              have f5 := F0.cell 5
              have f6 := F0.cell 6
              have f7 := F0.cell 7
              have f8 := F0.cell 8
              have f9 := F0.cell 9
              have f10 := F0.cell 10
              have f11 := F0.cell 11
              have f12 := F0.cell 12
              have f13 := F0.cell 13
              have f14 := F0.cell 14
              have f15 := F0.cell 15
              have ff := F0.frozen
              simp only [List.getElem?_toArray, List.getElem?_cons_zero, List.getElem?_cons_succ] at f0 f1 f2 f3 f4 f5 f6 f7 f8 f9 f10 f11 f12 f13 f14 f15
              clear F0 FV FK FP FC hz hzz
              go_simp
              (try rw [HZ.out.1])
              refine hK.out _ _ (HSO.out _ _ FB.out FE.out.2.2) (fun hHeld => ?_)
              clear hK K
              refine wpAnyH_done (by kernel_rfl) ?_ _
              clear hHeld f0 f1 f2 f3 f4 f5 f6 f7 f8 f9 f10 f11 f12 f13 f14 f15 ff
              go_wp2_with fail
              refine bodyPost_ret (results_cell_row rfl _ _ p0 42 _ (0, 0) _ rfl FE.out.1 Tryz.underlying42 rfl (by kernel_rfl)) rfl ?_
              exact ⟨⟨_, _, rfl, FE.out.2.1⟩, HZ.out.2⟩
end Go.Proofs.YtadogebhkldeiaaGreatDoor
