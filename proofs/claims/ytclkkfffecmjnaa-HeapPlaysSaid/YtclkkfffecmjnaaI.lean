/- heap: Word, SetWord, Clean. -/
import Derived.Test.YtclkkfffecmjnaaH
namespace Go.Proofs.Ytclkkfffecmjnaa
open Go.RowKit
attribute [local go_sem] Oper.semAt_some
theorem Held.told {w : World} {R : Nat → Lab} {f : Nat} {x : Ho} {A : Option Addr} {c : Nat} (h : Held w R f x A c) : w.cell? ⟨f, 0, none⟩ = some (.int .u8 (x.o.k : Int)) ∧ w.cell? ⟨f, 1, none⟩ = some (.int .i64 x.o.tag) ∧ w.cell? ⟨f, 2, none⟩ = some (.slice A x.o.ws.length c) ∧ w.cell? ⟨f, 3, none⟩ = some (.string (str x.o.t)) ∧ w.cell? ⟨f, 4, none⟩ = some (.bool x.dirty) ∧ ∀ j, w.frozen? ⟨f, j, none⟩ = false :=
  ⟨h.blk.cell 0, h.blk.cell 1, h.blk.cell 2, h.blk.cell 3, h.blk.cell 4, h.blk.frozen⟩
theorem HM.below {w w' : World} {M : Mem} {n : Nat} {H : HS} (h : HM w M n H) (hb : Below w.heap.size w w') : HM w' M n H := h.keep hb.size fun b hR => hb.block b (h.lt b hR)
section
variable {w : World} {M : Mem} {n : Nat} {H : HS}
set_option maxRecDepth 20000 in
set_option maxHeartbeats 1000000 in
theorem word_out (h : HM w M n H) (k i : Int) (hk : (Lit.int .i64 k).wf = true) (hx : H.obj k = none ∨ ∃ x, H.obj k = some x ∧ (i < 0 ∨ (x.o.ws.length : Int) ≤ i)) :
    Calls Try.prog 44 #[.pointer (some ⟨M.g, 0, none⟩), .int .i64 k, .int .i64 i] w fun e w' => e = .returned (.tuple #[.agg #[.int .u8 0, .int .i64 0], .bool false]) ∧ Below w.heap.size w w' := by
  obtain ⟨w0, hw0⟩ : ∃ w0, w.alloc (.cells #[.int .u8 0, .int .i64 0] 37) = w0 := ⟨_, rfl⟩
  have hb : Below w.heap.size w w0 := by rw [← hw0]; exact (Below.refl _ _).alloc (Nat.le_refl _) _
  have hR : Blk w0 w.heap.size 37 #[.int .u8 0, .int .i64 0] := by rw [← hw0]; exact Blk.new _ _ _
  have r0 := hR.cell 0
  have r1 := hR.cell 1
  have rf := hR.frozen
  simp only [List.getElem?_toArray, List.getElem?_cons_zero, List.getElem?_cons_succ] at r0 r1
  have HR := Lib.hid (And.intro hb hR)
  have h0 := h.below hb
  rcases hx with hx | ⟨x, hx, hi⟩
  · have H1 := Lib.hid (at_none h0 k hk hx)
    clear h hb hR h0
    go_enter Try.func44, Try.ntmps44
    go_wp2_with fail
    refine H1.out.mono ?_
    rintro e w1 ⟨rfl, rfl⟩
    clear hw0 H1
    go_wp2_with fail
    have HB6 := (HR.out.2.set_ 0 (.int .u8 0)).set_ 1 (.int .i64 0)
    refine bodyPost_ret (results_cell_row2 rfl _ _ w.heap.size 37 _ (0, 0) _ rfl HB6 Try.underlying37 rfl (by kernel_rfl)) rfl ?_
    exact ⟨rfl, (HR.out.1.setCell (p := ⟨w.heap.size, 0, none⟩) (Nat.le_refl _) _).setCell (p := ⟨w.heap.size, 1, none⟩) (Nat.le_refl _) _⟩
  · have H1 := Lib.hid (at_some h0 k hk hx)
    obtain ⟨A, c, hh⟩ := h0.held x (HS.obj_some hx).1
    obtain ⟨_, _, q2, _⟩ := hh.told
    generalize x.o.ws.length = l at *
    by_cases hi0 : i < 0
    · clear h hb hR h0 hh hi
      go_enter Try.func44, Try.ntmps44
      go_wp2_with fail
      refine H1.out.mono ?_
      rintro e w1 ⟨rfl, rfl⟩
      clear hw0 H1
      go_wp2_with fail
      have HB6 := (HR.out.2.set_ 0 (.int .u8 0)).set_ 1 (.int .i64 0)
      refine bodyPost_ret (results_cell_row2 rfl _ _ w.heap.size 37 _ (0, 0) _ rfl HB6 Try.underlying37 rfl (by kernel_rfl)) rfl ?_
      exact ⟨rfl, (HR.out.1.setCell (p := ⟨w.heap.size, 0, none⟩) (Nat.le_refl _) _).setCell (p := ⟨w.heap.size, 1, none⟩) (Nat.le_refl _) _⟩
    · obtain ⟨j, rfl⟩ : ∃ j : Nat, i = j := ⟨i.toNat, by omega⟩
      have hd0 : decide ((j : Int) < 0) = false := by simp
      have hd1 : decide (l ≤ j) = true := by simp; omega
      have hd2 : decide ((j : Int) ≥ (l : Int)) = true := by simp; omega
      clear h hb hR h0 hh hi hi0
      go_enter Try.func44, Try.ntmps44
      go_wp2_with fail
      refine H1.out.mono ?_
      rintro e w1 ⟨rfl, rfl⟩
      clear hw0 H1
      go_wp2_with fail
      have HB6 := (HR.out.2.set_ 0 (.int .u8 0)).set_ 1 (.int .i64 0)
      refine bodyPost_ret (results_cell_row2 rfl _ _ w.heap.size 37 _ (0, 0) _ rfl HB6 Try.underlying37 rfl (by kernel_rfl)) rfl ?_
      exact ⟨rfl, (HR.out.1.setCell (p := ⟨w.heap.size, 0, none⟩) (Nat.le_refl _) _).setCell (p := ⟨w.heap.size, 1, none⟩) (Nat.le_refl _) _⟩
set_option maxRecDepth 20000 in
set_option maxHeartbeats 1000000 in
theorem word_nil (k i : Int) (w : World) :
    Calls Try.prog 44 #[.pointer none, .int .i64 k, .int .i64 i] w fun e w' => e = .returned (.tuple #[.agg #[.int .u8 0, .int .i64 0], .bool false]) ∧ Below w.heap.size w w' := by
  obtain ⟨w0, hw0⟩ : ∃ w0, w.alloc (.cells #[.int .u8 0, .int .i64 0] 37) = w0 := ⟨_, rfl⟩
  have hb : Below w.heap.size w w0 := by rw [← hw0]; exact (Below.refl _ _).alloc (Nat.le_refl _) _
  have hR : Blk w0 w.heap.size 37 #[.int .u8 0, .int .i64 0] := by rw [← hw0]; exact Blk.new _ _ _
  have r0 := hR.cell 0
  have r1 := hR.cell 1
  have rf := hR.frozen
  simp only [List.getElem?_toArray, List.getElem?_cons_zero, List.getElem?_cons_succ] at r0 r1
  have HR := Lib.hid (And.intro hb hR)
  have H1 := Lib.hid (at_nil k w0)
  clear hb hR
  go_enter Try.func44, Try.ntmps44
  go_wp2_with fail
  refine H1.out.mono ?_
  rintro e w1 ⟨rfl, rfl⟩
  clear hw0 H1
  go_wp2_with fail
  have HB6 := (HR.out.2.set_ 0 (.int .u8 0)).set_ 1 (.int .i64 0)
  refine bodyPost_ret (results_cell_row2 rfl _ _ w.heap.size 37 _ (0, 0) _ rfl HB6 Try.underlying37 rfl (by kernel_rfl)) rfl ?_
  exact ⟨rfl, (HR.out.1.setCell (p := ⟨w.heap.size, 0, none⟩) (Nat.le_refl _) _).setCell (p := ⟨w.heap.size, 1, none⟩) (Nat.le_refl _) _⟩
set_option maxRecDepth 20000 in
set_option maxHeartbeats 1000000 in
theorem word_in (h : HM w M n H) (k : Int) (i : Nat) (hk : (Lit.int .i64 k).wf = true) {x : Ho} (hx : H.obj k = some x) {z : Wd} (hz : x.o.ws[i]? = some z) (hl : x.o.ws.length ≤ 100000) :
    Calls Try.prog 44 #[.pointer (some ⟨M.g, 0, none⟩), .int .i64 k, .int .i64 (i : Int)] w fun e w' => e = .returned (.tuple #[.agg #[.int .u8 (z.k : Int), .int .i64 z.n], .bool true]) ∧ Below w.heap.size w w' := by
  obtain ⟨w0, hw0⟩ : ∃ w0, w.alloc (.cells #[.int .u8 0, .int .i64 0] 37) = w0 := ⟨_, rfl⟩
  have hb : Below w.heap.size w w0 := by rw [← hw0]; exact (Below.refl _ _).alloc (Nat.le_refl _) _
  have hR : Blk w0 w.heap.size 37 #[.int .u8 0, .int .i64 0] := by rw [← hw0]; exact Blk.new _ _ _
  have r0 := hR.cell 0
  have r1 := hR.cell 1
  have rf := hR.frozen
  simp only [List.getElem?_toArray, List.getElem?_cons_zero, List.getElem?_cons_succ] at r0 r1
  have HR := Lib.hid (And.intro hb hR)
  have h0 := h.below hb
  have H1 := Lib.hid (at_some h0 k hk hx)
  obtain ⟨A, c, hh⟩ := h0.held x (HS.obj_some hx).1
  obtain ⟨_, _, q2, _⟩ := hh.told
  have hil := (List.getElem?_eq_some_iff.1 hz).1
  obtain ⟨q, z', hA, hz', _, _, _, z0, z1, _⟩ := hh.row.at_ hil
  rw [hz] at hz'
  cases hz'
  subst hA
  generalize x.o.ws.length = l at *
  have hd0 : decide ((i : Int) < 0) = false := by simp
  have hd1 : decide (l ≤ i) = false := by simp; omega
  have hd2 : decide ((i : Int) ≥ (l : Int)) = false := by simp; omega
  clear h hb hR h0 hh hz
  go_enter Try.func44, Try.ntmps44
  go_wp2_with fail
  refine H1.out.mono ?_
  rintro e w1 ⟨rfl, rfl⟩
  clear hw0 H1
  go_wp2_with fail
  have HB6 := (HR.out.2.set_ 0 (.int .u8 (z.k : Int))).set_ 1 (.int .i64 z.n)
  refine bodyPost_ret (results_cell_row2 rfl _ _ w.heap.size 37 _ (0, 0) _ rfl HB6 Try.underlying37 rfl (by kernel_rfl)) rfl ?_
  exact ⟨rfl, (HR.out.1.setCell (p := ⟨w.heap.size, 0, none⟩) (Nat.le_refl _) _).setCell (p := ⟨w.heap.size, 1, none⟩) (Nat.le_refl _) _⟩
theorem clean_nil (k : Int) (w : World) : Calls Try.prog 46 #[.pointer none, .int .i64 k] w fun e w' => e = .returned (.bool false) ∧ w = w' := by
  have H1 := Lib.hid (at_nil k w)
  go_enter Try.func46, Try.ntmps46
  go_wp2_with fail
  refine H1.out.mono ?_
  rintro e w1 ⟨rfl, rfl⟩
  go_wp2_with fail
  go_ret
  exact ⟨rfl, rfl⟩
theorem clean_no (h : HM w M n H) (k : Int) (hk : (Lit.int .i64 k).wf = true) (hx : H.obj k = none ∨ ∃ x, H.obj k = some x ∧ x.dirty = false) : Calls Try.prog 46 #[.pointer (some ⟨M.g, 0, none⟩), .int .i64 k] w fun e w' => e = .returned (.bool false) ∧ w = w' := by
  rcases hx with hx | ⟨x, hx, hd⟩
  · have H1 := Lib.hid (at_none h k hk hx)
    clear h
    go_enter Try.func46, Try.ntmps46
    go_wp2_with fail
    refine H1.out.mono ?_
    rintro e w1 ⟨rfl, rfl⟩
    go_wp2_with fail
    go_ret
    exact ⟨rfl, rfl⟩
  · have H1 := Lib.hid (at_some h k hk hx)
    obtain ⟨A, c, hh⟩ := h.held x (HS.obj_some hx).1
    obtain ⟨_, _, _, _, q4, _⟩ := hh.told
    rw [hd] at q4
    clear h hh
    go_enter Try.func46, Try.ntmps46
    go_wp2_with fail
    refine H1.out.mono ?_
    rintro e w1 ⟨rfl, rfl⟩
    go_wp2_with fail
    go_ret
    exact ⟨rfl, rfl⟩
/-- The dirty flag stored. -/
theorem HM.flag (h : HM w M n H) {x : Ho} (hx : x ∈ H.L) (d : Bool) : HM (w.setCell ⟨M.B x.h, 4, none⟩ (.bool d)) M n { H with L := updL { x with dirty := d } H.L } := by
  obtain ⟨A, c, hh⟩ := h.held x hx
  have ho : Off (fun b => b = M.B x.h) w (w.setCell ⟨M.B x.h, 4, none⟩ (.bool d)) := Off.setc _ _ _ _
  refine h.upd (y := { x with dirty := d }) hx rfl ho (fun b e => .inl (by rw [e]; exact hh.lab)) (R' := M.R) (fun _ _ => rfl) (fun b hb => Nat.lt_of_lt_of_le (h.lt b hb) ho.size) (A := A) (c := c) ⟨hh.blk.set_ 4 _, ?_, hh.lab, hh.wlab⟩
  exact hh.row.same ho.size fun p e => ho.block _ (hh.row.blk p e).2.2.2 fun e' => by
    have h1 := hh.wlab p e
    have e' : p.block = M.B x.h := e'
    rw [e', hh.lab] at h1
    cases h1
theorem clean_yes (h : HM w M n H) (k : Int) (hk : (Lit.int .i64 k).wf = true) {x : Ho} (hx : H.obj k = some x) (hd : x.dirty = true) : Calls Try.prog 46 #[.pointer (some ⟨M.g, 0, none⟩), .int .i64 k] w fun e w' => e = .returned (.bool true) ∧ w.setCell ⟨M.B x.h, 4, none⟩ (.bool false) = w' := by
  have H1 := Lib.hid (at_some h k hk hx)
  obtain ⟨A, c, hh⟩ := h.held x (HS.obj_some hx).1
  obtain ⟨_, _, _, _, q4, qf⟩ := hh.told
  rw [hd] at q4
  clear h hh
  go_enter Try.func46, Try.ntmps46
  go_wp2_with fail
  refine H1.out.mono ?_
  rintro e w1 ⟨rfl, rfl⟩
  go_wp2_with fail
  go_ret
  exact ⟨rfl, rfl⟩
end
end Go.Proofs.Ytclkkfffecmjnaa
