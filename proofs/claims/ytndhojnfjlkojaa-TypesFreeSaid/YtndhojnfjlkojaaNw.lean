/- types: New, Fresh; the reference's, and books. -/
import Derived.Test.YtndhojnfjlkojaaX
import Derived.Test.YtndhojnfjlkojaaM
namespace Go.Proofs.Ytndhojnfjlkojaa
open Go.RowKit
set_option linter.unusedVariables false
set_option linter.unusedSimpArgs false
attribute [local go_sem] Oper.semAt_some
open Ty
theorem BM.new_ {w1 : World} {g : Nat} (hb : Blk w1 g 63 #[.slice none 0 0, .slice none 0 0]) : BM w1 g 0 [] (.slice none 0 0) (.slice none 0 0) :=
  ⟨hb, ⟨[], World.ownsRow_nil _ _ _ _, fun x hx => by omega⟩, World.ownsRow_nil _ _ _ _, (fun e => by cases e), (fun e => by cases e), (fun b e => by cases e), Nat.le_refl 0, by omega⟩
/-- A book that is new. -/
structure NewB (w w' : World) (g N : Nat) (vb vt : Value) : Prop where
  bm : BM w' g N [] vb vt
  bel : Below w.heap.size w w'
  mt : ∀ b, Mut g vb vt b → w.heap.size ≤ b
set_option maxRecDepth 20000 in
set_option maxHeartbeats 2000000 in
theorem new_any (w : World) : Calls Try.prog 29 #[] w fun e w' => ∃ g, e = .returned (.pointer (some ⟨g, 0, none⟩)) ∧ NewB w w' g 0 (.slice none 0 0) (.slice none 0 0) := by
  obtain ⟨w1, hw1⟩ : ∃ w1, w.alloc (.cells #[.slice none 0 0, .slice none 0 0] 63) = w1 := ⟨_, rfl⟩
  have hb : Below w.heap.size w w1 := by rw [← hw1]; exact (Below.refl _ _).alloc (Nat.le_refl _) _
  have hB : Blk w1 w.heap.size 63 #[.slice none 0 0, .slice none 0 0] := by rw [← hw1]; exact Blk.new _ _ _
  have HB : Hid (NewB w w1 w.heap.size 0 (.slice none 0 0) (.slice none 0 0)) := Lib.hid ⟨BM.new_ hB, hb, fun b h => by rcases h with h | h | h; omega; cases h; cases h⟩
  clear hb hB
  go_enter Try.func29, Try.ntmps29
  go_wp2_with fail
  (try rw [hw1])
  go_ret
  exact ⟨_, rfl, HB.out⟩
/-- One unknown more. -/
theorem BM.fresh {w : World} {g N : Nat} {vb vt : Value} (h : BM w g N [] vb vt) (hN : N < 100000) {W : World} {q : Nat} (hW : Below w.heap.size w W) (hq : W.cell? ⟨q, 0, none⟩ = some (.pointer none)) :
    ∃ vb' w2, (Builtin.append_ #[61, 61] 61 #[vb, .slice (some ⟨q, 0, none⟩) 1 1]).run Try.prog W = .ok vb' w2 ∧ (∃ A c, vb' = .slice A (N + 1) c) ∧ w2.cell? ⟨g, 0, none⟩ = some vb ∧ (∀ j, w2.frozen? ⟨g, j, none⟩ = false) ∧ Off (fun b => vb.ownBlock = some b) W w2 ∧
      BM (w2.setCell ⟨g, 0, none⟩ vb') g (N + 1) [] vb' vt ∧ Go w g vb vt (w2.setCell ⟨g, 0, none⟩ vb') vb' vt := by
  have hB := h.bel hW
  obtain ⟨ps, h1, h2⟩ := hB.bnd
  have hI : (Try.prog.info? 67).map (fun i => (i.zero, i.size, i.bytes)) = some (some (.pointer none), 1, 8) := by kernel_rfl
  obtain ⟨i0, hi, hz0, hz1, hz2⟩ := info_parts hI
  have hcell : ∀ (j : Nat) (u : Value), [Value.pointer none][j]? = some u → W.cell? ((⟨q, 0, none⟩ : Addr).add j) = some u := fun j u hj => by
    have e2 : (⟨q, 0, none⟩ : Addr).add j = ⟨q, 0 + j, none⟩ := by unfold Addr.add; split <;> simp_all
    rw [e2, Nat.zero_add]
    rcases j with _ | j
    · cases hj; exact hq
    · simp at hj
  obtain ⟨vb', w2, hrun, k2, k3, _, k5⟩ := run_append_own_at (P := Try.prog) W 0 61 61 67 i0 (.pointer none) 1 8 Try.underlying61 hi hz0 hz1 hz2 rfl (by decide) _ N _ h1 ⟨q, 0, none⟩ 1 1 [.pointer none] (by simp) hcell
    (fun u hu => by rw [List.mem_singleton.1 hu]; rfl) (by unfold maxLen; omega) (by omega) (Nat.zero_le _)
  have hoa := Off.of_grown k3
  have hg2 : Blk w2 g 63 #[vb, vt] := hB.blk.off hoa (fun e => h.nb e)
  have hnew : ∀ b, Mut g vb' vt b → Mut g vb vt b ∨ w.heap.size ≤ b := fun b hb => by
    rcases hb with hb | hb | hb
    · exact .inl (.inl hb)
    · rcases k5 with k5 | k5
      · rw [k5] at hb; exact .inl (.inr (.inl hb))
      · rw [k5] at hb
        have := Option.some.inj hb
        have := hW.size
        exact .inr (by omega)
    · exact .inl (.inr (.inr hb))
  have ho2 : Off (fun b => vb.ownBlock = some b) W w2 := hoa
  have hgo : Go w g vb vt (w2.setCell ⟨g, 0, none⟩ vb') vb' vt :=
    ⟨((Off.of_new hW _).trans (ho2.mono fun b _ e => .inr (.inl e))).trans ((Off.setc w2 g 0 _).mono fun b _ e => .inl e), hnew⟩
  have hfl : ∀ b, vb'.ownBlock = some b → b ≠ g ∧ vt.ownBlock ≠ some b := fun b hb => by
    rcases k5 with k5 | k5
    · rw [k5] at hb
      exact ⟨fun e => h.nb (by rw [hb, e]), h.bt b hb⟩
    · rw [k5] at hb
      have e1 := Option.some.inj hb
      have e2 := hB.blk.lt
      exact ⟨by omega, fun e => by have := hB.lt (.inr (.inr e)); omega⟩
  obtain ⟨A', c', hv', _, _⟩ := own_shape1 k2
  refine ⟨vb', w2, hrun, ⟨A', c', hv'⟩, hg2.cell 0, hg2.frozen, ho2, ⟨?_, ⟨ps ++ [.pointer none], ?_, fun x hx => ?_⟩, ?_, fun e => (hfl g e).1 rfl, h.nt, fun b hb => (hfl b hb).2, ?_, by omega⟩, hgo⟩
  · have := hg2.set_ 0 vb'
    simpa using this
  · exact ownsRow_setCell_other k2 (a := ⟨g, 0, none⟩) (fun e => (hfl g e).1 rfl) _
  · by_cases e : x = N
    · subst e
      have hpl : ps.length = x := by have := h1.1; omega
      exact ⟨none, by rw [List.getElem?_append_right (by omega), hpl, Nat.sub_self]; rfl, .inl ⟨rfl, rfl⟩⟩
    · obtain ⟨pv, k1, k4⟩ := h2 x (by omega)
      refine ⟨pv, by rw [List.getElem?_append_left (by have := h1.1; omega)]; exact k1, ?_⟩
      rcases k4 with k4 | ⟨t, p, A, c, k6, _⟩
      · exact .inl ⟨rfl, k4.2⟩
      · cases k6
  · exact ownsRow_setCell_other (hB.trl.kept k3 (by cases hv : vb.ownBlock with | none => (cases hv2 : vt.ownBlock with | none => exact .inl rfl | some b => exact .inr (by simp)) | some b => exact .inr fun e => h.bt b hv e)) (a := ⟨g, 0, none⟩) (fun e => h.nt e) _
  · have : nfree (N + 1) (look []) = N + 1 := by
      unfold nfree
      have : ((List.range (N + 1)).filter fun (x : Nat) => (look [] (x : Int)).isNone) = List.range (N + 1) := List.filter_eq_self.2 fun x _ => rfl
      rw [this, List.length_range]
    rw [this]; simp
set_option maxRecDepth 20000 in
set_option maxHeartbeats 4000000 in
theorem fresh_any {w : World} {g N : Nat} {vb vt : Value} (h : BM w g N [] vb vt) (hN : N < 100000) :
    Calls Try.prog 27 #[.pointer (some ⟨g, 0, none⟩)] w fun e w' => e = .returned (.agg #[.int .u8 1, .string ⟨#[]⟩, .int .i64 (N : Int), .slice none 0 0]) ∧ ∃ vb', BM w' g (N + 1) [] vb' vt ∧ Go w g vb vt w' vb' vt := by
  obtain ⟨w0, hw0⟩ : ∃ w0, w.alloc (.cells #[.int .u8 0, .string ⟨#[]⟩, .int .i64 0, .slice none 0 0] 24) = w0 := ⟨_, rfl⟩
  have hb0 : Below w.heap.size w w0 := by rw [← hw0]; exact (Below.refl _ _).alloc (Nat.le_refl _) _
  have hR0 : Blk w0 w.heap.size 24 #[.int .u8 0, .string ⟨#[]⟩, .int .i64 0, .slice none 0 0] := by rw [← hw0]; exact Blk.new _ _ _
  obtain ⟨w1, hw1⟩ : ∃ w1, w0.alloc (.cells #[.pointer none] 67) = w1 := ⟨_, rfl⟩
  have hb1 : Below w0.heap.size w0 w1 := by rw [← hw1]; exact (Below.refl _ _).alloc (Nat.le_refl _) _
  have hq1 : w1.cell? ⟨w0.heap.size, 0, none⟩ = some (.pointer none) := by rw [← hw1]; exact (Blk.new w0 67 #[.pointer none]).cell 0
  have hbw := hb0.trans (hb1.mono hb0.size)
  obtain ⟨vb', w2, hrun, ⟨A, c, rfl⟩, c0, cf, ho2, hB3, hgo⟩ := h.fresh hN hbw hq1
  have hgl := h.blk.lt
  have g0 := (h.bel hb0).blk.cell 0
  simp only [List.getElem?_toArray, List.getElem?_cons_zero] at g0
  have hR1 := hR0.below hb1 hR0.lt
  have hR2 := hR1.off ho2 (fun e => by have := h.lt (.inr (.inl e)); omega)
  have hR3 := hR2.far (p := ⟨g, 0, none⟩) (fun e => by have : w.heap.size = g := e; omega) (.slice A (N + 1) c)
  obtain ⟨w3, hw3⟩ : ∃ w3, w2.setCell ⟨g, 0, none⟩ (.slice A (N + 1) c) = w3 := ⟨_, rfl⟩
  rw [hw3] at hB3 hgo hR3
  have r0 := hR3.cell 0
  have r1 := hR3.cell 1
  have r2 := hR3.cell 2
  have r3 := hR3.cell 3
  have e0 := hB3.blk.cell 0
  simp only [List.getElem?_toArray, List.getElem?_cons_zero, List.getElem?_cons_succ] at r0 r1 r2 r3 e0
  have rf := hR3.frozen
  have hbox := hR3.set4 (.int .u8 1) (.string ⟨#[]⟩) (.int .i64 (N : Int)) (.slice none 0 0)
  have ho4 := off4 w3 w.heap.size (.int .u8 1) (.string ⟨#[]⟩) (.int .i64 (N : Int)) (.slice none 0 0)
  have hsz : w.heap.size ≤ w3.heap.size := hgo.off.size
  have hmn : ∀ b, Mut g (.slice A (N + 1) c) vt b → b ≠ w.heap.size := fun b hb e => by
    subst e
    rcases hgo.new _ hb with h1 | h1
    · have := h.lt h1; omega
    · have hbk := hR3
      rcases hb with hb | hb | hb
      · omega
      · obtain ⟨ps, h2, _⟩ := hB3.bnd
        rcases h2.2 with ⟨e, _⟩ | ⟨g2, c2, cur, e, _, h3, _⟩
        · rw [e] at hb; cases hb
        · rw [e] at hb
          have e2 := Option.some.inj hb
          subst e2
          have h4 : w3.heap[w.heap.size]? = _ := hR3
          rw [h3] at h4
          injection h4 with h4
          injection h4 with _ h5
          cases h5
      · have := h.lt (.inr (.inr hb)); omega
  have hB4 : BM ((((w3.setCell ⟨w.heap.size, 0, none⟩ (.int .u8 1)).setCell ⟨w.heap.size, 1, none⟩ (.string ⟨#[]⟩)).setCell ⟨w.heap.size, 2, none⟩ (.int .i64 (N : Int))).setCell ⟨w.heap.size, 3, none⟩ (.slice none 0 0)) g (N + 1) [] (.slice A (N + 1) c) vt := by
    obtain ⟨ps, h1, h2⟩ := hB3.bnd
    refine ⟨hB3.blk.off ho4 (fun e => by have : g = w.heap.size := e; omega), ⟨ps, ?_, fun x hx => ?_⟩, ?_, hB3.nb, hB3.nt, hB3.bt, hB3.cnt, hB3.few⟩
    · exact ownsRow_setCell_other (ownsRow_setCell_other (ownsRow_setCell_other (ownsRow_setCell_other h1 (a := ⟨w.heap.size, 0, none⟩) (fun e => hmn _ (.inr (.inl e)) rfl) _) (a := ⟨w.heap.size, 1, none⟩) (fun e => hmn _ (.inr (.inl e)) rfl) _) (a := ⟨w.heap.size, 2, none⟩) (fun e => hmn _ (.inr (.inl e)) rfl) _) (a := ⟨w.heap.size, 3, none⟩) (fun e => hmn _ (.inr (.inl e)) rfl) _
    · obtain ⟨pv, k1, k2⟩ := h2 x hx
      refine ⟨pv, k1, ?_⟩
      rcases k2 with k2 | ⟨t, p, A, c, k6, _⟩
      · exact .inl k2
      · cases k6
    · exact ownsRow_setCell_other (ownsRow_setCell_other (ownsRow_setCell_other (ownsRow_setCell_other hB3.trl (a := ⟨w.heap.size, 0, none⟩) (fun e => hmn _ (.inr (.inr e)) rfl) _) (a := ⟨w.heap.size, 1, none⟩) (fun e => hmn _ (.inr (.inr e)) rfl) _) (a := ⟨w.heap.size, 2, none⟩) (fun e => hmn _ (.inr (.inr e)) rfl) _) (a := ⟨w.heap.size, 3, none⟩) (fun e => hmn _ (.inr (.inr e)) rfl) _
  have hgo4 : Go w g vb vt ((((w3.setCell ⟨w.heap.size, 0, none⟩ (.int .u8 1)).setCell ⟨w.heap.size, 1, none⟩ (.string ⟨#[]⟩)).setCell ⟨w.heap.size, 2, none⟩ (.int .i64 (N : Int))).setCell ⟨w.heap.size, 3, none⟩ (.slice none 0 0)) (.slice A (N + 1) c) vt :=
    ⟨hgo.off.then ho4 (fun j hj e => by omega), hgo.new⟩
  have HFIN := Lib.hid (And.intro hbox (And.intro hB4 hgo4))
  have HRUN := Lib.hid hrun
  have HW0 := Lib.hid hw0
  have HW3 := Lib.hid hw3
  clear h hb0 hR0 hb1 hq1 hbw hrun ho2 hB3 hgo hR1 hR2 hR3 hbox ho4 hmn hB4 hgo4 hw0 hw3 hsz hgl
  go_enter Try.func27, Try.ntmps27
  go_upto_region 1 with fail
  rw [HW0.out]
  clear HW0
  go_upto_region 4 with (at_builtin; refine wpList_app rfl _ _ 61 rfl _ _ _ _ rfl rfl HRUN.out ?_; clear HRUN)
  (try rw [HW3.out])
  clear HW3
  go_wp2_with fail
  refine bodyPost_ret (results_cell_row rfl _ _ w.heap.size 24 _ (0, 0) _ rfl HFIN.out.1 Try.underlying24 rfl (by kernel_rfl)) rfl ?_
  exact ⟨rfl, _, HFIN.out.2⟩
end Go.Proofs.Ytndhojnfjlkojaa
