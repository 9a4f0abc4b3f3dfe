/- Copies. -/
import Derived.Test.YtfkhgdhfelfegaaDoorY
import Derived.Deep.AppendLies
import Derived.Deep.RegionLaw
namespace Go.Proofs.YtfkhgdhfelfegaaDoor
open Go.RowKit Bts

/-- A new row that holds what another one's cells say. -/
theorem app_new {P : Program} (w : World) (t ty e : TypeId) (i : TypeInfo) (z : Value) (bytes : Nat) (ht : P.underlying t = some (.slice e)) (hi : P.info? e = some i) (hz : i.zero = some z) (hsize : i.size = 1) (hby : i.bytes = bytes) (hzs : z.cells.size = 1)
    (g0 : Nat) (hg0 : w.heap[g0]? = some (.cells #[] e (0, 0))) (b off m c : Nat) (xs : List Value) (hl : xs.length = m) (hx : ∀ j u, xs[j]? = some u → w.cell? ⟨b, off + j, none⟩ = some u) (h1 : ∀ u ∈ xs, u.oneCell' = true)
    (hb : m * bytes ≤ 140737488355328) (hm : m ≤ 65536) :
    ∃ g c' w', (Builtin.append_ #[t, t] ty #[.slice (some ⟨g0, 0, none⟩) 0 0, .slice (some ⟨b, off, none⟩) m c]).run P w = .ok (.slice (some ⟨g, 0, none⟩) m c') w' ∧ w'.ownsRow g0 e 1 (.slice (some ⟨g, 0, none⟩) m c') m xs ∧ w.grownBy w' (some g0) ∧ g0 ≤ g := by
  have hown : w.ownsRow g0 e 1 (.slice (some ⟨g0, 0, none⟩) 0 0) 0 [] := ⟨rfl, .inr ⟨g0, 0, #[], rfl, Nat.le_refl _, hg0, Nat.le_refl _, Nat.zero_le _, rfl, rfl⟩⟩
  have hlt : g0 < w.heap.size := (Array.getElem?_eq_some_iff.1 hg0).1
  have hadd : ∀ j, (⟨b, off, none⟩ : Addr).add j = ⟨b, off + j, none⟩ := fun j => by unfold Addr.add; split <;> simp_all
  obtain ⟨v', w', hrun, h2, h3, h4⟩ := run_append_own (P := P) w g0 t ty e i z 1 bytes ht hi hz hsize hby hzs (by decide) _ 0 [] hown ⟨b, off, none⟩ m c xs (by omega) (fun j u hu => by rw [hadd]; exact hx j u hu) h1 (by unfold maxLen; omega) (by rw [Nat.zero_add]; exact hb) (Nat.le_of_lt hlt)
  rw [Nat.zero_add, List.nil_append] at h2
  rcases h2.2 with ⟨e1, _⟩ | ⟨g, c', cur, rfl, hg, _⟩
  · have := h4.1 e1; cases this.1
  · exact ⟨g, c', w', hrun, h2, h3, hg⟩

/-- append, where its run is known. -/
theorem wpList_app {P : Program} {w : World} {ops : Array Oper} {rest : List Oper} {o : Oper} {a : Act} {Q : Exit → Act → World → Prop} (hgd : o.guard = none) (s x : Operand) (t : TypeId)
    (ho : o.op = .call { callee := .builtin .append, args := #[s, x], argTypes := #[t, t] }) (v xv v' : Value) (w' : World) (hs : a.eval s = v) (hx : a.eval x = xv)
    (hrun : (Builtin.append_ #[t, t] o.type #[v, xv]).run P w = .ok v' w') (h : wpList P ops Q rest (a.put o.dst v') w') : wpList P ops Q (o :: rest) a w :=
  wpList_plain hgd fun K hK => by
    unfold Oper.wp execOp
    simp only [ho, resolve, invoke, builtin, Sem.run_bind, Sem.run_pure, Result.andThen_ok, List.map_toArray, List.map_cons, List.map_nil, hs, hx, hrun]
    exact hK _ _ h
theorem wp_app {P : Program} {w : World} {o : Oper} {a : Act} {K : Act → World → Prop} {Q : Exit → Act → World → Prop} (d : Option Tmp) (hd : o.dst = d) (s x : Operand) (t : TypeId)
    (ho : o.op = .call { callee := .builtin .append, args := #[s, x], argTypes := #[t, t] }) (v xv v' : Value) (w' : World) (hs : a.eval s = v) (hx : a.eval x = xv)
    (hrun : (Builtin.append_ #[t, t] o.type #[v, xv]).run P w = .ok v' w') (h : K (a.put d v') w') : o.wp P a w K Q := by
  subst hd
  unfold Oper.wp execOp
  simp only [ho, resolve, invoke, builtin, Sem.run_bind, Sem.run_pure, Result.andThen_ok, List.map_toArray, List.map_cons, List.map_nil, hs, hx, hrun]
  exact h

/-- slices.Clone of words. -/
theorem clone_any (q L c : Nat) (xs : List Value) (w : World) (hl : xs.length = L) (hL : L ≤ 1024) (hx : ∀ j u, xs[j]? = some u → w.cell? ⟨q, j, none⟩ = some u) (h1 : ∀ u ∈ xs, u.oneCell' = true) :
    Calls Tryd.prog 29 #[.slice (some ⟨q, 0, none⟩) L c] w fun e w' => ∃ g c', e = .returned (.slice (some ⟨g, 0, none⟩) L c') ∧ w.heap.size ≤ g ∧ w'.ownsRow w.heap.size 54 1 (.slice (some ⟨g, 0, none⟩) L c') L xs ∧ Below w.heap.size w w' := by
  obtain ⟨i0, hi, hz0, hz1, hz2⟩ := info_parts Tryd.info64
  have hg0 : (w.alloc (.cells #[] 54)).heap[w.heap.size]? = some (.cells #[] 54 (0, 0)) := heap_alloc_new w _
  obtain ⟨g, c', w', hrun, hown, hgr, hge⟩ := app_new (P := Tryd.prog) (w.alloc (.cells #[] 54)) 56 56 54 i0 (.int .u64 0) 8 Tryd.underlying56 hi hz0 hz1 hz2 rfl w.heap.size hg0 q 0 L c xs hl
    (fun j u hu => by
      have h := hx j u hu
      rw [Nat.zero_add]
      exact (((Below.refl _ w).alloc (Nat.le_refl _) (.cells #[] 54)).cell (p := ⟨q, j, none⟩) (World.block_lt_of_cell? w _ h)).trans h) h1 (by omega) (by omega)
  have hb : Below w.heap.size w w' := ((Below.refl _ w).alloc (Nat.le_refl _) (.cells #[] 54)).grown hgr (by simp) (fun k e => by injection e with e; omega)
  have HB := Lib.hid hb
  have HO := Lib.hid hown
  have HR := Lib.hid hrun
  have heq := fun W : World => Lib.run_eql_slice_nil (P := Tryd.prog) W 56 54 (some ⟨q, 0, none⟩) L c 0 0 Tryd.underlying56
  clear hb hown hgr hg0 hx h1 hrun
  go_enter Tryd.func29, Tryd.ntmps29
  go_wp2_with (at_builtin; refine wpList_app rfl _ _ 56 rfl _ _ _ _ rfl rfl HR.out ?_; clear HR)
  go_ret
  exact ⟨_, _, rfl, hge, HO.out, HB.out⟩

set_option maxHeartbeats 400000 in
theorem copy_any (p q n : Nat) (S : Nat → Bool) (w : World) (h : Bs w p q n S) :
    Calls Tryd.prog 14 #[.pointer (some ⟨p, 0, none⟩)] w fun e w' => ∃ p' q', e = .returned (.pointer (some ⟨p', 0, none⟩)) ∧ w.heap.size ≤ p' ∧ w.heap.size ≤ q' ∧ Bs w' p' q' n S ∧ Below w.heap.size w w' := by
  obtain ⟨c, ws, cs, hw, hp, hc1, hc2, hq, hcs⟩ := h.mem
  have hd := hp.cell 0
  have sl := hp.cell 1
  simp only [List.getElem?_toArray, List.getElem?_cons_zero, List.getElem?_cons_succ] at hd sl
  have hcl := clone_any q ws.length c (ws.map uv) w.drew (by simp) (by have := hw.len; have := hw.top; omega) (fun j u hu => by
    rw [List.getElem?_map] at hu
    cases hj : ws[j]? with
    | none => rw [hj] at hu; cases hu
    | some x =>
      rw [hj] at hu
      have hjl := (List.getElem?_eq_some_iff.1 hj).1
      have h2 := (Blk.cell (cs := cs) hq j).trans (hcs j hjl)
      have e : ws.getD j 0 = x := by simp [List.getD, hj]
      rw [e] at h2
      exact h2.trans hu) (fun u hu => by obtain ⟨x, _, rfl⟩ := List.mem_map.1 hu; rfl)
  have HC := Lib.hid hcl
  have HW := Lib.hid hw
  obtain ⟨L, hL⟩ : ∃ L, ws.length = L := ⟨_, rfl⟩
  have HL := Lib.hid hL
  rw [hL] at HC sl
  have K1 := Lib.hid (show w.drew.cell? ⟨p, 0, none⟩ = some (.int .i64 (n : Int)) from hd)
  have K2 := Lib.hid (show w.drew.cell? ⟨p, 1, none⟩ = some (.slice (some ⟨q, 0, none⟩) L c) from sl)
  have HLT := Lib.hid (show p < w.drew.heap.size from h.lt.1)
  clear hd sl
  clear hcl hw hp hc1 hc2 hq hcs h hL
  go_enter Tryd.func14, Tryd.ntmps14
  go_wp2_with fail
  refine wp_region_held_drew (S := fun W => W.cell? ⟨p, 0, none⟩ = some (.int .i64 (n : Int)) ∧ W.cell? ⟨p, 1, none⟩ = some (.slice (some ⟨q, 0, none⟩) L c)) (by kernel_rfl) ⟨K1.out, K2.out⟩ (fun hHeld => ?_)
  refine takeY 0 (some 5) rfl rfl (by kernel_rfl) (by kernel_rfl) (by kernel_rfl) (fun _ _ _ h => h) (by rfl) (v := _) (by (intro _ hSw; (try dsimp only at hSw); go_simp; try with_reducible rfl)) hHeld ?_
  simp only [Act.put, List.setIfInBounds_toArray, List.set_cons_zero, List.set_cons_succ]
  refine takeY 1 (some 6) rfl rfl (by kernel_rfl) (by kernel_rfl) (by kernel_rfl) (fun _ _ _ h => h) (by rfl) (v := _) (by (intro _ hSw; (try dsimp only at hSw); go_simp; try with_reducible rfl)) hHeld ?_
  simp only [Act.put, List.setIfInBounds_toArray, List.set_cons_zero, List.set_cons_succ]
  refine takeY 2 (some 7) rfl rfl (by kernel_rfl) (by kernel_rfl) (by kernel_rfl) (fun _ _ _ h => h) (by rfl) (v := _) (by (intro _ hSw; (try dsimp only at hSw); go_simp; try with_reducible rfl)) hHeld ?_
  simp only [Act.put, List.setIfInBounds_toArray, List.set_cons_zero, List.set_cons_succ]
  refine takeY 3 (some 8) rfl rfl (by kernel_rfl) (by kernel_rfl) (by kernel_rfl) (fun _ _ _ h => h) (by rfl) (v := _) (by (intro _ hSw; (try dsimp only at hSw); go_simp; try with_reducible rfl)) hHeld ?_
  simp only [Act.put, List.setIfInBounds_toArray, List.set_cons_zero, List.set_cons_succ]
  refine takeY 4 (some 9) rfl rfl (by kernel_rfl) (by kernel_rfl) (by kernel_rfl) (fun _ _ _ h => h) (by rfl) (v := _) (by (intro _ hSw; (try dsimp only at hSw); go_simp; try with_reducible rfl)) hHeld ?_
  simp only [Act.put, List.setIfInBounds_toArray, List.set_cons_zero, List.set_cons_succ]
  refine takeY 5 (some 10) rfl rfl (by kernel_rfl) (by kernel_rfl) (by kernel_rfl) (fun _ _ _ h => h) (by rfl) (v := _) (by (intro _ hSw; (try dsimp only at hSw); go_simp; try with_reducible rfl)) hHeld ?_
  simp only [Act.put, List.setIfInBounds_toArray, List.set_cons_zero, List.set_cons_succ]
  refine takeY 6 (some 11) rfl rfl (by kernel_rfl) (by kernel_rfl) (by kernel_rfl) (fun _ _ _ h => h) (by rfl) (v := _) (by (intro _ hSw; (try dsimp only at hSw); go_simp; try with_reducible rfl)) hHeld ?_
  simp only [Act.put, List.setIfInBounds_toArray, List.set_cons_zero, List.set_cons_succ]
  refine takeY 7 (some 12) rfl rfl (by kernel_rfl) (by kernel_rfl) (by kernel_rfl) (fun _ _ _ h => h) (by rfl) (v := _) (by (intro _ hSw; (try dsimp only at hSw); go_simp; try with_reducible rfl)) hHeld ?_
  simp only [Act.put, List.setIfInBounds_toArray, List.set_cons_zero, List.set_cons_succ]
  refine wpAnyH_ready (rs := [8]) (by kernel_rfl) (by simp) ?_
  refine AllReadyH.cons rfl (fun K hK => ?_) AllReadyH.nil
  clear hHeld
  go_simp
  go_wp2_with (go_at_call 29; refine Calls.mono HC.out ?_; rintro e w1 ⟨g, c', rfl, hg, hown, hb⟩)
  refine hK.out _ _ ⟨(hb.cell (p := ⟨p, 0, none⟩) HLT.out).trans K1.out, (hb.cell (p := ⟨p, 1, none⟩) HLT.out).trans K2.out⟩ (fun hHeld => ?_)
  clear hK K
  refine takeY 9 (some 14) rfl rfl (by kernel_rfl) (by kernel_rfl) (by kernel_rfl) (fun _ _ _ h => h) (by rfl) (v := _) (by (intro _ hSw; (try dsimp only at hSw); go_simp; try with_reducible rfl)) hHeld ?_
  simp only [Act.put, List.setIfInBounds_toArray, List.set_cons_zero, List.set_cons_succ]
  refine wpAnyH_ready (rs := [10]) (by kernel_rfl) (by simp) ?_
  refine AllReadyH.cons rfl (fun K hK => ?_) AllReadyH.nil
  go_simp
  refine hK.out _ _ (by (try dsimp only); go_keep) (fun hHeld => ?_)
  clear hK K
  refine takeY 11 (some 2) rfl rfl (by kernel_rfl) (by kernel_rfl) (by kernel_rfl) (fun _ _ _ h => h) (by rfl) (v := _) (by (intro _ hSw; (try dsimp only at hSw); go_simp; try with_reducible rfl)) hHeld ?_
  simp only [Act.put, List.setIfInBounds_toArray, List.set_cons_zero, List.set_cons_succ]
  refine wpAnyH_done (by kernel_rfl) ?_ _
  clear hHeld
  have HO := Lib.hid hown
  have HB := Lib.hid hb
  clear HC hown hb
  go_wp2_with fail
  go_ret
  have hb := HB.out
  have ho := HO.out
  have hsz : w.heap.size ≤ w1.heap.size := hb.size
  have hbel : Below w.heap.size w (w1.alloc (.cells #[.int .i64 (n : Int), .slice (some ⟨g, 0, none⟩) L c'] 58)) := (show Below w.heap.size w w1 from ⟨hb.os, hb.tape, hb.output, hb.size, hb.block⟩).alloc hsz _
  refine ⟨_, g, rfl, hsz, hg, ?_, hbel⟩
  rcases ho.2 with ⟨e, _⟩ | ⟨g', cap, cur, e, hg', hcur, hcap, hmax, hsize, htake⟩
  · cases e
  · injection e with e1 e2 e3
    injection e1 with e1
    injection e1 with e1
    subst e1
    subst e3
    have hlt : g < w1.heap.size := (Array.getElem?_eq_some_iff.1 hcur).1
    have hL := HL.out
    subst hL
    refine ⟨⟨c', ws, cur, HW.out, Blk.new w1 _ _, hcap, hmax, (Below.heap_alloc w1 _ g hlt).trans hcur, fun i hi => ?_⟩, by omega⟩
    have h3 : (cur.toList.take (ws.length * 1))[i]? = some (uv (ws.getD i 0)) := by rw [htake]; simp [List.getD, hi]
    rw [List.getElem?_take_of_lt (by omega)] at h3
    simpa using h3

theorem run_app_nil (w : World) (A : Option Addr) (c : Nat) (ty : TypeId) : (Builtin.append_ #[49, 49] ty #[.slice none 0 0, .slice A 0 c]).run Tryd.prog w = .ok (.slice none 0 0) w := by
  obtain ⟨i0, hi, hz0, hz1, hz2⟩ := info_parts Tryd.infoB
  cases A <;> simp [Builtin.append_, run_underlying Tryd.underlying49, sizeOf, typeInfo, hi, Builtin.lenOf, Builtin.firstCells, loadCells, loadCellsFrom]

set_option maxHeartbeats 1000000 in
theorem rcopy_run (rq n c : Nat) (A : Option Addr) (S : Nat → Bool) (w : World) (hA : n = 0 ∨ A = some ⟨rq, 0, none⟩) (hn : n ≤ 65536) (hc : ∀ i, i < n → w.cell? ⟨rq, i, none⟩ = some (.bool (S i))) (base : Nat) (hbase : base ≤ w.heap.size) (ty : TypeId) :
    ∃ A' g c' w', (Builtin.append_ #[49, 49] ty #[.slice none 0 0, .slice A n c]).run Tryd.prog w = .ok (.slice A' n c') w' ∧ (n = 0 ∨ A' = some ⟨g, 0, none⟩) ∧ base ≤ g ∧ (∀ i, i < n → w'.cell? ⟨g, i, none⟩ = some (.bool (S i)) ∧ w'.frozen? ⟨g, i, none⟩ = false) ∧ w.grownBy w' none := by
  rcases Nat.eq_zero_or_pos n with h0 | h0
  · subst h0
    exact ⟨none, base, 0, w, run_app_nil w A c ty, .inl rfl, Nat.le_refl _, fun i hi => by omega, World.grownBy.refl w _⟩
  · obtain rfl : A = some ⟨rq, 0, none⟩ := hA.resolve_left (by omega)
    obtain ⟨i0, hi, hz0, hz1, hz2⟩ := info_parts Tryd.infoB
    have hadd : ∀ j, (⟨rq, 0, none⟩ : Addr).add j = ⟨rq, j, none⟩ := fun j => by unfold Addr.add; split <;> simp_all
    obtain ⟨v', w', hrun, h2, h3, h4⟩ := run_append_own (P := Tryd.prog) w base 49 ty 4 i0 (.bool false) 1 1 Tryd.underlying49 hi hz0 hz1 hz2 rfl (by decide) _ 0 [] (World.ownsRow_nil w base 4 1) ⟨rq, 0, none⟩ n c ((List.range n).map fun i => .bool (S i)) (by simp)
      (fun j u hu => by
        rw [List.getElem?_map] at hu
        have hjn : j < n := by
          rcases Nat.lt_or_ge j n with h | h
          · exact h
          · rw [List.getElem?_eq_none (by simp; omega)] at hu; cases hu
        rw [List.getElem?_range hjn] at hu
        rw [hadd]
        exact (hc j hjn).trans hu) (fun u hu => by obtain ⟨x, _, rfl⟩ := List.mem_map.1 hu; rfl) (by unfold maxLen; omega) (by omega) hbase
    rw [Nat.zero_add, List.nil_append] at h2
    rcases h2.2 with ⟨e1, _⟩ | ⟨g, cap, cur, rfl, hg, hcur, hcap, hmax, hsize, htake⟩
    · have := h4.1 e1; omega
    · refine ⟨_, g, cap, w', hrun, .inr rfl, hg, fun i hin => ⟨?_, Blk.frozen (cs := cur) hcur i⟩, h3⟩
      rw [Blk.cell (cs := cur) hcur i]
      have h3 : (cur.toList.take (n * 1))[i]? = some (.bool (S i)) := by rw [htake]; simp [hin]
      rw [List.getElem?_take_of_lt (by omega)] at h3
      simpa using h3

set_option maxHeartbeats 1000000 in
theorem rcopy_any (rp rq n : Nat) (S : Nat → Bool) (w : World) (h : Rs w rp rq n S) :
    Calls Tryd.prog 15 #[.pointer (some ⟨rp, 0, none⟩)] w fun e w' => ∃ p' q', e = .returned (.pointer (some ⟨p', 0, none⟩)) ∧ w.heap.size ≤ p' ∧ w.heap.size ≤ q' ∧ Rs w' p' q' n S ∧ Below w.heap.size w w' := by
  obtain ⟨A, c, h1, h2⟩ := h.mem
  obtain ⟨wa, hwa⟩ : ∃ wa, w.alloc (.cells #[.slice none 0 0] 51) = wa := ⟨_, rfl⟩
  obtain ⟨X, hX⟩ : ∃ X, w.heap.size = X := ⟨_, rfl⟩
  have hba : Below w.heap.size w wa := by rw [← hwa]; exact (Below.refl _ w).alloc (Nat.le_refl _) _
  have hblk : Blk wa X 51 #[.slice none 0 0] := by rw [← hwa, ← hX]; exact Blk.new w _ _
  have hxc : wa.cell? ⟨X, 0, none⟩ = some (.slice none 0 0) := hblk.cell 0
  have hrc : wa.cell? ⟨rp, 0, none⟩ = some (.slice A n c) := (hba.cell (p := ⟨rp, 0, none⟩) (World.block_lt_of_cell? w _ h1)).trans h1
  have hsza : wa.heap.size = X + 1 := by rw [← hwa, ← hX]; simp
  obtain ⟨A', g, c', w', hrun, hA', hg, hcell, hgr⟩ := rcopy_run rq n c A S wa.drew h2 h.top (fun i hi => (hba.cell (p := ⟨rq, i, none⟩) (World.block_lt_of_cell? w _ (h.at_ i hi).1)).trans (h.at_ i hi).1) (X + 1) (by show X + 1 ≤ wa.heap.size; omega) 49
  have hblk' : Blk w' X 51 #[.slice none 0 0] := Blk.grown (w := wa.drew) hblk hgr (by simp)
  have hfin : Rs (w'.setCell ⟨X, 0, none⟩ (.slice A' n c')) X g n S := by
    have hne : X ≠ g := by omega
    refine ⟨⟨A', c', (hblk'.set_ 0 _).cell 0, hA'⟩, fun i hi => ?_, h.top, h.out, hne⟩
    obtain ⟨g1, g2⟩ := hcell i hi
    exact ⟨(World.cell?_setCell_other w' _ _ _ (fun e => hne (by injection e))).trans g1, by rw [World.frozen?_setCell]; exact g2⟩
  have hbel : Below X w (w'.setCell ⟨X, 0, none⟩ (.slice A' n c')) := by
    rw [hX] at hba
    exact (hba.drew.grown hgr (by show X ≤ wa.heap.size; omega) (fun k e => by cases e)).setCell (p := ⟨X, 0, none⟩) (Nat.le_refl _) _
  have hxf := hblk'.frozen 0
  have hxc' := hblk'.cell 0
  simp only [List.getElem?_toArray, List.getElem?_cons_zero] at hxc'
  have hr5 : w'.cell? ⟨rp, 0, none⟩ = some (.slice A n c) := hgr.cell (w := wa.drew) hrc (by simp)
  have K5 := Lib.hid hr5
  have K6 := Lib.hid (show (w'.setCell ⟨X, 0, none⟩ (.slice A' n c')).cell? ⟨rp, 0, none⟩ = some (.slice A n c) from (World.cell?_setCell_other w' _ _ _ (fun e => by injection e with e; have := World.block_lt_of_cell? w _ h1; simp at this; omega)).trans hr5)
  clear hr5
  have HR := Lib.hid hrun
  have HF := Lib.hid hfin
  have HB := Lib.hid hbel
  have HX := Lib.hid hX
  have HG := Lib.hid hg
  have K1 := Lib.hid hxc
  have K2 := Lib.hid hrc
  have K3 := Lib.hid hxf
  have K4 := Lib.hid hxc'
  clear hrun hfin hbel h h2 hba hblk hblk' hcell hgr hsza hA' h1 hg hxc hrc hxf hxc'
  go_enter Tryd.func15, Tryd.ntmps15
  go_wp2_with fail
  have k1 := K1.out
  refine wp_region_held_drew (S := fun W => W.cell? ⟨rp, 0, none⟩ = some (.slice A n c)) (by kernel_rfl) K2.out (fun hHeld => ?_)
  refine takeY 0 (some 6) rfl rfl (by kernel_rfl) (by kernel_rfl) (by kernel_rfl) (fun _ _ _ h => h) (by rfl) (v := _) (by (intro _ hSw; (try dsimp only at hSw); go_simp; try with_reducible rfl)) hHeld ?_
  simp only [Act.put, List.setIfInBounds_toArray, List.set_cons_zero, List.set_cons_succ]
  refine takeY 1 (some 7) rfl rfl (by kernel_rfl) (by kernel_rfl) (by kernel_rfl) (fun _ _ _ h => h) (by rfl) (v := _) (by (intro _ hSw; (try dsimp only at hSw); go_simp; try with_reducible rfl)) hHeld ?_
  simp only [Act.put, List.setIfInBounds_toArray, List.set_cons_zero, List.set_cons_succ]
  refine takeY 2 (some 8) rfl rfl (by kernel_rfl) (by kernel_rfl) (by kernel_rfl) (fun _ _ _ h => h) (by rfl) (v := _) (by (intro _ hSw; (try dsimp only at hSw); go_simp; try with_reducible rfl)) hHeld ?_
  simp only [Act.put, List.setIfInBounds_toArray, List.set_cons_zero, List.set_cons_succ]
  refine takeY 3 (some 9) rfl rfl (by kernel_rfl) (by kernel_rfl) (by kernel_rfl) (fun _ _ _ h => h) (by rfl) (v := _) (by (intro _ hSw; (try dsimp only at hSw); go_simp; try with_reducible rfl)) hHeld ?_
  simp only [Act.put, List.setIfInBounds_toArray, List.set_cons_zero, List.set_cons_succ]
  refine takeY 5 (some 11) rfl rfl (by kernel_rfl) (by kernel_rfl) (by kernel_rfl) (fun _ _ _ h => h) (by rfl) (v := _) (by (intro _ hSw; (try dsimp only at hSw); go_simp; try with_reducible rfl)) hHeld ?_
  simp only [Act.put, List.setIfInBounds_toArray, List.set_cons_zero, List.set_cons_succ]
  refine takeY 6 (some 12) rfl rfl (by kernel_rfl) (by kernel_rfl) (by kernel_rfl) (fun _ _ _ h => h) (by rfl) (v := _) (by (intro _ hSw; (try dsimp only at hSw); go_simp; try with_reducible rfl)) hHeld ?_
  simp only [Act.put, List.setIfInBounds_toArray, List.set_cons_zero, List.set_cons_succ]
  refine takeY 7 (some 13) rfl rfl (by kernel_rfl) (by kernel_rfl) (by kernel_rfl) (fun _ _ _ h => h) (by rfl) (v := _) (by (intro _ hSw; (try dsimp only at hSw); go_simp; try with_reducible rfl)) hHeld ?_
  simp only [Act.put, List.setIfInBounds_toArray, List.set_cons_zero, List.set_cons_succ]
  refine takeY 8 (some 14) rfl rfl (by kernel_rfl) (by kernel_rfl) (by kernel_rfl) (fun _ _ _ h => h) (by rfl) (v := _) (by (intro _ hSw; (try dsimp only at hSw); go_simp; try with_reducible rfl)) hHeld ?_
  simp only [Act.put, List.setIfInBounds_toArray, List.set_cons_zero, List.set_cons_succ]
  refine wpAnyH_ready (rs := [4]) (by kernel_rfl) (by simp) ?_
  refine AllReadyH.cons rfl (fun K hK => ?_) AllReadyH.nil
  go_simp
  refine hK.out _ _ K2.out (fun hHeld => ?_)
  clear hK K
  refine wpAnyH_ready (rs := [9]) (by kernel_rfl) (by simp) ?_
  refine AllReadyH.cons rfl (fun K hK => ?_) AllReadyH.nil
  rw [if_pos (by rfl)]
  refine wp_app (some 15) rfl _ _ 49 rfl _ _ _ _ rfl rfl HR.out ?_
  refine hK.out _ _ K5.out (fun hHeld => ?_)
  clear hK K HR
  simp only [Act.put, List.setIfInBounds_toArray, List.set_cons_zero, List.set_cons_succ]
  have k3 := K3.out
  have k4 := K4.out
  refine takeY 10 (some 16) rfl rfl (by kernel_rfl) (by kernel_rfl) (by kernel_rfl) (fun _ _ _ h => h) (by rfl) (v := _) (by (intro _ hSw; (try dsimp only at hSw); go_simp; try with_reducible rfl)) hHeld ?_
  simp only [Act.put, List.setIfInBounds_toArray, List.set_cons_zero, List.set_cons_succ]
  refine takeY 11 (some 17) rfl rfl (by kernel_rfl) (by kernel_rfl) (by kernel_rfl) (fun _ _ _ h => h) (by rfl) (v := _) (by (intro _ hSw; (try dsimp only at hSw); go_simp; try with_reducible rfl)) hHeld ?_
  simp only [Act.put, List.setIfInBounds_toArray, List.set_cons_zero, List.set_cons_succ]
  refine wpAnyH_ready (rs := [12]) (by kernel_rfl) (by simp) ?_
  refine AllReadyH.cons rfl (fun K hK => ?_) AllReadyH.nil
  go_simp
  refine hK.out _ _ K6.out (fun hHeld => ?_)
  clear hK K
  refine wpAnyH_done (by kernel_rfl) ?_ _
  clear hHeld
  go_wp2_with fail
  go_ret
  exact ⟨_, _, rfl, by rw [HX.out]; exact Nat.le_refl _, by rw [HX.out]; exact Nat.le_of_succ_le HG.out, HF.out, by rw [HX.out]; exact HB.out⟩

end Go.Proofs.YtfkhgdhfelfegaaDoor
