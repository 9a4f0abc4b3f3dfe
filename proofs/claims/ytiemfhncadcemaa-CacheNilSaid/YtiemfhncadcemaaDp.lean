/- cache: does of Power where there is no cache. -/
import Derived.Test.YtiemfhncadcemaaDm
import Derived.Deep.RegionHeld3
namespace Go.Proofs.Ytiemfhncadcemaa
open Go.RowKit Dsk
theorem step_app {P : Program} {ops : Array Oper} {o : Oper} {a : Act} {w : World} {K : Act → World → Prop} {Q : Exit → Act → World → Prop} {E : Prop} (hg : o.guard = none) (s x : Operand) (t : TypeId)
    (hop : o.op = Op.call { callee := Callee.builtin Builtin.append, args := #[s, x], argTypes := #[t, t] }) (v xv v' : Value) (w' : World) (hs : a.eval s = v) (hx : a.eval x = xv)
    (hrun : (Builtin.append_ #[t, t] o.type #[v, xv]).run P w = .ok v' w') (hK : K (a.put o.dst v') w') : if Region.wanted o (yielded ops a.tmps) = true then Oper.wp P o a w K Q else E := by
  rw [if_pos (show Region.wanted o (yielded ops a.tmps) = true by simp [Region.wanted, hg])]
  unfold Oper.wp execOp
  simp only [hop, resolve, invoke, builtin, Sem.run_bind, Sem.run_pure, Result.andThen_ok, List.map_toArray, List.map_cons, List.map_nil, hs, hx, hrun]
  exact hK
section
variable {w0 w : World} {X : Nat → Prop} {dg : Nat} {D : DS}
set_option maxRecDepth 20000 in
set_option maxHeartbeats 2000000 in
theorem doesn_power (h : Run w0 w X dg D) {v0 v1 v2 v3 v4 : Value} {o : Ov} (hv : OpV w0 v0 v1 v2 v3 v4 o) (hk : o.kind = 7) (hK : o.K.length ≤ 200) (hP : D.P.length < 1000000) :
    Calls Try.prog 13 #[.pointer none, .pointer (some ⟨dg, 0, none⟩), .agg #[v0, v1, v2, v3, v4]] w (fun en w' => DidN w0 w' o.kind en) := by
  obtain ⟨cs, hcs⟩ : ∃ cs : Array Value, #[v0, v1, v2, v3, v4] = cs := ⟨_, rfl⟩
  have hd : Run w0 (wD w cs) (YD w X) dg D := h.add (wD_below w cs) (YD w X) (fun k hk => hk.imp id fun e => by rw [wD_size]; exact e)
  have hz := Dz.new w cs
  obtain ⟨⟨e0, _, _⟩, ⟨e1, hs1, hs2⟩, ⟨A, c, e2, _, _, hby⟩, ⟨K, d, e3, _, _, hin⟩, ⟨e4, ht1, ht2⟩⟩ := hv
  have HOFF := Lib.hid hd.off
  have HD := Lib.hid (And.intro h.size (And.intro hd.bel (And.intro hz hin)))
  have hP2 : (offD D).P.length < 1000000 := by
    have : (offD D).P = D.P := by unfold offD; first | rfl | (split <;> rfl)
    rw [this]; exact hP
  have HPP := Lib.hid hP2
  rw [hk] at e0 ⊢
  obtain ⟨ks, hks⟩ : ∃ ks, o.K = ks := ⟨_, rfl⟩
  obtain ⟨kl, hkl⟩ : ∃ kl, ks.length = kl := ⟨_, rfl⟩
  obtain ⟨tn, htn⟩ : ∃ tn, o.torn = tn := ⟨_, rfl⟩
  obtain ⟨s, hs⟩ : ∃ s, o.s = s := ⟨_, rfl⟩
  obtain ⟨bl, hbl⟩ : ∃ bl, o.B.length = bl := ⟨_, rfl⟩
  rw [hks] at hK HD e3
  rw [hkl] at hK e3
  rw [htn] at e4 ht1 ht2
  rw [hs] at e1 hs1 hs2
  rw [hbl] at e2
  clear hd hz hby hin h hk htn hs hbl hks hP hP2
  subst e0 e1 e2 e3 e4
  subst hcs
  have HKL := Lib.hid hkl
  clear hkl
  go_enter Try.func13, Try.ntmps13
  go_wp2_with fail
  refine HOFF.out.mono ?_
  rintro en w1 ⟨rfl, hr, hkp⟩
  have hz1 := HD.out.2.2.1.keep hkp
  have hi1 := HD.out.2.2.2.below hr.bel
  have hb0 : Below w1.heap.size w1 (w1.drew.alloc (.cells #[] 3)) := ((Below.refl _ w1).drew).alloc (Nat.le_refl _) _
  obtain ⟨v2, w2, hrun, hown, hgr⟩ := run_appI (w1.drew.alloc (.cells #[] 3)) w1.heap.size (.slice (some ⟨w1.heap.size, 0, none⟩) 0 0) 0 [] (World.ownsRow_made w1.drew #[] 0 (Nat.le_refl _) (Nat.zero_le _) rfl) K kl d ks HKL.out (hi1.below hb0) (by omega) (by rw [World.size_alloc]; exact Nat.le_succ _)
  rw [List.nil_append, Nat.zero_add] at hown
  have hb2 : Below w1.heap.size w1 w2 := hb0.grown hgr (by rw [World.size_alloc]; exact Nat.le_succ _) (fun k e => by simp [Value.ownBlock] at e; omega)
  obtain ⟨A2, c2, rfl⟩ : ∃ A2 c2, v2 = .slice A2 kl c2 := by
    rcases hown.2 with ⟨rfl, e⟩ | ⟨q, c, cur, e, _⟩
    · exact ⟨none, 0, by rw [e]⟩
    · exact ⟨_, _, e⟩
  have hon := (hr.add hb2 (YD w X) (fun k hk => .inl hk)).on kl c2 A2 ks tn HPP.out (Ints.of_own hown hi1.rng) HKL.out (by omega)
  have HON : Hid (Calls Try.prog 29 #[.pointer (some ⟨dg, 0, none⟩), .slice A2 kl c2, .int .i64 tn] w2 fun en w' => en = .returned (.int .i64 (onE (offD D))) ∧ Below w0.heap.size w0 w' ∧ Keep (YD w X) w2 w') := Lib.hid (hon.mono fun en w' h => ⟨h.1, h.2.1.bel, h.2.2⟩)
  have HS0 : Hid (∀ W, Below w1.heap.size w1 W → W.cell? ⟨w.heap.size, 3, none⟩ = some (.slice K kl d) ∧ W.cell? ⟨w.heap.size, 4, none⟩ = some (.int .i64 tn)) := Lib.hid (fun W hW => ⟨(hz1.op.below hW hz1.op.lt).cell 3, (hz1.op.below hW hz1.op.lt).cell 4⟩)
  have HZ2 := Lib.hid (hz1.below hb2)
  have HB2 := Lib.hid hb2
  have HRUN := Lib.hid hrun
  have HL := Lib.hid HD.out.1
  clear hz1 hi1 hb0 hrun hown hgr hb2 hon hr hkp HD HOFF HPP
  go_upto_region 29 with fail
  refine wp_region_held_drew (S := fun W => W.cell? ⟨w.heap.size, 3, none⟩ = some (.slice K kl d) ∧ W.cell? ⟨w.heap.size, 4, none⟩ = some (.int .i64 tn)) (by kernel_rfl) (by exact HS0.out _ ((Below.refl _ w1).drew)) (fun hHeld => ?_)
  refine takeY 0 (some 98) rfl rfl (by kernel_rfl) (by kernel_rfl) (by kernel_rfl) (fun _ _ _ h => h) (by rfl) (v := _) (by (intro _ hSw; (try dsimp only at hSw); go_simp; try with_reducible rfl)) hHeld ?_
  simp only [Act.put, List.setIfInBounds_toArray, List.set_cons_zero, List.set_cons_succ]
  refine takeY 2 (some 100) rfl rfl (by kernel_rfl) (by kernel_rfl) (by kernel_rfl) (fun _ _ _ h => h) (by rfl) (v := _) (by (intro _ hSw; (try dsimp only at hSw); go_simp; try with_reducible rfl)) hHeld ?_
  simp only [Act.put, List.setIfInBounds_toArray, List.set_cons_zero, List.set_cons_succ]
  refine takeY 3 (some 101) rfl rfl (by kernel_rfl) (by kernel_rfl) (by kernel_rfl) (fun _ _ _ h => h) (by rfl) (v := _) (by (intro _ hSw; (try dsimp only at hSw); go_simp; try with_reducible rfl)) hHeld ?_
  simp only [Act.put, List.setIfInBounds_toArray, List.set_cons_zero, List.set_cons_succ]
  refine takeY 5 (some 103) rfl rfl (by kernel_rfl) (by kernel_rfl) (by kernel_rfl) (fun _ _ _ h => h) (by rfl) (v := _) (by (intro _ hSw; (try dsimp only at hSw); go_simp; try with_reducible rfl)) hHeld ?_
  simp only [Act.put, List.setIfInBounds_toArray, List.set_cons_zero, List.set_cons_succ]
  refine takeY 6 (some 104) rfl rfl (by kernel_rfl) (by kernel_rfl) (by kernel_rfl) (fun _ _ _ h => h) (by rfl) (v := _) (by (intro _ hSw; (try dsimp only at hSw); go_simp; try with_reducible rfl)) hHeld ?_
  simp only [Act.put, List.setIfInBounds_toArray, List.set_cons_zero, List.set_cons_succ]
  refine wpAnyH_ready (rs := [1]) (by kernel_rfl) (by simp) ?_
  refine AllReadyH.cons rfl (fun K hK => ?_) AllReadyH.nil
  go_simp
  refine hK.out _ _ (by exact HS0.out _ (((Below.refl _ w1).drew).alloc (Nat.le_refl _) _)) (fun hHeld => ?_)
  clear hK K
  refine wpAnyH_ready (rs := [4]) (by kernel_rfl) (by simp) ?_
  refine AllReadyH.cons rfl (fun K hK => ?_) AllReadyH.nil
  clear hHeld
  refine step_app rfl (.tmp 99) (.tmp 101) 35 rfl _ _ _ _ (by simp [Act.eval]) (by simp [Act.eval]) HRUN.out ?_
  simp only [Act.put, List.setIfInBounds_toArray]
  refine hK.out _ _ (by exact HS0.out _ HB2.out) (fun hHeld => ?_)
  clear hK K
  refine wpAnyH_ready (rs := [7]) (by kernel_rfl) (by simp) ?_
  refine AllReadyH.cons rfl (fun K hK => ?_) AllReadyH.nil
  clear hHeld
  go_simp
  go_wp2_with (go_at_call 29; refine Calls.mono HON.out ?_; rintro en w3 ⟨rfl, hb3, hk3⟩; have hz3 := HZ2.out.keep hk3; have r0 := hz3.r.cell 0; have r1 := hz3.r.cell 1; have r2 := hz3.r.cell 2; have rf := hz3.r.frozen; have x0 := hz3.x.cell 0; have x1 := hz3.x.cell 1; have x2 := hz3.x.cell 2; have xf := hz3.x.frozen)
  refine hK.out _ _ (by exact ⟨hz3.op.cell 3, hz3.op.cell 4⟩) (fun hHeld => ?_)
  clear hK K
  refine takeY 8 (some 106) rfl rfl (by kernel_rfl) (by kernel_rfl) (by kernel_rfl) (fun _ _ _ h => h) (by rfl) (v := _) (by (intro _ hSw; (try dsimp only at hSw); go_simp; try with_reducible rfl)) hHeld ?_
  simp only [Act.put, List.setIfInBounds_toArray, List.set_cons_zero, List.set_cons_succ]
  refine wpAnyH_ready (rs := [9]) (by kernel_rfl) (by simp) ?_
  refine AllReadyH.cons rfl (fun K hK => ?_) AllReadyH.nil
  go_simp
  refine hK.out _ _ (by exact ⟨(hz3.op.far (p := ⟨w.heap.size + 1 + 1, 2, none⟩) (by show w.heap.size ≠ w.heap.size + 1 + 1; omega) _).cell 3, (hz3.op.far (p := ⟨w.heap.size + 1 + 1, 2, none⟩) (by show w.heap.size ≠ w.heap.size + 1 + 1; omega) _).cell 4⟩) (fun hHeld => ?_)
  clear hK K
  refine wpAnyH_done (by kernel_rfl) ?_ _
  have HR3 := Lib.hid hz3.r
  have HBF := Lib.hid hb3
  clear hHeld hz3 hk3 hb3
  go_wp2_with fail
  have HB6 := (((HR3.out.far (p := ⟨w.heap.size + 1 + 1, 2, none⟩) (by show w.heap.size + 1 ≠ w.heap.size + 1 + 1; omega) (.int .i64 (onE (offD D)))).set_ 0 (.slice none 0 0)).set_ 1 (.bool false)).set_ 2 (.int .i64 (onE (offD D)))
  refine bodyPost_ret (results_cell_row rfl _ _ (w.heap.size + 1) 39 _ (0, 0) _ rfl HB6 Try.underlying39 rfl (by kernel_rfl)) rfl ?_
  exact DidN.fin HL.out (fun h => by omega) HBF.out (offS (offS (offS (offS (Off.refl _ _) _ _ _ (.inr rfl)) _ _ _ (.inl rfl)) _ _ _ (.inl rfl)) _ _ _ (.inl rfl))
end
end Go.Proofs.Ytiemfhncadcemaa
