/- cache: works. -/
import Derived.Test.YtiemfhncadcemaaTake
import Derived.Deep.RegionHeld3
namespace Go.Proofs.Ytiemfhncadcemaa
open Go.RowKit Dsk
set_option maxRecDepth 20000 in
set_option maxHeartbeats 4000000 in
theorem works_any (w : World) : Calls Try.prog 9 #[] w fun e w' => e = .returned (.bool true) ∧ Below w.heap.size w w' := by
  have H1 := Lib.hid (Run.new 16 w w (fun _ => False) (fun k h => h.elim) (Below.refl _ _) ⟨by omega, by omega⟩)
  have hcA := run_lit 97
  have hcB := run_lit 98
  have hcA2 := run_litD 97
  have hcB2 := run_litD 98
  go_enter Try.func9, Try.ntmps9
  go_wp2_with fail
  refine H1.out.mono ?_
  rintro e w1 ⟨dg, rfl, hr, hb1⟩
  have H2 := Lib.hid (CS.new 16 2 ⟨by omega, by omega⟩ ⟨by omega, by omega⟩ hr)
  clear hr hb1 H1
  go_wp2_with fail
  refine H2.out.mono ?_
  rintro e w2 ⟨g, rfl, _, hc, hb2⟩
  have H3 := Lib.hid (hc.write1 97 (s := 3) (by omega) (by omega) (by simp))
  clear hc hb2 H2
  go_wp2_with fail
  refine H3.out.mono ?_
  rintro e w3 ⟨D1, L1, y1, rfl, hw, hc, _⟩
  obtain ⟨rfl, rfl, e1, e2, e3, e4⟩ := wk1 hw
  have H4 := Lib.hid (hc.write1 98 (s := 4) (by omega) (by omega) (by simp))
  have HF := Lib.hid (And.intro e1 (And.intro e2 (And.intro e3 e4)))
  clear hc hw e1 e2 e3 e4 H3
  go_wp2_with fail
  refine H4.out.mono ?_
  rintro e w4 ⟨D2, L2, y2, rfl, hw, hc, _⟩
  obtain ⟨rfl, rfl, e1, e2, e3, e4⟩ := wk2 hw HF.out.1
  have hWS : WS w w4 (fun _ => False) g dg 2 (fun _ => 0) (newD 16) [y1, y2] := by
    have hn := hc.st.nodup
    refine ⟨hc, ⟨fun x hx => ?_, fun s h => absurd rfl h⟩, ?_, ?_⟩
    · simp only [List.mem_cons, List.not_mem_nil, or_false] at hx
      rcases hx with rfl | rfl
      · exact HF.out.2.2.1
      · exact e3
    · have := what_yes (D := newD 16) hn (x := y1) (by simp)
      rw [HF.out.1, HF.out.2.2.2] at this
      exact this
    · have := what_yes (D := newD 16) hn (x := y2) (by simp)
      rw [e1, e4] at this
      exact this
  have H5 := Lib.hid (hc.read (s := 5) (by omega) (by omega))
  have HW := Lib.hid hWS
  have HF2 := Lib.hid (And.intro e1 e2)
  clear hc hw e1 e2 e3 e4 H4 hWS
  go_wp2_with fail
  refine H5.out.mono ?_
  rintro e w5 (⟨rfl, hs, _⟩ | ⟨D3, L3, f3, q3, c3, rfl, hb, _, _, hc, _⟩)
  · exact absurd hs (nostuck0 HW.out.pn (x := y1) (by simp) rfl)
  obtain ⟨n3, d3⟩ := wk3 hb rfl HW.out.cs.st.nodup (fun x hx => by
    simp only [List.mem_cons, List.not_mem_nil, or_false] at hx
    rcases hx with rfl | rfl
    · exact HF.out.2.1
    · exact HF2.out.2) (fun x hx => by
    simp only [List.mem_cons, List.not_mem_nil, or_false] at hx
    rcases hx with rfl | rfl
    · rw [HF.out.1]; omega
    · rw [HF2.out.1]; omega)
  have hst := hb.sta HW.out.cs.st (by omega) (by omega)
  have hWS : WS w w5 (fun _ => False) g dg 3 (fun _ => 0) D3 L3 := ⟨hc.less (fun k h => h.elim), (HW.out.pn.brought hb).1, (hst.2.1 3).trans HW.out.a, (hst.2.1 4).trans HW.out.b⟩
  have H6 := hWS.cs.held
  rw [n3, d3] at H6
  replace H6 := Lib.hid H6
  have HW3 := Lib.hid hWS
  have HL3 := Lib.hid n3
  clear hc hb hst hWS n3 d3 H5 HW HF HF2
  go_wp2_with fail
  refine H6.out.mono ?_
  rintro e w6 ⟨rfl, hb⟩
  have hWS := HW3.out.below hb
  have H7 := Lib.hid (hWS.cs.read (s := 3) (by omega) (by omega))
  have HW4 := Lib.hid hWS
  clear hb hWS H6 HW3
  go_wp2_with fail
  refine H7.out.mono ?_
  rintro e w7 (⟨rfl, hs, _⟩ | ⟨D4, L4, f4, q4, c4, rfl, hb, hrw, hq, hc, hk⟩)
  · match L3, HL3.out, HW4.out.pn, hs with
    | x :: L, _, hp, hs => exact absurd hs (nostuck0 hp (x := x) (by simp) rfl)
    | [], h, _, _ => cases h
  have hst := hb.sta HW4.out.cs.st (by omega) (by omega)
  have hWS : WS w w7 (fun k => k = q4) g dg 4 (fun _ => 0) D4 L4 := ⟨hc.less (fun k h => .inr h), (HW4.out.pn.brought hb).1, (hst.2.1 3).trans HW4.out.a, (hst.2.1 4).trans HW4.out.b⟩
  have HX4 := Lib.hid (show ∃ x ∈ L4, x.s = 3 from ⟨f4, hst.2.2.2.1, hst.2.2.2.2⟩)
  have hb4 : f4.b = fA := by rw [hst.2.2.1]; exact HW4.out.a
  rw [hb4] at hrw
  have HQ7 := Lib.hid hrw
  have H8 := Lib.hid (hWS.cs.pin (s := 3) (by omega) (by omega))
  have HW5 := Lib.hid hWS
  clear hb hst hWS hrw hq hc hk hb4 H7 HW4 HL3
  go_wp2_with fail
  refine H8.out.mono ?_
  rintro e w8 (⟨rfl, hs, _⟩ | ⟨D5, L5, f5, rfl, hb, hc, hk⟩)
  · obtain ⟨x, hx, e⟩ := HX4.out
    exact absurd e (hs.2 x hx)
  have hst := hb.sta HW5.out.cs.st (by omega) (by omega)
  have p3 := HW5.out.pn.pinned hb hst.2.2.2.1
  have hup : ∀ j, what D5 (updL { f5 with pins := f5.pins + 1 } L5) j = what D4 L4 j := fun j => by
    rw [what_pin hst.1.nodup hst.2.2.2.1]; exact hst.2.1 j
  have hWS : WS w w8 (fun k => k = q4) g dg 5 (putP (fun _ => 0) 3 (0 + 1)) D5 (updL { f5 with pins := f5.pins + 1 } L5) := ⟨hc, p3, (hup 3).trans HW5.out.a, (hup 4).trans HW5.out.b⟩
  have HQ8 := Lib.hid (HQ7.out.frame hk.size (hk.at_ q4 rfl))
  have H9 := Lib.hid (hWS.cs.pin (s := 5) (by omega) (by omega))
  obtain ⟨L6, hL6⟩ : ∃ L6, updL { f5 with pins := f5.pins + 1 } L5 = L6 := ⟨_, rfl⟩
  rw [hL6] at hWS H9
  have HW6 := Lib.hid hWS
  clear hb hst p3 hc hk hup hWS hL6 H8 HW5 HX4 HQ7
  go_wp2_with fail
  refine H9.out.mono ?_
  rintro e w9 (⟨rfl, hs, _⟩ | ⟨D6, L7, f6, rfl, hb, hc, hk⟩)
  · exact absurd hs (nostuck3 HW6.out.pn HW6.out.cs.st.nodup (fun j hj => by unfold putP; rw [if_neg hj]))
  have hst := hb.sta HW6.out.cs.st (by omega) (by omega)
  have p3 := HW6.out.pn.pinned hb hst.2.2.2.1
  have hup : ∀ j, what D6 (updL { f6 with pins := f6.pins + 1 } L7) j = what D5 L6 j := fun j => by
    rw [what_pin hst.1.nodup hst.2.2.2.1]; exact hst.2.1 j
  have hWS : WS w w9 (fun k => k = q4) g dg 6 (putP (putP (fun _ => 0) 3 (0 + 1)) 5 (putP (fun _ => 0) 3 (0 + 1) 5 + 1)) D6 (updL { f6 with pins := f6.pins + 1 } L7) := ⟨hc, p3, (hup 3).trans HW6.out.a, (hup 4).trans HW6.out.b⟩
  have HQ9 := Lib.hid (HQ8.out.frame hk.size (hk.at_ q4 rfl))
  have H10 := Lib.hid (hWS.cs.read (s := 6) (by omega) (by omega))
  obtain ⟨L8, hL8⟩ : ∃ L8, updL { f6 with pins := f6.pins + 1 } L7 = L8 := ⟨_, rfl⟩
  rw [hL8] at hWS H10
  have HW7 := Lib.hid hWS
  clear hb hst p3 hc hk hup hWS hL8 H9 HW6 HQ8
  go_wp2_with fail
  refine H10.out.mono ?_
  rintro e w10 (⟨rfl, _, hc, hk⟩ | ⟨D9, L9, f9, q9, c9, rfl, hb, _⟩)
  case inr => exact absurd hb (wk6 HW7.out.pn HW7.out.cs.st.nodup HW7.out.cs.st.len (by unfold putP; simp) (by unfold putP; simp))
  have hWS : WS w w10 (fun k => k = q4) g dg 6 _ D6 L8 := ⟨hc, HW7.out.pn, HW7.out.a, HW7.out.b⟩
  have HQ10 := Lib.hid (HQ9.out.frame hk.size (hk.at_ q4 rfl))
  have H11 := Lib.hid (hWS.cs.flush (by omega))
  have HW8 := Lib.hid hWS
  clear hc hk hWS H10 HW7 HQ9
  go_wp2_with fail
  refine H11.out.mono ?_
  rintro e w11 ⟨D7, L10, rfl, _, _, _, hD, hc, hk⟩
  have HQ11 := Lib.hid (HQ10.out.frame hk.size (hk.at_ q4 rfl))
  have hD4 : D7.S.getD 4 [] = fB := (hD 4).trans HW8.out.b
  have HC := Lib.hid (And.intro hc hD4)
  clear hc hk hD hD4 H11 HW8 HQ10
  go_wp2_with fail
  have tokA : True := trivial
  have tokS : True := trivial
  refine wp_region_held_drew (S := (fun _ => True)) (by kernel_rfl) trivial (fun hHeld0 => ?_)
  refine takeY 0 (some 74) rfl rfl (by kernel_rfl) (by kernel_rfl) (by kernel_rfl) (fun _ _ _ h => h) (by rfl) (v := _) (by (intro _ hSw; (try dsimp only at hSw); go_simp; try with_reducible rfl)) hHeld0 ?_
  simp only [Act.put, List.setIfInBounds_toArray, List.set_cons_zero, List.set_cons_succ]
  refine takeY 1 (some 75) rfl rfl (by kernel_rfl) (by kernel_rfl) (by kernel_rfl) (fun _ _ _ h => h) (by rfl) (v := _) (by (intro _ hSw; (try dsimp only at hSw); go_simp; try with_reducible rfl)) hHeld0 ?_
  simp only [Act.put, List.setIfInBounds_toArray, List.set_cons_zero, List.set_cons_succ]
  refine takeY 2 (some 76) rfl rfl (by kernel_rfl) (by kernel_rfl) (by kernel_rfl) (fun _ _ _ h => h) (by rfl) (v := _) (by (intro _ hSw; (try dsimp only at hSw); go_simp; try with_reducible rfl)) hHeld0 ?_
  simp only [Act.put, List.setIfInBounds_toArray, List.set_cons_zero, List.set_cons_succ]
  refine takeY 3 (some 77) rfl rfl (by kernel_rfl) (by kernel_rfl) (by kernel_rfl) (fun _ _ _ h => h) (by rfl) (v := _) (by (intro _ hSw; (try dsimp only at hSw); go_simp; try with_reducible rfl)) hHeld0 ?_
  simp only [Act.put, List.setIfInBounds_toArray, List.set_cons_zero, List.set_cons_succ]
  refine takeY 4 (some 78) rfl rfl (by kernel_rfl) (by kernel_rfl) (by kernel_rfl) (fun _ _ _ h => h) (by rfl) (v := _) (by (intro _ hSw; (try dsimp only at hSw); go_simp; try with_reducible rfl)) hHeld0 ?_
  simp only [Act.put, List.setIfInBounds_toArray, List.set_cons_zero, List.set_cons_succ]
  refine takeY 5 (some 79) rfl rfl (by kernel_rfl) (by kernel_rfl) (by kernel_rfl) (fun _ _ _ h => h) (by rfl) (v := _) (by (intro _ hSw; (try dsimp only at hSw); go_simp; try with_reducible rfl)) hHeld0 ?_
  simp only [Act.put, List.setIfInBounds_toArray, List.set_cons_zero, List.set_cons_succ]
  refine takeY 6 (some 80) rfl rfl (by kernel_rfl) (by kernel_rfl) (by kernel_rfl) (fun _ _ _ h => h) (by rfl) (v := _) (by (intro _ hSw; (try dsimp only at hSw); go_simp; try with_reducible rfl)) hHeld0 ?_
  simp only [Act.put, List.setIfInBounds_toArray, List.set_cons_zero, List.set_cons_succ]
  refine takeY 7 (some 81) rfl rfl (by kernel_rfl) (by kernel_rfl) (by kernel_rfl) (fun _ _ _ h => h) (by rfl) (v := _) (by (intro _ hSw; (try dsimp only at hSw); go_simp; try with_reducible rfl)) hHeld0 ?_
  simp only [Act.put, List.setIfInBounds_toArray, List.set_cons_zero, List.set_cons_succ]
  refine takeY 8 (some 82) rfl rfl (by kernel_rfl) (by kernel_rfl) (by kernel_rfl) (fun _ _ _ h => h) (by rfl) (v := _) (by (intro _ hSw; (try dsimp only at hSw); go_simp; try with_reducible rfl)) hHeld0 ?_
  simp only [Act.put, List.setIfInBounds_toArray, List.set_cons_zero, List.set_cons_succ]
  refine takeY 9 (some 83) rfl rfl (by kernel_rfl) (by kernel_rfl) (by kernel_rfl) (fun _ _ _ h => h) (by rfl) (v := _) (by (intro _ hSw; (try dsimp only at hSw); go_simp; try with_reducible rfl)) hHeld0 ?_
  simp only [Act.put, List.setIfInBounds_toArray, List.set_cons_zero, List.set_cons_succ]
  refine takeY 10 (some 84) rfl rfl (by kernel_rfl) (by kernel_rfl) (by kernel_rfl) (fun _ _ _ h => h) (by rfl) (v := _) (by (intro _ hSw; (try dsimp only at hSw); go_simp; try with_reducible rfl)) hHeld0 ?_
  simp only [Act.put, List.setIfInBounds_toArray, List.set_cons_zero, List.set_cons_succ]
  refine takeY 11 (some 85) rfl rfl (by kernel_rfl) (by kernel_rfl) (by kernel_rfl) (fun _ _ _ h => h) (by rfl) (v := _) (by (intro _ hSw; (try dsimp only at hSw); go_simp; try with_reducible rfl)) hHeld0 ?_
  simp only [Act.put, List.setIfInBounds_toArray, List.set_cons_zero, List.set_cons_succ]
  refine takeY 12 (some 86) rfl rfl (by kernel_rfl) (by kernel_rfl) (by kernel_rfl) (fun _ _ _ h => h) (by rfl) (v := _) (by (intro _ hSw; (try dsimp only at hSw); go_simp; try with_reducible rfl)) hHeld0 ?_
  simp only [Act.put, List.setIfInBounds_toArray, List.set_cons_zero, List.set_cons_succ]
  refine takeY 13 (some 87) rfl rfl (by kernel_rfl) (by kernel_rfl) (by kernel_rfl) (fun _ _ _ h => h) (by rfl) (v := _) (by (intro _ hSw; (try dsimp only at hSw); go_simp; try with_reducible rfl)) hHeld0 ?_
  simp only [Act.put, List.setIfInBounds_toArray, List.set_cons_zero, List.set_cons_succ]
  refine takeY 14 (some 88) rfl rfl (by kernel_rfl) (by kernel_rfl) (by kernel_rfl) (fun _ _ _ h => h) (by rfl) (v := _) (by (intro _ hSw; (try dsimp only at hSw); go_simp; try with_reducible rfl)) hHeld0 ?_
  simp only [Act.put, List.setIfInBounds_toArray, List.set_cons_zero, List.set_cons_succ]
  refine takeY 15 (some 89) rfl rfl (by kernel_rfl) (by kernel_rfl) (by kernel_rfl) (fun _ _ _ h => h) (by rfl) (v := _) (by (intro _ hSw; (try dsimp only at hSw); go_simp; try with_reducible rfl)) hHeld0 ?_
  simp only [Act.put, List.setIfInBounds_toArray, List.set_cons_zero, List.set_cons_succ]
  refine wpAnyH_ready (rs := [16]) (by kernel_rfl) (by simp) ?_
  refine AllReadyH.cons rfl (fun K hK => ?_) AllReadyH.nil
  go_simp
  refine hK.out _ _ trivial (fun hHeld1 => ?_)
  clear hK K hHeld0
  (try simp only [Act.put, List.setIfInBounds_toArray, List.set_cons_zero, List.set_cons_succ])
  refine wpAnyH_ready (rs := [17]) (by kernel_rfl) (by simp) ?_
  refine AllReadyH.cons rfl (fun K hK => ?_) AllReadyH.nil
  go_simp
  refine hK.out _ _ trivial (fun hHeld2 => ?_)
  clear hK K hHeld1
  (try simp only [Act.put, List.setIfInBounds_toArray, List.set_cons_zero, List.set_cons_succ])
  refine wpAnyH_ready (rs := [18]) (by kernel_rfl) (by simp) ?_
  refine AllReadyH.cons rfl (fun K hK => ?_) AllReadyH.nil
  go_simp
  go_wp2_with (first | (go_at_call 12; have _t := tokA; refine (full1D w11 97).mono ?_; clear tokA; rintro e v1 ⟨rfl, hB, hb⟩; have HV1 := Lib.hid (And.intro (HC.out.1.below hb) (And.intro (HQ11.out.below hb) hB)); clear hB hb) | (go_at_call 14; have _t := tokS; refine (samet_any _ _ 256 _ 256 _ fA v1 fA_len fA_len HV1.out.2.1.bytes (Bytes.row HV1.out.2.2)).mono ?_; clear tokS; rintro e v ⟨rfl, rfl⟩) | (go_at_call 16; have hcs : ∀ W, Below v1.heap.size v1 W → CS w W (fun k => k = q4) g dg 16 2 (6 + 1025) D7 L10 := fun W h => HV1.out.1.below h; refine Calls.mono (CS.image (hcs _ ?hcs)) ?_; (case hcs => first | exact Below.refl _ _ | exact (Below.refl _ _).alloc (Nat.le_refl _) _); rintro e v2 ⟨rfl, hs, hb⟩; clear hcs; (try simp only [World.size_alloc] at hs hb); obtain ⟨A9, c9, hx, hy, hE⟩ := hs.cell (k := 4) (by rw [HV1.out.1.st.hale.len]; omega) HC.out.2; rw [fB_len] at hx; have hb1 : Below v1.heap.size v1 v2 := (by first | exact hb | exact ((Below.refl _ _).alloc (Nat.le_refl _) _).trans (hb.mono (Nat.le_succ _))); have hslt := hs.lt; have hx1 : ∀ o, (v2.alloc o).cell? _ = _ := fun o => (World.cell?_of_block (Below.heap_alloc _ _ _ hs.lt)).trans hx; have HV2 := Lib.hid (And.intro (HV1.out.1.below hb1) (And.intro hy (And.intro hslt hx))); (first | (have _hg : v2.heap[v1.heap.size]? = some (.cells #[.int .u8 98] 5 (0, 0)) := (hb.block v1.heap.size (Nat.lt_succ_self _)).trans (heap_alloc_new v1 _); clear _hg; obtain ⟨vf, hcv, hxf, hbf, hyf, hsf, hlf⟩ := litB v1 v2 fB A9 _ hb hy hE hx hslt; have HLF := Lib.hid (And.intro (HV1.out.1.below hbf) (And.intro hyf (And.intro hsf (And.intro hxf hlf)))); clear hbf hyf hsf hlf) | (have _hg : v2.heap[v1.heap.size]? = some (.cells #[.int .u8 98] 5 (1, 2)) := (hb.block v1.heap.size (Nat.lt_succ_self _)).trans (heap_alloc_new v1 _); clear _hg; have HLM := Lib.hid ((lit_bytes v1 98).below (w' := v2) (by rw [World.size_alloc]; exact hb))) | skip); clear hs hb hy hb1 hslt hE) | (go_at_call 12; have hful : ∀ W A, Bytes W A [98] → _ := fun W A h => full_any A 1 1 [98] W rfl (by omega) h; refine Calls.mono (hful _ _ ?hlb) ?_; (case hlb => first | exact lit_bytes v2 98 | exact HLM.out | exact HLF.out.2.2.2.2); rintro e v3 ⟨rfl, hB, hb⟩; clear hful; (try simp only [World.size_alloc] at hB hb); (first | (have hb5 := (lit_below v2 98).trans (hb.mono (Nat.le_succ _)); have hx3 := (hb5.cell HV2.out.2.2.1).trans HV2.out.2.2.2; have HV3 := Lib.hid (And.intro (HV2.out.1.below hb5) (And.intro (HV2.out.2.1.below hb5) hB)); clear hb5) | (have hx3 := (hb.cell HV2.out.2.2.1).trans HV2.out.2.2.2; have HV3 := Lib.hid (And.intro (HV2.out.1.below hb) (And.intro (HV2.out.2.1.below hb) hB))) | (have hx3 := (hb.cell HLF.out.2.2.1).trans HLF.out.2.2.2.1; have HV3 := Lib.hid (And.intro (HLF.out.1.below hb) (And.intro (HLF.out.2.1.below hb) hB)))); clear hB hb) | (go_at_call 14; refine (samet_any _ _ 256 _ 256 _ fB v3 fB_len fB_len HV3.out.2.1 (Bytes.row HV3.out.2.2)).mono ?_; rintro e v ⟨rfl, rfl⟩))
  refine hK.out _ _ trivial (fun hHeld3 => ?_)
  clear hK K hHeld2
  (try simp only [Act.put, List.setIfInBounds_toArray, List.set_cons_zero, List.set_cons_succ])
  refine wpAnyH_ready (rs := [19]) (by kernel_rfl) (by simp) ?_
  refine AllReadyH.cons rfl (fun K hK => ?_) AllReadyH.nil
  go_simp
  go_wp2_with (first | (go_at_call 12; have _t := tokA; refine (full1D w11 97).mono ?_; clear tokA; rintro e v1 ⟨rfl, hB, hb⟩; have HV1 := Lib.hid (And.intro (HC.out.1.below hb) (And.intro (HQ11.out.below hb) hB)); clear hB hb) | (go_at_call 14; have _t := tokS; refine (samet_any _ _ 256 _ 256 _ fA v1 fA_len fA_len HV1.out.2.1.bytes (Bytes.row HV1.out.2.2)).mono ?_; clear tokS; rintro e v ⟨rfl, rfl⟩) | (go_at_call 16; have hcs : ∀ W, Below v1.heap.size v1 W → CS w W (fun k => k = q4) g dg 16 2 (6 + 1025) D7 L10 := fun W h => HV1.out.1.below h; refine Calls.mono (CS.image (hcs _ ?hcs)) ?_; (case hcs => first | exact Below.refl _ _ | exact (Below.refl _ _).alloc (Nat.le_refl _) _); rintro e v2 ⟨rfl, hs, hb⟩; clear hcs; (try simp only [World.size_alloc] at hs hb); obtain ⟨A9, c9, hx, hy, hE⟩ := hs.cell (k := 4) (by rw [HV1.out.1.st.hale.len]; omega) HC.out.2; rw [fB_len] at hx; have hb1 : Below v1.heap.size v1 v2 := (by first | exact hb | exact ((Below.refl _ _).alloc (Nat.le_refl _) _).trans (hb.mono (Nat.le_succ _))); have hslt := hs.lt; have hx1 : ∀ o, (v2.alloc o).cell? _ = _ := fun o => (World.cell?_of_block (Below.heap_alloc _ _ _ hs.lt)).trans hx; have HV2 := Lib.hid (And.intro (HV1.out.1.below hb1) (And.intro hy (And.intro hslt hx))); (first | (have _hg : v2.heap[v1.heap.size]? = some (.cells #[.int .u8 98] 5 (0, 0)) := (hb.block v1.heap.size (Nat.lt_succ_self _)).trans (heap_alloc_new v1 _); clear _hg; obtain ⟨vf, hcv, hxf, hbf, hyf, hsf, hlf⟩ := litB v1 v2 fB A9 _ hb hy hE hx hslt; have HLF := Lib.hid (And.intro (HV1.out.1.below hbf) (And.intro hyf (And.intro hsf (And.intro hxf hlf)))); clear hbf hyf hsf hlf) | (have _hg : v2.heap[v1.heap.size]? = some (.cells #[.int .u8 98] 5 (1, 2)) := (hb.block v1.heap.size (Nat.lt_succ_self _)).trans (heap_alloc_new v1 _); clear _hg; have HLM := Lib.hid ((lit_bytes v1 98).below (w' := v2) (by rw [World.size_alloc]; exact hb))) | skip); clear hs hb hy hb1 hslt hE) | (go_at_call 12; have hful : ∀ W A, Bytes W A [98] → _ := fun W A h => full_any A 1 1 [98] W rfl (by omega) h; refine Calls.mono (hful _ _ ?hlb) ?_; (case hlb => first | exact lit_bytes v2 98 | exact HLM.out | exact HLF.out.2.2.2.2); rintro e v3 ⟨rfl, hB, hb⟩; clear hful; (try simp only [World.size_alloc] at hB hb); (first | (have hb5 := (lit_below v2 98).trans (hb.mono (Nat.le_succ _)); have hx3 := (hb5.cell HV2.out.2.2.1).trans HV2.out.2.2.2; have HV3 := Lib.hid (And.intro (HV2.out.1.below hb5) (And.intro (HV2.out.2.1.below hb5) hB)); clear hb5) | (have hx3 := (hb.cell HV2.out.2.2.1).trans HV2.out.2.2.2; have HV3 := Lib.hid (And.intro (HV2.out.1.below hb) (And.intro (HV2.out.2.1.below hb) hB))) | (have hx3 := (hb.cell HLF.out.2.2.1).trans HLF.out.2.2.2.1; have HV3 := Lib.hid (And.intro (HLF.out.1.below hb) (And.intro (HLF.out.2.1.below hb) hB)))); clear hB hb) | (go_at_call 14; refine (samet_any _ _ 256 _ 256 _ fB v3 fB_len fB_len HV3.out.2.1 (Bytes.row HV3.out.2.2)).mono ?_; rintro e v ⟨rfl, rfl⟩))
  refine hK.out _ _ trivial (fun hHeld4 => ?_)
  clear hK K hHeld3
  (try simp only [Act.put, List.setIfInBounds_toArray, List.set_cons_zero, List.set_cons_succ])
  refine takeY 20 (some 94) rfl rfl (by kernel_rfl) (by kernel_rfl) (by kernel_rfl) (fun _ _ _ h => h) (by rfl) (v := _) (by (intro _ hSw; (try dsimp only at hSw); go_simp; try with_reducible rfl)) hHeld4 ?_
  simp only [Act.put, List.setIfInBounds_toArray, List.set_cons_zero, List.set_cons_succ]
  refine takeY 21 (some 95) rfl rfl (by kernel_rfl) (by kernel_rfl) (by kernel_rfl) (fun _ _ _ h => h) (by rfl) (v := _) (by (intro _ hSw; (try dsimp only at hSw); go_simp; try with_reducible rfl)) hHeld4 ?_
  simp only [Act.put, List.setIfInBounds_toArray, List.set_cons_zero, List.set_cons_succ]
  refine takeY 22 (some 96) rfl rfl (by kernel_rfl) (by kernel_rfl) (by kernel_rfl) (fun _ _ _ h => h) (by rfl) (v := _) (by (intro _ hSw; (try dsimp only at hSw); go_simp; try with_reducible rfl)) hHeld4 ?_
  simp only [Act.put, List.setIfInBounds_toArray, List.set_cons_zero, List.set_cons_succ]
  refine takeY 23 (some 97) rfl rfl (by kernel_rfl) (by kernel_rfl) (by kernel_rfl) (fun _ _ _ h => h) (by rfl) (v := _) (by (intro _ hSw; (try dsimp only at hSw); go_simp; try with_reducible rfl)) hHeld4 ?_
  simp only [Act.put, List.setIfInBounds_toArray, List.set_cons_zero, List.set_cons_succ]
  refine takeY 24 (some 98) rfl rfl (by kernel_rfl) (by kernel_rfl) (by kernel_rfl) (fun _ _ _ h => h) (by rfl) (v := _) (by (intro _ hSw; (try dsimp only at hSw); go_simp; try with_reducible rfl)) hHeld4 ?_
  simp only [Act.put, List.setIfInBounds_toArray, List.set_cons_zero, List.set_cons_succ]
  refine takeY 25 (some 99) rfl rfl (by kernel_rfl) (by kernel_rfl) (by kernel_rfl) (fun _ _ _ h => h) (by rfl) (v := _) (by (intro _ hSw; (try dsimp only at hSw); go_simp; try with_reducible rfl)) hHeld4 ?_
  simp only [Act.put, List.setIfInBounds_toArray, List.set_cons_zero, List.set_cons_succ]
  refine takeY 26 (some 100) rfl rfl (by kernel_rfl) (by kernel_rfl) (by kernel_rfl) (fun _ _ _ h => h) (by rfl) (v := _) (by (intro _ hSw; (try dsimp only at hSw); go_simp; try with_reducible rfl)) hHeld4 ?_
  simp only [Act.put, List.setIfInBounds_toArray, List.set_cons_zero, List.set_cons_succ]
  refine takeY 27 (some 101) rfl rfl (by kernel_rfl) (by kernel_rfl) (by kernel_rfl) (fun _ _ _ h => h) (by rfl) (v := _) (by (intro _ hSw; (try dsimp only at hSw); go_simp; try with_reducible rfl)) hHeld4 ?_
  simp only [Act.put, List.setIfInBounds_toArray, List.set_cons_zero, List.set_cons_succ]
  refine takeY 28 (some 102) rfl rfl (by kernel_rfl) (by kernel_rfl) (by kernel_rfl) (fun _ _ _ h => h) (by rfl) (v := _) (by (intro _ hSw; (try dsimp only at hSw); go_simp; try with_reducible rfl)) hHeld4 ?_
  simp only [Act.put, List.setIfInBounds_toArray, List.set_cons_zero, List.set_cons_succ]
  refine takeY 29 (some 103) rfl rfl (by kernel_rfl) (by kernel_rfl) (by kernel_rfl) (fun _ _ _ h => h) (by rfl) (v := _) (by (intro _ hSw; (try dsimp only at hSw); go_simp; try with_reducible rfl)) hHeld4 ?_
  simp only [Act.put, List.setIfInBounds_toArray, List.set_cons_zero, List.set_cons_succ]
  refine takeY 30 (some 104) rfl rfl (by kernel_rfl) (by kernel_rfl) (by kernel_rfl) (fun _ _ _ h => h) (by rfl) (v := _) (by (intro _ hSw; (try dsimp only at hSw); go_simp; try with_reducible rfl)) hHeld4 ?_
  simp only [Act.put, List.setIfInBounds_toArray, List.set_cons_zero, List.set_cons_succ]
  refine takeY 31 (some 105) rfl rfl (by kernel_rfl) (by kernel_rfl) (by kernel_rfl) (fun _ _ _ h => h) (by rfl) (v := _) (by (intro _ hSw; (try dsimp only at hSw); go_simp; try with_reducible rfl)) hHeld4 ?_
  simp only [Act.put, List.setIfInBounds_toArray, List.set_cons_zero, List.set_cons_succ]
  refine takeY 32 (some 106) rfl rfl (by kernel_rfl) (by kernel_rfl) (by kernel_rfl) (fun _ _ _ h => h) (by rfl) (v := _) (by (intro _ hSw; (try dsimp only at hSw); go_simp; try with_reducible rfl)) hHeld4 ?_
  simp only [Act.put, List.setIfInBounds_toArray, List.set_cons_zero, List.set_cons_succ]
  refine takeY 33 (some 107) rfl rfl (by kernel_rfl) (by kernel_rfl) (by kernel_rfl) (fun _ _ _ h => h) (by rfl) (v := _) (by (intro _ hSw; (try dsimp only at hSw); go_simp; try with_reducible rfl)) hHeld4 ?_
  simp only [Act.put, List.setIfInBounds_toArray, List.set_cons_zero, List.set_cons_succ]
  refine takeY 34 (some 108) rfl rfl (by kernel_rfl) (by kernel_rfl) (by kernel_rfl) (fun _ _ _ h => h) (by rfl) (v := _) (by (intro _ hSw; (try dsimp only at hSw); go_simp; try with_reducible rfl)) hHeld4 ?_
  simp only [Act.put, List.setIfInBounds_toArray, List.set_cons_zero, List.set_cons_succ]
  refine takeY 35 (some 109) rfl rfl (by kernel_rfl) (by kernel_rfl) (by kernel_rfl) (fun _ _ _ h => h) (by rfl) (v := _) (by (intro _ hSw; (try dsimp only at hSw); go_simp; try with_reducible rfl)) hHeld4 ?_
  simp only [Act.put, List.setIfInBounds_toArray, List.set_cons_zero, List.set_cons_succ]
  refine takeY 36 (some 110) rfl rfl (by kernel_rfl) (by kernel_rfl) (by kernel_rfl) (fun _ _ _ h => h) (by rfl) (v := _) (by (intro _ hSw; (try dsimp only at hSw); go_simp; try with_reducible rfl)) hHeld4 ?_
  simp only [Act.put, List.setIfInBounds_toArray, List.set_cons_zero, List.set_cons_succ]
  refine takeY 37 (some 111) rfl rfl (by kernel_rfl) (by kernel_rfl) (by kernel_rfl) (fun _ _ _ h => h) (by rfl) (v := _) (by (intro _ hSw; (try dsimp only at hSw); go_simp; try with_reducible rfl)) hHeld4 ?_
  simp only [Act.put, List.setIfInBounds_toArray, List.set_cons_zero, List.set_cons_succ]
  refine takeY 38 (some 112) rfl rfl (by kernel_rfl) (by kernel_rfl) (by kernel_rfl) (fun _ _ _ h => h) (by rfl) (v := _) (by (intro _ hSw; (try dsimp only at hSw); go_simp; try with_reducible rfl)) hHeld4 ?_
  simp only [Act.put, List.setIfInBounds_toArray, List.set_cons_zero, List.set_cons_succ]
  refine wpAnyH_ready (rs := [39, 42]) (by kernel_rfl) (by simp) ?_
  refine AllReadyH.cons rfl (fun K hK => ?_) ?_
  · go_simp
    go_wp2_with (first | (go_at_call 12; have _t := tokA; refine (full1D w11 97).mono ?_; clear tokA; rintro e v1 ⟨rfl, hB, hb⟩; have HV1 := Lib.hid (And.intro (HC.out.1.below hb) (And.intro (HQ11.out.below hb) hB)); clear hB hb) | (go_at_call 14; have _t := tokS; refine (samet_any _ _ 256 _ 256 _ fA v1 fA_len fA_len HV1.out.2.1.bytes (Bytes.row HV1.out.2.2)).mono ?_; clear tokS; rintro e v ⟨rfl, rfl⟩) | (go_at_call 16; have hcs : ∀ W, Below v1.heap.size v1 W → CS w W (fun k => k = q4) g dg 16 2 (6 + 1025) D7 L10 := fun W h => HV1.out.1.below h; refine Calls.mono (CS.image (hcs _ ?hcs)) ?_; (case hcs => first | exact Below.refl _ _ | exact (Below.refl _ _).alloc (Nat.le_refl _) _); rintro e v2 ⟨rfl, hs, hb⟩; clear hcs; (try simp only [World.size_alloc] at hs hb); obtain ⟨A9, c9, hx, hy, hE⟩ := hs.cell (k := 4) (by rw [HV1.out.1.st.hale.len]; omega) HC.out.2; rw [fB_len] at hx; have hb1 : Below v1.heap.size v1 v2 := (by first | exact hb | exact ((Below.refl _ _).alloc (Nat.le_refl _) _).trans (hb.mono (Nat.le_succ _))); have hslt := hs.lt; have hx1 : ∀ o, (v2.alloc o).cell? _ = _ := fun o => (World.cell?_of_block (Below.heap_alloc _ _ _ hs.lt)).trans hx; have HV2 := Lib.hid (And.intro (HV1.out.1.below hb1) (And.intro hy (And.intro hslt hx))); (first | (have _hg : v2.heap[v1.heap.size]? = some (.cells #[.int .u8 98] 5 (0, 0)) := (hb.block v1.heap.size (Nat.lt_succ_self _)).trans (heap_alloc_new v1 _); clear _hg; obtain ⟨vf, hcv, hxf, hbf, hyf, hsf, hlf⟩ := litB v1 v2 fB A9 _ hb hy hE hx hslt; have HLF := Lib.hid (And.intro (HV1.out.1.below hbf) (And.intro hyf (And.intro hsf (And.intro hxf hlf)))); clear hbf hyf hsf hlf) | (have _hg : v2.heap[v1.heap.size]? = some (.cells #[.int .u8 98] 5 (1, 2)) := (hb.block v1.heap.size (Nat.lt_succ_self _)).trans (heap_alloc_new v1 _); clear _hg; have HLM := Lib.hid ((lit_bytes v1 98).below (w' := v2) (by rw [World.size_alloc]; exact hb))) | skip); clear hs hb hy hb1 hslt hE) | (go_at_call 12; have hful : ∀ W A, Bytes W A [98] → _ := fun W A h => full_any A 1 1 [98] W rfl (by omega) h; refine Calls.mono (hful _ _ ?hlb) ?_; (case hlb => first | exact lit_bytes v2 98 | exact HLM.out | exact HLF.out.2.2.2.2); rintro e v3 ⟨rfl, hB, hb⟩; clear hful; (try simp only [World.size_alloc] at hB hb); (first | (have hb5 := (lit_below v2 98).trans (hb.mono (Nat.le_succ _)); have hx3 := (hb5.cell HV2.out.2.2.1).trans HV2.out.2.2.2; have HV3 := Lib.hid (And.intro (HV2.out.1.below hb5) (And.intro (HV2.out.2.1.below hb5) hB)); clear hb5) | (have hx3 := (hb.cell HV2.out.2.2.1).trans HV2.out.2.2.2; have HV3 := Lib.hid (And.intro (HV2.out.1.below hb) (And.intro (HV2.out.2.1.below hb) hB))) | (have hx3 := (hb.cell HLF.out.2.2.1).trans HLF.out.2.2.2.1; have HV3 := Lib.hid (And.intro (HLF.out.1.below hb) (And.intro (HLF.out.2.1.below hb) hB)))); clear hB hb) | (go_at_call 14; refine (samet_any _ _ 256 _ 256 _ fB v3 fB_len fB_len HV3.out.2.1 (Bytes.row HV3.out.2.2)).mono ?_; rintro e v ⟨rfl, rfl⟩))
    refine hK.out _ _ trivial (fun hHeld5 => ?_)
    clear hK K hHeld4
    (try simp only [Act.put, List.setIfInBounds_toArray, List.set_cons_zero, List.set_cons_succ])
    refine takeY 40 (some 114) rfl rfl (by kernel_rfl) (by kernel_rfl) (by kernel_rfl) (fun _ _ _ h => h) (by rfl) (v := _) (by (intro _ hSw; (try dsimp only at hSw); go_simp; try with_reducible rfl)) hHeld5 ?_
    simp only [Act.put, List.setIfInBounds_toArray, List.set_cons_zero, List.set_cons_succ]
    refine wpAnyH_ready (rs := [41, 42]) (by kernel_rfl) (by simp) ?_
    refine AllReadyH.cons rfl (fun K hK => ?_) ?_
    · go_simp
      refine hK.out _ _ trivial (fun hHeld6 => ?_)
      clear hK K hHeld5
      (try simp only [Act.put, List.setIfInBounds_toArray, List.set_cons_zero, List.set_cons_succ])
      refine wpAnyH_ready (rs := [42]) (by kernel_rfl) (by simp) ?_
      refine AllReadyH.cons rfl (fun K hK => ?_) AllReadyH.nil
      go_simp
      refine hK.out _ _ trivial (fun hHeld7 => ?_)
      clear hK K hHeld6
      (try simp only [Act.put, List.setIfInBounds_toArray, List.set_cons_zero, List.set_cons_succ])
      refine wpAnyH_ready (rs := [43]) (by kernel_rfl) (by simp) ?_
      refine AllReadyH.cons rfl (fun K hK => ?_) AllReadyH.nil
      go_simp
      refine hK.out _ _ trivial (fun hHeld8 => ?_)
      clear hK K hHeld7
      (try simp only [Act.put, List.setIfInBounds_toArray, List.set_cons_zero, List.set_cons_succ])
      refine wpAnyH_ready (rs := [44]) (by kernel_rfl) (by simp) ?_
      refine AllReadyH.cons rfl (fun K hK => ?_) AllReadyH.nil
      go_simp
      go_wp2_with (first | (go_at_call 12; have _t := tokA; refine (full1D w11 97).mono ?_; clear tokA; rintro e v1 ⟨rfl, hB, hb⟩; have HV1 := Lib.hid (And.intro (HC.out.1.below hb) (And.intro (HQ11.out.below hb) hB)); clear hB hb) | (go_at_call 14; have _t := tokS; refine (samet_any _ _ 256 _ 256 _ fA v1 fA_len fA_len HV1.out.2.1.bytes (Bytes.row HV1.out.2.2)).mono ?_; clear tokS; rintro e v ⟨rfl, rfl⟩) | (go_at_call 16; have hcs : ∀ W, Below v1.heap.size v1 W → CS w W (fun k => k = q4) g dg 16 2 (6 + 1025) D7 L10 := fun W h => HV1.out.1.below h; refine Calls.mono (CS.image (hcs _ ?hcs)) ?_; (case hcs => first | exact Below.refl _ _ | exact (Below.refl _ _).alloc (Nat.le_refl _) _); rintro e v2 ⟨rfl, hs, hb⟩; clear hcs; (try simp only [World.size_alloc] at hs hb); obtain ⟨A9, c9, hx, hy, hE⟩ := hs.cell (k := 4) (by rw [HV1.out.1.st.hale.len]; omega) HC.out.2; rw [fB_len] at hx; have hb1 : Below v1.heap.size v1 v2 := (by first | exact hb | exact ((Below.refl _ _).alloc (Nat.le_refl _) _).trans (hb.mono (Nat.le_succ _))); have hslt := hs.lt; have hx1 : ∀ o, (v2.alloc o).cell? _ = _ := fun o => (World.cell?_of_block (Below.heap_alloc _ _ _ hs.lt)).trans hx; have HV2 := Lib.hid (And.intro (HV1.out.1.below hb1) (And.intro hy (And.intro hslt hx))); (first | (have _hg : v2.heap[v1.heap.size]? = some (.cells #[.int .u8 98] 5 (0, 0)) := (hb.block v1.heap.size (Nat.lt_succ_self _)).trans (heap_alloc_new v1 _); clear _hg; obtain ⟨vf, hcv, hxf, hbf, hyf, hsf, hlf⟩ := litB v1 v2 fB A9 _ hb hy hE hx hslt; have HLF := Lib.hid (And.intro (HV1.out.1.below hbf) (And.intro hyf (And.intro hsf (And.intro hxf hlf)))); clear hbf hyf hsf hlf) | (have _hg : v2.heap[v1.heap.size]? = some (.cells #[.int .u8 98] 5 (1, 2)) := (hb.block v1.heap.size (Nat.lt_succ_self _)).trans (heap_alloc_new v1 _); clear _hg; have HLM := Lib.hid ((lit_bytes v1 98).below (w' := v2) (by rw [World.size_alloc]; exact hb))) | skip); clear hs hb hy hb1 hslt hE) | (go_at_call 12; have hful : ∀ W A, Bytes W A [98] → _ := fun W A h => full_any A 1 1 [98] W rfl (by omega) h; refine Calls.mono (hful _ _ ?hlb) ?_; (case hlb => first | exact lit_bytes v2 98 | exact HLM.out | exact HLF.out.2.2.2.2); rintro e v3 ⟨rfl, hB, hb⟩; clear hful; (try simp only [World.size_alloc] at hB hb); (first | (have hb5 := (lit_below v2 98).trans (hb.mono (Nat.le_succ _)); have hx3 := (hb5.cell HV2.out.2.2.1).trans HV2.out.2.2.2; have HV3 := Lib.hid (And.intro (HV2.out.1.below hb5) (And.intro (HV2.out.2.1.below hb5) hB)); clear hb5) | (have hx3 := (hb.cell HV2.out.2.2.1).trans HV2.out.2.2.2; have HV3 := Lib.hid (And.intro (HV2.out.1.below hb) (And.intro (HV2.out.2.1.below hb) hB))) | (have hx3 := (hb.cell HLF.out.2.2.1).trans HLF.out.2.2.2.1; have HV3 := Lib.hid (And.intro (HLF.out.1.below hb) (And.intro (HLF.out.2.1.below hb) hB)))); clear hB hb) | (go_at_call 14; refine (samet_any _ _ 256 _ 256 _ fB v3 fB_len fB_len HV3.out.2.1 (Bytes.row HV3.out.2.2)).mono ?_; rintro e v ⟨rfl, rfl⟩))
      refine hK.out _ _ trivial (fun hHeld9 => ?_)
      clear hK K hHeld8
      (try simp only [Act.put, List.setIfInBounds_toArray, List.set_cons_zero, List.set_cons_succ])
      refine wpAnyH_ready (rs := [45]) (by kernel_rfl) (by simp) ?_
      refine AllReadyH.cons rfl (fun K hK => ?_) AllReadyH.nil
      go_simp
      go_wp2_with (first | (go_at_call 12; have _t := tokA; refine (full1D w11 97).mono ?_; clear tokA; rintro e v1 ⟨rfl, hB, hb⟩; have HV1 := Lib.hid (And.intro (HC.out.1.below hb) (And.intro (HQ11.out.below hb) hB)); clear hB hb) | (go_at_call 14; have _t := tokS; refine (samet_any _ _ 256 _ 256 _ fA v1 fA_len fA_len HV1.out.2.1.bytes (Bytes.row HV1.out.2.2)).mono ?_; clear tokS; rintro e v ⟨rfl, rfl⟩) | (go_at_call 16; have hcs : ∀ W, Below v1.heap.size v1 W → CS w W (fun k => k = q4) g dg 16 2 (6 + 1025) D7 L10 := fun W h => HV1.out.1.below h; refine Calls.mono (CS.image (hcs _ ?hcs)) ?_; (case hcs => first | exact Below.refl _ _ | exact (Below.refl _ _).alloc (Nat.le_refl _) _); rintro e v2 ⟨rfl, hs, hb⟩; clear hcs; (try simp only [World.size_alloc] at hs hb); obtain ⟨A9, c9, hx, hy, hE⟩ := hs.cell (k := 4) (by rw [HV1.out.1.st.hale.len]; omega) HC.out.2; rw [fB_len] at hx; have hb1 : Below v1.heap.size v1 v2 := (by first | exact hb | exact ((Below.refl _ _).alloc (Nat.le_refl _) _).trans (hb.mono (Nat.le_succ _))); have hslt := hs.lt; have hx1 : ∀ o, (v2.alloc o).cell? _ = _ := fun o => (World.cell?_of_block (Below.heap_alloc _ _ _ hs.lt)).trans hx; have HV2 := Lib.hid (And.intro (HV1.out.1.below hb1) (And.intro hy (And.intro hslt hx))); (first | (have _hg : v2.heap[v1.heap.size]? = some (.cells #[.int .u8 98] 5 (0, 0)) := (hb.block v1.heap.size (Nat.lt_succ_self _)).trans (heap_alloc_new v1 _); clear _hg; obtain ⟨vf, hcv, hxf, hbf, hyf, hsf, hlf⟩ := litB v1 v2 fB A9 _ hb hy hE hx hslt; have HLF := Lib.hid (And.intro (HV1.out.1.below hbf) (And.intro hyf (And.intro hsf (And.intro hxf hlf)))); clear hbf hyf hsf hlf) | (have _hg : v2.heap[v1.heap.size]? = some (.cells #[.int .u8 98] 5 (1, 2)) := (hb.block v1.heap.size (Nat.lt_succ_self _)).trans (heap_alloc_new v1 _); clear _hg; have HLM := Lib.hid ((lit_bytes v1 98).below (w' := v2) (by rw [World.size_alloc]; exact hb))) | skip); clear hs hb hy hb1 hslt hE) | (go_at_call 12; have hful : ∀ W A, Bytes W A [98] → _ := fun W A h => full_any A 1 1 [98] W rfl (by omega) h; refine Calls.mono (hful _ _ ?hlb) ?_; (case hlb => first | exact lit_bytes v2 98 | exact HLM.out | exact HLF.out.2.2.2.2); rintro e v3 ⟨rfl, hB, hb⟩; clear hful; (try simp only [World.size_alloc] at hB hb); (first | (have hb5 := (lit_below v2 98).trans (hb.mono (Nat.le_succ _)); have hx3 := (hb5.cell HV2.out.2.2.1).trans HV2.out.2.2.2; have HV3 := Lib.hid (And.intro (HV2.out.1.below hb5) (And.intro (HV2.out.2.1.below hb5) hB)); clear hb5) | (have hx3 := (hb.cell HV2.out.2.2.1).trans HV2.out.2.2.2; have HV3 := Lib.hid (And.intro (HV2.out.1.below hb) (And.intro (HV2.out.2.1.below hb) hB))) | (have hx3 := (hb.cell HLF.out.2.2.1).trans HLF.out.2.2.2.1; have HV3 := Lib.hid (And.intro (HLF.out.1.below hb) (And.intro (HLF.out.2.1.below hb) hB)))); clear hB hb) | (go_at_call 14; refine (samet_any _ _ 256 _ 256 _ fB v3 fB_len fB_len HV3.out.2.1 (Bytes.row HV3.out.2.2)).mono ?_; rintro e v ⟨rfl, rfl⟩))
      refine hK.out _ _ trivial (fun hHeld10 => ?_)
      clear hK K hHeld9
      (try simp only [Act.put, List.setIfInBounds_toArray, List.set_cons_zero, List.set_cons_succ])
      refine takeY 46 (some 120) rfl rfl (by kernel_rfl) (by kernel_rfl) (by kernel_rfl) (fun _ _ _ h => h) (by rfl) (v := _) (by (intro _ hSw; (try dsimp only at hSw); go_simp; try with_reducible rfl)) hHeld10 ?_
      simp only [Act.put, List.setIfInBounds_toArray, List.set_cons_zero, List.set_cons_succ]
      refine takeY 47 (some 0) rfl rfl (by kernel_rfl) (by kernel_rfl) (by kernel_rfl) (fun _ _ _ h => h) (by rfl) (v := _) (by (intro _ hSw; (try dsimp only at hSw); go_simp; try with_reducible rfl)) hHeld10 ?_
      simp only [Act.put, List.setIfInBounds_toArray, List.set_cons_zero]
      refine wpAnyH_done (by kernel_rfl) ?_ _
      go_wp2_with fail
      go_ret
      exact ⟨rfl, HV3.out.1.bel⟩
    refine AllReadyH.cons rfl (fun K hK => ?_) AllReadyH.nil
    go_simp
    refine hK.out _ _ trivial (fun hHeld11 => ?_)
    clear hK K hHeld5
    (try simp only [Act.put, List.setIfInBounds_toArray, List.set_cons_zero, List.set_cons_succ])
    refine wpAnyH_ready (rs := [41, 43]) (by kernel_rfl) (by simp) ?_
    refine AllReadyH.cons rfl (fun K hK => ?_) ?_
    · go_simp
      refine hK.out _ _ trivial (fun hHeld12 => ?_)
      clear hK K hHeld11
      (try simp only [Act.put, List.setIfInBounds_toArray, List.set_cons_zero, List.set_cons_succ])
      refine wpAnyH_ready (rs := [43]) (by kernel_rfl) (by simp) ?_
      refine AllReadyH.cons rfl (fun K hK => ?_) AllReadyH.nil
      go_simp
      refine hK.out _ _ trivial (fun hHeld13 => ?_)
      clear hK K hHeld12
      (try simp only [Act.put, List.setIfInBounds_toArray, List.set_cons_zero, List.set_cons_succ])
      refine wpAnyH_ready (rs := [44]) (by kernel_rfl) (by simp) ?_
      refine AllReadyH.cons rfl (fun K hK => ?_) AllReadyH.nil
      go_simp
      go_wp2_with (first | (go_at_call 12; have _t := tokA; refine (full1D w11 97).mono ?_; clear tokA; rintro e v1 ⟨rfl, hB, hb⟩; have HV1 := Lib.hid (And.intro (HC.out.1.below hb) (And.intro (HQ11.out.below hb) hB)); clear hB hb) | (go_at_call 14; have _t := tokS; refine (samet_any _ _ 256 _ 256 _ fA v1 fA_len fA_len HV1.out.2.1.bytes (Bytes.row HV1.out.2.2)).mono ?_; clear tokS; rintro e v ⟨rfl, rfl⟩) | (go_at_call 16; have hcs : ∀ W, Below v1.heap.size v1 W → CS w W (fun k => k = q4) g dg 16 2 (6 + 1025) D7 L10 := fun W h => HV1.out.1.below h; refine Calls.mono (CS.image (hcs _ ?hcs)) ?_; (case hcs => first | exact Below.refl _ _ | exact (Below.refl _ _).alloc (Nat.le_refl _) _); rintro e v2 ⟨rfl, hs, hb⟩; clear hcs; (try simp only [World.size_alloc] at hs hb); obtain ⟨A9, c9, hx, hy, hE⟩ := hs.cell (k := 4) (by rw [HV1.out.1.st.hale.len]; omega) HC.out.2; rw [fB_len] at hx; have hb1 : Below v1.heap.size v1 v2 := (by first | exact hb | exact ((Below.refl _ _).alloc (Nat.le_refl _) _).trans (hb.mono (Nat.le_succ _))); have hslt := hs.lt; have hx1 : ∀ o, (v2.alloc o).cell? _ = _ := fun o => (World.cell?_of_block (Below.heap_alloc _ _ _ hs.lt)).trans hx; have HV2 := Lib.hid (And.intro (HV1.out.1.below hb1) (And.intro hy (And.intro hslt hx))); (first | (have _hg : v2.heap[v1.heap.size]? = some (.cells #[.int .u8 98] 5 (0, 0)) := (hb.block v1.heap.size (Nat.lt_succ_self _)).trans (heap_alloc_new v1 _); clear _hg; obtain ⟨vf, hcv, hxf, hbf, hyf, hsf, hlf⟩ := litB v1 v2 fB A9 _ hb hy hE hx hslt; have HLF := Lib.hid (And.intro (HV1.out.1.below hbf) (And.intro hyf (And.intro hsf (And.intro hxf hlf)))); clear hbf hyf hsf hlf) | (have _hg : v2.heap[v1.heap.size]? = some (.cells #[.int .u8 98] 5 (1, 2)) := (hb.block v1.heap.size (Nat.lt_succ_self _)).trans (heap_alloc_new v1 _); clear _hg; have HLM := Lib.hid ((lit_bytes v1 98).below (w' := v2) (by rw [World.size_alloc]; exact hb))) | skip); clear hs hb hy hb1 hslt hE) | (go_at_call 12; have hful : ∀ W A, Bytes W A [98] → _ := fun W A h => full_any A 1 1 [98] W rfl (by omega) h; refine Calls.mono (hful _ _ ?hlb) ?_; (case hlb => first | exact lit_bytes v2 98 | exact HLM.out | exact HLF.out.2.2.2.2); rintro e v3 ⟨rfl, hB, hb⟩; clear hful; (try simp only [World.size_alloc] at hB hb); (first | (have hb5 := (lit_below v2 98).trans (hb.mono (Nat.le_succ _)); have hx3 := (hb5.cell HV2.out.2.2.1).trans HV2.out.2.2.2; have HV3 := Lib.hid (And.intro (HV2.out.1.below hb5) (And.intro (HV2.out.2.1.below hb5) hB)); clear hb5) | (have hx3 := (hb.cell HV2.out.2.2.1).trans HV2.out.2.2.2; have HV3 := Lib.hid (And.intro (HV2.out.1.below hb) (And.intro (HV2.out.2.1.below hb) hB))) | (have hx3 := (hb.cell HLF.out.2.2.1).trans HLF.out.2.2.2.1; have HV3 := Lib.hid (And.intro (HLF.out.1.below hb) (And.intro (HLF.out.2.1.below hb) hB)))); clear hB hb) | (go_at_call 14; refine (samet_any _ _ 256 _ 256 _ fB v3 fB_len fB_len HV3.out.2.1 (Bytes.row HV3.out.2.2)).mono ?_; rintro e v ⟨rfl, rfl⟩))
      refine hK.out _ _ trivial (fun hHeld14 => ?_)
      clear hK K hHeld13
      (try simp only [Act.put, List.setIfInBounds_toArray, List.set_cons_zero, List.set_cons_succ])
      refine wpAnyH_ready (rs := [45]) (by kernel_rfl) (by simp) ?_
      refine AllReadyH.cons rfl (fun K hK => ?_) AllReadyH.nil
      go_simp
      go_wp2_with (first | (go_at_call 12; have _t := tokA; refine (full1D w11 97).mono ?_; clear tokA; rintro e v1 ⟨rfl, hB, hb⟩; have HV1 := Lib.hid (And.intro (HC.out.1.below hb) (And.intro (HQ11.out.below hb) hB)); clear hB hb) | (go_at_call 14; have _t := tokS; refine (samet_any _ _ 256 _ 256 _ fA v1 fA_len fA_len HV1.out.2.1.bytes (Bytes.row HV1.out.2.2)).mono ?_; clear tokS; rintro e v ⟨rfl, rfl⟩) | (go_at_call 16; have hcs : ∀ W, Below v1.heap.size v1 W → CS w W (fun k => k = q4) g dg 16 2 (6 + 1025) D7 L10 := fun W h => HV1.out.1.below h; refine Calls.mono (CS.image (hcs _ ?hcs)) ?_; (case hcs => first | exact Below.refl _ _ | exact (Below.refl _ _).alloc (Nat.le_refl _) _); rintro e v2 ⟨rfl, hs, hb⟩; clear hcs; (try simp only [World.size_alloc] at hs hb); obtain ⟨A9, c9, hx, hy, hE⟩ := hs.cell (k := 4) (by rw [HV1.out.1.st.hale.len]; omega) HC.out.2; rw [fB_len] at hx; have hb1 : Below v1.heap.size v1 v2 := (by first | exact hb | exact ((Below.refl _ _).alloc (Nat.le_refl _) _).trans (hb.mono (Nat.le_succ _))); have hslt := hs.lt; have hx1 : ∀ o, (v2.alloc o).cell? _ = _ := fun o => (World.cell?_of_block (Below.heap_alloc _ _ _ hs.lt)).trans hx; have HV2 := Lib.hid (And.intro (HV1.out.1.below hb1) (And.intro hy (And.intro hslt hx))); (first | (have _hg : v2.heap[v1.heap.size]? = some (.cells #[.int .u8 98] 5 (0, 0)) := (hb.block v1.heap.size (Nat.lt_succ_self _)).trans (heap_alloc_new v1 _); clear _hg; obtain ⟨vf, hcv, hxf, hbf, hyf, hsf, hlf⟩ := litB v1 v2 fB A9 _ hb hy hE hx hslt; have HLF := Lib.hid (And.intro (HV1.out.1.below hbf) (And.intro hyf (And.intro hsf (And.intro hxf hlf)))); clear hbf hyf hsf hlf) | (have _hg : v2.heap[v1.heap.size]? = some (.cells #[.int .u8 98] 5 (1, 2)) := (hb.block v1.heap.size (Nat.lt_succ_self _)).trans (heap_alloc_new v1 _); clear _hg; have HLM := Lib.hid ((lit_bytes v1 98).below (w' := v2) (by rw [World.size_alloc]; exact hb))) | skip); clear hs hb hy hb1 hslt hE) | (go_at_call 12; have hful : ∀ W A, Bytes W A [98] → _ := fun W A h => full_any A 1 1 [98] W rfl (by omega) h; refine Calls.mono (hful _ _ ?hlb) ?_; (case hlb => first | exact lit_bytes v2 98 | exact HLM.out | exact HLF.out.2.2.2.2); rintro e v3 ⟨rfl, hB, hb⟩; clear hful; (try simp only [World.size_alloc] at hB hb); (first | (have hb5 := (lit_below v2 98).trans (hb.mono (Nat.le_succ _)); have hx3 := (hb5.cell HV2.out.2.2.1).trans HV2.out.2.2.2; have HV3 := Lib.hid (And.intro (HV2.out.1.below hb5) (And.intro (HV2.out.2.1.below hb5) hB)); clear hb5) | (have hx3 := (hb.cell HV2.out.2.2.1).trans HV2.out.2.2.2; have HV3 := Lib.hid (And.intro (HV2.out.1.below hb) (And.intro (HV2.out.2.1.below hb) hB))) | (have hx3 := (hb.cell HLF.out.2.2.1).trans HLF.out.2.2.2.1; have HV3 := Lib.hid (And.intro (HLF.out.1.below hb) (And.intro (HLF.out.2.1.below hb) hB)))); clear hB hb) | (go_at_call 14; refine (samet_any _ _ 256 _ 256 _ fB v3 fB_len fB_len HV3.out.2.1 (Bytes.row HV3.out.2.2)).mono ?_; rintro e v ⟨rfl, rfl⟩))
      refine hK.out _ _ trivial (fun hHeld15 => ?_)
      clear hK K hHeld14
      (try simp only [Act.put, List.setIfInBounds_toArray, List.set_cons_zero, List.set_cons_succ])
      refine takeY 46 (some 120) rfl rfl (by kernel_rfl) (by kernel_rfl) (by kernel_rfl) (fun _ _ _ h => h) (by rfl) (v := _) (by (intro _ hSw; (try dsimp only at hSw); go_simp; try with_reducible rfl)) hHeld15 ?_
      simp only [Act.put, List.setIfInBounds_toArray, List.set_cons_zero, List.set_cons_succ]
      refine takeY 47 (some 0) rfl rfl (by kernel_rfl) (by kernel_rfl) (by kernel_rfl) (fun _ _ _ h => h) (by rfl) (v := _) (by (intro _ hSw; (try dsimp only at hSw); go_simp; try with_reducible rfl)) hHeld15 ?_
      simp only [Act.put, List.setIfInBounds_toArray, List.set_cons_zero]
      refine wpAnyH_done (by kernel_rfl) ?_ _
      go_wp2_with fail
      go_ret
      exact ⟨rfl, HV3.out.1.bel⟩
    refine AllReadyH.cons rfl (fun K hK => ?_) AllReadyH.nil
    go_simp
    refine hK.out _ _ trivial (fun hHeld16 => ?_)
    clear hK K hHeld11
    (try simp only [Act.put, List.setIfInBounds_toArray, List.set_cons_zero, List.set_cons_succ])
    refine wpAnyH_ready (rs := [41, 44]) (by kernel_rfl) (by simp) ?_
    refine AllReadyH.cons rfl (fun K hK => ?_) ?_
    · go_simp
      refine hK.out _ _ trivial (fun hHeld17 => ?_)
      clear hK K hHeld16
      (try simp only [Act.put, List.setIfInBounds_toArray, List.set_cons_zero, List.set_cons_succ])
      refine wpAnyH_ready (rs := [44]) (by kernel_rfl) (by simp) ?_
      refine AllReadyH.cons rfl (fun K hK => ?_) AllReadyH.nil
      go_simp
      go_wp2_with (first | (go_at_call 12; have _t := tokA; refine (full1D w11 97).mono ?_; clear tokA; rintro e v1 ⟨rfl, hB, hb⟩; have HV1 := Lib.hid (And.intro (HC.out.1.below hb) (And.intro (HQ11.out.below hb) hB)); clear hB hb) | (go_at_call 14; have _t := tokS; refine (samet_any _ _ 256 _ 256 _ fA v1 fA_len fA_len HV1.out.2.1.bytes (Bytes.row HV1.out.2.2)).mono ?_; clear tokS; rintro e v ⟨rfl, rfl⟩) | (go_at_call 16; have hcs : ∀ W, Below v1.heap.size v1 W → CS w W (fun k => k = q4) g dg 16 2 (6 + 1025) D7 L10 := fun W h => HV1.out.1.below h; refine Calls.mono (CS.image (hcs _ ?hcs)) ?_; (case hcs => first | exact Below.refl _ _ | exact (Below.refl _ _).alloc (Nat.le_refl _) _); rintro e v2 ⟨rfl, hs, hb⟩; clear hcs; (try simp only [World.size_alloc] at hs hb); obtain ⟨A9, c9, hx, hy, hE⟩ := hs.cell (k := 4) (by rw [HV1.out.1.st.hale.len]; omega) HC.out.2; rw [fB_len] at hx; have hb1 : Below v1.heap.size v1 v2 := (by first | exact hb | exact ((Below.refl _ _).alloc (Nat.le_refl _) _).trans (hb.mono (Nat.le_succ _))); have hslt := hs.lt; have hx1 : ∀ o, (v2.alloc o).cell? _ = _ := fun o => (World.cell?_of_block (Below.heap_alloc _ _ _ hs.lt)).trans hx; have HV2 := Lib.hid (And.intro (HV1.out.1.below hb1) (And.intro hy (And.intro hslt hx))); (first | (have _hg : v2.heap[v1.heap.size]? = some (.cells #[.int .u8 98] 5 (0, 0)) := (hb.block v1.heap.size (Nat.lt_succ_self _)).trans (heap_alloc_new v1 _); clear _hg; obtain ⟨vf, hcv, hxf, hbf, hyf, hsf, hlf⟩ := litB v1 v2 fB A9 _ hb hy hE hx hslt; have HLF := Lib.hid (And.intro (HV1.out.1.below hbf) (And.intro hyf (And.intro hsf (And.intro hxf hlf)))); clear hbf hyf hsf hlf) | (have _hg : v2.heap[v1.heap.size]? = some (.cells #[.int .u8 98] 5 (1, 2)) := (hb.block v1.heap.size (Nat.lt_succ_self _)).trans (heap_alloc_new v1 _); clear _hg; have HLM := Lib.hid ((lit_bytes v1 98).below (w' := v2) (by rw [World.size_alloc]; exact hb))) | skip); clear hs hb hy hb1 hslt hE) | (go_at_call 12; have hful : ∀ W A, Bytes W A [98] → _ := fun W A h => full_any A 1 1 [98] W rfl (by omega) h; refine Calls.mono (hful _ _ ?hlb) ?_; (case hlb => first | exact lit_bytes v2 98 | exact HLM.out | exact HLF.out.2.2.2.2); rintro e v3 ⟨rfl, hB, hb⟩; clear hful; (try simp only [World.size_alloc] at hB hb); (first | (have hb5 := (lit_below v2 98).trans (hb.mono (Nat.le_succ _)); have hx3 := (hb5.cell HV2.out.2.2.1).trans HV2.out.2.2.2; have HV3 := Lib.hid (And.intro (HV2.out.1.below hb5) (And.intro (HV2.out.2.1.below hb5) hB)); clear hb5) | (have hx3 := (hb.cell HV2.out.2.2.1).trans HV2.out.2.2.2; have HV3 := Lib.hid (And.intro (HV2.out.1.below hb) (And.intro (HV2.out.2.1.below hb) hB))) | (have hx3 := (hb.cell HLF.out.2.2.1).trans HLF.out.2.2.2.1; have HV3 := Lib.hid (And.intro (HLF.out.1.below hb) (And.intro (HLF.out.2.1.below hb) hB)))); clear hB hb) | (go_at_call 14; refine (samet_any _ _ 256 _ 256 _ fB v3 fB_len fB_len HV3.out.2.1 (Bytes.row HV3.out.2.2)).mono ?_; rintro e v ⟨rfl, rfl⟩))
      refine hK.out _ _ trivial (fun hHeld18 => ?_)
      clear hK K hHeld17
      (try simp only [Act.put, List.setIfInBounds_toArray, List.set_cons_zero, List.set_cons_succ])
      refine wpAnyH_ready (rs := [45]) (by kernel_rfl) (by simp) ?_
      refine AllReadyH.cons rfl (fun K hK => ?_) AllReadyH.nil
      go_simp
      go_wp2_with (first | (go_at_call 12; have _t := tokA; refine (full1D w11 97).mono ?_; clear tokA; rintro e v1 ⟨rfl, hB, hb⟩; have HV1 := Lib.hid (And.intro (HC.out.1.below hb) (And.intro (HQ11.out.below hb) hB)); clear hB hb) | (go_at_call 14; have _t := tokS; refine (samet_any _ _ 256 _ 256 _ fA v1 fA_len fA_len HV1.out.2.1.bytes (Bytes.row HV1.out.2.2)).mono ?_; clear tokS; rintro e v ⟨rfl, rfl⟩) | (go_at_call 16; have hcs : ∀ W, Below v1.heap.size v1 W → CS w W (fun k => k = q4) g dg 16 2 (6 + 1025) D7 L10 := fun W h => HV1.out.1.below h; refine Calls.mono (CS.image (hcs _ ?hcs)) ?_; (case hcs => first | exact Below.refl _ _ | exact (Below.refl _ _).alloc (Nat.le_refl _) _); rintro e v2 ⟨rfl, hs, hb⟩; clear hcs; (try simp only [World.size_alloc] at hs hb); obtain ⟨A9, c9, hx, hy, hE⟩ := hs.cell (k := 4) (by rw [HV1.out.1.st.hale.len]; omega) HC.out.2; rw [fB_len] at hx; have hb1 : Below v1.heap.size v1 v2 := (by first | exact hb | exact ((Below.refl _ _).alloc (Nat.le_refl _) _).trans (hb.mono (Nat.le_succ _))); have hslt := hs.lt; have hx1 : ∀ o, (v2.alloc o).cell? _ = _ := fun o => (World.cell?_of_block (Below.heap_alloc _ _ _ hs.lt)).trans hx; have HV2 := Lib.hid (And.intro (HV1.out.1.below hb1) (And.intro hy (And.intro hslt hx))); (first | (have _hg : v2.heap[v1.heap.size]? = some (.cells #[.int .u8 98] 5 (0, 0)) := (hb.block v1.heap.size (Nat.lt_succ_self _)).trans (heap_alloc_new v1 _); clear _hg; obtain ⟨vf, hcv, hxf, hbf, hyf, hsf, hlf⟩ := litB v1 v2 fB A9 _ hb hy hE hx hslt; have HLF := Lib.hid (And.intro (HV1.out.1.below hbf) (And.intro hyf (And.intro hsf (And.intro hxf hlf)))); clear hbf hyf hsf hlf) | (have _hg : v2.heap[v1.heap.size]? = some (.cells #[.int .u8 98] 5 (1, 2)) := (hb.block v1.heap.size (Nat.lt_succ_self _)).trans (heap_alloc_new v1 _); clear _hg; have HLM := Lib.hid ((lit_bytes v1 98).below (w' := v2) (by rw [World.size_alloc]; exact hb))) | skip); clear hs hb hy hb1 hslt hE) | (go_at_call 12; have hful : ∀ W A, Bytes W A [98] → _ := fun W A h => full_any A 1 1 [98] W rfl (by omega) h; refine Calls.mono (hful _ _ ?hlb) ?_; (case hlb => first | exact lit_bytes v2 98 | exact HLM.out | exact HLF.out.2.2.2.2); rintro e v3 ⟨rfl, hB, hb⟩; clear hful; (try simp only [World.size_alloc] at hB hb); (first | (have hb5 := (lit_below v2 98).trans (hb.mono (Nat.le_succ _)); have hx3 := (hb5.cell HV2.out.2.2.1).trans HV2.out.2.2.2; have HV3 := Lib.hid (And.intro (HV2.out.1.below hb5) (And.intro (HV2.out.2.1.below hb5) hB)); clear hb5) | (have hx3 := (hb.cell HV2.out.2.2.1).trans HV2.out.2.2.2; have HV3 := Lib.hid (And.intro (HV2.out.1.below hb) (And.intro (HV2.out.2.1.below hb) hB))) | (have hx3 := (hb.cell HLF.out.2.2.1).trans HLF.out.2.2.2.1; have HV3 := Lib.hid (And.intro (HLF.out.1.below hb) (And.intro (HLF.out.2.1.below hb) hB)))); clear hB hb) | (go_at_call 14; refine (samet_any _ _ 256 _ 256 _ fB v3 fB_len fB_len HV3.out.2.1 (Bytes.row HV3.out.2.2)).mono ?_; rintro e v ⟨rfl, rfl⟩))
      refine hK.out _ _ trivial (fun hHeld19 => ?_)
      clear hK K hHeld18
      (try simp only [Act.put, List.setIfInBounds_toArray, List.set_cons_zero, List.set_cons_succ])
      refine takeY 46 (some 120) rfl rfl (by kernel_rfl) (by kernel_rfl) (by kernel_rfl) (fun _ _ _ h => h) (by rfl) (v := _) (by (intro _ hSw; (try dsimp only at hSw); go_simp; try with_reducible rfl)) hHeld19 ?_
      simp only [Act.put, List.setIfInBounds_toArray, List.set_cons_zero, List.set_cons_succ]
      refine takeY 47 (some 0) rfl rfl (by kernel_rfl) (by kernel_rfl) (by kernel_rfl) (fun _ _ _ h => h) (by rfl) (v := _) (by (intro _ hSw; (try dsimp only at hSw); go_simp; try with_reducible rfl)) hHeld19 ?_
      simp only [Act.put, List.setIfInBounds_toArray, List.set_cons_zero]
      refine wpAnyH_done (by kernel_rfl) ?_ _
      go_wp2_with fail
      go_ret
      exact ⟨rfl, HV3.out.1.bel⟩
    refine AllReadyH.cons rfl (fun K hK => ?_) AllReadyH.nil
    go_simp
    go_wp2_with (first | (go_at_call 12; have _t := tokA; refine (full1D w11 97).mono ?_; clear tokA; rintro e v1 ⟨rfl, hB, hb⟩; have HV1 := Lib.hid (And.intro (HC.out.1.below hb) (And.intro (HQ11.out.below hb) hB)); clear hB hb) | (go_at_call 14; have _t := tokS; refine (samet_any _ _ 256 _ 256 _ fA v1 fA_len fA_len HV1.out.2.1.bytes (Bytes.row HV1.out.2.2)).mono ?_; clear tokS; rintro e v ⟨rfl, rfl⟩) | (go_at_call 16; have hcs : ∀ W, Below v1.heap.size v1 W → CS w W (fun k => k = q4) g dg 16 2 (6 + 1025) D7 L10 := fun W h => HV1.out.1.below h; refine Calls.mono (CS.image (hcs _ ?hcs)) ?_; (case hcs => first | exact Below.refl _ _ | exact (Below.refl _ _).alloc (Nat.le_refl _) _); rintro e v2 ⟨rfl, hs, hb⟩; clear hcs; (try simp only [World.size_alloc] at hs hb); obtain ⟨A9, c9, hx, hy, hE⟩ := hs.cell (k := 4) (by rw [HV1.out.1.st.hale.len]; omega) HC.out.2; rw [fB_len] at hx; have hb1 : Below v1.heap.size v1 v2 := (by first | exact hb | exact ((Below.refl _ _).alloc (Nat.le_refl _) _).trans (hb.mono (Nat.le_succ _))); have hslt := hs.lt; have hx1 : ∀ o, (v2.alloc o).cell? _ = _ := fun o => (World.cell?_of_block (Below.heap_alloc _ _ _ hs.lt)).trans hx; have HV2 := Lib.hid (And.intro (HV1.out.1.below hb1) (And.intro hy (And.intro hslt hx))); (first | (have _hg : v2.heap[v1.heap.size]? = some (.cells #[.int .u8 98] 5 (0, 0)) := (hb.block v1.heap.size (Nat.lt_succ_self _)).trans (heap_alloc_new v1 _); clear _hg; obtain ⟨vf, hcv, hxf, hbf, hyf, hsf, hlf⟩ := litB v1 v2 fB A9 _ hb hy hE hx hslt; have HLF := Lib.hid (And.intro (HV1.out.1.below hbf) (And.intro hyf (And.intro hsf (And.intro hxf hlf)))); clear hbf hyf hsf hlf) | (have _hg : v2.heap[v1.heap.size]? = some (.cells #[.int .u8 98] 5 (1, 2)) := (hb.block v1.heap.size (Nat.lt_succ_self _)).trans (heap_alloc_new v1 _); clear _hg; have HLM := Lib.hid ((lit_bytes v1 98).below (w' := v2) (by rw [World.size_alloc]; exact hb))) | skip); clear hs hb hy hb1 hslt hE) | (go_at_call 12; have hful : ∀ W A, Bytes W A [98] → _ := fun W A h => full_any A 1 1 [98] W rfl (by omega) h; refine Calls.mono (hful _ _ ?hlb) ?_; (case hlb => first | exact lit_bytes v2 98 | exact HLM.out | exact HLF.out.2.2.2.2); rintro e v3 ⟨rfl, hB, hb⟩; clear hful; (try simp only [World.size_alloc] at hB hb); (first | (have hb5 := (lit_below v2 98).trans (hb.mono (Nat.le_succ _)); have hx3 := (hb5.cell HV2.out.2.2.1).trans HV2.out.2.2.2; have HV3 := Lib.hid (And.intro (HV2.out.1.below hb5) (And.intro (HV2.out.2.1.below hb5) hB)); clear hb5) | (have hx3 := (hb.cell HV2.out.2.2.1).trans HV2.out.2.2.2; have HV3 := Lib.hid (And.intro (HV2.out.1.below hb) (And.intro (HV2.out.2.1.below hb) hB))) | (have hx3 := (hb.cell HLF.out.2.2.1).trans HLF.out.2.2.2.1; have HV3 := Lib.hid (And.intro (HLF.out.1.below hb) (And.intro (HLF.out.2.1.below hb) hB)))); clear hB hb) | (go_at_call 14; refine (samet_any _ _ 256 _ 256 _ fB v3 fB_len fB_len HV3.out.2.1 (Bytes.row HV3.out.2.2)).mono ?_; rintro e v ⟨rfl, rfl⟩))
    refine hK.out _ _ trivial (fun hHeld20 => ?_)
    clear hK K hHeld16
    (try simp only [Act.put, List.setIfInBounds_toArray, List.set_cons_zero, List.set_cons_succ])
    refine wpAnyH_ready (rs := [41]) (by kernel_rfl) (by simp) ?_
    refine AllReadyH.cons rfl (fun K hK => ?_) AllReadyH.nil
    go_simp
    refine hK.out _ _ trivial (fun hHeld21 => ?_)
    clear hK K hHeld20
    (try simp only [Act.put, List.setIfInBounds_toArray, List.set_cons_zero, List.set_cons_succ])
    refine wpAnyH_ready (rs := [45]) (by kernel_rfl) (by simp) ?_
    refine AllReadyH.cons rfl (fun K hK => ?_) AllReadyH.nil
    go_simp
    go_wp2_with (first | (go_at_call 12; have _t := tokA; refine (full1D w11 97).mono ?_; clear tokA; rintro e v1 ⟨rfl, hB, hb⟩; have HV1 := Lib.hid (And.intro (HC.out.1.below hb) (And.intro (HQ11.out.below hb) hB)); clear hB hb) | (go_at_call 14; have _t := tokS; refine (samet_any _ _ 256 _ 256 _ fA v1 fA_len fA_len HV1.out.2.1.bytes (Bytes.row HV1.out.2.2)).mono ?_; clear tokS; rintro e v ⟨rfl, rfl⟩) | (go_at_call 16; have hcs : ∀ W, Below v1.heap.size v1 W → CS w W (fun k => k = q4) g dg 16 2 (6 + 1025) D7 L10 := fun W h => HV1.out.1.below h; refine Calls.mono (CS.image (hcs _ ?hcs)) ?_; (case hcs => first | exact Below.refl _ _ | exact (Below.refl _ _).alloc (Nat.le_refl _) _); rintro e v2 ⟨rfl, hs, hb⟩; clear hcs; (try simp only [World.size_alloc] at hs hb); obtain ⟨A9, c9, hx, hy, hE⟩ := hs.cell (k := 4) (by rw [HV1.out.1.st.hale.len]; omega) HC.out.2; rw [fB_len] at hx; have hb1 : Below v1.heap.size v1 v2 := (by first | exact hb | exact ((Below.refl _ _).alloc (Nat.le_refl _) _).trans (hb.mono (Nat.le_succ _))); have hslt := hs.lt; have hx1 : ∀ o, (v2.alloc o).cell? _ = _ := fun o => (World.cell?_of_block (Below.heap_alloc _ _ _ hs.lt)).trans hx; have HV2 := Lib.hid (And.intro (HV1.out.1.below hb1) (And.intro hy (And.intro hslt hx))); (first | (have _hg : v2.heap[v1.heap.size]? = some (.cells #[.int .u8 98] 5 (0, 0)) := (hb.block v1.heap.size (Nat.lt_succ_self _)).trans (heap_alloc_new v1 _); clear _hg; obtain ⟨vf, hcv, hxf, hbf, hyf, hsf, hlf⟩ := litB v1 v2 fB A9 _ hb hy hE hx hslt; have HLF := Lib.hid (And.intro (HV1.out.1.below hbf) (And.intro hyf (And.intro hsf (And.intro hxf hlf)))); clear hbf hyf hsf hlf) | (have _hg : v2.heap[v1.heap.size]? = some (.cells #[.int .u8 98] 5 (1, 2)) := (hb.block v1.heap.size (Nat.lt_succ_self _)).trans (heap_alloc_new v1 _); clear _hg; have HLM := Lib.hid ((lit_bytes v1 98).below (w' := v2) (by rw [World.size_alloc]; exact hb))) | skip); clear hs hb hy hb1 hslt hE) | (go_at_call 12; have hful : ∀ W A, Bytes W A [98] → _ := fun W A h => full_any A 1 1 [98] W rfl (by omega) h; refine Calls.mono (hful _ _ ?hlb) ?_; (case hlb => first | exact lit_bytes v2 98 | exact HLM.out | exact HLF.out.2.2.2.2); rintro e v3 ⟨rfl, hB, hb⟩; clear hful; (try simp only [World.size_alloc] at hB hb); (first | (have hb5 := (lit_below v2 98).trans (hb.mono (Nat.le_succ _)); have hx3 := (hb5.cell HV2.out.2.2.1).trans HV2.out.2.2.2; have HV3 := Lib.hid (And.intro (HV2.out.1.below hb5) (And.intro (HV2.out.2.1.below hb5) hB)); clear hb5) | (have hx3 := (hb.cell HV2.out.2.2.1).trans HV2.out.2.2.2; have HV3 := Lib.hid (And.intro (HV2.out.1.below hb) (And.intro (HV2.out.2.1.below hb) hB))) | (have hx3 := (hb.cell HLF.out.2.2.1).trans HLF.out.2.2.2.1; have HV3 := Lib.hid (And.intro (HLF.out.1.below hb) (And.intro (HLF.out.2.1.below hb) hB)))); clear hB hb) | (go_at_call 14; refine (samet_any _ _ 256 _ 256 _ fB v3 fB_len fB_len HV3.out.2.1 (Bytes.row HV3.out.2.2)).mono ?_; rintro e v ⟨rfl, rfl⟩))
    refine hK.out _ _ trivial (fun hHeld22 => ?_)
    clear hK K hHeld21
    (try simp only [Act.put, List.setIfInBounds_toArray, List.set_cons_zero, List.set_cons_succ])
    refine takeY 46 (some 120) rfl rfl (by kernel_rfl) (by kernel_rfl) (by kernel_rfl) (fun _ _ _ h => h) (by rfl) (v := _) (by (intro _ hSw; (try dsimp only at hSw); go_simp; try with_reducible rfl)) hHeld22 ?_
    simp only [Act.put, List.setIfInBounds_toArray, List.set_cons_zero, List.set_cons_succ]
    refine takeY 47 (some 0) rfl rfl (by kernel_rfl) (by kernel_rfl) (by kernel_rfl) (fun _ _ _ h => h) (by rfl) (v := _) (by (intro _ hSw; (try dsimp only at hSw); go_simp; try with_reducible rfl)) hHeld22 ?_
    simp only [Act.put, List.setIfInBounds_toArray, List.set_cons_zero]
    refine wpAnyH_done (by kernel_rfl) ?_ _
    go_wp2_with fail
    go_ret
    exact ⟨rfl, HV3.out.1.bel⟩
  refine AllReadyH.cons rfl (fun K hK => ?_) AllReadyH.nil
  go_simp
  refine hK.out _ _ trivial (fun hHeld23 => ?_)
  clear hK K hHeld4
  (try simp only [Act.put, List.setIfInBounds_toArray, List.set_cons_zero, List.set_cons_succ])
  refine wpAnyH_ready (rs := [39, 43]) (by kernel_rfl) (by simp) ?_
  refine AllReadyH.cons rfl (fun K hK => ?_) ?_
  · go_simp
    go_wp2_with (first | (go_at_call 12; have _t := tokA; refine (full1D w11 97).mono ?_; clear tokA; rintro e v1 ⟨rfl, hB, hb⟩; have HV1 := Lib.hid (And.intro (HC.out.1.below hb) (And.intro (HQ11.out.below hb) hB)); clear hB hb) | (go_at_call 14; have _t := tokS; refine (samet_any _ _ 256 _ 256 _ fA v1 fA_len fA_len HV1.out.2.1.bytes (Bytes.row HV1.out.2.2)).mono ?_; clear tokS; rintro e v ⟨rfl, rfl⟩) | (go_at_call 16; have hcs : ∀ W, Below v1.heap.size v1 W → CS w W (fun k => k = q4) g dg 16 2 (6 + 1025) D7 L10 := fun W h => HV1.out.1.below h; refine Calls.mono (CS.image (hcs _ ?hcs)) ?_; (case hcs => first | exact Below.refl _ _ | exact (Below.refl _ _).alloc (Nat.le_refl _) _); rintro e v2 ⟨rfl, hs, hb⟩; clear hcs; (try simp only [World.size_alloc] at hs hb); obtain ⟨A9, c9, hx, hy, hE⟩ := hs.cell (k := 4) (by rw [HV1.out.1.st.hale.len]; omega) HC.out.2; rw [fB_len] at hx; have hb1 : Below v1.heap.size v1 v2 := (by first | exact hb | exact ((Below.refl _ _).alloc (Nat.le_refl _) _).trans (hb.mono (Nat.le_succ _))); have hslt := hs.lt; have hx1 : ∀ o, (v2.alloc o).cell? _ = _ := fun o => (World.cell?_of_block (Below.heap_alloc _ _ _ hs.lt)).trans hx; have HV2 := Lib.hid (And.intro (HV1.out.1.below hb1) (And.intro hy (And.intro hslt hx))); (first | (have _hg : v2.heap[v1.heap.size]? = some (.cells #[.int .u8 98] 5 (0, 0)) := (hb.block v1.heap.size (Nat.lt_succ_self _)).trans (heap_alloc_new v1 _); clear _hg; obtain ⟨vf, hcv, hxf, hbf, hyf, hsf, hlf⟩ := litB v1 v2 fB A9 _ hb hy hE hx hslt; have HLF := Lib.hid (And.intro (HV1.out.1.below hbf) (And.intro hyf (And.intro hsf (And.intro hxf hlf)))); clear hbf hyf hsf hlf) | (have _hg : v2.heap[v1.heap.size]? = some (.cells #[.int .u8 98] 5 (1, 2)) := (hb.block v1.heap.size (Nat.lt_succ_self _)).trans (heap_alloc_new v1 _); clear _hg; have HLM := Lib.hid ((lit_bytes v1 98).below (w' := v2) (by rw [World.size_alloc]; exact hb))) | skip); clear hs hb hy hb1 hslt hE) | (go_at_call 12; have hful : ∀ W A, Bytes W A [98] → _ := fun W A h => full_any A 1 1 [98] W rfl (by omega) h; refine Calls.mono (hful _ _ ?hlb) ?_; (case hlb => first | exact lit_bytes v2 98 | exact HLM.out | exact HLF.out.2.2.2.2); rintro e v3 ⟨rfl, hB, hb⟩; clear hful; (try simp only [World.size_alloc] at hB hb); (first | (have hb5 := (lit_below v2 98).trans (hb.mono (Nat.le_succ _)); have hx3 := (hb5.cell HV2.out.2.2.1).trans HV2.out.2.2.2; have HV3 := Lib.hid (And.intro (HV2.out.1.below hb5) (And.intro (HV2.out.2.1.below hb5) hB)); clear hb5) | (have hx3 := (hb.cell HV2.out.2.2.1).trans HV2.out.2.2.2; have HV3 := Lib.hid (And.intro (HV2.out.1.below hb) (And.intro (HV2.out.2.1.below hb) hB))) | (have hx3 := (hb.cell HLF.out.2.2.1).trans HLF.out.2.2.2.1; have HV3 := Lib.hid (And.intro (HLF.out.1.below hb) (And.intro (HLF.out.2.1.below hb) hB)))); clear hB hb) | (go_at_call 14; refine (samet_any _ _ 256 _ 256 _ fB v3 fB_len fB_len HV3.out.2.1 (Bytes.row HV3.out.2.2)).mono ?_; rintro e v ⟨rfl, rfl⟩))
    refine hK.out _ _ trivial (fun hHeld24 => ?_)
    clear hK K hHeld23
    (try simp only [Act.put, List.setIfInBounds_toArray, List.set_cons_zero, List.set_cons_succ])
    refine takeY 40 (some 114) rfl rfl (by kernel_rfl) (by kernel_rfl) (by kernel_rfl) (fun _ _ _ h => h) (by rfl) (v := _) (by (intro _ hSw; (try dsimp only at hSw); go_simp; try with_reducible rfl)) hHeld24 ?_
    simp only [Act.put, List.setIfInBounds_toArray, List.set_cons_zero, List.set_cons_succ]
    refine wpAnyH_ready (rs := [41, 43]) (by kernel_rfl) (by simp) ?_
    refine AllReadyH.cons rfl (fun K hK => ?_) ?_
    · go_simp
      refine hK.out _ _ trivial (fun hHeld25 => ?_)
      clear hK K hHeld24
      (try simp only [Act.put, List.setIfInBounds_toArray, List.set_cons_zero, List.set_cons_succ])
      refine wpAnyH_ready (rs := [43]) (by kernel_rfl) (by simp) ?_
      refine AllReadyH.cons rfl (fun K hK => ?_) AllReadyH.nil
      go_simp
      refine hK.out _ _ trivial (fun hHeld26 => ?_)
      clear hK K hHeld25
      (try simp only [Act.put, List.setIfInBounds_toArray, List.set_cons_zero, List.set_cons_succ])
      refine wpAnyH_ready (rs := [44]) (by kernel_rfl) (by simp) ?_
      refine AllReadyH.cons rfl (fun K hK => ?_) AllReadyH.nil
      go_simp
      go_wp2_with (first | (go_at_call 12; have _t := tokA; refine (full1D w11 97).mono ?_; clear tokA; rintro e v1 ⟨rfl, hB, hb⟩; have HV1 := Lib.hid (And.intro (HC.out.1.below hb) (And.intro (HQ11.out.below hb) hB)); clear hB hb) | (go_at_call 14; have _t := tokS; refine (samet_any _ _ 256 _ 256 _ fA v1 fA_len fA_len HV1.out.2.1.bytes (Bytes.row HV1.out.2.2)).mono ?_; clear tokS; rintro e v ⟨rfl, rfl⟩) | (go_at_call 16; have hcs : ∀ W, Below v1.heap.size v1 W → CS w W (fun k => k = q4) g dg 16 2 (6 + 1025) D7 L10 := fun W h => HV1.out.1.below h; refine Calls.mono (CS.image (hcs _ ?hcs)) ?_; (case hcs => first | exact Below.refl _ _ | exact (Below.refl _ _).alloc (Nat.le_refl _) _); rintro e v2 ⟨rfl, hs, hb⟩; clear hcs; (try simp only [World.size_alloc] at hs hb); obtain ⟨A9, c9, hx, hy, hE⟩ := hs.cell (k := 4) (by rw [HV1.out.1.st.hale.len]; omega) HC.out.2; rw [fB_len] at hx; have hb1 : Below v1.heap.size v1 v2 := (by first | exact hb | exact ((Below.refl _ _).alloc (Nat.le_refl _) _).trans (hb.mono (Nat.le_succ _))); have hslt := hs.lt; have hx1 : ∀ o, (v2.alloc o).cell? _ = _ := fun o => (World.cell?_of_block (Below.heap_alloc _ _ _ hs.lt)).trans hx; have HV2 := Lib.hid (And.intro (HV1.out.1.below hb1) (And.intro hy (And.intro hslt hx))); (first | (have _hg : v2.heap[v1.heap.size]? = some (.cells #[.int .u8 98] 5 (0, 0)) := (hb.block v1.heap.size (Nat.lt_succ_self _)).trans (heap_alloc_new v1 _); clear _hg; obtain ⟨vf, hcv, hxf, hbf, hyf, hsf, hlf⟩ := litB v1 v2 fB A9 _ hb hy hE hx hslt; have HLF := Lib.hid (And.intro (HV1.out.1.below hbf) (And.intro hyf (And.intro hsf (And.intro hxf hlf)))); clear hbf hyf hsf hlf) | (have _hg : v2.heap[v1.heap.size]? = some (.cells #[.int .u8 98] 5 (1, 2)) := (hb.block v1.heap.size (Nat.lt_succ_self _)).trans (heap_alloc_new v1 _); clear _hg; have HLM := Lib.hid ((lit_bytes v1 98).below (w' := v2) (by rw [World.size_alloc]; exact hb))) | skip); clear hs hb hy hb1 hslt hE) | (go_at_call 12; have hful : ∀ W A, Bytes W A [98] → _ := fun W A h => full_any A 1 1 [98] W rfl (by omega) h; refine Calls.mono (hful _ _ ?hlb) ?_; (case hlb => first | exact lit_bytes v2 98 | exact HLM.out | exact HLF.out.2.2.2.2); rintro e v3 ⟨rfl, hB, hb⟩; clear hful; (try simp only [World.size_alloc] at hB hb); (first | (have hb5 := (lit_below v2 98).trans (hb.mono (Nat.le_succ _)); have hx3 := (hb5.cell HV2.out.2.2.1).trans HV2.out.2.2.2; have HV3 := Lib.hid (And.intro (HV2.out.1.below hb5) (And.intro (HV2.out.2.1.below hb5) hB)); clear hb5) | (have hx3 := (hb.cell HV2.out.2.2.1).trans HV2.out.2.2.2; have HV3 := Lib.hid (And.intro (HV2.out.1.below hb) (And.intro (HV2.out.2.1.below hb) hB))) | (have hx3 := (hb.cell HLF.out.2.2.1).trans HLF.out.2.2.2.1; have HV3 := Lib.hid (And.intro (HLF.out.1.below hb) (And.intro (HLF.out.2.1.below hb) hB)))); clear hB hb) | (go_at_call 14; refine (samet_any _ _ 256 _ 256 _ fB v3 fB_len fB_len HV3.out.2.1 (Bytes.row HV3.out.2.2)).mono ?_; rintro e v ⟨rfl, rfl⟩))
      refine hK.out _ _ trivial (fun hHeld27 => ?_)
      clear hK K hHeld26
      (try simp only [Act.put, List.setIfInBounds_toArray, List.set_cons_zero, List.set_cons_succ])
      refine wpAnyH_ready (rs := [45]) (by kernel_rfl) (by simp) ?_
      refine AllReadyH.cons rfl (fun K hK => ?_) AllReadyH.nil
      go_simp
      go_wp2_with (first | (go_at_call 12; have _t := tokA; refine (full1D w11 97).mono ?_; clear tokA; rintro e v1 ⟨rfl, hB, hb⟩; have HV1 := Lib.hid (And.intro (HC.out.1.below hb) (And.intro (HQ11.out.below hb) hB)); clear hB hb) | (go_at_call 14; have _t := tokS; refine (samet_any _ _ 256 _ 256 _ fA v1 fA_len fA_len HV1.out.2.1.bytes (Bytes.row HV1.out.2.2)).mono ?_; clear tokS; rintro e v ⟨rfl, rfl⟩) | (go_at_call 16; have hcs : ∀ W, Below v1.heap.size v1 W → CS w W (fun k => k = q4) g dg 16 2 (6 + 1025) D7 L10 := fun W h => HV1.out.1.below h; refine Calls.mono (CS.image (hcs _ ?hcs)) ?_; (case hcs => first | exact Below.refl _ _ | exact (Below.refl _ _).alloc (Nat.le_refl _) _); rintro e v2 ⟨rfl, hs, hb⟩; clear hcs; (try simp only [World.size_alloc] at hs hb); obtain ⟨A9, c9, hx, hy, hE⟩ := hs.cell (k := 4) (by rw [HV1.out.1.st.hale.len]; omega) HC.out.2; rw [fB_len] at hx; have hb1 : Below v1.heap.size v1 v2 := (by first | exact hb | exact ((Below.refl _ _).alloc (Nat.le_refl _) _).trans (hb.mono (Nat.le_succ _))); have hslt := hs.lt; have hx1 : ∀ o, (v2.alloc o).cell? _ = _ := fun o => (World.cell?_of_block (Below.heap_alloc _ _ _ hs.lt)).trans hx; have HV2 := Lib.hid (And.intro (HV1.out.1.below hb1) (And.intro hy (And.intro hslt hx))); (first | (have _hg : v2.heap[v1.heap.size]? = some (.cells #[.int .u8 98] 5 (0, 0)) := (hb.block v1.heap.size (Nat.lt_succ_self _)).trans (heap_alloc_new v1 _); clear _hg; obtain ⟨vf, hcv, hxf, hbf, hyf, hsf, hlf⟩ := litB v1 v2 fB A9 _ hb hy hE hx hslt; have HLF := Lib.hid (And.intro (HV1.out.1.below hbf) (And.intro hyf (And.intro hsf (And.intro hxf hlf)))); clear hbf hyf hsf hlf) | (have _hg : v2.heap[v1.heap.size]? = some (.cells #[.int .u8 98] 5 (1, 2)) := (hb.block v1.heap.size (Nat.lt_succ_self _)).trans (heap_alloc_new v1 _); clear _hg; have HLM := Lib.hid ((lit_bytes v1 98).below (w' := v2) (by rw [World.size_alloc]; exact hb))) | skip); clear hs hb hy hb1 hslt hE) | (go_at_call 12; have hful : ∀ W A, Bytes W A [98] → _ := fun W A h => full_any A 1 1 [98] W rfl (by omega) h; refine Calls.mono (hful _ _ ?hlb) ?_; (case hlb => first | exact lit_bytes v2 98 | exact HLM.out | exact HLF.out.2.2.2.2); rintro e v3 ⟨rfl, hB, hb⟩; clear hful; (try simp only [World.size_alloc] at hB hb); (first | (have hb5 := (lit_below v2 98).trans (hb.mono (Nat.le_succ _)); have hx3 := (hb5.cell HV2.out.2.2.1).trans HV2.out.2.2.2; have HV3 := Lib.hid (And.intro (HV2.out.1.below hb5) (And.intro (HV2.out.2.1.below hb5) hB)); clear hb5) | (have hx3 := (hb.cell HV2.out.2.2.1).trans HV2.out.2.2.2; have HV3 := Lib.hid (And.intro (HV2.out.1.below hb) (And.intro (HV2.out.2.1.below hb) hB))) | (have hx3 := (hb.cell HLF.out.2.2.1).trans HLF.out.2.2.2.1; have HV3 := Lib.hid (And.intro (HLF.out.1.below hb) (And.intro (HLF.out.2.1.below hb) hB)))); clear hB hb) | (go_at_call 14; refine (samet_any _ _ 256 _ 256 _ fB v3 fB_len fB_len HV3.out.2.1 (Bytes.row HV3.out.2.2)).mono ?_; rintro e v ⟨rfl, rfl⟩))
      refine hK.out _ _ trivial (fun hHeld28 => ?_)
      clear hK K hHeld27
      (try simp only [Act.put, List.setIfInBounds_toArray, List.set_cons_zero, List.set_cons_succ])
      refine takeY 46 (some 120) rfl rfl (by kernel_rfl) (by kernel_rfl) (by kernel_rfl) (fun _ _ _ h => h) (by rfl) (v := _) (by (intro _ hSw; (try dsimp only at hSw); go_simp; try with_reducible rfl)) hHeld28 ?_
      simp only [Act.put, List.setIfInBounds_toArray, List.set_cons_zero, List.set_cons_succ]
      refine takeY 47 (some 0) rfl rfl (by kernel_rfl) (by kernel_rfl) (by kernel_rfl) (fun _ _ _ h => h) (by rfl) (v := _) (by (intro _ hSw; (try dsimp only at hSw); go_simp; try with_reducible rfl)) hHeld28 ?_
      simp only [Act.put, List.setIfInBounds_toArray, List.set_cons_zero]
      refine wpAnyH_done (by kernel_rfl) ?_ _
      go_wp2_with fail
      go_ret
      exact ⟨rfl, HV3.out.1.bel⟩
    refine AllReadyH.cons rfl (fun K hK => ?_) AllReadyH.nil
    go_simp
    refine hK.out _ _ trivial (fun hHeld29 => ?_)
    clear hK K hHeld24
    (try simp only [Act.put, List.setIfInBounds_toArray, List.set_cons_zero, List.set_cons_succ])
    refine wpAnyH_ready (rs := [41, 44]) (by kernel_rfl) (by simp) ?_
    refine AllReadyH.cons rfl (fun K hK => ?_) ?_
    · go_simp
      refine hK.out _ _ trivial (fun hHeld30 => ?_)
      clear hK K hHeld29
      (try simp only [Act.put, List.setIfInBounds_toArray, List.set_cons_zero, List.set_cons_succ])
      refine wpAnyH_ready (rs := [44]) (by kernel_rfl) (by simp) ?_
      refine AllReadyH.cons rfl (fun K hK => ?_) AllReadyH.nil
      go_simp
      go_wp2_with (first | (go_at_call 12; have _t := tokA; refine (full1D w11 97).mono ?_; clear tokA; rintro e v1 ⟨rfl, hB, hb⟩; have HV1 := Lib.hid (And.intro (HC.out.1.below hb) (And.intro (HQ11.out.below hb) hB)); clear hB hb) | (go_at_call 14; have _t := tokS; refine (samet_any _ _ 256 _ 256 _ fA v1 fA_len fA_len HV1.out.2.1.bytes (Bytes.row HV1.out.2.2)).mono ?_; clear tokS; rintro e v ⟨rfl, rfl⟩) | (go_at_call 16; have hcs : ∀ W, Below v1.heap.size v1 W → CS w W (fun k => k = q4) g dg 16 2 (6 + 1025) D7 L10 := fun W h => HV1.out.1.below h; refine Calls.mono (CS.image (hcs _ ?hcs)) ?_; (case hcs => first | exact Below.refl _ _ | exact (Below.refl _ _).alloc (Nat.le_refl _) _); rintro e v2 ⟨rfl, hs, hb⟩; clear hcs; (try simp only [World.size_alloc] at hs hb); obtain ⟨A9, c9, hx, hy, hE⟩ := hs.cell (k := 4) (by rw [HV1.out.1.st.hale.len]; omega) HC.out.2; rw [fB_len] at hx; have hb1 : Below v1.heap.size v1 v2 := (by first | exact hb | exact ((Below.refl _ _).alloc (Nat.le_refl _) _).trans (hb.mono (Nat.le_succ _))); have hslt := hs.lt; have hx1 : ∀ o, (v2.alloc o).cell? _ = _ := fun o => (World.cell?_of_block (Below.heap_alloc _ _ _ hs.lt)).trans hx; have HV2 := Lib.hid (And.intro (HV1.out.1.below hb1) (And.intro hy (And.intro hslt hx))); (first | (have _hg : v2.heap[v1.heap.size]? = some (.cells #[.int .u8 98] 5 (0, 0)) := (hb.block v1.heap.size (Nat.lt_succ_self _)).trans (heap_alloc_new v1 _); clear _hg; obtain ⟨vf, hcv, hxf, hbf, hyf, hsf, hlf⟩ := litB v1 v2 fB A9 _ hb hy hE hx hslt; have HLF := Lib.hid (And.intro (HV1.out.1.below hbf) (And.intro hyf (And.intro hsf (And.intro hxf hlf)))); clear hbf hyf hsf hlf) | (have _hg : v2.heap[v1.heap.size]? = some (.cells #[.int .u8 98] 5 (1, 2)) := (hb.block v1.heap.size (Nat.lt_succ_self _)).trans (heap_alloc_new v1 _); clear _hg; have HLM := Lib.hid ((lit_bytes v1 98).below (w' := v2) (by rw [World.size_alloc]; exact hb))) | skip); clear hs hb hy hb1 hslt hE) | (go_at_call 12; have hful : ∀ W A, Bytes W A [98] → _ := fun W A h => full_any A 1 1 [98] W rfl (by omega) h; refine Calls.mono (hful _ _ ?hlb) ?_; (case hlb => first | exact lit_bytes v2 98 | exact HLM.out | exact HLF.out.2.2.2.2); rintro e v3 ⟨rfl, hB, hb⟩; clear hful; (try simp only [World.size_alloc] at hB hb); (first | (have hb5 := (lit_below v2 98).trans (hb.mono (Nat.le_succ _)); have hx3 := (hb5.cell HV2.out.2.2.1).trans HV2.out.2.2.2; have HV3 := Lib.hid (And.intro (HV2.out.1.below hb5) (And.intro (HV2.out.2.1.below hb5) hB)); clear hb5) | (have hx3 := (hb.cell HV2.out.2.2.1).trans HV2.out.2.2.2; have HV3 := Lib.hid (And.intro (HV2.out.1.below hb) (And.intro (HV2.out.2.1.below hb) hB))) | (have hx3 := (hb.cell HLF.out.2.2.1).trans HLF.out.2.2.2.1; have HV3 := Lib.hid (And.intro (HLF.out.1.below hb) (And.intro (HLF.out.2.1.below hb) hB)))); clear hB hb) | (go_at_call 14; refine (samet_any _ _ 256 _ 256 _ fB v3 fB_len fB_len HV3.out.2.1 (Bytes.row HV3.out.2.2)).mono ?_; rintro e v ⟨rfl, rfl⟩))
      refine hK.out _ _ trivial (fun hHeld31 => ?_)
      clear hK K hHeld30
      (try simp only [Act.put, List.setIfInBounds_toArray, List.set_cons_zero, List.set_cons_succ])
      refine wpAnyH_ready (rs := [45]) (by kernel_rfl) (by simp) ?_
      refine AllReadyH.cons rfl (fun K hK => ?_) AllReadyH.nil
      go_simp
      go_wp2_with (first | (go_at_call 12; have _t := tokA; refine (full1D w11 97).mono ?_; clear tokA; rintro e v1 ⟨rfl, hB, hb⟩; have HV1 := Lib.hid (And.intro (HC.out.1.below hb) (And.intro (HQ11.out.below hb) hB)); clear hB hb) | (go_at_call 14; have _t := tokS; refine (samet_any _ _ 256 _ 256 _ fA v1 fA_len fA_len HV1.out.2.1.bytes (Bytes.row HV1.out.2.2)).mono ?_; clear tokS; rintro e v ⟨rfl, rfl⟩) | (go_at_call 16; have hcs : ∀ W, Below v1.heap.size v1 W → CS w W (fun k => k = q4) g dg 16 2 (6 + 1025) D7 L10 := fun W h => HV1.out.1.below h; refine Calls.mono (CS.image (hcs _ ?hcs)) ?_; (case hcs => first | exact Below.refl _ _ | exact (Below.refl _ _).alloc (Nat.le_refl _) _); rintro e v2 ⟨rfl, hs, hb⟩; clear hcs; (try simp only [World.size_alloc] at hs hb); obtain ⟨A9, c9, hx, hy, hE⟩ := hs.cell (k := 4) (by rw [HV1.out.1.st.hale.len]; omega) HC.out.2; rw [fB_len] at hx; have hb1 : Below v1.heap.size v1 v2 := (by first | exact hb | exact ((Below.refl _ _).alloc (Nat.le_refl _) _).trans (hb.mono (Nat.le_succ _))); have hslt := hs.lt; have hx1 : ∀ o, (v2.alloc o).cell? _ = _ := fun o => (World.cell?_of_block (Below.heap_alloc _ _ _ hs.lt)).trans hx; have HV2 := Lib.hid (And.intro (HV1.out.1.below hb1) (And.intro hy (And.intro hslt hx))); (first | (have _hg : v2.heap[v1.heap.size]? = some (.cells #[.int .u8 98] 5 (0, 0)) := (hb.block v1.heap.size (Nat.lt_succ_self _)).trans (heap_alloc_new v1 _); clear _hg; obtain ⟨vf, hcv, hxf, hbf, hyf, hsf, hlf⟩ := litB v1 v2 fB A9 _ hb hy hE hx hslt; have HLF := Lib.hid (And.intro (HV1.out.1.below hbf) (And.intro hyf (And.intro hsf (And.intro hxf hlf)))); clear hbf hyf hsf hlf) | (have _hg : v2.heap[v1.heap.size]? = some (.cells #[.int .u8 98] 5 (1, 2)) := (hb.block v1.heap.size (Nat.lt_succ_self _)).trans (heap_alloc_new v1 _); clear _hg; have HLM := Lib.hid ((lit_bytes v1 98).below (w' := v2) (by rw [World.size_alloc]; exact hb))) | skip); clear hs hb hy hb1 hslt hE) | (go_at_call 12; have hful : ∀ W A, Bytes W A [98] → _ := fun W A h => full_any A 1 1 [98] W rfl (by omega) h; refine Calls.mono (hful _ _ ?hlb) ?_; (case hlb => first | exact lit_bytes v2 98 | exact HLM.out | exact HLF.out.2.2.2.2); rintro e v3 ⟨rfl, hB, hb⟩; clear hful; (try simp only [World.size_alloc] at hB hb); (first | (have hb5 := (lit_below v2 98).trans (hb.mono (Nat.le_succ _)); have hx3 := (hb5.cell HV2.out.2.2.1).trans HV2.out.2.2.2; have HV3 := Lib.hid (And.intro (HV2.out.1.below hb5) (And.intro (HV2.out.2.1.below hb5) hB)); clear hb5) | (have hx3 := (hb.cell HV2.out.2.2.1).trans HV2.out.2.2.2; have HV3 := Lib.hid (And.intro (HV2.out.1.below hb) (And.intro (HV2.out.2.1.below hb) hB))) | (have hx3 := (hb.cell HLF.out.2.2.1).trans HLF.out.2.2.2.1; have HV3 := Lib.hid (And.intro (HLF.out.1.below hb) (And.intro (HLF.out.2.1.below hb) hB)))); clear hB hb) | (go_at_call 14; refine (samet_any _ _ 256 _ 256 _ fB v3 fB_len fB_len HV3.out.2.1 (Bytes.row HV3.out.2.2)).mono ?_; rintro e v ⟨rfl, rfl⟩))
      refine hK.out _ _ trivial (fun hHeld32 => ?_)
      clear hK K hHeld31
      (try simp only [Act.put, List.setIfInBounds_toArray, List.set_cons_zero, List.set_cons_succ])
      refine takeY 46 (some 120) rfl rfl (by kernel_rfl) (by kernel_rfl) (by kernel_rfl) (fun _ _ _ h => h) (by rfl) (v := _) (by (intro _ hSw; (try dsimp only at hSw); go_simp; try with_reducible rfl)) hHeld32 ?_
      simp only [Act.put, List.setIfInBounds_toArray, List.set_cons_zero, List.set_cons_succ]
      refine takeY 47 (some 0) rfl rfl (by kernel_rfl) (by kernel_rfl) (by kernel_rfl) (fun _ _ _ h => h) (by rfl) (v := _) (by (intro _ hSw; (try dsimp only at hSw); go_simp; try with_reducible rfl)) hHeld32 ?_
      simp only [Act.put, List.setIfInBounds_toArray, List.set_cons_zero]
      refine wpAnyH_done (by kernel_rfl) ?_ _
      go_wp2_with fail
      go_ret
      exact ⟨rfl, HV3.out.1.bel⟩
    refine AllReadyH.cons rfl (fun K hK => ?_) AllReadyH.nil
    go_simp
    go_wp2_with (first | (go_at_call 12; have _t := tokA; refine (full1D w11 97).mono ?_; clear tokA; rintro e v1 ⟨rfl, hB, hb⟩; have HV1 := Lib.hid (And.intro (HC.out.1.below hb) (And.intro (HQ11.out.below hb) hB)); clear hB hb) | (go_at_call 14; have _t := tokS; refine (samet_any _ _ 256 _ 256 _ fA v1 fA_len fA_len HV1.out.2.1.bytes (Bytes.row HV1.out.2.2)).mono ?_; clear tokS; rintro e v ⟨rfl, rfl⟩) | (go_at_call 16; have hcs : ∀ W, Below v1.heap.size v1 W → CS w W (fun k => k = q4) g dg 16 2 (6 + 1025) D7 L10 := fun W h => HV1.out.1.below h; refine Calls.mono (CS.image (hcs _ ?hcs)) ?_; (case hcs => first | exact Below.refl _ _ | exact (Below.refl _ _).alloc (Nat.le_refl _) _); rintro e v2 ⟨rfl, hs, hb⟩; clear hcs; (try simp only [World.size_alloc] at hs hb); obtain ⟨A9, c9, hx, hy, hE⟩ := hs.cell (k := 4) (by rw [HV1.out.1.st.hale.len]; omega) HC.out.2; rw [fB_len] at hx; have hb1 : Below v1.heap.size v1 v2 := (by first | exact hb | exact ((Below.refl _ _).alloc (Nat.le_refl _) _).trans (hb.mono (Nat.le_succ _))); have hslt := hs.lt; have hx1 : ∀ o, (v2.alloc o).cell? _ = _ := fun o => (World.cell?_of_block (Below.heap_alloc _ _ _ hs.lt)).trans hx; have HV2 := Lib.hid (And.intro (HV1.out.1.below hb1) (And.intro hy (And.intro hslt hx))); (first | (have _hg : v2.heap[v1.heap.size]? = some (.cells #[.int .u8 98] 5 (0, 0)) := (hb.block v1.heap.size (Nat.lt_succ_self _)).trans (heap_alloc_new v1 _); clear _hg; obtain ⟨vf, hcv, hxf, hbf, hyf, hsf, hlf⟩ := litB v1 v2 fB A9 _ hb hy hE hx hslt; have HLF := Lib.hid (And.intro (HV1.out.1.below hbf) (And.intro hyf (And.intro hsf (And.intro hxf hlf)))); clear hbf hyf hsf hlf) | (have _hg : v2.heap[v1.heap.size]? = some (.cells #[.int .u8 98] 5 (1, 2)) := (hb.block v1.heap.size (Nat.lt_succ_self _)).trans (heap_alloc_new v1 _); clear _hg; have HLM := Lib.hid ((lit_bytes v1 98).below (w' := v2) (by rw [World.size_alloc]; exact hb))) | skip); clear hs hb hy hb1 hslt hE) | (go_at_call 12; have hful : ∀ W A, Bytes W A [98] → _ := fun W A h => full_any A 1 1 [98] W rfl (by omega) h; refine Calls.mono (hful _ _ ?hlb) ?_; (case hlb => first | exact lit_bytes v2 98 | exact HLM.out | exact HLF.out.2.2.2.2); rintro e v3 ⟨rfl, hB, hb⟩; clear hful; (try simp only [World.size_alloc] at hB hb); (first | (have hb5 := (lit_below v2 98).trans (hb.mono (Nat.le_succ _)); have hx3 := (hb5.cell HV2.out.2.2.1).trans HV2.out.2.2.2; have HV3 := Lib.hid (And.intro (HV2.out.1.below hb5) (And.intro (HV2.out.2.1.below hb5) hB)); clear hb5) | (have hx3 := (hb.cell HV2.out.2.2.1).trans HV2.out.2.2.2; have HV3 := Lib.hid (And.intro (HV2.out.1.below hb) (And.intro (HV2.out.2.1.below hb) hB))) | (have hx3 := (hb.cell HLF.out.2.2.1).trans HLF.out.2.2.2.1; have HV3 := Lib.hid (And.intro (HLF.out.1.below hb) (And.intro (HLF.out.2.1.below hb) hB)))); clear hB hb) | (go_at_call 14; refine (samet_any _ _ 256 _ 256 _ fB v3 fB_len fB_len HV3.out.2.1 (Bytes.row HV3.out.2.2)).mono ?_; rintro e v ⟨rfl, rfl⟩))
    refine hK.out _ _ trivial (fun hHeld33 => ?_)
    clear hK K hHeld29
    (try simp only [Act.put, List.setIfInBounds_toArray, List.set_cons_zero, List.set_cons_succ])
    refine wpAnyH_ready (rs := [41]) (by kernel_rfl) (by simp) ?_
    refine AllReadyH.cons rfl (fun K hK => ?_) AllReadyH.nil
    go_simp
    refine hK.out _ _ trivial (fun hHeld34 => ?_)
    clear hK K hHeld33
    (try simp only [Act.put, List.setIfInBounds_toArray, List.set_cons_zero, List.set_cons_succ])
    refine wpAnyH_ready (rs := [45]) (by kernel_rfl) (by simp) ?_
    refine AllReadyH.cons rfl (fun K hK => ?_) AllReadyH.nil
    go_simp
    go_wp2_with (first | (go_at_call 12; have _t := tokA; refine (full1D w11 97).mono ?_; clear tokA; rintro e v1 ⟨rfl, hB, hb⟩; have HV1 := Lib.hid (And.intro (HC.out.1.below hb) (And.intro (HQ11.out.below hb) hB)); clear hB hb) | (go_at_call 14; have _t := tokS; refine (samet_any _ _ 256 _ 256 _ fA v1 fA_len fA_len HV1.out.2.1.bytes (Bytes.row HV1.out.2.2)).mono ?_; clear tokS; rintro e v ⟨rfl, rfl⟩) | (go_at_call 16; have hcs : ∀ W, Below v1.heap.size v1 W → CS w W (fun k => k = q4) g dg 16 2 (6 + 1025) D7 L10 := fun W h => HV1.out.1.below h; refine Calls.mono (CS.image (hcs _ ?hcs)) ?_; (case hcs => first | exact Below.refl _ _ | exact (Below.refl _ _).alloc (Nat.le_refl _) _); rintro e v2 ⟨rfl, hs, hb⟩; clear hcs; (try simp only [World.size_alloc] at hs hb); obtain ⟨A9, c9, hx, hy, hE⟩ := hs.cell (k := 4) (by rw [HV1.out.1.st.hale.len]; omega) HC.out.2; rw [fB_len] at hx; have hb1 : Below v1.heap.size v1 v2 := (by first | exact hb | exact ((Below.refl _ _).alloc (Nat.le_refl _) _).trans (hb.mono (Nat.le_succ _))); have hslt := hs.lt; have hx1 : ∀ o, (v2.alloc o).cell? _ = _ := fun o => (World.cell?_of_block (Below.heap_alloc _ _ _ hs.lt)).trans hx; have HV2 := Lib.hid (And.intro (HV1.out.1.below hb1) (And.intro hy (And.intro hslt hx))); (first | (have _hg : v2.heap[v1.heap.size]? = some (.cells #[.int .u8 98] 5 (0, 0)) := (hb.block v1.heap.size (Nat.lt_succ_self _)).trans (heap_alloc_new v1 _); clear _hg; obtain ⟨vf, hcv, hxf, hbf, hyf, hsf, hlf⟩ := litB v1 v2 fB A9 _ hb hy hE hx hslt; have HLF := Lib.hid (And.intro (HV1.out.1.below hbf) (And.intro hyf (And.intro hsf (And.intro hxf hlf)))); clear hbf hyf hsf hlf) | (have _hg : v2.heap[v1.heap.size]? = some (.cells #[.int .u8 98] 5 (1, 2)) := (hb.block v1.heap.size (Nat.lt_succ_self _)).trans (heap_alloc_new v1 _); clear _hg; have HLM := Lib.hid ((lit_bytes v1 98).below (w' := v2) (by rw [World.size_alloc]; exact hb))) | skip); clear hs hb hy hb1 hslt hE) | (go_at_call 12; have hful : ∀ W A, Bytes W A [98] → _ := fun W A h => full_any A 1 1 [98] W rfl (by omega) h; refine Calls.mono (hful _ _ ?hlb) ?_; (case hlb => first | exact lit_bytes v2 98 | exact HLM.out | exact HLF.out.2.2.2.2); rintro e v3 ⟨rfl, hB, hb⟩; clear hful; (try simp only [World.size_alloc] at hB hb); (first | (have hb5 := (lit_below v2 98).trans (hb.mono (Nat.le_succ _)); have hx3 := (hb5.cell HV2.out.2.2.1).trans HV2.out.2.2.2; have HV3 := Lib.hid (And.intro (HV2.out.1.below hb5) (And.intro (HV2.out.2.1.below hb5) hB)); clear hb5) | (have hx3 := (hb.cell HV2.out.2.2.1).trans HV2.out.2.2.2; have HV3 := Lib.hid (And.intro (HV2.out.1.below hb) (And.intro (HV2.out.2.1.below hb) hB))) | (have hx3 := (hb.cell HLF.out.2.2.1).trans HLF.out.2.2.2.1; have HV3 := Lib.hid (And.intro (HLF.out.1.below hb) (And.intro (HLF.out.2.1.below hb) hB)))); clear hB hb) | (go_at_call 14; refine (samet_any _ _ 256 _ 256 _ fB v3 fB_len fB_len HV3.out.2.1 (Bytes.row HV3.out.2.2)).mono ?_; rintro e v ⟨rfl, rfl⟩))
    refine hK.out _ _ trivial (fun hHeld35 => ?_)
    clear hK K hHeld34
    (try simp only [Act.put, List.setIfInBounds_toArray, List.set_cons_zero, List.set_cons_succ])
    refine takeY 46 (some 120) rfl rfl (by kernel_rfl) (by kernel_rfl) (by kernel_rfl) (fun _ _ _ h => h) (by rfl) (v := _) (by (intro _ hSw; (try dsimp only at hSw); go_simp; try with_reducible rfl)) hHeld35 ?_
    simp only [Act.put, List.setIfInBounds_toArray, List.set_cons_zero, List.set_cons_succ]
    refine takeY 47 (some 0) rfl rfl (by kernel_rfl) (by kernel_rfl) (by kernel_rfl) (fun _ _ _ h => h) (by rfl) (v := _) (by (intro _ hSw; (try dsimp only at hSw); go_simp; try with_reducible rfl)) hHeld35 ?_
    simp only [Act.put, List.setIfInBounds_toArray, List.set_cons_zero]
    refine wpAnyH_done (by kernel_rfl) ?_ _
    go_wp2_with fail
    go_ret
    exact ⟨rfl, HV3.out.1.bel⟩
  refine AllReadyH.cons rfl (fun K hK => ?_) AllReadyH.nil
  go_simp
  refine hK.out _ _ trivial (fun hHeld36 => ?_)
  clear hK K hHeld23
  (try simp only [Act.put, List.setIfInBounds_toArray, List.set_cons_zero, List.set_cons_succ])
  refine wpAnyH_ready (rs := [39]) (by kernel_rfl) (by simp) ?_
  refine AllReadyH.cons rfl (fun K hK => ?_) AllReadyH.nil
  go_simp
  go_wp2_with (first | (go_at_call 12; have _t := tokA; refine (full1D w11 97).mono ?_; clear tokA; rintro e v1 ⟨rfl, hB, hb⟩; have HV1 := Lib.hid (And.intro (HC.out.1.below hb) (And.intro (HQ11.out.below hb) hB)); clear hB hb) | (go_at_call 14; have _t := tokS; refine (samet_any _ _ 256 _ 256 _ fA v1 fA_len fA_len HV1.out.2.1.bytes (Bytes.row HV1.out.2.2)).mono ?_; clear tokS; rintro e v ⟨rfl, rfl⟩) | (go_at_call 16; have hcs : ∀ W, Below v1.heap.size v1 W → CS w W (fun k => k = q4) g dg 16 2 (6 + 1025) D7 L10 := fun W h => HV1.out.1.below h; refine Calls.mono (CS.image (hcs _ ?hcs)) ?_; (case hcs => first | exact Below.refl _ _ | exact (Below.refl _ _).alloc (Nat.le_refl _) _); rintro e v2 ⟨rfl, hs, hb⟩; clear hcs; (try simp only [World.size_alloc] at hs hb); obtain ⟨A9, c9, hx, hy, hE⟩ := hs.cell (k := 4) (by rw [HV1.out.1.st.hale.len]; omega) HC.out.2; rw [fB_len] at hx; have hb1 : Below v1.heap.size v1 v2 := (by first | exact hb | exact ((Below.refl _ _).alloc (Nat.le_refl _) _).trans (hb.mono (Nat.le_succ _))); have hslt := hs.lt; have hx1 : ∀ o, (v2.alloc o).cell? _ = _ := fun o => (World.cell?_of_block (Below.heap_alloc _ _ _ hs.lt)).trans hx; have HV2 := Lib.hid (And.intro (HV1.out.1.below hb1) (And.intro hy (And.intro hslt hx))); (first | (have _hg : v2.heap[v1.heap.size]? = some (.cells #[.int .u8 98] 5 (0, 0)) := (hb.block v1.heap.size (Nat.lt_succ_self _)).trans (heap_alloc_new v1 _); clear _hg; obtain ⟨vf, hcv, hxf, hbf, hyf, hsf, hlf⟩ := litB v1 v2 fB A9 _ hb hy hE hx hslt; have HLF := Lib.hid (And.intro (HV1.out.1.below hbf) (And.intro hyf (And.intro hsf (And.intro hxf hlf)))); clear hbf hyf hsf hlf) | (have _hg : v2.heap[v1.heap.size]? = some (.cells #[.int .u8 98] 5 (1, 2)) := (hb.block v1.heap.size (Nat.lt_succ_self _)).trans (heap_alloc_new v1 _); clear _hg; have HLM := Lib.hid ((lit_bytes v1 98).below (w' := v2) (by rw [World.size_alloc]; exact hb))) | skip); clear hs hb hy hb1 hslt hE) | (go_at_call 12; have hful : ∀ W A, Bytes W A [98] → _ := fun W A h => full_any A 1 1 [98] W rfl (by omega) h; refine Calls.mono (hful _ _ ?hlb) ?_; (case hlb => first | exact lit_bytes v2 98 | exact HLM.out | exact HLF.out.2.2.2.2); rintro e v3 ⟨rfl, hB, hb⟩; clear hful; (try simp only [World.size_alloc] at hB hb); (first | (have hb5 := (lit_below v2 98).trans (hb.mono (Nat.le_succ _)); have hx3 := (hb5.cell HV2.out.2.2.1).trans HV2.out.2.2.2; have HV3 := Lib.hid (And.intro (HV2.out.1.below hb5) (And.intro (HV2.out.2.1.below hb5) hB)); clear hb5) | (have hx3 := (hb.cell HV2.out.2.2.1).trans HV2.out.2.2.2; have HV3 := Lib.hid (And.intro (HV2.out.1.below hb) (And.intro (HV2.out.2.1.below hb) hB))) | (have hx3 := (hb.cell HLF.out.2.2.1).trans HLF.out.2.2.2.1; have HV3 := Lib.hid (And.intro (HLF.out.1.below hb) (And.intro (HLF.out.2.1.below hb) hB)))); clear hB hb) | (go_at_call 14; refine (samet_any _ _ 256 _ 256 _ fB v3 fB_len fB_len HV3.out.2.1 (Bytes.row HV3.out.2.2)).mono ?_; rintro e v ⟨rfl, rfl⟩))
  refine hK.out _ _ trivial (fun hHeld37 => ?_)
  clear hK K hHeld36
  (try simp only [Act.put, List.setIfInBounds_toArray, List.set_cons_zero, List.set_cons_succ])
  refine takeY 40 (some 114) rfl rfl (by kernel_rfl) (by kernel_rfl) (by kernel_rfl) (fun _ _ _ h => h) (by rfl) (v := _) (by (intro _ hSw; (try dsimp only at hSw); go_simp; try with_reducible rfl)) hHeld37 ?_
  simp only [Act.put, List.setIfInBounds_toArray, List.set_cons_zero, List.set_cons_succ]
  refine wpAnyH_ready (rs := [41, 44]) (by kernel_rfl) (by simp) ?_
  refine AllReadyH.cons rfl (fun K hK => ?_) ?_
  · go_simp
    refine hK.out _ _ trivial (fun hHeld38 => ?_)
    clear hK K hHeld37
    (try simp only [Act.put, List.setIfInBounds_toArray, List.set_cons_zero, List.set_cons_succ])
    refine wpAnyH_ready (rs := [44]) (by kernel_rfl) (by simp) ?_
    refine AllReadyH.cons rfl (fun K hK => ?_) AllReadyH.nil
    go_simp
    go_wp2_with (first | (go_at_call 12; have _t := tokA; refine (full1D w11 97).mono ?_; clear tokA; rintro e v1 ⟨rfl, hB, hb⟩; have HV1 := Lib.hid (And.intro (HC.out.1.below hb) (And.intro (HQ11.out.below hb) hB)); clear hB hb) | (go_at_call 14; have _t := tokS; refine (samet_any _ _ 256 _ 256 _ fA v1 fA_len fA_len HV1.out.2.1.bytes (Bytes.row HV1.out.2.2)).mono ?_; clear tokS; rintro e v ⟨rfl, rfl⟩) | (go_at_call 16; have hcs : ∀ W, Below v1.heap.size v1 W → CS w W (fun k => k = q4) g dg 16 2 (6 + 1025) D7 L10 := fun W h => HV1.out.1.below h; refine Calls.mono (CS.image (hcs _ ?hcs)) ?_; (case hcs => first | exact Below.refl _ _ | exact (Below.refl _ _).alloc (Nat.le_refl _) _); rintro e v2 ⟨rfl, hs, hb⟩; clear hcs; (try simp only [World.size_alloc] at hs hb); obtain ⟨A9, c9, hx, hy, hE⟩ := hs.cell (k := 4) (by rw [HV1.out.1.st.hale.len]; omega) HC.out.2; rw [fB_len] at hx; have hb1 : Below v1.heap.size v1 v2 := (by first | exact hb | exact ((Below.refl _ _).alloc (Nat.le_refl _) _).trans (hb.mono (Nat.le_succ _))); have hslt := hs.lt; have hx1 : ∀ o, (v2.alloc o).cell? _ = _ := fun o => (World.cell?_of_block (Below.heap_alloc _ _ _ hs.lt)).trans hx; have HV2 := Lib.hid (And.intro (HV1.out.1.below hb1) (And.intro hy (And.intro hslt hx))); (first | (have _hg : v2.heap[v1.heap.size]? = some (.cells #[.int .u8 98] 5 (0, 0)) := (hb.block v1.heap.size (Nat.lt_succ_self _)).trans (heap_alloc_new v1 _); clear _hg; obtain ⟨vf, hcv, hxf, hbf, hyf, hsf, hlf⟩ := litB v1 v2 fB A9 _ hb hy hE hx hslt; have HLF := Lib.hid (And.intro (HV1.out.1.below hbf) (And.intro hyf (And.intro hsf (And.intro hxf hlf)))); clear hbf hyf hsf hlf) | (have _hg : v2.heap[v1.heap.size]? = some (.cells #[.int .u8 98] 5 (1, 2)) := (hb.block v1.heap.size (Nat.lt_succ_self _)).trans (heap_alloc_new v1 _); clear _hg; have HLM := Lib.hid ((lit_bytes v1 98).below (w' := v2) (by rw [World.size_alloc]; exact hb))) | skip); clear hs hb hy hb1 hslt hE) | (go_at_call 12; have hful : ∀ W A, Bytes W A [98] → _ := fun W A h => full_any A 1 1 [98] W rfl (by omega) h; refine Calls.mono (hful _ _ ?hlb) ?_; (case hlb => first | exact lit_bytes v2 98 | exact HLM.out | exact HLF.out.2.2.2.2); rintro e v3 ⟨rfl, hB, hb⟩; clear hful; (try simp only [World.size_alloc] at hB hb); (first | (have hb5 := (lit_below v2 98).trans (hb.mono (Nat.le_succ _)); have hx3 := (hb5.cell HV2.out.2.2.1).trans HV2.out.2.2.2; have HV3 := Lib.hid (And.intro (HV2.out.1.below hb5) (And.intro (HV2.out.2.1.below hb5) hB)); clear hb5) | (have hx3 := (hb.cell HV2.out.2.2.1).trans HV2.out.2.2.2; have HV3 := Lib.hid (And.intro (HV2.out.1.below hb) (And.intro (HV2.out.2.1.below hb) hB))) | (have hx3 := (hb.cell HLF.out.2.2.1).trans HLF.out.2.2.2.1; have HV3 := Lib.hid (And.intro (HLF.out.1.below hb) (And.intro (HLF.out.2.1.below hb) hB)))); clear hB hb) | (go_at_call 14; refine (samet_any _ _ 256 _ 256 _ fB v3 fB_len fB_len HV3.out.2.1 (Bytes.row HV3.out.2.2)).mono ?_; rintro e v ⟨rfl, rfl⟩))
    refine hK.out _ _ trivial (fun hHeld39 => ?_)
    clear hK K hHeld38
    (try simp only [Act.put, List.setIfInBounds_toArray, List.set_cons_zero, List.set_cons_succ])
    refine wpAnyH_ready (rs := [45]) (by kernel_rfl) (by simp) ?_
    refine AllReadyH.cons rfl (fun K hK => ?_) AllReadyH.nil
    go_simp
    go_wp2_with (first | (go_at_call 12; have _t := tokA; refine (full1D w11 97).mono ?_; clear tokA; rintro e v1 ⟨rfl, hB, hb⟩; have HV1 := Lib.hid (And.intro (HC.out.1.below hb) (And.intro (HQ11.out.below hb) hB)); clear hB hb) | (go_at_call 14; have _t := tokS; refine (samet_any _ _ 256 _ 256 _ fA v1 fA_len fA_len HV1.out.2.1.bytes (Bytes.row HV1.out.2.2)).mono ?_; clear tokS; rintro e v ⟨rfl, rfl⟩) | (go_at_call 16; have hcs : ∀ W, Below v1.heap.size v1 W → CS w W (fun k => k = q4) g dg 16 2 (6 + 1025) D7 L10 := fun W h => HV1.out.1.below h; refine Calls.mono (CS.image (hcs _ ?hcs)) ?_; (case hcs => first | exact Below.refl _ _ | exact (Below.refl _ _).alloc (Nat.le_refl _) _); rintro e v2 ⟨rfl, hs, hb⟩; clear hcs; (try simp only [World.size_alloc] at hs hb); obtain ⟨A9, c9, hx, hy, hE⟩ := hs.cell (k := 4) (by rw [HV1.out.1.st.hale.len]; omega) HC.out.2; rw [fB_len] at hx; have hb1 : Below v1.heap.size v1 v2 := (by first | exact hb | exact ((Below.refl _ _).alloc (Nat.le_refl _) _).trans (hb.mono (Nat.le_succ _))); have hslt := hs.lt; have hx1 : ∀ o, (v2.alloc o).cell? _ = _ := fun o => (World.cell?_of_block (Below.heap_alloc _ _ _ hs.lt)).trans hx; have HV2 := Lib.hid (And.intro (HV1.out.1.below hb1) (And.intro hy (And.intro hslt hx))); (first | (have _hg : v2.heap[v1.heap.size]? = some (.cells #[.int .u8 98] 5 (0, 0)) := (hb.block v1.heap.size (Nat.lt_succ_self _)).trans (heap_alloc_new v1 _); clear _hg; obtain ⟨vf, hcv, hxf, hbf, hyf, hsf, hlf⟩ := litB v1 v2 fB A9 _ hb hy hE hx hslt; have HLF := Lib.hid (And.intro (HV1.out.1.below hbf) (And.intro hyf (And.intro hsf (And.intro hxf hlf)))); clear hbf hyf hsf hlf) | (have _hg : v2.heap[v1.heap.size]? = some (.cells #[.int .u8 98] 5 (1, 2)) := (hb.block v1.heap.size (Nat.lt_succ_self _)).trans (heap_alloc_new v1 _); clear _hg; have HLM := Lib.hid ((lit_bytes v1 98).below (w' := v2) (by rw [World.size_alloc]; exact hb))) | skip); clear hs hb hy hb1 hslt hE) | (go_at_call 12; have hful : ∀ W A, Bytes W A [98] → _ := fun W A h => full_any A 1 1 [98] W rfl (by omega) h; refine Calls.mono (hful _ _ ?hlb) ?_; (case hlb => first | exact lit_bytes v2 98 | exact HLM.out | exact HLF.out.2.2.2.2); rintro e v3 ⟨rfl, hB, hb⟩; clear hful; (try simp only [World.size_alloc] at hB hb); (first | (have hb5 := (lit_below v2 98).trans (hb.mono (Nat.le_succ _)); have hx3 := (hb5.cell HV2.out.2.2.1).trans HV2.out.2.2.2; have HV3 := Lib.hid (And.intro (HV2.out.1.below hb5) (And.intro (HV2.out.2.1.below hb5) hB)); clear hb5) | (have hx3 := (hb.cell HV2.out.2.2.1).trans HV2.out.2.2.2; have HV3 := Lib.hid (And.intro (HV2.out.1.below hb) (And.intro (HV2.out.2.1.below hb) hB))) | (have hx3 := (hb.cell HLF.out.2.2.1).trans HLF.out.2.2.2.1; have HV3 := Lib.hid (And.intro (HLF.out.1.below hb) (And.intro (HLF.out.2.1.below hb) hB)))); clear hB hb) | (go_at_call 14; refine (samet_any _ _ 256 _ 256 _ fB v3 fB_len fB_len HV3.out.2.1 (Bytes.row HV3.out.2.2)).mono ?_; rintro e v ⟨rfl, rfl⟩))
    refine hK.out _ _ trivial (fun hHeld40 => ?_)
    clear hK K hHeld39
    (try simp only [Act.put, List.setIfInBounds_toArray, List.set_cons_zero, List.set_cons_succ])
    refine takeY 46 (some 120) rfl rfl (by kernel_rfl) (by kernel_rfl) (by kernel_rfl) (fun _ _ _ h => h) (by rfl) (v := _) (by (intro _ hSw; (try dsimp only at hSw); go_simp; try with_reducible rfl)) hHeld40 ?_
    simp only [Act.put, List.setIfInBounds_toArray, List.set_cons_zero, List.set_cons_succ]
    refine takeY 47 (some 0) rfl rfl (by kernel_rfl) (by kernel_rfl) (by kernel_rfl) (fun _ _ _ h => h) (by rfl) (v := _) (by (intro _ hSw; (try dsimp only at hSw); go_simp; try with_reducible rfl)) hHeld40 ?_
    simp only [Act.put, List.setIfInBounds_toArray, List.set_cons_zero]
    refine wpAnyH_done (by kernel_rfl) ?_ _
    go_wp2_with fail
    go_ret
    exact ⟨rfl, HV3.out.1.bel⟩
  refine AllReadyH.cons rfl (fun K hK => ?_) AllReadyH.nil
  go_simp
  go_wp2_with (first | (go_at_call 12; have _t := tokA; refine (full1D w11 97).mono ?_; clear tokA; rintro e v1 ⟨rfl, hB, hb⟩; have HV1 := Lib.hid (And.intro (HC.out.1.below hb) (And.intro (HQ11.out.below hb) hB)); clear hB hb) | (go_at_call 14; have _t := tokS; refine (samet_any _ _ 256 _ 256 _ fA v1 fA_len fA_len HV1.out.2.1.bytes (Bytes.row HV1.out.2.2)).mono ?_; clear tokS; rintro e v ⟨rfl, rfl⟩) | (go_at_call 16; have hcs : ∀ W, Below v1.heap.size v1 W → CS w W (fun k => k = q4) g dg 16 2 (6 + 1025) D7 L10 := fun W h => HV1.out.1.below h; refine Calls.mono (CS.image (hcs _ ?hcs)) ?_; (case hcs => first | exact Below.refl _ _ | exact (Below.refl _ _).alloc (Nat.le_refl _) _); rintro e v2 ⟨rfl, hs, hb⟩; clear hcs; (try simp only [World.size_alloc] at hs hb); obtain ⟨A9, c9, hx, hy, hE⟩ := hs.cell (k := 4) (by rw [HV1.out.1.st.hale.len]; omega) HC.out.2; rw [fB_len] at hx; have hb1 : Below v1.heap.size v1 v2 := (by first | exact hb | exact ((Below.refl _ _).alloc (Nat.le_refl _) _).trans (hb.mono (Nat.le_succ _))); have hslt := hs.lt; have hx1 : ∀ o, (v2.alloc o).cell? _ = _ := fun o => (World.cell?_of_block (Below.heap_alloc _ _ _ hs.lt)).trans hx; have HV2 := Lib.hid (And.intro (HV1.out.1.below hb1) (And.intro hy (And.intro hslt hx))); (first | (have _hg : v2.heap[v1.heap.size]? = some (.cells #[.int .u8 98] 5 (0, 0)) := (hb.block v1.heap.size (Nat.lt_succ_self _)).trans (heap_alloc_new v1 _); clear _hg; obtain ⟨vf, hcv, hxf, hbf, hyf, hsf, hlf⟩ := litB v1 v2 fB A9 _ hb hy hE hx hslt; have HLF := Lib.hid (And.intro (HV1.out.1.below hbf) (And.intro hyf (And.intro hsf (And.intro hxf hlf)))); clear hbf hyf hsf hlf) | (have _hg : v2.heap[v1.heap.size]? = some (.cells #[.int .u8 98] 5 (1, 2)) := (hb.block v1.heap.size (Nat.lt_succ_self _)).trans (heap_alloc_new v1 _); clear _hg; have HLM := Lib.hid ((lit_bytes v1 98).below (w' := v2) (by rw [World.size_alloc]; exact hb))) | skip); clear hs hb hy hb1 hslt hE) | (go_at_call 12; have hful : ∀ W A, Bytes W A [98] → _ := fun W A h => full_any A 1 1 [98] W rfl (by omega) h; refine Calls.mono (hful _ _ ?hlb) ?_; (case hlb => first | exact lit_bytes v2 98 | exact HLM.out | exact HLF.out.2.2.2.2); rintro e v3 ⟨rfl, hB, hb⟩; clear hful; (try simp only [World.size_alloc] at hB hb); (first | (have hb5 := (lit_below v2 98).trans (hb.mono (Nat.le_succ _)); have hx3 := (hb5.cell HV2.out.2.2.1).trans HV2.out.2.2.2; have HV3 := Lib.hid (And.intro (HV2.out.1.below hb5) (And.intro (HV2.out.2.1.below hb5) hB)); clear hb5) | (have hx3 := (hb.cell HV2.out.2.2.1).trans HV2.out.2.2.2; have HV3 := Lib.hid (And.intro (HV2.out.1.below hb) (And.intro (HV2.out.2.1.below hb) hB))) | (have hx3 := (hb.cell HLF.out.2.2.1).trans HLF.out.2.2.2.1; have HV3 := Lib.hid (And.intro (HLF.out.1.below hb) (And.intro (HLF.out.2.1.below hb) hB)))); clear hB hb) | (go_at_call 14; refine (samet_any _ _ 256 _ 256 _ fB v3 fB_len fB_len HV3.out.2.1 (Bytes.row HV3.out.2.2)).mono ?_; rintro e v ⟨rfl, rfl⟩))
  refine hK.out _ _ trivial (fun hHeld41 => ?_)
  clear hK K hHeld37
  (try simp only [Act.put, List.setIfInBounds_toArray, List.set_cons_zero, List.set_cons_succ])
  refine wpAnyH_ready (rs := [41]) (by kernel_rfl) (by simp) ?_
  refine AllReadyH.cons rfl (fun K hK => ?_) AllReadyH.nil
  go_simp
  refine hK.out _ _ trivial (fun hHeld42 => ?_)
  clear hK K hHeld41
  (try simp only [Act.put, List.setIfInBounds_toArray, List.set_cons_zero, List.set_cons_succ])
  refine wpAnyH_ready (rs := [45]) (by kernel_rfl) (by simp) ?_
  refine AllReadyH.cons rfl (fun K hK => ?_) AllReadyH.nil
  go_simp
  go_wp2_with (first | (go_at_call 12; have _t := tokA; refine (full1D w11 97).mono ?_; clear tokA; rintro e v1 ⟨rfl, hB, hb⟩; have HV1 := Lib.hid (And.intro (HC.out.1.below hb) (And.intro (HQ11.out.below hb) hB)); clear hB hb) | (go_at_call 14; have _t := tokS; refine (samet_any _ _ 256 _ 256 _ fA v1 fA_len fA_len HV1.out.2.1.bytes (Bytes.row HV1.out.2.2)).mono ?_; clear tokS; rintro e v ⟨rfl, rfl⟩) | (go_at_call 16; have hcs : ∀ W, Below v1.heap.size v1 W → CS w W (fun k => k = q4) g dg 16 2 (6 + 1025) D7 L10 := fun W h => HV1.out.1.below h; refine Calls.mono (CS.image (hcs _ ?hcs)) ?_; (case hcs => first | exact Below.refl _ _ | exact (Below.refl _ _).alloc (Nat.le_refl _) _); rintro e v2 ⟨rfl, hs, hb⟩; clear hcs; (try simp only [World.size_alloc] at hs hb); obtain ⟨A9, c9, hx, hy, hE⟩ := hs.cell (k := 4) (by rw [HV1.out.1.st.hale.len]; omega) HC.out.2; rw [fB_len] at hx; have hb1 : Below v1.heap.size v1 v2 := (by first | exact hb | exact ((Below.refl _ _).alloc (Nat.le_refl _) _).trans (hb.mono (Nat.le_succ _))); have hslt := hs.lt; have hx1 : ∀ o, (v2.alloc o).cell? _ = _ := fun o => (World.cell?_of_block (Below.heap_alloc _ _ _ hs.lt)).trans hx; have HV2 := Lib.hid (And.intro (HV1.out.1.below hb1) (And.intro hy (And.intro hslt hx))); (first | (have _hg : v2.heap[v1.heap.size]? = some (.cells #[.int .u8 98] 5 (0, 0)) := (hb.block v1.heap.size (Nat.lt_succ_self _)).trans (heap_alloc_new v1 _); clear _hg; obtain ⟨vf, hcv, hxf, hbf, hyf, hsf, hlf⟩ := litB v1 v2 fB A9 _ hb hy hE hx hslt; have HLF := Lib.hid (And.intro (HV1.out.1.below hbf) (And.intro hyf (And.intro hsf (And.intro hxf hlf)))); clear hbf hyf hsf hlf) | (have _hg : v2.heap[v1.heap.size]? = some (.cells #[.int .u8 98] 5 (1, 2)) := (hb.block v1.heap.size (Nat.lt_succ_self _)).trans (heap_alloc_new v1 _); clear _hg; have HLM := Lib.hid ((lit_bytes v1 98).below (w' := v2) (by rw [World.size_alloc]; exact hb))) | skip); clear hs hb hy hb1 hslt hE) | (go_at_call 12; have hful : ∀ W A, Bytes W A [98] → _ := fun W A h => full_any A 1 1 [98] W rfl (by omega) h; refine Calls.mono (hful _ _ ?hlb) ?_; (case hlb => first | exact lit_bytes v2 98 | exact HLM.out | exact HLF.out.2.2.2.2); rintro e v3 ⟨rfl, hB, hb⟩; clear hful; (try simp only [World.size_alloc] at hB hb); (first | (have hb5 := (lit_below v2 98).trans (hb.mono (Nat.le_succ _)); have hx3 := (hb5.cell HV2.out.2.2.1).trans HV2.out.2.2.2; have HV3 := Lib.hid (And.intro (HV2.out.1.below hb5) (And.intro (HV2.out.2.1.below hb5) hB)); clear hb5) | (have hx3 := (hb.cell HV2.out.2.2.1).trans HV2.out.2.2.2; have HV3 := Lib.hid (And.intro (HV2.out.1.below hb) (And.intro (HV2.out.2.1.below hb) hB))) | (have hx3 := (hb.cell HLF.out.2.2.1).trans HLF.out.2.2.2.1; have HV3 := Lib.hid (And.intro (HLF.out.1.below hb) (And.intro (HLF.out.2.1.below hb) hB)))); clear hB hb) | (go_at_call 14; refine (samet_any _ _ 256 _ 256 _ fB v3 fB_len fB_len HV3.out.2.1 (Bytes.row HV3.out.2.2)).mono ?_; rintro e v ⟨rfl, rfl⟩))
  refine hK.out _ _ trivial (fun hHeld43 => ?_)
  clear hK K hHeld42
  (try simp only [Act.put, List.setIfInBounds_toArray, List.set_cons_zero, List.set_cons_succ])
  refine takeY 46 (some 120) rfl rfl (by kernel_rfl) (by kernel_rfl) (by kernel_rfl) (fun _ _ _ h => h) (by rfl) (v := _) (by (intro _ hSw; (try dsimp only at hSw); go_simp; try with_reducible rfl)) hHeld43 ?_
  simp only [Act.put, List.setIfInBounds_toArray, List.set_cons_zero, List.set_cons_succ]
  refine takeY 47 (some 0) rfl rfl (by kernel_rfl) (by kernel_rfl) (by kernel_rfl) (fun _ _ _ h => h) (by rfl) (v := _) (by (intro _ hSw; (try dsimp only at hSw); go_simp; try with_reducible rfl)) hHeld43 ?_
  simp only [Act.put, List.setIfInBounds_toArray, List.set_cons_zero]
  refine wpAnyH_done (by kernel_rfl) ?_ _
  go_wp2_with fail
  go_ret
  exact ⟨rfl, HV3.out.1.bel⟩
end Go.Proofs.Ytiemfhncadcemaa
