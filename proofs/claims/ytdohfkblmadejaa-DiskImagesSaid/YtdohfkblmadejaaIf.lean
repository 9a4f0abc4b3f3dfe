/- A copy of the reference's disk, walked. -/
import Derived.Test.YtdohfkblmadejaaIe
namespace Go.Proofs.Ytdohfkblmadejaa
open Go.RowKit Dsk

theorem cimg_secs (A : Option Addr) (n cap : Nat) (rows : List (List UInt8)) (w : World) (hn : rows.length = n) (hn2 : n < 1000000) (h0 : 0 < n) (hA : Img w A rows) :
    Calls Try.prog 20 #[.slice A n cap] w fun e w' => ∃ gs c, e = .returned (.slice (some ⟨gs, 0, none⟩) n c) ∧ n ≤ c ∧ Secs w' (fun j => w.heap.size ≤ j ∧ j < w'.heap.size ∧ j ≠ gs) gs rows ∧ w.heap.size ≤ gs ∧ Below w.heap.size w w' := by
  refine (cimg_any A n cap rows w hn (by omega) hA).mono ?_
  rintro e w' ⟨sv, rfl, h⟩
  obtain ⟨gs, c, rfl, h1, h2, h3⟩ := h.own.secs (by omega)
  exact ⟨gs, c, by rw [hn], by omega, h3.mono fun j hj => ⟨hj.1, hj.2.1, fun e => hj.2.2 (by rw [e]; rfl)⟩, h.lo gs rfl, h.bel⟩

theorem RcS.start {w0 w8 : World} {gs c : Nat} {D : DS} (hc : D.S.length ≤ c) (hS : Secs w8 (fun j => w0.heap.size ≤ j ∧ j < w8.heap.size ∧ j ≠ gs) gs D.S) (hlo : w0.heap.size ≤ gs) (hb : Below w0.heap.size w0 w8) :
    RcS w0 (w8.alloc (.cells #[.slice (some ⟨gs, 0, none⟩) D.S.length c, .slice none 0 0, .bool D.dead, .int .i64 (D.armed : Int), .int .i64 (D.steps : Int)] 46)) w8.heap.size gs c (.slice none 0 0) D 0 := by
  have hlt := hS.lt
  have hbb : Below w8.heap.size w8 (w8.alloc (.cells #[.slice (some ⟨gs, 0, none⟩) D.S.length c, .slice none 0 0, .bool D.dead, .int .i64 (D.armed : Int), .int .i64 (D.steps : Int)] 46)) := (Below.refl _ _).alloc (Nat.le_refl _) _
  exact ⟨hc, Blk.new _ _ _, (hS.same hbb.size (fun j _ hj => hbb.block j hj) (hbb.block gs hlt)).mono fun j hj => ⟨hj.1, by have := hbb.size; omega, by omega, hj.2.2, fun e => (by cases e)⟩,
    by rw [List.take_zero]; exact Pend.nil _ _ _, hb.trans (hbb.mono hb.size), ⟨hb.size, hlo⟩, by omega, fun j hj => (by cases hj)⟩

theorem RcS.step {w0 wr w3 : World} {g gs c : Nat} {pv : Value} {D : DS} {k s c3 : Nat} {b : List UInt8} (h : RcS w0 wr g gs c pv D k) (hk : D.P[k]? = some (s, b)) (hP : D.P.length < 1000000) (hb6 : b.length = 256) (hR : Rw w3 wr.heap.size 256 c3 b) (hb : Below wr.heap.size wr w3) :
    ∃ v' w5, (Builtin.append_ #[44, 44] 44 #[pv, .slice (some ⟨w3.heap.size, 0, none⟩) 1 1]).run Try.prog (w3.alloc (.cells #[.int .i64 (s : Int), .slice (some ⟨wr.heap.size, 0, none⟩) 256 c3] 78)) = .ok v' w5 ∧
      RcS w0 (w5.setCell ⟨g, 1, none⟩ v') g gs c v' D (k + 1) ∧ w5.cell? ⟨g, 1, none⟩ = some pv ∧ w5.frozen? ⟨g, 1, none⟩ = false ∧ (∃ A c, v' = .slice A (k + 1) c) ∧ Below w0.heap.size w0 w5 := by
  have hkl := (List.getElem?_eq_some_iff.1 hk).1
  have hgg := h.head.lt
  have hgs := h.secs.lt
  have hrl := h.pend.lt
  have s0 := h.bel.size
  have s3 := hb.size
  have hlt := hR.lt
  have hb4 : Below wr.heap.size wr (w3.alloc (.cells #[.int .i64 (s : Int), .slice (some ⟨wr.heap.size, 0, none⟩) 256 c3] 78)) := hb.alloc s3 _
  have h4 := h.below hb4
  have hR4 : Rw (w3.alloc (.cells #[.int .i64 (s : Int), .slice (some ⟨wr.heap.size, 0, none⟩) 256 c3] 78)) wr.heap.size 256 c3 b := hR.below ((Below.refl _ _).alloc (Nat.le_refl _) _)
  have hB := Blk.new w3 78 #[.int .i64 (s : Int), .slice (some ⟨wr.heap.size, 0, none⟩) 256 c3]
  have hsec : Sec (w3.alloc (.cells #[.int .i64 (s : Int), .slice (some ⟨wr.heap.size, 0, none⟩) 256 c3] 78)) (RcE w0 g gs pv (w3.alloc (.cells #[.int .i64 (s : Int), .slice (some ⟨wr.heap.size, 0, none⟩) 256 c3] 78))) (.slice (some ⟨wr.heap.size, 0, none⟩) 256 c3) b :=
    ⟨some ⟨wr.heap.size, 0, none⟩, c3, by rw [hb6], by rw [hb6]; exact hR.le, hR.max, hR4.bytes, fun p e => by cases e; exact ⟨s0, by rw [World.size_alloc]; show wr.heap.size < _; omega, by show wr.heap.size ≠ _; omega, by show wr.heap.size ≠ _; omega, fun e => by have := hrl _ e; show False; exact Nat.lt_irrefl _ this⟩⟩
  obtain ⟨v', w5, hrun, hp, hg, ho⟩ := Pend.push (T := 44) h4.pend (by kernel_rfl) (by kernel_rfl) (s, b) _ hsec w3.heap.size (hB.cell 0) (hB.cell 1) (fun j hj e => e.2.2.2.2 hj) (by rw [List.length_take]; omega)
  have hp5 := h4.push hk hp hg ho
  have hH : Blk w5 g _ _ := h4.head.grown hg (fun e => (h.row g e.symm).2.1 rfl)
  obtain ⟨A, c', e, _, _⟩ := hp.shape
  exact ⟨v', w5, hrun, hp5, hH.cell 1, hH.frozen 1, ⟨A, c', by rw [e]; simp; omega⟩, h4.bel.grown hg h4.bel.size (fun j hj => (h.row j hj).1)⟩

set_option maxRecDepth 20000 in
set_option maxHeartbeats 2000000 in
theorem rcopy_ok (w : World) (g gs c n m pc : Nat) (pA : Option Addr) (E : Nat → Prop) (D : DS) (hk : Rk w E g gs c (.slice pA m pc) D) (hn : D.S.length = n) (hm : D.P.length = m) (hP : m < 1000000) :
    Calls Try.prog 24 #[.pointer (some ⟨g, 0, none⟩)] w fun e w' => ∃ x, e = .returned (.pointer (some ⟨x, 0, none⟩)) ∧ Ref w' (fun k => w.heap.size ≤ k ∧ k < w'.heap.size) x D ∧ Below w.heap.size w w' := by
  have hok := hk.ok
  have hhi : 16 ≤ n ∧ n ≤ 4096 := by rw [← hn]; exact ⟨hok.lo, hok.hi⟩
  have hcp : ∀ W : World, Below w.heap.size w W → Calls Try.prog 20 #[.slice (some ⟨gs, 0, none⟩) n c] W fun e w' => ∃ gs c, e = .returned (.slice (some ⟨gs, 0, none⟩) n c) ∧ n ≤ c ∧ Secs w' (fun j => W.heap.size ≤ j ∧ j < w'.heap.size ∧ j ≠ gs) gs D.S ∧ W.heap.size ≤ gs ∧ Below W.heap.size W w' :=
    fun W hW => cimg_secs _ n c D.S W hn (by omega) (by omega) (hk.secs.img.below hW)
  have hc : ∀ W : World, Below w.heap.size w W → W.cell? ⟨g, 0, none⟩ = some (.slice (some ⟨gs, 0, none⟩) n c) ∧ W.cell? ⟨g, 2, none⟩ = some (.bool D.dead) ∧ W.cell? ⟨g, 3, none⟩ = some (.int .i64 (D.armed : Int)) ∧ W.cell? ⟨g, 4, none⟩ = some (.int .i64 (D.steps : Int)) := fun W hW => by
    have h := hk.head
    rw [hn] at h
    exact ⟨(hW.cell (p := ⟨g, 0, none⟩) h.lt).trans (h.cell 0), (hW.cell (p := ⟨g, 2, none⟩) h.lt).trans (h.cell 2), (hW.cell (p := ⟨g, 3, none⟩) h.lt).trans (h.cell 3), (hW.cell (p := ⟨g, 4, none⟩) h.lt).trans (h.cell 4)⟩
  have HK := Lib.hid hk
  have HN := Lib.hid hn
  have HM := Lib.hid hm
  have HP := Lib.hid hP
  have HCP := Lib.hid hcp
  have HC := Lib.hid hc
  clear hk hn hm hP hcp hc hhi hok
  go_enter Try.func24, Try.ntmps24
  go_wp2_with fail
  go_region_held3 (fun W => W.cell? ⟨g, 0, none⟩ = some (.slice (some ⟨gs, 0, none⟩) n c) ∧ W.cell? ⟨g, 2, none⟩ = some (.bool D.dead) ∧ W.cell? ⟨g, 3, none⟩ = some (.int .i64 (D.armed : Int)) ∧ W.cell? ⟨g, 4, none⟩ = some (.int .i64 (D.steps : Int)))
    (first | exact HC.out _ (Below.refl _ w).drew | exact HC.out _ hw8 | exact HC.out _ (hw8.alloc hw8.size _))
    (first
      | (go_at_call 20; refine Calls.mono (HCP.out _ (Below.refl _ w).drew) ?_; rintro e w8 ⟨gs8, c8, rfl, hc8, hS8, hl8, hb8⟩; have hw8 : Below w.heap.size w w8 := (Below.refl _ w).drew.trans hb8))
  have HST : Hid (RcS w _ _ gs8 c8 _ D 0) := Lib.hid (RcS.start (w0 := w) (by rw [HN.out]; exact hc8) hS8 hl8 hw8)
  rw [HN.out] at HST
  clear hc8 hS8 hl8 hb8 hw8 HCP HC
  go_wp2_with fail
  go_loopw [4] (fun i wr => ∃ k : Nat, k ≤ m ∧ i = .int .i64 (k : Int) ∧ ∃ pv, Hid (RcS w wr w8.heap.size gs8 c8 pv D k)) (fun i _ => m - (intOf i).toNat)
  case atStart => exact ⟨0, Nat.zero_le _, rfl, _, HST⟩
  case round =>
    obtain ⟨k, hk, rfl, pv, hI⟩ := hrel
    clear HST
    have cg1 : wr.cell? ⟨g, 1, none⟩ = some (.slice pA m pc) := (hI.out.bel.cell (p := ⟨g, 1, none⟩) HK.out.head.lt).trans (HK.out.head.cell 1)
    by_cases hlt : k < m
    · have hd : decide ((k : Int) < (m : Int)) = true := by simpa using hlt
      obtain ⟨⟨s, b⟩, hpk⟩ : ∃ p, D.P[k]? = some p := ⟨_, List.getElem?_eq_getElem (by rw [HM.out]; exact hlt)⟩
      obtain ⟨r, cc, v, er, hr, q1, q2, hsec⟩ := HK.out.pend.at_ hpk
      injection er with er1 er2 er3
      subst er1
      obtain ⟨Av, cv, rfl, hv1, hv2, hby, _⟩ := hsec
      have hb6 : b.length = 256 := (HK.out.ok.pend (s, b) (List.mem_of_getElem? hpk)).2
      simp only [hb6] at q2
      have hrk : k * 2 + 1 < 3000000 := by have := HP.out; omega
      have hc2 : ∀ W : World, Below w.heap.size w W → W.cell? ⟨g, 1, none⟩ = some (.slice (some ⟨r, 0, none⟩) m pc) ∧ W.cell? ⟨r, k * 2, none⟩ = some (.int .i64 (s : Int)) ∧ W.cell? ⟨r, k * 2 + 1, none⟩ = some (.slice Av 256 cv) := fun W hW =>
        ⟨(hW.cell (p := ⟨g, 1, none⟩) HK.out.head.lt).trans (HK.out.head.cell 1), (hW.cell (p := ⟨r, k * 2, none⟩) hr).trans q1, (hW.cell (p := ⟨r, k * 2 + 1, none⟩) hr).trans q2⟩
      have hcp := fun (W : World) (hW : Below w.heap.size w W) => copy_any Av 256 cv b W hb6 (hby.below hW) (by decide)
      have HC2 := Lib.hid hc2
      have HCP := Lib.hid hcp
      have HST : Hid (∀ (w3 : World) (c3 : Nat), Rw w3 wr.heap.size 256 c3 b → Below wr.heap.size wr w3 → _) := Lib.hid fun w3 c3 hR hb => hI.out.step hpk (by rw [HM.out]; exact HP.out) hb6 hR hb
      have HBEL := Lib.hid hI.out.bel
      have hG := hI.out.head.lt
      have c1 := hI.out.head.cell 1
      simp only [List.getElem?_toArray, List.getElem?_cons_zero, List.getElem?_cons_succ] at c1
      clear hpk hr q1 q2 hby hb6 hc2 hcp hv1 hv2 er2 er3 hI
      go_wp2_with fail
      refine wp_region_held_drew (S := (fun W => W.cell? ⟨g, 1, none⟩ = some (.slice (some ⟨r, 0, none⟩) m pc) ∧ W.cell? ⟨r, k * 2, none⟩ = some (.int .i64 (s : Int)) ∧ W.cell? ⟨r, k * 2 + 1, none⟩ = some (.slice Av 256 cv))) (by kernel_rfl) (by (try dsimp only); (first | exact HC2.out _ HBEL.out.drew | exact HC2.out _ hw3 | exact HC2.out _ (hw3.alloc hw3.size _) | exact HC2.out _ hw5 | exact HC2.out _ HI5.out.bel)) (fun hHeld0 => ?_)
      refine takeY 0 (some 33) rfl rfl (by kernel_rfl) (by kernel_rfl) (by kernel_rfl) (fun _ _ _ h => h) (by rfl) (v := _) (by (intro _ hSw; (try dsimp only at hSw); go_simp; try with_reducible rfl)) hHeld0 ?_
      simp only [Act.put, List.setIfInBounds_toArray, List.set_cons_zero, List.set_cons_succ]
      refine takeY 1 (some 34) rfl rfl (by kernel_rfl) (by kernel_rfl) (by kernel_rfl) (fun _ _ _ h => h) (by rfl) (v := _) (by (intro _ hSw; (try dsimp only at hSw); go_simp; try with_reducible rfl)) hHeld0 ?_
      simp only [Act.put, List.setIfInBounds_toArray, List.set_cons_zero, List.set_cons_succ]
      refine takeY 2 (some 35) rfl rfl (by kernel_rfl) (by kernel_rfl) (by kernel_rfl) (fun _ _ _ h => h) (by rfl) (v := _) (by (intro _ hSw; (try dsimp only at hSw); go_simp; try with_reducible rfl)) hHeld0 ?_
      simp only [Act.put, List.setIfInBounds_toArray, List.set_cons_zero, List.set_cons_succ]
      refine takeY 3 (some 36) rfl rfl (by kernel_rfl) (by kernel_rfl) (by kernel_rfl) (fun _ _ _ h => h) (by rfl) (v := _) (by (intro _ hSw; (try dsimp only at hSw); go_simp; try with_reducible rfl)) hHeld0 ?_
      simp only [Act.put, List.setIfInBounds_toArray, List.set_cons_zero, List.set_cons_succ]
      refine takeY 5 (some 38) rfl rfl (by kernel_rfl) (by kernel_rfl) (by kernel_rfl) (fun _ _ _ h => h) (by rfl) (v := _) (by (intro _ hSw; (try dsimp only at hSw); go_simp; try with_reducible rfl)) hHeld0 ?_
      simp only [Act.put, List.setIfInBounds_toArray, List.set_cons_zero, List.set_cons_succ]
      refine takeY 6 (some 39) rfl rfl (by kernel_rfl) (by kernel_rfl) (by kernel_rfl) (fun _ _ _ h => h) (by rfl) (v := _) (by (intro _ hSw; (try dsimp only at hSw); go_simp; try with_reducible rfl)) hHeld0 ?_
      simp only [Act.put, List.setIfInBounds_toArray, List.set_cons_zero, List.set_cons_succ]
      refine takeY 7 (some 40) rfl rfl (by kernel_rfl) (by kernel_rfl) (by kernel_rfl) (fun _ _ _ h => h) (by rfl) (v := _) (by (intro _ hSw; (try dsimp only at hSw); go_simp; try with_reducible rfl)) hHeld0 ?_
      simp only [Act.put, List.setIfInBounds_toArray, List.set_cons_zero, List.set_cons_succ]
      refine takeY 8 (some 41) rfl rfl (by kernel_rfl) (by kernel_rfl) (by kernel_rfl) (fun _ _ _ h => h) (by rfl) (v := _) (by (intro _ hSw; (try dsimp only at hSw); go_simp; try with_reducible rfl)) hHeld0 ?_
      simp only [Act.put, List.setIfInBounds_toArray, List.set_cons_zero, List.set_cons_succ]
      refine takeY 9 (some 42) rfl rfl (by kernel_rfl) (by kernel_rfl) (by kernel_rfl) (fun _ _ _ h => h) (by rfl) (v := _) (by (intro _ hSw; (try dsimp only at hSw); go_simp; try with_reducible rfl)) hHeld0 ?_
      simp only [Act.put, List.setIfInBounds_toArray, List.set_cons_zero, List.set_cons_succ]
      refine takeY 10 (some 43) rfl rfl (by kernel_rfl) (by kernel_rfl) (by kernel_rfl) (fun _ _ _ h => h) (by rfl) (v := _) (by (intro _ hSw; (try dsimp only at hSw); go_simp; try with_reducible rfl)) hHeld0 ?_
      simp only [Act.put, List.setIfInBounds_toArray, List.set_cons_zero, List.set_cons_succ]
      refine takeY 11 (some 44) rfl rfl (by kernel_rfl) (by kernel_rfl) (by kernel_rfl) (fun _ _ _ h => h) (by rfl) (v := _) (by (intro _ hSw; (try dsimp only at hSw); go_simp; try with_reducible rfl)) hHeld0 ?_
      simp only [Act.put, List.setIfInBounds_toArray, List.set_cons_zero, List.set_cons_succ]
      refine takeY 12 (some 45) rfl rfl (by kernel_rfl) (by kernel_rfl) (by kernel_rfl) (fun _ _ _ h => h) (by rfl) (v := _) (by (intro _ hSw; (try dsimp only at hSw); go_simp; try with_reducible rfl)) hHeld0 ?_
      simp only [Act.put, List.setIfInBounds_toArray, List.set_cons_zero, List.set_cons_succ]
      refine takeY 13 (some 46) rfl rfl (by kernel_rfl) (by kernel_rfl) (by kernel_rfl) (fun _ _ _ h => h) (by rfl) (v := _) (by (intro _ hSw; (try dsimp only at hSw); go_simp; try with_reducible rfl)) hHeld0 ?_
      simp only [Act.put, List.setIfInBounds_toArray, List.set_cons_zero, List.set_cons_succ]
      refine takeY 14 (some 47) rfl rfl (by kernel_rfl) (by kernel_rfl) (by kernel_rfl) (fun _ _ _ h => h) (by rfl) (v := _) (by (intro _ hSw; (try dsimp only at hSw); go_simp; try with_reducible rfl)) hHeld0 ?_
      simp only [Act.put, List.setIfInBounds_toArray, List.set_cons_zero, List.set_cons_succ]
      refine takeY 15 (some 48) rfl rfl (by kernel_rfl) (by kernel_rfl) (by kernel_rfl) (fun _ _ _ h => h) (by rfl) (v := _) (by (intro _ hSw; (try dsimp only at hSw); go_simp; try with_reducible rfl)) hHeld0 ?_
      simp only [Act.put, List.setIfInBounds_toArray, List.set_cons_zero, List.set_cons_succ]
      refine takeY 16 (some 49) rfl rfl (by kernel_rfl) (by kernel_rfl) (by kernel_rfl) (fun _ _ _ h => h) (by rfl) (v := _) (by (intro _ hSw; (try dsimp only at hSw); go_simp; try with_reducible rfl)) hHeld0 ?_
      simp only [Act.put, List.setIfInBounds_toArray, List.set_cons_zero, List.set_cons_succ]
      refine takeY 17 (some 50) rfl rfl (by kernel_rfl) (by kernel_rfl) (by kernel_rfl) (fun _ _ _ h => h) (by rfl) (v := _) (by (intro _ hSw; (try dsimp only at hSw); go_simp; try with_reducible rfl)) hHeld0 ?_
      simp only [Act.put, List.setIfInBounds_toArray, List.set_cons_zero, List.set_cons_succ]
      refine takeY 18 (some 51) rfl rfl (by kernel_rfl) (by kernel_rfl) (by kernel_rfl) (fun _ _ _ h => h) (by rfl) (v := _) (by (intro _ hSw; (try dsimp only at hSw); go_simp; try with_reducible rfl)) hHeld0 ?_
      simp only [Act.put, List.setIfInBounds_toArray, List.set_cons_zero, List.set_cons_succ]
      refine takeY 19 (some 52) rfl rfl (by kernel_rfl) (by kernel_rfl) (by kernel_rfl) (fun _ _ _ h => h) (by rfl) (v := _) (by (intro _ hSw; (try dsimp only at hSw); go_simp; try with_reducible rfl)) hHeld0 ?_
      simp only [Act.put, List.setIfInBounds_toArray, List.set_cons_zero, List.set_cons_succ]
      refine takeY 20 (some 53) rfl rfl (by kernel_rfl) (by kernel_rfl) (by kernel_rfl) (fun _ _ _ h => h) (by rfl) (v := _) (by (intro _ hSw; (try dsimp only at hSw); go_simp; try with_reducible rfl)) hHeld0 ?_
      simp only [Act.put, List.setIfInBounds_toArray, List.set_cons_zero, List.set_cons_succ]
      refine wpAnyH_ready (rs := [4, 21]) (by kernel_rfl) (by simp) ?_
      refine AllReadyH.cons rfl (fun K hK => ?_) ?_
      · go_simp
        refine hK.out _ _ (by (try dsimp only); (first | exact HC2.out _ HBEL.out.drew | exact HC2.out _ hw3 | exact HC2.out _ (hw3.alloc hw3.size _) | exact HC2.out _ hw5 | exact HC2.out _ HI5.out.bel)) (fun hHeld1 => ?_)
        clear hK K hHeld0
        (try simp only [Act.put, List.setIfInBounds_toArray, List.set_cons_zero, List.set_cons_succ])
        refine wpAnyH_ready (rs := [21]) (by kernel_rfl) (by simp) ?_
        refine AllReadyH.cons rfl (fun K hK => ?_) AllReadyH.nil
        go_simp
        go_wp2_with (first | (go_at_call 35; refine Calls.mono (HCP.out _ HBEL.out.drew) ?_; rintro e w3 ⟨c3, rfl, hR3, hb3⟩; obtain ⟨v5, w5, hrun, hI5, hc5, hf5, ⟨A5, c5, rfl⟩, hw5⟩ := HST.out w3 c3 hR3 ((Below.refl _ wr).drew.trans hb3); have HRUN := Lib.hid hrun; have HI5 := Lib.hid hI5; have hw3 : Below w.heap.size w w3 := HBEL.out.drew.trans (hb3.mono HBEL.out.size); have k1 : w3.cell? ⟨w8.heap.size, 1, none⟩ = some pv := (hb3.cell (p := ⟨w8.heap.size, 1, none⟩) hG).trans c1; have k2 := Lib.cell?_alloc_some (.cells #[.int .i64 (s : Int), .slice (some ⟨wr.heap.size, 0, none⟩) 256 c3] 78) k1; clear hrun hI5 hR3 hb3) | (refine step_app rfl (.tmp 37) (.tmp 56) 44 rfl _ _ _ _ (by simp [Act.eval]) (by simp [Act.eval]) HRUN.out ?_))
        refine hK.out _ _ (by (try dsimp only); (first | exact HC2.out _ HBEL.out.drew | exact HC2.out _ hw3 | exact HC2.out _ (hw3.alloc hw3.size _) | exact HC2.out _ hw5 | exact HC2.out _ HI5.out.bel)) (fun hHeld2 => ?_)
        clear hK K hHeld1
        (try simp only [Act.put, List.setIfInBounds_toArray, List.set_cons_zero, List.set_cons_succ])
        refine takeY 22 (some 55) rfl rfl (by kernel_rfl) (by kernel_rfl) (by kernel_rfl) (fun _ _ _ h => h) (by rfl) (v := _) (by (intro _ hSw; (try dsimp only at hSw); go_simp; try with_reducible rfl)) hHeld2 ?_
        simp only [Act.put, List.setIfInBounds_toArray, List.set_cons_zero, List.set_cons_succ]
        refine wpAnyH_ready (rs := [23]) (by kernel_rfl) (by simp) ?_
        refine AllReadyH.cons rfl (fun K hK => ?_) AllReadyH.nil
        go_simp
        refine hK.out _ _ (by (try dsimp only); (first | exact HC2.out _ HBEL.out.drew | exact HC2.out _ hw3 | exact HC2.out _ (hw3.alloc hw3.size _) | exact HC2.out _ hw5 | exact HC2.out _ HI5.out.bel)) (fun hHeld3 => ?_)
        clear hK K hHeld2
        (try simp only [Act.put, List.setIfInBounds_toArray, List.set_cons_zero, List.set_cons_succ])
        refine wpAnyH_ready (rs := [24]) (by kernel_rfl) (by simp) ?_
        refine AllReadyH.cons rfl (fun K hK => ?_) AllReadyH.nil
        (first | (go_at_call 35; refine Calls.mono (HCP.out _ HBEL.out.drew) ?_; rintro e w3 ⟨c3, rfl, hR3, hb3⟩; obtain ⟨v5, w5, hrun, hI5, hc5, hf5, ⟨A5, c5, rfl⟩, hw5⟩ := HST.out w3 c3 hR3 ((Below.refl _ wr).drew.trans hb3); have HRUN := Lib.hid hrun; have HI5 := Lib.hid hI5; have hw3 : Below w.heap.size w w3 := HBEL.out.drew.trans (hb3.mono HBEL.out.size); have k1 : w3.cell? ⟨w8.heap.size, 1, none⟩ = some pv := (hb3.cell (p := ⟨w8.heap.size, 1, none⟩) hG).trans c1; have k2 := Lib.cell?_alloc_some (.cells #[.int .i64 (s : Int), .slice (some ⟨wr.heap.size, 0, none⟩) 256 c3] 78) k1; clear hrun hI5 hR3 hb3) | (refine step_app rfl (.tmp 37) (.tmp 56) 44 rfl _ _ _ _ (by simp [Act.eval]) (by simp [Act.eval]) HRUN.out ?_))
        refine hK.out _ _ (by (try dsimp only); (first | exact HC2.out _ HBEL.out.drew | exact HC2.out _ hw3 | exact HC2.out _ (hw3.alloc hw3.size _) | exact HC2.out _ hw5 | exact HC2.out _ HI5.out.bel)) (fun hHeld4 => ?_)
        clear hK K hHeld3
        (try simp only [Act.put, List.setIfInBounds_toArray, List.set_cons_zero, List.set_cons_succ])
        refine takeY 25 (some 58) rfl rfl (by kernel_rfl) (by kernel_rfl) (by kernel_rfl) (fun _ _ _ h => h) (by rfl) (v := _) (by (intro _ hSw; (try dsimp only at hSw); go_simp; try with_reducible rfl)) hHeld4 ?_
        simp only [Act.put, List.setIfInBounds_toArray, List.set_cons_zero, List.set_cons_succ]
        refine takeY 26 (some 59) rfl rfl (by kernel_rfl) (by kernel_rfl) (by kernel_rfl) (fun _ _ _ h => h) (by rfl) (v := _) (by (intro _ hSw; (try dsimp only at hSw); go_simp; try with_reducible rfl)) hHeld4 ?_
        simp only [Act.put, List.setIfInBounds_toArray, List.set_cons_zero, List.set_cons_succ]
        refine wpAnyH_ready (rs := [27]) (by kernel_rfl) (by simp) ?_
        refine AllReadyH.cons rfl (fun K hK => ?_) AllReadyH.nil
        go_simp
        refine hK.out _ _ (by (try dsimp only); (first | exact HC2.out _ HBEL.out.drew | exact HC2.out _ hw3 | exact HC2.out _ (hw3.alloc hw3.size _) | exact HC2.out _ hw5 | exact HC2.out _ HI5.out.bel)) (fun hHeld5 => ?_)
        clear hK K hHeld4
        (try simp only [Act.put, List.setIfInBounds_toArray, List.set_cons_zero, List.set_cons_succ])
        refine wpAnyH_done (by kernel_rfl) ?_ _
        go_wp2_with fail
        go_roundw
        case rel => exact ⟨k + 1, by omega, by go_num, _, HI5⟩
        case measure => simp [intOf]; omega
      refine AllReadyH.cons rfl (fun K hK => ?_) AllReadyH.nil
      go_simp
      go_wp2_with (first | (go_at_call 35; refine Calls.mono (HCP.out _ HBEL.out.drew) ?_; rintro e w3 ⟨c3, rfl, hR3, hb3⟩; obtain ⟨v5, w5, hrun, hI5, hc5, hf5, ⟨A5, c5, rfl⟩, hw5⟩ := HST.out w3 c3 hR3 ((Below.refl _ wr).drew.trans hb3); have HRUN := Lib.hid hrun; have HI5 := Lib.hid hI5; have hw3 : Below w.heap.size w w3 := HBEL.out.drew.trans (hb3.mono HBEL.out.size); have k1 : w3.cell? ⟨w8.heap.size, 1, none⟩ = some pv := (hb3.cell (p := ⟨w8.heap.size, 1, none⟩) hG).trans c1; have k2 := Lib.cell?_alloc_some (.cells #[.int .i64 (s : Int), .slice (some ⟨wr.heap.size, 0, none⟩) 256 c3] 78) k1; clear hrun hI5 hR3 hb3) | (refine step_app rfl (.tmp 37) (.tmp 56) 44 rfl _ _ _ _ (by simp [Act.eval]) (by simp [Act.eval]) HRUN.out ?_))
      refine hK.out _ _ (by (try dsimp only); (first | exact HC2.out _ HBEL.out.drew | exact HC2.out _ hw3 | exact HC2.out _ (hw3.alloc hw3.size _) | exact HC2.out _ hw5 | exact HC2.out _ HI5.out.bel)) (fun hHeld6 => ?_)
      clear hK K hHeld0
      (try simp only [Act.put, List.setIfInBounds_toArray, List.set_cons_zero, List.set_cons_succ])
      refine takeY 22 (some 55) rfl rfl (by kernel_rfl) (by kernel_rfl) (by kernel_rfl) (fun _ _ _ h => h) (by rfl) (v := _) (by (intro _ hSw; (try dsimp only at hSw); go_simp; try with_reducible rfl)) hHeld6 ?_
      simp only [Act.put, List.setIfInBounds_toArray, List.set_cons_zero, List.set_cons_succ]
      refine wpAnyH_ready (rs := [4, 23]) (by kernel_rfl) (by simp) ?_
      refine AllReadyH.cons rfl (fun K hK => ?_) ?_
      · go_simp
        refine hK.out _ _ (by (try dsimp only); (first | exact HC2.out _ HBEL.out.drew | exact HC2.out _ hw3 | exact HC2.out _ (hw3.alloc hw3.size _) | exact HC2.out _ hw5 | exact HC2.out _ HI5.out.bel)) (fun hHeld7 => ?_)
        clear hK K hHeld6
        (try simp only [Act.put, List.setIfInBounds_toArray, List.set_cons_zero, List.set_cons_succ])
        refine wpAnyH_ready (rs := [23]) (by kernel_rfl) (by simp) ?_
        refine AllReadyH.cons rfl (fun K hK => ?_) AllReadyH.nil
        go_simp
        refine hK.out _ _ (by (try dsimp only); (first | exact HC2.out _ HBEL.out.drew | exact HC2.out _ hw3 | exact HC2.out _ (hw3.alloc hw3.size _) | exact HC2.out _ hw5 | exact HC2.out _ HI5.out.bel)) (fun hHeld8 => ?_)
        clear hK K hHeld7
        (try simp only [Act.put, List.setIfInBounds_toArray, List.set_cons_zero, List.set_cons_succ])
        refine wpAnyH_ready (rs := [24]) (by kernel_rfl) (by simp) ?_
        refine AllReadyH.cons rfl (fun K hK => ?_) AllReadyH.nil
        (first | (go_at_call 35; refine Calls.mono (HCP.out _ HBEL.out.drew) ?_; rintro e w3 ⟨c3, rfl, hR3, hb3⟩; obtain ⟨v5, w5, hrun, hI5, hc5, hf5, ⟨A5, c5, rfl⟩, hw5⟩ := HST.out w3 c3 hR3 ((Below.refl _ wr).drew.trans hb3); have HRUN := Lib.hid hrun; have HI5 := Lib.hid hI5; have hw3 : Below w.heap.size w w3 := HBEL.out.drew.trans (hb3.mono HBEL.out.size); have k1 : w3.cell? ⟨w8.heap.size, 1, none⟩ = some pv := (hb3.cell (p := ⟨w8.heap.size, 1, none⟩) hG).trans c1; have k2 := Lib.cell?_alloc_some (.cells #[.int .i64 (s : Int), .slice (some ⟨wr.heap.size, 0, none⟩) 256 c3] 78) k1; clear hrun hI5 hR3 hb3) | (refine step_app rfl (.tmp 37) (.tmp 56) 44 rfl _ _ _ _ (by simp [Act.eval]) (by simp [Act.eval]) HRUN.out ?_))
        refine hK.out _ _ (by (try dsimp only); (first | exact HC2.out _ HBEL.out.drew | exact HC2.out _ hw3 | exact HC2.out _ (hw3.alloc hw3.size _) | exact HC2.out _ hw5 | exact HC2.out _ HI5.out.bel)) (fun hHeld9 => ?_)
        clear hK K hHeld8
        (try simp only [Act.put, List.setIfInBounds_toArray, List.set_cons_zero, List.set_cons_succ])
        refine takeY 25 (some 58) rfl rfl (by kernel_rfl) (by kernel_rfl) (by kernel_rfl) (fun _ _ _ h => h) (by rfl) (v := _) (by (intro _ hSw; (try dsimp only at hSw); go_simp; try with_reducible rfl)) hHeld9 ?_
        simp only [Act.put, List.setIfInBounds_toArray, List.set_cons_zero, List.set_cons_succ]
        refine takeY 26 (some 59) rfl rfl (by kernel_rfl) (by kernel_rfl) (by kernel_rfl) (fun _ _ _ h => h) (by rfl) (v := _) (by (intro _ hSw; (try dsimp only at hSw); go_simp; try with_reducible rfl)) hHeld9 ?_
        simp only [Act.put, List.setIfInBounds_toArray, List.set_cons_zero, List.set_cons_succ]
        refine wpAnyH_ready (rs := [27]) (by kernel_rfl) (by simp) ?_
        refine AllReadyH.cons rfl (fun K hK => ?_) AllReadyH.nil
        go_simp
        refine hK.out _ _ (by (try dsimp only); (first | exact HC2.out _ HBEL.out.drew | exact HC2.out _ hw3 | exact HC2.out _ (hw3.alloc hw3.size _) | exact HC2.out _ hw5 | exact HC2.out _ HI5.out.bel)) (fun hHeld10 => ?_)
        clear hK K hHeld9
        (try simp only [Act.put, List.setIfInBounds_toArray, List.set_cons_zero, List.set_cons_succ])
        refine wpAnyH_done (by kernel_rfl) ?_ _
        go_wp2_with fail
        go_roundw
        case rel => exact ⟨k + 1, by omega, by go_num, _, HI5⟩
        case measure => simp [intOf]; omega
      refine AllReadyH.cons rfl (fun K hK => ?_) AllReadyH.nil
      go_simp
      refine hK.out _ _ (by (try dsimp only); (first | exact HC2.out _ HBEL.out.drew | exact HC2.out _ hw3 | exact HC2.out _ (hw3.alloc hw3.size _) | exact HC2.out _ hw5 | exact HC2.out _ HI5.out.bel)) (fun hHeld11 => ?_)
      clear hK K hHeld6
      (try simp only [Act.put, List.setIfInBounds_toArray, List.set_cons_zero, List.set_cons_succ])
      refine wpAnyH_ready (rs := [4]) (by kernel_rfl) (by simp) ?_
      refine AllReadyH.cons rfl (fun K hK => ?_) AllReadyH.nil
      go_simp
      refine hK.out _ _ (by (try dsimp only); (first | exact HC2.out _ HBEL.out.drew | exact HC2.out _ hw3 | exact HC2.out _ (hw3.alloc hw3.size _) | exact HC2.out _ hw5 | exact HC2.out _ HI5.out.bel)) (fun hHeld12 => ?_)
      clear hK K hHeld11
      (try simp only [Act.put, List.setIfInBounds_toArray, List.set_cons_zero, List.set_cons_succ])
      refine wpAnyH_ready (rs := [24]) (by kernel_rfl) (by simp) ?_
      refine AllReadyH.cons rfl (fun K hK => ?_) AllReadyH.nil
      (first | (go_at_call 35; refine Calls.mono (HCP.out _ HBEL.out.drew) ?_; rintro e w3 ⟨c3, rfl, hR3, hb3⟩; obtain ⟨v5, w5, hrun, hI5, hc5, hf5, ⟨A5, c5, rfl⟩, hw5⟩ := HST.out w3 c3 hR3 ((Below.refl _ wr).drew.trans hb3); have HRUN := Lib.hid hrun; have HI5 := Lib.hid hI5; have hw3 : Below w.heap.size w w3 := HBEL.out.drew.trans (hb3.mono HBEL.out.size); have k1 : w3.cell? ⟨w8.heap.size, 1, none⟩ = some pv := (hb3.cell (p := ⟨w8.heap.size, 1, none⟩) hG).trans c1; have k2 := Lib.cell?_alloc_some (.cells #[.int .i64 (s : Int), .slice (some ⟨wr.heap.size, 0, none⟩) 256 c3] 78) k1; clear hrun hI5 hR3 hb3) | (refine step_app rfl (.tmp 37) (.tmp 56) 44 rfl _ _ _ _ (by simp [Act.eval]) (by simp [Act.eval]) HRUN.out ?_))
      refine hK.out _ _ (by (try dsimp only); (first | exact HC2.out _ HBEL.out.drew | exact HC2.out _ hw3 | exact HC2.out _ (hw3.alloc hw3.size _) | exact HC2.out _ hw5 | exact HC2.out _ HI5.out.bel)) (fun hHeld13 => ?_)
      clear hK K hHeld12
      (try simp only [Act.put, List.setIfInBounds_toArray, List.set_cons_zero, List.set_cons_succ])
      refine takeY 25 (some 58) rfl rfl (by kernel_rfl) (by kernel_rfl) (by kernel_rfl) (fun _ _ _ h => h) (by rfl) (v := _) (by (intro _ hSw; (try dsimp only at hSw); go_simp; try with_reducible rfl)) hHeld13 ?_
      simp only [Act.put, List.setIfInBounds_toArray, List.set_cons_zero, List.set_cons_succ]
      refine takeY 26 (some 59) rfl rfl (by kernel_rfl) (by kernel_rfl) (by kernel_rfl) (fun _ _ _ h => h) (by rfl) (v := _) (by (intro _ hSw; (try dsimp only at hSw); go_simp; try with_reducible rfl)) hHeld13 ?_
      simp only [Act.put, List.setIfInBounds_toArray, List.set_cons_zero, List.set_cons_succ]
      refine wpAnyH_ready (rs := [27]) (by kernel_rfl) (by simp) ?_
      refine AllReadyH.cons rfl (fun K hK => ?_) AllReadyH.nil
      go_simp
      refine hK.out _ _ (by (try dsimp only); (first | exact HC2.out _ HBEL.out.drew | exact HC2.out _ hw3 | exact HC2.out _ (hw3.alloc hw3.size _) | exact HC2.out _ hw5 | exact HC2.out _ HI5.out.bel)) (fun hHeld14 => ?_)
      clear hK K hHeld13
      (try simp only [Act.put, List.setIfInBounds_toArray, List.set_cons_zero, List.set_cons_succ])
      refine wpAnyH_done (by kernel_rfl) ?_ _
      go_wp2_with fail
      go_roundw
      case rel => exact ⟨k + 1, by omega, by go_num, _, HI5⟩
      case measure => simp [intOf]; omega
    · obtain rfl : m = k := by omega
      have hd : decide ((m : Int) < (m : Int)) = false := by simp
      have HCPX := hI
      rw [← HM.out] at HCPX
      have HD := Lib.hid (HCPX.out.ref HK.out.ok)
      have HB := Lib.hid hI.out.bel
      clear HCPX
      go_wp2_with fail
      go_ret
      exact ⟨_, rfl, HD.out, HB.out⟩

end Go.Proofs.Ytdohfkblmadejaa
