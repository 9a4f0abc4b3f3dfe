/- The reference's Load. -/
import Derived.Test.YtdohfkblmadejaaIb
namespace Go.Proofs.Ytdohfkblmadejaa
open Go.RowKit Dsk

/-- Between the rounds of the reference's Load. -/
structure RLd (w wr : World) (rows : List (List UInt8)) (sv : Value) : Prop where
  own : SecsO wr (fun j => w.heap.size < j ∧ j < wr.heap.size ∧ sv.ownBlock ≠ some j) sv rows
  head : Blk wr w.heap.size 46 #[sv, .slice none 0 0, .bool false, .int .i64 0, .int .i64 0]
  lo : ∀ j, sv.ownBlock = some j → w.heap.size < j
  bel : Below w.heap.size w wr
theorem RLd.nil (w : World) : RLd w (w.alloc (.cells #[.slice none 0 0, .slice none 0 0, .bool false, .int .i64 0, .int .i64 0] 46)) [] (.slice none 0 0) :=
  ⟨SecsO.nil _ _, Blk.new _ _ _, fun j hj => (by cases hj), (Below.refl _ _).alloc (Nat.le_refl _) _⟩
theorem RLd.step {w wr w3 : World} {rows : List (List UInt8)} {sv v : Value} {bs : List UInt8} (h : RLd w wr rows sv) (hl : rows.length < 1000000) (hS : Sec w3 (fun j => wr.heap.size ≤ j ∧ j < w3.heap.size) v bs) (hb : Below wr.heap.size wr w3) :
    ∃ v' w5, (Builtin.append_ #[42, 42] 42 #[sv, .slice (some ⟨w3.heap.size, 0, none⟩) 1 1]).run Try.prog (w3.alloc (.cells #[v] 32)) = .ok v' w5 ∧ RLd w (w5.setCell ⟨w.heap.size, 0, none⟩ v') (rows ++ [bs]) v' ∧
      w5.cell? ⟨w.heap.size, 0, none⟩ = some sv ∧ w5.frozen? ⟨w.heap.size, 0, none⟩ = false ∧ ∃ A c, v' = .slice A (rows.length + 1) c := by
  have h2 := h.bel.size
  have h3 := hb.size
  have hg0 := h.head.lt
  have hol := h.own.lt
  have hb4 : Below wr.heap.size wr (w3.alloc (.cells #[v] 32)) := hb.alloc h3 _
  have hz4 : (w3.alloc (.cells #[v] 32)).heap.size = w3.heap.size + 1 := World.size_alloc _ _
  have hO : SecsO (w3.alloc (.cells #[v] 32)) (fun j => w.heap.size < j ∧ j < w3.heap.size ∧ sv.ownBlock ≠ some j) sv rows :=
    (h.own.same hb4.size (fun j _ hj => hb4.block j hj) (fun j hj => hb4.block j (hol j hj))).mono fun j hj => ⟨hj.1, by omega, hj.2.2⟩
  have hc := (Blk.new w3 32 #[v]).cell 0
  have hS4 : Sec (w3.alloc (.cells #[v] 32)) (fun j => w.heap.size < j ∧ j < w3.heap.size ∧ sv.ownBlock ≠ some j) v bs :=
    (hS.same (w' := (w3.alloc (.cells #[v] 32))) (by rw [hz4]; omega) (fun j hj hlt => Below.heap_alloc _ _ _ hlt)).mono fun j hj => ⟨by omega, hj.2, fun e => by have := hol _ e; omega⟩
  obtain ⟨v', w5, hrun, hp, hg, ho⟩ := hO.push bs _ hS4 w3.heap.size hc (fun j hj e => e.2.2 hj) hl
  have hgs := hg.size
  rw [hz4] at hgs ho
  have hH : Blk w5 w.heap.size _ _ := (h.head.below hb4 hg0).grown hg (fun e => by have := h.lo _ e.symm; omega)
  have hlo : ∀ j, v'.ownBlock = some j → w.heap.size < j := fun j hj => by
    rcases ho with ho | ho
    · exact h.lo j (ho ▸ hj)
    · rw [ho] at hj; injection hj with hj; omega
  obtain ⟨A, c, e, _, _⟩ := hp.shape
  refine ⟨v', w5, hrun, ⟨?_, ?_, hlo, ?_⟩, hH.cell 0, hH.frozen 0, A, c, by rw [e]; simp⟩
  · refine (hp.same (by simp [World.setCell]) (fun j hj _ => Below.heap_setCell _ _ _ _ (by show j ≠ w.heap.size; omega)) (fun j hj => Below.heap_setCell _ _ _ _ (by have := hlo j hj; show j ≠ w.heap.size; omega))).mono fun j hj => ⟨hj.1, by simp [World.setCell]; omega, fun e => ?_⟩
    rcases ho with ho | ho
    · exact hj.2.2 (ho ▸ e)
    · rw [ho] at e; injection e with e; omega
  · have h6 := hH.set_ 0 v'
    simp only [List.setIfInBounds_toArray, List.set_cons_zero] at h6
    exact h6
  · exact ((h.bel.trans (hb4.mono h2)).grown hg (by rw [hz4]; omega) (fun j hj => by have := h.lo j hj; omega)).setCell (p := ⟨w.heap.size, 0, none⟩) (Nat.le_refl _) _
theorem RLd.ref {w wr : World} {rows : List (List UInt8)} {sv : Value} (h : RLd w wr rows sv) (hok : (loadD rows).Ok) : Ref wr (fun k => w.heap.size ≤ k ∧ k < wr.heap.size) w.heap.size (loadD rows) := by
  obtain ⟨gs, c, rfl, hc1, hc2, hS⟩ := h.own.secs (by have := hok.lo; exact Nat.lt_of_lt_of_le (by decide) this)
  have hlt := hS.lt
  have hgs := h.lo gs rfl
  exact ⟨fun j => w.heap.size < j ∧ j < wr.heap.size ∧ gs ≠ j, gs, c, .slice none 0 0,
    ⟨hok, hc1, h.head, hS.mono (fun j hj => ⟨hj.1, hj.2.1, fun e => hj.2.2 (by rw [← e]; rfl)⟩), Pend.nil _ _ _, by omega, by omega, (fun j hj => by cases hj), by omega⟩,
    (fun j hj => ⟨by omega, hj.2.1⟩), (fun j hj => by
      rcases hj with rfl | rfl | hj
      · exact ⟨Nat.le_refl _, h.head.lt⟩
      · exact ⟨by omega, hlt⟩
      · cases hj), fun j hj => hj.2⟩

theorem rload_far (A : Option Addr) (n cap : Nat) (w : World) (hn : n < 16 ∨ 4096 < n) :
    Calls Try.prog 22 #[.slice A n cap] w fun e w' => e = .returned (.tuple #[.pointer none, .int .i64 1]) ∧ w = w' := by
  by_cases h1 : n < 16
  · have d1 : decide ((n : Int) < 16) = true := by simp; omega
    go_enter Try.func22, Try.ntmps22
    go_wp2_with fail
    go_ret2
    exact ⟨rfl, rfl⟩
  · have d1 : decide ((n : Int) < 16) = false := by simp; omega
    have d2 : decide ((4096 : Int) < (n : Int)) = true := by simp; omega
    go_enter Try.func22, Try.ntmps22
    go_wp2_with fail
    go_ret2
    exact ⟨rfl, rfl⟩

set_option maxRecDepth 20000 in
set_option maxHeartbeats 2000000 in
theorem rload_yes (A : Option Addr) (n cap : Nat) (rows : List (List UInt8)) (w : World) (hlen : rows.length = n) (hn : 16 ≤ n ∧ n ≤ 4096) (hA : Img w A rows) (hf : fitB rows = true) :
    Calls Try.prog 22 #[.slice A n cap] w fun e w' => ∃ g, e = .returned (.tuple #[.pointer (some ⟨g, 0, none⟩), .int .i64 0]) ∧ Ref w' (fun k => w.heap.size ≤ k ∧ k < w'.heap.size) g (loadD rows) ∧ Below w.heap.size w w' := by
  have HOK := Lib.hid (fit_ok hf (by omega) (by omega))
  have hall : ∀ b ∈ rows, b.length = 0 ∨ b.length = 256 := fun b hb => by
    have := List.all_eq_true.1 hf b hb
    simpa using this
  have HALL := Lib.hid hall
  have HL := Lib.hid hlen
  have HA := Lib.hid hA
  have hn4 : n ≤ 4096 := hn.2
  have d1 : decide ((n : Int) < 16) = false := by simp; omega
  have d2 : decide ((4096 : Int) < (n : Int)) = false := by simp; omega
  have HST : Hid (RLd w _ (rows.take 0) (.slice none 0 0)) := Lib.hid (RLd.nil w)
  clear hn hlen hA hf hall
  go_enter Try.func22, Try.ntmps22
  go_wp2_with fail
  clear d1 d2
  go_loopw [5] (fun i wr => ∃ k : Nat, k ≤ n ∧ i = .int .i64 (k : Int) ∧ ∃ sv, Hid (RLd w wr (rows.take k) sv)) (fun i _ => n - (intOf i).toNat)
  case atStart => exact ⟨0, Nat.zero_le _, rfl, _, HST⟩
  case round =>
    obtain ⟨k, hk, rfl, sv, hI⟩ := hrel
    clear HST
    by_cases hlt : k < n
    · have hd : decide ((k : Int) < (n : Int)) = true := by simpa using hlt
      obtain ⟨bs, hbs⟩ : ∃ bs, rows[k]? = some bs := ⟨_, List.getElem?_eq_getElem (by rw [HL.out]; exact hlt)⟩
      obtain ⟨b, off, v, rfl, hblt, hc, A2, c2, rfl, hl2, hm2, hby, _⟩ := HA.out k bs hbs
      have hz := HALL.out bs (List.mem_of_getElem? hbs)
      obtain ⟨L, hL⟩ : ∃ L, bs.length = L := ⟨_, rfl⟩
      rw [hL] at hc hz
      have hc0 := (hI.out.bel.cell (p := ⟨b, off + k, none⟩) hblt).trans hc
      have hcp := fun (W : World) (hW : Below w.heap.size w W) => copy_any A2 L c2 bs W hL (hby.below hW) (by omega)
      have HCP := Lib.hid hcp
      have hstep : ∀ (w3 : World) (c3 : Nat), Rw w3 wr.heap.size L c3 bs → Below wr.heap.size wr w3 → ∃ v' w5, (Builtin.append_ #[42, 42] 42 #[sv, .slice (some ⟨w3.heap.size, 0, none⟩) 1 1]).run Try.prog (w3.alloc (.cells #[.slice (some ⟨wr.heap.size, 0, none⟩) L c3] 32)) = .ok v' w5 ∧ RLd w (w5.setCell ⟨w.heap.size, 0, none⟩ v') (rows.take (k + 1)) v' ∧
          w5.cell? ⟨w.heap.size, 0, none⟩ = some sv ∧ w5.frozen? ⟨w.heap.size, 0, none⟩ = false ∧ ∃ A c, v' = .slice A (k + 1) c := fun w3 c3 hR hb => by
        have hS3 : Sec w3 (fun j => wr.heap.size ≤ j ∧ j < w3.heap.size) (.slice (some ⟨wr.heap.size, 0, none⟩) L c3) bs :=
          ⟨some ⟨wr.heap.size, 0, none⟩, c3, by rw [hR.long], by rw [hR.long]; exact hR.le, hR.max, hR.bytes, fun p e => by cases e; exact ⟨Nat.le_refl _, hR.lt⟩⟩
        have h := hI.out.step (by rw [List.length_take]; omega) hS3 hb
        have hsnoc : rows.take k ++ [bs] = rows.take (k + 1) := by
          obtain ⟨hk', e⟩ := List.getElem?_eq_some_iff.1 hbs
          rw [List.take_succ_eq_append_getElem hk', e]
        rw [hsnoc] at h
        rw [show (rows.take k).length = k by rw [List.length_take, HL.out]; omega] at h
        exact h
      have HSTEP := Lib.hid hstep
      have HC := Lib.hid (And.intro (hI.out.head.cell 0) (And.intro hc hblt))
      have HBEL := Lib.hid hI.out.bel
      have hc1 := hI.out.head.cell 0
      simp only [List.getElem?_toArray, List.getElem?_cons_zero] at hc1
      have HHD := Lib.hid hI.out.head
      clear hstep hcp hL hby hbs hl2 hm2 hblt hc hI
      have hz2 : ((L : Int) != 0) = false ∨ (((L : Int) != 0) = true ∧ ((L : Int) != 256) = false) := by
        rcases hz with e | e
        · exact .inl (by simp; omega)
        · exact .inr ⟨by simp; omega, by simp; omega⟩
      clear hz
      rcases hz2 with d0 | ⟨d0, d6⟩
      all_goals
        go_wp2_with fail
        refine wp_region_held_drew (S := (fun _ => True)) (by kernel_rfl) (by first | exact trivial | (try dsimp only; trivial)) (fun hHeld0 => ?_)
        refine takeY 0 (some 36) rfl rfl (by kernel_rfl) (by kernel_rfl) (by kernel_rfl) (fun _ _ _ h => h) (by rfl) (v := _) (by (intro _ hSw; (try dsimp only at hSw); go_simp; try with_reducible rfl)) hHeld0 ?_
        simp only [Act.put, List.setIfInBounds_toArray, List.set_cons_zero, List.set_cons_succ]
        refine takeY 1 (some 37) rfl rfl (by kernel_rfl) (by kernel_rfl) (by kernel_rfl) (fun _ _ _ h => h) (by rfl) (v := _) (by (intro _ hSw; (try dsimp only at hSw); go_simp; try with_reducible rfl)) hHeld0 ?_
        simp only [Act.put, List.setIfInBounds_toArray, List.set_cons_zero, List.set_cons_succ]
        refine takeY 2 (some 38) rfl rfl (by kernel_rfl) (by kernel_rfl) (by kernel_rfl) (fun _ _ _ h => h) (by rfl) (v := _) (by (intro _ hSw; (try dsimp only at hSw); go_simp; try with_reducible rfl)) hHeld0 ?_
        simp only [Act.put, List.setIfInBounds_toArray, List.set_cons_zero, List.set_cons_succ]
        refine takeY 3 (some 39) rfl rfl (by kernel_rfl) (by kernel_rfl) (by kernel_rfl) (fun _ _ _ h => h) (by rfl) (v := _) (by (intro _ hSw; (try dsimp only at hSw); go_simp; try with_reducible rfl)) hHeld0 ?_
        simp only [Act.put, List.setIfInBounds_toArray, List.set_cons_zero, List.set_cons_succ]
        refine takeY 5 (some 41) rfl rfl (by kernel_rfl) (by kernel_rfl) (by kernel_rfl) (fun _ _ _ h => h) (by rfl) (v := _) (by (intro _ hSw; (try dsimp only at hSw); go_simp; try with_reducible rfl)) hHeld0 ?_
        simp only [Act.put, List.setIfInBounds_toArray, List.set_cons_zero, List.set_cons_succ]
        refine takeY 6 (some 42) rfl rfl (by kernel_rfl) (by kernel_rfl) (by kernel_rfl) (fun _ _ _ h => h) (by rfl) (v := _) (by (intro _ hSw; (try dsimp only at hSw); go_simp; try with_reducible rfl)) hHeld0 ?_
        simp only [Act.put, List.setIfInBounds_toArray, List.set_cons_zero, List.set_cons_succ]
        refine takeY 7 (some 43) rfl rfl (by kernel_rfl) (by kernel_rfl) (by kernel_rfl) (fun _ _ _ h => h) (by rfl) (v := _) (by (intro _ hSw; (try dsimp only at hSw); go_simp; try with_reducible rfl)) hHeld0 ?_
        simp only [Act.put, List.setIfInBounds_toArray, List.set_cons_zero, List.set_cons_succ]
        refine wpAnyH_ready (rs := [4, 8]) (by kernel_rfl) (by simp) ?_
        refine AllReadyH.cons rfl (fun K hK => ?_) ?_
        · go_simp
          refine hK.out _ _ (by first | exact trivial | (try dsimp only; trivial)) (fun hHeld1 => ?_)
          clear hK K hHeld0
          (try simp only [Act.put, List.setIfInBounds_toArray, List.set_cons_zero, List.set_cons_succ])
          refine wpAnyH_ready (rs := [8]) (by kernel_rfl) (by simp) ?_
          refine AllReadyH.cons rfl (fun K hK => ?_) AllReadyH.nil
          go_simp
          refine hK.out _ _ (by first | exact trivial | (try dsimp only; trivial)) (fun hHeld2 => ?_)
          clear hK K hHeld1
          (try simp only [Act.put, List.setIfInBounds_toArray, List.set_cons_zero, List.set_cons_succ])
          refine wpAnyH_ready (rs := [9]) (by kernel_rfl) (by simp) ?_
          refine AllReadyH.cons rfl (fun K hK => ?_) AllReadyH.nil
          go_simp
          go_wp2_with (first | (go_at_call 35; refine Calls.mono (HCP.out _ HBEL.out.drew) ?_; rintro e w3 ⟨c3, rfl, hR3, hb3⟩; obtain ⟨v5, w5, hrun, hI5, hc5, hf5, A5, c5, rfl⟩ := HSTEP.out w3 c3 hR3 ((Below.refl _ wr).drew.trans hb3); have HRUN := Lib.hid hrun; have HI5 := Lib.hid hI5; have k1 : w3.cell? ⟨w.heap.size, 0, none⟩ = some sv := (hb3.cell (p := ⟨w.heap.size, 0, none⟩) HHD.out.lt).trans hc1; have k2 := Lib.cell?_alloc_some (.cells #[.slice (some ⟨wr.heap.size, 0, none⟩) L c3] 32) k1; clear hrun hI5 hR3 hb3) | (refine step_app rfl (.tmp 40) (.tmp 46) 42 rfl _ _ _ _ (by simp [Act.eval]) (by simp [Act.eval]) HRUN.out ?_))
          refine hK.out _ _ (by first | exact trivial | (try dsimp only; trivial)) (fun hHeld3 => ?_)
          clear hK K hHeld2
          (try simp only [Act.put, List.setIfInBounds_toArray, List.set_cons_zero, List.set_cons_succ])
          refine wpAnyH_ready (rs := [10]) (by kernel_rfl) (by simp) ?_
          refine AllReadyH.cons rfl (fun K hK => ?_) AllReadyH.nil
          go_simp
          refine hK.out _ _ (by first | exact trivial | (try dsimp only; trivial)) (fun hHeld4 => ?_)
          clear hK K hHeld3
          (try simp only [Act.put, List.setIfInBounds_toArray, List.set_cons_zero, List.set_cons_succ])
          refine wpAnyH_ready (rs := [11]) (by kernel_rfl) (by simp) ?_
          refine AllReadyH.cons rfl (fun K hK => ?_) AllReadyH.nil
          (first | (go_at_call 35; refine Calls.mono (HCP.out _ HBEL.out.drew) ?_; rintro e w3 ⟨c3, rfl, hR3, hb3⟩; obtain ⟨v5, w5, hrun, hI5, hc5, hf5, A5, c5, rfl⟩ := HSTEP.out w3 c3 hR3 ((Below.refl _ wr).drew.trans hb3); have HRUN := Lib.hid hrun; have HI5 := Lib.hid hI5; have k1 : w3.cell? ⟨w.heap.size, 0, none⟩ = some sv := (hb3.cell (p := ⟨w.heap.size, 0, none⟩) HHD.out.lt).trans hc1; have k2 := Lib.cell?_alloc_some (.cells #[.slice (some ⟨wr.heap.size, 0, none⟩) L c3] 32) k1; clear hrun hI5 hR3 hb3) | (refine step_app rfl (.tmp 40) (.tmp 46) 42 rfl _ _ _ _ (by simp [Act.eval]) (by simp [Act.eval]) HRUN.out ?_))
          refine hK.out _ _ (by first | exact trivial | (try dsimp only; trivial)) (fun hHeld5 => ?_)
          clear hK K hHeld4
          (try simp only [Act.put, List.setIfInBounds_toArray, List.set_cons_zero, List.set_cons_succ])
          refine takeY 12 (some 48) rfl rfl (by kernel_rfl) (by kernel_rfl) (by kernel_rfl) (fun _ _ _ h => h) (by rfl) (v := _) (by (intro _ hSw; (try dsimp only at hSw); go_simp; try with_reducible rfl)) hHeld5 ?_
          simp only [Act.put, List.setIfInBounds_toArray, List.set_cons_zero, List.set_cons_succ]
          refine takeY 13 (some 49) rfl rfl (by kernel_rfl) (by kernel_rfl) (by kernel_rfl) (fun _ _ _ h => h) (by rfl) (v := _) (by (intro _ hSw; (try dsimp only at hSw); go_simp; try with_reducible rfl)) hHeld5 ?_
          simp only [Act.put, List.setIfInBounds_toArray, List.set_cons_zero, List.set_cons_succ]
          refine wpAnyH_ready (rs := [14]) (by kernel_rfl) (by simp) ?_
          refine AllReadyH.cons rfl (fun K hK => ?_) AllReadyH.nil
          go_simp
          refine hK.out _ _ (by first | exact trivial | (try dsimp only; trivial)) (fun hHeld6 => ?_)
          clear hK K hHeld5
          (try simp only [Act.put, List.setIfInBounds_toArray, List.set_cons_zero, List.set_cons_succ])
          refine wpAnyH_done (by kernel_rfl) ?_ _
          go_wp2_with fail
          go_roundw
          case rel => exact ⟨k + 1, by omega, by go_num, _, HI5⟩
          case measure => simp [intOf]; omega
        refine AllReadyH.cons rfl (fun K hK => ?_) AllReadyH.nil
        go_simp
        refine hK.out _ _ (by first | exact trivial | (try dsimp only; trivial)) (fun hHeld7 => ?_)
        clear hK K hHeld0
        (try simp only [Act.put, List.setIfInBounds_toArray, List.set_cons_zero, List.set_cons_succ])
        refine wpAnyH_ready (rs := [4, 9]) (by kernel_rfl) (by simp) ?_
        refine AllReadyH.cons rfl (fun K hK => ?_) ?_
        · go_simp
          refine hK.out _ _ (by first | exact trivial | (try dsimp only; trivial)) (fun hHeld8 => ?_)
          clear hK K hHeld7
          (try simp only [Act.put, List.setIfInBounds_toArray, List.set_cons_zero, List.set_cons_succ])
          refine wpAnyH_ready (rs := [9]) (by kernel_rfl) (by simp) ?_
          refine AllReadyH.cons rfl (fun K hK => ?_) AllReadyH.nil
          go_simp
          go_wp2_with (first | (go_at_call 35; refine Calls.mono (HCP.out _ HBEL.out.drew) ?_; rintro e w3 ⟨c3, rfl, hR3, hb3⟩; obtain ⟨v5, w5, hrun, hI5, hc5, hf5, A5, c5, rfl⟩ := HSTEP.out w3 c3 hR3 ((Below.refl _ wr).drew.trans hb3); have HRUN := Lib.hid hrun; have HI5 := Lib.hid hI5; have k1 : w3.cell? ⟨w.heap.size, 0, none⟩ = some sv := (hb3.cell (p := ⟨w.heap.size, 0, none⟩) HHD.out.lt).trans hc1; have k2 := Lib.cell?_alloc_some (.cells #[.slice (some ⟨wr.heap.size, 0, none⟩) L c3] 32) k1; clear hrun hI5 hR3 hb3) | (refine step_app rfl (.tmp 40) (.tmp 46) 42 rfl _ _ _ _ (by simp [Act.eval]) (by simp [Act.eval]) HRUN.out ?_))
          refine hK.out _ _ (by first | exact trivial | (try dsimp only; trivial)) (fun hHeld9 => ?_)
          clear hK K hHeld8
          (try simp only [Act.put, List.setIfInBounds_toArray, List.set_cons_zero, List.set_cons_succ])
          refine wpAnyH_ready (rs := [10]) (by kernel_rfl) (by simp) ?_
          refine AllReadyH.cons rfl (fun K hK => ?_) AllReadyH.nil
          go_simp
          refine hK.out _ _ (by first | exact trivial | (try dsimp only; trivial)) (fun hHeld10 => ?_)
          clear hK K hHeld9
          (try simp only [Act.put, List.setIfInBounds_toArray, List.set_cons_zero, List.set_cons_succ])
          refine wpAnyH_ready (rs := [11]) (by kernel_rfl) (by simp) ?_
          refine AllReadyH.cons rfl (fun K hK => ?_) AllReadyH.nil
          (first | (go_at_call 35; refine Calls.mono (HCP.out _ HBEL.out.drew) ?_; rintro e w3 ⟨c3, rfl, hR3, hb3⟩; obtain ⟨v5, w5, hrun, hI5, hc5, hf5, A5, c5, rfl⟩ := HSTEP.out w3 c3 hR3 ((Below.refl _ wr).drew.trans hb3); have HRUN := Lib.hid hrun; have HI5 := Lib.hid hI5; have k1 : w3.cell? ⟨w.heap.size, 0, none⟩ = some sv := (hb3.cell (p := ⟨w.heap.size, 0, none⟩) HHD.out.lt).trans hc1; have k2 := Lib.cell?_alloc_some (.cells #[.slice (some ⟨wr.heap.size, 0, none⟩) L c3] 32) k1; clear hrun hI5 hR3 hb3) | (refine step_app rfl (.tmp 40) (.tmp 46) 42 rfl _ _ _ _ (by simp [Act.eval]) (by simp [Act.eval]) HRUN.out ?_))
          refine hK.out _ _ (by first | exact trivial | (try dsimp only; trivial)) (fun hHeld11 => ?_)
          clear hK K hHeld10
          (try simp only [Act.put, List.setIfInBounds_toArray, List.set_cons_zero, List.set_cons_succ])
          refine takeY 12 (some 48) rfl rfl (by kernel_rfl) (by kernel_rfl) (by kernel_rfl) (fun _ _ _ h => h) (by rfl) (v := _) (by (intro _ hSw; (try dsimp only at hSw); go_simp; try with_reducible rfl)) hHeld11 ?_
          simp only [Act.put, List.setIfInBounds_toArray, List.set_cons_zero, List.set_cons_succ]
          refine takeY 13 (some 49) rfl rfl (by kernel_rfl) (by kernel_rfl) (by kernel_rfl) (fun _ _ _ h => h) (by rfl) (v := _) (by (intro _ hSw; (try dsimp only at hSw); go_simp; try with_reducible rfl)) hHeld11 ?_
          simp only [Act.put, List.setIfInBounds_toArray, List.set_cons_zero, List.set_cons_succ]
          refine wpAnyH_ready (rs := [14]) (by kernel_rfl) (by simp) ?_
          refine AllReadyH.cons rfl (fun K hK => ?_) AllReadyH.nil
          go_simp
          refine hK.out _ _ (by first | exact trivial | (try dsimp only; trivial)) (fun hHeld12 => ?_)
          clear hK K hHeld11
          (try simp only [Act.put, List.setIfInBounds_toArray, List.set_cons_zero, List.set_cons_succ])
          refine wpAnyH_done (by kernel_rfl) ?_ _
          go_wp2_with fail
          go_roundw
          case rel => exact ⟨k + 1, by omega, by go_num, _, HI5⟩
          case measure => simp [intOf]; omega
        refine AllReadyH.cons rfl (fun K hK => ?_) AllReadyH.nil
        go_simp
        go_wp2_with (first | (go_at_call 35; refine Calls.mono (HCP.out _ HBEL.out.drew) ?_; rintro e w3 ⟨c3, rfl, hR3, hb3⟩; obtain ⟨v5, w5, hrun, hI5, hc5, hf5, A5, c5, rfl⟩ := HSTEP.out w3 c3 hR3 ((Below.refl _ wr).drew.trans hb3); have HRUN := Lib.hid hrun; have HI5 := Lib.hid hI5; have k1 : w3.cell? ⟨w.heap.size, 0, none⟩ = some sv := (hb3.cell (p := ⟨w.heap.size, 0, none⟩) HHD.out.lt).trans hc1; have k2 := Lib.cell?_alloc_some (.cells #[.slice (some ⟨wr.heap.size, 0, none⟩) L c3] 32) k1; clear hrun hI5 hR3 hb3) | (refine step_app rfl (.tmp 40) (.tmp 46) 42 rfl _ _ _ _ (by simp [Act.eval]) (by simp [Act.eval]) HRUN.out ?_))
        refine hK.out _ _ (by first | exact trivial | (try dsimp only; trivial)) (fun hHeld13 => ?_)
        clear hK K hHeld7
        (try simp only [Act.put, List.setIfInBounds_toArray, List.set_cons_zero, List.set_cons_succ])
        refine wpAnyH_ready (rs := [4, 10]) (by kernel_rfl) (by simp) ?_
        refine AllReadyH.cons rfl (fun K hK => ?_) ?_
        · go_simp
          refine hK.out _ _ (by first | exact trivial | (try dsimp only; trivial)) (fun hHeld14 => ?_)
          clear hK K hHeld13
          (try simp only [Act.put, List.setIfInBounds_toArray, List.set_cons_zero, List.set_cons_succ])
          refine wpAnyH_ready (rs := [10]) (by kernel_rfl) (by simp) ?_
          refine AllReadyH.cons rfl (fun K hK => ?_) AllReadyH.nil
          go_simp
          refine hK.out _ _ (by first | exact trivial | (try dsimp only; trivial)) (fun hHeld15 => ?_)
          clear hK K hHeld14
          (try simp only [Act.put, List.setIfInBounds_toArray, List.set_cons_zero, List.set_cons_succ])
          refine wpAnyH_ready (rs := [11]) (by kernel_rfl) (by simp) ?_
          refine AllReadyH.cons rfl (fun K hK => ?_) AllReadyH.nil
          (first | (go_at_call 35; refine Calls.mono (HCP.out _ HBEL.out.drew) ?_; rintro e w3 ⟨c3, rfl, hR3, hb3⟩; obtain ⟨v5, w5, hrun, hI5, hc5, hf5, A5, c5, rfl⟩ := HSTEP.out w3 c3 hR3 ((Below.refl _ wr).drew.trans hb3); have HRUN := Lib.hid hrun; have HI5 := Lib.hid hI5; have k1 : w3.cell? ⟨w.heap.size, 0, none⟩ = some sv := (hb3.cell (p := ⟨w.heap.size, 0, none⟩) HHD.out.lt).trans hc1; have k2 := Lib.cell?_alloc_some (.cells #[.slice (some ⟨wr.heap.size, 0, none⟩) L c3] 32) k1; clear hrun hI5 hR3 hb3) | (refine step_app rfl (.tmp 40) (.tmp 46) 42 rfl _ _ _ _ (by simp [Act.eval]) (by simp [Act.eval]) HRUN.out ?_))
          refine hK.out _ _ (by first | exact trivial | (try dsimp only; trivial)) (fun hHeld16 => ?_)
          clear hK K hHeld15
          (try simp only [Act.put, List.setIfInBounds_toArray, List.set_cons_zero, List.set_cons_succ])
          refine takeY 12 (some 48) rfl rfl (by kernel_rfl) (by kernel_rfl) (by kernel_rfl) (fun _ _ _ h => h) (by rfl) (v := _) (by (intro _ hSw; (try dsimp only at hSw); go_simp; try with_reducible rfl)) hHeld16 ?_
          simp only [Act.put, List.setIfInBounds_toArray, List.set_cons_zero, List.set_cons_succ]
          refine takeY 13 (some 49) rfl rfl (by kernel_rfl) (by kernel_rfl) (by kernel_rfl) (fun _ _ _ h => h) (by rfl) (v := _) (by (intro _ hSw; (try dsimp only at hSw); go_simp; try with_reducible rfl)) hHeld16 ?_
          simp only [Act.put, List.setIfInBounds_toArray, List.set_cons_zero, List.set_cons_succ]
          refine wpAnyH_ready (rs := [14]) (by kernel_rfl) (by simp) ?_
          refine AllReadyH.cons rfl (fun K hK => ?_) AllReadyH.nil
          go_simp
          refine hK.out _ _ (by first | exact trivial | (try dsimp only; trivial)) (fun hHeld17 => ?_)
          clear hK K hHeld16
          (try simp only [Act.put, List.setIfInBounds_toArray, List.set_cons_zero, List.set_cons_succ])
          refine wpAnyH_done (by kernel_rfl) ?_ _
          go_wp2_with fail
          go_roundw
          case rel => exact ⟨k + 1, by omega, by go_num, _, HI5⟩
          case measure => simp [intOf]; omega
        refine AllReadyH.cons rfl (fun K hK => ?_) AllReadyH.nil
        go_simp
        refine hK.out _ _ (by first | exact trivial | (try dsimp only; trivial)) (fun hHeld18 => ?_)
        clear hK K hHeld13
        (try simp only [Act.put, List.setIfInBounds_toArray, List.set_cons_zero, List.set_cons_succ])
        refine wpAnyH_ready (rs := [4]) (by kernel_rfl) (by simp) ?_
        refine AllReadyH.cons rfl (fun K hK => ?_) AllReadyH.nil
        go_simp
        refine hK.out _ _ (by first | exact trivial | (try dsimp only; trivial)) (fun hHeld19 => ?_)
        clear hK K hHeld18
        (try simp only [Act.put, List.setIfInBounds_toArray, List.set_cons_zero, List.set_cons_succ])
        refine wpAnyH_ready (rs := [11]) (by kernel_rfl) (by simp) ?_
        refine AllReadyH.cons rfl (fun K hK => ?_) AllReadyH.nil
        (first | (go_at_call 35; refine Calls.mono (HCP.out _ HBEL.out.drew) ?_; rintro e w3 ⟨c3, rfl, hR3, hb3⟩; obtain ⟨v5, w5, hrun, hI5, hc5, hf5, A5, c5, rfl⟩ := HSTEP.out w3 c3 hR3 ((Below.refl _ wr).drew.trans hb3); have HRUN := Lib.hid hrun; have HI5 := Lib.hid hI5; have k1 : w3.cell? ⟨w.heap.size, 0, none⟩ = some sv := (hb3.cell (p := ⟨w.heap.size, 0, none⟩) HHD.out.lt).trans hc1; have k2 := Lib.cell?_alloc_some (.cells #[.slice (some ⟨wr.heap.size, 0, none⟩) L c3] 32) k1; clear hrun hI5 hR3 hb3) | (refine step_app rfl (.tmp 40) (.tmp 46) 42 rfl _ _ _ _ (by simp [Act.eval]) (by simp [Act.eval]) HRUN.out ?_))
        refine hK.out _ _ (by first | exact trivial | (try dsimp only; trivial)) (fun hHeld20 => ?_)
        clear hK K hHeld19
        (try simp only [Act.put, List.setIfInBounds_toArray, List.set_cons_zero, List.set_cons_succ])
        refine takeY 12 (some 48) rfl rfl (by kernel_rfl) (by kernel_rfl) (by kernel_rfl) (fun _ _ _ h => h) (by rfl) (v := _) (by (intro _ hSw; (try dsimp only at hSw); go_simp; try with_reducible rfl)) hHeld20 ?_
        simp only [Act.put, List.setIfInBounds_toArray, List.set_cons_zero, List.set_cons_succ]
        refine takeY 13 (some 49) rfl rfl (by kernel_rfl) (by kernel_rfl) (by kernel_rfl) (fun _ _ _ h => h) (by rfl) (v := _) (by (intro _ hSw; (try dsimp only at hSw); go_simp; try with_reducible rfl)) hHeld20 ?_
        simp only [Act.put, List.setIfInBounds_toArray, List.set_cons_zero, List.set_cons_succ]
        refine wpAnyH_ready (rs := [14]) (by kernel_rfl) (by simp) ?_
        refine AllReadyH.cons rfl (fun K hK => ?_) AllReadyH.nil
        go_simp
        refine hK.out _ _ (by first | exact trivial | (try dsimp only; trivial)) (fun hHeld21 => ?_)
        clear hK K hHeld20
        (try simp only [Act.put, List.setIfInBounds_toArray, List.set_cons_zero, List.set_cons_succ])
        refine wpAnyH_done (by kernel_rfl) ?_ _
        go_wp2_with fail
        go_roundw
        case rel => exact ⟨k + 1, by omega, by go_num, _, HI5⟩
        case measure => simp [intOf]; omega
    · obtain rfl : n = k := by omega
      have hd : decide ((n : Int) < (n : Int)) = false := by simp
      have hA := hI.out
      rw [List.take_of_length_le (by rw [HL.out]; exact Nat.le_refl _)] at hA
      have HF := Lib.hid (hA.ref HOK.out)
      have HB := Lib.hid hA.bel
      clear hA hI
      go_wp2_with fail
      go_ret2
      exact ⟨_, rfl, HF.out, HB.out⟩

end Go.Proofs.Ytdohfkblmadejaa
