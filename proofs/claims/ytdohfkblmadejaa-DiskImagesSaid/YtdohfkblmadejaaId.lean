/- The reference's Load refuses. -/
import Derived.Test.YtdohfkblmadejaaIc
namespace Go.Proofs.Ytdohfkblmadejaa
open Go.RowKit Dsk

set_option maxRecDepth 20000 in
set_option maxHeartbeats 2000000 in
theorem rload_no (A : Option Addr) (n cap : Nat) (rows : List (List UInt8)) (w : World) (hlen : rows.length = n) (hn : 16 ≤ n ∧ n ≤ 4096) (hA : Img w A rows) (hf : fitB rows = false) :
    Calls Try.prog 22 #[.slice A n cap] w fun e w' => e = .returned (.tuple #[.pointer none, .int .i64 1]) ∧ Below w.heap.size w w' := by
  have HF := Lib.hid hf
  have HL := Lib.hid hlen
  have HA := Lib.hid hA
  have hn4 : n ≤ 4096 := hn.2
  have d1 : decide ((n : Int) < 16) = false := by simp; omega
  have d2 : decide ((4096 : Int) < (n : Int)) = false := by simp; omega
  have HST : Hid (RLd w _ (rows.take 0) (.slice none 0 0)) := Lib.hid (RLd.nil w)
  clear hn hlen hA hf
  go_enter Try.func22, Try.ntmps22
  go_wp2_with fail
  clear d1 d2
  go_loopw [5] (fun i wr => ∃ k : Nat, k ≤ n ∧ i = .int .i64 (k : Int) ∧ Hid (fitB (rows.take k) = true) ∧ ∃ sv, Hid (RLd w wr (rows.take k) sv)) (fun i _ => n - (intOf i).toNat)
  case atStart => exact ⟨0, Nat.zero_le _, rfl, Lib.hid rfl, _, HST⟩
  case round =>
    obtain ⟨k, hk, rfl, hFT, sv, hI⟩ := hrel
    clear HST
    by_cases hlt : k < n
    · have hd : decide ((k : Int) < (n : Int)) = true := by simpa using hlt
      obtain ⟨bs, hbs⟩ : ∃ bs, rows[k]? = some bs := ⟨_, List.getElem?_eq_getElem (by rw [HL.out]; exact hlt)⟩
      obtain ⟨b, off, v, rfl, hblt, hc, A2, c2, rfl, hl2, hm2, hby, _⟩ := HA.out k bs hbs
      have hft := fit_take hFT.out hbs
      obtain ⟨L, hL⟩ : ∃ L, bs.length = L := ⟨_, rfl⟩
      rw [hL] at hc hft
      have HFN := Lib.hid hft
      have hc0 := (hI.out.bel.cell (p := ⟨b, off + k, none⟩) hblt).trans hc
      have hcp := fun (W : World) (hW : Below w.heap.size w W) => copy_any A2 L c2 bs W hL (hby.below hW) (by omega)
      have HCP := Lib.hid hcp
      have hstep : ∀ (w3 : World) (c3 : Nat), Rw w3 wr.heap.size L c3 bs → Below wr.heap.size wr w3 → ∃ v' w5, (Builtin.append_ #[42, 42] 42 #[sv, .slice (some ⟨w3.heap.size, 0, none⟩) 1 1]).run Try.prog (w3.alloc (.cells #[.slice (some ⟨wr.heap.size, 0, none⟩) L c3] 32)) = .ok v' w5 ∧ RLd w (w5.setCell ⟨w.heap.size, 0, none⟩ v') (rows.take (k + 1)) v' ∧
          w5.cell? ⟨w.heap.size, 0, none⟩ = some sv ∧ w5.frozen? ⟨w.heap.size, 0, none⟩ = false ∧ ∃ A c, v' = .slice A (k + 1) c := fun w3 c3 hR hb => by
        have hS3 : Sec w3 (fun j => wr.heap.size ≤ j ∧ j < w3.heap.size) (.slice (some ⟨wr.heap.size, 0, none⟩) L c3) bs :=
          ⟨some ⟨wr.heap.size, 0, none⟩, c3, by rw [hR.long], by rw [hR.long]; exact hR.le, hR.max, hR.bytes, fun p e => by cases e; exact ⟨Nat.le_refl _, hR.lt⟩⟩
        have h := hI.out.step (by rw [List.length_take]; omega) hS3 hb
        have hsnoc : rows.take k ++ [bs] = rows.take (k + 1) := by
          obtain ⟨hk', e⟩ := List.getElem?_eq_some_iff.1 hbs
          rw [List.take_succ_eq_append_getElem hk', e]
        rw [hsnoc] at h
        rw [show (rows.take k).length = k by rw [List.length_take, HL.out]; omega] at h
        exact h
      have HSTEP := Lib.hid hstep
      have HC := Lib.hid (And.intro (hI.out.head.cell 0) (And.intro hc hblt))
      have HBEL := Lib.hid hI.out.bel
      have hc1 := hI.out.head.cell 0
      simp only [List.getElem?_toArray, List.getElem?_cons_zero] at hc1
      have HHD := Lib.hid hI.out.head
      clear hstep hcp hL hby hbs hl2 hm2 hblt hc hI
      clear hft hFT
      by_cases hz : L = 0 ∨ L = 256
      · have HFN2 : Hid (fitB (rows.take (k + 1)) = true) := Lib.hid (HFN.out.trans (by simp; omega))
        have hz2 : ((L : Int) != 0) = false ∨ (((L : Int) != 0) = true ∧ ((L : Int) != 256) = false) := by
          rcases hz with e | e
          · exact .inl (by simp; omega)
          · exact .inr ⟨by simp; omega, by simp; omega⟩
        clear hz HFN
        rcases hz2 with d0 | ⟨d0, d6⟩
        all_goals
          go_wp2_with fail
          refine wp_region_held_drew (S := (fun _ => True)) (by kernel_rfl) (by first | exact trivial | (try dsimp only; trivial)) (fun hHeld0 => ?_)
          refine takeY 0 (some 36) rfl rfl (by kernel_rfl) (by kernel_rfl) (by kernel_rfl) (fun _ _ _ h => h) (by rfl) (v := _) (by (intro _ hSw; (try dsimp only at hSw); go_simp; try with_reducible rfl)) hHeld0 ?_
          simp only [Act.put, List.setIfInBounds_toArray, List.set_cons_zero, List.set_cons_succ]
          refine takeY 1 (some 37) rfl rfl (by kernel_rfl) (by kernel_rfl) (by kernel_rfl) (fun _ _ _ h => h) (by rfl) (v := _) (by (intro _ hSw; (try dsimp only at hSw); go_simp; try with_reducible rfl)) hHeld0 ?_
          simp only [Act.put, List.setIfInBounds_toArray, List.set_cons_zero, List.set_cons_succ]
          refine takeY 2 (some 38) rfl rfl (by kernel_rfl) (by kernel_rfl) (by kernel_rfl) (fun _ _ _ h => h) (by rfl) (v := _) (by (intro _ hSw; (try dsimp only at hSw); go_simp; try with_reducible rfl)) hHeld0 ?_
          simp only [Act.put, List.setIfInBounds_toArray, List.set_cons_zero, List.set_cons_succ]
          refine takeY 3 (some 39) rfl rfl (by kernel_rfl) (by kernel_rfl) (by kernel_rfl) (fun _ _ _ h => h) (by rfl) (v := _) (by (intro _ hSw; (try dsimp only at hSw); go_simp; try with_reducible rfl)) hHeld0 ?_
          simp only [Act.put, List.setIfInBounds_toArray, List.set_cons_zero, List.set_cons_succ]
          refine takeY 5 (some 41) rfl rfl (by kernel_rfl) (by kernel_rfl) (by kernel_rfl) (fun _ _ _ h => h) (by rfl) (v := _) (by (intro _ hSw; (try dsimp only at hSw); go_simp; try with_reducible rfl)) hHeld0 ?_
          simp only [Act.put, List.setIfInBounds_toArray, List.set_cons_zero, List.set_cons_succ]
          refine takeY 6 (some 42) rfl rfl (by kernel_rfl) (by kernel_rfl) (by kernel_rfl) (fun _ _ _ h => h) (by rfl) (v := _) (by (intro _ hSw; (try dsimp only at hSw); go_simp; try with_reducible rfl)) hHeld0 ?_
          simp only [Act.put, List.setIfInBounds_toArray, List.set_cons_zero, List.set_cons_succ]
          refine takeY 7 (some 43) rfl rfl (by kernel_rfl) (by kernel_rfl) (by kernel_rfl) (fun _ _ _ h => h) (by rfl) (v := _) (by (intro _ hSw; (try dsimp only at hSw); go_simp; try with_reducible rfl)) hHeld0 ?_
          simp only [Act.put, List.setIfInBounds_toArray, List.set_cons_zero, List.set_cons_succ]
          refine wpAnyH_ready (rs := [4, 8]) (by kernel_rfl) (by simp) ?_
          refine AllReadyH.cons rfl (fun K hK => ?_) ?_
          · go_simp
            refine hK.out _ _ (by first | exact trivial | (try dsimp only; trivial)) (fun hHeld1 => ?_)
            clear hK K hHeld0
            (try simp only [Act.put, List.setIfInBounds_toArray, List.set_cons_zero, List.set_cons_succ])
            refine wpAnyH_ready (rs := [8]) (by kernel_rfl) (by simp) ?_
            refine AllReadyH.cons rfl (fun K hK => ?_) AllReadyH.nil
            go_simp
            refine hK.out _ _ (by first | exact trivial | (try dsimp only; trivial)) (fun hHeld2 => ?_)
            clear hK K hHeld1
            (try simp only [Act.put, List.setIfInBounds_toArray, List.set_cons_zero, List.set_cons_succ])
            refine wpAnyH_ready (rs := [9]) (by kernel_rfl) (by simp) ?_
            refine AllReadyH.cons rfl (fun K hK => ?_) AllReadyH.nil
            go_simp
            go_wp2_with (first | (go_at_call 35; refine Calls.mono (HCP.out _ HBEL.out.drew) ?_; rintro e w3 ⟨c3, rfl, hR3, hb3⟩; obtain ⟨v5, w5, hrun, hI5, hc5, hf5, A5, c5, rfl⟩ := HSTEP.out w3 c3 hR3 ((Below.refl _ wr).drew.trans hb3); have HRUN := Lib.hid hrun; have HI5 := Lib.hid hI5; have k1 : w3.cell? ⟨w.heap.size, 0, none⟩ = some sv := (hb3.cell (p := ⟨w.heap.size, 0, none⟩) HHD.out.lt).trans hc1; have k2 := Lib.cell?_alloc_some (.cells #[.slice (some ⟨wr.heap.size, 0, none⟩) L c3] 32) k1; clear hrun hI5 hR3 hb3) | (refine step_app rfl (.tmp 40) (.tmp 46) 42 rfl _ _ _ _ (by simp [Act.eval]) (by simp [Act.eval]) HRUN.out ?_))
            refine hK.out _ _ (by first | exact trivial | (try dsimp only; trivial)) (fun hHeld3 => ?_)
            clear hK K hHeld2
            (try simp only [Act.put, List.setIfInBounds_toArray, List.set_cons_zero, List.set_cons_succ])
            refine wpAnyH_ready (rs := [10]) (by kernel_rfl) (by simp) ?_
            refine AllReadyH.cons rfl (fun K hK => ?_) AllReadyH.nil
            go_simp
            refine hK.out _ _ (by first | exact trivial | (try dsimp only; trivial)) (fun hHeld4 => ?_)
            clear hK K hHeld3
            (try simp only [Act.put, List.setIfInBounds_toArray, List.set_cons_zero, List.set_cons_succ])
            refine wpAnyH_ready (rs := [11]) (by kernel_rfl) (by simp) ?_
            refine AllReadyH.cons rfl (fun K hK => ?_) AllReadyH.nil
            (first | (go_at_call 35; refine Calls.mono (HCP.out _ HBEL.out.drew) ?_; rintro e w3 ⟨c3, rfl, hR3, hb3⟩; obtain ⟨v5, w5, hrun, hI5, hc5, hf5, A5, c5, rfl⟩ := HSTEP.out w3 c3 hR3 ((Below.refl _ wr).drew.trans hb3); have HRUN := Lib.hid hrun; have HI5 := Lib.hid hI5; have k1 : w3.cell? ⟨w.heap.size, 0, none⟩ = some sv := (hb3.cell (p := ⟨w.heap.size, 0, none⟩) HHD.out.lt).trans hc1; have k2 := Lib.cell?_alloc_some (.cells #[.slice (some ⟨wr.heap.size, 0, none⟩) L c3] 32) k1; clear hrun hI5 hR3 hb3) | (refine step_app rfl (.tmp 40) (.tmp 46) 42 rfl _ _ _ _ (by simp [Act.eval]) (by simp [Act.eval]) HRUN.out ?_))
            refine hK.out _ _ (by first | exact trivial | (try dsimp only; trivial)) (fun hHeld5 => ?_)
            clear hK K hHeld4
            (try simp only [Act.put, List.setIfInBounds_toArray, List.set_cons_zero, List.set_cons_succ])
            refine takeY 12 (some 48) rfl rfl (by kernel_rfl) (by kernel_rfl) (by kernel_rfl) (fun _ _ _ h => h) (by rfl) (v := _) (by (intro _ hSw; (try dsimp only at hSw); go_simp; try with_reducible rfl)) hHeld5 ?_
            simp only [Act.put, List.setIfInBounds_toArray, List.set_cons_zero, List.set_cons_succ]
            refine takeY 13 (some 49) rfl rfl (by kernel_rfl) (by kernel_rfl) (by kernel_rfl) (fun _ _ _ h => h) (by rfl) (v := _) (by (intro _ hSw; (try dsimp only at hSw); go_simp; try with_reducible rfl)) hHeld5 ?_
            simp only [Act.put, List.setIfInBounds_toArray, List.set_cons_zero, List.set_cons_succ]
            refine wpAnyH_ready (rs := [14]) (by kernel_rfl) (by simp) ?_
            refine AllReadyH.cons rfl (fun K hK => ?_) AllReadyH.nil
            go_simp
            refine hK.out _ _ (by first | exact trivial | (try dsimp only; trivial)) (fun hHeld6 => ?_)
            clear hK K hHeld5
            (try simp only [Act.put, List.setIfInBounds_toArray, List.set_cons_zero, List.set_cons_succ])
            refine wpAnyH_done (by kernel_rfl) ?_ _
            go_wp2_with fail
            go_roundw
            case rel => exact ⟨k + 1, by omega, by go_num, HFN2, _, HI5⟩
            case measure => simp [intOf]; omega
          refine AllReadyH.cons rfl (fun K hK => ?_) AllReadyH.nil
          go_simp
          refine hK.out _ _ (by first | exact trivial | (try dsimp only; trivial)) (fun hHeld7 => ?_)
          clear hK K hHeld0
          (try simp only [Act.put, List.setIfInBounds_toArray, List.set_cons_zero, List.set_cons_succ])
          refine wpAnyH_ready (rs := [4, 9]) (by kernel_rfl) (by simp) ?_
          refine AllReadyH.cons rfl (fun K hK => ?_) ?_
          · go_simp
            refine hK.out _ _ (by first | exact trivial | (try dsimp only; trivial)) (fun hHeld8 => ?_)
            clear hK K hHeld7
            (try simp only [Act.put, List.setIfInBounds_toArray, List.set_cons_zero, List.set_cons_succ])
            refine wpAnyH_ready (rs := [9]) (by kernel_rfl) (by simp) ?_
            refine AllReadyH.cons rfl (fun K hK => ?_) AllReadyH.nil
            go_simp
            go_wp2_with (first | (go_at_call 35; refine Calls.mono (HCP.out _ HBEL.out.drew) ?_; rintro e w3 ⟨c3, rfl, hR3, hb3⟩; obtain ⟨v5, w5, hrun, hI5, hc5, hf5, A5, c5, rfl⟩ := HSTEP.out w3 c3 hR3 ((Below.refl _ wr).drew.trans hb3); have HRUN := Lib.hid hrun; have HI5 := Lib.hid hI5; have k1 : w3.cell? ⟨w.heap.size, 0, none⟩ = some sv := (hb3.cell (p := ⟨w.heap.size, 0, none⟩) HHD.out.lt).trans hc1; have k2 := Lib.cell?_alloc_some (.cells #[.slice (some ⟨wr.heap.size, 0, none⟩) L c3] 32) k1; clear hrun hI5 hR3 hb3) | (refine step_app rfl (.tmp 40) (.tmp 46) 42 rfl _ _ _ _ (by simp [Act.eval]) (by simp [Act.eval]) HRUN.out ?_))
            refine hK.out _ _ (by first | exact trivial | (try dsimp only; trivial)) (fun hHeld9 => ?_)
            clear hK K hHeld8
            (try simp only [Act.put, List.setIfInBounds_toArray, List.set_cons_zero, List.set_cons_succ])
            refine wpAnyH_ready (rs := [10]) (by kernel_rfl) (by simp) ?_
            refine AllReadyH.cons rfl (fun K hK => ?_) AllReadyH.nil
            go_simp
            refine hK.out _ _ (by first | exact trivial | (try dsimp only; trivial)) (fun hHeld10 => ?_)
            clear hK K hHeld9
            (try simp only [Act.put, List.setIfInBounds_toArray, List.set_cons_zero, List.set_cons_succ])
            refine wpAnyH_ready (rs := [11]) (by kernel_rfl) (by simp) ?_
            refine AllReadyH.cons rfl (fun K hK => ?_) AllReadyH.nil
            (first | (go_at_call 35; refine Calls.mono (HCP.out _ HBEL.out.drew) ?_; rintro e w3 ⟨c3, rfl, hR3, hb3⟩; obtain ⟨v5, w5, hrun, hI5, hc5, hf5, A5, c5, rfl⟩ := HSTEP.out w3 c3 hR3 ((Below.refl _ wr).drew.trans hb3); have HRUN := Lib.hid hrun; have HI5 := Lib.hid hI5; have k1 : w3.cell? ⟨w.heap.size, 0, none⟩ = some sv := (hb3.cell (p := ⟨w.heap.size, 0, none⟩) HHD.out.lt).trans hc1; have k2 := Lib.cell?_alloc_some (.cells #[.slice (some ⟨wr.heap.size, 0, none⟩) L c3] 32) k1; clear hrun hI5 hR3 hb3) | (refine step_app rfl (.tmp 40) (.tmp 46) 42 rfl _ _ _ _ (by simp [Act.eval]) (by simp [Act.eval]) HRUN.out ?_))
            refine hK.out _ _ (by first | exact trivial | (try dsimp only; trivial)) (fun hHeld11 => ?_)
            clear hK K hHeld10
            (try simp only [Act.put, List.setIfInBounds_toArray, List.set_cons_zero, List.set_cons_succ])
            refine takeY 12 (some 48) rfl rfl (by kernel_rfl) (by kernel_rfl) (by kernel_rfl) (fun _ _ _ h => h) (by rfl) (v := _) (by (intro _ hSw; (try dsimp only at hSw); go_simp; try with_reducible rfl)) hHeld11 ?_
            simp only [Act.put, List.setIfInBounds_toArray, List.set_cons_zero, List.set_cons_succ]
            refine takeY 13 (some 49) rfl rfl (by kernel_rfl) (by kernel_rfl) (by kernel_rfl) (fun _ _ _ h => h) (by rfl) (v := _) (by (intro _ hSw; (try dsimp only at hSw); go_simp; try with_reducible rfl)) hHeld11 ?_
            simp only [Act.put, List.setIfInBounds_toArray, List.set_cons_zero, List.set_cons_succ]
            refine wpAnyH_ready (rs := [14]) (by kernel_rfl) (by simp) ?_
            refine AllReadyH.cons rfl (fun K hK => ?_) AllReadyH.nil
            go_simp
            refine hK.out _ _ (by first | exact trivial | (try dsimp only; trivial)) (fun hHeld12 => ?_)
            clear hK K hHeld11
            (try simp only [Act.put, List.setIfInBounds_toArray, List.set_cons_zero, List.set_cons_succ])
            refine wpAnyH_done (by kernel_rfl) ?_ _
            go_wp2_with fail
            go_roundw
            case rel => exact ⟨k + 1, by omega, by go_num, HFN2, _, HI5⟩
            case measure => simp [intOf]; omega
          refine AllReadyH.cons rfl (fun K hK => ?_) AllReadyH.nil
          go_simp
          go_wp2_with (first | (go_at_call 35; refine Calls.mono (HCP.out _ HBEL.out.drew) ?_; rintro e w3 ⟨c3, rfl, hR3, hb3⟩; obtain ⟨v5, w5, hrun, hI5, hc5, hf5, A5, c5, rfl⟩ := HSTEP.out w3 c3 hR3 ((Below.refl _ wr).drew.trans hb3); have HRUN := Lib.hid hrun; have HI5 := Lib.hid hI5; have k1 : w3.cell? ⟨w.heap.size, 0, none⟩ = some sv := (hb3.cell (p := ⟨w.heap.size, 0, none⟩) HHD.out.lt).trans hc1; have k2 := Lib.cell?_alloc_some (.cells #[.slice (some ⟨wr.heap.size, 0, none⟩) L c3] 32) k1; clear hrun hI5 hR3 hb3) | (refine step_app rfl (.tmp 40) (.tmp 46) 42 rfl _ _ _ _ (by simp [Act.eval]) (by simp [Act.eval]) HRUN.out ?_))
          refine hK.out _ _ (by first | exact trivial | (try dsimp only; trivial)) (fun hHeld13 => ?_)
          clear hK K hHeld7
          (try simp only [Act.put, List.setIfInBounds_toArray, List.set_cons_zero, List.set_cons_succ])
          refine wpAnyH_ready (rs := [4, 10]) (by kernel_rfl) (by simp) ?_
          refine AllReadyH.cons rfl (fun K hK => ?_) ?_
          · go_simp
            refine hK.out _ _ (by first | exact trivial | (try dsimp only; trivial)) (fun hHeld14 => ?_)
            clear hK K hHeld13
            (try simp only [Act.put, List.setIfInBounds_toArray, List.set_cons_zero, List.set_cons_succ])
            refine wpAnyH_ready (rs := [10]) (by kernel_rfl) (by simp) ?_
            refine AllReadyH.cons rfl (fun K hK => ?_) AllReadyH.nil
            go_simp
            refine hK.out _ _ (by first | exact trivial | (try dsimp only; trivial)) (fun hHeld15 => ?_)
            clear hK K hHeld14
            (try simp only [Act.put, List.setIfInBounds_toArray, List.set_cons_zero, List.set_cons_succ])
            refine wpAnyH_ready (rs := [11]) (by kernel_rfl) (by simp) ?_
            refine AllReadyH.cons rfl (fun K hK => ?_) AllReadyH.nil
            (first | (go_at_call 35; refine Calls.mono (HCP.out _ HBEL.out.drew) ?_; rintro e w3 ⟨c3, rfl, hR3, hb3⟩; obtain ⟨v5, w5, hrun, hI5, hc5, hf5, A5, c5, rfl⟩ := HSTEP.out w3 c3 hR3 ((Below.refl _ wr).drew.trans hb3); have HRUN := Lib.hid hrun; have HI5 := Lib.hid hI5; have k1 : w3.cell? ⟨w.heap.size, 0, none⟩ = some sv := (hb3.cell (p := ⟨w.heap.size, 0, none⟩) HHD.out.lt).trans hc1; have k2 := Lib.cell?_alloc_some (.cells #[.slice (some ⟨wr.heap.size, 0, none⟩) L c3] 32) k1; clear hrun hI5 hR3 hb3) | (refine step_app rfl (.tmp 40) (.tmp 46) 42 rfl _ _ _ _ (by simp [Act.eval]) (by simp [Act.eval]) HRUN.out ?_))
            refine hK.out _ _ (by first | exact trivial | (try dsimp only; trivial)) (fun hHeld16 => ?_)
            clear hK K hHeld15
            (try simp only [Act.put, List.setIfInBounds_toArray, List.set_cons_zero, List.set_cons_succ])
            refine takeY 12 (some 48) rfl rfl (by kernel_rfl) (by kernel_rfl) (by kernel_rfl) (fun _ _ _ h => h) (by rfl) (v := _) (by (intro _ hSw; (try dsimp only at hSw); go_simp; try with_reducible rfl)) hHeld16 ?_
            simp only [Act.put, List.setIfInBounds_toArray, List.set_cons_zero, List.set_cons_succ]
            refine takeY 13 (some 49) rfl rfl (by kernel_rfl) (by kernel_rfl) (by kernel_rfl) (fun _ _ _ h => h) (by rfl) (v := _) (by (intro _ hSw; (try dsimp only at hSw); go_simp; try with_reducible rfl)) hHeld16 ?_
            simp only [Act.put, List.setIfInBounds_toArray, List.set_cons_zero, List.set_cons_succ]
            refine wpAnyH_ready (rs := [14]) (by kernel_rfl) (by simp) ?_
            refine AllReadyH.cons rfl (fun K hK => ?_) AllReadyH.nil
            go_simp
            refine hK.out _ _ (by first | exact trivial | (try dsimp only; trivial)) (fun hHeld17 => ?_)
            clear hK K hHeld16
            (try simp only [Act.put, List.setIfInBounds_toArray, List.set_cons_zero, List.set_cons_succ])
            refine wpAnyH_done (by kernel_rfl) ?_ _
            go_wp2_with fail
            go_roundw
            case rel => exact ⟨k + 1, by omega, by go_num, HFN2, _, HI5⟩
            case measure => simp [intOf]; omega
          refine AllReadyH.cons rfl (fun K hK => ?_) AllReadyH.nil
          go_simp
          refine hK.out _ _ (by first | exact trivial | (try dsimp only; trivial)) (fun hHeld18 => ?_)
          clear hK K hHeld13
          (try simp only [Act.put, List.setIfInBounds_toArray, List.set_cons_zero, List.set_cons_succ])
          refine wpAnyH_ready (rs := [4]) (by kernel_rfl) (by simp) ?_
          refine AllReadyH.cons rfl (fun K hK => ?_) AllReadyH.nil
          go_simp
          refine hK.out _ _ (by first | exact trivial | (try dsimp only; trivial)) (fun hHeld19 => ?_)
          clear hK K hHeld18
          (try simp only [Act.put, List.setIfInBounds_toArray, List.set_cons_zero, List.set_cons_succ])
          refine wpAnyH_ready (rs := [11]) (by kernel_rfl) (by simp) ?_
          refine AllReadyH.cons rfl (fun K hK => ?_) AllReadyH.nil
          (first | (go_at_call 35; refine Calls.mono (HCP.out _ HBEL.out.drew) ?_; rintro e w3 ⟨c3, rfl, hR3, hb3⟩; obtain ⟨v5, w5, hrun, hI5, hc5, hf5, A5, c5, rfl⟩ := HSTEP.out w3 c3 hR3 ((Below.refl _ wr).drew.trans hb3); have HRUN := Lib.hid hrun; have HI5 := Lib.hid hI5; have k1 : w3.cell? ⟨w.heap.size, 0, none⟩ = some sv := (hb3.cell (p := ⟨w.heap.size, 0, none⟩) HHD.out.lt).trans hc1; have k2 := Lib.cell?_alloc_some (.cells #[.slice (some ⟨wr.heap.size, 0, none⟩) L c3] 32) k1; clear hrun hI5 hR3 hb3) | (refine step_app rfl (.tmp 40) (.tmp 46) 42 rfl _ _ _ _ (by simp [Act.eval]) (by simp [Act.eval]) HRUN.out ?_))
          refine hK.out _ _ (by first | exact trivial | (try dsimp only; trivial)) (fun hHeld20 => ?_)
          clear hK K hHeld19
          (try simp only [Act.put, List.setIfInBounds_toArray, List.set_cons_zero, List.set_cons_succ])
          refine takeY 12 (some 48) rfl rfl (by kernel_rfl) (by kernel_rfl) (by kernel_rfl) (fun _ _ _ h => h) (by rfl) (v := _) (by (intro _ hSw; (try dsimp only at hSw); go_simp; try with_reducible rfl)) hHeld20 ?_
          simp only [Act.put, List.setIfInBounds_toArray, List.set_cons_zero, List.set_cons_succ]
          refine takeY 13 (some 49) rfl rfl (by kernel_rfl) (by kernel_rfl) (by kernel_rfl) (fun _ _ _ h => h) (by rfl) (v := _) (by (intro _ hSw; (try dsimp only at hSw); go_simp; try with_reducible rfl)) hHeld20 ?_
          simp only [Act.put, List.setIfInBounds_toArray, List.set_cons_zero, List.set_cons_succ]
          refine wpAnyH_ready (rs := [14]) (by kernel_rfl) (by simp) ?_
          refine AllReadyH.cons rfl (fun K hK => ?_) AllReadyH.nil
          go_simp
          refine hK.out _ _ (by first | exact trivial | (try dsimp only; trivial)) (fun hHeld21 => ?_)
          clear hK K hHeld20
          (try simp only [Act.put, List.setIfInBounds_toArray, List.set_cons_zero, List.set_cons_succ])
          refine wpAnyH_done (by kernel_rfl) ?_ _
          go_wp2_with fail
          go_roundw
          case rel => exact ⟨k + 1, by omega, by go_num, HFN2, _, HI5⟩
          case measure => simp [intOf]; omega
      · have d0 : ((L : Int) != 0) = true := by simp; omega
        have d6 : ((L : Int) != 256) = true := by simp; omega
        clear hz HFN
        go_wp2_with fail
        go_ret2
        exact ⟨rfl, HBEL.out⟩
    · obtain rfl : n = k := by omega
      have h := hFT.out
      rw [List.take_of_length_le (by rw [HL.out]; exact Nat.le_refl _), HF.out] at h
      cases h

end Go.Proofs.Ytdohfkblmadejaa
