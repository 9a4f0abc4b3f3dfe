/- cover: CoverLess. -/
import Derived.Test.YtigaondgopahgaaMm
namespace Go.Proofs.Ytigaondgopahgaa
open Go.RowKit Ty
set_option linter.unusedVariables false
set_option linter.unusedSimpArgs false
attribute [local go_sem] Oper.semAt_some
theorem PAt.take {F : Nat → Prop} {w : World} {A : Option Addr} {n c k : Nat} {ps : List Ty} (h : PAt F w A n c ps) (hk : k ≤ n) : PAt F w A k c (ps.take k) := by
  refine ⟨by rw [List.length_take]; have := h.len; omega, by have := h.le; omega, h.cap, ?_⟩
  have hA := h.at_
  cases hA with
  | nil A => rw [List.take_nil]; exact .nil _
  | mk b off ts Af cf hF hlt hc hk2 =>
    refine .mk b off _ Af cf hF hlt (fun r t ht => hc r t ?_) fun r t ht => hk2 r t ?_
    · rw [List.getElem?_take] at ht
      split at ht
      · exact ht
      · cases ht
    · rw [List.getElem?_take] at ht
      split at ht
      · exact ht
      · cases ht
theorem PAt.drop {F : Nat → Prop} {w : World} {b off n c k : Nat} {ps : List Ty} (h : PAt F w (some ⟨b, off, none⟩) n c ps) (hk : k ≤ n) : PAt F w (some ⟨b, off + k * 4, none⟩) (n - k) (c - k) (ps.drop k) := by
  refine ⟨by rw [List.length_drop]; have := h.len; omega, by have := h.le; omega, by have := h.cap; omega, ?_⟩
  have hA := h.at_
  cases hA with
  | nil A => rw [List.drop_nil]; exact .nil _
  | mk b off ts Af cf hF hlt hc hk2 =>
    refine .mk b (off + k * 4) _ (fun r => Af (k + r)) (fun r => cf (k + r)) hF hlt (fun r t ht => ?_) fun r t ht => ?_
    · rw [List.getElem?_drop] at ht
      obtain ⟨h1, h2⟩ := hc _ t ht
      refine ⟨fun j v hj => ?_, h2⟩
      rw [show off + k * 4 + r * 4 + j = off + (k + r) * 4 + j by omega]
      exact h1 j v hj
    · rw [List.getElem?_drop] at ht
      exact hk2 _ t ht
theorem less_sub (ps : List Ty) (k : Nat) : (ps.take k ++ ps.drop (k + 1)).Sublist ps := by
  rw [← List.eraseIdx_eq_take_drop_succ]
  exact List.eraseIdx_sublist ..
set_option maxRecDepth 20000 in
set_option maxHeartbeats 8000000 in
theorem less_law1 (ps : List Ty) (b off n t k : Nat) (w : World) (hA : PAt Everywhere w (some ⟨b, off, none⟩) n n ps) (ht : t < 256) (hn : 0 < n) (hk : t % n = k) (hcE : k + 1 = n) :
    Calls Try.prog 6 #[.slice (some ⟨b, off, none⟩) n n, .int .u8 (t : Int)] w fun e w' => e = .returned (.bool true) ∧ Below w.heap.size w w' := by
  have hkn : k < n := by rw [← hk]; exact Nat.mod_lt _ hn
  have hkm : (t : Int) % (n : Int) = (k : Int) := by rw [← hk]; omega
  have hcap := hA.cap
  have hle := hA.le
  unfold maxLen at hcap
  have hnx : n ≤ 9223372036854775807 := by omega
  have hn0 : (((n : Nat) : Int) == 0) = false := by simp; omega
  have HL := large_any ps (some ⟨b, off, none⟩) n n none 0 0 w hA (by omega)
  obtain ⟨lg, hlg⟩ : ∃ lg, largeB n 0 (wrap64 (partss ps : Nat)) = lg := ⟨_, rfl⟩
  rw [hlg] at HL
  replace HL := Lib.hid HL
  have HA := Lib.hid (And.intro hA hlg)
  have HK := Lib.hid hk
  have HCE := Lib.hid hcE
  clear hA hlg hk hcE
  go_enter Try.func6, Try.ntmps6
  go_wp2_with fail
  refine HL.out.mono ?_
  rintro e w0 ⟨rfl, rfl⟩
  have HBW : Hid (Below w.heap.size w w) := Lib.hid (Below.refl _ _)
  cases lg with
  | true =>
    go_wp2_with fail
    refine (works_any w).mono ?_
    rintro e wz ⟨rfl, hbz⟩
    have HBZ := Lib.hid (HBW.out.trans (hbz.mono HBW.out.size))
    clear hbz
    go_wp2_with fail
    go_ret
    exact ⟨rfl, HBZ.out⟩
  | false =>
    go_wp2_with fail
    refine (infos_any w).mono ?_
    rintro e w1 ⟨rfl, hI1, hb1⟩
    obtain ⟨k0, hk0⟩ : ∃ k0, told infosL ps false = k0 := ⟨_, rfl⟩
    obtain ⟨e0, he0⟩ : ∃ e0, errOf k0 = e0 := ⟨_, rfl⟩
    have HC0 := Lib.hid (checkI ps (some ⟨b, off, none⟩) n n _ false k0 e0 w1 (HA.out.1.bel hb1) hI1 hk0 he0)
    have HB1 := Lib.hid hb1
    have h4 := told_le infosL ps false
    rw [hk0] at h4
    clear hI1 hb1
    by_cases hz : k0 = 0
    · subst hz
      obtain rfl : e0 = 0 := by rw [← he0]; rfl
      have HK0 := Lib.hid hk0
      have hpp := told_parts hk0
      have hnn : n ≤ 200 := by have h1 := partss_len ps; have := HA.out.1.len; omega
      clear he0 hk0 h4 hpp
      go_wp2_with fail
      refine HC0.out.mono ?_
      rintro e w2 ⟨rfl, hb2⟩
      have hB2 := HB1.out.trans (hb2.mono HB1.out.size)
      have hA2 := HA.out.1.bel hB2
      clear hb2 HC0
      obtain ⟨v5, w5, fs, hrun, hO5, hfs, hfl, hgr⟩ := PtO.appA (F := fun b => b < w2.heap.size) (G := fun b => b < w2.heap.size) (PtO.nil _ w2.heap.size w2) (Nat.le_refl _) (PAt.take (k := k) ⟨hA2.len, hA2.le, hA2.cap, hA2.at_.bnd.mono fun _ h => h.2⟩ (by omega)) (fun e => by cases e) (fun b hb => ⟨hb, fun e => by cases e⟩) (by show 0 + k < _; omega)
      rw [List.nil_append] at hO5
      obtain ⟨A5, c5, rfl, _⟩ := hO5.shape
      rw [hfl] at hrun hO5
      have hB5 : Below w2.heap.size w2 w5 := PtO.bel (PtO.nil (fun b => b < w2.heap.size) w2.heap.size w2) hgr (Nat.le_refl _) (Nat.le_refl _)
      have hA5 := hA2.bel hB5
      have hdr : PAt (fun b => b < w2.heap.size) w5 (some ⟨b, off, none⟩) 0 0 (ps.drop (k + 1)) := by
        have : ps.drop (k + 1) = [] := List.drop_eq_nil_of_le (by have := HA.out.1.len; have := HCE.out; omega)
        rw [this]
        exact ⟨rfl, Nat.le_refl _, Nat.zero_le _, .nil _⟩
      obtain ⟨v6, w6, gs, hrun2, hO6, hgs, hgl, hgr2⟩ := hO5.appA hB5.size hdr (fun e => by cases e) (fun b' hb => ⟨hb, fun e => by have h1 := (hO5.own.lt b' e).1; omega⟩) (by rw [hfl]; omega)
      obtain ⟨A6, c6, rfl, hP6⟩ := hO6.shape
      obtain ⟨m6, hm6⟩ : ∃ m6, (fs ++ gs).length = m6 := ⟨_, rfl⟩
      rw [hm6] at hrun2 hP6
      have hmap : (fs ++ gs).map Te.t = ps.take k ++ ps.drop (k + 1) := by rw [List.map_append, hfs, hgs]
      rw [hmap] at hP6
      have hB6 : Below w2.heap.size w2 w6 := hB5.trans (hO5.bel hgr2 (Nat.le_refl _) hB5.size)
      have hs26 := hB6.size
      have HCL : Hid (∀ (W : World) (B : Option Addr), Below w6.heap.size w6 W → IAt Everywhere W B 8 8 infosX → Calls Try.prog 11 #[.slice A6 m6 c6, .slice B 8 8, .bool false] W fun e w' => e = .returned (.int .i64 0) ∧ Below W.heap.size W w') := Lib.hid fun W B hW hI => checkI _ A6 m6 c6 B false 0 0 W ((hP6.mono (G := Everywhere) fun _ _ => trivial).bel hW) hI (told_less HK0.out (less_sub ps k)) rfl
      have HCP : Hid (∀ (W : World) (B : Option Addr), Below w6.heap.size w6 W → IAt Everywhere W B 8 8 infosX → Calls Try.prog 11 #[.slice (some ⟨b, off, none⟩) k n, .slice B 8 8, .bool false] W fun e w' => e = .returned (.int .i64 0) ∧ Below W.heap.size W w') := Lib.hid fun W B hW hI => checkI _ (some ⟨b, off, none⟩) k n B false 0 0 W (((hA2.bel hB6).bel hW).take (by omega)) hI (told_less HK0.out (List.take_sublist ..)) rfl
      have HB6 := Lib.hid (hB2.trans (hB6.mono hB2.size))
      have HR := Lib.hid hrun
      have HR2 := Lib.hid hrun2
      clear hrun hrun2 hB2 hA2 hO5 hfs hfl hgr hB5 hA5 hdr hO6 hgs hgl hgr2 hP6 hm6 hmap hB6 hs26
      have hk1 : (0 : Int) ≤ (k : Int) + 1 := by omega
      go_upto_region 5 with fail
      have hrun := HR.out
      go_upto_region 6 with (at_builtin; refine wpList_app rfl _ _ 22 rfl _ _ _ _ rfl rfl hrun ?_)
      clear hrun HR
      have hce := HCE.out
      have hce2 : (k : Int) + 1 = (n : Int) := by omega
      have hrun2 := HR2.out
      go_upto_region 7 with (at_builtin; refine wpList_app rfl _ _ 22 rfl _ _ _ _ rfl rfl hrun2 ?_)
      clear hrun2 HR2 hce hce2
      have hkc1 : (0 : Int) ≤ (k : Int) := by omega
      have hkc2 : (k : Int) ≤ (n : Int) := by omega
      refine wp_region_held_drew (S := fun _ => True) (by kernel_rfl) trivial (fun hHeld => ?_)
      refine takeY 0 (some 37) rfl rfl (by kernel_rfl) (by kernel_rfl) (by kernel_rfl) (fun _ _ _ h => h) (by rfl) (v := _) (by (intro _ hSw; (try dsimp only at hSw); go_simp; try with_reducible rfl)) hHeld ?_
      simp only [Act.put, List.setIfInBounds_toArray, List.set_cons_zero, List.set_cons_succ]
      refine wpAnyH_ready (rs := [1]) (by kernel_rfl) (by simp) ?_
      refine AllReadyH.cons rfl (fun K hK => ?_) AllReadyH.nil
      clear hHeld
      go_simp
      go_wp2_with (go_at_call 16; refine Calls.mono (infos_any w6.drew) ?_; rintro e w8 ⟨rfl, hI8, hb8⟩; have hw8 : Below w6.heap.size w6 w8 := (Below.refl _ w6).drew.trans hb8)
      refine hK.out _ _ trivial (fun hHeld => ?_)
      clear hK K
      refine wpAnyH_ready (rs := [2]) (by kernel_rfl) (by simp) ?_
      refine AllReadyH.cons rfl (fun K hK => ?_) AllReadyH.nil
      clear hHeld
      go_simp
      go_wp2_with (go_at_call 11; refine Calls.mono (HCL.out _ _ hw8 hI8) ?_; rintro e w9 ⟨rfl, hb9⟩; have hw9 : Below w6.heap.size w6 w9 := hw8.trans (hb9.mono hw8.size))
      refine hK.out _ _ trivial (fun hHeld => ?_)
      clear hK K
      refine takeY 3 (some 40) rfl rfl (by kernel_rfl) (by kernel_rfl) (by kernel_rfl) (fun _ _ _ h => h) (by rfl) (v := _) (by (intro _ hSw; (try dsimp only at hSw); go_simp; try with_reducible rfl)) hHeld ?_
      simp only [Act.put, List.setIfInBounds_toArray, List.set_cons_zero, List.set_cons_succ]
      refine takeY 4 (some 41) rfl rfl (by kernel_rfl) (by kernel_rfl) (by kernel_rfl) (fun _ _ _ h => h) (by rfl) (v := _) (by (intro _ hSw; (try dsimp only at hSw); go_simp; try with_reducible rfl)) hHeld ?_
      simp only [Act.put, List.setIfInBounds_toArray, List.set_cons_zero, List.set_cons_succ]
      refine takeY 5 (some 42) rfl rfl (by kernel_rfl) (by kernel_rfl) (by kernel_rfl) (fun _ _ _ h => h) (by rfl) (v := _) (by (intro _ hSw; (try dsimp only at hSw); go_simp; try with_reducible rfl)) hHeld ?_
      simp only [Act.put, List.setIfInBounds_toArray, List.set_cons_zero, List.set_cons_succ]
      refine takeY 6 (some 43) rfl rfl (by kernel_rfl) (by kernel_rfl) (by kernel_rfl) (fun _ _ _ h => h) (by rfl) (v := _) (by (intro _ hSw; (try dsimp only at hSw); go_simp; try with_reducible rfl)) hHeld ?_
      simp only [Act.put, List.setIfInBounds_toArray, List.set_cons_zero, List.set_cons_succ]
      refine takeY 7 (some 44) rfl rfl (by kernel_rfl) (by kernel_rfl) (by kernel_rfl) (fun _ _ _ h => h) (by rfl) (v := _) (by (intro _ hSw; (try dsimp only at hSw); go_simp; try with_reducible rfl)) hHeld ?_
      simp only [Act.put, List.setIfInBounds_toArray, List.set_cons_zero, List.set_cons_succ]
      refine wpAnyH_ready (rs := [8]) (by kernel_rfl) (by simp) ?_
      refine AllReadyH.cons rfl (fun K hK => ?_) AllReadyH.nil
      clear hHeld
      go_simp
      go_wp2_with (go_at_call 16; refine Calls.mono (infos_any w9) ?_; rintro e w10 ⟨rfl, hI10, hb10⟩; have hw10 : Below w6.heap.size w6 w10 := hw9.trans (hb10.mono hw9.size))
      refine hK.out _ _ trivial (fun hHeld => ?_)
      clear hK K
      refine wpAnyH_ready (rs := [9]) (by kernel_rfl) (by simp) ?_
      refine AllReadyH.cons rfl (fun K hK => ?_) AllReadyH.nil
      clear hHeld
      go_simp
      go_wp2_with (go_at_call 11; refine Calls.mono (HCP.out _ _ hw10 hI10) ?_; rintro e w11 ⟨rfl, hb11⟩; have hw11 : Below w6.heap.size w6 w11 := hw10.trans (hb11.mono hw10.size))
      refine hK.out _ _ trivial (fun hHeld => ?_)
      clear hK K
      refine takeY 10 (some 47) rfl rfl (by kernel_rfl) (by kernel_rfl) (by kernel_rfl) (fun _ _ _ h => h) (by rfl) (v := _) (by (intro _ hSw; (try dsimp only at hSw); go_simp; try with_reducible rfl)) hHeld ?_
      simp only [Act.put, List.setIfInBounds_toArray, List.set_cons_zero, List.set_cons_succ]
      refine takeY 11 (some 48) rfl rfl (by kernel_rfl) (by kernel_rfl) (by kernel_rfl) (fun _ _ _ h => h) (by rfl) (v := _) (by (intro _ hSw; (try dsimp only at hSw); go_simp; try with_reducible rfl)) hHeld ?_
      simp only [Act.put, List.setIfInBounds_toArray, List.set_cons_zero, List.set_cons_succ]
      refine takeY 12 (some 49) rfl rfl (by kernel_rfl) (by kernel_rfl) (by kernel_rfl) (fun _ _ _ h => h) (by rfl) (v := _) (by (intro _ hSw; (try dsimp only at hSw); go_simp; try with_reducible rfl)) hHeld ?_
      simp only [Act.put, List.setIfInBounds_toArray, List.set_cons_zero, List.set_cons_succ]
      refine wpAnyH_ready (rs := [13]) (by kernel_rfl) (by simp) ?_
      refine AllReadyH.cons rfl (fun K hK => ?_) AllReadyH.nil
      clear hHeld
      go_simp
      go_wp2_with (go_at_call 10; refine Calls.mono (works_any w11) ?_; rintro e w12 ⟨rfl, hb12⟩; have hw12 : Below w6.heap.size w6 w12 := hw11.trans (hb12.mono hw11.size))
      refine hK.out _ _ trivial (fun hHeld => ?_)
      clear hK K
      refine takeY 14 (some 51) rfl rfl (by kernel_rfl) (by kernel_rfl) (by kernel_rfl) (fun _ _ _ h => h) (by rfl) (v := _) (by (intro _ hSw; (try dsimp only at hSw); go_simp; try with_reducible rfl)) hHeld ?_
      simp only [Act.put, List.setIfInBounds_toArray, List.set_cons_zero, List.set_cons_succ]
      refine takeY 15 (some 4) rfl rfl (by kernel_rfl) (by kernel_rfl) (by kernel_rfl) (fun _ _ _ h => h) (by rfl) (v := _) (by (intro _ hSw; (try dsimp only at hSw); go_simp; try with_reducible rfl)) hHeld ?_
      simp only [Act.put, List.setIfInBounds_toArray, List.set_cons_zero, List.set_cons_succ]
      refine wpAnyH_done (by kernel_rfl) ?_ _
      have HF := Lib.hid (HB6.out.trans (hw12.mono HB6.out.size))
      go_wp2_with fail
      go_ret
      exact ⟨rfl, HF.out⟩
    · have hne : (e0 != 0) = true := by
        have := errOf_pos hz h4
        rw [he0] at this
        simpa using this
      clear he0 hk0 h4 hz
      go_wp2_with fail
      refine HC0.out.mono ?_
      rintro e w2 ⟨rfl, hb2⟩
      have HB2 := Lib.hid (HB1.out.trans (hb2.mono HB1.out.size))
      clear hb2 HC0
      go_wp2_with fail
      refine (works_any w2).mono ?_
      rintro e wz ⟨rfl, hbz⟩
      have HBZ := Lib.hid (HB2.out.trans (hbz.mono HB2.out.size))
      clear hbz
      go_wp2_with fail
      go_ret
      exact ⟨rfl, HBZ.out⟩
set_option maxRecDepth 20000 in
set_option maxHeartbeats 8000000 in
theorem less_law2 (ps : List Ty) (b off n c t k : Nat) (w : World) (hA : PAt Everywhere w (some ⟨b, off, none⟩) n c ps) (ht : t < 256) (hn : 0 < n) (hk : t % n = k) (hcE : c ≠ k + 1) :
    Calls Try.prog 6 #[.slice (some ⟨b, off, none⟩) n c, .int .u8 (t : Int)] w fun e w' => e = .returned (.bool true) ∧ Below w.heap.size w w' := by
  have hkn : k < n := by rw [← hk]; exact Nat.mod_lt _ hn
  have hkm : (t : Int) % (n : Int) = (k : Int) := by rw [← hk]; omega
  have hcap := hA.cap
  have hle := hA.le
  unfold maxLen at hcap
  have hnx : n ≤ 9223372036854775807 := by omega
  have hn0 : (((n : Nat) : Int) == 0) = false := by simp; omega
  have HL := large_any ps (some ⟨b, off, none⟩) n c none 0 0 w hA (by omega)
  obtain ⟨lg, hlg⟩ : ∃ lg, largeB n 0 (wrap64 (partss ps : Nat)) = lg := ⟨_, rfl⟩
  rw [hlg] at HL
  replace HL := Lib.hid HL
  have HA := Lib.hid (And.intro hA hlg)
  have HK := Lib.hid hk
  clear hA hlg hk
  go_enter Try.func6, Try.ntmps6
  go_wp2_with fail
  refine HL.out.mono ?_
  rintro e w0 ⟨rfl, rfl⟩
  have HBW : Hid (Below w.heap.size w w) := Lib.hid (Below.refl _ _)
  cases lg with
  | true =>
    go_wp2_with fail
    refine (works_any w).mono ?_
    rintro e wz ⟨rfl, hbz⟩
    have HBZ := Lib.hid (HBW.out.trans (hbz.mono HBW.out.size))
    clear hbz
    go_wp2_with fail
    go_ret
    exact ⟨rfl, HBZ.out⟩
  | false =>
    go_wp2_with fail
    refine (infos_any w).mono ?_
    rintro e w1 ⟨rfl, hI1, hb1⟩
    obtain ⟨k0, hk0⟩ : ∃ k0, told infosL ps false = k0 := ⟨_, rfl⟩
    obtain ⟨e0, he0⟩ : ∃ e0, errOf k0 = e0 := ⟨_, rfl⟩
    have HC0 := Lib.hid (checkI ps (some ⟨b, off, none⟩) n c _ false k0 e0 w1 (HA.out.1.bel hb1) hI1 hk0 he0)
    have HB1 := Lib.hid hb1
    have h4 := told_le infosL ps false
    rw [hk0] at h4
    clear hI1 hb1
    by_cases hz : k0 = 0
    · subst hz
      obtain rfl : e0 = 0 := by rw [← he0]; rfl
      have HK0 := Lib.hid hk0
      have hpp := told_parts hk0
      have hnn : n ≤ 200 := by have h1 := partss_len ps; have := HA.out.1.len; omega
      clear he0 hk0 h4 hpp
      go_wp2_with fail
      refine HC0.out.mono ?_
      rintro e w2 ⟨rfl, hb2⟩
      have hB2 := HB1.out.trans (hb2.mono HB1.out.size)
      have hA2 := HA.out.1.bel hB2
      clear hb2 HC0
      obtain ⟨v5, w5, fs, hrun, hO5, hfs, hfl, hgr⟩ := PtO.appA (F := fun b => b < w2.heap.size) (G := fun b => b < w2.heap.size) (PtO.nil _ w2.heap.size w2) (Nat.le_refl _) (PAt.take (k := k) ⟨hA2.len, hA2.le, hA2.cap, hA2.at_.bnd.mono fun _ h => h.2⟩ (by omega)) (fun e => by cases e) (fun b hb => ⟨hb, fun e => by cases e⟩) (by show 0 + k < _; omega)
      rw [List.nil_append] at hO5
      obtain ⟨A5, c5, rfl, _⟩ := hO5.shape
      rw [hfl] at hrun hO5
      have hB5 : Below w2.heap.size w2 w5 := PtO.bel (PtO.nil (fun b => b < w2.heap.size) w2.heap.size w2) hgr (Nat.le_refl _) (Nat.le_refl _)
      have hA5 := hA2.bel hB5
      have hdr := PAt.drop (k := k + 1) (PAt.mk (F := fun b => b < w2.heap.size) hA2.len hA2.le hA2.cap (hA2.at_.bnd.mono fun _ h => h.2)) (by omega)
      obtain ⟨v6, w6, gs, hrun2, hO6, hgs, hgl, hgr2⟩ := hO5.appA hB5.size (hdr.bel hB5) (fun e => by cases e) (fun b' hb => ⟨hb, fun e => by have h1 := (hO5.own.lt b' e).1; omega⟩) (by rw [hfl]; omega)
      obtain ⟨A6, c6, rfl, hP6⟩ := hO6.shape
      obtain ⟨m6, hm6⟩ : ∃ m6, (fs ++ gs).length = m6 := ⟨_, rfl⟩
      rw [hm6] at hrun2 hP6
      have hmap : (fs ++ gs).map Te.t = ps.take k ++ ps.drop (k + 1) := by rw [List.map_append, hfs, hgs]
      rw [hmap] at hP6
      have hB6 : Below w2.heap.size w2 w6 := hB5.trans (hO5.bel hgr2 (Nat.le_refl _) hB5.size)
      have hs26 := hB6.size
      have HCL : Hid (∀ (W : World) (B : Option Addr), Below w6.heap.size w6 W → IAt Everywhere W B 8 8 infosX → Calls Try.prog 11 #[.slice A6 m6 c6, .slice B 8 8, .bool false] W fun e w' => e = .returned (.int .i64 0) ∧ Below W.heap.size W w') := Lib.hid fun W B hW hI => checkI _ A6 m6 c6 B false 0 0 W ((hP6.mono (G := Everywhere) fun _ _ => trivial).bel hW) hI (told_less HK0.out (less_sub ps k)) rfl
      have HCP : Hid (∀ (W : World) (B : Option Addr), Below w6.heap.size w6 W → IAt Everywhere W B 8 8 infosX → Calls Try.prog 11 #[.slice (some ⟨b, off, none⟩) k c, .slice B 8 8, .bool false] W fun e w' => e = .returned (.int .i64 0) ∧ Below W.heap.size W w') := Lib.hid fun W B hW hI => checkI _ (some ⟨b, off, none⟩) k c B false 0 0 W (((hA2.bel hB6).bel hW).take (by omega)) hI (told_less HK0.out (List.take_sublist ..)) rfl
      have HB6 := Lib.hid (hB2.trans (hB6.mono hB2.size))
      have HR := Lib.hid hrun
      have HR2 := Lib.hid hrun2
      clear hrun hrun2 hB2 hA2 hO5 hfs hfl hgr hB5 hA5 hdr hO6 hgs hgl hgr2 hP6 hm6 hmap hB6 hs26
      have hk1 : (0 : Int) ≤ (k : Int) + 1 := by omega
      have hk2 : ((k : Int) + 1).toNat = k + 1 := by omega
      have hk3 : k + 1 ≤ n := by omega
      go_upto_region 5 with fail
      have hrun := HR.out
      go_upto_region 6 with (at_builtin; refine wpList_app rfl _ _ 22 rfl _ _ _ _ rfl rfl hrun ?_)
      clear hrun HR
      have hrun2 := HR2.out
      go_upto_region 7 with (at_builtin; refine wpList_app rfl _ _ 22 rfl _ _ _ _ rfl rfl hrun2 ?_)
      clear hrun2 HR2
      have hkc1 : (0 : Int) ≤ (k : Int) := by omega
      have hkc2 : (k : Int) ≤ (c : Int) := by omega
      refine wp_region_held_drew (S := fun _ => True) (by kernel_rfl) trivial (fun hHeld => ?_)
      refine takeY 0 (some 37) rfl rfl (by kernel_rfl) (by kernel_rfl) (by kernel_rfl) (fun _ _ _ h => h) (by rfl) (v := _) (by (intro _ hSw; (try dsimp only at hSw); go_simp; try with_reducible rfl)) hHeld ?_
      simp only [Act.put, List.setIfInBounds_toArray, List.set_cons_zero, List.set_cons_succ]
      refine wpAnyH_ready (rs := [1]) (by kernel_rfl) (by simp) ?_
      refine AllReadyH.cons rfl (fun K hK => ?_) AllReadyH.nil
      clear hHeld
      go_simp
      go_wp2_with (go_at_call 16; refine Calls.mono (infos_any w6.drew) ?_; rintro e w8 ⟨rfl, hI8, hb8⟩; have hw8 : Below w6.heap.size w6 w8 := (Below.refl _ w6).drew.trans hb8)
      refine hK.out _ _ trivial (fun hHeld => ?_)
      clear hK K
      refine wpAnyH_ready (rs := [2]) (by kernel_rfl) (by simp) ?_
      refine AllReadyH.cons rfl (fun K hK => ?_) AllReadyH.nil
      clear hHeld
      go_simp
      go_wp2_with (go_at_call 11; refine Calls.mono (HCL.out _ _ hw8 hI8) ?_; rintro e w9 ⟨rfl, hb9⟩; have hw9 : Below w6.heap.size w6 w9 := hw8.trans (hb9.mono hw8.size))
      refine hK.out _ _ trivial (fun hHeld => ?_)
      clear hK K
      refine takeY 3 (some 40) rfl rfl (by kernel_rfl) (by kernel_rfl) (by kernel_rfl) (fun _ _ _ h => h) (by rfl) (v := _) (by (intro _ hSw; (try dsimp only at hSw); go_simp; try with_reducible rfl)) hHeld ?_
      simp only [Act.put, List.setIfInBounds_toArray, List.set_cons_zero, List.set_cons_succ]
      refine takeY 4 (some 41) rfl rfl (by kernel_rfl) (by kernel_rfl) (by kernel_rfl) (fun _ _ _ h => h) (by rfl) (v := _) (by (intro _ hSw; (try dsimp only at hSw); go_simp; try with_reducible rfl)) hHeld ?_
      simp only [Act.put, List.setIfInBounds_toArray, List.set_cons_zero, List.set_cons_succ]
      refine takeY 5 (some 42) rfl rfl (by kernel_rfl) (by kernel_rfl) (by kernel_rfl) (fun _ _ _ h => h) (by rfl) (v := _) (by (intro _ hSw; (try dsimp only at hSw); go_simp; try with_reducible rfl)) hHeld ?_
      simp only [Act.put, List.setIfInBounds_toArray, List.set_cons_zero, List.set_cons_succ]
      refine takeY 6 (some 43) rfl rfl (by kernel_rfl) (by kernel_rfl) (by kernel_rfl) (fun _ _ _ h => h) (by rfl) (v := _) (by (intro _ hSw; (try dsimp only at hSw); go_simp; try with_reducible rfl)) hHeld ?_
      simp only [Act.put, List.setIfInBounds_toArray, List.set_cons_zero, List.set_cons_succ]
      refine takeY 7 (some 44) rfl rfl (by kernel_rfl) (by kernel_rfl) (by kernel_rfl) (fun _ _ _ h => h) (by rfl) (v := _) (by (intro _ hSw; (try dsimp only at hSw); go_simp; try with_reducible rfl)) hHeld ?_
      simp only [Act.put, List.setIfInBounds_toArray, List.set_cons_zero, List.set_cons_succ]
      refine wpAnyH_ready (rs := [8]) (by kernel_rfl) (by simp) ?_
      refine AllReadyH.cons rfl (fun K hK => ?_) AllReadyH.nil
      clear hHeld
      go_simp
      go_wp2_with (go_at_call 16; refine Calls.mono (infos_any w9) ?_; rintro e w10 ⟨rfl, hI10, hb10⟩; have hw10 : Below w6.heap.size w6 w10 := hw9.trans (hb10.mono hw9.size))
      refine hK.out _ _ trivial (fun hHeld => ?_)
      clear hK K
      refine wpAnyH_ready (rs := [9]) (by kernel_rfl) (by simp) ?_
      refine AllReadyH.cons rfl (fun K hK => ?_) AllReadyH.nil
      clear hHeld
      go_simp
      go_wp2_with (go_at_call 11; refine Calls.mono (HCP.out _ _ hw10 hI10) ?_; rintro e w11 ⟨rfl, hb11⟩; have hw11 : Below w6.heap.size w6 w11 := hw10.trans (hb11.mono hw10.size))
      refine hK.out _ _ trivial (fun hHeld => ?_)
      clear hK K
      refine takeY 10 (some 47) rfl rfl (by kernel_rfl) (by kernel_rfl) (by kernel_rfl) (fun _ _ _ h => h) (by rfl) (v := _) (by (intro _ hSw; (try dsimp only at hSw); go_simp; try with_reducible rfl)) hHeld ?_
      simp only [Act.put, List.setIfInBounds_toArray, List.set_cons_zero, List.set_cons_succ]
      refine takeY 11 (some 48) rfl rfl (by kernel_rfl) (by kernel_rfl) (by kernel_rfl) (fun _ _ _ h => h) (by rfl) (v := _) (by (intro _ hSw; (try dsimp only at hSw); go_simp; try with_reducible rfl)) hHeld ?_
      simp only [Act.put, List.setIfInBounds_toArray, List.set_cons_zero, List.set_cons_succ]
      refine takeY 12 (some 49) rfl rfl (by kernel_rfl) (by kernel_rfl) (by kernel_rfl) (fun _ _ _ h => h) (by rfl) (v := _) (by (intro _ hSw; (try dsimp only at hSw); go_simp; try with_reducible rfl)) hHeld ?_
      simp only [Act.put, List.setIfInBounds_toArray, List.set_cons_zero, List.set_cons_succ]
      refine wpAnyH_ready (rs := [13]) (by kernel_rfl) (by simp) ?_
      refine AllReadyH.cons rfl (fun K hK => ?_) AllReadyH.nil
      clear hHeld
      go_simp
      go_wp2_with (go_at_call 10; refine Calls.mono (works_any w11) ?_; rintro e w12 ⟨rfl, hb12⟩; have hw12 : Below w6.heap.size w6 w12 := hw11.trans (hb12.mono hw11.size))
      refine hK.out _ _ trivial (fun hHeld => ?_)
      clear hK K
      refine takeY 14 (some 51) rfl rfl (by kernel_rfl) (by kernel_rfl) (by kernel_rfl) (fun _ _ _ h => h) (by rfl) (v := _) (by (intro _ hSw; (try dsimp only at hSw); go_simp; try with_reducible rfl)) hHeld ?_
      simp only [Act.put, List.setIfInBounds_toArray, List.set_cons_zero, List.set_cons_succ]
      refine takeY 15 (some 4) rfl rfl (by kernel_rfl) (by kernel_rfl) (by kernel_rfl) (fun _ _ _ h => h) (by rfl) (v := _) (by (intro _ hSw; (try dsimp only at hSw); go_simp; try with_reducible rfl)) hHeld ?_
      simp only [Act.put, List.setIfInBounds_toArray, List.set_cons_zero, List.set_cons_succ]
      refine wpAnyH_done (by kernel_rfl) ?_ _
      have HF := Lib.hid (HB6.out.trans (hw12.mono HB6.out.size))
      go_wp2_with fail
      go_ret
      exact ⟨rfl, HF.out⟩
    · have hne : (e0 != 0) = true := by
        have := errOf_pos hz h4
        rw [he0] at this
        simpa using this
      clear he0 hk0 h4 hz
      go_wp2_with fail
      refine HC0.out.mono ?_
      rintro e w2 ⟨rfl, hb2⟩
      have HB2 := Lib.hid (HB1.out.trans (hb2.mono HB1.out.size))
      clear hb2 HC0
      go_wp2_with fail
      refine (works_any w2).mono ?_
      rintro e wz ⟨rfl, hbz⟩
      have HBZ := Lib.hid (HB2.out.trans (hbz.mono HB2.out.size))
      clear hbz
      go_wp2_with fail
      go_ret
      exact ⟨rfl, HBZ.out⟩
set_option maxRecDepth 20000 in
set_option maxHeartbeats 8000000 in
theorem less_law0 (ps : List Ty) (A : Option Addr) (c t : Nat) (w : World) (hA : PAt Everywhere w A 0 c ps) :
    Calls Try.prog 6 #[.slice A 0 c, .int .u8 (t : Int)] w fun e w' => e = .returned (.bool true) ∧ Below w.heap.size w w' := by
  have HL := large_any ps A 0 c none 0 0 w hA (by omega)
  obtain ⟨lg, hlg⟩ : ∃ lg, largeB 0 0 (wrap64 (partss ps : Nat)) = lg := ⟨_, rfl⟩
  rw [hlg] at HL
  replace HL := Lib.hid HL
  have HBW : Hid (Below w.heap.size w w) := Lib.hid (Below.refl _ _)
  clear hA hlg
  go_enter Try.func6, Try.ntmps6
  go_wp2_with fail
  refine HL.out.mono ?_
  rintro e w0 ⟨rfl, rfl⟩
  cases lg with
  | true =>
    go_wp2_with fail
    refine (works_any w).mono ?_
    rintro e wz ⟨rfl, hbz⟩
    have HBZ := Lib.hid (HBW.out.trans (hbz.mono HBW.out.size))
    clear hbz
    go_wp2_with fail
    go_ret
    exact ⟨rfl, HBZ.out⟩
  | false =>
    go_wp2_with fail
    refine (works_any w).mono ?_
    rintro e wz ⟨rfl, hbz⟩
    have HBZ := Lib.hid (HBW.out.trans (hbz.mono HBW.out.size))
    clear hbz
    go_wp2_with fail
    go_ret
    exact ⟨rfl, HBZ.out⟩
theorem less_law (ps : List Ty) (A : Option Addr) (n c t : Nat) (w : World) (hA : PAt Everywhere w A n c ps) (ht : t < 256) :
    Calls Try.prog 6 #[.slice A n c, .int .u8 (t : Int)] w fun e w' => e = .returned (.bool true) ∧ Below w.heap.size w w' := by
  by_cases hn : n = 0
  · subst hn; exact less_law0 ps A c t w hA
  · cases ps with
    | nil => have := hA.len; simp at this; omega
    | cons p ps =>
      obtain ⟨b, off, _, _, rfl, _⟩ := hA.at_.get (r := 0) (t := p) rfl
      by_cases hc : c = t % n + 1
      · have hk : t % n < n := Nat.mod_lt _ (by omega)
        have hle := hA.le
        have hcn : c = n := by omega
        subst hcn
        exact less_law1 (p :: ps) b off c t (t % c) w hA ht (by omega) rfl (by omega)
      · exact less_law2 (p :: ps) b off n c t (t % n) w hA ht (by omega) rfl hc
end Go.Proofs.Ytigaondgopahgaa
