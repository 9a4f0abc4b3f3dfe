/- PagesPlays. -/
import Derived.Test.YtcmaehilgeonjaaAT
import Derived.Test.YtcmaehilgeonjaaAR
import Derived.Deep.RegionHeld3
namespace Go.Proofs.Ytcmaehilgeonjaa
open Go.RowKit Pgs
/-- Where a row has something, it lies below the world's size. -/
theorem Bytes.ne {w : World} {A : Option Addr} {bs : List UInt8} {n g : Nat} (h : Bytes w A bs) (hl : bs.length = n) (hg : w.heap.size ≤ g) : 0 < n → ∀ q : Addr, A = some q → q.block ≠ g := fun hn q hq => by
  obtain ⟨b, off, e, hlt, _⟩ := h.at_ (k := 0) (by omega)
  rw [hq] at e
  injection e with e
  subst e
  have : b < w.heap.size := hlt
  show b ≠ g
  omega
theorem conv_at {W : World} {A : Option Addr} {n c : Nat} {bs : List UInt8} {s : ByteArray} (hl : bs.length = n) (hB : Bytes W A bs) (hs : str bs = s) : ∀ W', Below W.heap.size W W' → (convert 30 9 (.slice A n c)).run Try.prog W' = .ok (.string s) W' := fun W' hW => by
  have := run_str8L W' A n c bs hl (hB.below hW)
  rw [hs] at this
  exact this
set_option maxRecDepth 20000 in
set_option maxHeartbeats 8000000 in
theorem playslaw (len cap : Nat) (A : Option Addr) (at_ : Int) (ls : List Ou) (w : World) (hlen : ls.length = len) (hA : Ops w A ls) :
    Calls Try.prog 3 #[.slice A len cap, .int .i64 at_] w fun e W' => e = .returned (.bool true) ∧ Below w.heap.size w W' := by
  have h0 := vast_any A len cap ls w hlen hA
  have HW := Lib.hid (fun W => works_any W)
  cases hv : vastB ls with
  | true =>
    rw [hv] at h0
    have H0 := Lib.hid h0
    have H1 := Lib.hid (HW.out w)
    clear hA hlen h0 hv
    go_enter Try.func3, Try.ntmps3
    go_wp2_with (first
      | (go_at_call 9; refine Calls.mono H0.out ?_; rintro e w' ⟨rfl, rfl⟩)
      | (go_at_call 10; refine Calls.mono H1.out ?_; rintro e w' ⟨rfl, hbw⟩))
    go_ret
    exact ⟨rfl, hbw⟩
  | false =>
    rw [hv] at h0
    have H0 := Lib.hid h0
    obtain ⟨hl200, hsm⟩ := vastB_no hv
    rw [hlen] at hl200
    have HSM := Lib.hid hsm
    have HA := Lib.hid hA
    have HL := Lib.hid hlen
    have H1 := Lib.hid (new_any w)
    clear hA hlen hv h0 hsm
    go_enter Try.func3, Try.ntmps3
    go_wp2_with fail
    refine H0.out.mono ?_
    rintro e w' ⟨rfl, rfl⟩
    go_wp2_with fail
    refine H1.out.mono ?_
    rintro e w1 ⟨rfl, hP, hb1⟩
    have H1 := Lib.hid (rnew_any w1)
    have hg1 : w.heap.size < w1.heap.size := hP.blk.lt
    obtain ⟨g1, e1⟩ : ∃ g1, w1.heap.size = g1 := ⟨_, rfl⟩
    go_wp2_with fail
    refine H1.out.mono ?_
    rintro e w2 ⟨rfl, hX, hb2⟩
    rw [e1] at hX hg1 ⊢
    have hP := hP.below hb2
    have hb2' := hb1.trans (hb2.mono hb1.size)
    have H1 := Lib.hid (copy_some w.heap.size none_ w2 hP)
    have hg2 : w.heap.size < w2.heap.size := hP.blk.lt
    have hg12 : g1 < w2.heap.size := hX.blk.lt
    obtain ⟨g2, e2⟩ : ∃ g2, w2.heap.size = g2 := ⟨_, rfl⟩
    clear hb2
    go_wp2_with fail
    refine H1.out.mono ?_
    rintro e w3 ⟨rfl, hH, hb3⟩
    rw [e2] at hH hg2 hg12 ⊢
    have hP := hP.below hb3
    have hX := hX.below hb3
    have hb3' := hb2'.trans (hb3.mono hb2'.size)
    have H1 := Lib.hid (rcopy_some g1 none_ w3 hX)
    have hg3 : g2 < w3.heap.size := hH.blk.lt
    obtain ⟨g3, e3⟩ : ∃ g3, w3.heap.size = g3 := ⟨_, rfl⟩
    clear hb3
    go_wp2_with fail
    refine H1.out.mono ?_
    rintro e w4 ⟨rfl, hS, hb4⟩
    rw [e3] at hS hg3 ⊢
    have HO : Hid (P4 w w4 g1 g2 g3 (playL ls 0) (playL ls 0) none_) := Lib.hid ⟨hP.below hb4, hX.below hb4, hH.below hb4, hS, hb3'.trans (hb4.mono hb3'.size), hg1, ⟨hg2, by omega⟩, ⟨by omega, by omega⟩⟩
    clear hP hX hH hS hb1 hb2' hb3' hb4 H1 H0 e1 e2 e3
    go_wp2_with fail
    go_loopw [7, 8, 9] (fun hv sv iv wr => ∃ (i h2 h3 : Nat) (H : List Nat), i ≤ len ∧ hv = .pointer (some ⟨h2, 0, none⟩) ∧ sv = .pointer (some ⟨h3, 0, none⟩) ∧ iv = .int .i64 (i : Int) ∧ Hid (P4 w wr g1 h2 h3 (playL ls i) (playL ls i) H)) (fun _ _ iv _ => len - (intOf iv).toNat)
    case atStart => exact ⟨0, g2, g3, none_, Nat.zero_le _, rfl, rfl, rfl, HO⟩
    case round =>
      clear HO hg2 hg3 hg12
      obtain ⟨i, h2, h3, H, hi, rfl, rfl, rfl, hI⟩ := hrel
      by_cases hlt : i < len
      · have hd : decide ((i : Int) < (len : Int)) = true := by simpa using hlt
        obtain ⟨o, ho⟩ : ∃ o, ls[i]? = some o := ⟨_, List.getElem?_eq_getElem (by rw [HL.out]; exact hlt)⟩
        obtain ⟨b, off, A3, n, c, rfl, _, hc, hn, hn1, hn2, hB⟩ := HA.out.at_ ho
        have hnb : n ≤ 1024 := by rw [← hn]; exact HSM.out o (List.mem_of_getElem? ho)
        have HC := Lib.hid (fun W hW => hc W hW)
        have HBY := Lib.hid hB
        have HNE := Lib.hid (hB.ne hn (Nat.le_of_lt hg1))
        have HN := Lib.hid hn
        have HPS := Lib.hid (playL_succ ho)
        clear hc hB hn ho
        obtain ⟨L, hL⟩ : ∃ L, playL ls i = L := ⟨_, rfl⟩
        rw [hL] at hI HPS
        clear hL
        obtain ⟨db, hdb⟩ : ∃ db, doesB L o = db := ⟨_, rfl⟩
        have hbb : (db != db) = false := by simp
        by_cases hm : i = len / 2
        · have hme : ((i : Int) == (len : Int) / 2) = true := by simp; omega
          have H1 := Lib.hid (copy_some w.heap.size L wr hI.out.m)
          have hq2 : w.heap.size < wr.heap.size := hI.out.m.blk.lt
          have hq1 : g1 < wr.heap.size := hI.out.x.blk.lt
          obtain ⟨q2, e2⟩ : ∃ q2, wr.heap.size = q2 := ⟨_, rfl⟩
          clear hm
          go_wp2_with fail
          refine H1.out.mono ?_
          rintro e w5 ⟨rfl, hH, hb5⟩
          rw [e2] at hH hq2 hq1 ⊢
          have H1 := Lib.hid (rcopy_some g1 L w5 (hI.out.x.below hb5))
          have hq3 : q2 < w5.heap.size := hH.blk.lt
          obtain ⟨q3, e3⟩ : ∃ q3, w5.heap.size = q3 := ⟨_, rfl⟩
          go_wp2_with fail
          refine H1.out.mono ?_
          rintro e w6 ⟨rfl, hS, hb6⟩
          rw [e3] at hS hq3 ⊢
          have HO : Hid (P4 w w6 g1 q2 q3 L L L) := Lib.hid ⟨(hI.out.m.below hb5).below hb6, (hI.out.x.below hb5).below hb6, hH.below hb6, hS, (hI.out.below hb5).bel.trans (hb6.mono (hI.out.below hb5).bel.size), hg1, ⟨hq2, by omega⟩, ⟨by omega, by omega⟩⟩
          clear hI hH hS hb5 hb6 e2 e3 H1 hq1 hq2 hq3
          have HO := Lib.hid HO.out.drew
          have hk0 := HC.out _ HO.out.bel
          have H1 := does_some w.heap.size n c A3 L o w6.drew HO.out.m HN.out hnb (HBY.out.below HO.out.bel)
          rw [hdb] at H1
          have H1 := Lib.hid H1
          have H2 : Hid (∀ W, P4 w W g1 q2 q3 (doesL L o) L L → Calls Try.prog 16 #[.pointer (some ⟨g1, 0, none⟩), .agg #[.int .i64 o.k, .int .i64 o.p, .int .i64 o.s, .slice A3 n c]] W fun e w' => e = .returned (.bool db) ∧ StR W w' g1 (doesL L o)) := Lib.hid (fun W hW => by
            have H1 := meant_some g1 n c A3 L o W hW.x HN.out (HBY.out.below hW.bel) HNE.out
            rw [hdb] at H1
            exact H1)
          go_upto_region 13 with fail
          refine wp_region_held_drew (S := fun W => W.cell? ⟨b, off + i * 4, none⟩ = some (.int .i64 o.k) ∧ W.cell? ⟨b, off + i * 4 + 1, none⟩ = some (.int .i64 o.p) ∧ W.cell? ⟨b, off + i * 4 + 2, none⟩ = some (.int .i64 o.s) ∧ W.cell? ⟨b, off + i * 4 + 3, none⟩ = some (.slice A3 n c)) (by kernel_rfl) hk0 (fun hHeld => ?_)
          refine takeY 0 (some 39) rfl rfl (by kernel_rfl) (by kernel_rfl) (by kernel_rfl) (fun _ _ _ h => h) (by rfl) (v := _) (by (intro _ hSw; (try dsimp only at hSw); go_simp; try with_reducible rfl)) hHeld ?_
          simp only [Act.put, List.setIfInBounds_toArray, List.set_cons_zero, List.set_cons_succ]
          refine takeY 1 (some 40) rfl rfl (by kernel_rfl) (by kernel_rfl) (by kernel_rfl) (fun _ _ _ h => h) (by rfl) (v := _) (by (intro _ hSw; (try dsimp only at hSw); go_simp; try with_reducible rfl)) hHeld ?_
          simp only [Act.put, List.setIfInBounds_toArray, List.set_cons_zero, List.set_cons_succ]
          refine takeY 2 (some 41) rfl rfl (by kernel_rfl) (by kernel_rfl) (by kernel_rfl) (fun _ _ _ h => h) (by rfl) (v := _) (by (intro _ hSw; (try dsimp only at hSw); go_simp; try with_reducible rfl)) hHeld ?_
          simp only [Act.put, List.setIfInBounds_toArray, List.set_cons_zero, List.set_cons_succ]
          refine takeY 3 (some 42) rfl rfl (by kernel_rfl) (by kernel_rfl) (by kernel_rfl) (fun _ _ _ h => h) (by rfl) (v := _) (by (intro _ hSw; (try dsimp only at hSw); go_simp; try with_reducible rfl)) hHeld ?_
          simp only [Act.put, List.setIfInBounds_toArray, List.set_cons_zero, List.set_cons_succ]
          refine takeY 4 (some 43) rfl rfl (by kernel_rfl) (by kernel_rfl) (by kernel_rfl) (fun _ _ _ h => h) (by rfl) (v := _) (by (intro _ hSw; (try dsimp only at hSw); go_simp; try with_reducible rfl)) hHeld ?_
          simp only [Act.put, List.setIfInBounds_toArray, List.set_cons_zero, List.set_cons_succ]
          refine takeY 6 (some 45) rfl rfl (by kernel_rfl) (by kernel_rfl) (by kernel_rfl) (fun _ _ _ h => h) (by rfl) (v := _) (by (intro _ hSw; (try dsimp only at hSw); go_simp; try with_reducible rfl)) hHeld ?_
          simp only [Act.put, List.setIfInBounds_toArray, List.set_cons_zero, List.set_cons_succ]
          refine takeY 7 (some 46) rfl rfl (by kernel_rfl) (by kernel_rfl) (by kernel_rfl) (fun _ _ _ h => h) (by rfl) (v := _) (by (intro _ hSw; (try dsimp only at hSw); go_simp; try with_reducible rfl)) hHeld ?_
          simp only [Act.put, List.setIfInBounds_toArray, List.set_cons_zero, List.set_cons_succ]
          refine takeY 8 (some 47) rfl rfl (by kernel_rfl) (by kernel_rfl) (by kernel_rfl) (fun _ _ _ h => h) (by rfl) (v := _) (by (intro _ hSw; (try dsimp only at hSw); go_simp; try with_reducible rfl)) hHeld ?_
          simp only [Act.put, List.setIfInBounds_toArray, List.set_cons_zero, List.set_cons_succ]
          refine takeY 9 (some 48) rfl rfl (by kernel_rfl) (by kernel_rfl) (by kernel_rfl) (fun _ _ _ h => h) (by rfl) (v := _) (by (intro _ hSw; (try dsimp only at hSw); go_simp; try with_reducible rfl)) hHeld ?_
          simp only [Act.put, List.setIfInBounds_toArray, List.set_cons_zero, List.set_cons_succ]
          refine takeY 10 (some 49) rfl rfl (by kernel_rfl) (by kernel_rfl) (by kernel_rfl) (fun _ _ _ h => h) (by rfl) (v := _) (by (intro _ hSw; (try dsimp only at hSw); go_simp; try with_reducible rfl)) hHeld ?_
          simp only [Act.put, List.setIfInBounds_toArray, List.set_cons_zero, List.set_cons_succ]
          refine wpAnyH_ready (rs := [5]) (by kernel_rfl) (by simp) ?_
          refine AllReadyH.cons rfl (fun K hK => ?_) AllReadyH.nil
          clear hHeld
          go_simp
          go_wp2_with (go_at_call 15; refine Calls.mono H1.out ?_; rintro e w7 ⟨rfl, hS⟩; have HO := Lib.hid (HO.out.stepm hS); have hk1 := HC.out _ HO.out.bel)
          refine hK.out _ _ hk1 (fun hHeld => ?_)
          clear hK K
          refine wpAnyH_ready (rs := [11]) (by kernel_rfl) (by simp) ?_
          refine AllReadyH.cons rfl (fun K hK => ?_) AllReadyH.nil
          clear hHeld
          go_simp
          go_wp2_with (go_at_call 16; refine Calls.mono (H2.out _ HO.out) ?_; rintro e w8 ⟨rfl, hS2⟩; have HO := Lib.hid (HO.out.stepx hS2); have hk2 := HC.out _ HO.out.bel)
          refine hK.out _ _ hk2 (fun hHeld => ?_)
          clear hK K
          refine takeY 12 (some 51) rfl rfl (by kernel_rfl) (by kernel_rfl) (by kernel_rfl) (fun _ _ _ h => h) (by rfl) (v := _) (by (intro _ hSw; (try dsimp only at hSw); go_simp; try with_reducible rfl)) hHeld ?_
          simp only [Act.put, List.setIfInBounds_toArray, List.set_cons_zero, List.set_cons_succ]
          refine wpAnyH_done (by kernel_rfl) ?_ _
          go_wp2_with fail
          go_roundw
          case rel => exact ⟨i + 1, q2, q3, L, by omega, rfl, rfl, by go_num, by rw [HPS.out]; exact HO⟩
          case measure => simp [intOf]; omega
        · have hme : ((i : Int) == (len : Int) / 2) = false := by simp; omega
          have HO := hI
          clear hI hm
          obtain ⟨w6, rfl⟩ : ∃ w6, w6 = wr := ⟨_, rfl⟩
          have HO := Lib.hid HO.out.drew
          have hk0 := HC.out _ HO.out.bel
          have H1 := does_some w.heap.size n c A3 L o w6.drew HO.out.m HN.out hnb (HBY.out.below HO.out.bel)
          rw [hdb] at H1
          have H1 := Lib.hid H1
          have H2 : Hid (∀ W, P4 w W g1 h2 h3 (doesL L o) L H → Calls Try.prog 16 #[.pointer (some ⟨g1, 0, none⟩), .agg #[.int .i64 o.k, .int .i64 o.p, .int .i64 o.s, .slice A3 n c]] W fun e w' => e = .returned (.bool db) ∧ StR W w' g1 (doesL L o)) := Lib.hid (fun W hW => by
            have H1 := meant_some g1 n c A3 L o W hW.x HN.out (HBY.out.below hW.bel) HNE.out
            rw [hdb] at H1
            exact H1)
          go_upto_region 13 with fail
          refine wp_region_held_drew (S := fun W => W.cell? ⟨b, off + i * 4, none⟩ = some (.int .i64 o.k) ∧ W.cell? ⟨b, off + i * 4 + 1, none⟩ = some (.int .i64 o.p) ∧ W.cell? ⟨b, off + i * 4 + 2, none⟩ = some (.int .i64 o.s) ∧ W.cell? ⟨b, off + i * 4 + 3, none⟩ = some (.slice A3 n c)) (by kernel_rfl) hk0 (fun hHeld => ?_)
          refine takeY 0 (some 39) rfl rfl (by kernel_rfl) (by kernel_rfl) (by kernel_rfl) (fun _ _ _ h => h) (by rfl) (v := _) (by (intro _ hSw; (try dsimp only at hSw); go_simp; try with_reducible rfl)) hHeld ?_
          simp only [Act.put, List.setIfInBounds_toArray, List.set_cons_zero, List.set_cons_succ]
          refine takeY 1 (some 40) rfl rfl (by kernel_rfl) (by kernel_rfl) (by kernel_rfl) (fun _ _ _ h => h) (by rfl) (v := _) (by (intro _ hSw; (try dsimp only at hSw); go_simp; try with_reducible rfl)) hHeld ?_
          simp only [Act.put, List.setIfInBounds_toArray, List.set_cons_zero, List.set_cons_succ]
          refine takeY 2 (some 41) rfl rfl (by kernel_rfl) (by kernel_rfl) (by kernel_rfl) (fun _ _ _ h => h) (by rfl) (v := _) (by (intro _ hSw; (try dsimp only at hSw); go_simp; try with_reducible rfl)) hHeld ?_
          simp only [Act.put, List.setIfInBounds_toArray, List.set_cons_zero, List.set_cons_succ]
          refine takeY 3 (some 42) rfl rfl (by kernel_rfl) (by kernel_rfl) (by kernel_rfl) (fun _ _ _ h => h) (by rfl) (v := _) (by (intro _ hSw; (try dsimp only at hSw); go_simp; try with_reducible rfl)) hHeld ?_
          simp only [Act.put, List.setIfInBounds_toArray, List.set_cons_zero, List.set_cons_succ]
          refine takeY 4 (some 43) rfl rfl (by kernel_rfl) (by kernel_rfl) (by kernel_rfl) (fun _ _ _ h => h) (by rfl) (v := _) (by (intro _ hSw; (try dsimp only at hSw); go_simp; try with_reducible rfl)) hHeld ?_
          simp only [Act.put, List.setIfInBounds_toArray, List.set_cons_zero, List.set_cons_succ]
          refine takeY 6 (some 45) rfl rfl (by kernel_rfl) (by kernel_rfl) (by kernel_rfl) (fun _ _ _ h => h) (by rfl) (v := _) (by (intro _ hSw; (try dsimp only at hSw); go_simp; try with_reducible rfl)) hHeld ?_
          simp only [Act.put, List.setIfInBounds_toArray, List.set_cons_zero, List.set_cons_succ]
          refine takeY 7 (some 46) rfl rfl (by kernel_rfl) (by kernel_rfl) (by kernel_rfl) (fun _ _ _ h => h) (by rfl) (v := _) (by (intro _ hSw; (try dsimp only at hSw); go_simp; try with_reducible rfl)) hHeld ?_
          simp only [Act.put, List.setIfInBounds_toArray, List.set_cons_zero, List.set_cons_succ]
          refine takeY 8 (some 47) rfl rfl (by kernel_rfl) (by kernel_rfl) (by kernel_rfl) (fun _ _ _ h => h) (by rfl) (v := _) (by (intro _ hSw; (try dsimp only at hSw); go_simp; try with_reducible rfl)) hHeld ?_
          simp only [Act.put, List.setIfInBounds_toArray, List.set_cons_zero, List.set_cons_succ]
          refine takeY 9 (some 48) rfl rfl (by kernel_rfl) (by kernel_rfl) (by kernel_rfl) (fun _ _ _ h => h) (by rfl) (v := _) (by (intro _ hSw; (try dsimp only at hSw); go_simp; try with_reducible rfl)) hHeld ?_
          simp only [Act.put, List.setIfInBounds_toArray, List.set_cons_zero, List.set_cons_succ]
          refine takeY 10 (some 49) rfl rfl (by kernel_rfl) (by kernel_rfl) (by kernel_rfl) (fun _ _ _ h => h) (by rfl) (v := _) (by (intro _ hSw; (try dsimp only at hSw); go_simp; try with_reducible rfl)) hHeld ?_
          simp only [Act.put, List.setIfInBounds_toArray, List.set_cons_zero, List.set_cons_succ]
          refine wpAnyH_ready (rs := [5]) (by kernel_rfl) (by simp) ?_
          refine AllReadyH.cons rfl (fun K hK => ?_) AllReadyH.nil
          clear hHeld
          go_simp
          go_wp2_with (go_at_call 15; refine Calls.mono H1.out ?_; rintro e w7 ⟨rfl, hS⟩; have HO := Lib.hid (HO.out.stepm hS); have hk1 := HC.out _ HO.out.bel)
          refine hK.out _ _ hk1 (fun hHeld => ?_)
          clear hK K
          refine wpAnyH_ready (rs := [11]) (by kernel_rfl) (by simp) ?_
          refine AllReadyH.cons rfl (fun K hK => ?_) AllReadyH.nil
          clear hHeld
          go_simp
          go_wp2_with (go_at_call 16; refine Calls.mono (H2.out _ HO.out) ?_; rintro e w8 ⟨rfl, hS2⟩; have HO := Lib.hid (HO.out.stepx hS2); have hk2 := HC.out _ HO.out.bel)
          refine hK.out _ _ hk2 (fun hHeld => ?_)
          clear hK K
          refine takeY 12 (some 51) rfl rfl (by kernel_rfl) (by kernel_rfl) (by kernel_rfl) (fun _ _ _ h => h) (by rfl) (v := _) (by (intro _ hSw; (try dsimp only at hSw); go_simp; try with_reducible rfl)) hHeld ?_
          simp only [Act.put, List.setIfInBounds_toArray, List.set_cons_zero, List.set_cons_succ]
          refine wpAnyH_done (by kernel_rfl) ?_ _
          go_wp2_with fail
          go_roundw
          case rel => exact ⟨i + 1, h2, h3, H, by omega, rfl, rfl, by go_num, by rw [HPS.out]; exact HO⟩
          case measure => simp [intOf]; omega
      · obtain rfl : len = i := by omega
        have hd : decide ((len : Int) < (len : Int)) = false := by simp
        obtain ⟨L, hL⟩ : ∃ L, playL ls len = L := ⟨_, rfl⟩
        rw [hL] at hI
        have HO := hI
        clear hI hL
        obtain ⟨y, hy⟩ : ∃ y, got L at_ = y := ⟨_, rfl⟩
        obtain ⟨yb, hyb⟩ : ∃ yb, decide (y ≠ 0) = yb := ⟨_, rfl⟩
        have G1 := get_some w.heap.size L at_ wr HO.out.m
        have G2 := rget_some g1 L at_ wr HO.out.x
        rw [hy, hyb] at G1 G2
        have G1 := Lib.hid G1
        have G2 := Lib.hid G2
        have hyy : ((y : Int) != (y : Int)) = false := by simp
        have hbb : (yb != yb) = false := by simp
        clear hy hyb
        go_wp2_with fail
        refine G1.out.mono ?_
        rintro e w' ⟨rfl, rfl⟩
        go_wp2_with fail
        refine G2.out.mono ?_
        rintro e w' ⟨rfl, rfl⟩
        clear G1 G2
        have H1 := Lib.hid (pages_some w.heap.size L _ HO.out.m)
        go_wp2_with fail
        refine H1.out.mono ?_
        rintro e u1 ⟨l1, rfl, hi1, _, hb⟩
        have HO := Lib.hid (HO.out.below hb)
        have H1 := Lib.hid (rpages_some g1 L u1 HO.out.x)
        have HI1 := Lib.hid hi1
        clear hi1 hb
        go_wp2_with fail
        refine H1.out.mono ?_
        rintro e u2 ⟨l2, rfl, hi2, _, hb⟩
        have HO := Lib.hid (HO.out.below hb)
        have H1 := Lib.hid (same_any l1 l2 _ u2 (hi1_below HI1.out hb) hi2)
        clear hi2 hb HI1
        go_wp2_with fail
        refine H1.out.mono ?_
        rintro e u3 ⟨rfl, hb⟩
        have HO := Lib.hid (HO.out.below hb)
        clear hb
        have H1 := Lib.hid (sectors_some w.heap.size L u3 HO.out.m)
        go_wp2_with fail
        refine H1.out.mono ?_
        rintro e u1 ⟨l1, rfl, hi1, _, hb⟩
        have HO := Lib.hid (HO.out.below hb)
        have H1 := Lib.hid (rsectors_some g1 L u1 HO.out.x)
        have HI1 := Lib.hid hi1
        clear hi1 hb
        go_wp2_with fail
        refine H1.out.mono ?_
        rintro e u2 ⟨l2, rfl, hi2, _, hb⟩
        have HO := Lib.hid (HO.out.below hb)
        have H1 := Lib.hid (same_any l1 l2 _ u2 (hi1_below HI1.out hb) hi2)
        clear hi2 hb HI1
        go_wp2_with fail
        refine H1.out.mono ?_
        rintro e u4 ⟨rfl, hb⟩
        have HO := Lib.hid (HO.out.below hb)
        clear hb
        have H1 := Lib.hid (turned_any _ _ L H u4 (.inr ⟨_, rfl, HO.out.m⟩) (.inr ⟨_, rfl, HO.out.h⟩))
        go_wp2_with fail
        refine H1.out.mono ?_
        rintro e u1 ⟨l1, rfl, hi1, _, hb⟩
        have HO := Lib.hid (HO.out.below hb)
        have H1 := Lib.hid (rturned_some g1 _ L H u1 HO.out.x (.inr ⟨_, rfl, HO.out.s⟩))
        have HI1 := Lib.hid hi1
        clear hi1 hb
        go_wp2_with fail
        refine H1.out.mono ?_
        rintro e u2 ⟨l2, rfl, hi2, _, hb⟩
        have HO := Lib.hid (HO.out.below hb)
        have H1 := Lib.hid (same_any l1 l2 _ u2 (hi1_below HI1.out hb) hi2)
        clear hi2 hb HI1
        go_wp2_with fail
        refine H1.out.mono ?_
        rintro e u5 ⟨rfl, hb⟩
        have HO := Lib.hid (HO.out.below hb)
        clear hb
        have H1 := Lib.hid (turned_any _ none H none_ u5 (.inr ⟨_, rfl, HO.out.h⟩) (.inl ⟨rfl, rfl⟩))
        go_wp2_with fail
        refine H1.out.mono ?_
        rintro e u1 ⟨l1, rfl, hi1, _, hb⟩
        have HO := Lib.hid (HO.out.below hb)
        have H1 := Lib.hid (rturned_some h3 none H none_ u1 HO.out.s (.inl ⟨rfl, rfl⟩))
        have HI1 := Lib.hid hi1
        clear hi1 hb
        go_wp2_with fail
        refine H1.out.mono ?_
        rintro e u2 ⟨l2, rfl, hi2, _, hb⟩
        have HO := Lib.hid (HO.out.below hb)
        have H1 := Lib.hid (same_any l1 l2 _ u2 (hi1_below HI1.out hb) hi2)
        clear hi2 hb HI1
        go_wp2_with fail
        refine H1.out.mono ?_
        rintro e u6 ⟨rfl, hb⟩
        have HO := Lib.hid (HO.out.below hb)
        clear hb
        go_wp2_with fail
        go_loopw [14] (fun iv wx => ∃ k : Nat, k ≤ 11 ∧ iv = .int .i64 ((k : Int) - 1) ∧ Hid (P4 w wx g1 h2 h3 L L H)) (fun iv _ => (10 - intOf iv).toNat)
        case atStart => exact ⟨0, by omega, rfl, HO⟩
        case round =>
          clear HO
          obtain ⟨k, hk, rfl, HO⟩ := hrel
          by_cases hlt : k < 11
          · obtain ⟨i, hi⟩ : ∃ i : Int, i = (k : Int) - 1 := ⟨_, rfl⟩
            have hd : decide (i ≤ 9) = true := by simp; omega
            have hr1 : -1 ≤ i := by omega
            have hr2 : i ≤ 9 := by omega
            have hk1 : k + 1 ≤ 11 := by omega
            have hi2 : i + 1 = ((k + 1 : Nat) : Int) - 1 := by omega
            have HK := Lib.hid hi2
            rw [← hi]
            clear hi hlt hk hi2
            have H1 := Lib.hid (fun W hW => part_any w.heap.size i L W hW)
            have H2 := Lib.hid (fun W hW => rpart_any g1 i L W hW)
            have H3 := Lib.hid (fun W hW => part_any h2 i H W hW)
            have H4 := Lib.hid (fun W hW => rpart_any h3 i H W hW)
            obtain ⟨s1, hs1⟩ : ∃ s, str (partI L i) = s := ⟨_, rfl⟩
            obtain ⟨s2, hs2⟩ : ∃ s, str (partI H i) = s := ⟨_, rfl⟩
            have HS1 := Lib.hid hs1
            have HS2 := Lib.hid hs2
            have hst1 : (s1.toList == s1.toList) = true := by simp
            have hst2 : (s2.toList == s2.toList) = true := by simp
            clear hs1 hs2
            have HO := Lib.hid HO.out.drew
            go_upto_region 22 with fail
            refine wp_region_held_drew (S := fun _ => True) (by kernel_rfl) trivial (fun hHeld => ?_)
            refine takeY 0 (some 110) rfl rfl (by kernel_rfl) (by kernel_rfl) (by kernel_rfl) (fun _ _ _ h => h) (by rfl) (v := _) (by (intro _ hSw; (try dsimp only at hSw); go_simp; try with_reducible rfl)) hHeld ?_
            simp only [Act.put, List.setIfInBounds_toArray, List.set_cons_zero, List.set_cons_succ]
            refine takeY 1 (some 111) rfl rfl (by kernel_rfl) (by kernel_rfl) (by kernel_rfl) (fun _ _ _ h => h) (by rfl) (v := _) (by (intro _ hSw; (try dsimp only at hSw); go_simp; try with_reducible rfl)) hHeld ?_
            simp only [Act.put, List.setIfInBounds_toArray, List.set_cons_zero, List.set_cons_succ]
            refine takeY 4 (some 114) rfl rfl (by kernel_rfl) (by kernel_rfl) (by kernel_rfl) (fun _ _ _ h => h) (by rfl) (v := _) (by (intro _ hSw; (try dsimp only at hSw); go_simp; try with_reducible rfl)) hHeld ?_
            simp only [Act.put, List.setIfInBounds_toArray, List.set_cons_zero, List.set_cons_succ]
            refine takeY 5 (some 115) rfl rfl (by kernel_rfl) (by kernel_rfl) (by kernel_rfl) (fun _ _ _ h => h) (by rfl) (v := _) (by (intro _ hSw; (try dsimp only at hSw); go_simp; try with_reducible rfl)) hHeld ?_
            simp only [Act.put, List.setIfInBounds_toArray, List.set_cons_zero, List.set_cons_succ]
            refine wpAnyH_ready (rs := [2]) (by kernel_rfl) (by simp) ?_
            refine AllReadyH.cons rfl (fun K hK => ?_) AllReadyH.nil
            clear hHeld
            go_simp
            go_wp2_with fail
            refine Calls.mono (H1.out _ HO.out.m) ?_
            rintro e v1 ⟨A1, n1, c1, rfl, hl1, hB1, hb1⟩
            have HO := Lib.hid (HO.out.below hb1)
            have HV1 := Lib.hid (conv_at (c := c1) hl1 hB1 HS1.out)
            have hv1 := HV1.out _ (Below.refl _ _)
            refine hK.out _ _ trivial (fun hHeld => ?_)
            clear hK K
            refine wpAnyH_ready (rs := [3, 6]) (by kernel_rfl) (by simp) ?_
            refine AllReadyH.cons rfl (fun K hK => ?_) (AllReadyH.cons rfl (fun K hK => ?_) AllReadyH.nil)
            · go_simp
              refine hK.out _ _ trivial (fun hHeld => ?_)
              clear hK K
              refine wpAnyH_ready (rs := [6]) (by kernel_rfl) (by simp) ?_
              refine AllReadyH.cons rfl (fun K hK => ?_) AllReadyH.nil
              clear hHeld
              go_simp
              go_wp2_with fail
              refine Calls.mono (H2.out _ HO.out.x) ?_
              rintro e v2 ⟨A2, n2, c2, rfl, hl2, hB2, hb2⟩
              have HO := Lib.hid (HO.out.below hb2)
              have HV2 := Lib.hid (conv_at (c := c2) hl2 hB2 HS1.out)
              have hv2 := HV2.out _ (Below.refl _ _)
              have hw2 := HV1.out _ hb2
              refine hK.out _ _ trivial (fun hHeld => ?_)
              clear hK K
              refine wpAnyH_ready (rs := [7]) (by kernel_rfl) (by simp) ?_
              refine AllReadyH.cons rfl (fun K hK => ?_) AllReadyH.nil
              go_simp
              refine hK.out _ _ trivial (fun hHeld => ?_)
              clear hK K
              refine takeY 8 (some 118) rfl rfl (by kernel_rfl) (by kernel_rfl) (by kernel_rfl) (fun _ _ _ h => h) (by rfl) (v := _) (by (intro _ hSw; (try dsimp only at hSw); go_simp; try with_reducible rfl)) hHeld ?_
              simp only [Act.put, List.setIfInBounds_toArray, List.set_cons_zero, List.set_cons_succ]
              refine takeY 9 (some 119) rfl rfl (by kernel_rfl) (by kernel_rfl) (by kernel_rfl) (fun _ _ _ h => h) (by rfl) (v := _) (by (intro _ hSw; (try dsimp only at hSw); go_simp; try with_reducible rfl)) hHeld ?_
              simp only [Act.put, List.setIfInBounds_toArray, List.set_cons_zero, List.set_cons_succ]
              refine takeY 10 (some 120) rfl rfl (by kernel_rfl) (by kernel_rfl) (by kernel_rfl) (fun _ _ _ h => h) (by rfl) (v := _) (by (intro _ hSw; (try dsimp only at hSw); go_simp; try with_reducible rfl)) hHeld ?_
              simp only [Act.put, List.setIfInBounds_toArray, List.set_cons_zero, List.set_cons_succ]
              refine takeY 11 (some 121) rfl rfl (by kernel_rfl) (by kernel_rfl) (by kernel_rfl) (fun _ _ _ h => h) (by rfl) (v := _) (by (intro _ hSw; (try dsimp only at hSw); go_simp; try with_reducible rfl)) hHeld ?_
              simp only [Act.put, List.setIfInBounds_toArray, List.set_cons_zero, List.set_cons_succ]
              refine takeY 14 (some 124) rfl rfl (by kernel_rfl) (by kernel_rfl) (by kernel_rfl) (fun _ _ _ h => h) (by rfl) (v := _) (by (intro _ hSw; (try dsimp only at hSw); go_simp; try with_reducible rfl)) hHeld ?_
              simp only [Act.put, List.setIfInBounds_toArray, List.set_cons_zero, List.set_cons_succ]
              refine takeY 15 (some 125) rfl rfl (by kernel_rfl) (by kernel_rfl) (by kernel_rfl) (fun _ _ _ h => h) (by rfl) (v := _) (by (intro _ hSw; (try dsimp only at hSw); go_simp; try with_reducible rfl)) hHeld ?_
              simp only [Act.put, List.setIfInBounds_toArray, List.set_cons_zero, List.set_cons_succ]
              refine wpAnyH_ready (rs := [12]) (by kernel_rfl) (by simp) ?_
              refine AllReadyH.cons rfl (fun K hK => ?_) AllReadyH.nil
              clear hHeld
              go_simp
              go_wp2_with fail
              refine Calls.mono (H3.out _ HO.out.h) ?_
              rintro e v7 ⟨A7, n7, c7, rfl, hl7, hB7, hb7⟩
              have HO := Lib.hid (HO.out.below hb7)
              have HV7 := Lib.hid (conv_at (c := c7) hl7 hB7 HS2.out)
              have hv7 := HV7.out _ (Below.refl _ _)
              refine hK.out _ _ trivial (fun hHeld => ?_)
              clear hK K
              refine wpAnyH_ready (rs := [13, 16]) (by kernel_rfl) (by simp) ?_
              refine AllReadyH.cons rfl (fun K hK => ?_) (AllReadyH.cons rfl (fun K hK => ?_) AllReadyH.nil)
              · go_simp
                refine hK.out _ _ trivial (fun hHeld => ?_)
                clear hK K
                refine wpAnyH_ready (rs := [16]) (by kernel_rfl) (by simp) ?_
                refine AllReadyH.cons rfl (fun K hK => ?_) AllReadyH.nil
                clear hHeld
                go_simp
                go_wp2_with fail
                refine Calls.mono (H4.out _ HO.out.s) ?_
                rintro e v8 ⟨A8, n8, c8, rfl, hl8, hB8, hb8⟩
                have HO := Lib.hid (HO.out.below hb8)
                have HV8 := Lib.hid (conv_at (c := c8) hl8 hB8 HS2.out)
                have hv8 := HV8.out _ (Below.refl _ _)
                have hw8 := HV7.out _ hb8
                refine hK.out _ _ trivial (fun hHeld => ?_)
                clear hK K
                refine wpAnyH_ready (rs := [17]) (by kernel_rfl) (by simp) ?_
                refine AllReadyH.cons rfl (fun K hK => ?_) AllReadyH.nil
                go_simp
                refine hK.out _ _ trivial (fun hHeld => ?_)
                clear hK K
                refine takeY 18 (some 128) rfl rfl (by kernel_rfl) (by kernel_rfl) (by kernel_rfl) (fun _ _ _ h => h) (by rfl) (v := _) (by (intro _ hSw; (try dsimp only at hSw); go_simp; try with_reducible rfl)) hHeld ?_
                simp only [Act.put, List.setIfInBounds_toArray, List.set_cons_zero, List.set_cons_succ]
                refine takeY 19 (some 129) rfl rfl (by kernel_rfl) (by kernel_rfl) (by kernel_rfl) (fun _ _ _ h => h) (by rfl) (v := _) (by (intro _ hSw; (try dsimp only at hSw); go_simp; try with_reducible rfl)) hHeld ?_
                simp only [Act.put, List.setIfInBounds_toArray, List.set_cons_zero, List.set_cons_succ]
                refine wpAnyH_done (by kernel_rfl) ?_ _
                have HO2 := HO
                clear HO
                go_wp2_with fail
                go_roundw
                case rel => exact ⟨k + 1, hk1, by rw [← HK.out], HO2⟩
                case measure => simp [intOf]; omega
              · clear hHeld
                go_simp
                go_wp2_with fail
                refine Calls.mono (H4.out _ HO.out.s) ?_
                rintro e v8 ⟨A8, n8, c8, rfl, hl8, hB8, hb8⟩
                have HO := Lib.hid (HO.out.below hb8)
                have HV8 := Lib.hid (conv_at (c := c8) hl8 hB8 HS2.out)
                have hv8 := HV8.out _ (Below.refl _ _)
                have hw8 := HV7.out _ hb8
                refine hK.out _ _ trivial (fun hHeld => ?_)
                clear hK K
                refine wpAnyH_ready (rs := [13, 17]) (by kernel_rfl) (by simp) ?_
                refine AllReadyH.cons rfl (fun K hK => ?_) (AllReadyH.cons rfl (fun K hK => ?_) AllReadyH.nil)
                · go_simp
                  refine hK.out _ _ trivial (fun hHeld => ?_)
                  clear hK K
                  refine wpAnyH_ready (rs := [17]) (by kernel_rfl) (by simp) ?_
                  refine AllReadyH.cons rfl (fun K hK => ?_) AllReadyH.nil
                  go_simp
                  refine hK.out _ _ trivial (fun hHeld => ?_)
                  clear hK K
                  refine takeY 18 (some 128) rfl rfl (by kernel_rfl) (by kernel_rfl) (by kernel_rfl) (fun _ _ _ h => h) (by rfl) (v := _) (by (intro _ hSw; (try dsimp only at hSw); go_simp; try with_reducible rfl)) hHeld ?_
                  simp only [Act.put, List.setIfInBounds_toArray, List.set_cons_zero, List.set_cons_succ]
                  refine takeY 19 (some 129) rfl rfl (by kernel_rfl) (by kernel_rfl) (by kernel_rfl) (fun _ _ _ h => h) (by rfl) (v := _) (by (intro _ hSw; (try dsimp only at hSw); go_simp; try with_reducible rfl)) hHeld ?_
                  simp only [Act.put, List.setIfInBounds_toArray, List.set_cons_zero, List.set_cons_succ]
                  refine wpAnyH_done (by kernel_rfl) ?_ _
                  have HO2 := HO
                  clear HO
                  go_wp2_with fail
                  go_roundw
                  case rel => exact ⟨k + 1, hk1, by rw [← HK.out], HO2⟩
                  case measure => simp [intOf]; omega
                · go_simp
                  refine hK.out _ _ trivial (fun hHeld => ?_)
                  clear hK K
                  refine wpAnyH_ready (rs := [13]) (by kernel_rfl) (by simp) ?_
                  refine AllReadyH.cons rfl (fun K hK => ?_) AllReadyH.nil
                  go_simp
                  refine hK.out _ _ trivial (fun hHeld => ?_)
                  clear hK K
                  refine takeY 18 (some 128) rfl rfl (by kernel_rfl) (by kernel_rfl) (by kernel_rfl) (fun _ _ _ h => h) (by rfl) (v := _) (by (intro _ hSw; (try dsimp only at hSw); go_simp; try with_reducible rfl)) hHeld ?_
                  simp only [Act.put, List.setIfInBounds_toArray, List.set_cons_zero, List.set_cons_succ]
                  refine takeY 19 (some 129) rfl rfl (by kernel_rfl) (by kernel_rfl) (by kernel_rfl) (fun _ _ _ h => h) (by rfl) (v := _) (by (intro _ hSw; (try dsimp only at hSw); go_simp; try with_reducible rfl)) hHeld ?_
                  simp only [Act.put, List.setIfInBounds_toArray, List.set_cons_zero, List.set_cons_succ]
                  refine wpAnyH_done (by kernel_rfl) ?_ _
                  have HO2 := HO
                  clear HO
                  go_wp2_with fail
                  go_roundw
                  case rel => exact ⟨k + 1, hk1, by rw [← HK.out], HO2⟩
                  case measure => simp [intOf]; omega
            · clear hHeld
              go_simp
              go_wp2_with fail
              refine Calls.mono (H2.out _ HO.out.x) ?_
              rintro e v2 ⟨A2, n2, c2, rfl, hl2, hB2, hb2⟩
              have HO := Lib.hid (HO.out.below hb2)
              have HV2 := Lib.hid (conv_at (c := c2) hl2 hB2 HS1.out)
              have hv2 := HV2.out _ (Below.refl _ _)
              have hw2 := HV1.out _ hb2
              refine hK.out _ _ trivial (fun hHeld => ?_)
              clear hK K
              refine wpAnyH_ready (rs := [3, 7]) (by kernel_rfl) (by simp) ?_
              refine AllReadyH.cons rfl (fun K hK => ?_) (AllReadyH.cons rfl (fun K hK => ?_) AllReadyH.nil)
              · go_simp
                refine hK.out _ _ trivial (fun hHeld => ?_)
                clear hK K
                refine wpAnyH_ready (rs := [7]) (by kernel_rfl) (by simp) ?_
                refine AllReadyH.cons rfl (fun K hK => ?_) AllReadyH.nil
                go_simp
                refine hK.out _ _ trivial (fun hHeld => ?_)
                clear hK K
                refine takeY 8 (some 118) rfl rfl (by kernel_rfl) (by kernel_rfl) (by kernel_rfl) (fun _ _ _ h => h) (by rfl) (v := _) (by (intro _ hSw; (try dsimp only at hSw); go_simp; try with_reducible rfl)) hHeld ?_
                simp only [Act.put, List.setIfInBounds_toArray, List.set_cons_zero, List.set_cons_succ]
                refine takeY 9 (some 119) rfl rfl (by kernel_rfl) (by kernel_rfl) (by kernel_rfl) (fun _ _ _ h => h) (by rfl) (v := _) (by (intro _ hSw; (try dsimp only at hSw); go_simp; try with_reducible rfl)) hHeld ?_
                simp only [Act.put, List.setIfInBounds_toArray, List.set_cons_zero, List.set_cons_succ]
                refine takeY 10 (some 120) rfl rfl (by kernel_rfl) (by kernel_rfl) (by kernel_rfl) (fun _ _ _ h => h) (by rfl) (v := _) (by (intro _ hSw; (try dsimp only at hSw); go_simp; try with_reducible rfl)) hHeld ?_
                simp only [Act.put, List.setIfInBounds_toArray, List.set_cons_zero, List.set_cons_succ]
                refine takeY 11 (some 121) rfl rfl (by kernel_rfl) (by kernel_rfl) (by kernel_rfl) (fun _ _ _ h => h) (by rfl) (v := _) (by (intro _ hSw; (try dsimp only at hSw); go_simp; try with_reducible rfl)) hHeld ?_
                simp only [Act.put, List.setIfInBounds_toArray, List.set_cons_zero, List.set_cons_succ]
                refine takeY 14 (some 124) rfl rfl (by kernel_rfl) (by kernel_rfl) (by kernel_rfl) (fun _ _ _ h => h) (by rfl) (v := _) (by (intro _ hSw; (try dsimp only at hSw); go_simp; try with_reducible rfl)) hHeld ?_
                simp only [Act.put, List.setIfInBounds_toArray, List.set_cons_zero, List.set_cons_succ]
                refine takeY 15 (some 125) rfl rfl (by kernel_rfl) (by kernel_rfl) (by kernel_rfl) (fun _ _ _ h => h) (by rfl) (v := _) (by (intro _ hSw; (try dsimp only at hSw); go_simp; try with_reducible rfl)) hHeld ?_
                simp only [Act.put, List.setIfInBounds_toArray, List.set_cons_zero, List.set_cons_succ]
                refine wpAnyH_ready (rs := [12]) (by kernel_rfl) (by simp) ?_
                refine AllReadyH.cons rfl (fun K hK => ?_) AllReadyH.nil
                clear hHeld
                go_simp
                go_wp2_with fail
                refine Calls.mono (H3.out _ HO.out.h) ?_
                rintro e v7 ⟨A7, n7, c7, rfl, hl7, hB7, hb7⟩
                have HO := Lib.hid (HO.out.below hb7)
                have HV7 := Lib.hid (conv_at (c := c7) hl7 hB7 HS2.out)
                have hv7 := HV7.out _ (Below.refl _ _)
                refine hK.out _ _ trivial (fun hHeld => ?_)
                clear hK K
                refine wpAnyH_ready (rs := [13, 16]) (by kernel_rfl) (by simp) ?_
                refine AllReadyH.cons rfl (fun K hK => ?_) (AllReadyH.cons rfl (fun K hK => ?_) AllReadyH.nil)
                · go_simp
                  refine hK.out _ _ trivial (fun hHeld => ?_)
                  clear hK K
                  refine wpAnyH_ready (rs := [16]) (by kernel_rfl) (by simp) ?_
                  refine AllReadyH.cons rfl (fun K hK => ?_) AllReadyH.nil
                  clear hHeld
                  go_simp
                  go_wp2_with fail
                  refine Calls.mono (H4.out _ HO.out.s) ?_
                  rintro e v8 ⟨A8, n8, c8, rfl, hl8, hB8, hb8⟩
                  have HO := Lib.hid (HO.out.below hb8)
                  have HV8 := Lib.hid (conv_at (c := c8) hl8 hB8 HS2.out)
                  have hv8 := HV8.out _ (Below.refl _ _)
                  have hw8 := HV7.out _ hb8
                  refine hK.out _ _ trivial (fun hHeld => ?_)
                  clear hK K
                  refine wpAnyH_ready (rs := [17]) (by kernel_rfl) (by simp) ?_
                  refine AllReadyH.cons rfl (fun K hK => ?_) AllReadyH.nil
                  go_simp
                  refine hK.out _ _ trivial (fun hHeld => ?_)
                  clear hK K
                  refine takeY 18 (some 128) rfl rfl (by kernel_rfl) (by kernel_rfl) (by kernel_rfl) (fun _ _ _ h => h) (by rfl) (v := _) (by (intro _ hSw; (try dsimp only at hSw); go_simp; try with_reducible rfl)) hHeld ?_
                  simp only [Act.put, List.setIfInBounds_toArray, List.set_cons_zero, List.set_cons_succ]
                  refine takeY 19 (some 129) rfl rfl (by kernel_rfl) (by kernel_rfl) (by kernel_rfl) (fun _ _ _ h => h) (by rfl) (v := _) (by (intro _ hSw; (try dsimp only at hSw); go_simp; try with_reducible rfl)) hHeld ?_
                  simp only [Act.put, List.setIfInBounds_toArray, List.set_cons_zero, List.set_cons_succ]
                  refine wpAnyH_done (by kernel_rfl) ?_ _
                  have HO2 := HO
                  clear HO
                  go_wp2_with fail
                  go_roundw
                  case rel => exact ⟨k + 1, hk1, by rw [← HK.out], HO2⟩
                  case measure => simp [intOf]; omega
                · clear hHeld
                  go_simp
                  go_wp2_with fail
                  refine Calls.mono (H4.out _ HO.out.s) ?_
                  rintro e v8 ⟨A8, n8, c8, rfl, hl8, hB8, hb8⟩
                  have HO := Lib.hid (HO.out.below hb8)
                  have HV8 := Lib.hid (conv_at (c := c8) hl8 hB8 HS2.out)
                  have hv8 := HV8.out _ (Below.refl _ _)
                  have hw8 := HV7.out _ hb8
                  refine hK.out _ _ trivial (fun hHeld => ?_)
                  clear hK K
                  refine wpAnyH_ready (rs := [13, 17]) (by kernel_rfl) (by simp) ?_
                  refine AllReadyH.cons rfl (fun K hK => ?_) (AllReadyH.cons rfl (fun K hK => ?_) AllReadyH.nil)
                  · go_simp
                    refine hK.out _ _ trivial (fun hHeld => ?_)
                    clear hK K
                    refine wpAnyH_ready (rs := [17]) (by kernel_rfl) (by simp) ?_
                    refine AllReadyH.cons rfl (fun K hK => ?_) AllReadyH.nil
                    go_simp
                    refine hK.out _ _ trivial (fun hHeld => ?_)
                    clear hK K
                    refine takeY 18 (some 128) rfl rfl (by kernel_rfl) (by kernel_rfl) (by kernel_rfl) (fun _ _ _ h => h) (by rfl) (v := _) (by (intro _ hSw; (try dsimp only at hSw); go_simp; try with_reducible rfl)) hHeld ?_
                    simp only [Act.put, List.setIfInBounds_toArray, List.set_cons_zero, List.set_cons_succ]
                    refine takeY 19 (some 129) rfl rfl (by kernel_rfl) (by kernel_rfl) (by kernel_rfl) (fun _ _ _ h => h) (by rfl) (v := _) (by (intro _ hSw; (try dsimp only at hSw); go_simp; try with_reducible rfl)) hHeld ?_
                    simp only [Act.put, List.setIfInBounds_toArray, List.set_cons_zero, List.set_cons_succ]
                    refine wpAnyH_done (by kernel_rfl) ?_ _
                    have HO2 := HO
                    clear HO
                    go_wp2_with fail
                    go_roundw
                    case rel => exact ⟨k + 1, hk1, by rw [← HK.out], HO2⟩
                    case measure => simp [intOf]; omega
                  · go_simp
                    refine hK.out _ _ trivial (fun hHeld => ?_)
                    clear hK K
                    refine wpAnyH_ready (rs := [13]) (by kernel_rfl) (by simp) ?_
                    refine AllReadyH.cons rfl (fun K hK => ?_) AllReadyH.nil
                    go_simp
                    refine hK.out _ _ trivial (fun hHeld => ?_)
                    clear hK K
                    refine takeY 18 (some 128) rfl rfl (by kernel_rfl) (by kernel_rfl) (by kernel_rfl) (fun _ _ _ h => h) (by rfl) (v := _) (by (intro _ hSw; (try dsimp only at hSw); go_simp; try with_reducible rfl)) hHeld ?_
                    simp only [Act.put, List.setIfInBounds_toArray, List.set_cons_zero, List.set_cons_succ]
                    refine takeY 19 (some 129) rfl rfl (by kernel_rfl) (by kernel_rfl) (by kernel_rfl) (fun _ _ _ h => h) (by rfl) (v := _) (by (intro _ hSw; (try dsimp only at hSw); go_simp; try with_reducible rfl)) hHeld ?_
                    simp only [Act.put, List.setIfInBounds_toArray, List.set_cons_zero, List.set_cons_succ]
                    refine wpAnyH_done (by kernel_rfl) ?_ _
                    have HO2 := HO
                    clear HO
                    go_wp2_with fail
                    go_roundw
                    case rel => exact ⟨k + 1, hk1, by rw [← HK.out], HO2⟩
                    case measure => simp [intOf]; omega
              · go_simp
                refine hK.out _ _ trivial (fun hHeld => ?_)
                clear hK K
                refine wpAnyH_ready (rs := [3]) (by kernel_rfl) (by simp) ?_
                refine AllReadyH.cons rfl (fun K hK => ?_) AllReadyH.nil
                go_simp
                refine hK.out _ _ trivial (fun hHeld => ?_)
                clear hK K
                refine takeY 8 (some 118) rfl rfl (by kernel_rfl) (by kernel_rfl) (by kernel_rfl) (fun _ _ _ h => h) (by rfl) (v := _) (by (intro _ hSw; (try dsimp only at hSw); go_simp; try with_reducible rfl)) hHeld ?_
                simp only [Act.put, List.setIfInBounds_toArray, List.set_cons_zero, List.set_cons_succ]
                refine takeY 9 (some 119) rfl rfl (by kernel_rfl) (by kernel_rfl) (by kernel_rfl) (fun _ _ _ h => h) (by rfl) (v := _) (by (intro _ hSw; (try dsimp only at hSw); go_simp; try with_reducible rfl)) hHeld ?_
                simp only [Act.put, List.setIfInBounds_toArray, List.set_cons_zero, List.set_cons_succ]
                refine takeY 10 (some 120) rfl rfl (by kernel_rfl) (by kernel_rfl) (by kernel_rfl) (fun _ _ _ h => h) (by rfl) (v := _) (by (intro _ hSw; (try dsimp only at hSw); go_simp; try with_reducible rfl)) hHeld ?_
                simp only [Act.put, List.setIfInBounds_toArray, List.set_cons_zero, List.set_cons_succ]
                refine takeY 11 (some 121) rfl rfl (by kernel_rfl) (by kernel_rfl) (by kernel_rfl) (fun _ _ _ h => h) (by rfl) (v := _) (by (intro _ hSw; (try dsimp only at hSw); go_simp; try with_reducible rfl)) hHeld ?_
                simp only [Act.put, List.setIfInBounds_toArray, List.set_cons_zero, List.set_cons_succ]
                refine takeY 14 (some 124) rfl rfl (by kernel_rfl) (by kernel_rfl) (by kernel_rfl) (fun _ _ _ h => h) (by rfl) (v := _) (by (intro _ hSw; (try dsimp only at hSw); go_simp; try with_reducible rfl)) hHeld ?_
                simp only [Act.put, List.setIfInBounds_toArray, List.set_cons_zero, List.set_cons_succ]
                refine takeY 15 (some 125) rfl rfl (by kernel_rfl) (by kernel_rfl) (by kernel_rfl) (fun _ _ _ h => h) (by rfl) (v := _) (by (intro _ hSw; (try dsimp only at hSw); go_simp; try with_reducible rfl)) hHeld ?_
                simp only [Act.put, List.setIfInBounds_toArray, List.set_cons_zero, List.set_cons_succ]
                refine wpAnyH_ready (rs := [12]) (by kernel_rfl) (by simp) ?_
                refine AllReadyH.cons rfl (fun K hK => ?_) AllReadyH.nil
                clear hHeld
                go_simp
                go_wp2_with fail
                refine Calls.mono (H3.out _ HO.out.h) ?_
                rintro e v7 ⟨A7, n7, c7, rfl, hl7, hB7, hb7⟩
                have HO := Lib.hid (HO.out.below hb7)
                have HV7 := Lib.hid (conv_at (c := c7) hl7 hB7 HS2.out)
                have hv7 := HV7.out _ (Below.refl _ _)
                refine hK.out _ _ trivial (fun hHeld => ?_)
                clear hK K
                refine wpAnyH_ready (rs := [13, 16]) (by kernel_rfl) (by simp) ?_
                refine AllReadyH.cons rfl (fun K hK => ?_) (AllReadyH.cons rfl (fun K hK => ?_) AllReadyH.nil)
                · go_simp
                  refine hK.out _ _ trivial (fun hHeld => ?_)
                  clear hK K
                  refine wpAnyH_ready (rs := [16]) (by kernel_rfl) (by simp) ?_
                  refine AllReadyH.cons rfl (fun K hK => ?_) AllReadyH.nil
                  clear hHeld
                  go_simp
                  go_wp2_with fail
                  refine Calls.mono (H4.out _ HO.out.s) ?_
                  rintro e v8 ⟨A8, n8, c8, rfl, hl8, hB8, hb8⟩
                  have HO := Lib.hid (HO.out.below hb8)
                  have HV8 := Lib.hid (conv_at (c := c8) hl8 hB8 HS2.out)
                  have hv8 := HV8.out _ (Below.refl _ _)
                  have hw8 := HV7.out _ hb8
                  refine hK.out _ _ trivial (fun hHeld => ?_)
                  clear hK K
                  refine wpAnyH_ready (rs := [17]) (by kernel_rfl) (by simp) ?_
                  refine AllReadyH.cons rfl (fun K hK => ?_) AllReadyH.nil
                  go_simp
                  refine hK.out _ _ trivial (fun hHeld => ?_)
                  clear hK K
                  refine takeY 18 (some 128) rfl rfl (by kernel_rfl) (by kernel_rfl) (by kernel_rfl) (fun _ _ _ h => h) (by rfl) (v := _) (by (intro _ hSw; (try dsimp only at hSw); go_simp; try with_reducible rfl)) hHeld ?_
                  simp only [Act.put, List.setIfInBounds_toArray, List.set_cons_zero, List.set_cons_succ]
                  refine takeY 19 (some 129) rfl rfl (by kernel_rfl) (by kernel_rfl) (by kernel_rfl) (fun _ _ _ h => h) (by rfl) (v := _) (by (intro _ hSw; (try dsimp only at hSw); go_simp; try with_reducible rfl)) hHeld ?_
                  simp only [Act.put, List.setIfInBounds_toArray, List.set_cons_zero, List.set_cons_succ]
                  refine wpAnyH_done (by kernel_rfl) ?_ _
                  have HO2 := HO
                  clear HO
                  go_wp2_with fail
                  go_roundw
                  case rel => exact ⟨k + 1, hk1, by rw [← HK.out], HO2⟩
                  case measure => simp [intOf]; omega
                · clear hHeld
                  go_simp
                  go_wp2_with fail
                  refine Calls.mono (H4.out _ HO.out.s) ?_
                  rintro e v8 ⟨A8, n8, c8, rfl, hl8, hB8, hb8⟩
                  have HO := Lib.hid (HO.out.below hb8)
                  have HV8 := Lib.hid (conv_at (c := c8) hl8 hB8 HS2.out)
                  have hv8 := HV8.out _ (Below.refl _ _)
                  have hw8 := HV7.out _ hb8
                  refine hK.out _ _ trivial (fun hHeld => ?_)
                  clear hK K
                  refine wpAnyH_ready (rs := [13, 17]) (by kernel_rfl) (by simp) ?_
                  refine AllReadyH.cons rfl (fun K hK => ?_) (AllReadyH.cons rfl (fun K hK => ?_) AllReadyH.nil)
                  · go_simp
                    refine hK.out _ _ trivial (fun hHeld => ?_)
                    clear hK K
                    refine wpAnyH_ready (rs := [17]) (by kernel_rfl) (by simp) ?_
                    refine AllReadyH.cons rfl (fun K hK => ?_) AllReadyH.nil
                    go_simp
                    refine hK.out _ _ trivial (fun hHeld => ?_)
                    clear hK K
                    refine takeY 18 (some 128) rfl rfl (by kernel_rfl) (by kernel_rfl) (by kernel_rfl) (fun _ _ _ h => h) (by rfl) (v := _) (by (intro _ hSw; (try dsimp only at hSw); go_simp; try with_reducible rfl)) hHeld ?_
                    simp only [Act.put, List.setIfInBounds_toArray, List.set_cons_zero, List.set_cons_succ]
                    refine takeY 19 (some 129) rfl rfl (by kernel_rfl) (by kernel_rfl) (by kernel_rfl) (fun _ _ _ h => h) (by rfl) (v := _) (by (intro _ hSw; (try dsimp only at hSw); go_simp; try with_reducible rfl)) hHeld ?_
                    simp only [Act.put, List.setIfInBounds_toArray, List.set_cons_zero, List.set_cons_succ]
                    refine wpAnyH_done (by kernel_rfl) ?_ _
                    have HO2 := HO
                    clear HO
                    go_wp2_with fail
                    go_roundw
                    case rel => exact ⟨k + 1, hk1, by rw [← HK.out], HO2⟩
                    case measure => simp [intOf]; omega
                  · go_simp
                    refine hK.out _ _ trivial (fun hHeld => ?_)
                    clear hK K
                    refine wpAnyH_ready (rs := [13]) (by kernel_rfl) (by simp) ?_
                    refine AllReadyH.cons rfl (fun K hK => ?_) AllReadyH.nil
                    go_simp
                    refine hK.out _ _ trivial (fun hHeld => ?_)
                    clear hK K
                    refine takeY 18 (some 128) rfl rfl (by kernel_rfl) (by kernel_rfl) (by kernel_rfl) (fun _ _ _ h => h) (by rfl) (v := _) (by (intro _ hSw; (try dsimp only at hSw); go_simp; try with_reducible rfl)) hHeld ?_
                    simp only [Act.put, List.setIfInBounds_toArray, List.set_cons_zero, List.set_cons_succ]
                    refine takeY 19 (some 129) rfl rfl (by kernel_rfl) (by kernel_rfl) (by kernel_rfl) (fun _ _ _ h => h) (by rfl) (v := _) (by (intro _ hSw; (try dsimp only at hSw); go_simp; try with_reducible rfl)) hHeld ?_
                    simp only [Act.put, List.setIfInBounds_toArray, List.set_cons_zero, List.set_cons_succ]
                    refine wpAnyH_done (by kernel_rfl) ?_ _
                    have HO2 := HO
                    clear HO
                    go_wp2_with fail
                    go_roundw
                    case rel => exact ⟨k + 1, hk1, by rw [← HK.out], HO2⟩
                    case measure => simp [intOf]; omega
          · obtain rfl : 11 = k := by omega
            have hd : decide (((11 : Nat) : Int) - 1 ≤ 9) = false := by simp
            have HB := Lib.hid HO.out.bel
            have H1 := Lib.hid (HW.out wr)
            go_wp2_with fail
            refine H1.out.mono ?_
            rintro e w10 ⟨rfl, hb⟩
            go_wp2_with fail
            go_ret
            exact ⟨rfl, HB.out.trans (hb.mono HB.out.size)⟩
end Go.Proofs.Ytcmaehilgeonjaa
