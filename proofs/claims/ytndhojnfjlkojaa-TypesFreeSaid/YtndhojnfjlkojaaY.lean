/- types: bind. -/
import Derived.Test.YtndhojnfjlkojaaUn
import Derived.Deep.RegionLaw
namespace Go.Proofs.Ytndhojnfjlkojaa
open Go.RowKit
set_option linter.unusedVariables false
set_option linter.unusedSimpArgs false
attribute [local go_sem] Oper.semAt_some
open Ty
set_option maxRecDepth 20000 in
set_option maxHeartbeats 8000000 in
theorem bind_any {g gu N : Nat} {a b : Ty} {Aa : Option Addr} {ca : Nat} {Aw : Option Addr} {cw : Nat} {l : List (Int × Ty)} {S : Int → Ty} {vb vt : Value} (hS : Slv N (look l) S) (n : Nat) (hn : n < N) (hl : look l (n : Int) = none) (t : Ty) (A : Option Addr) (c : Nat) (w : World)
    (hg : good N t) (hv : t.k = 1 → t.n < (n : Int) ∧ look l t.n = none) (hT : Tm (Mut g vb vt) w t A c) (hB : BM w g N l vb vt) (hU : Un (Mut g vb vt) w g gu N a b Aa ca Aw cw) :
    Calls Try.prog 50 #[.pointer (some ⟨gu, 0, none⟩), .int .i64 (n : Int), t.val A c] w fun en w' => ∃ e : Nat, ∃ l' S' vt', en = .returned (.int .i64 (e : Int)) ∧ Uni N a b (tvar (n : Int)) t l S e l' S' ∧ BM w' g N l' vb vt' ∧ Go w g vb vt w' vb vt' := by
  obtain ⟨tl, htl⟩ : ∃ tl, t.ks.length = tl := ⟨_, rfl⟩
  obtain ⟨w0, hw0⟩ : ∃ w0, w.alloc (.cells #[.int .u8 (t.k : Int), .string (str t.nm), .int .i64 t.n, .slice A tl c] 24) = w0 := ⟨_, rfl⟩
  have hb0 : Below w.heap.size w w0 := by rw [← hw0]; exact (Below.refl _ _).alloc (Nat.le_refl _) _
  have hT0 : Blk w0 w.heap.size 24 #[.int .u8 (t.k : Int), .string (str t.nm), .int .i64 t.n, .slice A tl c] := by rw [← hw0]; exact Blk.new _ _ _
  have hpm : ¬ Mut g vb vt w.heap.size := fun h => by have := hB.lt h; omega
  have hB0 := hB.bel hb0
  have hU0 := hU.bel hb0
  have hTm0 := hT.bel hb0
  obtain ⟨Ab, cb, hvb, _, _⟩ := hB0.shape
  have hBk := (hvb ▸ hB0 : BM w0 g N l (.slice Ab N cb) vt).bk
  have HC := within_any hS (n : Int) (gu := gu) (meas N S t + 1) t A c w0 (Nat.lt_succ_self _) hg hTm0.tb hBk hU0.blk.lt (hU0.blk.cell 0)
  have d0 := hT0.cell 0
  have d1 := hT0.cell 1
  have d2 := hT0.cell 2
  have d3 := hT0.cell 3
  simp only [List.getElem?_toArray, List.getElem?_cons_zero, List.getElem?_cons_succ] at d0 d1 d2 d3
  unfold Ty.val at HC ⊢
  rw [htl] at HC ⊢
  replace HC := Lib.hid HC
  have HS := Lib.hid (And.intro hS (And.intro hg (And.intro hv (And.intro hn hl))))
  have HI := Lib.hid (And.intro hb0 (And.intro hT0 (And.intro hB0 (And.intro hU0 (And.intro hTm0 (And.intro hpm htl))))))
  clear hb0 hT0 hpm hB0 hU0 hTm0 hvb hBk hS hg hv hT hB hU hl
  go_enter Try.func50, Try.ntmps50
  go_upto_region 1 with fail
  (try rw [hw0])
  clear hw0
  go_wp2_with fail
  refine HC.out.mono ?_
  rintro e w1 ⟨bin, rfl, hbi, hb1⟩
  have HB1 := Lib.hid (And.intro hb1 hbi)
  clear hb1 hbi HC d0 d1 d2 d3
  cases bin with
  | true =>
    go_wp2_with fail
    go_ret
    exact ⟨13, l, S, vt, rfl, bind_in HS.out.1 HS.out.2.2.2.2 HS.out.2.1 HS.out.2.2.1 (HB1.out.2.1 trivial), HI.out.2.2.1.bel HB1.out.1, Go.bel _ _ _ (HI.out.1.trans (HB1.out.1.mono HI.out.1.size))⟩
  | false =>
    have hB1 := HI.out.2.2.1.bel HB1.out.1
    have hU1 := HI.out.2.2.2.1.bel HB1.out.1
    have hT1 := HI.out.2.1.below HB1.out.1 HI.out.2.1.lt
    rw [← HI.out.2.2.2.2.2.2] at hT1
    obtain ⟨bb, cb, rfl, ⟨pv0, c0⟩, cf, hbg, hnx⟩ := hB1.bind hn HS.out.2.2.2.2 hT1 HI.out.2.2.2.2.2.1 (HI.out.2.2.2.2.1.bel HB1.out.1)
    have u0 := hU1.blk.cell 0
    have g0 := hB1.blk.cell 0
    simp only [List.getElem?_toArray, List.getElem?_cons_zero, List.getElem?_cons_succ] at u0 g0
    have hNc : N ≤ cb ∧ cb ≤ maxLen := by obtain ⟨A1, c1, e, k⟩ := hB1.shape; cases e; exact k
    obtain ⟨w2, hw2⟩ : ∃ w2, w1.setCell ⟨bb, n, none⟩ (.pointer (some ⟨w.heap.size, 0, none⟩)) = w2 := ⟨_, rfl⟩
    have ho2 : Off (fun b => b = bb) w1 w2 := by rw [← hw2]; exact Off.setc _ _ _ _
    have hs2 : w2.heap.size = w1.heap.size := by rw [← hw2]; simp [World.setCell]
    obtain ⟨wa, hwa⟩ : ∃ wa, (w2.alloc (.cells #[.int .i64 (n : Int)] 3)).drew = wa := ⟨_, rfl⟩
    have hba : Below w2.heap.size w2 wa := by rw [← hwa]; exact ((Below.refl _ _).alloc (Nat.le_refl _) _).drew
    have hqa : wa.cell? ⟨w2.heap.size, 0, none⟩ = some (.int .i64 (n : Int)) := by
      rw [← hwa]; exact (Blk.new w2 3 #[.int .i64 (n : Int)]).cell 0
    obtain ⟨At, ct, At', ct', w3, rfl, hrun, k0, k1, kf, ho3, hB4, hgo4⟩ := hnx w2 wa w2.heap.size hw2 hba hqa
    have hgub : ¬ (gu = bb) := fun e => hU1.ng (.inr (.inl (by rw [e]; rfl)))
    have hU2 : Blk w2 gu 60 #[.pointer (some ⟨g, 0, none⟩), .int .u8 (a.k : Int), .string (str a.nm), .int .i64 a.n, .slice Aa a.ks.length ca, .int .u8 (b.k : Int), .string (str b.nm), .int .i64 b.n, .slice Aw b.ks.length cw] := hU1.blk.off ho2 hgub
    have hU3 : Blk w3 gu 60 #[.pointer (some ⟨g, 0, none⟩), .int .u8 (a.k : Int), .string (str a.nm), .int .i64 a.n, .slice Aa a.ks.length ca, .int .u8 (b.k : Int), .string (str b.nm), .int .i64 b.n, .slice Aw b.ks.length cw] := hU1.blk.off ho3 (fun e => by rcases e with e | e; exact hgub e.symm; exact hU1.ng (.inr (.inr e)))
    have hg2 : Blk w2 g 63 #[.slice (some ⟨bb, 0, none⟩) N cb, .slice At l.length ct] := hB1.blk.off ho2 (fun e => hbg e.symm)
    have u2 := hU2.cell 0
    have g20 := hg2.cell 0
    have g21 := hg2.cell 1
    have u3 := hU3.cell 0
    simp only [List.getElem?_toArray, List.getElem?_cons_zero, List.getElem?_cons_succ] at u2 g20 g21 u3
    have ua : wa.cell? ⟨gu, 0, none⟩ = some (.pointer (some ⟨g, 0, none⟩)) := (hba.cell (p := ⟨gu, 0, none⟩) hU2.lt).trans u2
    have ga0 : wa.cell? ⟨g, 0, none⟩ = some (.slice (some ⟨bb, 0, none⟩) N cb) := (hba.cell (p := ⟨g, 0, none⟩) hg2.lt).trans g20
    have ga1 : wa.cell? ⟨g, 1, none⟩ = some (.slice At l.length ct) := (hba.cell (p := ⟨g, 1, none⟩) hg2.lt).trans g21
    obtain ⟨ll, hll⟩ : ∃ ll, l.length = ll := ⟨_, rfl⟩
    rw [hll] at hrun k1 hB4 hgo4 g21 ga1
    obtain ⟨w4, hw4⟩ : ∃ w4, w3.setCell ⟨g, 1, none⟩ (.slice At' (ll + 1) ct') = w4 := ⟨_, rfl⟩
    rw [hw4] at hB4 hgo4
    have hgo := (Go.bel g (.slice (some ⟨bb, 0, none⟩) N cb) (.slice At l.length ct) (HI.out.1.trans (HB1.out.1.mono HI.out.1.size))).trans (by rw [hll]; exact hgo4)
    have hU4 := hU1.go (by rw [hll]; exact hgo4)
    have hin : (n : Int) ∉ (t.sub S).nums := fun h => by have := HB1.out.2.2 h; cases this
    have hsl := bind_slv HS.out.1 HS.out.2.2.2.2 (Int.natCast_nonneg n) (by have := HS.out.2.2.2.1; omega) HS.out.2.1 HS.out.2.2.1 hin
    obtain ⟨S', hS'⟩ : ∃ S', (fun x => (S x).sub (step1 (n : Int) (t.sub S))) = S' := ⟨_, rfl⟩
    have hbo := fun e he => bind_out (a := a) (b := b) HS.out.1 HS.out.2.2.2.2 (Int.natCast_nonneg n) (by have := HS.out.2.2.2.1; omega) HS.out.2.1 HS.out.2.2.1 hin e he
    rw [hS'] at hsl
    simp only [hS'] at hbo
    have HRUN := Lib.hid hrun
    have HW4 := Lib.hid hw4
    have HB4 := Lib.hid (And.intro hB4 (And.intro hU4 (And.intro hsl (And.intro hbo hgo))))
    clear hB1 hU1 hT1 hnx ho2 hs2 hba hqa hrun ho3 hB4 hgo4 hgub hU2 hU3 hg2 hw4 hgo hU4 hin hsl hbo hS' hll hbg
    go_upto_region 4 with fail
    (try rw [hw2])
    clear hw2 c0 cf u0 g0
    go_cut [20] from 20 to 35 (fun s wx => s = .pointer (some ⟨gu, 0, none⟩) ∧ wx = w4)
    case first =>
      go_region_law (refine step_app rfl (.tmp 30) (.tmp 32) 44 rfl _ _ _ _ (by simp [Act.eval]) (by simp [Act.eval]) HRUN.out ?_)
      all_goals
        go_wp2_with fail
        go_meet
        exact ⟨rfl, HW4.out⟩
    case rest =>
      obtain ⟨rfl, hwc⟩ := hcut
      obtain rfl : w4 = wc := hwc.symm
      clear u2 g20 g21 k0 k1 kf u3 ua ga0 ga1 hwa HRUN HW4
      have v0 := HB4.out.2.1.blk.cell 0
      have v1 := HB4.out.2.1.blk.cell 1
      have v2 := HB4.out.2.1.blk.cell 2
      have v3 := HB4.out.2.1.blk.cell 3
      have v4 := HB4.out.2.1.blk.cell 4
      have v5 := HB4.out.2.1.blk.cell 5
      have v6 := HB4.out.2.1.blk.cell 6
      have v7 := HB4.out.2.1.blk.cell 7
      have v8 := HB4.out.2.1.blk.cell 8
      simp only [List.getElem?_toArray, List.getElem?_cons_zero, List.getElem?_cons_succ] at v0 v1 v2 v3 v4 v5 v6 v7 v8
      have hbk4 := HB4.out.1.bk
      have hd4 : Below w4.heap.size w4 w4.drew := (Below.refl _ _).drew
      have HG : Hid (∀ (x : Ty) (Ax : Option Addr) (cx : Nat) (W : World), good N x → Tb w4.heap.size w4 x Ax cx → Below w4.heap.size w4 W → Calls Try.prog 41 #[.pointer (some ⟨g, 0, none⟩), x.val Ax cx] W fun e w' => ∃ b, e = .returned (.bool b) ∧ (b = true ↔ great (x.sub S')) ∧ Below W.heap.size W w') := Lib.hid fun x Ax cx W hgx hTx hW => great_any HB4.out.2.2.1 x Ax cx W hgx (hTx.bel hW) (hbk4.bel hW)
      clear hbk4
      have HC1 := HG.out a Aa ca w4.drew HB4.out.2.1.ga HB4.out.2.1.ta.tb hd4
      have HC2 := fun (W : World) (hW : Below w4.heap.size w4 W) => HG.out b Aw cw W HB4.out.2.1.gb HB4.out.2.1.tb.tb hW
      obtain ⟨al, hal⟩ : ∃ al, a.ks.length = al := ⟨_, rfl⟩
      obtain ⟨bl, hbl⟩ : ∃ bl, b.ks.length = bl := ⟨_, rfl⟩
      unfold Ty.val at HC1 HC2
      rw [hal] at HC1 v4
      simp only [hbl] at HC2 v8
      replace HC2 := Lib.hid HC2
      clear hd4
      by_cases hga : great (a.sub S')
      · have HC1 : Hid (Calls Try.prog 41 #[.pointer (some ⟨g, 0, none⟩), .agg #[.int .u8 (a.k : Int), .string (str a.nm), .int .i64 a.n, .slice Aa al ca]] w4.drew fun e w' => e = .returned (.bool true) ∧ Below w4.heap.size w4 w') := Lib.hid (HC1.mono fun e w' h => by
          obtain ⟨b1, rfl, h1, h2⟩ := h
          rw [h1.2 hga]
          exact ⟨rfl, (show Below w4.heap.size w4 w4.drew from (Below.refl _ _).drew).trans h2⟩)
        have HGA := Lib.hid hga
        clear hga
        go_upto_region 5 with fail
        have hS0 := And.intro v0 (And.intro v1 (And.intro v2 (And.intro v3 (And.intro v4 (And.intro v5 (And.intro v6 (And.intro v7 v8)))))))
        clear v0 v1 v2 v3 v4 v5 v6 v7 v8
        refine wp_region_held_drew (S := (fun W => W.cell? ⟨gu, 0, none⟩ = some (.pointer (some ⟨g, 0, none⟩)) ∧ W.cell? ⟨gu, 1, none⟩ = some (.int .u8 (a.k : Int)) ∧ W.cell? ⟨gu, 2, none⟩ = some (.string (str a.nm)) ∧ W.cell? ⟨gu, 3, none⟩ = some (.int .i64 a.n) ∧ W.cell? ⟨gu, 4, none⟩ = some (.slice Aa al ca) ∧ W.cell? ⟨gu, 5, none⟩ = some (.int .u8 (b.k : Int)) ∧ W.cell? ⟨gu, 6, none⟩ = some (.string (str b.nm)) ∧ W.cell? ⟨gu, 7, none⟩ = some (.int .i64 b.n) ∧ W.cell? ⟨gu, 8, none⟩ = some (.slice Aw bl cw))) (by kernel_rfl) hS0 (fun hHeld => ?_)
        refine takeY 0 (some 36) rfl rfl (by kernel_rfl) (by kernel_rfl) (by kernel_rfl) (fun _ _ _ h => h) (by rfl) (v := _) (by (intro _ hSw; (try dsimp only at hSw); go_simp; try with_reducible rfl)) hHeld ?_
        simp only [Act.put, List.setIfInBounds_toArray, List.set_cons_zero, List.set_cons_succ]
        refine takeY 1 (some 37) rfl rfl (by kernel_rfl) (by kernel_rfl) (by kernel_rfl) (fun _ _ _ h => h) (by rfl) (v := _) (by (intro _ hSw; (try dsimp only at hSw); go_simp; try with_reducible rfl)) hHeld ?_
        simp only [Act.put, List.setIfInBounds_toArray, List.set_cons_zero, List.set_cons_succ]
        refine takeY 2 (some 38) rfl rfl (by kernel_rfl) (by kernel_rfl) (by kernel_rfl) (fun _ _ _ h => h) (by rfl) (v := _) (by (intro _ hSw; (try dsimp only at hSw); go_simp; try with_reducible rfl)) hHeld ?_
        simp only [Act.put, List.setIfInBounds_toArray, List.set_cons_zero, List.set_cons_succ]
        refine takeY 3 (some 39) rfl rfl (by kernel_rfl) (by kernel_rfl) (by kernel_rfl) (fun _ _ _ h => h) (by rfl) (v := _) (by (intro _ hSw; (try dsimp only at hSw); go_simp; try with_reducible rfl)) hHeld ?_
        simp only [Act.put, List.setIfInBounds_toArray, List.set_cons_zero, List.set_cons_succ]
        refine takeY 4 (some 40) rfl rfl (by kernel_rfl) (by kernel_rfl) (by kernel_rfl) (fun _ _ _ h => h) (by rfl) (v := _) (by (intro _ hSw; (try dsimp only at hSw); go_simp; try with_reducible rfl)) hHeld ?_
        simp only [Act.put, List.setIfInBounds_toArray, List.set_cons_zero, List.set_cons_succ]
        refine takeY 5 (some 41) rfl rfl (by kernel_rfl) (by kernel_rfl) (by kernel_rfl) (fun _ _ _ h => h) (by rfl) (v := _) (by (intro _ hSw; (try dsimp only at hSw); go_simp; try with_reducible rfl)) hHeld ?_
        simp only [Act.put, List.setIfInBounds_toArray, List.set_cons_zero, List.set_cons_succ]
        refine takeY 6 (some 42) rfl rfl (by kernel_rfl) (by kernel_rfl) (by kernel_rfl) (fun _ _ _ h => h) (by rfl) (v := _) (by (intro _ hSw; (try dsimp only at hSw); go_simp; try with_reducible rfl)) hHeld ?_
        simp only [Act.put, List.setIfInBounds_toArray, List.set_cons_zero, List.set_cons_succ]
        refine takeY 7 (some 43) rfl rfl (by kernel_rfl) (by kernel_rfl) (by kernel_rfl) (fun _ _ _ h => h) (by rfl) (v := _) (by (intro _ hSw; (try dsimp only at hSw); go_simp; try with_reducible rfl)) hHeld ?_
        simp only [Act.put, List.setIfInBounds_toArray, List.set_cons_zero, List.set_cons_succ]
        refine wpAnyH_ready (rs := [8]) (by kernel_rfl) (by simp) ?_
        refine AllReadyH.cons rfl (fun K hK => ?_) AllReadyH.nil
        clear hHeld
        go_simp
        go_wp2_with (go_at_call 41; refine Calls.mono HC1.out ?_; rintro e w5 ⟨rfl, hb5⟩; have HB5 := Lib.hid hb5; clear hb5)
        refine hK.out _ _ ⟨(HB5.out.cell (World.block_lt_of_cell? _ _ (hS0.1))).trans hS0.1, (HB5.out.cell (World.block_lt_of_cell? _ _ (hS0.2.1))).trans hS0.2.1, (HB5.out.cell (World.block_lt_of_cell? _ _ (hS0.2.2.1))).trans hS0.2.2.1, (HB5.out.cell (World.block_lt_of_cell? _ _ (hS0.2.2.2.1))).trans hS0.2.2.2.1, (HB5.out.cell (World.block_lt_of_cell? _ _ (hS0.2.2.2.2.1))).trans hS0.2.2.2.2.1, (HB5.out.cell (World.block_lt_of_cell? _ _ (hS0.2.2.2.2.2.1))).trans hS0.2.2.2.2.2.1, (HB5.out.cell (World.block_lt_of_cell? _ _ (hS0.2.2.2.2.2.2.1))).trans hS0.2.2.2.2.2.2.1, (HB5.out.cell (World.block_lt_of_cell? _ _ (hS0.2.2.2.2.2.2.2.1))).trans hS0.2.2.2.2.2.2.2.1, (HB5.out.cell (World.block_lt_of_cell? _ _ (hS0.2.2.2.2.2.2.2.2))).trans hS0.2.2.2.2.2.2.2.2⟩ (fun hHeld => ?_)
        clear hK K
        refine takeY 9 (some 45) rfl rfl (by kernel_rfl) (by kernel_rfl) (by kernel_rfl) (fun _ _ _ h => h) (by rfl) (v := _) (by (intro _ hSw; (try dsimp only at hSw); go_simp; try with_reducible rfl)) hHeld ?_
        simp only [Act.put, List.setIfInBounds_toArray, List.set_cons_zero, List.set_cons_succ]
        refine takeN 10 (some 46) rfl rfl (by kernel_rfl) (by kernel_rfl) (by kernel_rfl) (fun _ _ _ h => h) (by rfl) hHeld ?_
        simp only [Act.put, List.setIfInBounds_toArray, List.set_cons_zero, List.set_cons_succ]
        refine takeN 11 (some 47) rfl rfl (by kernel_rfl) (by kernel_rfl) (by kernel_rfl) (fun _ _ _ h => h) (by rfl) hHeld ?_
        simp only [Act.put, List.setIfInBounds_toArray, List.set_cons_zero, List.set_cons_succ]
        refine takeN 12 (some 48) rfl rfl (by kernel_rfl) (by kernel_rfl) (by kernel_rfl) (fun _ _ _ h => h) (by rfl) hHeld ?_
        simp only [Act.put, List.setIfInBounds_toArray, List.set_cons_zero, List.set_cons_succ]
        refine takeN 13 (some 49) rfl rfl (by kernel_rfl) (by kernel_rfl) (by kernel_rfl) (fun _ _ _ h => h) (by rfl) hHeld ?_
        simp only [Act.put, List.setIfInBounds_toArray, List.set_cons_zero, List.set_cons_succ]
        refine takeN 14 (some 50) rfl rfl (by kernel_rfl) (by kernel_rfl) (by kernel_rfl) (fun _ _ _ h => h) (by rfl) hHeld ?_
        simp only [Act.put, List.setIfInBounds_toArray, List.set_cons_zero, List.set_cons_succ]
        refine takeN 15 (some 51) rfl rfl (by kernel_rfl) (by kernel_rfl) (by kernel_rfl) (fun _ _ _ h => h) (by rfl) hHeld ?_
        simp only [Act.put, List.setIfInBounds_toArray, List.set_cons_zero, List.set_cons_succ]
        refine takeN 16 (some 52) rfl rfl (by kernel_rfl) (by kernel_rfl) (by kernel_rfl) (fun _ _ _ h => h) (by rfl) hHeld ?_
        simp only [Act.put, List.setIfInBounds_toArray, List.set_cons_zero, List.set_cons_succ]
        refine takeN 17 (some 53) rfl rfl (by kernel_rfl) (by kernel_rfl) (by kernel_rfl) (fun _ _ _ h => h) (by rfl) hHeld ?_
        simp only [Act.put, List.setIfInBounds_toArray, List.set_cons_zero, List.set_cons_succ]
        refine takeN 18 (some 54) rfl rfl (by kernel_rfl) (by kernel_rfl) (by kernel_rfl) (fun _ _ _ h => h) (by rfl) hHeld ?_
        simp only [Act.put, List.setIfInBounds_toArray, List.set_cons_zero, List.set_cons_succ]
        refine takeY 19 (some 55) rfl rfl (by kernel_rfl) (by kernel_rfl) (by kernel_rfl) (fun _ _ _ h => h) (by rfl) (v := _) (by (intro _ hSw; (try dsimp only at hSw); go_simp; try with_reducible rfl)) hHeld ?_
        simp only [Act.put, List.setIfInBounds_toArray, List.set_cons_zero, List.set_cons_succ]
        refine wpAnyH_done (by kernel_rfl) ?_ _
        go_wp2_with fail
        go_ret
        exact ⟨16, _, _, _, rfl, HB4.out.2.2.2.1 16 (.inl ⟨rfl, .inl HGA.out⟩), HB4.out.1.bel HB5.out, HB4.out.2.2.2.2.trans (Go.bel _ _ _ HB5.out)⟩
      · have HC1 : Hid (Calls Try.prog 41 #[.pointer (some ⟨g, 0, none⟩), .agg #[.int .u8 (a.k : Int), .string (str a.nm), .int .i64 a.n, .slice Aa al ca]] w4.drew fun e w' => e = .returned (.bool false) ∧ Below w4.heap.size w4 w') := Lib.hid (HC1.mono fun e w' h => by
          obtain ⟨b1, rfl, h1, h2⟩ := h
          have : b1 = false := by cases b1 with
            | false => rfl
            | true => exact absurd (h1.1 rfl) hga
          rw [this]
          exact ⟨rfl, (show Below w4.heap.size w4 w4.drew from (Below.refl _ _).drew).trans h2⟩)
        have HGA := Lib.hid hga
        clear hga
        by_cases hgb : great (b.sub S')
        · have HC2 : Hid (∀ W, Below w4.heap.size w4 W → Calls Try.prog 41 #[.pointer (some ⟨g, 0, none⟩), .agg #[.int .u8 (b.k : Int), .string (str b.nm), .int .i64 b.n, .slice Aw bl cw]] W fun e w' => e = .returned (.bool true) ∧ Below w4.heap.size w4 w') := Lib.hid fun W hW => (HC2.out W hW).mono fun e w' h => by
            obtain ⟨b1, rfl, h1, h2⟩ := h
            rw [h1.2 hgb]
            exact ⟨rfl, hW.trans (h2.mono hW.size)⟩
          have HGB := Lib.hid hgb
          clear hgb
          go_upto_region 5 with fail
          have hS0 := And.intro v0 (And.intro v1 (And.intro v2 (And.intro v3 (And.intro v4 (And.intro v5 (And.intro v6 (And.intro v7 v8)))))))
          clear v0 v1 v2 v3 v4 v5 v6 v7 v8
          refine wp_region_held_drew (S := (fun W => W.cell? ⟨gu, 0, none⟩ = some (.pointer (some ⟨g, 0, none⟩)) ∧ W.cell? ⟨gu, 1, none⟩ = some (.int .u8 (a.k : Int)) ∧ W.cell? ⟨gu, 2, none⟩ = some (.string (str a.nm)) ∧ W.cell? ⟨gu, 3, none⟩ = some (.int .i64 a.n) ∧ W.cell? ⟨gu, 4, none⟩ = some (.slice Aa al ca) ∧ W.cell? ⟨gu, 5, none⟩ = some (.int .u8 (b.k : Int)) ∧ W.cell? ⟨gu, 6, none⟩ = some (.string (str b.nm)) ∧ W.cell? ⟨gu, 7, none⟩ = some (.int .i64 b.n) ∧ W.cell? ⟨gu, 8, none⟩ = some (.slice Aw bl cw))) (by kernel_rfl) hS0 (fun hHeld => ?_)
          refine takeY 0 (some 36) rfl rfl (by kernel_rfl) (by kernel_rfl) (by kernel_rfl) (fun _ _ _ h => h) (by rfl) (v := _) (by (intro _ hSw; (try dsimp only at hSw); go_simp; try with_reducible rfl)) hHeld ?_
          simp only [Act.put, List.setIfInBounds_toArray, List.set_cons_zero, List.set_cons_succ]
          refine takeY 1 (some 37) rfl rfl (by kernel_rfl) (by kernel_rfl) (by kernel_rfl) (fun _ _ _ h => h) (by rfl) (v := _) (by (intro _ hSw; (try dsimp only at hSw); go_simp; try with_reducible rfl)) hHeld ?_
          simp only [Act.put, List.setIfInBounds_toArray, List.set_cons_zero, List.set_cons_succ]
          refine takeY 2 (some 38) rfl rfl (by kernel_rfl) (by kernel_rfl) (by kernel_rfl) (fun _ _ _ h => h) (by rfl) (v := _) (by (intro _ hSw; (try dsimp only at hSw); go_simp; try with_reducible rfl)) hHeld ?_
          simp only [Act.put, List.setIfInBounds_toArray, List.set_cons_zero, List.set_cons_succ]
          refine takeY 3 (some 39) rfl rfl (by kernel_rfl) (by kernel_rfl) (by kernel_rfl) (fun _ _ _ h => h) (by rfl) (v := _) (by (intro _ hSw; (try dsimp only at hSw); go_simp; try with_reducible rfl)) hHeld ?_
          simp only [Act.put, List.setIfInBounds_toArray, List.set_cons_zero, List.set_cons_succ]
          refine takeY 4 (some 40) rfl rfl (by kernel_rfl) (by kernel_rfl) (by kernel_rfl) (fun _ _ _ h => h) (by rfl) (v := _) (by (intro _ hSw; (try dsimp only at hSw); go_simp; try with_reducible rfl)) hHeld ?_
          simp only [Act.put, List.setIfInBounds_toArray, List.set_cons_zero, List.set_cons_succ]
          refine takeY 5 (some 41) rfl rfl (by kernel_rfl) (by kernel_rfl) (by kernel_rfl) (fun _ _ _ h => h) (by rfl) (v := _) (by (intro _ hSw; (try dsimp only at hSw); go_simp; try with_reducible rfl)) hHeld ?_
          simp only [Act.put, List.setIfInBounds_toArray, List.set_cons_zero, List.set_cons_succ]
          refine takeY 6 (some 42) rfl rfl (by kernel_rfl) (by kernel_rfl) (by kernel_rfl) (fun _ _ _ h => h) (by rfl) (v := _) (by (intro _ hSw; (try dsimp only at hSw); go_simp; try with_reducible rfl)) hHeld ?_
          simp only [Act.put, List.setIfInBounds_toArray, List.set_cons_zero, List.set_cons_succ]
          refine takeY 7 (some 43) rfl rfl (by kernel_rfl) (by kernel_rfl) (by kernel_rfl) (fun _ _ _ h => h) (by rfl) (v := _) (by (intro _ hSw; (try dsimp only at hSw); go_simp; try with_reducible rfl)) hHeld ?_
          simp only [Act.put, List.setIfInBounds_toArray, List.set_cons_zero, List.set_cons_succ]
          refine wpAnyH_ready (rs := [8]) (by kernel_rfl) (by simp) ?_
          refine AllReadyH.cons rfl (fun K hK => ?_) AllReadyH.nil
          clear hHeld
          go_simp
          go_wp2_with (go_at_call 41; refine Calls.mono HC1.out ?_; rintro e w5 ⟨rfl, hb5⟩; have HB5 := Lib.hid hb5; clear hb5)
          refine hK.out _ _ ⟨(HB5.out.cell (World.block_lt_of_cell? _ _ (hS0.1))).trans hS0.1, (HB5.out.cell (World.block_lt_of_cell? _ _ (hS0.2.1))).trans hS0.2.1, (HB5.out.cell (World.block_lt_of_cell? _ _ (hS0.2.2.1))).trans hS0.2.2.1, (HB5.out.cell (World.block_lt_of_cell? _ _ (hS0.2.2.2.1))).trans hS0.2.2.2.1, (HB5.out.cell (World.block_lt_of_cell? _ _ (hS0.2.2.2.2.1))).trans hS0.2.2.2.2.1, (HB5.out.cell (World.block_lt_of_cell? _ _ (hS0.2.2.2.2.2.1))).trans hS0.2.2.2.2.2.1, (HB5.out.cell (World.block_lt_of_cell? _ _ (hS0.2.2.2.2.2.2.1))).trans hS0.2.2.2.2.2.2.1, (HB5.out.cell (World.block_lt_of_cell? _ _ (hS0.2.2.2.2.2.2.2.1))).trans hS0.2.2.2.2.2.2.2.1, (HB5.out.cell (World.block_lt_of_cell? _ _ (hS0.2.2.2.2.2.2.2.2))).trans hS0.2.2.2.2.2.2.2.2⟩ (fun hHeld => ?_)
          clear hK K
          refine takeY 9 (some 45) rfl rfl (by kernel_rfl) (by kernel_rfl) (by kernel_rfl) (fun _ _ _ h => h) (by rfl) (v := _) (by (intro _ hSw; (try dsimp only at hSw); go_simp; try with_reducible rfl)) hHeld ?_
          simp only [Act.put, List.setIfInBounds_toArray, List.set_cons_zero, List.set_cons_succ]
          refine takeY 10 (some 46) rfl rfl (by kernel_rfl) (by kernel_rfl) (by kernel_rfl) (fun _ _ _ h => h) (by rfl) (v := _) (by (intro _ hSw; (try dsimp only at hSw); go_simp; try with_reducible rfl)) hHeld ?_
          simp only [Act.put, List.setIfInBounds_toArray, List.set_cons_zero, List.set_cons_succ]
          refine takeY 11 (some 47) rfl rfl (by kernel_rfl) (by kernel_rfl) (by kernel_rfl) (fun _ _ _ h => h) (by rfl) (v := _) (by (intro _ hSw; (try dsimp only at hSw); go_simp; try with_reducible rfl)) hHeld ?_
          simp only [Act.put, List.setIfInBounds_toArray, List.set_cons_zero, List.set_cons_succ]
          refine takeY 12 (some 48) rfl rfl (by kernel_rfl) (by kernel_rfl) (by kernel_rfl) (fun _ _ _ h => h) (by rfl) (v := _) (by (intro _ hSw; (try dsimp only at hSw); go_simp; try with_reducible rfl)) hHeld ?_
          simp only [Act.put, List.setIfInBounds_toArray, List.set_cons_zero, List.set_cons_succ]
          refine takeY 13 (some 49) rfl rfl (by kernel_rfl) (by kernel_rfl) (by kernel_rfl) (fun _ _ _ h => h) (by rfl) (v := _) (by (intro _ hSw; (try dsimp only at hSw); go_simp; try with_reducible rfl)) hHeld ?_
          simp only [Act.put, List.setIfInBounds_toArray, List.set_cons_zero, List.set_cons_succ]
          refine takeY 14 (some 50) rfl rfl (by kernel_rfl) (by kernel_rfl) (by kernel_rfl) (fun _ _ _ h => h) (by rfl) (v := _) (by (intro _ hSw; (try dsimp only at hSw); go_simp; try with_reducible rfl)) hHeld ?_
          simp only [Act.put, List.setIfInBounds_toArray, List.set_cons_zero, List.set_cons_succ]
          refine takeY 15 (some 51) rfl rfl (by kernel_rfl) (by kernel_rfl) (by kernel_rfl) (fun _ _ _ h => h) (by rfl) (v := _) (by (intro _ hSw; (try dsimp only at hSw); go_simp; try with_reducible rfl)) hHeld ?_
          simp only [Act.put, List.setIfInBounds_toArray, List.set_cons_zero, List.set_cons_succ]
          refine takeY 16 (some 52) rfl rfl (by kernel_rfl) (by kernel_rfl) (by kernel_rfl) (fun _ _ _ h => h) (by rfl) (v := _) (by (intro _ hSw; (try dsimp only at hSw); go_simp; try with_reducible rfl)) hHeld ?_
          simp only [Act.put, List.setIfInBounds_toArray, List.set_cons_zero, List.set_cons_succ]
          refine takeY 17 (some 53) rfl rfl (by kernel_rfl) (by kernel_rfl) (by kernel_rfl) (fun _ _ _ h => h) (by rfl) (v := _) (by (intro _ hSw; (try dsimp only at hSw); go_simp; try with_reducible rfl)) hHeld ?_
          simp only [Act.put, List.setIfInBounds_toArray, List.set_cons_zero, List.set_cons_succ]
          refine wpAnyH_ready (rs := [18]) (by kernel_rfl) (by simp) ?_
          refine AllReadyH.cons rfl (fun K hK => ?_) AllReadyH.nil
          clear hHeld
          go_simp
          go_wp2_with (go_at_call 41; refine Calls.mono (HC2.out _ HB5.out) ?_; rintro e w6 ⟨rfl, hb6⟩; have HB6 := Lib.hid hb6; clear hb6)
          refine hK.out _ _ ⟨(HB6.out.cell (World.block_lt_of_cell? _ _ (hS0.1))).trans hS0.1, (HB6.out.cell (World.block_lt_of_cell? _ _ (hS0.2.1))).trans hS0.2.1, (HB6.out.cell (World.block_lt_of_cell? _ _ (hS0.2.2.1))).trans hS0.2.2.1, (HB6.out.cell (World.block_lt_of_cell? _ _ (hS0.2.2.2.1))).trans hS0.2.2.2.1, (HB6.out.cell (World.block_lt_of_cell? _ _ (hS0.2.2.2.2.1))).trans hS0.2.2.2.2.1, (HB6.out.cell (World.block_lt_of_cell? _ _ (hS0.2.2.2.2.2.1))).trans hS0.2.2.2.2.2.1, (HB6.out.cell (World.block_lt_of_cell? _ _ (hS0.2.2.2.2.2.2.1))).trans hS0.2.2.2.2.2.2.1, (HB6.out.cell (World.block_lt_of_cell? _ _ (hS0.2.2.2.2.2.2.2.1))).trans hS0.2.2.2.2.2.2.2.1, (HB6.out.cell (World.block_lt_of_cell? _ _ (hS0.2.2.2.2.2.2.2.2))).trans hS0.2.2.2.2.2.2.2.2⟩ (fun hHeld => ?_)
          clear hK K
          refine takeY 19 (some 55) rfl rfl (by kernel_rfl) (by kernel_rfl) (by kernel_rfl) (fun _ _ _ h => h) (by rfl) (v := _) (by (intro _ hSw; (try dsimp only at hSw); go_simp; try with_reducible rfl)) hHeld ?_
          simp only [Act.put, List.setIfInBounds_toArray, List.set_cons_zero, List.set_cons_succ]
          refine wpAnyH_done (by kernel_rfl) ?_ _
          go_wp2_with fail
          go_ret
          exact ⟨16, _, _, _, rfl, HB4.out.2.2.2.1 16 (.inl ⟨rfl, .inr HGB.out⟩), HB4.out.1.bel HB6.out, HB4.out.2.2.2.2.trans (Go.bel _ _ _ HB6.out)⟩
        · have HC2 : Hid (∀ W, Below w4.heap.size w4 W → Calls Try.prog 41 #[.pointer (some ⟨g, 0, none⟩), .agg #[.int .u8 (b.k : Int), .string (str b.nm), .int .i64 b.n, .slice Aw bl cw]] W fun e w' => e = .returned (.bool false) ∧ Below w4.heap.size w4 w') := Lib.hid fun W hW => (HC2.out W hW).mono fun e w' h => by
            obtain ⟨b1, rfl, h1, h2⟩ := h
            have : b1 = false := by cases b1 with
              | false => rfl
              | true => exact absurd (h1.1 rfl) hgb
            rw [this]
            exact ⟨rfl, hW.trans (h2.mono hW.size)⟩
          have HGB := Lib.hid hgb
          clear hgb
          go_upto_region 5 with fail
          have hS0 := And.intro v0 (And.intro v1 (And.intro v2 (And.intro v3 (And.intro v4 (And.intro v5 (And.intro v6 (And.intro v7 v8)))))))
          clear v0 v1 v2 v3 v4 v5 v6 v7 v8
          refine wp_region_held_drew (S := (fun W => W.cell? ⟨gu, 0, none⟩ = some (.pointer (some ⟨g, 0, none⟩)) ∧ W.cell? ⟨gu, 1, none⟩ = some (.int .u8 (a.k : Int)) ∧ W.cell? ⟨gu, 2, none⟩ = some (.string (str a.nm)) ∧ W.cell? ⟨gu, 3, none⟩ = some (.int .i64 a.n) ∧ W.cell? ⟨gu, 4, none⟩ = some (.slice Aa al ca) ∧ W.cell? ⟨gu, 5, none⟩ = some (.int .u8 (b.k : Int)) ∧ W.cell? ⟨gu, 6, none⟩ = some (.string (str b.nm)) ∧ W.cell? ⟨gu, 7, none⟩ = some (.int .i64 b.n) ∧ W.cell? ⟨gu, 8, none⟩ = some (.slice Aw bl cw))) (by kernel_rfl) hS0 (fun hHeld => ?_)
          refine takeY 0 (some 36) rfl rfl (by kernel_rfl) (by kernel_rfl) (by kernel_rfl) (fun _ _ _ h => h) (by rfl) (v := _) (by (intro _ hSw; (try dsimp only at hSw); go_simp; try with_reducible rfl)) hHeld ?_
          simp only [Act.put, List.setIfInBounds_toArray, List.set_cons_zero, List.set_cons_succ]
          refine takeY 1 (some 37) rfl rfl (by kernel_rfl) (by kernel_rfl) (by kernel_rfl) (fun _ _ _ h => h) (by rfl) (v := _) (by (intro _ hSw; (try dsimp only at hSw); go_simp; try with_reducible rfl)) hHeld ?_
          simp only [Act.put, List.setIfInBounds_toArray, List.set_cons_zero, List.set_cons_succ]
          refine takeY 2 (some 38) rfl rfl (by kernel_rfl) (by kernel_rfl) (by kernel_rfl) (fun _ _ _ h => h) (by rfl) (v := _) (by (intro _ hSw; (try dsimp only at hSw); go_simp; try with_reducible rfl)) hHeld ?_
          simp only [Act.put, List.setIfInBounds_toArray, List.set_cons_zero, List.set_cons_succ]
          refine takeY 3 (some 39) rfl rfl (by kernel_rfl) (by kernel_rfl) (by kernel_rfl) (fun _ _ _ h => h) (by rfl) (v := _) (by (intro _ hSw; (try dsimp only at hSw); go_simp; try with_reducible rfl)) hHeld ?_
          simp only [Act.put, List.setIfInBounds_toArray, List.set_cons_zero, List.set_cons_succ]
          refine takeY 4 (some 40) rfl rfl (by kernel_rfl) (by kernel_rfl) (by kernel_rfl) (fun _ _ _ h => h) (by rfl) (v := _) (by (intro _ hSw; (try dsimp only at hSw); go_simp; try with_reducible rfl)) hHeld ?_
          simp only [Act.put, List.setIfInBounds_toArray, List.set_cons_zero, List.set_cons_succ]
          refine takeY 5 (some 41) rfl rfl (by kernel_rfl) (by kernel_rfl) (by kernel_rfl) (fun _ _ _ h => h) (by rfl) (v := _) (by (intro _ hSw; (try dsimp only at hSw); go_simp; try with_reducible rfl)) hHeld ?_
          simp only [Act.put, List.setIfInBounds_toArray, List.set_cons_zero, List.set_cons_succ]
          refine takeY 6 (some 42) rfl rfl (by kernel_rfl) (by kernel_rfl) (by kernel_rfl) (fun _ _ _ h => h) (by rfl) (v := _) (by (intro _ hSw; (try dsimp only at hSw); go_simp; try with_reducible rfl)) hHeld ?_
          simp only [Act.put, List.setIfInBounds_toArray, List.set_cons_zero, List.set_cons_succ]
          refine takeY 7 (some 43) rfl rfl (by kernel_rfl) (by kernel_rfl) (by kernel_rfl) (fun _ _ _ h => h) (by rfl) (v := _) (by (intro _ hSw; (try dsimp only at hSw); go_simp; try with_reducible rfl)) hHeld ?_
          simp only [Act.put, List.setIfInBounds_toArray, List.set_cons_zero, List.set_cons_succ]
          refine wpAnyH_ready (rs := [8]) (by kernel_rfl) (by simp) ?_
          refine AllReadyH.cons rfl (fun K hK => ?_) AllReadyH.nil
          clear hHeld
          go_simp
          go_wp2_with (go_at_call 41; refine Calls.mono HC1.out ?_; rintro e w5 ⟨rfl, hb5⟩; have HB5 := Lib.hid hb5; clear hb5)
          refine hK.out _ _ ⟨(HB5.out.cell (World.block_lt_of_cell? _ _ (hS0.1))).trans hS0.1, (HB5.out.cell (World.block_lt_of_cell? _ _ (hS0.2.1))).trans hS0.2.1, (HB5.out.cell (World.block_lt_of_cell? _ _ (hS0.2.2.1))).trans hS0.2.2.1, (HB5.out.cell (World.block_lt_of_cell? _ _ (hS0.2.2.2.1))).trans hS0.2.2.2.1, (HB5.out.cell (World.block_lt_of_cell? _ _ (hS0.2.2.2.2.1))).trans hS0.2.2.2.2.1, (HB5.out.cell (World.block_lt_of_cell? _ _ (hS0.2.2.2.2.2.1))).trans hS0.2.2.2.2.2.1, (HB5.out.cell (World.block_lt_of_cell? _ _ (hS0.2.2.2.2.2.2.1))).trans hS0.2.2.2.2.2.2.1, (HB5.out.cell (World.block_lt_of_cell? _ _ (hS0.2.2.2.2.2.2.2.1))).trans hS0.2.2.2.2.2.2.2.1, (HB5.out.cell (World.block_lt_of_cell? _ _ (hS0.2.2.2.2.2.2.2.2))).trans hS0.2.2.2.2.2.2.2.2⟩ (fun hHeld => ?_)
          clear hK K
          refine takeY 9 (some 45) rfl rfl (by kernel_rfl) (by kernel_rfl) (by kernel_rfl) (fun _ _ _ h => h) (by rfl) (v := _) (by (intro _ hSw; (try dsimp only at hSw); go_simp; try with_reducible rfl)) hHeld ?_
          simp only [Act.put, List.setIfInBounds_toArray, List.set_cons_zero, List.set_cons_succ]
          refine takeY 10 (some 46) rfl rfl (by kernel_rfl) (by kernel_rfl) (by kernel_rfl) (fun _ _ _ h => h) (by rfl) (v := _) (by (intro _ hSw; (try dsimp only at hSw); go_simp; try with_reducible rfl)) hHeld ?_
          simp only [Act.put, List.setIfInBounds_toArray, List.set_cons_zero, List.set_cons_succ]
          refine takeY 11 (some 47) rfl rfl (by kernel_rfl) (by kernel_rfl) (by kernel_rfl) (fun _ _ _ h => h) (by rfl) (v := _) (by (intro _ hSw; (try dsimp only at hSw); go_simp; try with_reducible rfl)) hHeld ?_
          simp only [Act.put, List.setIfInBounds_toArray, List.set_cons_zero, List.set_cons_succ]
          refine takeY 12 (some 48) rfl rfl (by kernel_rfl) (by kernel_rfl) (by kernel_rfl) (fun _ _ _ h => h) (by rfl) (v := _) (by (intro _ hSw; (try dsimp only at hSw); go_simp; try with_reducible rfl)) hHeld ?_
          simp only [Act.put, List.setIfInBounds_toArray, List.set_cons_zero, List.set_cons_succ]
          refine takeY 13 (some 49) rfl rfl (by kernel_rfl) (by kernel_rfl) (by kernel_rfl) (fun _ _ _ h => h) (by rfl) (v := _) (by (intro _ hSw; (try dsimp only at hSw); go_simp; try with_reducible rfl)) hHeld ?_
          simp only [Act.put, List.setIfInBounds_toArray, List.set_cons_zero, List.set_cons_succ]
          refine takeY 14 (some 50) rfl rfl (by kernel_rfl) (by kernel_rfl) (by kernel_rfl) (fun _ _ _ h => h) (by rfl) (v := _) (by (intro _ hSw; (try dsimp only at hSw); go_simp; try with_reducible rfl)) hHeld ?_
          simp only [Act.put, List.setIfInBounds_toArray, List.set_cons_zero, List.set_cons_succ]
          refine takeY 15 (some 51) rfl rfl (by kernel_rfl) (by kernel_rfl) (by kernel_rfl) (fun _ _ _ h => h) (by rfl) (v := _) (by (intro _ hSw; (try dsimp only at hSw); go_simp; try with_reducible rfl)) hHeld ?_
          simp only [Act.put, List.setIfInBounds_toArray, List.set_cons_zero, List.set_cons_succ]
          refine takeY 16 (some 52) rfl rfl (by kernel_rfl) (by kernel_rfl) (by kernel_rfl) (fun _ _ _ h => h) (by rfl) (v := _) (by (intro _ hSw; (try dsimp only at hSw); go_simp; try with_reducible rfl)) hHeld ?_
          simp only [Act.put, List.setIfInBounds_toArray, List.set_cons_zero, List.set_cons_succ]
          refine takeY 17 (some 53) rfl rfl (by kernel_rfl) (by kernel_rfl) (by kernel_rfl) (fun _ _ _ h => h) (by rfl) (v := _) (by (intro _ hSw; (try dsimp only at hSw); go_simp; try with_reducible rfl)) hHeld ?_
          simp only [Act.put, List.setIfInBounds_toArray, List.set_cons_zero, List.set_cons_succ]
          refine wpAnyH_ready (rs := [18]) (by kernel_rfl) (by simp) ?_
          refine AllReadyH.cons rfl (fun K hK => ?_) AllReadyH.nil
          clear hHeld
          go_simp
          go_wp2_with (go_at_call 41; refine Calls.mono (HC2.out _ HB5.out) ?_; rintro e w6 ⟨rfl, hb6⟩; have HB6 := Lib.hid hb6; clear hb6)
          refine hK.out _ _ ⟨(HB6.out.cell (World.block_lt_of_cell? _ _ (hS0.1))).trans hS0.1, (HB6.out.cell (World.block_lt_of_cell? _ _ (hS0.2.1))).trans hS0.2.1, (HB6.out.cell (World.block_lt_of_cell? _ _ (hS0.2.2.1))).trans hS0.2.2.1, (HB6.out.cell (World.block_lt_of_cell? _ _ (hS0.2.2.2.1))).trans hS0.2.2.2.1, (HB6.out.cell (World.block_lt_of_cell? _ _ (hS0.2.2.2.2.1))).trans hS0.2.2.2.2.1, (HB6.out.cell (World.block_lt_of_cell? _ _ (hS0.2.2.2.2.2.1))).trans hS0.2.2.2.2.2.1, (HB6.out.cell (World.block_lt_of_cell? _ _ (hS0.2.2.2.2.2.2.1))).trans hS0.2.2.2.2.2.2.1, (HB6.out.cell (World.block_lt_of_cell? _ _ (hS0.2.2.2.2.2.2.2.1))).trans hS0.2.2.2.2.2.2.2.1, (HB6.out.cell (World.block_lt_of_cell? _ _ (hS0.2.2.2.2.2.2.2.2))).trans hS0.2.2.2.2.2.2.2.2⟩ (fun hHeld => ?_)
          clear hK K
          refine takeY 19 (some 55) rfl rfl (by kernel_rfl) (by kernel_rfl) (by kernel_rfl) (fun _ _ _ h => h) (by rfl) (v := _) (by (intro _ hSw; (try dsimp only at hSw); go_simp; try with_reducible rfl)) hHeld ?_
          simp only [Act.put, List.setIfInBounds_toArray, List.set_cons_zero, List.set_cons_succ]
          refine wpAnyH_done (by kernel_rfl) ?_ _
          go_wp2_with fail
          go_ret
          exact ⟨0, _, _, _, rfl, HB4.out.2.2.2.1 0 (.inr ⟨rfl, HGA.out, HGB.out⟩), HB4.out.1.bel HB6.out, HB4.out.2.2.2.2.trans (Go.bel _ _ _ HB6.out)⟩
end Go.Proofs.Ytndhojnfjlkojaa
