/- stamp: StampRefuses, begun. -/
import Derived.Test.YtadogebhkldeiaaDoorRgb
import Derived.Test.YtadogebhkldeiaaDoorRh
import Derived.Test.YtadogebhkldeiaaDoorRd
import Derived.Test.YtadogebhkldeiaaDoorI
namespace Go.Proofs.YtadogebhkldeiaaDoor
open Go.RowKit Ty
set_option linter.unusedVariables false
set_option linter.unusedSimpArgs false
attribute [local go_sem] Oper.semAt_some
set_option maxRecDepth 100000 in
set_option maxHeartbeats 8000000 in
theorem refuses_law (x y : Nat) (b : Bool) (hx : x < 256) (hy : y < 256) (e0 : Addr) (w : World) (herr : w.cell? ⟨0, 0, none⟩ = some (errv e0)) : Calls Tryd.prog 4 #[.int .u8 (x : Int), .int .u8 (y : Int), .bool b] w fun e w' => e = .returned (.bool true) ∧ Below w.heap.size w w' := by
  obtain ⟨j, hj⟩ : ∃ j, x % 10 = j := ⟨_, rfl⟩
  have hj10 : j < 10 := by omega
  obtain ⟨m, hm⟩ : ∃ m, y % 6 = m := ⟨_, rfl⟩
  have hm6 : m < 6 := by omega
  have hwx : IntKind.i64.wrap (x : Int) = (x : Int) := IntWalk.i64_in _ (by omega)
  have hwy : IntKind.i64.wrap (y : Int) = (y : Int) := IntWalk.i64_in _ (by omega)
  have htx : ((x : Int)).tmod 10 = (j : Int) := by rw [Int.tmod_eq_emod_of_nonneg (by omega)]; omega
  have hty : ((y : Int)).tmod 6 = (m : Int) := by rw [Int.tmod_eq_emod_of_nonneg (by omega)]; omega
  have HE : Hid (∀ W, Below w.heap.size w W → W.cell? ⟨0, 0, none⟩ = some (errv e0)) := Lib.hid fun W hW => (hW.cell (World.block_lt_of_cell? _ _ herr)).trans herr
  have HC := Lib.hid (named_any ⟨#[105, 110, 116]⟩ none 0 0 w)
  clear herr
  go_enter Tryd.func4, Tryd.ntmps4
  go_wp2_with fail
  refine HC.out.mono ?_
  rintro e w1 ⟨rfl, hb1⟩
  obtain ⟨w2, hw2⟩ : ∃ W, w1.alloc (.cells #[.int .u8 2, .string ⟨#[105, 110, 116]⟩, .int .i64 0, .slice none 0 0] 24) = W := ⟨_, rfl⟩
  have hb2 : Below w1.heap.size w1 w2 := by rw [← hw2]; exact (Below.refl _ _).alloc (Nat.le_refl _) _
  have hB2 : Blk w2 w1.heap.size 24 #[.int .u8 2, .string ⟨#[105, 110, 116]⟩, .int .i64 0, .slice none 0 0] := by rw [← hw2]; exact Blk.new _ _ _
  obtain ⟨q, hq⟩ : ∃ g, w1.heap.size = g := ⟨_, rfl⟩
  rw [hq] at hB2
  have h02 : Below w.heap.size w w2 := hb1.trans (hb2.mono hb1.size)
  have hqw : w.heap.size ≤ q := by have := hb1.size; omega
  have HS : Hid (∀ W, Below w2.heap.size w2 W → (fun W : World => W.cell? ⟨q, 0, none⟩ = some (.int .u8 2) ∧ W.cell? ⟨q, 1, none⟩ = some (.string ⟨#[105, 110, 116]⟩) ∧ W.cell? ⟨q, 2, none⟩ = some (.int .i64 0) ∧ W.cell? ⟨q, 3, none⟩ = some (.slice none 0 0)) W) := Lib.hid fun W hW => by
    have h := hB2.below hW hB2.lt
    exact ⟨h.cell 0, h.cell 1, h.cell 2, h.cell 3⟩
  have H2 := Lib.hid (And.intro hw2 (And.intro hq (And.intro hB2 (And.intro h02 hqw))))
  clear HC hb1 hw2 hb2 hB2 hq h02 hqw
  go_upto_region 2 with fail
  (try rw [H2.out.1])
  (try rw [H2.out.2.1])
  have hS1 : (fun W : World => W.cell? ⟨q, 0, none⟩ = some (.int .u8 2) ∧ W.cell? ⟨q, 1, none⟩ = some (.string ⟨#[105, 110, 116]⟩) ∧ W.cell? ⟨q, 2, none⟩ = some (.int .i64 0) ∧ W.cell? ⟨q, 3, none⟩ = some (.slice none 0 0)) w2.drew := HS.out _ (Below.refl _ w2).drew
  refine wp_region_held_drew (S := (fun W : World => W.cell? ⟨q, 0, none⟩ = some (.int .u8 2) ∧ W.cell? ⟨q, 1, none⟩ = some (.string ⟨#[105, 110, 116]⟩) ∧ W.cell? ⟨q, 2, none⟩ = some (.int .i64 0) ∧ W.cell? ⟨q, 3, none⟩ = some (.slice none 0 0))) (by kernel_rfl) hS1 (fun hHeld => ?_)
  have hwd0 : Below w2.heap.size w2 w2.drew := (Below.refl _ w2).drew
  generalize w2.drew = wd at hHeld hwd0 ⊢
  clear hS1
  refine takeY 0 (some 17) rfl rfl (by kernel_rfl) (by kernel_rfl) (by kernel_rfl) (fun _ _ _ h => h) (by rfl) (v := _) (by (intro _ hSw; (try dsimp only at hSw); go_simp; try with_reducible rfl)) hHeld ?_
  simp only [Act.put, List.setIfInBounds_toArray, List.set_cons_zero, List.set_cons_succ]
  refine takeY 1 (some 18) rfl rfl (by kernel_rfl) (by kernel_rfl) (by kernel_rfl) (fun _ _ _ h => h) (by rfl) (v := _) (by (intro _ hSw; (try dsimp only at hSw); go_simp; try with_reducible rfl)) hHeld ?_
  simp only [Act.put, List.setIfInBounds_toArray, List.set_cons_zero, List.set_cons_succ]
  refine takeY 7 (some 24) rfl rfl (by kernel_rfl) (by kernel_rfl) (by kernel_rfl) (fun _ _ _ h => h) (by rfl) (v := _) (by (intro _ hSw; (try dsimp only at hSw); go_simp; try with_reducible rfl)) hHeld ?_
  simp only [Act.put, List.setIfInBounds_toArray, List.set_cons_zero, List.set_cons_succ]
  refine takeY 12 (some 29) rfl rfl (by kernel_rfl) (by kernel_rfl) (by kernel_rfl) (fun _ _ _ h => h) (by rfl) (v := _) (by (intro _ hSw; (try dsimp only at hSw); go_simp; try with_reducible rfl)) hHeld ?_
  simp only [Act.put, List.setIfInBounds_toArray, List.set_cons_zero, List.set_cons_succ]
  refine takeY 13 (some 30) rfl rfl (by kernel_rfl) (by kernel_rfl) (by kernel_rfl) (fun _ _ _ h => h) (by rfl) (v := _) (by (intro _ hSw; (try dsimp only at hSw); go_simp; try with_reducible rfl)) hHeld ?_
  simp only [Act.put, List.setIfInBounds_toArray, List.set_cons_zero, List.set_cons_succ]
  refine takeY 16 (some 33) rfl rfl (by kernel_rfl) (by kernel_rfl) (by kernel_rfl) (fun _ _ _ h => h) (by rfl) (v := _) (by (intro _ hSw; (try dsimp only at hSw); go_simp; try with_reducible rfl)) hHeld ?_
  simp only [Act.put, List.setIfInBounds_toArray, List.set_cons_zero, List.set_cons_succ]
  refine takeY 4 (some 21) rfl rfl (by kernel_rfl) (by kernel_rfl) (by kernel_rfl) (fun _ _ _ h => h) (by rfl) (v := _) (by (intro _ hSw; (try dsimp only at hSw); go_simp; try with_reducible rfl)) hHeld ?_
  simp only [Act.put, List.setIfInBounds_toArray, List.set_cons_zero, List.set_cons_succ]
  refine takeY 19 (some 36) rfl rfl (by kernel_rfl) (by kernel_rfl) (by kernel_rfl) (fun _ _ _ h => h) (by rfl) (v := _) (by (intro _ hSw; (try dsimp only at hSw); go_simp; try with_reducible rfl)) hHeld ?_
  simp only [Act.put, List.setIfInBounds_toArray, List.set_cons_zero, List.set_cons_succ]
  refine rg0 _ (fun _ d _ _ _ h => by cases d <;> exact h) w2 q _ _ _ HS (Lib.hid ?_) wd (Lib.hid hwd0)
  unfold RgEnd
  intro w3 mA mB mC mD mF hb3 FA FB FC FD FF
  obtain ⟨t0, ht0⟩ : ∃ t, badL[j]? = some t := ⟨_, List.getElem?_eq_getElem (by show j < 10; exact hj10)⟩
  have hAt := bad_at FA FB FC FD FF
  obtain ⟨bt, ot, A0, c0, ebt, _, hlt, z0, z1, z2, z3, hok, hlc, hcm, hAt0⟩ := hAt.get ht0
  cases ebt
  simp only [Nat.zero_add] at z0 z1 z2 z3
  obtain ⟨l0, hl0⟩ : ∃ l, t0.ks.length = l := ⟨_, rfl⟩
  rw [hl0] at z3
  obtain ⟨w4, hw4⟩ : ∃ W, w3.alloc (.cells #[.int .u8 (t0.k : Int), .string (str t0.nm), .int .i64 t0.n, .slice A0 l0 c0] 24) = W := ⟨_, rfl⟩
  have hb4 : Below w3.heap.size w3 w4 := by rw [← hw4]; exact (Below.refl _ _).alloc (Nat.le_refl _) _
  have hB4 : Blk w4 w3.heap.size 24 #[.int .u8 (t0.k : Int), .string (str t0.nm), .int .i64 t0.n, .slice A0 l0 c0] := by rw [← hw4]; exact Blk.new _ _ _
  obtain ⟨p, hp⟩ : ∃ p, w3.heap.size = p := ⟨_, rfl⟩
  rw [hp] at hB4
  have hbt : Bt w4 p t0 A0 l0 c0 := ⟨hB4, hl0, (hAt0.bel hb4).mono fun k h => by have : k < w3.heap.size := h; omega, hok, hlc, hcm⟩
  have hqp : q < p := by
    have h1 := H2.out.2.2.1.lt
    have h2 := hb3.size
    omega
  have h24 : Below w2.heap.size w2 w4 := hb3.trans (hb4.mono hb3.size)
  have h04 : Below w.heap.size w w4 := H2.out.2.2.2.1.trans (h24.mono H2.out.2.2.2.1.size)
  have hq4 := H2.out.2.2.1.below h24 H2.out.2.2.1.lt
  have HP : Hid (w.heap.size ≤ p) := Lib.hid (by have := H2.out.2.2.2.2; omega)
  have H4 := Lib.hid (And.intro hw4 (And.intro hp (And.intro hbt (And.intro h04 hq4))))
  have HT0 := Lib.hid (And.intro ht0 hqp)
  clear FA FB FC FD FF hAt hlt hok hlc hcm hAt0 hl0 hw4 hb4 hB4 hp hbt hqp h24 h04 hq4 hb3 ht0 HS hHeld hwd0 hx hy hj hm
  go_upto_region 4 with fail
  (try rw [H4.out.1])
  (try rw [H4.out.2.1])
  clear z0 z1 z2 z3
  go_wp2_with fail
  go_loopw [10] (fun v10 wr => ∃ (i : Nat), i ≤ m ∧ v10 = .int .i64 (i : Int) ∧ Hid (Below w.heap.size w wr ∧ Blk wr q 24 #[.int .u8 2, .string ⟨#[105, 110, 116]⟩, .int .i64 0, .slice none 0 0] ∧ ∃ A l c, Bt wr p (tyW t0 i) A l c)) (fun v10 _ => m - (intOf v10).toNat)
  case atStart => exact ⟨0, Nat.zero_le _, rfl, Lib.hid ⟨H4.out.2.2.2.1, H4.out.2.2.2.2, _, _, _, H4.out.2.2.1⟩⟩
  case round =>
    obtain ⟨i, hi, rfl, HJ⟩ := hrel
    obtain ⟨w5, rfl⟩ : ∃ v, v = wr := ⟨_, rfl⟩
    obtain ⟨hbw, hq5, A, l, c, hbx⟩ := HJ.out
    obtain ⟨x0, x1, x2, x3⟩ := hbx.cell
    by_cases hli : i < m
    · have hd : decide ((i : Int) < (m : Int)) = true := by simpa using hli
      have y0 := hq5.cell 0
      have y1 := hq5.cell 1
      have y2 := hq5.cell 2
      have y3 := hq5.cell 3
      simp only [List.getElem?_toArray, List.getElem?_cons_zero, List.getElem?_cons_succ] at y0 y1 y2 y3
      have hlast : ∀ (w9 : World) (nm : Unit), Off (fun k => k = p) w5 w9 → Below w.heap.size w w9 ∧ Blk w9 q 24 #[.int .u8 2, .string ⟨#[105, 110, 116]⟩, .int .i64 0, .slice none 0 0] := fun w9 _ ho => ⟨hbw.trans (ho.below hbw.size fun k e => by rw [e]; exact HP.out), hq5.off ho (by have := HT0.out.2; omega)⟩
      have HLA := Lib.hid hlast
      have HI := Lib.hid (show i + 1 ≤ m by omega)
      by_cases h0 : i % 3 = 0
      · have htm : ((i : Int)).tmod 3 = 0 := by rw [Int.tmod_eq_emod_of_nonneg (by omega)]; omega
        have hwr : tyW t0 (i + 1) = nmT rN [tyW t0 i] := by show wrapT i (tyW t0 i) = _; unfold wrapT; rw [if_pos h0]
        obtain ⟨g, hg⟩ : ∃ g, w5.heap.size = g := ⟨_, rfl⟩
        obtain ⟨w6, hw6⟩ : ∃ W, w5.alloc (.cells #[.int .u8 ((tyW t0 i).k : Int), .string (str (tyW t0 i).nm), .int .i64 (tyW t0 i).n, .slice A l c] 24) = W := ⟨_, rfl⟩
        have HC := Lib.hid (named_any (str rN) (some ⟨g, 0, none⟩) 1 1 w6)
        have HST : Hid (∀ w7, Below w6.heap.size w6 w7 → _) := Lib.hid fun w7 h7 => hbx.one rN (by decide) hw6 hg h7
        have HW := Lib.hid (And.intro hw6 (And.intro hg hwr))
        clear h0 hwr hg hw6 hlast HJ hbw hq5 hbx
        go_wp2_with fail
        (try rw [HW.out.1])
        (try rw [HW.out.2.1])
        refine HC.out.mono ?_
        rintro e w7 ⟨rfl, hb7⟩
        obtain ⟨w8, hw8, hbx8, ho8, rf, c0', c1', c2', c3'⟩ := HST.out w7 hb7
        have HN : Hid ((Below w.heap.size w w8 ∧ Blk w8 q 24 #[.int .u8 2, .string ⟨#[105, 110, 116]⟩, .int .i64 0, .slice none 0 0]) ∧ ∃ A l c, Bt w8 p (tyW t0 (i + 1)) A l c) := Lib.hid ⟨HLA.out w8 () ho8, _, _, _, by rw [HW.out.2.2]; exact hbx8⟩
        have HW8 := Lib.hid hw8
        clear hw8 hbx8 ho8 HLA HST HC HW hb7 x0 x1 x2 x3 y0 y1 y2 y3
        go_upto_region 6 with fail
        (try rw [HW8.out])
        clear c0' c1' c2' c3' rf
        go_wp2_with fail
        go_roundw
        case rel => exact ⟨i + 1, HI.out, by go_num, Lib.hid ⟨HN.out.1.1, HN.out.1.2, HN.out.2⟩⟩
        case measure => simp [intOf]; omega
      · by_cases h1 : i % 3 = 1
        · have htm : ((i : Int)).tmod 3 = 1 := by rw [Int.tmod_eq_emod_of_nonneg (by omega)]; omega
          have hwr : tyW t0 (i + 1) = .node 4 [] 0 [tyInt, tyW t0 i] := by show wrapT i (tyW t0 i) = _; unfold wrapT; rw [if_neg h0, if_pos h1]
          obtain ⟨g, hg⟩ : ∃ g, w5.heap.size = g := ⟨_, rfl⟩
          obtain ⟨w6, hw6⟩ : ∃ W, w5.alloc (.cells #[.int .u8 2, .string ⟨#[105, 110, 116]⟩, .int .i64 0, .slice none 0 0, .int .u8 ((tyW t0 i).k : Int), .string (str (tyW t0 i).nm), .int .i64 (tyW t0 i).n, .slice A l c] 24) = W := ⟨_, rfl⟩
          obtain ⟨w8, hw8, hbx8, ho8, rf, c0', c1', c2', c3'⟩ := hbx.two hw6 hg
          have HN : Hid ((Below w.heap.size w w8 ∧ Blk w8 q 24 #[.int .u8 2, .string ⟨#[105, 110, 116]⟩, .int .i64 0, .slice none 0 0]) ∧ ∃ A l c, Bt w8 p (tyW t0 (i + 1)) A l c) := Lib.hid ⟨HLA.out w8 () ho8, _, _, _, by rw [hwr]; exact hbx8⟩
          have HW := Lib.hid (And.intro hw6 (And.intro hg hw8))
          rw [← hw6] at c0' c1' c2' c3' rf
          clear h0 h1 hwr hg hw6 hw8 hbx8 ho8 hlast HLA HJ hbw hq5 hbx
          go_upto_region 6 with fail
          (try rw [HW.out.1])
          (try rw [HW.out.2.1])
          (try rw [HW.out.2.2])
          clear c0' c1' c2' c3' rf x0 x1 x2 x3 y0 y1 y2 y3
          go_wp2_with fail
          go_roundw
          case rel => exact ⟨i + 1, HI.out, by go_num, Lib.hid ⟨HN.out.1.1, HN.out.1.2, HN.out.2⟩⟩
          case measure => simp [intOf]; omega
        · have htm : ((i : Int)).tmod 3 = 2 := by rw [Int.tmod_eq_emod_of_nonneg (by omega)]; omega
          have hwr : tyW t0 (i + 1) = nmT lN [tyW t0 i] := by show wrapT i (tyW t0 i) = _; unfold wrapT; rw [if_neg h0, if_neg h1]
          obtain ⟨g, hg⟩ : ∃ g, w5.heap.size = g := ⟨_, rfl⟩
          obtain ⟨w6, hw6⟩ : ∃ W, w5.alloc (.cells #[.int .u8 ((tyW t0 i).k : Int), .string (str (tyW t0 i).nm), .int .i64 (tyW t0 i).n, .slice A l c] 24) = W := ⟨_, rfl⟩
          have HC := Lib.hid (named_any (str lN) (some ⟨g, 0, none⟩) 1 1 w6)
          have HST : Hid (∀ w7, Below w6.heap.size w6 w7 → _) := Lib.hid fun w7 h7 => hbx.one lN (by decide) hw6 hg h7
          have HW := Lib.hid (And.intro hw6 (And.intro hg hwr))
          clear h0 h1 hwr hg hw6 hlast HJ hbw hq5 hbx
          go_wp2_with fail
          (try rw [HW.out.1])
          (try rw [HW.out.2.1])
          refine HC.out.mono ?_
          rintro e w7 ⟨rfl, hb7⟩
          obtain ⟨w8, hw8, hbx8, ho8, rf, c0', c1', c2', c3'⟩ := HST.out w7 hb7
          have HN : Hid ((Below w.heap.size w w8 ∧ Blk w8 q 24 #[.int .u8 2, .string ⟨#[105, 110, 116]⟩, .int .i64 0, .slice none 0 0]) ∧ ∃ A l c, Bt w8 p (tyW t0 (i + 1)) A l c) := Lib.hid ⟨HLA.out w8 () ho8, _, _, _, by rw [HW.out.2.2]; exact hbx8⟩
          have HW8 := Lib.hid hw8
          clear hw8 hbx8 ho8 HLA HST HC HW hb7 x0 x1 x2 x3 y0 y1 y2 y3
          go_upto_region 6 with fail
          (try rw [HW8.out])
          clear c0' c1' c2' c3' rf
          go_wp2_with fail
          go_roundw
          case rel => exact ⟨i + 1, HI.out, by go_num, Lib.hid ⟨HN.out.1.1, HN.out.1.2, HN.out.2⟩⟩
          case measure => simp [intOf]; omega
    · obtain rfl : m = i := by omega
      have hd : decide ((m : Int) < (m : Int)) = false := by simp
      have htb : t0 ∈ badL := List.mem_of_getElem? HT0.out.1
      have hfin : finB (tyW t0 m) = true := by have h := fin_W j hj10 m hm6; rw [HT0.out.1] at h; exact h
      have HS13 : Hid (∀ W, Below w5.heap.size w5 W → (fun W : World => W.cell? ⟨p, 0, none⟩ = some (.int .u8 ((tyW t0 m).k : Int)) ∧ W.cell? ⟨p, 1, none⟩ = some (.string (str (tyW t0 m).nm)) ∧ W.cell? ⟨p, 2, none⟩ = some (.int .i64 (tyW t0 m).n) ∧ W.cell? ⟨p, 3, none⟩ = some (.slice A l c)) W) := Lib.hid fun W hW => (hbx.off hW).cell
      have hS1 : (fun W : World => W.cell? ⟨p, 0, none⟩ = some (.int .u8 ((tyW t0 m).k : Int)) ∧ W.cell? ⟨p, 1, none⟩ = some (.string (str (tyW t0 m).nm)) ∧ W.cell? ⟨p, 2, none⟩ = some (.int .i64 (tyW t0 m).n) ∧ W.cell? ⟨p, 3, none⟩ = some (.slice A l c)) w5.drew := HS13.out _ (Below.refl _ w5).drew
      have HBX := Lib.hid (And.intro hbw (And.intro hq5 hbx))
      have HFT := Lib.hid (And.intro htb hfin)
      clear hbw hq5 hbx HJ x0 x1 x2 x3 htb hfin
      go_upto_region 13 with fail
      refine wp_region_held_drew (S := (fun W : World => W.cell? ⟨p, 0, none⟩ = some (.int .u8 ((tyW t0 m).k : Int)) ∧ W.cell? ⟨p, 1, none⟩ = some (.string (str (tyW t0 m).nm)) ∧ W.cell? ⟨p, 2, none⟩ = some (.int .i64 (tyW t0 m).n) ∧ W.cell? ⟨p, 3, none⟩ = some (.slice A l c))) (by kernel_rfl) hS1 (fun hHeld => ?_)
      have hwd5 : Below w5.heap.size w5 w5.drew := (Below.refl _ w5).drew
      generalize w5.drew = wd5 at hHeld hwd5 ⊢
      clear hS1
      refine takeY 5 (some 74) rfl rfl (by kernel_rfl) (by kernel_rfl) (by kernel_rfl) (fun _ _ _ h => h) (by rfl) (v := _) (by (intro _ hSw; (try dsimp only at hSw); go_simp; try with_reducible rfl)) hHeld ?_
      simp only [Act.put, List.setIfInBounds_toArray, List.set_cons_zero, List.set_cons_succ]
      refine takeY 6 (some 75) rfl rfl (by kernel_rfl) (by kernel_rfl) (by kernel_rfl) (fun _ _ _ h => h) (by rfl) (v := _) (by (intro _ hSw; (try dsimp only at hSw); go_simp; try with_reducible rfl)) hHeld ?_
      simp only [Act.put, List.setIfInBounds_toArray, List.set_cons_zero, List.set_cons_succ]
      refine takeY 7 (some 76) rfl rfl (by kernel_rfl) (by kernel_rfl) (by kernel_rfl) (fun _ _ _ h => h) (by rfl) (v := _) (by (intro _ hSw; (try dsimp only at hSw); go_simp; try with_reducible rfl)) hHeld ?_
      simp only [Act.put, List.setIfInBounds_toArray, List.set_cons_zero, List.set_cons_succ]
      refine rh0 _ (fun _ d _ _ _ h => by cases d <;> exact h) w5 p _ _ _ _ _ _ HS13 (Lib.hid ?_) wd5 (Lib.hid hwd5)
      unfold R13End
      intro w6 vA c1 gX gY gZ hb6 hK FX FY FZ
      have h06 : Below w.heap.size w w6 := HBX.out.1.trans (hb6.mono HBX.out.1.size)
      have hpl := HBX.out.2.2.blk.lt
      have hq6 := HBX.out.2.1.below hb6 HBX.out.2.1.lt
      have hbx6 := HBX.out.2.2.off hb6
      have hX := FX.1
      have hY := FY.1
      have hZ := FZ.1
      have hds6 : DsAt (fun k => k ≠ p ∧ k < w6.heap.size) w6 (some ⟨gZ, 0, none⟩) (dsR vA c1 (some ⟨gX, 0, none⟩) (some ⟨gY, 0, none⟩) (tyW t0 m)) := ds_at (hK.mono fun k h => ⟨by have := h.1; omega, h.2⟩) FX.2 FY.2 FZ.2 ⟨by omega, FX.2.lt⟩ ⟨by omega, FY.2.lt⟩ ⟨by omega, FZ.2.lt⟩ hbx6.in_.bnd hbx6.len
      have H6 := Lib.hid (And.intro h06 (And.intro hq6 (And.intro hbx6 hds6)))
      clear h06 hpl hq6 hbx6 hX hY hZ hds6 hb6 hK FX FY FZ hHeld hwd5 HS13 HBX
      cases b with
      | false =>
        have HT := Lib.hid (textBad HFT.out.1 HFT.out.2 (HE.out w6 H6.out.1) (H6.out.2.2.2.mono fun k h => h.2) (dc := 3) (A := A) (l := l) (c := c) H6.out.2.2.1.len (H6.out.2.2.1.in_.bnd.1.mono fun k h => h.2))
        obtain ⟨x0, x1, x2, x3⟩ := H6.out.2.2.1.cell
        go_wp2_with fail
        refine HT.out.mono ?_
        rintro e a ⟨rfl, ba⟩
        have Ha : Hid (Below w.heap.size w a ∧ Blk a q 24 #[.int .u8 2, .string ⟨#[105, 110, 116]⟩, .int .i64 0, .slice none 0 0] ∧ DsAt (fun k => k < a.heap.size) a (some ⟨gZ, 0, none⟩) (dsR vA c1 (some ⟨gX, 0, none⟩) (some ⟨gY, 0, none⟩) (tyW t0 m))) := Lib.hid ⟨H6.out.1.trans (ba.mono H6.out.1.size), H6.out.2.1.below ba H6.out.2.1.lt, ((H6.out.2.2.2.off (Off.of_new ba (fun k => ¬ (k < w6.heap.size))) fun b h1 h2 => h2 h1.2)).mono fun k h => Nat.lt_of_lt_of_le h.2 ba.size⟩
        clear HT H6 ba x0 x1 x2 x3
        obtain ⟨y0, y1, y2, y3⟩ : a.cell? ⟨q, 0, none⟩ = some (.int .u8 2) ∧ a.cell? ⟨q, 1, none⟩ = some (.string ⟨#[105, 110, 116]⟩) ∧ a.cell? ⟨q, 2, none⟩ = some (.int .i64 0) ∧ a.cell? ⟨q, 3, none⟩ = some (.slice none 0 0) := ⟨Ha.out.2.1.cell 0, Ha.out.2.1.cell 1, Ha.out.2.1.cell 2, Ha.out.2.1.cell 3⟩
        obtain ⟨v1, hv1⟩ : ∃ W, a.alloc (.cells #[.int .u8 2, .string ⟨#[105, 110, 116]⟩, .int .i64 0, .slice none 0 0] 24) = W := ⟨_, rfl⟩
        have bv1 : Below a.heap.size a v1 := by rw [← hv1]; exact (Below.refl _ _).alloc (Nat.le_refl _) _
        have Bv1 : Blk v1 a.heap.size 24 #[.int .u8 2, .string ⟨#[105, 110, 116]⟩, .int .i64 0, .slice none 0 0] := by rw [← hv1]; exact Blk.new _ _ _
        obtain ⟨g1, hg1⟩ : ∃ g, a.heap.size = g := ⟨_, rfl⟩
        rw [hg1] at Bv1
        have HC1 := Lib.hid (named_any ⟨#[108, 105, 115, 116]⟩ (some ⟨g1, 0, none⟩) 1 1 v1)
        have HV1 := Lib.hid (And.intro hv1 (And.intro hg1 (And.intro bv1 Bv1)))
        clear hv1 hg1 bv1 Bv1
        go_wp2_with fail
        (try rw [HV1.out.1])
        (try rw [HV1.out.2.1])
        refine HC1.out.mono ?_
        rintro e v2 ⟨rfl, bv2⟩
        have b12 : Below a.heap.size a v2 := HV1.out.2.2.1.trans (bv2.mono HV1.out.2.2.1.size)
        have h0v2 : Below w.heap.size w v2 := Ha.out.1.trans (b12.mono Ha.out.1.size)
        have HT2 := Lib.hid (textLi HFT.out.1 HFT.out.2 (HE.out v2 h0v2) (((Ha.out.2.2.off (Off.of_new b12 (fun k => ¬ (k < a.heap.size))) fun b h1 h2 => h2 h1)).mono fun k h => Nat.lt_of_lt_of_le h b12.size) (cc := 1) (dc := 3) (HV1.out.2.2.2.below bv2 HV1.out.2.2.2.lt))
        have HV2 := Lib.hid h0v2
        clear HC1 HV1 bv2 b12 h0v2 y0 y1 y2 y3 Ha
        go_wp2_with fail
        refine HT2.out.mono ?_
        rintro e v3 ⟨rfl, bv3⟩
        have h0v3 : Below w.heap.size w v3 := HV2.out.trans (bv3.mono HV2.out.size)
        have HW3 := Lib.hid (works_any e0 v3 (HE.out v3 h0v3))
        have HV3 := Lib.hid h0v3
        clear HT2 HV2 bv3 h0v3
        go_wp2_with fail
        refine HW3.out.mono ?_
        rintro e v4 ⟨rfl, bv4⟩
        have HV4 : Hid (Below w.heap.size w v4) := Lib.hid (HV3.out.trans (bv4.mono HV3.out.size))
        clear HW3 HV3 bv4
        go_wp2_with fail
        go_ret
        exact ⟨rfl, HV4.out⟩
      | true =>
        have HC := Lib.hid (named_any ⟨#[97]⟩ none 0 0 w6)
        go_wp2_with fail
        refine HC.out.mono ?_
        rintro e w7 ⟨rfl, hb7⟩
        have hbx7 := H6.out.2.2.1.off hb7
        obtain ⟨x0, x1, x2, x3⟩ := hbx7.cell
        have rf := hbx7.blk.frozen
        obtain ⟨w8, hw8⟩ : ∃ W, ((((w7.setCell ⟨p, 0, none⟩ (.int .u8 2)).setCell ⟨p, 1, none⟩ (.string ⟨#[97]⟩)).setCell ⟨p, 2, none⟩ (.int .i64 0)).setCell ⟨p, 3, none⟩ (.slice none 0 0)) = W := ⟨_, rfl⟩
        have hs := hbx7.blk.set4 (.int .u8 2) (.string ⟨#[97]⟩) (.int .i64 0) (.slice none 0 0)
        have ho := off4 w7 p (.int .u8 2) (.string ⟨#[97]⟩) (.int .i64 0) (.slice none 0 0)
        rw [hw8] at hs ho
        have h07 : Below w.heap.size w w7 := H6.out.1.trans (hb7.mono H6.out.1.size)
        have h08 : Below w.heap.size w w8 := h07.trans (ho.below h07.size fun k e => by rw [e]; exact HP.out)
        have hq8 := (H6.out.2.1.below hb7 H6.out.2.1.lt).off ho (by have := HT0.out.2; omega)
        have hds8 : DsAt (fun k => k < w8.heap.size) w8 (some ⟨gZ, 0, none⟩) (dsR vA c1 (some ⟨gX, 0, none⟩) (some ⟨gY, 0, none⟩) (tyW t0 m)) := ((H6.out.2.2.2.off (Off.of_new hb7 (fun k => ¬ (k < w6.heap.size))) fun b h1 h2 => h2 h1.2).off ho fun b h1 h2 => h1.1 h2).mono fun k h => Nat.lt_of_lt_of_le h.2 (Nat.le_trans hb7.size ho.size)
        have H8 := Lib.hid (And.intro hw8 (And.intro hs (And.intro h08 (And.intro hq8 hds8))))
        clear HC hb7 hbx7 hw8 hs ho h07 h08 hq8 hds8 H6
        go_upto_region 16 with fail
        (try rw [H8.out.1])
        clear x0 x1 x2 x3 rf
        obtain ⟨x0, x1, x2, x3⟩ : w8.cell? ⟨p, 0, none⟩ = some (.int .u8 2) ∧ w8.cell? ⟨p, 1, none⟩ = some (.string ⟨#[97]⟩) ∧ w8.cell? ⟨p, 2, none⟩ = some (.int .i64 0) ∧ w8.cell? ⟨p, 3, none⟩ = some (.slice none 0 0) := ⟨H8.out.2.1.cell 0, H8.out.2.1.cell 1, H8.out.2.1.cell 2, H8.out.2.1.cell 3⟩
        have HT := Lib.hid (textIn HFT.out.1 HFT.out.2 (HE.out w8 H8.out.2.2.1) H8.out.2.2.2.2 (dc := 3))
        go_wp2_with fail
        refine HT.out.mono ?_
        rintro e a ⟨rfl, ba⟩
        have Ha : Hid (Below w.heap.size w a ∧ Blk a q 24 #[.int .u8 2, .string ⟨#[105, 110, 116]⟩, .int .i64 0, .slice none 0 0] ∧ DsAt (fun k => k < a.heap.size) a (some ⟨gZ, 0, none⟩) (dsR vA c1 (some ⟨gX, 0, none⟩) (some ⟨gY, 0, none⟩) (tyW t0 m))) := Lib.hid ⟨H8.out.2.2.1.trans (ba.mono H8.out.2.2.1.size), H8.out.2.2.2.1.below ba H8.out.2.2.2.1.lt, ((H8.out.2.2.2.2.off (Off.of_new ba (fun k => ¬ (k < w8.heap.size))) fun b h1 h2 => h2 h1)).mono fun k h => Nat.lt_of_lt_of_le h ba.size⟩
        clear HT H8 ba x0 x1 x2 x3
        obtain ⟨y0, y1, y2, y3⟩ : a.cell? ⟨q, 0, none⟩ = some (.int .u8 2) ∧ a.cell? ⟨q, 1, none⟩ = some (.string ⟨#[105, 110, 116]⟩) ∧ a.cell? ⟨q, 2, none⟩ = some (.int .i64 0) ∧ a.cell? ⟨q, 3, none⟩ = some (.slice none 0 0) := ⟨Ha.out.2.1.cell 0, Ha.out.2.1.cell 1, Ha.out.2.1.cell 2, Ha.out.2.1.cell 3⟩
        obtain ⟨v1, hv1⟩ : ∃ W, a.alloc (.cells #[.int .u8 2, .string ⟨#[105, 110, 116]⟩, .int .i64 0, .slice none 0 0] 24) = W := ⟨_, rfl⟩
        have bv1 : Below a.heap.size a v1 := by rw [← hv1]; exact (Below.refl _ _).alloc (Nat.le_refl _) _
        have Bv1 : Blk v1 a.heap.size 24 #[.int .u8 2, .string ⟨#[105, 110, 116]⟩, .int .i64 0, .slice none 0 0] := by rw [← hv1]; exact Blk.new _ _ _
        obtain ⟨g1, hg1⟩ : ∃ g, a.heap.size = g := ⟨_, rfl⟩
        rw [hg1] at Bv1
        have HC1 := Lib.hid (named_any ⟨#[108, 105, 115, 116]⟩ (some ⟨g1, 0, none⟩) 1 1 v1)
        have HV1 := Lib.hid (And.intro hv1 (And.intro hg1 (And.intro bv1 Bv1)))
        clear hv1 hg1 bv1 Bv1
        go_wp2_with fail
        (try rw [HV1.out.1])
        (try rw [HV1.out.2.1])
        refine HC1.out.mono ?_
        rintro e v2 ⟨rfl, bv2⟩
        have b12 : Below a.heap.size a v2 := HV1.out.2.2.1.trans (bv2.mono HV1.out.2.2.1.size)
        have h0v2 : Below w.heap.size w v2 := Ha.out.1.trans (b12.mono Ha.out.1.size)
        have HT2 := Lib.hid (textLi HFT.out.1 HFT.out.2 (HE.out v2 h0v2) (((Ha.out.2.2.off (Off.of_new b12 (fun k => ¬ (k < a.heap.size))) fun b h1 h2 => h2 h1)).mono fun k h => Nat.lt_of_lt_of_le h b12.size) (cc := 1) (dc := 3) (HV1.out.2.2.2.below bv2 HV1.out.2.2.2.lt))
        have HV2 := Lib.hid h0v2
        clear HC1 HV1 bv2 b12 h0v2 y0 y1 y2 y3 Ha
        go_wp2_with fail
        refine HT2.out.mono ?_
        rintro e v3 ⟨rfl, bv3⟩
        have h0v3 : Below w.heap.size w v3 := HV2.out.trans (bv3.mono HV2.out.size)
        have HW3 := Lib.hid (works_any e0 v3 (HE.out v3 h0v3))
        have HV3 := Lib.hid h0v3
        clear HT2 HV2 bv3 h0v3
        go_wp2_with fail
        refine HW3.out.mono ?_
        rintro e v4 ⟨rfl, bv4⟩
        have HV4 : Hid (Below w.heap.size w v4) := Lib.hid (HV3.out.trans (bv4.mono HV3.out.size))
        clear HW3 HV3 bv4
        go_wp2_with fail
        go_ret
        exact ⟨rfl, HV4.out⟩
end Go.Proofs.YtadogebhkldeiaaDoor
