/- heap: Alloc, walked. -/
import Derived.Test.YtclkkfffecmjnaaTake
namespace Go.Proofs.Ytclkkfffecmjnaa
open Go.RowKit
attribute [local go_sem] Oper.semAt_some
abbrev obv (o : Ob) (A : Option Addr) (c : Nat) : Value := .agg #[.int .u8 (o.k : Int), .int .i64 o.tag, .slice A o.ws.length c, .string (str o.t)]
abbrev obc (o : Ob) (A : Option Addr) (c : Nat) : Obj := .cells #[.int .u8 (o.k : Int), .int .i64 o.tag, .slice A o.ws.length c, .string (str o.t)] 35
theorem alloc_nil (o : Ob) (A : Option Addr) (c : Nat) (w : World) : Calls Try.prog 36 #[.pointer none, obv o A c] w fun e w' => e = .returned (.tuple #[.int .i64 0, .int .i64 2]) ∧ Below w.heap.size w w' := by
  have hb := (Below.refl w.heap.size w).alloc (Nat.le_refl _) (obc o A c)
  have HB := Lib.hid hb
  clear hb
  go_enter Try.func36, Try.ntmps36
  go_wp2_with fail
  go_ret2
  exact ⟨rfl, HB.out⟩
section
variable {w : World} {M : Mem} {n : Nat} {H : HS}
set_option maxHeartbeats 400000 in
theorem alloc_arg (_h : HM w M n H) (o : Ob) (A : Option Addr) (c : Nat) (ho : OArg w o A) (hm : Hp.mayO o = false) : Calls Try.prog 36 #[.pointer (some ⟨M.g, 0, none⟩), obv o A c] w fun e w' => e = .returned (.tuple #[.int .i64 0, .int .i64 1]) ∧ Below w.heap.size w w' := by
  have hb := (Below.refl w.heap.size w).alloc (Nat.le_refl _) (obc o A c)
  have HB := Lib.hid hb
  have H1 := maybe_any o A c _ (ho.below hb)
  rw [hm] at H1
  have H1 := Lib.hid H1
  clear hb _h ho hm
  go_enter Try.func36, Try.ntmps36
  go_wp2_with fail
  refine H1.out.mono ?_
  rintro e w1 ⟨rfl, hb1⟩
  have HB1 := Lib.hid (HB.out.trans (hb1.mono HB.out.size))
  clear hb1
  go_wp2_with fail
  go_ret2
  exact ⟨rfl, HB1.out⟩
set_option maxRecDepth 20000 in
set_option maxHeartbeats 1000000 in
theorem alloc_state (h : HM w M n H) (o : Ob) (A : Option Addr) (c : Nat) (ho : OArg w o A) (hm : Hp.mayO o = true) (h8 : o.k = 8) (hs : (H.ofOid o.tag).isSome = true) : Calls Try.prog 36 #[.pointer (some ⟨M.g, 0, none⟩), obv o A c] w fun e w' => e = .returned (.tuple #[.int .i64 0, .int .i64 3]) ∧ Below w.heap.size w w' := by
  have hb := (Below.refl w.heap.size w).alloc (Nat.le_refl _) (obc o A c)
  have hB := Blk.new w 35 #[.int .u8 (o.k : Int), .int .i64 o.tag, .slice A o.ws.length c, .string (str o.t)]
  have H1 := maybe_any o A c _ (ho.below hb)
  rw [hm] at H1
  have H1 := Lib.hid H1
  have HB := Lib.hid (And.intro hb (And.intro hB (And.intro h (And.intro hs ho.tag))))
  have d8 : ((o.k : Int) == 8) = true := by rw [h8]; rfl
  clear hb h ho hm hs hB h8
  go_enter Try.func36, Try.ntmps36
  go_wp2_with fail
  refine H1.out.mono ?_
  rintro e w1 ⟨rfl, hb1⟩
  obtain ⟨hb, hB, h, hs, htg⟩ := HB.out
  have h1 := h.below (hb.trans (hb1.mono hb.size))
  have hB1 := hB.below hb1 hB.lt
  have b0 := hB1.cell 0
  have b1 := hB1.cell 1
  simp only [List.getElem?_toArray, List.getElem?_cons_zero, List.getElem?_cons_succ] at b0 b1
  obtain ⟨_, _, _, _, _, c5, _⟩ := h1.told
  have hl := fun q => (h1.below (drewN_below w1 q)).has.look o.tag (WalkArith.wf_i64 (by omega))
  rw [hs] at hl
  have HBB : Hid (∀ q, Below w.heap.size w (w1.drewN q)) := Lib.hid (fun q => (hb.trans (hb1.mono hb.size)).trans ((drewN_below w1 q).mono (hb.trans (hb1.mono hb.size)).size))
  clear hb hB h hs htg h1 hB1 hb1 HB H1
  go_wp2_with fail
  go_quiet (fail)
  go_wp2_with fail
  go_ret2
  exact ⟨rfl, HBB.out _⟩
/-- What Alloc makes of memory. -/
def AllocP (w w' : World) (M : Mem) (n : Nat) (H : HS) (o : Ob) (e : Ending) : Prop :=
  (H.limit - H.used < Hp.sizeO o ∧ e = .returned (.tuple #[.int .i64 0, .int .i64 6]) ∧ Below w.heap.size w w') ∨
  (Hp.sizeO o ≤ H.limit - H.used ∧ e = .returned (.tuple #[.int .i64 ((H.count + 1 : Nat) : Int), .int .i64 0]) ∧ ∃ M', M'.g = M.g ∧ HM w' M' (n + 2) (allocH H o) ∧ Off (fun b => M.R b ≠ .no) w w' ∧ ∀ b, M'.R b ≠ .no → M.R b ≠ .no ∨ w.heap.size ≤ b)
set_option maxRecDepth 20000 in
set_option maxHeartbeats 2000000 in
theorem alloc_go (h : HM w M n H) {t : Nat} (hok : H.Ok t) (ht : t < 900000) (hn9 : n < 900000) (o : Ob) (A : Option Addr) (c : Nat) (ho : OArg w o A) (hAn : ∀ p : Addr, A = some p → M.R p.block = .no) (hm : Hp.mayO o = true) (h8 : o.k = 8 → H.ofOid o.tag = none) :
    Calls Try.prog 36 #[.pointer (some ⟨M.g, 0, none⟩), obv o A c] w fun e w' => AllocP w w' M n H o e := by
  have hb := (Below.refl w.heap.size w).alloc (Nat.le_refl _) (obc o A c)
  have hB := Blk.new w 35 #[.int .u8 (o.k : Int), .int .i64 o.tag, .slice A o.ws.length c, .string (str o.t)]
  have H1 := maybe_any o A c _ (ho.below hb)
  rw [hm] at H1
  have H1 := Lib.hid H1
  have HB := Lib.hid (And.intro hb (And.intro hB (And.intro h (And.intro hok (And.intro ho (And.intro hm h8))))))
  have HAN := Lib.hid hAn
  obtain ⟨b8, hb8⟩ : ∃ b, ((o.k : Int) == 8) = b := ⟨_, rfl⟩
  clear hb h ho hm hB h8 hok hAn
  go_enter Try.func36, Try.ntmps36
  go_wp2_with fail
  refine H1.out.mono ?_
  rintro e w1 ⟨rfl, hb1⟩
  obtain ⟨hb, hB, h, hok, ho, hm, h8⟩ := HB.out
  have hbw := hb.trans (hb1.mono hb.size)
  have h1 := h.below hbw
  have hB1 := hB.below hb1 hB.lt
  have b0 := hB1.cell 0
  have b1 := hB1.cell 1
  have b2 := hB1.cell 2
  have b3 := hB1.cell 3
  simp only [List.getElem?_toArray, List.getElem?_cons_zero, List.getElem?_cons_succ] at b0 b1 b2 b3
  obtain ⟨_, _, _, _, _, c5, _⟩ := h1.told
  have hl := fun q => (h1.below (drewN_below w1 q)).has.look o.tag (WalkArith.wf_i64 (by have := ho.tag; omega))
  obtain ⟨tt, htt⟩ : ∃ b, (H.ofOid o.tag).isSome = b := ⟨_, rfl⟩
  rw [htt] at hl
  have hand : (tt && b8) = false := by
    cases b8
    · simp
    · have := h8 (by have : (o.k : Int) = 8 := by simpa using hb8
                     omega)
      rw [this] at htt
      rw [← htt]; rfl
  have HBB := Lib.hid (And.intro hbw (And.intro hB1 h1))
  clear hb hB h hok ho hm h8 hbw h1 hB1 hb1 H1 htt
  go_wp2_with fail
  go_quiet (fail)
  go_upto_region 6 with fail
  go_cut [29] from 24 to 29 (fun s wx => s = .bool false ∧ ∃ q, wx = w1.drewN q)
  case first =>
    cases tt
    · go_wp2_with fail
      go_meet
      exact ⟨rfl, _, rfl⟩
    · cases b8
      · go_wp2_with fail
        go_meet
        exact ⟨rfl, _, rfl⟩
      · cases hand
  case rest =>
    obtain ⟨rfl, q, hwc⟩ := hcut
    subst hwc
    obtain ⟨w2, hw2⟩ : ∃ w2, w1.drewN q = w2 := ⟨_, rfl⟩
    obtain ⟨hbw, hB1, h1⟩ := HBB.out
    have hb12 : Below w1.heap.size w1 w2 := by rw [← hw2]; exact drewN_below w1 q
    have hbw2 := hbw.trans (hb12.mono hbw.size)
    have hB2 := hB1.below hb12 hB1.lt
    have b0 := hB2.cell 0
    have b1 := hB2.cell 1
    have b2 := hB2.cell 2
    have b3 := hB2.cell 3
    simp only [List.getElem?_toArray, List.getElem?_cons_zero, List.getElem?_cons_succ] at b0 b1 b2 b3
    have HS1 := Lib.hid (size_any o A c w2 HB.out.2.2.2.2.1.small)
    have HW2 := Lib.hid (And.intro hbw2 (And.intro hB2 (h1.below hb12)))
    rw [hw2]
    clear hbw hB1 h1 hb12 hbw2 hB2 hw2 HBB hl hand
    go_wp2_with fail
    refine HS1.out.mono ?_
    rintro e w3 ⟨rfl, hb3⟩
    obtain ⟨hbw2, hB2, h2⟩ := HW2.out
    have h3 := h2.below hb3
    have hbw3 := hbw2.trans (hb3.mono hbw2.size)
    have hB3 := hB2.below hb3 hB2.lt
    obtain ⟨c0, c1, c2, _, _, _, f1, f2⟩ := h3.told
    have hroom := HB.out.2.2.2.1.room
    have hcnt := HB.out.2.2.2.1.cnt
    obtain ⟨sz, hsz⟩ : ∃ s, Hp.sizeO o = s := ⟨_, rfl⟩
    have hszb : sz ≤ 200000 := by
      rw [← hsz]
      have := HB.out.2.2.2.2.1.small
      unfold Hp.sizeO
      have h1 := this.1
      have h2 := this.2.1
      split <;> omega
    obtain ⟨lim, hlim⟩ : ∃ s, H.limit = s := ⟨_, rfl⟩
    obtain ⟨us, hus⟩ : ∃ s, H.used = s := ⟨_, rfl⟩
    obtain ⟨cnt, hct⟩ : ∃ s, H.count = s := ⟨_, rfl⟩
    rw [hlim] at c0 hroom
    rw [hus] at c1 hroom
    rw [hct] at c2 hcnt
    rw [hsz]
    have HN := Lib.hid (And.intro hsz (And.intro hlim (And.intro hus hct)))
    have HW3 := Lib.hid (And.intro hbw3 (And.intro hB3 h3))
    have HQ : Hid (∀ q, Below w.heap.size w (w3.drewN q)) := Lib.hid (fun q => hbw3.trans ((drewN_below w3 q).mono hbw3.size))
    clear hbw2 hB2 h2 h3 hbw3 hB3 hb3 HW2 HS1 hsz hlim hus hct b0 b1 b2 b3
    by_cases hfull : lim - us < sz
    · have hd : decide ((sz : Int) > (lim : Int) - (us : Int)) = true := by simp; omega
      have hd2 : decide ((lim : Int) - (us : Int) < (sz : Int)) = true := by simp; omega
      go_wp2_with fail
      go_quiet (fail)
      go_wp2_with fail
      go_ret2
      obtain ⟨n1, n2, n3, _⟩ := HN.out
      exact .inl ⟨by rw [n1, n2, n3]; exact hfull, rfl, HQ.out _⟩
    · have hd : decide ((sz : Int) > (lim : Int) - (us : Int)) = false := by simp; omega
      have hd2 : decide ((lim : Int) - (us : Int) < (sz : Int)) = false := by simp; omega
      go_wp2_with fail
      go_quiet (fail)
      go_upto_region 13 with fail
      obtain ⟨w4, hw4⟩ : ∃ w4, (((w3.drewN nq).setCell ⟨M.g, 2, none⟩ (.int .i64 ((cnt : Int) + 1))).setCell ⟨M.g, 1, none⟩ (.int .i64 ((us : Int) + (sz : Int)))) = w4 := ⟨_, rfl⟩
      obtain ⟨hbw3, hB3, h3⟩ := HW3.out
      obtain ⟨n1, n2, n3, n4⟩ := HN.out
      have h4 : HM w4 M n ⟨H.limit, H.used + Hp.sizeO o, H.count + 1, H.L, H.T⟩ := by
        have h9 := ((h3.below (drewN_below w3 nq)).head2 (H.count + 1)).head1 (H.used + Hp.sizeO o)
        rw [n1, n3, n4] at h9
        rw [← hw4, n1, n3, n4]
        exact h9
      have ho4 : Off (fun b => b = M.g) w3 w4 := by rw [← hw4]; exact ((Off.drewN _ w3 nq).trans (Off.setc _ _ _ _)).trans (Off.setc _ _ _ _)
      have hgb : M.g < w.heap.size := HB.out.2.2.1.head.lt
      have hB4 := hB3.same (ho4.block w.heap.size hB3.lt fun e => by have e' : w.heap.size = M.g := e; omega)
      have b0 := hB4.cell 0
      have b1 := hB4.cell 1
      have b2 := hB4.cell 2
      have b3 := hB4.cell 3
      simp only [List.getElem?_toArray, List.getElem?_cons_zero, List.getElem?_cons_succ] at b0 b1 b2 b3
      obtain ⟨_, _, g2o, g3, _⟩ := h4.told
      have g2 : w4.cell? ⟨M.g, 2, none⟩ = some (.int .i64 ((cnt : Int) + 1)) := by rw [g2o, ← n4]; rfl
      clear g2o
      have hwords : Words w4 A o.ws := HB.out.2.2.2.2.1.words.same (Nat.le_trans hbw3.size ho4.size) fun p e hp => (ho4.block p.block (Nat.lt_of_lt_of_le hp hbw3.size) fun e' => by
        have h9 := HAN.out p e
        rw [show p.block = M.g from e', h3.rg] at h9
        cases h9).trans (hbw3.block p.block hp)
      have HO4 : Hid (∀ q, Calls Try.prog 63 #[obv o A c] (w4.drewN q) fun e w' => ∃ v A' c', e = .returned v ∧ ObV (w4.heap.size + 2) w' v o A' c' ∧ Below w4.heap.size w4 w') := Lib.hid (fun q => (own_any o A c (w4.drewN q) (by have := HB.out.2.2.2.2.1.small.1; omega) (hwords.below (drewN_below w4 q))).mono fun e w' hh => by
        obtain ⟨v, A', c', e1, e2, e3⟩ := hh
        exact ⟨v, A', c', e1, e2, (drewN_below w4 q).trans e3⟩)
      have HW4 := Lib.hid (And.intro h4 (And.intro ho4 (And.intro hB4 hbw3)))
      rw [hw4]
      clear h4 ho4 hB4 hbw3 hB3 h3 n1 n2 n3 n4 hw4 hwords HW3 HQ hgb c0 c1 c2 f1 f2
      have HSS : Hid (∀ W, Below w4.heap.size w4 W → W.cell? ⟨M.g, 2, none⟩ = some (.int .i64 ((cnt : Int) + 1)) ∧ W.cell? ⟨M.g, 3, none⟩ = some (.map (some M.ob)) ∧ W.cell? ⟨w.heap.size, 0, none⟩ = some (.int .u8 (o.k : Int)) ∧ W.cell? ⟨w.heap.size, 1, none⟩ = some (.int .i64 o.tag) ∧ W.cell? ⟨w.heap.size, 2, none⟩ = some (.slice A o.ws.length c) ∧ W.cell? ⟨w.heap.size, 3, none⟩ = some (.string (str o.t))) := Lib.hid (fun W hW => by
        obtain ⟨h4, _, hB4, _⟩ := HW4.out
        have e := hB4.below hW hB4.lt
        have e2 := (h4.below hW).told
        exact ⟨by rw [e2.2.2.1, ← HN.out.2.2.2]; rfl, e2.2.2.2.1, e.cell 0, e.cell 1, e.cell 2, e.cell 3⟩)
      have HS7 : Hid (∀ W o' w7, Below w4.heap.size w4 W → Off (fun k => k = M.ob) (W.alloc o') w7 → (fun W => W.cell? ⟨M.g, 2, none⟩ = some (.int .i64 ((cnt : Int) + 1)) ∧ W.cell? ⟨M.g, 3, none⟩ = some (.map (some M.ob)) ∧ W.cell? ⟨w.heap.size, 0, none⟩ = some (.int .u8 (o.k : Int)) ∧ W.cell? ⟨w.heap.size, 1, none⟩ = some (.int .i64 o.tag) ∧ W.cell? ⟨w.heap.size, 2, none⟩ = some (.slice A o.ws.length c) ∧ W.cell? ⟨w.heap.size, 3, none⟩ = some (.string (str o.t))) w7) := Lib.hid (fun W o' w7 hW ho7 => by
        obtain ⟨h4, _, hB4, _⟩ := HW4.out
        have hWa := hW.alloc hW.size o'
        have hB := hB4.below hWa hB4.lt
        have hm := h4.below hWa
        have hne : ∀ b l, M.R b = l → l ≠ .mp 0 → b ≠ M.ob := fun b l e h e2 => h (by rw [← e, e2]; exact h4.rob)
        have hg7 : Blk w7 M.g 80 (headC M ⟨H.limit, H.used + Hp.sizeO o, H.count + 1, H.L, H.T⟩) := hm.head.same (ho7.block M.g hm.head.lt (hne _ _ h4.rg (by intro e; cases e)))
        have hb7 := hB.same (ho7.block w.heap.size hB.lt fun e => by
          have e : w.heap.size = M.ob := e
          have := HB.out.2.2.1.obs.lt
          omega)
        exact ⟨by rw [hg7.cell 2, ← HN.out.2.2.2]; rfl, hg7.cell 3, hb7.cell 0, hb7.cell 1, hb7.cell 2, hb7.cell 3⟩)
      refine wp_region_held_drew (S := fun W => W.cell? ⟨M.g, 2, none⟩ = some (.int .i64 ((cnt : Int) + 1)) ∧ W.cell? ⟨M.g, 3, none⟩ = some (.map (some M.ob)) ∧ W.cell? ⟨w.heap.size, 0, none⟩ = some (.int .u8 (o.k : Int)) ∧ W.cell? ⟨w.heap.size, 1, none⟩ = some (.int .i64 o.tag) ∧ W.cell? ⟨w.heap.size, 2, none⟩ = some (.slice A o.ws.length c) ∧ W.cell? ⟨w.heap.size, 3, none⟩ = some (.string (str o.t))) (by kernel_rfl) (by exact HSS.out _ ((Below.refl _ w4).drew)) (fun hHeld => ?_)
      refine takeY 0 (some 58) rfl rfl (by kernel_rfl) (by kernel_rfl) (by kernel_rfl) (fun _ _ _ h => h) (by rfl) (v := _) (by (intro _ hSw; (try dsimp only at hSw); go_simp; try with_reducible rfl)) hHeld ?_
      simp only [Act.put, List.setIfInBounds_toArray, List.set_cons_zero, List.set_cons_succ]
      refine takeY 1 (some 59) rfl rfl (by kernel_rfl) (by kernel_rfl) (by kernel_rfl) (fun _ _ _ h => h) (by rfl) (v := _) (by (intro _ hSw; (try dsimp only at hSw); go_simp; try with_reducible rfl)) hHeld ?_
      simp only [Act.put, List.setIfInBounds_toArray, List.set_cons_zero, List.set_cons_succ]
      refine takeY 2 (some 60) rfl rfl (by kernel_rfl) (by kernel_rfl) (by kernel_rfl) (fun _ _ _ h => h) (by rfl) (v := _) (by (intro _ hSw; (try dsimp only at hSw); go_simp; try with_reducible rfl)) hHeld ?_
      simp only [Act.put, List.setIfInBounds_toArray, List.set_cons_zero, List.set_cons_succ]
      refine takeY 3 (some 61) rfl rfl (by kernel_rfl) (by kernel_rfl) (by kernel_rfl) (fun _ _ _ h => h) (by rfl) (v := _) (by (intro _ hSw; (try dsimp only at hSw); go_simp; try with_reducible rfl)) hHeld ?_
      simp only [Act.put, List.setIfInBounds_toArray, List.set_cons_zero, List.set_cons_succ]
      refine takeY 4 (some 62) rfl rfl (by kernel_rfl) (by kernel_rfl) (by kernel_rfl) (fun _ _ _ h => h) (by rfl) (v := _) (by (intro _ hSw; (try dsimp only at hSw); go_simp; try with_reducible rfl)) hHeld ?_
      simp only [Act.put, List.setIfInBounds_toArray, List.set_cons_zero, List.set_cons_succ]
      refine takeY 5 (some 63) rfl rfl (by kernel_rfl) (by kernel_rfl) (by kernel_rfl) (fun _ _ _ h => h) (by rfl) (v := _) (by (intro _ hSw; (try dsimp only at hSw); go_simp; try with_reducible rfl)) hHeld ?_
      simp only [Act.put, List.setIfInBounds_toArray, List.set_cons_zero, List.set_cons_succ]
      refine takeY 6 (some 64) rfl rfl (by kernel_rfl) (by kernel_rfl) (by kernel_rfl) (fun _ _ _ h => h) (by rfl) (v := _) (by (intro _ hSw; (try dsimp only at hSw); go_simp; try with_reducible rfl)) hHeld ?_
      simp only [Act.put, List.setIfInBounds_toArray, List.set_cons_zero, List.set_cons_succ]
      refine takeY 7 (some 65) rfl rfl (by kernel_rfl) (by kernel_rfl) (by kernel_rfl) (fun _ _ _ h => h) (by rfl) (v := _) (by (intro _ hSw; (try dsimp only at hSw); go_simp; try with_reducible rfl)) hHeld ?_
      simp only [Act.put, List.setIfInBounds_toArray, List.set_cons_zero, List.set_cons_succ]
      refine takeY 8 (some 66) rfl rfl (by kernel_rfl) (by kernel_rfl) (by kernel_rfl) (fun _ _ _ h => h) (by rfl) (v := _) (by (intro _ hSw; (try dsimp only at hSw); go_simp; try with_reducible rfl)) hHeld ?_
      simp only [Act.put, List.setIfInBounds_toArray, List.set_cons_zero, List.set_cons_succ]
      refine wpAnyH_ready (rs := [9]) (by kernel_rfl) (by simp) ?_
      refine AllReadyH.cons rfl (fun K hK => ?_) AllReadyH.nil
      clear hHeld
      go_simp
      go_wp2_with (go_at_call 63; refine (HO4.out 1).mono ?_; rintro e w5 ⟨v, A', c', rfl, hv, hb5⟩
                   obtain ⟨rfl, hrow⟩ := hv
                   have hm5 := HW4.out.1.below hb5
                   obtain ⟨w7, hrun, hp7, ho7⟩ := (hm5.obs.same (Below.heap_alloc w5 (.cells #[.int .u8 (o.k : Int), .int .i64 o.tag, .slice A' o.ws.length c', .string (str o.t), .bool false] 88) M.ob hm5.obs.lt)).put ((cnt : Int) + 1) w5.heap.size (WalkArith.wf_i64 (by omega)) (by omega))
      refine hK.out _ _ (by exact HSS.out _ hb5) (fun hHeld => ?_)
      clear hK K
      refine takeY 10 (some 68) rfl rfl (by kernel_rfl) (by kernel_rfl) (by kernel_rfl) (fun _ _ _ h => h) (by rfl) (v := _) (by (intro _ hSw; (try dsimp only at hSw); go_simp; try with_reducible rfl)) hHeld ?_
      simp only [Act.put, List.setIfInBounds_toArray, List.set_cons_zero, List.set_cons_succ]
      refine wpAnyH_ready (rs := [11]) (by kernel_rfl) (by simp) ?_
      refine AllReadyH.cons rfl (fun K hK => ?_) AllReadyH.nil
      go_simp
      refine hK.out _ _ (by exact HSS.out _ (hb5.alloc hb5.size _)) (fun hHeld => ?_)
      clear hK K
      refine wpAnyH_ready (rs := [12]) (by kernel_rfl) (by simp) ?_
      refine AllReadyH.cons rfl (fun K hK => ?_) AllReadyH.nil
      go_simp
      refine hK.out _ _ (by exact HS7.out _ _ _ hb5 ho7) (fun hHeld => ?_)
      clear hK K
      refine wpAnyH_done (by kernel_rfl) ?_ _
      obtain ⟨h4, ho4, hB4, hbw3⟩ := HW4.out
      have hfr := fresh HB.out.2.2.2.1
      have hszw := hb5.size
      have hoff7 : Off (fun b => b = M.ob) w4 w7 := ((Off.of_new hb5 _).trans (Off.alloc _ w5 _)).trans ho7
      have hobl : M.ob < w4.heap.size := h4.obs.lt
      have hblk7 : Blk w7 w5.heap.size 88 (heldC ⟨H.count + 1, o, false⟩ A' c') := (Blk.new w5 88 #[.int .u8 (o.k : Int), .int .i64 o.tag, .slice A' o.ws.length c', .string (str o.t), .bool false]).same (ho7.block _ (by rw [World.size_alloc]; omega) fun e => by have e : w5.heap.size = M.ob := e; omega)
      have hrow7 : WRow 0 w7 A' o.ws.length c' o.ws := ((hrow.mono (Nat.zero_le _)).below ((Below.refl _ w5).alloc (Nat.le_refl _) _)).same ho7.size fun p e => ho7.block _ (by rw [World.size_alloc]; have := (hrow.blk p e).2.2.2; omega) fun e' => by
        have e' : p.block = M.ob := e'
        have := (hrow.blk p e).2.2.1
        omega
      have hcc : ((H.count + 1 : Nat) : Int) = (cnt : Int) + 1 := by rw [HN.out.2.2.2]; omega
      have hm7 := h4.add ⟨H.count + 1, o, false⟩ w5.heap.size (A := A') (c := c') hfr.1 hszw (fun p e => by have := (hrow.blk p e).2.2; omega) (by dsimp only; rw [hcc]; exact hp7) hoff7 hblk7 hrow7
      have hbox7 := hB4.same (hoff7.block w.heap.size hB4.lt fun e => by have e : w.heap.size = M.ob := e; have := HB.out.2.2.1.obs.lt; omega)
      have e0 := hbox7.cell 0
      have e1 := hbox7.cell 1
      simp only [List.getElem?_toArray, List.getElem?_cons_zero, List.getElem?_cons_succ] at e0 e1
      have hoffw : Off (fun b => M.R b ≠ .no) w w7 := by
        have h9 : Off (fun b => M.R b ≠ .no) w3 w7 := (ho4.mono fun b _ e => by have e : b = M.g := e; rw [e, h4.rg]; intro e; cases e).trans (hoff7.mono fun b _ e => by have e : b = M.ob := e; rw [e, h4.rob]; intro e; cases e)
        exact (Off.of_new hbw3 _).trans h9
      have hRR : ∀ b, addR (addF M.R (H.count + 1) w5.heap.size) (H.count + 1) A' b ≠ .no → M.R b ≠ .no ∨ w.heap.size ≤ b := fun b hb => by
        have h34 := ho4.size
        have hw3 := hbw3.size
        rcases addR_or hb with h1 | ⟨p, hp, rfl⟩
        · unfold addF at h1
          by_cases e : b = w5.heap.size
          · exact .inr (by omega)
          · rw [if_neg e] at h1; exact .inl h1
        · exact .inr (by have := (hrow.blk p hp).2.2.1; omega)
      obtain ⟨_, _, i2o, _⟩ := hm7.told
      have i2 : w7.cell? ⟨M.g, 2, none⟩ = some (.int .i64 ((cnt : Int) + 1)) := by rw [← hcc]; exact i2o
      clear i2o
      have HM7 := Lib.hid (And.intro hm7 (And.intro hoffw (And.intro hRR hcc)))
      have HBX := Lib.hid hbox7
      have HSZ : Hid (Hp.sizeO o ≤ H.limit - H.used) := Lib.hid (by obtain ⟨n1, n2, n3, _⟩ := HN.out; omega)
      clear hHeld h4 ho4 hB4 hbw3 hfr hszw hoff7 hobl hblk7 hrow7 hcc hm7 hbox7 hoffw hRR hrow hm5 hrun hp7 ho7 hb5 b0 b1 b2 b3 g2 g3
      cases b8
      · go_wp2_with fail
        go_ret2
        obtain ⟨hm7, hoffw, hRR, hcc⟩ := HM7.out
        refine .inr ⟨HSZ.out, by rw [hcc]; rfl, { M with B := addB M.B (H.count + 1) w5.heap.size, R := addR (addF M.R (H.count + 1) w5.heap.size) (H.count + 1) A' }, rfl, ?_, hoffw, hRR⟩
        have hk8 : o.k ≠ 8 := fun e => by rw [e] at hb8; cases hb8
        have ea : allocH H o = ⟨H.limit, H.used + Hp.sizeO o, H.count + 1, H.L ++ [⟨H.count + 1, o, false⟩], H.T⟩ := by unfold allocH; rw [if_neg hk8]
        rw [ea]
        exact hm7.mono (Nat.le_succ _)
      · have hk8 : o.k = 8 := by have : (o.k : Int) = 8 := by simpa using hb8
                                 omega
        have hmay := may8 HB.out.2.2.2.2.2.1 hk8
        obtain ⟨tg, htg⟩ : ∃ tg : Nat, o.tag = tg := ⟨o.tag.toNat, by omega⟩
        have hof := HB.out.2.2.2.2.2.2 hk8
        rw [htg] at hof
        have hcl : H.count + 1 < 1000000 := by have := HB.out.2.2.2.1.cnt; omega
        have htie : ∀ q, Calls Try.prog 67 #[.pointer (some ⟨M.g, 0, none⟩), .int .i64 ((cnt : Int) + 1), .int .i64 (tg : Int)] (w7.drewN q) fun e w' => e = .returned (.tuple #[]) ∧ HM w' { M with B := addB M.B (H.count + 1) w5.heap.size, R := addR (addF M.R (H.count + 1) w5.heap.size) (H.count + 1) A' } (n + 2) (allocH H o) ∧ Off (fun b => b = M.oi ∨ b = M.ha) w7 w' := fun q => by
          have h9 := tie_any (HM7.out.1.below (drewN_below w7 q)) (H.count + 1) tg hcl (by omega) (by omega) (fresh HB.out.2.2.2.1).2 hof
          rw [HM7.out.2.2.2] at h9
          have ea : allocH H o = ⟨H.limit, H.used + Hp.sizeO o, H.count + 1, H.L ++ [⟨H.count + 1, o, false⟩], H.T ++ [(H.count + 1, tg)]⟩ := by unfold allocH; rw [if_pos hk8, htg]; rfl
          rw [ea]
          exact h9.mono fun e w' hh => ⟨hh.1, hh.2.1, (Off.drewN _ w7 q).trans hh.2.2⟩
        have HT := Lib.hid htie
        have HTG := Lib.hid htg
        rw [htg] at e1
        clear hmay hof htie htg hk8 hcl
        go_upto_region 15 with fail
        refine wp_region_held_drew (S := fun W => W.cell? ⟨M.g, 2, none⟩ = some (.int .i64 ((cnt : Int) + 1)) ∧ W.cell? ⟨w.heap.size, 1, none⟩ = some (.int .i64 (tg : Int))) (by kernel_rfl) (by exact ⟨i2, e1⟩) (fun hHeld => ?_)
        refine takeY 0 (some 73) rfl rfl (by kernel_rfl) (by kernel_rfl) (by kernel_rfl) (fun _ _ _ h => h) (by rfl) (v := _) (by (intro _ hSw; (try dsimp only at hSw); go_simp; try with_reducible rfl)) hHeld ?_
        simp only [Act.put, List.setIfInBounds_toArray, List.set_cons_zero, List.set_cons_succ]
        refine takeY 1 (some 74) rfl rfl (by kernel_rfl) (by kernel_rfl) (by kernel_rfl) (fun _ _ _ h => h) (by rfl) (v := _) (by (intro _ hSw; (try dsimp only at hSw); go_simp; try with_reducible rfl)) hHeld ?_
        simp only [Act.put, List.setIfInBounds_toArray, List.set_cons_zero, List.set_cons_succ]
        refine takeY 2 (some 75) rfl rfl (by kernel_rfl) (by kernel_rfl) (by kernel_rfl) (fun _ _ _ h => h) (by rfl) (v := _) (by (intro _ hSw; (try dsimp only at hSw); go_simp; try with_reducible rfl)) hHeld ?_
        simp only [Act.put, List.setIfInBounds_toArray, List.set_cons_zero, List.set_cons_succ]
        refine takeY 3 (some 76) rfl rfl (by kernel_rfl) (by kernel_rfl) (by kernel_rfl) (fun _ _ _ h => h) (by rfl) (v := _) (by (intro _ hSw; (try dsimp only at hSw); go_simp; try with_reducible rfl)) hHeld ?_
        simp only [Act.put, List.setIfInBounds_toArray, List.set_cons_zero, List.set_cons_succ]
        refine takeY 4 (some 77) rfl rfl (by kernel_rfl) (by kernel_rfl) (by kernel_rfl) (fun _ _ _ h => h) (by rfl) (v := _) (by (intro _ hSw; (try dsimp only at hSw); go_simp; try with_reducible rfl)) hHeld ?_
        simp only [Act.put, List.setIfInBounds_toArray, List.set_cons_zero, List.set_cons_succ]
        refine takeY 5 (some 78) rfl rfl (by kernel_rfl) (by kernel_rfl) (by kernel_rfl) (fun _ _ _ h => h) (by rfl) (v := _) (by (intro _ hSw; (try dsimp only at hSw); go_simp; try with_reducible rfl)) hHeld ?_
        simp only [Act.put, List.setIfInBounds_toArray, List.set_cons_zero, List.set_cons_succ]
        refine takeY 6 (some 79) rfl rfl (by kernel_rfl) (by kernel_rfl) (by kernel_rfl) (fun _ _ _ h => h) (by rfl) (v := _) (by (intro _ hSw; (try dsimp only at hSw); go_simp; try with_reducible rfl)) hHeld ?_
        simp only [Act.put, List.setIfInBounds_toArray, List.set_cons_zero, List.set_cons_succ]
        refine wpAnyH_ready (rs := [7]) (by kernel_rfl) (by simp) ?_
        refine AllReadyH.cons rfl (fun K hK => ?_) AllReadyH.nil
        clear hHeld
        go_simp
        go_wp2_with (go_at_call 67; refine (HT.out 1).mono ?_; rintro e w8 ⟨rfl, hm8, ho8⟩
                     have i8 : w8.cell? ⟨M.g, 2, none⟩ = some (.int .i64 ((cnt : Int) + 1)) := by rw [← HM7.out.2.2.2]; exact hm8.head.cell 2
                     have x8 : w8.cell? ⟨w.heap.size, 1, none⟩ = some (.int .i64 (tg : Int)) := by
                       rw [World.cell?_of_block (a := ⟨w.heap.size, 1, none⟩) (ho8.block w.heap.size HBX.out.lt fun e => by
                         have h1 := HB.out.2.2.1.ois.lt
                         have h2 := HB.out.2.2.1.has.lt
                         rcases e with e | e <;> omega)]
                       exact e1)
        refine hK.out _ _ (by exact ⟨i8, x8⟩) (fun hHeld => ?_)
        clear hK K
        refine wpAnyH_done (by kernel_rfl) ?_ _
        have HM8 := Lib.hid (And.intro hm8 ho8)
        clear hm8 ho8 hHeld
        go_wp2_with fail
        go_ret2
        obtain ⟨hm7, hoffw, hRR, hcc⟩ := HM7.out
        refine .inr ⟨HSZ.out, by rw [hcc]; rfl, { M with B := addB M.B (H.count + 1) w5.heap.size, R := addR (addF M.R (H.count + 1) w5.heap.size) (H.count + 1) A' }, rfl, HM8.out.1, hoffw.trans (HM8.out.2.mono fun b _ e => ?_), hRR⟩
        rcases e with e | e
        · rw [e, HB.out.2.2.1.roi]; intro e; cases e
        · rw [e, HB.out.2.2.1.rha]; intro e; cases e
end
end Go.Proofs.Ytclkkfffecmjnaa
