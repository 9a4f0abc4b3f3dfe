/- heap: mayBe. -/
import Derived.Test.YtclkkfffecmjnaaD
import Derived.Deep.CutBlock
namespace Go.Proofs.Ytclkkfffecmjnaa
open Go.RowKit
attribute [local go_sem] Oper.semAt_some
theorem maybe1_any (k : Nat) (i : Int) (w : World) (hk : k < 256) : Calls Try.prog 77 #[.agg #[.int .u8 (k : Int), .int .i64 i]] w fun e w' => e = .returned (.bool (!Hp.wordOk ⟨k, i⟩)) ∧ Below w.heap.size w w' := by
  have hb := (Below.refl w.heap.size w).alloc (Nat.le_refl _) (.cells #[.int .u8 (k : Int), .int .i64 i] 37)
  have H1 := Lib.hid (isword_any k i (w.alloc (.cells #[.int .u8 (k : Int), .int .i64 i] 37)) hk)
  have HB := Lib.hid hb
  clear hb
  generalize Hp.wordOk ⟨k, i⟩ = b at *
  go_enter Try.func77, Try.ntmps77
  go_wp2_with fail
  refine H1.out.mono ?_
  rintro e w1 ⟨rfl, hb1⟩
  have HB1 := Lib.hid (HB.out.trans (hb1.mono HB.out.size))
  clear hb1
  go_wp2_with fail
  go_ret
  exact ⟨rfl, HB1.out⟩
set_option maxHeartbeats 1000000 in
theorem index_any (A : Option Addr) (n c : Nat) (ws : List Wd) (w : World) (hn : ws.length = n) (hl : n ≤ 100000) (hA : Words w A ws) :
    Calls Try.prog 90 #[.slice A n c, .func (.func 77) #[] #[]] w fun e w' => ∃ z : Int, e = .returned (.int .i64 z) ∧ decide (z ≥ 0) = !(ws.all Hp.wordOk) ∧ Below w.heap.size w w' := by
  have HA := Lib.hid hA
  have HN := Lib.hid hn
  clear hA hn
  go_enter Try.func90, Try.ntmps90
  go_wp2_with fail
  go_loopw [8] (fun iv wr => ∃ i : Nat, i ≤ n ∧ iv = .int .i64 (i : Int) ∧ Hid (Below w.heap.size w wr ∧ ∀ x ∈ ws.take i, Hp.wordOk x = true)) (fun iv _ => n - (intOf iv).toNat)
  case atStart => exact ⟨0, Nat.zero_le _, rfl, Lib.hid ⟨Below.refl _ _, fun x hx => by simp at hx⟩⟩
  case round =>
    obtain ⟨i, hi, rfl, hJ⟩ := hrel
    by_cases hlt : i < n
    · have hd : decide ((i : Int) < (n : Int)) = true := by simpa using hlt
      obtain ⟨x, hx⟩ : ∃ x, ws[i]? = some x := ⟨_, List.getElem?_eq_getElem (by rw [HN.out]; exact hlt)⟩
      obtain ⟨bx, off, rfl, hblt, e0, e1, hr⟩ := HA.out.below hJ.out.1 i x hx
      have HX := Lib.hid hx
      obtain ⟨kx, nx⟩ := x
      dsimp only at e0 e1 hr
      have HW := Lib.hid (maybe1_any kx nx wr hr.1)
      obtain ⟨wb, hwb⟩ : ∃ wb, Hp.wordOk ⟨kx, nx⟩ = wb := ⟨_, rfl⟩
      rw [hwb] at HW
      have HWB := Lib.hid hwb
      have HJ := Lib.hid hJ.out
      clear hx hJ hwb hr
      cases wb
      · go_wp2_with (go_at_call 77; refine Calls.mono HW.out ?_; rintro e w5 ⟨rfl, hb5⟩)
        go_ret
        have hm : ws.all Hp.wordOk = false := by
          rw [List.all_eq_false]
          exact ⟨_, List.mem_of_getElem? HX.out, by rw [HWB.out]; simp⟩
        exact ⟨_, rfl, by rw [hm]; simp, HJ.out.1.trans (hb5.mono HJ.out.1.size)⟩
      · go_wp2_with (go_at_call 77; refine Calls.mono HW.out ?_; rintro e w5 ⟨rfl, hb5⟩)
        have HJ5 : Hid (Below w.heap.size w w5 ∧ ∀ x ∈ ws.take (i + 1), Hp.wordOk x = true) := Lib.hid ⟨HJ.out.1.trans (hb5.mono HJ.out.1.size), fun x hx => by
          obtain ⟨h1, h2⟩ := List.getElem?_eq_some_iff.1 HX.out
          rw [List.take_succ_eq_append_getElem h1, h2] at hx
          rcases List.mem_append.1 hx with h | h
          · exact HJ.out.2 x h
          · rw [List.mem_singleton.1 h]; exact HWB.out⟩
        clear hb5
        go_roundw
        case rel => exact ⟨i + 1, by omega, by go_num, HJ5⟩
        case measure => simp [intOf]; omega
    · obtain rfl : n = i := by omega
      have hd : decide ((n : Int) < (n : Int)) = false := by simp
      have hm : Hid (ws.all Hp.wordOk = true) := Lib.hid (by
        rw [List.all_eq_true]
        have := hJ.out.2
        rw [List.take_of_length_le (by rw [HN.out]; exact Nat.le_refl _)] at this
        exact this)
      have HB5 := Lib.hid hJ.out.1
      clear hJ
      go_wp2_with fail
      go_ret
      exact ⟨-1, rfl, by rw [hm.out]; simp, HB5.out⟩
theorem contains_any (A : Option Addr) (n c : Nat) (ws : List Wd) (w : World) (hn : ws.length = n) (hl : n ≤ 100000) (hA : Words w A ws) :
    Calls Try.prog 76 #[.slice A n c, .func (.func 77) #[] #[]] w fun e w' => e = .returned (.bool (!(ws.all Hp.wordOk))) ∧ Below w.heap.size w w' := by
  have H1 := Lib.hid (index_any A n c ws w hn hl hA)
  clear hA hn
  generalize ws.all Hp.wordOk = b at *
  go_enter Try.func76, Try.ntmps76
  go_wp2_with fail
  refine H1.out.mono ?_
  rintro e w1 ⟨z, rfl, hz, hb⟩
  have HB := Lib.hid hb
  have HZ := Lib.hid hz
  clear hb hz
  go_wp2_with fail
  go_ret
  exact ⟨by rw [← HZ.out]; rfl, HB.out⟩
set_option maxRecDepth 20000 in
set_option maxHeartbeats 2000000 in
theorem maybe_any (o : Ob) (A : Option Addr) (c : Nat) (w : World) (ho : OArg w o A) :
    Calls Try.prog 66 #[.agg #[.int .u8 (o.k : Int), .int .i64 o.tag, .slice A o.ws.length c, .string (str o.t)]] w fun e w' => e = .returned (.bool (Hp.mayO o)) ∧ Below w.heap.size w w' := by
  obtain ⟨hA, ⟨hl, hl2, hk⟩, ht1, ht2⟩ := ho
  obtain ⟨k, tag, ws, t⟩ := o
  dsimp only at hl hl2 hk hA ht1 ht2 ⊢
  obtain ⟨n, hn⟩ : ∃ n, ws.length = n := ⟨_, rfl⟩
  have hm : Hp.mayO ⟨k, tag, ws, t⟩ = match Hp.kindO k n with
    | none => false
    | some (least, most, tags) => decide (least ≤ n) && decide (n ≤ most) && decide (0 ≤ tag) && decide (tag ≤ tags) && (decide (k ≠ 8) || decide (0 < tag)) && (decide (k = 5) || t.isEmpty) && ws.all Hp.wordOk := by
    unfold Hp.mayO
    dsimp only
    rw [hn]
    cases Hp.kindO k n <;> rfl
  rw [hn] at hl ⊢
  obtain ⟨w0, hw0⟩ : ∃ w0, w.alloc (.cells #[.int .u8 (k : Int), .int .i64 tag, .slice A n c, .string (str t)] 35) = w0 := ⟨_, rfl⟩
  have hB0 : Blk w0 w.heap.size 35 #[.int .u8 (k : Int), .int .i64 tag, .slice A n c, .string (str t)] := by rw [← hw0]; exact Blk.new _ _ _
  have hb0 : Below w.heap.size w w0 := by rw [← hw0]; exact (Below.refl _ _).alloc (Nat.le_refl _) _
  have d0 : w0.cell? ⟨w.heap.size, 0, none⟩ = some (.int .u8 (k : Int)) := hB0.cell 0
  have d1 : w0.cell? ⟨w.heap.size, 1, none⟩ = some (.int .i64 tag) := hB0.cell 1
  have d2 : w0.cell? ⟨w.heap.size, 2, none⟩ = some (.slice A n c) := hB0.cell 2
  have d3 : w0.cell? ⟨w.heap.size, 3, none⟩ = some (.string (str t)) := hB0.cell 3
  have HC : Hid (∀ q, Calls Try.prog 76 #[.slice A n c, .func (.func 77) #[] #[]] (w0.drewN q) fun e w' => e = .returned (.bool (!(ws.all Hp.wordOk))) ∧ Below w.heap.size w w') := Lib.hid (fun q => (contains_any A n c ws _ hn hl ((hA.below hb0).below (drewN_below w0 q))).mono fun e w' h => ⟨h.1, (hb0.trans ((drewN_below w0 q).mono hb0.size)).trans (h.2.mono hb0.size)⟩)
  have HM := Lib.hid hm
  have HB : Hid (∀ q, Below w.heap.size w (w0.drewN q)) := Lib.hid (fun q => hb0.trans ((drewN_below w0 q).mono hb0.size))
  clear hm hB0 hb0 hA hn
  generalize ws.all Hp.wordOk = wa at *
  go_enter Try.func66, Try.ntmps66
  have hw00 : w0 = w0.drewN 0 := rfl
  have HW0 := Lib.hid hw00
  clear hw00
  go_upto_block 0 with fail
  go_cut [3, 4, 5] from 6 to 31 (fun a b d wx => ∃ least most tags : Nat, Hid (Hp.kindO k n = some (least, most, tags)) ∧ a = .int .i64 (least : Int) ∧ b = .int .i64 (most : Int) ∧ d = .int .i64 (tags : Int) ∧ (least ≤ 2 ∧ most ≤ 100000 ∧ tags ≤ 65535) ∧ ∃ q, wx = w0.drewN q)
  case first =>
    by_cases h1 : k = 1
    · subst h1
      go_wp2_with fail
      go_quiet (fail)
      go_wp2_with fail
      go_meet
      exact ⟨2, n, 0, Lib.hid rfl, rfl, rfl, rfl, ⟨by omega, by omega, by omega⟩, _, rfl⟩
    have e1 : ((k : Int) == 1) = false := by simp; omega
    by_cases h2 : k = 2
    · subst h2
      go_wp2_with fail
      go_meet
      exact ⟨0, 1, 65535, Lib.hid rfl, rfl, rfl, rfl, ⟨by omega, by omega, by omega⟩, 0, rfl⟩
    have e2 : ((k : Int) == 2) = false := by simp; omega
    by_cases h6 : k = 6
    · subst h6
      go_wp2_with fail
      go_meet
      exact ⟨0, 1, 65535, Lib.hid rfl, rfl, rfl, rfl, ⟨by omega, by omega, by omega⟩, 0, rfl⟩
    have e6 : ((k : Int) == 6) = false := by simp; omega
    by_cases h3 : k = 3
    · subst h3
      go_wp2_with fail
      go_meet
      exact ⟨1, 1, 0, Lib.hid rfl, rfl, rfl, rfl, ⟨by omega, by omega, by omega⟩, 0, rfl⟩
    have e3 : ((k : Int) == 3) = false := by simp; omega
    by_cases h4 : k = 4
    · subst h4
      go_wp2_with fail
      go_meet
      exact ⟨0, n, 0, Lib.hid rfl, rfl, rfl, rfl, ⟨by omega, by omega, by omega⟩, 0, rfl⟩
    have e4 : ((k : Int) == 4) = false := by simp; omega
    by_cases h7 : k = 7
    · subst h7
      go_wp2_with fail
      go_meet
      exact ⟨0, n, 65535, Lib.hid rfl, rfl, rfl, rfl, ⟨by omega, by omega, by omega⟩, 0, rfl⟩
    have e7 : ((k : Int) == 7) = false := by simp; omega
    by_cases h5 : k = 5
    · subst h5
      go_wp2_with fail
      go_meet
      exact ⟨0, 0, 0, Lib.hid rfl, rfl, rfl, rfl, ⟨by omega, by omega, by omega⟩, 0, rfl⟩
    have e5 : ((k : Int) == 5) = false := by simp; omega
    by_cases h8 : k = 8
    · subst h8
      go_wp2_with fail
      go_meet
      exact ⟨0, 0, 16384, Lib.hid rfl, rfl, rfl, rfl, ⟨by omega, by omega, by omega⟩, 0, rfl⟩
    have e8 : ((k : Int) == 8) = false := by simp; omega
    have HK : Hid (Hp.kindO k n = none) := Lib.hid (by unfold Hp.kindO; simp [h1, h2, h3, h4, h5, h6, h7, h8])
    clear h1 h2 h3 h4 h5 h6 h7 h8
    go_wp2_with fail
    go_ret
    exact ⟨by rw [HM.out, HK.out]; rfl, HB.out 0⟩
  case rest =>
    obtain ⟨least, most, tags, HK, rfl, rfl, rfl, ⟨hb1, hb2, hb3⟩, q, hwc⟩ := hcut
    subst hwc
    obtain ⟨w2, hw2⟩ : ∃ w2, w0.drewN q = w2 := ⟨_, rfl⟩
    have HCC := Lib.hid (HC.out q)
    have HBB := Lib.hid (HB.out q)
    have d0 : w2.cell? ⟨w.heap.size, 0, none⟩ = some (.int .u8 (k : Int)) := by rw [← hw2]; exact d0
    have d1 : w2.cell? ⟨w.heap.size, 1, none⟩ = some (.int .i64 tag) := by rw [← hw2]; exact d1
    have d2 : w2.cell? ⟨w.heap.size, 2, none⟩ = some (.slice A n c) := by rw [← hw2]; exact d2
    have d3 : w2.cell? ⟨w.heap.size, 3, none⟩ = some (.string (str t)) := by rw [← hw2]; exact d3
    rw [hw2] at HCC HBB ⊢
    clear hw2
    obtain ⟨p1, hp1⟩ : ∃ p, decide ((n : Int) ≥ (least : Int)) = p := ⟨_, rfl⟩
    obtain ⟨p2, hp2⟩ : ∃ p, decide ((n : Int) ≤ (most : Int)) = p := ⟨_, rfl⟩
    obtain ⟨p3, hp3⟩ : ∃ p, decide (tag ≥ 0) = p := ⟨_, rfl⟩
    obtain ⟨p4, hp4⟩ : ∃ p, decide (tag ≤ (tags : Int)) = p := ⟨_, rfl⟩
    obtain ⟨p5, hp5⟩ : ∃ p, ((k : Int) != 8) = p := ⟨_, rfl⟩
    obtain ⟨p6, hp6⟩ : ∃ p, decide (tag > 0) = p := ⟨_, rfl⟩
    obtain ⟨p7, hp7⟩ : ∃ p, ((k : Int) == 5) = p := ⟨_, rfl⟩
    obtain ⟨p8, hp8⟩ : ∃ p, t.isEmpty = p := ⟨_, rfl⟩
    have hr : Hp.mayO ⟨k, tag, ws, t⟩ = (p1 && p2 && p3 && p4 && (p5 || p6) && (p7 || p8) && wa) := by
      rw [HM.out, HK.out]
      dsimp only
      have g1 : decide (least ≤ n) = p1 := by rw [← hp1, Bool.eq_iff_iff]; simp
      have g2 : decide (n ≤ most) = p2 := by rw [← hp2, Bool.eq_iff_iff]; simp
      have g5 : decide (k ≠ 8) = p5 := by rw [← hp5, Bool.eq_iff_iff]; simp; omega
      have g7 : decide (k = 5) = p7 := by rw [← hp7, Bool.eq_iff_iff]; simp; omega
      have g6 : decide (0 < tag) = p6 := by rw [← hp6]
      have g3 : decide (0 ≤ tag) = p3 := by rw [← hp3]
      rw [g1, g2, g3, hp4, g5, g6, g7, hp8]
    have hp1n : decide (least ≤ n) = p1 := by rw [← hp1, Bool.eq_iff_iff]; simp
    have hp2n : decide (n ≤ most) = p2 := by rw [← hp2, Bool.eq_iff_iff]; simp
    have hp3n : decide (0 ≤ tag) = p3 := hp3
    have hp6n : decide (0 < tag) = p6 := hp6
    have HR := Lib.hid hr
    clear hr HK HM HC HB HW0 hb1 hb2 hb3
    have hse : (str t).toList.isEmpty = p8 := by rw [str_toList]; exact hp8
    have hsq : ((str t).toList == []) = p8 := by rw [str_toList]; rw [← hp8]; cases t <;> rfl
    cases p1
    · go_wp2_with fail
      go_ret
      exact ⟨by rw [HR.out]; rfl, HBB.out⟩
    cases p2
    · go_wp2_with fail
      go_ret
      exact ⟨by rw [HR.out]; rfl, HBB.out⟩
    cases p3
    · go_wp2_with fail
      go_ret
      exact ⟨by rw [HR.out]; rfl, HBB.out⟩
    cases p4
    · go_wp2_with fail
      go_ret
      exact ⟨by rw [HR.out]; rfl, HBB.out⟩
    cases p5
    · cases p6
      · go_wp2_with fail
        go_ret
        exact ⟨by rw [HR.out]; rfl, HBB.out⟩
      cases p7
      · cases p8
        · go_wp2_with fail
          go_ret
          exact ⟨by rw [HR.out]; rfl, HBB.out⟩
        · go_wp2_with (go_at_call 76; refine Calls.mono HCC.out ?_; rintro e w5 ⟨rfl, hb5⟩)
          go_ret
          exact ⟨by rw [HR.out]; simp, hb5⟩
      · go_wp2_with (go_at_call 76; refine Calls.mono HCC.out ?_; rintro e w5 ⟨rfl, hb5⟩)
        go_ret
        exact ⟨by rw [HR.out]; simp, hb5⟩
    cases p7
    · cases p8
      · go_wp2_with fail
        go_ret
        exact ⟨by rw [HR.out]; rfl, HBB.out⟩
      · go_wp2_with (go_at_call 76; refine Calls.mono HCC.out ?_; rintro e w5 ⟨rfl, hb5⟩)
        go_ret
        exact ⟨by rw [HR.out]; simp, hb5⟩
    · go_wp2_with (go_at_call 76; refine Calls.mono HCC.out ?_; rintro e w5 ⟨rfl, hb5⟩)
      go_ret
      exact ⟨by rw [HR.out]; simp, hb5⟩
end Go.Proofs.Ytclkkfffecmjnaa
