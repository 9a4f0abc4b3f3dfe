/- PagesOne. -/
import Derived.Test.YtcmaehilgeonjaaAM
namespace Go.Proofs.Ytcmaehilgeonjaa
open Go.RowKit Pgs
/-- Behind the copy. -/
structure OneI (w W : World) (h : Nat) (L L3 : List Nat) : Prop where
  pl : Pl w W w.heap.size L3
  was : PM W h L
  lt : w.heap.size < h
theorem OneI.step {w W W' : World} {h : Nat} {L L3 L4 : List Nat} (x : OneI w W h L L3) (hs : Stp W W' w.heap.size L4) : OneI w W' h L L4 :=
  ⟨x.pl.step (Nat.le_refl _) hs, ⟨x.was.blk.off hs.2 (by have := x.lt; omega), x.was.ok⟩, x.lt⟩
theorem setB_no {p s : Int} (h : setB p s = false) : p < 0 ∨ (0 ≤ p ∧ 1024 ≤ p) ∨ (0 ≤ p ∧ p < 1024 ∧ s < 1) ∨ (0 ≤ p ∧ p < 1024 ∧ 1 ≤ s ∧ 65535 < s) := by
  unfold setB at h
  simp only [Bool.and_eq_false_iff, decide_eq_false_iff_not] at h
  omega
set_option maxRecDepth 20000 in
set_option maxHeartbeats 4000000 in
theorem one_any (len cap : Nat) (A : Option Addr) (ls : List Ou) (p q s : Int) (w : World) (hlen : ls.length = len) (hA : Ops w A ls) :
    Calls Try.prog 5 #[.slice A len cap, .int .i64 p, .int .i64 q, .int .i64 s] w fun e W' => e = .returned (.bool true) ∧ Below w.heap.size w W' := by
  have h0 := vast_any A len cap ls w hlen hA
  have HW := Lib.hid (fun W => works_any W)
  cases hv : vastB ls with
  | true =>
    rw [hv] at h0
    have H0 := Lib.hid h0
    have H1 := Lib.hid (HW.out w)
    clear hA hlen h0 hv
    go_enter Try.func5, Try.ntmps5
    go_wp2_with (first
      | (go_at_call 9; refine Calls.mono H0.out ?_; rintro e w' ⟨rfl, rfl⟩)
      | (go_at_call 10; refine Calls.mono H1.out ?_; rintro e w' ⟨rfl, hbw⟩))
    go_ret
    exact ⟨rfl, hbw⟩
  | false =>
    rw [hv] at h0
    have H0 := Lib.hid h0
    obtain ⟨hl200, hsm⟩ := vastB_no hv
    rw [hlen] at hl200
    have HSM := Lib.hid hsm
    have HA := Lib.hid hA
    have HL := Lib.hid hlen
    have H1 := Lib.hid (new_any w)
    clear hA hlen hv h0 hsm
    go_enter Try.func5, Try.ntmps5
    go_wp2_with (first
      | (go_at_call 9; refine Calls.mono H0.out ?_; rintro e w' ⟨rfl, rfl⟩)
      | (go_at_call 11; refine Calls.mono H1.out ?_; rintro e w1 ⟨rfl, hP, hb⟩))
    have HI : Hid (Pl w w1 w.heap.size (playL ls 0)) := Lib.hid ⟨hP, hb⟩
    clear hP hb H0 H1
    go_loopw [10] (fun iv wr => ∃ i : Nat, i ≤ len ∧ iv = .int .i64 (i : Int) ∧ Hid (Pl w wr w.heap.size (playL ls i))) (fun iv _ => len - (intOf iv).toNat)
    case atStart => exact ⟨0, Nat.zero_le _, rfl, HI⟩
    case round =>
      clear HI
      obtain ⟨i, hi, rfl, hI⟩ := hrel
      by_cases hlt : i < len
      · have hd : decide ((i : Int) < (len : Int)) = true := by simpa using hlt
        obtain ⟨o, ho⟩ : ∃ o, ls[i]? = some o := ⟨_, List.getElem?_eq_getElem (by rw [HL.out]; exact hlt)⟩
        obtain ⟨b, off, A2, n, c, rfl, _, hc, hn, hn1, hn2, hB⟩ := HA.out.at_ ho
        obtain ⟨k0, k1, k2, k3⟩ := hc wr hI.out.bel
        have hnb : n ≤ 1024 := by rw [← hn]; exact HSM.out o (List.mem_of_getElem? ho)
        have H1 := Lib.hid (does_some w.heap.size n c A2 (playL ls i) o wr hI.out.m hn hnb (hB.below hI.out.bel))
        have HS : Hid (∀ W, Stp wr W w.heap.size (doesL (playL ls i) o) → Pl w W w.heap.size (playL ls (i + 1))) := Lib.hid (fun W hW => by
          rw [playL_succ ho]; exact hI.out.step (Nat.le_refl _) hW)
        clear hc hn hB hI ho
        go_wp2_with (go_at_call 15; refine Calls.mono H1.out ?_; rintro e w3 ⟨rfl, hS⟩)
        have HI2 := Lib.hid (HS.out _ hS)
        clear hS
        go_roundw
        case rel => exact ⟨i + 1, by omega, by go_num, HI2⟩
        case measure => simp [intOf]; omega
      · obtain rfl : len = i := by omega
        have hd : decide ((len : Int) < (len : Int)) = false := by simp
        obtain ⟨L, hL⟩ : ∃ L, playL ls len = L := ⟨_, rfl⟩
        rw [hL] at hI
        have H1 := Lib.hid (copy_some _ L wr hI.out.m)
        have HI := hI
        clear hI hL
        go_wp2_with (go_at_call 13; refine Calls.mono H1.out ?_; rintro e w2 ⟨rfl, hC, hb⟩)
        have HO : Hid (OneI w w2 wr.heap.size L L) := Lib.hid ⟨⟨HI.out.m.below hb, HI.out.bel.trans (hb.mono HI.out.bel.size)⟩, hC, HI.out.m.blk.lt⟩
        obtain ⟨h, hh⟩ : ∃ h, wr.heap.size = h := ⟨_, rfl⟩
        rw [hh] at HO ⊢
        clear hC hb HI hh H1
        obtain ⟨y, hy⟩ : ∃ y, got L q = y := ⟨_, rfl⟩
        obtain ⟨yb, hyb⟩ : ∃ yb, decide (y ≠ 0) = yb := ⟨_, rfl⟩
        have HG : Hid (∀ W k L', PM W k L' → got L' q = y → Calls Try.prog 17 #[.pointer (some ⟨k, 0, none⟩), .int .i64 q] W fun e w' => e = .returned (.tuple #[.int .i64 (y : Int), .bool yb]) ∧ W = w') := Lib.hid (fun W k L' hP he => by
          have := get_some k L' q W hP
          rw [he, hyb] at this
          exact this)
        have HY := Lib.hid hy
        have H1 := Lib.hid (HG.out _ _ _ HO.out.pl.m hy)
        have H2 := Lib.hid (set_some w.heap.size L p s w2 HO.out.pl.m)
        have HSO : Hid (∀ w3, Stp w2 w3 w.heap.size (setL L p s) → OneI w w3 h L (setL L p s)) := Lib.hid (fun w3 hs => HO.out.step hs)
        clear hy hyb
        cases hsb : setB p s with
        | true =>
          rw [hsb] at H2
          have hb4 := hsb
          unfold setB at hb4
          simp only [Bool.and_eq_true, decide_eq_true_eq] at hb4
          obtain ⟨⟨hp0, hp1⟩, hs0, hs1⟩ := hb4
          have HOK := Lib.hid HO.out.pl.m.ok
          have HSB := Lib.hid hsb
          clear hsb HO
          go_wp2_with (first
            | (go_at_call_of 17 (Value.int IntKind.i64 q); refine Calls.mono H1.out ?_; rintro e w' ⟨rfl, rfl⟩)
            | (go_at_call 29; refine Calls.mono H2.out ?_; rintro e w3 ⟨rfl, hS⟩))
          have HO := Lib.hid (HSO.out _ hS)
          have H3 := get_some w.heap.size (setL L p s) p w3 hS.1
          obtain ⟨e1, e2⟩ := got_set HOK.out HSB.out
          rw [e1, decide_eq_true e2] at H3
          have H4 := clear_some w.heap.size (setL L p s) p w3 hS.1
          rw [show clearB (setL L p s) p = true from decide_eq_true e2] at H4
          have H3 := Lib.hid H3
          have H4 := Lib.hid H4
          clear hS e1 e2 H1 H2 HSO
          refine H3.out.mono ?_
          rintro e w' ⟨rfl, rfl⟩
          clear H3
          go_wp2_with fail
          refine H4.out.mono ?_
          rintro e w4 ⟨rfl, hS⟩
          have HO := Lib.hid (HO.out.step hS)
          have H3 := clear_some w.heap.size _ p w4 hS.1
          rw [clear_clear (setL_ok HOK.out p s)] at H3
          have H3 := Lib.hid H3
          clear hS H4
          go_wp2_with fail
          refine H3.out.mono ?_
          rintro e w5 ⟨rfl, hS⟩
          have HO := Lib.hid (HO.out.step hS)
          have HQ : Hid (q ≠ p → got (clearL (clearL (setL L p s) p) p) q = got L q) := Lib.hid (fun e => by rw [got_clear_ne _ e, got_clear_ne _ e, got_set_ne _ e])
          clear hS H3
          by_cases hpq : p = q
          · have hne : (p != q) = false := by simp [hpq]
            clear hpq
            go_wp2_with fail
            have H1 := Lib.hid (HG.out _ _ _ HO.out.was HY.out)
            have HB := Lib.hid HO.out.pl.bel
            clear HO HQ
            go_wp2_with (first
              | (go_at_call_of 17 (Value.pointer (some ⟨h, 0, none⟩)); refine Calls.mono H1.out ?_; rintro e w' ⟨rfl, rfl⟩)
              | (go_at_call 10; refine Calls.mono (HW.out _) ?_; rintro e w9 ⟨rfl, hbw⟩))
            go_ret
            exact ⟨rfl, HB.out.trans (hbw.mono HB.out.size)⟩
          · have hne : (p != q) = true := by simpa using hpq
            have H3 := Lib.hid (HG.out _ _ _ HO.out.pl.m ((HQ.out (fun e => hpq e.symm)).trans HY.out))
            clear hpq
            go_wp2_with (go_at_call_of 17 (Value.pointer (some ⟨w.heap.size, 0, none⟩)); refine Calls.mono H3.out ?_; rintro e w' ⟨rfl, rfl⟩)
            have H1 := Lib.hid (HG.out _ _ _ HO.out.was HY.out)
            have HB := Lib.hid HO.out.pl.bel
            clear HO HQ
            go_wp2_with (first
              | (go_at_call_of 17 (Value.pointer (some ⟨h, 0, none⟩)); refine Calls.mono H1.out ?_; rintro e w' ⟨rfl, rfl⟩)
              | (go_at_call 10; refine Calls.mono (HW.out _) ?_; rintro e w9 ⟨rfl, hbw⟩))
            go_ret
            exact ⟨rfl, HB.out.trans (hbw.mono HB.out.size)⟩
        | false =>
          rw [hsb] at H2
          have hl : setL L p s = L := by unfold setL; rw [hsb]; rfl
          rw [hl] at H2 HSO
          have hor := setB_no hsb
          clear hsb hl HO
          rcases hor with h1 | ⟨h1, h2⟩ | ⟨h1, h2, h3⟩ | ⟨h1, h2, h3, h4⟩
          all_goals
            go_wp2_with fail
            refine H1.out.mono ?_
            rintro e w' ⟨rfl, rfl⟩
            go_wp2_with fail
            refine H2.out.mono ?_
            rintro e w3 ⟨rfl, hS⟩
            have HO := Lib.hid (HSO.out _ hS)
            clear hS H1 H2 HSO
            by_cases hpq : p = q
            · have hne : (p != q) = false := by simp [hpq]
              clear hpq
              go_wp2_with fail
              have H1 := Lib.hid (HG.out _ _ _ HO.out.was HY.out)
              have HB := Lib.hid HO.out.pl.bel
              clear HO
              go_wp2_with (first
                | (go_at_call_of 17 (Value.pointer (some ⟨h, 0, none⟩)); refine Calls.mono H1.out ?_; rintro e w' ⟨rfl, rfl⟩)
                | (go_at_call 10; refine Calls.mono (HW.out _) ?_; rintro e w9 ⟨rfl, hbw⟩))
              go_ret
              exact ⟨rfl, HB.out.trans (hbw.mono HB.out.size)⟩
            · have hne : (p != q) = true := by simpa using hpq
              have H3 := Lib.hid (HG.out _ _ _ HO.out.pl.m HY.out)
              clear hpq
              go_wp2_with (go_at_call_of 17 (Value.pointer (some ⟨w.heap.size, 0, none⟩)); refine Calls.mono H3.out ?_; rintro e w' ⟨rfl, rfl⟩)
              have H1 := Lib.hid (HG.out _ _ _ HO.out.was HY.out)
              have HB := Lib.hid HO.out.pl.bel
              clear HO
              go_wp2_with (first
                | (go_at_call_of 17 (Value.pointer (some ⟨h, 0, none⟩)); refine Calls.mono H1.out ?_; rintro e w' ⟨rfl, rfl⟩)
                | (go_at_call 10; refine Calls.mono (HW.out _) ?_; rintro e w9 ⟨rfl, hbw⟩))
              go_ret
              exact ⟨rfl, HB.out.trans (hbw.mono HB.out.size)⟩
end Go.Proofs.Ytcmaehilgeonjaa
