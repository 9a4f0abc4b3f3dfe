/- PagesBack. -/
import Derived.Test.YtcmaehilgeonjaaAR
import Derived.Deep.RegionHeld3
namespace Go.Proofs.Ytcmaehilgeonjaa
open Go.RowKit Pgs
section
variable {P : Program} {ops : Array Oper} {Q : Exit → Act → World → Prop} {md : Region.Mode} {S : World → Prop}
/-- An operation that is wanted is taken first. -/
theorem takeY (i : Nat) (d : Option Tmp) {oi : Oper} {v : Value} {fuel : Nat} {listed : Array Bool} {a : Act} {w : World} (hi : ops[i]? = some oi) (hd : oi.dst = d)
    (hs : Region.noSelect ops = true) (hf : Region.free md ops listed i = true) (hr : (Region.ready md ops listed).contains i = true)
    (hQ : ∀ c a w, Q (.panic c) (a.put d v) w → Q (.panic c) a w) (hw : Region.wanted oi (yielded ops a.tmps) = true)
    (hy : ∀ w, S w → (execOp a.eval oi).run P w = .ok (.value v) w) (hS : S w)
    (h : wpAnyH P md ops Q S fuel (listed.setIfInBounds i true) (a.put d v) w) : wpAnyH P md ops Q S (fuel + 1) listed a w := by
  subst hd
  exact wpAnyH_take hi hs hf hr hQ (Or.inl ⟨hw, hy⟩) hS h
/-- One that is not wanted. -/
theorem takeN (i : Nat) (d : Option Tmp) {oi : Oper} {fuel : Nat} {listed : Array Bool} {a : Act} {w : World} (hi : ops[i]? = some oi) (hd : oi.dst = d)
    (hs : Region.noSelect ops = true) (hf : Region.free md ops listed i = true) (hr : (Region.ready md ops listed).contains i = true)
    (hQ : ∀ c a w, Q (.panic c) (a.put d undef) w → Q (.panic c) a w) (hw : Region.wanted oi (yielded ops a.tmps) = false) (hS : S w)
    (h : wpAnyH P md ops Q S fuel (listed.setIfInBounds i true) (a.put d undef) w) : wpAnyH P md ops Q S (fuel + 1) listed a w := by
  subst hd
  exact wpAnyH_take hi hs hf hr hQ (Or.inr ⟨hw, rfl⟩) hS h
end
/-- Two maps. -/
structure BkI (w W : World) (h : Nat) (L K : List Nat) : Prop where
  pl : Pl w W w.heap.size L
  n : PM W h K
  lt : w.heap.size < h
theorem BkI.below {w W W' : World} {h : Nat} {L K : List Nat} (x : BkI w W h L K) (hb : Below W.heap.size W W') : BkI w W' h L K :=
  ⟨⟨x.pl.m.below hb, x.pl.bel.trans (hb.mono x.pl.bel.size)⟩, x.n.below hb, x.lt⟩
theorem BkI.step {w W W' : World} {h : Nat} {L K K' : List Nat} (x : BkI w W h L K) (hs : Stp W W' h K') : BkI w W' h L K' :=
  ⟨⟨⟨x.pl.m.blk.off hs.2 (by have := x.lt; omega), x.pl.m.ok⟩, x.pl.bel.trans (hs.2.below x.pl.bel.size (fun k hk => by have := x.lt; omega))⟩, hs.1, x.lt⟩
theorem BkI.drew {w W : World} {h : Nat} {L K : List Nat} (x : BkI w W h L K) : BkI w W.drew h L K := ⟨⟨⟨x.pl.m.blk, x.pl.m.ok⟩, x.pl.bel.drew⟩, ⟨x.n.blk, x.n.ok⟩, x.lt⟩
set_option maxRecDepth 20000 in
set_option maxHeartbeats 8000000 in
theorem backlaw (len cap len2 cap2 : Nat) (A A2 : Option Addr) (part : Int) (ls : List Ou) (bs : List UInt8) (w : World) (hlen : ls.length = len) (hA : Ops w A ls) (hlen2 : bs.length = len2) (hA2 : Bytes w A2 bs) :
    Calls Try.prog 4 #[.slice A len cap, .int .i64 part, .slice A2 len2 cap2] w fun e W' => e = .returned (.bool true) ∧ Below w.heap.size w W' := by
  have h0 := vast_any A len cap ls w hlen hA
  have HW := Lib.hid (fun W => works_any W)
  cases hv : vastB ls with
  | true =>
    rw [hv] at h0
    have H0 := Lib.hid h0
    have H1 := Lib.hid (HW.out w)
    clear hA hlen h0 hv hA2 hlen2
    go_enter Try.func4, Try.ntmps4
    go_wp2_with (first
      | (go_at_call 9; refine Calls.mono H0.out ?_; rintro e w' ⟨rfl, rfl⟩)
      | (go_at_call 10; refine Calls.mono H1.out ?_; rintro e w' ⟨rfl, hbw⟩))
    go_ret
    exact ⟨rfl, hbw⟩
  | false =>
  rw [hv] at h0
  by_cases hbig : 1024 < len2
  · have hd : decide ((len2 : Int) > 1024) = true := by simp; omega
    have H0 := Lib.hid h0
    have H1 := Lib.hid (HW.out w)
    clear hA hlen h0 hv hA2 hlen2
    go_enter Try.func4, Try.ntmps4
    go_wp2_with (first
      | (go_at_call 9; refine Calls.mono H0.out ?_; rintro e w' ⟨rfl, rfl⟩)
      | (go_at_call 10; refine Calls.mono H1.out ?_; rintro e w' ⟨rfl, hbw⟩))
    go_ret
    exact ⟨rfl, hbw⟩
  · have hdb : decide ((len2 : Int) > 1024) = false := by simp; omega
    have H0 := Lib.hid h0
    obtain ⟨hl200, hsm⟩ := vastB_no hv
    rw [hlen] at hl200
    have HSM := Lib.hid hsm
    have HA := Lib.hid hA
    have HL := Lib.hid hlen
    have HA2 := Lib.hid hA2
    have HL2 := Lib.hid hlen2
    have H1 := Lib.hid (new_any w)
    clear hA hlen hv h0 hsm hA2 hlen2
    go_enter Try.func4, Try.ntmps4
    go_wp2_with fail
    refine H0.out.mono ?_
    rintro e w' ⟨rfl, rfl⟩
    go_wp2_with fail
    refine H1.out.mono ?_
    rintro e w1 ⟨rfl, hP, hb⟩
    go_wp2_with fail
    have HI : Hid (Pl w w1 w.heap.size (playL ls 0)) := Lib.hid ⟨hP, hb⟩
    clear hP hb H0 H1
    go_loopw [8] (fun iv wr => ∃ i : Nat, i ≤ len ∧ iv = .int .i64 (i : Int) ∧ Hid (Pl w wr w.heap.size (playL ls i))) (fun iv _ => len - (intOf iv).toNat)
    case atStart => exact ⟨0, Nat.zero_le _, rfl, HI⟩
    case round =>
      clear HI
      obtain ⟨i, hi, rfl, hI⟩ := hrel
      by_cases hlt : i < len
      · have hd : decide ((i : Int) < (len : Int)) = true := by simpa using hlt
        obtain ⟨o, ho⟩ : ∃ o, ls[i]? = some o := ⟨_, List.getElem?_eq_getElem (by rw [HL.out]; exact hlt)⟩
        obtain ⟨b, off, A3, n, c, rfl, _, hc, hn, hn1, hn2, hB⟩ := HA.out.at_ ho
        obtain ⟨k0, k1, k2, k3⟩ := hc wr hI.out.bel
        have hnb : n ≤ 1024 := by rw [← hn]; exact HSM.out o (List.mem_of_getElem? ho)
        have H1 := Lib.hid (does_some w.heap.size n c A3 (playL ls i) o wr hI.out.m hn hnb (hB.below hI.out.bel))
        have HS : Hid (∀ W, Stp wr W w.heap.size (doesL (playL ls i) o) → Pl w W w.heap.size (playL ls (i + 1))) := Lib.hid (fun W hW => by
          rw [playL_succ ho]; exact hI.out.step (Nat.le_refl _) hW)
        clear hc hn hB hI ho
        go_wp2_with (go_at_call 15; refine Calls.mono H1.out ?_; rintro e w3 ⟨rfl, hS⟩)
        have HI2 := Lib.hid (HS.out _ hS)
        clear hS
        go_roundw
        case rel => exact ⟨i + 1, by omega, by go_num, HI2⟩
        case measure => simp [intOf]; omega
      · obtain rfl : len = i := by omega
        have hd : decide ((len : Int) < (len : Int)) = false := by simp
        obtain ⟨L, hL⟩ : ∃ L, playL ls len = L := ⟨_, rfl⟩
        rw [hL] at hI
        have H1 := Lib.hid (new_any wr)
        have HI := hI
        clear hI hL
        go_wp2_with fail
        refine H1.out.mono ?_
        rintro e w2 ⟨rfl, hC, hb⟩
        have HO : Hid (BkI w w2 wr.heap.size L (backTo L 9)) := Lib.hid ⟨⟨HI.out.m.below hb, HI.out.bel.trans (hb.mono HI.out.bel.size)⟩, by rw [backTo_end HI.out.m.ok]; exact hC, HI.out.m.blk.lt⟩
        obtain ⟨h, hh⟩ : ∃ h, wr.heap.size = h := ⟨_, rfl⟩
        rw [hh] at HO ⊢
        clear hC hb HI hh H1
        go_wp2_with fail
        go_loopw [10] (fun iv wx => ∃ k : Nat, k ≤ 9 ∧ iv = .int .i64 ((k : Int) - 1) ∧ Hid (BkI w wx h L (backTo L k))) (fun iv _ => (intOf iv + 1).toNat)
        case atStart => exact ⟨9, Nat.le_refl _, rfl, HO⟩
        case round =>
          clear HO
          obtain ⟨k, hk, rfl, hI⟩ := hrel
          obtain ⟨wx, rfl⟩ : ∃ wx, wx = wr := ⟨_, rfl⟩
          by_cases hk0 : 0 < k
          · obtain ⟨i, hi⟩ : ∃ i, i = k - 1 := ⟨_, rfl⟩
            have ei : (k : Int) - 1 = (i : Int) := by omega
            have hi9 : i < 9 := by omega
            have hd2 : decide ((i : Int) ≥ 0) = true := by simp
            have H1 := Lib.hid (part_some w.heap.size i L wx hI.out.pl.m hi9)
            have HS : Hid (backTo L k = backTo L (i + 1)) := Lib.hid (by rw [show k = i + 1 by omega])
            have hki : k = i + 1 := by omega
            rw [ei]
            clear hi hki hk hk0
            go_wp2_with fail
            refine H1.out.mono ?_
            rintro e w3 ⟨A3, n3, c3, rfl, _, _, hl3, hB3, hb⟩
            have HO := Lib.hid (hI.out.below hb)
            have H2 := lay_some h n3 c3 (i : Int) A3 (backTo L k) (partB L i) w3 HO.out.n hl3 hB3
            rw [layB_partB HO.out.pl.m.ok hi9, HS.out, backTo_step HO.out.pl.m.ok hi9] at H2
            have H2 := Lib.hid H2
            clear hI hl3 hB3 hb H1
            go_wp2_with fail
            refine H2.out.mono ?_
            rintro e w4 ⟨rfl, hS⟩
            have HO := Lib.hid (HO.out.step hS)
            clear hS H2
            go_wp2_with fail
            go_roundw
            case rel => exact ⟨i, by omega, by go_num, HO⟩
            case measure => simp [intOf]
          · obtain rfl : k = 0 := by omega
            rw [backTo_zero] at hI
            have HO := hI
            clear hI
            go_wp2_with fail
            have H1 := Lib.hid (pages_some w.heap.size L wx HO.out.pl.m)
            refine H1.out.mono ?_
            rintro e w3 ⟨l1, rfl, hi1, _, hb⟩
            have HO := Lib.hid (HO.out.below hb)
            have H1 := Lib.hid (pages_some h L w3 HO.out.n)
            have HI1 := Lib.hid hi1
            clear hi1 hb
            go_wp2_with fail
            refine H1.out.mono ?_
            rintro e w4 ⟨l2, rfl, hi2, _, hb⟩
            have HO := Lib.hid (HO.out.below hb)
            have H1 := Lib.hid (same_any l1 l2 _ w4 (hi1_below HI1.out hb) hi2)
            clear hi2 hb HI1
            go_wp2_with fail
            refine H1.out.mono ?_
            rintro e w5 ⟨rfl, hb⟩
            have HO := Lib.hid (HO.out.below hb)
            have H1 := Lib.hid (sectors_some w.heap.size L w5 HO.out.pl.m)
            clear hb
            go_wp2_with fail
            refine H1.out.mono ?_
            rintro e w6 ⟨l3, rfl, hi1, _, hb⟩
            have HO := Lib.hid (HO.out.below hb)
            have H1 := Lib.hid (sectors_some h L w6 HO.out.n)
            have HI1 := Lib.hid hi1
            clear hi1 hb
            go_wp2_with fail
            refine H1.out.mono ?_
            rintro e w7 ⟨l4, rfl, hi2, _, hb⟩
            have HO := Lib.hid (HO.out.below hb)
            have H1 := Lib.hid (same_any l3 l4 _ w7 (hi1_below HI1.out hb) hi2)
            clear hi2 hb HI1
            go_wp2_with fail
            refine H1.out.mono ?_
            rintro e w8 ⟨rfl, hb⟩
            have HO := Lib.hid (HO.out.below hb)
            have H1 := Lib.hid (turned_any _ _ L L w8 (.inr ⟨_, rfl, HO.out.pl.m⟩) (.inr ⟨_, rfl, HO.out.n⟩))
            clear hb
            go_wp2_with fail
            refine H1.out.mono ?_
            rintro e w9 ⟨l5, rfl, hi5, _, hb⟩
            rw [turnedL_same] at hi5
            obtain ⟨A5, c5, rfl, _, _⟩ := hi5.shape
            have HO := Lib.hid (HO.out.below hb)
            have H1 := lay_some h len2 cap2 part A2 L bs w9 HO.out.n HL2.out (HA2.out.below HO.out.pl.bel)
            obtain ⟨L4, hL4⟩ : ∃ L4, layL L part bs = L4 := ⟨_, rfl⟩
            clear hi5 hb
            cases hlb : layB part bs with
            | false =>
              have : layL L part bs = L := by unfold layL; rw [hlb]; rfl
              rw [this, hlb] at H1
              have H1 := Lib.hid H1
              clear hlb this hL4
              go_wp2_with fail
              refine H1.out.mono ?_
              rintro e w10 ⟨rfl, hS⟩
              have HO := Lib.hid (HO.out.step hS)
              have H1 := Lib.hid (turned_any _ _ L L w10 (.inr ⟨_, rfl, HO.out.pl.m⟩) (.inr ⟨_, rfl, HO.out.n⟩))
              clear hS
              go_wp2_with fail
              refine H1.out.mono ?_
              rintro e w11 ⟨l6, rfl, hi6, _, hb⟩
              rw [turnedL_same] at hi6
              obtain ⟨A6, c6, rfl, _, _⟩ := hi6.shape
              have HB := Lib.hid (HO.out.below hb).pl.bel
              have H1 := Lib.hid (HW.out w11)
              clear hi6 hb HO
              go_wp2_with fail
              refine H1.out.mono ?_
              rintro e w12 ⟨rfl, hb⟩
              go_wp2_with fail
              go_ret
              exact ⟨rfl, HB.out.trans (hb.mono HB.out.size)⟩
            | true =>
              have hlb2 := hlb
              unfold layB at hlb2
              simp only [Bool.and_eq_true, decide_eq_true_eq] at hlb2
              obtain ⟨⟨⟨⟨hp9, _⟩, _⟩, _⟩, _⟩ := hlb2
              obtain ⟨p, rfl⟩ : ∃ p : Nat, part = p := ⟨part.toNat, by omega⟩
              have hpp : p < 9 := by omega
              have HPB : Hid (partB L4 p = bs) := Lib.hid (by rw [← hL4]; exact partB_layL HO.out.pl.m.ok hlb)
              have HTU : Hid (turnedL L L4 = [] ∨ turnedL L L4 = [p]) := Lib.hid (by rw [← hL4]; exact turnedL_lay HO.out.pl.m.ok hpp)
              rw [hL4, hlb] at H1
              have H1 := Lib.hid H1
              clear hlb hL4 hp9
              go_wp2_with fail
              refine H1.out.mono ?_
              rintro e w10 ⟨rfl, hS⟩
              have HO := Lib.hid (HO.out.step hS)
              have H1 := Lib.hid (turned_any _ _ L L4 w10 (.inr ⟨_, rfl, HO.out.pl.m⟩) (.inr ⟨_, rfl, HO.out.n⟩))
              clear hS
              go_wp2_with fail
              refine H1.out.mono ?_
              rintro e w11 ⟨l6, rfl, hi6, _, hb⟩
              have HO := Lib.hid (HO.out.below hb)
              have HI6 := Lib.hid hi6
              clear hi6 hb H1
              have HC : Hid (∀ W, PM W h L4 → Calls Try.prog 26 #[.pointer (some ⟨h, 0, none⟩), .int .i64 (p : Int)] W fun e w' => ∃ A n c, e = .returned (.slice A n c) ∧ n ≤ c ∧ c ≤ maxLen ∧ bs.length = n ∧ Bytes w' A bs ∧ Below W.heap.size W w') := Lib.hid fun W hW => by
                have := part_some h p L4 W hW hpp
                rw [HPB.out] at this
                exact this
              have HCV0 : Hid (∀ W, Below w.heap.size w W → (convert 30 9 (.slice A2 len2 cap2)).run Try.prog W = .ok (.string (str bs)) W) := Lib.hid (fun W hW => run_str8L W A2 len2 cap2 bs HL2.out (HA2.out.below hW))
              obtain ⟨s, hse0⟩ : ∃ s, str bs = s := ⟨_, rfl⟩
              have hse := Lib.hid hse0
              have HCV := Lib.hid (show ∀ W, Below w.heap.size w W → (convert 30 9 (.slice A2 len2 cap2)).run Try.prog W = .ok (.string s) W from by rw [← hse0]; exact HCV0.out)
              have hss : (s.toList == s.toList) = true := by simp
              have HO := Lib.hid HO.out.drew
              have hk0 := HCV.out w11.drew HO.out.pl.bel
              clear hse0 HCV0
              rcases HTU.out with ht | ht
              · rw [ht] at HI6
                obtain ⟨A6, c6, rfl, _, _⟩ := HI6.out.shape
                clear HI6 ht
                go_upto_region 19 with fail
                refine wp_region_held_drew (S := fun W => (convert 30 9 (.slice A2 len2 cap2)).run Try.prog W = .ok (.string s) W) (by kernel_rfl) hk0 (fun hHeld => ?_)
                refine takeY 0 (some 82) rfl rfl (by kernel_rfl) (by kernel_rfl) (by kernel_rfl) (fun _ _ _ h => h) (by rfl) (v := _) (by (intro _ hSw; (try dsimp only at hSw); go_simp; try with_reducible rfl)) hHeld ?_
                simp only [Act.put, List.setIfInBounds_toArray, List.set_cons_zero, List.set_cons_succ]
                refine takeY 1 (some 83) rfl rfl (by kernel_rfl) (by kernel_rfl) (by kernel_rfl) (fun _ _ _ h => h) (by rfl) (v := _) (by (intro _ hSw; (try dsimp only at hSw); go_simp; try with_reducible rfl)) hHeld ?_
                simp only [Act.put, List.setIfInBounds_toArray, List.set_cons_zero, List.set_cons_succ]
                refine takeY 4 (some 86) rfl rfl (by kernel_rfl) (by kernel_rfl) (by kernel_rfl) (fun _ _ _ h => h) (by rfl) (v := _) (by (intro _ hSw; (try dsimp only at hSw); go_simp; try with_reducible rfl)) hHeld ?_
                simp only [Act.put, List.setIfInBounds_toArray, List.set_cons_zero, List.set_cons_succ]
                refine takeY 5 (some 87) rfl rfl (by kernel_rfl) (by kernel_rfl) (by kernel_rfl) (fun _ _ _ h => h) (by rfl) (v := _) (by (intro _ hSw; (try dsimp only at hSw); go_simp; try with_reducible rfl)) hHeld ?_
                simp only [Act.put, List.setIfInBounds_toArray, List.set_cons_zero, List.set_cons_succ]
                refine wpAnyH_ready (rs := [2]) (by kernel_rfl) (by simp) ?_
                refine AllReadyH.cons rfl (fun K hK => ?_) AllReadyH.nil
                clear hHeld
                go_simp
                go_wp2_with (go_at_call 26; refine Calls.mono (HC.out _ HO.out.n) ?_; rintro e w20 ⟨A7, n7, c7, rfl, _, _, hl7, hB7, hb7⟩; have hcv := run_str8L w20 A7 n7 c7 bs hl7 hB7; rw [hse.out] at hcv; have HO := Lib.hid (HO.out.below hb7); have hk1 := HCV.out w20 HO.out.pl.bel)
                refine hK.out _ _ hk1 (fun hHeld => ?_)
                clear hK K
                refine wpAnyH_ready (rs := [3]) (by kernel_rfl) (by simp) ?_
                refine AllReadyH.cons rfl (fun K hK => ?_) AllReadyH.nil
                go_simp
                refine hK.out _ _ hk1 (fun hHeld => ?_)
                clear hK K
                refine takeY 6 (some 88) rfl rfl (by kernel_rfl) (by kernel_rfl) (by kernel_rfl) (fun _ _ _ h => h) (by rfl) (v := _) (by (intro _ hSw; (try dsimp only at hSw); go_simp; try with_reducible rfl)) hHeld ?_
                simp only [Act.put, List.setIfInBounds_toArray, List.set_cons_zero, List.set_cons_succ]
                refine takeY 7 (some 89) rfl rfl (by kernel_rfl) (by kernel_rfl) (by kernel_rfl) (fun _ _ _ h => h) (by rfl) (v := _) (by (intro _ hSw; (try dsimp only at hSw); go_simp; try with_reducible rfl)) hHeld ?_
                simp only [Act.put, List.setIfInBounds_toArray, List.set_cons_zero, List.set_cons_succ]
                refine takeY 8 (some 90) rfl rfl (by kernel_rfl) (by kernel_rfl) (by kernel_rfl) (fun _ _ _ h => h) (by rfl) (v := _) (by (intro _ hSw; (try dsimp only at hSw); go_simp; try with_reducible rfl)) hHeld ?_
                simp only [Act.put, List.setIfInBounds_toArray, List.set_cons_zero, List.set_cons_succ]
                refine takeY 9 (some 91) rfl rfl (by kernel_rfl) (by kernel_rfl) (by kernel_rfl) (fun _ _ _ h => h) (by rfl) (v := _) (by (intro _ hSw; (try dsimp only at hSw); go_simp; try with_reducible rfl)) hHeld ?_
                simp only [Act.put, List.setIfInBounds_toArray, List.set_cons_zero, List.set_cons_succ]
                refine takeY 10 (some 92) rfl rfl (by kernel_rfl) (by kernel_rfl) (by kernel_rfl) (fun _ _ _ h => h) (by rfl) (v := _) (by (intro _ hSw; (try dsimp only at hSw); go_simp; try with_reducible rfl)) hHeld ?_
                simp only [Act.put, List.setIfInBounds_toArray, List.set_cons_zero, List.set_cons_succ]
                refine takeY 11 (some 93) rfl rfl (by kernel_rfl) (by kernel_rfl) (by kernel_rfl) (fun _ _ _ h => h) (by rfl) (v := _) (by (intro _ hSw; (try dsimp only at hSw); go_simp; try with_reducible rfl)) hHeld ?_
                simp only [Act.put, List.setIfInBounds_toArray, List.set_cons_zero, List.set_cons_succ]
                refine takeN 12 (some 94) rfl rfl (by kernel_rfl) (by kernel_rfl) (by kernel_rfl) (fun _ _ _ h => h) (by rfl) hHeld ?_
                simp only [Act.put, List.setIfInBounds_toArray, List.set_cons_zero, List.set_cons_succ]
                refine takeN 13 (some 95) rfl rfl (by kernel_rfl) (by kernel_rfl) (by kernel_rfl) (fun _ _ _ h => h) (by rfl) hHeld ?_
                simp only [Act.put, List.setIfInBounds_toArray, List.set_cons_zero, List.set_cons_succ]
                refine takeN 14 (some 96) rfl rfl (by kernel_rfl) (by kernel_rfl) (by kernel_rfl) (fun _ _ _ h => h) (by rfl) hHeld ?_
                simp only [Act.put, List.setIfInBounds_toArray, List.set_cons_zero, List.set_cons_succ]
                refine takeN 15 (some 97) rfl rfl (by kernel_rfl) (by kernel_rfl) (by kernel_rfl) (fun _ _ _ h => h) (by rfl) hHeld ?_
                simp only [Act.put, List.setIfInBounds_toArray, List.set_cons_zero, List.set_cons_succ]
                refine takeN 16 (some 98) rfl rfl (by kernel_rfl) (by kernel_rfl) (by kernel_rfl) (fun _ _ _ h => h) (by rfl) hHeld ?_
                simp only [Act.put, List.setIfInBounds_toArray, List.set_cons_zero, List.set_cons_succ]
                refine takeN 17 (some 99) rfl rfl (by kernel_rfl) (by kernel_rfl) (by kernel_rfl) (fun _ _ _ h => h) (by rfl) hHeld ?_
                simp only [Act.put, List.setIfInBounds_toArray, List.set_cons_zero, List.set_cons_succ]
                refine takeN 18 (some 100) rfl rfl (by kernel_rfl) (by kernel_rfl) (by kernel_rfl) (fun _ _ _ h => h) (by rfl) hHeld ?_
                simp only [Act.put, List.setIfInBounds_toArray, List.set_cons_zero, List.set_cons_succ]
                refine takeN 19 (some 101) rfl rfl (by kernel_rfl) (by kernel_rfl) (by kernel_rfl) (fun _ _ _ h => h) (by rfl) hHeld ?_
                simp only [Act.put, List.setIfInBounds_toArray, List.set_cons_zero, List.set_cons_succ]
                refine takeN 20 (some 102) rfl rfl (by kernel_rfl) (by kernel_rfl) (by kernel_rfl) (fun _ _ _ h => h) (by rfl) hHeld ?_
                simp only [Act.put, List.setIfInBounds_toArray, List.set_cons_zero, List.set_cons_succ]
                refine takeN 21 (some 103) rfl rfl (by kernel_rfl) (by kernel_rfl) (by kernel_rfl) (fun _ _ _ h => h) (by rfl) hHeld ?_
                simp only [Act.put, List.setIfInBounds_toArray, List.set_cons_zero, List.set_cons_succ]
                refine takeY 22 (some 104) rfl rfl (by kernel_rfl) (by kernel_rfl) (by kernel_rfl) (fun _ _ _ h => h) (by rfl) (v := _) (by (intro _ hSw; (try dsimp only at hSw); go_simp; try with_reducible rfl)) hHeld ?_
                simp only [Act.put, List.setIfInBounds_toArray, List.set_cons_zero, List.set_cons_succ]
                refine takeY 23 (some 105) rfl rfl (by kernel_rfl) (by kernel_rfl) (by kernel_rfl) (fun _ _ _ h => h) (by rfl) (v := _) (by (intro _ hSw; (try dsimp only at hSw); go_simp; try with_reducible rfl)) hHeld ?_
                simp only [Act.put, List.setIfInBounds_toArray, List.set_cons_zero, List.set_cons_succ]
                refine takeY 24 (some 106) rfl rfl (by kernel_rfl) (by kernel_rfl) (by kernel_rfl) (fun _ _ _ h => h) (by rfl) (v := _) (by (intro _ hSw; (try dsimp only at hSw); go_simp; try with_reducible rfl)) hHeld ?_
                simp only [Act.put, List.setIfInBounds_toArray, List.set_cons_zero, List.set_cons_succ]
                refine wpAnyH_ready (rs := [25]) (by kernel_rfl) (by simp) ?_
                refine AllReadyH.cons rfl (fun K hK => ?_) AllReadyH.nil
                clear hHeld
                go_simp
                go_wp2_with (go_at_call 10; refine Calls.mono (HW.out _) ?_; rintro e w21 ⟨rfl, hbw⟩; have HB := Lib.hid (HO.out.pl.bel.trans (hbw.mono HO.out.pl.bel.size)); have hk2 := HCV.out w21 HB.out)
                refine hK.out _ _ hk2 (fun hHeld => ?_)
                clear hK K
                refine takeY 26 (some 108) rfl rfl (by kernel_rfl) (by kernel_rfl) (by kernel_rfl) (fun _ _ _ h => h) (by rfl) (v := _) (by (intro _ hSw; (try dsimp only at hSw); go_simp; try with_reducible rfl)) hHeld ?_
                simp only [Act.put, List.setIfInBounds_toArray, List.set_cons_zero, List.set_cons_succ]
                refine takeY 27 (some 6) rfl rfl (by kernel_rfl) (by kernel_rfl) (by kernel_rfl) (fun _ _ _ h => h) (by rfl) (v := _) (by (intro _ hSw; (try dsimp only at hSw); go_simp; try with_reducible rfl)) hHeld ?_
                simp only [Act.put, List.setIfInBounds_toArray, List.set_cons_zero, List.set_cons_succ]
                refine wpAnyH_done (by kernel_rfl) ?_ _
                go_wp2_with fail
                go_ret
                exact ⟨rfl, HB.out⟩
              · rw [ht] at HI6
                obtain ⟨g6, c6, rfl, hg6, hc6⟩ := HI6.out.get 0 p rfl
                have HCL : Hid (∀ W, Below w11.heap.size w11 W → W.cell? ⟨g6, 0, none⟩ = some (.int .i64 (p : Int))) := Lib.hid (fun W hW => (hW.cell (p := ⟨g6, 0, none⟩) hg6).trans hc6)
                have HBB : Hid (Below w11.heap.size w11 w11.drew) := Lib.hid (Below.refl w11.heap.size w11).drew
                have k0 := HCL.out _ HBB.out
                have hpe : ((p : Int) == (p : Int)) = true := by simp
                clear HI6 ht hc6
                go_upto_region 19 with fail
                refine wp_region_held_drew (S := fun W => (convert 30 9 (.slice A2 len2 cap2)).run Try.prog W = .ok (.string s) W ∧ W.cell? ⟨g6, 0, none⟩ = some (.int .i64 (p : Int))) (by kernel_rfl) ⟨hk0, k0⟩ (fun hHeld => ?_)
                refine takeY 0 (some 82) rfl rfl (by kernel_rfl) (by kernel_rfl) (by kernel_rfl) (fun _ _ _ h => h) (by rfl) (v := _) (by (intro _ hSw; (try dsimp only at hSw); go_simp; try with_reducible rfl)) hHeld ?_
                simp only [Act.put, List.setIfInBounds_toArray, List.set_cons_zero, List.set_cons_succ]
                refine takeY 1 (some 83) rfl rfl (by kernel_rfl) (by kernel_rfl) (by kernel_rfl) (fun _ _ _ h => h) (by rfl) (v := _) (by (intro _ hSw; (try dsimp only at hSw); go_simp; try with_reducible rfl)) hHeld ?_
                simp only [Act.put, List.setIfInBounds_toArray, List.set_cons_zero, List.set_cons_succ]
                refine takeY 4 (some 86) rfl rfl (by kernel_rfl) (by kernel_rfl) (by kernel_rfl) (fun _ _ _ h => h) (by rfl) (v := _) (by (intro _ hSw; (try dsimp only at hSw); go_simp; try with_reducible rfl)) hHeld ?_
                simp only [Act.put, List.setIfInBounds_toArray, List.set_cons_zero, List.set_cons_succ]
                refine takeY 5 (some 87) rfl rfl (by kernel_rfl) (by kernel_rfl) (by kernel_rfl) (fun _ _ _ h => h) (by rfl) (v := _) (by (intro _ hSw; (try dsimp only at hSw); go_simp; try with_reducible rfl)) hHeld ?_
                simp only [Act.put, List.setIfInBounds_toArray, List.set_cons_zero, List.set_cons_succ]
                refine wpAnyH_ready (rs := [2]) (by kernel_rfl) (by simp) ?_
                refine AllReadyH.cons rfl (fun K hK => ?_) AllReadyH.nil
                clear hHeld
                go_simp
                go_wp2_with (go_at_call 26; refine Calls.mono (HC.out _ HO.out.n) ?_; rintro e w20 ⟨A7, n7, c7, rfl, _, _, hl7, hB7, hb7⟩; have hcv := run_str8L w20 A7 n7 c7 bs hl7 hB7; rw [hse.out] at hcv; have HO := Lib.hid (HO.out.below hb7); have hk1 := HCV.out w20 HO.out.pl.bel; have HBB := Lib.hid (HBB.out.trans (hb7.mono HBB.out.size)); have kc1 := HCL.out _ HBB.out)
                refine hK.out _ _ ⟨hk1, kc1⟩ (fun hHeld => ?_)
                clear hK K
                refine wpAnyH_ready (rs := [3]) (by kernel_rfl) (by simp) ?_
                refine AllReadyH.cons rfl (fun K hK => ?_) AllReadyH.nil
                go_simp
                refine hK.out _ _ ⟨hk1, kc1⟩ (fun hHeld => ?_)
                clear hK K
                refine takeY 6 (some 88) rfl rfl (by kernel_rfl) (by kernel_rfl) (by kernel_rfl) (fun _ _ _ h => h) (by rfl) (v := _) (by (intro _ hSw; (try dsimp only at hSw); go_simp; try with_reducible rfl)) hHeld ?_
                simp only [Act.put, List.setIfInBounds_toArray, List.set_cons_zero, List.set_cons_succ]
                refine takeY 7 (some 89) rfl rfl (by kernel_rfl) (by kernel_rfl) (by kernel_rfl) (fun _ _ _ h => h) (by rfl) (v := _) (by (intro _ hSw; (try dsimp only at hSw); go_simp; try with_reducible rfl)) hHeld ?_
                simp only [Act.put, List.setIfInBounds_toArray, List.set_cons_zero, List.set_cons_succ]
                refine takeY 8 (some 90) rfl rfl (by kernel_rfl) (by kernel_rfl) (by kernel_rfl) (fun _ _ _ h => h) (by rfl) (v := _) (by (intro _ hSw; (try dsimp only at hSw); go_simp; try with_reducible rfl)) hHeld ?_
                simp only [Act.put, List.setIfInBounds_toArray, List.set_cons_zero, List.set_cons_succ]
                refine takeY 9 (some 91) rfl rfl (by kernel_rfl) (by kernel_rfl) (by kernel_rfl) (fun _ _ _ h => h) (by rfl) (v := _) (by (intro _ hSw; (try dsimp only at hSw); go_simp; try with_reducible rfl)) hHeld ?_
                simp only [Act.put, List.setIfInBounds_toArray, List.set_cons_zero, List.set_cons_succ]
                refine takeY 10 (some 92) rfl rfl (by kernel_rfl) (by kernel_rfl) (by kernel_rfl) (fun _ _ _ h => h) (by rfl) (v := _) (by (intro _ hSw; (try dsimp only at hSw); go_simp; try with_reducible rfl)) hHeld ?_
                simp only [Act.put, List.setIfInBounds_toArray, List.set_cons_zero, List.set_cons_succ]
                refine takeY 11 (some 93) rfl rfl (by kernel_rfl) (by kernel_rfl) (by kernel_rfl) (fun _ _ _ h => h) (by rfl) (v := _) (by (intro _ hSw; (try dsimp only at hSw); go_simp; try with_reducible rfl)) hHeld ?_
                simp only [Act.put, List.setIfInBounds_toArray, List.set_cons_zero, List.set_cons_succ]
                refine takeY 12 (some 94) rfl rfl (by kernel_rfl) (by kernel_rfl) (by kernel_rfl) (fun _ _ _ h => h) (by rfl) (v := _) (by (intro _ hSw; (try dsimp only at hSw); go_simp; try with_reducible rfl)) hHeld ?_
                simp only [Act.put, List.setIfInBounds_toArray, List.set_cons_zero, List.set_cons_succ]
                refine takeY 13 (some 95) rfl rfl (by kernel_rfl) (by kernel_rfl) (by kernel_rfl) (fun _ _ _ h => h) (by rfl) (v := _) (by (intro _ hSw; (try dsimp only at hSw); go_simp; try with_reducible rfl)) hHeld ?_
                simp only [Act.put, List.setIfInBounds_toArray, List.set_cons_zero, List.set_cons_succ]
                refine takeY 14 (some 96) rfl rfl (by kernel_rfl) (by kernel_rfl) (by kernel_rfl) (fun _ _ _ h => h) (by rfl) (v := _) (by (intro _ hSw; (try dsimp only at hSw); go_simp; try with_reducible rfl)) hHeld ?_
                simp only [Act.put, List.setIfInBounds_toArray, List.set_cons_zero, List.set_cons_succ]
                refine takeY 15 (some 97) rfl rfl (by kernel_rfl) (by kernel_rfl) (by kernel_rfl) (fun _ _ _ h => h) (by rfl) (v := _) (by (intro _ hSw; (try dsimp only at hSw); go_simp; try with_reducible rfl)) hHeld ?_
                simp only [Act.put, List.setIfInBounds_toArray, List.set_cons_zero, List.set_cons_succ]
                refine takeY 16 (some 98) rfl rfl (by kernel_rfl) (by kernel_rfl) (by kernel_rfl) (fun _ _ _ h => h) (by rfl) (v := _) (by (intro _ hSw; (try dsimp only at hSw); go_simp; try with_reducible rfl)) hHeld ?_
                simp only [Act.put, List.setIfInBounds_toArray, List.set_cons_zero, List.set_cons_succ]
                refine takeY 17 (some 99) rfl rfl (by kernel_rfl) (by kernel_rfl) (by kernel_rfl) (fun _ _ _ h => h) (by rfl) (v := _) (by (intro _ hSw; (try dsimp only at hSw); go_simp; try with_reducible rfl)) hHeld ?_
                simp only [Act.put, List.setIfInBounds_toArray, List.set_cons_zero, List.set_cons_succ]
                refine takeY 18 (some 100) rfl rfl (by kernel_rfl) (by kernel_rfl) (by kernel_rfl) (fun _ _ _ h => h) (by rfl) (v := _) (by (intro _ hSw; (try dsimp only at hSw); go_simp; try with_reducible rfl)) hHeld ?_
                simp only [Act.put, List.setIfInBounds_toArray, List.set_cons_zero, List.set_cons_succ]
                refine takeY 19 (some 101) rfl rfl (by kernel_rfl) (by kernel_rfl) (by kernel_rfl) (fun _ _ _ h => h) (by rfl) (v := _) (by (intro _ hSw; (try dsimp only at hSw); go_simp; try with_reducible rfl)) hHeld ?_
                simp only [Act.put, List.setIfInBounds_toArray, List.set_cons_zero, List.set_cons_succ]
                refine takeY 20 (some 102) rfl rfl (by kernel_rfl) (by kernel_rfl) (by kernel_rfl) (fun _ _ _ h => h) (by rfl) (v := _) (by (intro _ hSw; (try dsimp only at hSw); go_simp; try with_reducible rfl)) hHeld ?_
                simp only [Act.put, List.setIfInBounds_toArray, List.set_cons_zero, List.set_cons_succ]
                refine takeY 21 (some 103) rfl rfl (by kernel_rfl) (by kernel_rfl) (by kernel_rfl) (fun _ _ _ h => h) (by rfl) (v := _) (by (intro _ hSw; (try dsimp only at hSw); go_simp; try with_reducible rfl)) hHeld ?_
                simp only [Act.put, List.setIfInBounds_toArray, List.set_cons_zero, List.set_cons_succ]
                refine takeY 22 (some 104) rfl rfl (by kernel_rfl) (by kernel_rfl) (by kernel_rfl) (fun _ _ _ h => h) (by rfl) (v := _) (by (intro _ hSw; (try dsimp only at hSw); go_simp; try with_reducible rfl)) hHeld ?_
                simp only [Act.put, List.setIfInBounds_toArray, List.set_cons_zero, List.set_cons_succ]
                refine takeY 23 (some 105) rfl rfl (by kernel_rfl) (by kernel_rfl) (by kernel_rfl) (fun _ _ _ h => h) (by rfl) (v := _) (by (intro _ hSw; (try dsimp only at hSw); go_simp; try with_reducible rfl)) hHeld ?_
                simp only [Act.put, List.setIfInBounds_toArray, List.set_cons_zero, List.set_cons_succ]
                refine takeY 24 (some 106) rfl rfl (by kernel_rfl) (by kernel_rfl) (by kernel_rfl) (fun _ _ _ h => h) (by rfl) (v := _) (by (intro _ hSw; (try dsimp only at hSw); go_simp; try with_reducible rfl)) hHeld ?_
                simp only [Act.put, List.setIfInBounds_toArray, List.set_cons_zero, List.set_cons_succ]
                refine wpAnyH_ready (rs := [25]) (by kernel_rfl) (by simp) ?_
                refine AllReadyH.cons rfl (fun K hK => ?_) AllReadyH.nil
                clear hHeld
                go_simp
                go_wp2_with (go_at_call 10; refine Calls.mono (HW.out _) ?_; rintro e w21 ⟨rfl, hbw⟩; have HB := Lib.hid (HO.out.pl.bel.trans (hbw.mono HO.out.pl.bel.size)); have hk2 := HCV.out w21 HB.out; have kc2 := HCL.out _ (HBB.out.trans (hbw.mono HBB.out.size)))
                refine hK.out _ _ ⟨hk2, kc2⟩ (fun hHeld => ?_)
                clear hK K
                refine takeY 26 (some 108) rfl rfl (by kernel_rfl) (by kernel_rfl) (by kernel_rfl) (fun _ _ _ h => h) (by rfl) (v := _) (by (intro _ hSw; (try dsimp only at hSw); go_simp; try with_reducible rfl)) hHeld ?_
                simp only [Act.put, List.setIfInBounds_toArray, List.set_cons_zero, List.set_cons_succ]
                refine takeY 27 (some 6) rfl rfl (by kernel_rfl) (by kernel_rfl) (by kernel_rfl) (fun _ _ _ h => h) (by rfl) (v := _) (by (intro _ hSw; (try dsimp only at hSw); go_simp; try with_reducible rfl)) hHeld ?_
                simp only [Act.put, List.setIfInBounds_toArray, List.set_cons_zero, List.set_cons_succ]
                refine wpAnyH_done (by kernel_rfl) ?_ _
                go_wp2_with fail
                go_ret
                exact ⟨rfl, HB.out⟩
end Go.Proofs.Ytcmaehilgeonjaa
