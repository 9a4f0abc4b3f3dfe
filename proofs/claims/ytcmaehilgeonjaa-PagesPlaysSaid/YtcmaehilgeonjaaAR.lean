/- PagesTurned. -/
import Derived.Test.YtcmaehilgeonjaaAP
namespace Go.Proofs.Ytcmaehilgeonjaa
open Go.RowKit Pgs
namespace Pgs
/-- A map behind k things more done. -/
def playF (L : List Nat) (ls : List Ou) (k : Nat) : List Nat := (ls.take k).foldl doesL L
theorem playF_zero (L : List Nat) (ls : List Ou) : playF L ls 0 = L := rfl
theorem playF_succ {L : List Nat} {ls : List Ou} {k : Nat} {o : Ou} (h : ls[k]? = some o) : playF L ls (k + 1) = doesL (playF L ls k) o := by
  unfold playF
  obtain ⟨h1, h2⟩ := List.getElem?_eq_some_iff.1 h
  rw [List.take_succ_eq_append_getElem h1, h2, List.foldl_append]; rfl
theorem turnedL_symm (L K : List Nat) : turnedL L K = turnedL K L := by
  unfold turnedL
  apply List.filter_congr
  intro i _
  rw [decide_eq_decide]
  exact ⟨fun h e => h e.symm, fun h e => h e.symm⟩
theorem turnedTo_end (L K : List Nat) : turnedTo L K 9 = turnedL L K := rfl
end Pgs
theorem got_at {L : List Nat} (h : Ok L) (k : Nat) : got L (k : Int) = L.getD k 0 := by
  unfold got
  split
  · rw [Int.toNat_natCast]
  · exact (h.end_ k (by omega)).symm
theorem OneI.below {w W W' : World} {h : Nat} {L L3 : List Nat} (x : OneI w W h L L3) (hb : Below W.heap.size W W') : OneI w W' h L L3 :=
  ⟨⟨x.pl.m.below hb, x.pl.bel.trans (hb.mono x.pl.bel.size)⟩, x.was.below hb, x.lt⟩
/-- Has a page of these another sector? -/
def OtherI (L3 L : List Nat) (i j : Nat) (ob : Bool) : Prop := ob = true ↔ ∃ j', j' < j ∧ L3.getD (i * 124 + j') 0 ≠ L.getD (i * 124 + j') 0
theorem OtherI.zero (L3 L : List Nat) (i : Nat) : OtherI L3 L i 0 false := ⟨fun h => (by cases h), fun ⟨j, hj, _⟩ => by omega⟩
theorem OtherI.yes {L3 L : List Nat} {i j : Nat} (h : OtherI L3 L i j true) : OtherI L3 L i (j + 1) true := ⟨fun _ => (by
  obtain ⟨j', h1, h2⟩ := h.1 rfl
  exact ⟨j', by omega, h2⟩), fun _ => rfl⟩
theorem OtherI.no {L3 L : List Nat} {i j : Nat} (h : OtherI L3 L i j false) (he : L3.getD (i * 124 + j) 0 = L.getD (i * 124 + j) 0) : OtherI L3 L i (j + 1) false := ⟨fun h => (by cases h), fun ⟨j', h1, h2⟩ => by
  by_cases e : j' = j
  · subst e; exact absurd he h2
  · exact h.2 ⟨j', by omega, h2⟩⟩
theorem OtherI.now {L3 L : List Nat} {i j : Nat} (he : L3.getD (i * 124 + j) 0 ≠ L.getD (i * 124 + j) 0) : OtherI L3 L i (j + 1) true := ⟨fun _ => ⟨j, by omega, he⟩, fun _ => rfl⟩
theorem OtherI.end_ {L3 L : List Nat} (h3 : Ok L3) (h : Ok L) {i : Nat} (hi : i < 9) {ob : Bool} (ho : OtherI L3 L i 124 ob) : turnedTo L3 L (i + 1) = if ob then turnedTo L3 L i ++ [i] else turnedTo L3 L i := by
  rw [turnedTo_succ]
  have hd : ∀ {K : List Nat}, Ok K → ∀ j, j < 124 → K[i * 124 + j]? = some (K.getD (i * 124 + j) 0) := fun {K} hK j hj => by
    rw [List.getD_eq_getElem?_getD, List.getElem?_eq_getElem (by rw [hK.len]; omega)]; rfl
  cases ob with
  | true =>
    obtain ⟨j, hj, hne⟩ := ho.1 rfl
    rw [if_neg (part_ne hj (by rw [hd h3 j hj, hd h j hj]; simpa using hne))]; rfl
  | false =>
    rw [if_pos (part_eq h3 h hi (fun j hj => by
      rw [hd h3 j hj, hd h j hj]
      congr 1
      by_cases e : L3.getD (i * 124 + j) 0 = L.getD (i * 124 + j) 0
      · exact e
      · exact absurd (ho.2 ⟨j, hj, e⟩) (by simp)))]; rfl
set_option maxRecDepth 20000 in
set_option maxHeartbeats 8000000 in
theorem turnedlaw (len cap len2 cap2 : Nat) (A A2 : Option Addr) (ls ls2 : List Ou) (w : World) (hlen : ls.length = len) (hA : Ops w A ls) (hlen2 : ls2.length = len2) (hA2 : Ops w A2 ls2) :
    Calls Try.prog 7 #[.slice A len cap, .slice A2 len2 cap2] w fun e W' => e = .returned (.bool true) ∧ Below w.heap.size w W' := by
  have h0 := vast_any A len cap ls w hlen hA
  have h02 := vast_any A2 len2 cap2 ls2 w hlen2 hA2
  have HW := Lib.hid (fun W => works_any W)
  cases hv : vastB ls with
  | true =>
    rw [hv] at h0
    have H0 := Lib.hid h0
    have H1 := Lib.hid (HW.out w)
    clear hA hlen h0 hv hA2 hlen2 h02
    go_enter Try.func7, Try.ntmps7
    go_wp2_with (first
      | (go_at_call 9; refine Calls.mono H0.out ?_; rintro e w' ⟨rfl, rfl⟩)
      | (go_at_call 10; refine Calls.mono H1.out ?_; rintro e w' ⟨rfl, hbw⟩))
    go_ret
    exact ⟨rfl, hbw⟩
  | false =>
  rw [hv] at h0
  cases hv2 : vastB ls2 with
  | true =>
    rw [hv2] at h02
    have H0 := Lib.hid h0
    have H02 := Lib.hid h02
    have H1 := Lib.hid (HW.out w)
    clear hA hlen h0 hv hA2 hlen2 h02 hv2
    go_enter Try.func7, Try.ntmps7
    go_wp2_with fail
    refine H0.out.mono ?_
    rintro e w' ⟨rfl, rfl⟩
    go_wp2_with fail
    refine H02.out.mono ?_
    rintro e w' ⟨rfl, rfl⟩
    go_wp2_with fail
    refine H1.out.mono ?_
    rintro e w' ⟨rfl, hbw⟩
    go_wp2_with fail
    go_ret
    exact ⟨rfl, hbw⟩
  | false =>
    rw [hv2] at h02
    have H0 := Lib.hid h0
    have H02 := Lib.hid h02
    obtain ⟨hl200, hsm⟩ := vastB_no hv
    obtain ⟨hl2002, hsm2⟩ := vastB_no hv2
    rw [hlen] at hl200
    rw [hlen2] at hl2002
    have HSM := Lib.hid hsm
    have HA := Lib.hid hA
    have HL := Lib.hid hlen
    have HSM2 := Lib.hid hsm2
    have HA2 := Lib.hid hA2
    have HL2 := Lib.hid hlen2
    have H1 := Lib.hid (new_any w)
    clear hA hlen hv h0 hsm hA2 hlen2 hv2 h02 hsm2
    go_enter Try.func7, Try.ntmps7
    go_wp2_with fail
    refine H0.out.mono ?_
    rintro e w' ⟨rfl, rfl⟩
    go_wp2_with fail
    refine H02.out.mono ?_
    rintro e w' ⟨rfl, rfl⟩
    go_wp2_with fail
    refine H1.out.mono ?_
    rintro e w1 ⟨rfl, hP, hb⟩
    go_wp2_with fail
    have HI : Hid (Pl w w1 w.heap.size (playL ls 0)) := Lib.hid ⟨hP, hb⟩
    clear hP hb H0 H1 H02
    go_loopw [6] (fun iv wr => ∃ i : Nat, i ≤ len ∧ iv = .int .i64 (i : Int) ∧ Hid (Pl w wr w.heap.size (playL ls i))) (fun iv _ => len - (intOf iv).toNat)
    case atStart => exact ⟨0, Nat.zero_le _, rfl, HI⟩
    case round =>
      clear HI
      obtain ⟨i, hi, rfl, hI⟩ := hrel
      by_cases hlt : i < len
      · have hd : decide ((i : Int) < (len : Int)) = true := by simpa using hlt
        obtain ⟨o, ho⟩ : ∃ o, ls[i]? = some o := ⟨_, List.getElem?_eq_getElem (by rw [HL.out]; exact hlt)⟩
        obtain ⟨b, off, A3, n, c, rfl, _, hc, hn, hn1, hn2, hB⟩ := HA.out.at_ ho
        obtain ⟨k0, k1, k2, k3⟩ := hc wr hI.out.bel
        have hnb : n ≤ 1024 := by rw [← hn]; exact HSM.out o (List.mem_of_getElem? ho)
        have H1 := Lib.hid (does_some w.heap.size n c A3 (playL ls i) o wr hI.out.m hn hnb (hB.below hI.out.bel))
        have HS : Hid (∀ W, Stp wr W w.heap.size (doesL (playL ls i) o) → Pl w W w.heap.size (playL ls (i + 1))) := Lib.hid (fun W hW => by
          rw [playL_succ ho]; exact hI.out.step (Nat.le_refl _) hW)
        clear hc hn hB hI ho
        go_wp2_with (go_at_call 15; refine Calls.mono H1.out ?_; rintro e w3 ⟨rfl, hS⟩)
        have HI2 := Lib.hid (HS.out _ hS)
        clear hS
        go_roundw
        case rel => exact ⟨i + 1, by omega, by go_num, HI2⟩
        case measure => simp [intOf]; omega
      · obtain rfl : len = i := by omega
        have hd : decide ((len : Int) < (len : Int)) = false := by simp
        obtain ⟨L, hL⟩ : ∃ L, playL ls len = L := ⟨_, rfl⟩
        rw [hL] at hI
        have H1 := Lib.hid (copy_some _ L wr hI.out.m)
        have HI := hI
        clear hI hL
        go_wp2_with fail
        refine H1.out.mono ?_
        rintro e w2 ⟨rfl, hC, hb⟩
        have HO : Hid (OneI w w2 wr.heap.size L (playF L ls2 0)) := Lib.hid ⟨⟨HI.out.m.below hb, HI.out.bel.trans (hb.mono HI.out.bel.size)⟩, hC, HI.out.m.blk.lt⟩
        obtain ⟨h, hh⟩ : ∃ h, wr.heap.size = h := ⟨_, rfl⟩
        rw [hh] at HO ⊢
        clear hC hb HI hh H1
        go_wp2_with fail
        go_loopw [8] (fun iv wx => ∃ i : Nat, i ≤ len2 ∧ iv = .int .i64 (i : Int) ∧ Hid (OneI w wx h L (playF L ls2 i))) (fun iv _ => len2 - (intOf iv).toNat)
        case atStart => exact ⟨0, Nat.zero_le _, rfl, HO⟩
        case round =>
          clear HO
          obtain ⟨i, hi, rfl, hI⟩ := hrel
          by_cases hlt : i < len2
          · have hd2 : decide ((i : Int) < (len2 : Int)) = true := by simpa using hlt
            obtain ⟨o, ho⟩ : ∃ o, ls2[i]? = some o := ⟨_, List.getElem?_eq_getElem (by rw [HL2.out]; exact hlt)⟩
            obtain ⟨b, off, A3, n, c, rfl, _, hc, hn, hn1, hn2, hB⟩ := HA2.out.at_ ho
            obtain ⟨k0, k1, k2, k3⟩ := hc _ hI.out.pl.bel
            have hnb : n ≤ 1024 := by rw [← hn]; exact HSM2.out o (List.mem_of_getElem? ho)
            have H1 := Lib.hid (does_some w.heap.size n c A3 (playF L ls2 i) o _ hI.out.pl.m hn hnb (hB.below hI.out.pl.bel))
            have HS := Lib.hid (fun W hW => (show OneI w W h L (playF L ls2 (i + 1)) from by rw [playF_succ ho]; exact hI.out.step (W' := W) hW))
            clear hc hn hB hI ho
            go_wp2_with (go_at_call 15; refine Calls.mono H1.out ?_; rintro e w3 ⟨rfl, hS⟩)
            have HI2 := Lib.hid (HS.out _ hS)
            clear hS
            go_roundw
            case rel => exact ⟨i + 1, by omega, by go_num, HI2⟩
            case measure => simp [intOf]; omega
          · obtain rfl : len2 = i := by omega
            have hd2 : decide ((len2 : Int) < (len2 : Int)) = false := by simp
            obtain ⟨L3, hL3⟩ : ∃ L3, playF L ls2 len2 = L3 := ⟨_, rfl⟩
            rw [hL3] at hI
            have HO := hI
            clear hI hL3
            go_wp2_with fail
            obtain ⟨wx, rfl⟩ : ∃ wx, wx = wr := ⟨_, rfl⟩
            have HT : Hid (RpI wx wx (.slice none 0 0) (turnedTo L3 L 0)) := Lib.hid ⟨IntsO.nil _, fun j hj => (by cases hj), Below.refl _ _⟩
            go_loopw [9, 10, 11, 12, 13, 14, 15, 16] (fun lv iv _ _ _ _ _ _ wy => ∃ i : Nat, i ≤ 9 ∧ iv = .int .i64 (i : Int) ∧ Hid (RpI wx wy lv (turnedTo L3 L i))) (fun _ iv _ _ _ _ _ _ _ => 9 - (intOf iv).toNat)
            case atStart => exact ⟨0, Nat.zero_le _, rfl, HT⟩
            case round =>
              clear HT
              obtain ⟨i, hi, rfl, hI⟩ := hrel
              obtain ⟨wy, rfl⟩ : ∃ wy, wy = wr := ⟨_, rfl⟩
              obtain ⟨Al, cl, hlv, _, _⟩ := hI.out.ints.shape
              have hlen3 := turnedTo_len L3 L i
              obtain ⟨nl, hnl⟩ : ∃ nl, (turnedTo L3 L i).length = nl := ⟨_, rfl⟩
              rw [hnl] at hlv hlen3
              subst hlv
              have HNL := Lib.hid hnl
              clear hnl
              by_cases hlt3 : i < 9
              · have hd3 : decide ((i : Int) < 9) = true := by simp; omega
                have HO2 := Lib.hid (HO.out.below hI.out.bel)
                have HO0 := Lib.hid (OtherI.zero L3 L i)
                go_wp2_with fail
                go_loopw [11, 12, 13, 14, 15, 16] (fun ov kv _ _ _ _ wz => ∃ (j : Nat) (ob : Bool), j ≤ 124 ∧ ov = .bool ob ∧ kv = .int .i64 ((i : Int) * 124 + (j : Int)) ∧ wz = wy ∧ Hid (OtherI L3 L i j ob)) (fun _ kv _ _ _ _ _ => i * 124 + 124 - (intOf kv).toNat)
                case atStart => exact ⟨0, false, Nat.zero_le _, rfl, by simp, rfl, HO0⟩
                case round =>
                  clear HO0
                  obtain ⟨j, ob, hj, rfl, rfl, hwz, hE⟩ := hrel
                  obtain rfl : wy = _ := hwz.symm
                  by_cases hlt4 : j < 124
                  · have hd4 : decide ((i : Int) * 124 + (j : Int) < ((i : Int) + 1) * 124) = true := by simp; omega
                    have hk : ((i * 124 + j : Nat) : Int) = (i : Int) * 124 + (j : Int) := by omega
                    have G1 := get_some w.heap.size L3 ((i * 124 + j : Nat) : Int) wy HO2.out.pl.m
                    have G2 := get_some h L ((i * 124 + j : Nat) : Int) wy HO2.out.was
                    rw [got_at HO2.out.pl.m.ok, hk] at G1
                    rw [got_at HO2.out.was.ok, hk] at G2
                    obtain ⟨x, hx⟩ : ∃ x, L3.getD (i * 124 + j) 0 = x := ⟨_, rfl⟩
                    obtain ⟨y, hy⟩ : ∃ y, L.getD (i * 124 + j) 0 = y := ⟨_, rfl⟩
                    rw [hx] at G1
                    rw [hy] at G2
                    obtain ⟨xb, hxb⟩ : ∃ xb, decide (x ≠ 0) = xb := ⟨_, rfl⟩
                    obtain ⟨yb, hyb⟩ : ∃ yb, decide (y ≠ 0) = yb := ⟨_, rfl⟩
                    rw [hxb] at G1
                    rw [hyb] at G2
                    have G1 := Lib.hid G1
                    have G2 := Lib.hid G2
                    clear hk hxb hyb
                    cases ob with
                    | true =>
                      have HE := Lib.hid hE.out.yes
                      clear hE hx hy
                      go_wp2_with (first
                        | (go_at_call_of 17 (Value.pointer (some ⟨w.heap.size, 0, none⟩)); refine Calls.mono G1.out ?_; rintro e w' ⟨rfl, rfl⟩)
                        | (go_at_call_of 17 (Value.pointer (some ⟨h, 0, none⟩)); refine Calls.mono G2.out ?_; rintro e w' ⟨rfl, rfl⟩))
                      go_roundw
                      case rel => exact ⟨j + 1, true, by omega, rfl, by go_num, by trivial, HE⟩
                      case measure => simp [intOf]; omega
                    | false =>
                      by_cases hxy : x = y
                      · have HE := Lib.hid (hE.out.no (by rw [hx, hy]; exact hxy))
                        have hne : ((x : Int) != (y : Int)) = false := by simp [hxy]
                        clear hE hx hy hxy
                        go_wp2_with (first
                          | (go_at_call_of 17 (Value.pointer (some ⟨w.heap.size, 0, none⟩)); refine Calls.mono G1.out ?_; rintro e w' ⟨rfl, rfl⟩)
                          | (go_at_call_of 17 (Value.pointer (some ⟨h, 0, none⟩)); refine Calls.mono G2.out ?_; rintro e w' ⟨rfl, rfl⟩))
                        go_roundw
                        case rel => exact ⟨j + 1, false, by omega, rfl, by go_num, by trivial, HE⟩
                        case measure => simp [intOf]; omega
                      · have HE : Hid (OtherI L3 L i (j + 1) true) := Lib.hid (OtherI.now (by rw [hx, hy]; exact hxy))
                        have hne : ((x : Int) != (y : Int)) = true := by simp; omega
                        clear hE hx hy hxy
                        go_wp2_with (first
                          | (go_at_call_of 17 (Value.pointer (some ⟨w.heap.size, 0, none⟩)); refine Calls.mono G1.out ?_; rintro e w' ⟨rfl, rfl⟩)
                          | (go_at_call_of 17 (Value.pointer (some ⟨h, 0, none⟩)); refine Calls.mono G2.out ?_; rintro e w' ⟨rfl, rfl⟩))
                        go_roundw
                        case rel => exact ⟨j + 1, true, by omega, rfl, by go_num, by trivial, HE⟩
                        case measure => simp [intOf]; omega
                  · obtain rfl : 124 = j := by omega
                    have hd4 : decide ((i : Int) * 124 + ((124 : Nat) : Int) < ((i : Int) + 1) * 124) = false := by simp; omega
                    have hE2 := hE.out.end_ HO2.out.pl.m.ok HO2.out.was.ok hlt3
                    cases ob with
                    | true =>
                      obtain ⟨v', w5, hrun, hT5⟩ := hI.out.push i (by rw [HNL.out]; omega)
                      obtain ⟨A5, c5, rfl, _, _⟩ := hT5.ints.shape
                      have e5 : (turnedTo L3 L i ++ [i]).length = nl + 1 := by rw [List.length_append, HNL.out]; rfl
                      rw [e5] at hrun
                      have hI2 : Hid (RpI wx w5 (.slice A5 (nl + 1) c5) (turnedTo L3 L (i + 1))) := Lib.hid (by rw [hE2, ← e5]; exact hT5)
                      have HRUN := Lib.hid hrun
                      clear hE hE2 hrun hT5 e5
                      go_wp2_with (at_builtin; refine wpList_app rfl _ _ 37 rfl _ _ _ _ rfl rfl HRUN.out ?_)
                      go_roundw
                      case rel => exact ⟨i + 1, by omega, by go_num, hI2⟩
                      case measure => simp [intOf]; omega
                    | false =>
                      have hI2 : Hid (RpI wx wy (.slice Al nl cl) (turnedTo L3 L (i + 1))) := Lib.hid (by rw [hE2]; exact hI.out)
                      clear hE hE2
                      go_wp2_with fail
                      go_roundw
                      case rel => exact ⟨i + 1, by omega, by go_num, hI2⟩
                      case measure => simp [intOf]; omega
              · obtain rfl : 9 = i := by omega
                have hd3 : decide (((9 : Nat) : Int) < 9) = false := by simp
                go_wp2_with fail
                have HO := Lib.hid (HO.out.below hI.out.bel)
                have HZ : Hid (IntsO wy (.slice Al nl cl) (turnedL L3 L)) := Lib.hid (by rw [← turnedTo_end]; exact hI.out.ints)
                have H1 := Lib.hid (turned_any _ _ L3 L wy (.inr ⟨_, rfl, HO.out.pl.m⟩) (.inr ⟨_, rfl, HO.out.was⟩))
                clear hI
                refine H1.out.mono ?_
                rintro e w6 ⟨lv, rfl, hi6, _, hb⟩
                have HO := Lib.hid (HO.out.below hb)
                have HZ := Lib.hid (hi1_below HZ.out hb)
                have H1 := Lib.hid (same_any lv (.slice Al nl cl) _ w6 hi6 HZ.out)
                clear hi6 hb
                go_wp2_with fail
                refine H1.out.mono ?_
                rintro e w7 ⟨rfl, hb⟩
                have HO := Lib.hid (HO.out.below hb)
                have HZ := Lib.hid (hi1_below HZ.out hb)
                have H1 := Lib.hid (turned_any _ _ L L3 w7 (.inr ⟨_, rfl, HO.out.was⟩) (.inr ⟨_, rfl, HO.out.pl.m⟩))
                rw [turnedL_symm L L3] at H1
                clear hb
                go_wp2_with fail
                refine H1.out.mono ?_
                rintro e w8 ⟨lv2, rfl, hi8, _, hb⟩
                have HO := Lib.hid (HO.out.below hb)
                have HZ := Lib.hid (hi1_below HZ.out hb)
                have H1 := Lib.hid (same_any lv2 (.slice Al nl cl) _ w8 hi8 HZ.out)
                clear hi8 hb
                go_wp2_with fail
                refine H1.out.mono ?_
                rintro e w9 ⟨rfl, hb⟩
                have HB := Lib.hid (HO.out.below hb).pl.bel
                have H1 := Lib.hid (HW.out w9)
                clear hb HO HZ
                go_wp2_with fail
                refine H1.out.mono ?_
                rintro e w10 ⟨rfl, hb⟩
                go_wp2_with fail
                go_ret
                exact ⟨rfl, HB.out.trans (hb.mono HB.out.size)⟩
end Go.Proofs.Ytcmaehilgeonjaa
