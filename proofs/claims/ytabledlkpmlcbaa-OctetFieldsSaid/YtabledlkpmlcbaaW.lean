/- OctetFields. -/
import Derived.Test.YtabledlkpmlcbaaV
import Derived.Deep.CutRange
import Derived.Deep.RegionHeld
namespace Go.Proofs.Ytabledlkpmlcbaa
open Go.RowKit

theorem own_form {w : World} {base : Nat} {e : TypeId} {v : Value} {n : Nat} {xs : List Value} (h : w.ownsRow base e 1 v n xs) (hn : 0 < n) : ∃ g cap, v = .slice (some ⟨g, 0, none⟩) n cap ∧ base ≤ g ∧ g < w.heap.size ∧ (∀ k u, xs[k]? = some u → w.cell? ⟨g, k, none⟩ = some u) ∧ ∀ k, w.frozen? ⟨g, k, none⟩ = false := by
  rcases h.2 with ⟨_, rfl⟩ | ⟨g, cap, cur, rfl, hb, hg, hn', hm, hs, ht⟩
  · omega
  · refine ⟨g, cap, rfl, hb, (Array.getElem?_eq_some_iff.1 hg).1, fun k u hu => ?_, fun k => Blk.frozen (t := e) (cs := cur) hg k⟩
    rw [cell_of_row w g k cur e (0, 0) hg]
    rw [← ht, List.getElem?_take] at hu
    split at hu
    · simpa using hu
    · cases hu
theorem own_bound {w : World} {base : Nat} {e : TypeId} {v : Value} {n : Nat} {xs : List Value} (h : w.ownsRow base e 1 v n xs) : n ≤ 9223372036854775807 := by
  rcases h.2 with ⟨_, rfl⟩ | ⟨g, cap, cur, _, _, _, hn', hm, _, _⟩
  · omega
  · unfold maxLen at hm; omega
theorem own_cell {w : World} {base g c n : Nat} {e : TypeId} {xs : List Value} (h : w.ownsRow base e 1 (.slice (some ⟨g, 0, none⟩) n c) n xs) (k : Nat) (hk : k < n) : ∃ u, w.cell? ⟨g, k, none⟩ = some u := by
  obtain ⟨g', c', e1, _, _, hc, _⟩ := own_form h (by omega)
  obtain ⟨rfl, rfl⟩ : g = g' ∧ c = c' := by simp at e1; exact e1
  have hl : xs.length = n := by have := h.1; simpa using this
  exact ⟨_, hc k _ (List.getElem?_eq_getElem (by omega))⟩
theorem own_set {w : World} {base g cap : Nat} {e : TypeId} {n : Nat} {xs : List Value} (h : w.ownsRow base e 1 (.slice (some ⟨g, 0, none⟩) n cap) n xs) (k : Nat) (u : Value) : (w.setCell ⟨g, k, none⟩ u).ownsRow base e 1 (.slice (some ⟨g, 0, none⟩) n cap) n (xs.set k u) := by
  refine ⟨by simpa using h.1, ?_⟩
  rcases h.2 with ⟨e', _⟩ | ⟨g', cap', cur, e', hb, hg, hn', hm, hs, ht⟩
  · cases e'
  · injection e' with e1 e2 e3
    injection e1 with e1
    injection e1 with e1
    subst e1 e3
    refine .inr ⟨g, cap, cur.setIfInBounds k u, rfl, hb, Blk.set_ (t := e) (cs := cur) hg k u, hn', hm, by simpa using hs, ?_⟩
    rw [Array.toList_setIfInBounds, List.take_set, ht]
theorem Bytes.under {w w' : World} {g o B : Nat} {bs : List UInt8} (h : Bytes w (some ⟨g, o, none⟩) bs) (hg : g < B) (hb : Below B w w') : Bytes w' (some ⟨g, o, none⟩) bs := fun k c hk => by
  obtain ⟨b, off, e, hlt, hc⟩ := h k c hk
  cases e
  exact ⟨g, o, rfl, Nat.lt_of_lt_of_le hlt hb.size, (hb.cell (p := ⟨g, o + k, none⟩) hg).trans hc⟩
theorem Bytes.front {w : World} {A : Option Addr} {a b : List UInt8} (h : Bytes w A (a ++ b)) : Bytes w A a := fun k c hk => by
  refine h k c ?_
  have hlt : k < a.length := (List.getElem?_eq_some_iff.1 hk).1
  rw [List.getElem?_append_left hlt]; exact hk

set_option maxRecDepth 20000 in
set_option maxHeartbeats 2000000 in
theorem fields_any (A : Option Addr) (len cap x : Nat) (at_ n : Int) (bs : List UInt8) (w : World) (hbl : bs.length = len) (hA : Bytes w A bs) (_hml : len ≤ maxLen) (ha : -9223372036854775808 ≤ at_ ∧ at_ < 9223372036854775808) (hn : -9223372036854775808 ≤ n ∧ n < 9223372036854775808) (hx : x < 18446744073709551616) :
    Calls Try.prog 3 #[.slice A len cap, .int .i64 at_, .int .i64 n, .int .u64 x] w fun e W' => e = .returned (.bool true) ∧ Below w.heap.size w W' := by
  by_cases hbig : 16384 < len
  · have HW := Lib.hid (works_any w)
    have hbi : 16384 < (len : Int) := by omega
    clear hA
    go_enter Try.func3, Try.ntmps3
    go_wp2_with fail
    refine HW.out.mono ?_
    rintro e w1 ⟨rfl, hb⟩
    have HB := Lib.hid hb
    clear hb
    go_wp2
    go_ret
    exact ⟨rfl, HB.out⟩
  have hbi : ¬ (16384 < (len : Int)) := by omega
  by_cases hmid : 32768 < n ∧ n ≤ 1048576
  · have HW := Lib.hid (works_any w)
    obtain ⟨hm1, hm2⟩ := hmid
    clear hA
    go_enter Try.func3, Try.ntmps3
    go_wp2_with fail
    refine HW.out.mono ?_
    rintro e w1 ⟨rfl, hb⟩
    have HB := Lib.hid hb
    clear hb
    go_wp2
    go_ret
    exact ⟨rfl, HB.out⟩
  have hgd : (decide (32768 < n) && decide (n ≤ 1048576)) = false := by simp; omega
  have HA := Lib.hid hA
  have hl : len ≤ 1048576 := by omega
  have HSP := Lib.hid (spread_any A len cap 119 bs w hbl hl (by decide) hA)
  have HBL := Lib.hid hbl
  clear hA
  go_enter Try.func3, Try.ntmps3
  go_upto_region 1 with fail
  go_cut [36] from 26 to 35 (fun s wx => s = .bool false ∧ wx = w)
  case first =>
    by_cases h1 : 32768 < n
    · have h2 : ¬ (n ≤ 1048576) := by omega
      go_wp2_with fail
      go_meet
      exact ⟨rfl, rfl⟩
    · go_wp2_with fail
      go_meet
      exact ⟨rfl, rfl⟩
  case rest =>
    obtain ⟨rfl, hwc⟩ := hcut
    obtain rfl : w = wc := hwc.symm
    clear hgd hmid
    go_wp2_with fail
    refine HSP.out.mono ?_
    rintro e w1 ⟨rfl, hR1, hb1⟩
    clear HSP
    have hlt1 : w.heap.size < w1.heap.size := hR1.lt
    have hin1 := Bytes.row hR1
    have HB1 := Lib.hid hb1
    have HIN1 := Lib.hid hin1
    have hg1 := get_all (some ⟨w.heap.size, 0, none⟩) len (len + 16) at_ n bs w1 HBL.out hl ha.2 hn.2 hin1.front
    have HG1 := Lib.hid hg1
    clear hg1 hin1 hR1 hb1
    go_wp2_with fail
    refine HG1.out.mono ?_
    rintro e w2 ⟨rfl, hb2⟩
    clear HG1
    have hs2 := hb2.size
    have HB2 := Lib.hid (HB1.out.trans (hb2.mono (by omega)))
    have HIN2 := Lib.hid (HIN1.out.below hb2)
    have HG2 := Lib.hid (refget_all A len cap at_ n bs w2 HBL.out hl hn (HA.out.below HB2.out))
    clear hb2
    go_wp2_with fail
    refine HG2.out.mono ?_
    rintro e w' ⟨rfl, rfl⟩
    clear HG2
    have HP := Lib.hid (put_all w.heap.size len (len + 16) x n bs w2 HBL.out hl HIN2.out.front)
    go_wp2_with fail
    refine HP.out.mono ?_
    rintro e w3 ⟨vp, mp, rfl, hop, hb3⟩
    clear HP
    have hs3 := hb3.size
    have HB3 := Lib.hid (HB2.out.trans (hb3.mono (by omega)))
    have HIN3 := Lib.hid (HIN2.out.below hb3)
    have HPL := Lib.hid hop.lt
    have HOP3 := Lib.hid hop
    have HC := Lib.hid (cut_all (some ⟨w.heap.size, 0, none⟩) len (len + 16) at_ n bs w3 HBL.out hl ha.2 hn.2 HIN3.out.front)
    clear hop hb3
    go_wp2_with fail
    refine HC.out.mono ?_
    rintro e w4 ⟨vc, mc, rfl, hoc, hb4⟩
    clear HC
    have hs4 := hb4.size
    have HB4 := Lib.hid (HB3.out.trans (hb4.mono (by omega)))
    have HIN4 := Lib.hid (HIN3.out.below hb4)
    have HCL := Lib.hid hoc.lt
    have HOC4 := Lib.hid hoc
    have HOP4 := Lib.hid (own_below HOP3.out hb4)
    have HD := Lib.hid (refcut_all A len cap at_ n bs w4 HBL.out hl hn (HA.out.below HB4.out))
    clear hoc hb4
    go_wp2_with fail
    refine HD.out.mono ?_
    rintro e w5 ⟨vd, md, rfl, hod, hb5⟩
    clear HD
    have hs5 := hb5.size
    have HB5 := Lib.hid (HB4.out.trans (hb5.mono (by omega)))
    have HIN5 := Lib.hid (HIN4.out.below hb5)
    have HOD5 := Lib.hid hod
    have HOC5 := Lib.hid (own_below HOC4.out hb5)
    have HOP5 := Lib.hid (own_below HOP4.out hb5)
    have HF := Lib.hid (fill_all (some ⟨w.heap.size, 0, none⟩) len (len + 16) n bs w5 HBL.out HIN5.out.front)
    clear hod hb5
    go_wp2_with fail
    refine HF.out.mono ?_
    rintro e w6 ⟨vl, ml, rfl, hol, hb6⟩
    clear HF
    have hs6 := hb6.size
    have HB6 := Lib.hid (HB5.out.trans (hb6.mono (by omega)))
    have HIN6 := Lib.hid (HIN5.out.below hb6)
    have HLL := Lib.hid hol.lt
    have HOL6 := Lib.hid hol
    have HOD6 := Lib.hid (own_below HOD5.out hb6)
    have HOC6 := Lib.hid (own_below HOC5.out hb6)
    have HOP6 := Lib.hid (own_below HOP5.out hb6)
    have HM := Lib.hid (reffill_all A len cap n bs w6 HBL.out (HA.out.below HB6.out))
    clear hol hb6
    go_wp2_with fail
    refine HM.out.mono ?_
    rintro e w7 ⟨vm, mm, rfl, hom, hb7⟩
    clear HM
    have hs7 := hb7.size
    have HB7 := Lib.hid (HB6.out.trans (hb7.mono (by omega)))
    have HIN7 := Lib.hid (HIN6.out.below hb7)
    have HOM7 := Lib.hid hom
    have HOL7 := Lib.hid (own_below HOL6.out hb7)
    have HOD7 := Lib.hid (own_below HOD6.out hb7)
    have HOC7 := Lib.hid (own_below HOC6.out hb7)
    have HOP7 := Lib.hid (own_below HOP6.out hb7)
    clear hom hb7 HIN1 HIN2 HIN3 HIN4 HIN5 HIN6 HOP3 HOP4 HOP5 HOP6 HOC4 HOC5 HOC6 HOD5 HOD6 HOL6
    go_upto_region 11 with fail
    go_cut [125] from 84 to 124 (fun s wx => s = .bool false ∧ Below w7.heap.size w7 wx)
    case first =>
      obtain ⟨S1, hS1⟩ : ∃ S, str (putBytes bs x n) = S := ⟨_, rfl⟩
      obtain ⟨S2, hS2⟩ : ∃ S, str (cutBytes bs at_ n) = S := ⟨_, rfl⟩
      obtain ⟨S3, hS3⟩ : ∃ S, str (fillBytes bs n) = S := ⟨_, rfl⟩
      have hst : ∀ W, Below w7.heap.size w7 W → ((convert 22 9 vp).run Try.prog W = .ok (.string S1) W ∧ (convert 22 9 vc).run Try.prog W = .ok (.string S2) W ∧ (convert 22 9 vd).run Try.prog W = .ok (.string S2) W ∧
          (convert 22 9 vl).run Try.prog W = .ok (.string S3) W ∧ (convert 22 9 vm).run Try.prog W = .ok (.string S3) W) := by
        intro W hW
        rw [← hS1, ← hS2, ← hS3]
        exact ⟨run_strOwn W _ mp vp _ (own_below HOP7.out hW), run_strOwn W _ mc vc _ (own_below HOC7.out hW), run_strOwn W _ md vd _ (own_below HOD7.out hW), run_strOwn W _ ml vl _ (own_below HOL7.out hW), run_strOwn W _ mm vm _ (own_below HOM7.out hW)⟩
      have HST := Lib.hid hst
      have hdr : Below w7.heap.size w7 w7.drew := (Below.refl _ w7).drew
      have hrp := refput_any A len cap x n bs w7.drew HBL.out hl (HA.out.below (HB7.out.drew)) hx
      have HRP := Lib.hid hrp
      have HS1 := Lib.hid hS1
      have HDR := Lib.hid hdr
      clear hrp hst hS1 hS2 hS3 hdr
      go_region_held (fun W => (convert 22 9 vp).run Try.prog W = .ok (.string S1) W ∧ (convert 22 9 vc).run Try.prog W = .ok (.string S2) W ∧ (convert 22 9 vd).run Try.prog W = .ok (.string S2) W ∧
          (convert 22 9 vl).run Try.prog W = .ok (.string S3) W ∧ (convert 22 9 vm).run Try.prog W = .ok (.string S3) W)
        (first | exact HST.out _ HDR.out | exact HST.out _ hw8)
        (first | (go_at_call 17; refine Calls.mono HRP.out ?_; rintro e w8 ⟨v8, m8, rfl, ho8, hb8⟩; have hw8 := HDR.out.trans hb8; have r6 := run_strOwn w8 _ m8 v8 _ ho8; rw [HS1.out] at r6))
      all_goals (go_wp2_with fail; go_meet; exact ⟨rfl, hw8⟩)
    case rest =>
      obtain ⟨rfl, hbc⟩ := hcut

      have hbcw := HB7.out.trans (hbc.mono (show w.heap.size ≤ w7.heap.size by omega))
      obtain ⟨A1, c1, rfl⟩ := own_shape HOP7.out
      obtain ⟨A2, c2, rfl⟩ := own_shape HOC7.out
      obtain ⟨A3, c3, rfl⟩ := own_shape HOL7.out
      have HOPc := Lib.hid (own_below HOP7.out hbc)
      have HOCc := Lib.hid (own_below HOC7.out hbc)
      have HOLc := Lib.hid (own_below HOL7.out hbc)
      have HINc := Lib.hid (HIN7.out.below hbc)
      have HBc := Lib.hid hbcw
      have HGP : Hid (w.heap.size < w2.heap.size) := Lib.hid (by omega)
      have HGC : Hid (w.heap.size < w3.heap.size) := Lib.hid (by omega)
      have HGL : Hid (w.heap.size < w5.heap.size) := Lib.hid (by omega)
      replace HPL : Hid (∀ g : Nat, A1 = some ⟨g, 0, none⟩ → w2.heap.size ≤ g ∧ g < w3.heap.size) := Lib.hid (fun g e => HPL.out g (by rw [e]; rfl))
      replace HCL : Hid (∀ g : Nat, A2 = some ⟨g, 0, none⟩ → w3.heap.size ≤ g ∧ g < w4.heap.size) := Lib.hid (fun g e => HCL.out g (by rw [e]; rfl))
      replace HLL : Hid (∀ g : Nat, A3 = some ⟨g, 0, none⟩ → w5.heap.size ≤ g ∧ g < w6.heap.size) := Lib.hid (fun g e => HLL.out g (by rw [e]; rfl))
      clear hbc hbcw HOM7 HOL7 HOD7 HOC7 HOP7 HIN7
      go_wp2

      -- p
      go_loopw [23] (fun i wr => ∃ k : Nat, k ≤ mp ∧ i = .int .i64 k ∧ (∃ xs, wr.ownsRow w2.heap.size 5 1 (.slice A1 mp c1) mp xs) ∧ wr.ownsRow w3.heap.size 5 1 (.slice A2 mc c2) mc ((cutBytes bs at_ n).map bv) ∧ wr.ownsRow w5.heap.size 5 1 (.slice A3 ml c3) ml ((fillBytes bs n).map bv) ∧ Bytes wr (some ⟨w.heap.size, 0, none⟩) (spreadB bs (UInt8.ofNat 119)) ∧ Below w.heap.size w wr) (fun i _ => mp - (intOf i).toNat)
      case atStart => exact ⟨0, Nat.zero_le _, rfl, ⟨_, HOPc.out⟩, HOCc.out, HOLc.out, HINc.out, HBc.out⟩
      case round =>
        obtain ⟨k, hk, rfl, ⟨xs, ho1⟩, ho2, ho3, hin, hbw⟩ := hrel
        by_cases hlt : k < mp
        · obtain ⟨g, c, e1, hgb, hglt, -, hfz⟩ := own_form ho1 (by omega)
          obtain ⟨rfl, rfl⟩ : A1 = some ⟨g, 0, none⟩ ∧ c1 = c := by simp at e1; exact e1
          have hbk := HPL.out g rfl
          obtain ⟨u, hu⟩ : ∃ u, wr.cell? ⟨g, k, none⟩ = some u := own_cell ho1 k hlt
          have hf := hfz k
          have hs1 := own_set ho1 k (.int .u8 17)
          have hs2' := ownsRow_setCell_below ho2 (a := ⟨g, k, none⟩) (show g < w3.heap.size by omega) (.int .u8 17)
          have hs3' := ownsRow_setCell_below ho3 (a := ⟨g, k, none⟩) (show g < w5.heap.size by omega) (.int .u8 17)
          have hin2 := hin.under (g := w.heap.size) (B := w2.heap.size) (by have := HGP.out; omega) ((Below.refl _ wr).setCell (p := ⟨g, k, none⟩) (by show w2.heap.size ≤ g; omega) (.int .u8 17))
          have hb2 := hbw.setCell (p := ⟨g, k, none⟩) (by show w.heap.size ≤ g; have := HGP.out; omega) (.int .u8 17)
          have hkm : (k : Int) < (mp : Int) := by omega
          have hkb := own_bound ho1
          have HREL := Lib.hid (show (∃ xs, (wr.setCell ⟨g, k, none⟩ (.int .u8 17)).ownsRow w2.heap.size 5 1 (.slice (some ⟨g, 0, none⟩) mp c1) mp xs) ∧ (wr.setCell ⟨g, k, none⟩ (.int .u8 17)).ownsRow w3.heap.size 5 1 (.slice A2 mc c2) mc ((cutBytes bs at_ n).map bv) ∧ (wr.setCell ⟨g, k, none⟩ (.int .u8 17)).ownsRow w5.heap.size 5 1 (.slice A3 ml c3) ml ((fillBytes bs n).map bv) ∧ Bytes (wr.setCell ⟨g, k, none⟩ (.int .u8 17)) (some ⟨w.heap.size, 0, none⟩) (spreadB bs (UInt8.ofNat 119)) ∧ Below w.heap.size w (wr.setCell ⟨g, k, none⟩ (.int .u8 17)) from ⟨⟨_, hs1⟩, hs2', hs3', hin2, hb2⟩)
          clear ho1 hfz hs1 hs2' hs3' ho2 ho3 hin hin2 hbw hb2 hbk
          go_wp2
          go_roundw
          case rel => exact ⟨k + 1, by omega, by go_num, HREL.out⟩
          case measure => simp [intOf]; omega
        · obtain rfl : k = mp := by omega
          have hkm : ¬ ((k : Int) < (k : Int)) := by omega
          have HO2 := Lib.hid ho2
          have HO3 := Lib.hid ho3
          have HIN := Lib.hid hin
          have HBW := Lib.hid hbw
          clear ho1 ho2 ho3 hin hbw
          go_wp2


          -- c
          go_loopw [24] (fun i wr => ∃ k : Nat, k ≤ mc ∧ i = .int .i64 k ∧ (∃ xs, wr.ownsRow w3.heap.size 5 1 (.slice A2 mc c2) mc xs) ∧ wr.ownsRow w5.heap.size 5 1 (.slice A3 ml c3) ml ((fillBytes bs n).map bv) ∧ Bytes wr (some ⟨w.heap.size, 0, none⟩) (spreadB bs (UInt8.ofNat 119)) ∧ Below w.heap.size w wr) (fun i _ => mc - (intOf i).toNat)
          case atStart => exact ⟨0, Nat.zero_le _, rfl, ⟨_, HO2.out⟩, HO3.out, HIN.out, HBW.out⟩
          case round =>
            obtain ⟨k, hk, rfl, ⟨xs, ho1⟩, ho3, hin, hbw⟩ := hrel
            by_cases hlt : k < mc
            · obtain ⟨g, c, e1, hgb, hglt, -, hfz⟩ := own_form ho1 (by omega)
              obtain ⟨rfl, rfl⟩ : A2 = some ⟨g, 0, none⟩ ∧ c2 = c := by simp at e1; exact e1
              have hbk := HCL.out g rfl
              obtain ⟨u, hu⟩ : ∃ u, wr.cell? ⟨g, k, none⟩ = some u := own_cell ho1 k hlt
              have hf := hfz k
              have hs1 := own_set ho1 k (.int .u8 34)
              have hs3' := ownsRow_setCell_below ho3 (a := ⟨g, k, none⟩) (show g < w5.heap.size by omega) (.int .u8 34)
              have hin2 := hin.under (g := w.heap.size) (B := w3.heap.size) (by have := HGC.out; omega) ((Below.refl _ wr).setCell (p := ⟨g, k, none⟩) (by show w3.heap.size ≤ g; omega) (.int .u8 34))
              have hb2 := hbw.setCell (p := ⟨g, k, none⟩) (by show w.heap.size ≤ g; have := HGC.out; omega) (.int .u8 34)
              have hkm : (k : Int) < (mc : Int) := by omega
              have hkb := own_bound ho1
              have HREL := Lib.hid (show (∃ xs, (wr.setCell ⟨g, k, none⟩ (.int .u8 34)).ownsRow w3.heap.size 5 1 (.slice (some ⟨g, 0, none⟩) mc c2) mc xs) ∧ (wr.setCell ⟨g, k, none⟩ (.int .u8 34)).ownsRow w5.heap.size 5 1 (.slice A3 ml c3) ml ((fillBytes bs n).map bv) ∧ Bytes (wr.setCell ⟨g, k, none⟩ (.int .u8 34)) (some ⟨w.heap.size, 0, none⟩) (spreadB bs (UInt8.ofNat 119)) ∧ Below w.heap.size w (wr.setCell ⟨g, k, none⟩ (.int .u8 34)) from ⟨⟨_, hs1⟩, hs3', hin2, hb2⟩)
              clear ho1 hfz hs1 hs3' ho3 hin hin2 hbw hb2 hbk
              go_wp2
              go_roundw
              case rel => exact ⟨k + 1, by omega, by go_num, HREL.out⟩
              case measure => simp [intOf]; omega
            · obtain rfl : k = mc := by omega
              have hkm : ¬ ((k : Int) < (k : Int)) := by omega
              have HO4 := Lib.hid ho3
              have HIN := Lib.hid hin
              have HBW := Lib.hid hbw
              clear ho1 ho3 hin hbw
              go_wp2


              -- l
              go_loopw [25] (fun i wr => ∃ k : Nat, k ≤ ml ∧ i = .int .i64 k ∧ (∃ xs, wr.ownsRow w5.heap.size 5 1 (.slice A3 ml c3) ml xs) ∧  Bytes wr (some ⟨w.heap.size, 0, none⟩) (spreadB bs (UInt8.ofNat 119)) ∧ Below w.heap.size w wr) (fun i _ => ml - (intOf i).toNat)
              case atStart => exact ⟨0, Nat.zero_le _, rfl, ⟨_, HO4.out⟩, HIN.out, HBW.out⟩
              case round =>
                obtain ⟨k, hk, rfl, ⟨xs, ho1⟩,  hin, hbw⟩ := hrel
                by_cases hlt : k < ml
                · obtain ⟨g, c, e1, hgb, hglt, -, hfz⟩ := own_form ho1 (by omega)
                  obtain ⟨rfl, rfl⟩ : A3 = some ⟨g, 0, none⟩ ∧ c3 = c := by simp at e1; exact e1
                  have hbk := HLL.out g rfl
                  obtain ⟨u, hu⟩ : ∃ u, wr.cell? ⟨g, k, none⟩ = some u := own_cell ho1 k hlt
                  have hf := hfz k
                  have hs1 := own_set ho1 k (.int .u8 51)

                  have hin2 := hin.under (g := w.heap.size) (B := w5.heap.size) (by have := HGL.out; omega) ((Below.refl _ wr).setCell (p := ⟨g, k, none⟩) (by show w5.heap.size ≤ g; omega) (.int .u8 51))
                  have hb2 := hbw.setCell (p := ⟨g, k, none⟩) (by show w.heap.size ≤ g; have := HGL.out; omega) (.int .u8 51)
                  have hkm : (k : Int) < (ml : Int) := by omega
                  have hkb := own_bound ho1
                  have HREL := Lib.hid (show (∃ xs, (wr.setCell ⟨g, k, none⟩ (.int .u8 51)).ownsRow w5.heap.size 5 1 (.slice (some ⟨g, 0, none⟩) ml c3) ml xs) ∧  Bytes (wr.setCell ⟨g, k, none⟩ (.int .u8 51)) (some ⟨w.heap.size, 0, none⟩) (spreadB bs (UInt8.ofNat 119)) ∧ Below w.heap.size w (wr.setCell ⟨g, k, none⟩ (.int .u8 51)) from ⟨⟨_, hs1⟩,  hin2, hb2⟩)
                  clear ho1 hfz hs1  hin hin2 hbw hb2 hbk
                  go_wp2
                  go_roundw
                  case rel => exact ⟨k + 1, by omega, by go_num, HREL.out⟩
                  case measure => simp [intOf]; omega
                · obtain rfl : k = ml := by omega
                  have hkm : ¬ ((k : Int) < (k : Int)) := by omega

                  have HIN := Lib.hid hin
                  have HBW := Lib.hid hbw
                  clear ho1  hin hbw
                  go_wp2_with fail


                  have HHELD := Lib.hid (held_any w.heap.size A len cap 119 bs _ HBL.out hl (by decide) HIN.out (HA.out.below HBW.out))
                  have hszr := HBW.out.size
                  refine HHELD.out.mono ?_
                  rintro e w9 ⟨rfl, hb9⟩
                  clear HHELD
                  have HB9 := Lib.hid (HBW.out.trans (hb9.mono hszr))
                  have hsz9 := HB9.out.size
                  clear hb9
                  go_wp2_with fail
                  refine (works_any _).mono ?_
                  rintro e wz ⟨rfl, hbz⟩
                  have HBZ := Lib.hid (HB9.out.trans (hbz.mono hsz9))
                  clear hbz
                  go_wp2
                  go_ret
                  exact ⟨rfl, HBZ.out⟩

end Go.Proofs.Ytabledlkpmlcbaa
