/- SlotsTells. -/
import Derived.Test.YtipjokbkgcepbaaY
namespace Go.Proofs.Ytipjokbkgcepbaa
open Go.RowKit Slt

set_option maxRecDepth 20000 in
set_option maxHeartbeats 1000000 in
theorem same_any (a b : Value) (zs : List Nat) (w : World) (ha : IntsO w a zs) (hb : IntsO w b zs) :
    Calls Try.prog 15 #[a, b] w fun e w' => e = .returned (.bool true) ∧ Below w.heap.size w w' := by
  obtain ⟨A, c, rfl, hc, hm⟩ := ha.shape
  obtain ⟨B, d, rfl, hd, hm2⟩ := hb.shape
  obtain ⟨n, hn⟩ : ∃ n, zs.length = n := ⟨_, rfl⟩
  have hnm : n ≤ 9223372036854775807 := by unfold maxLen at hm; omega
  have HA := Lib.hid ha
  have HB := Lib.hid hb
  have HN := Lib.hid hn
  have HBe := Lib.hid (Below.refl w.heap.size w)
  have hnn : ((n : Int) != (n : Int)) = false := by simp
  rw [hn]
  rw [hn] at hc hd
  clear ha hb hn
  go_enter Try.func15, Try.ntmps15
  go_wp2_with fail
  go_loopw [5] (fun iv wr => ∃ i : Nat, i ≤ n ∧ iv = .int .i64 (i : Int) ∧ Hid (Below w.heap.size w wr)) (fun iv _ => n - (intOf iv).toNat)
  case atStart => exact ⟨0, Nat.zero_le _, rfl, HBe⟩
  case round =>
    clear HBe
    obtain ⟨i, hi, rfl, hbel⟩ := hrel
    have hbn : ∀ k, Hid (Below w.heap.size w (wr.drewN k)) := fun k => Lib.hid (hbel.out.trans ((drewN_below wr k).mono hbel.out.size))
    have HBN := Lib.hid hbn
    clear hbn
    by_cases hlt : i < n
    · have hd1 : decide ((i : Int) < (n : Int)) = true := by simpa using hlt
      obtain ⟨z, hz⟩ : ∃ z, zs[i]? = some z := ⟨_, List.getElem?_eq_getElem (by rw [HN.out]; exact hlt)⟩
      obtain ⟨ga, ca, ea, hga, hca⟩ := HA.out.get i z hz
      obtain ⟨gb, cb, eb, hgb, hcb⟩ := HB.out.get i z hz
      injection ea with e1 e2 e3
      injection eb with e4 e5 e6
      subst e1
      subst e4
      have c0 := (hbel.out.cell (p := ⟨ga, i, none⟩) hga).trans hca
      have c1 := (hbel.out.cell (p := ⟨gb, i, none⟩) hgb).trans hcb
      have hzz : ((z : Int) != (z : Int)) = false := by simp
      clear e2 e3 e5 e6 hca hcb hz hga hgb
      go_wp2_with fail
      go_quiet (fail)
      go_wp2_with fail
      go_roundw
      case rel => exact ⟨i + 1, by omega, by go_num, HBN.out _⟩
      case measure => simp [intOf]; omega
    · obtain rfl : n = i := by omega
      have hd1 : decide ((n : Int) < (n : Int)) = false := by simp
      go_wp2_with fail
      go_ret
      exact ⟨rfl, hbel.out⟩

set_option maxRecDepth 20000 in
set_option maxHeartbeats 2000000 in
theorem tells_any (A : Option Addr) (len cap : Nat) (slot : Int) (p : List UInt8) (w : World) (hs : -9223372036854775808 ≤ slot ∧ slot < 9223372036854775808) (hlen : p.length = len) (hA : Bytes w A p) (hcap : len ≤ cap) (hcm : cap ≤ maxLen) :
    Calls Try.prog 3 #[.slice A len cap, .int .i64 slot] w fun e W' => e = .returned (.bool true) ∧ Below w.heap.size w W' := by
  by_cases hbig : 1024 < len
  · have hd : decide ((1024 : Int) < (len : Int)) = true := by simp; omega
    have HW := Lib.hid (works_any w)
    clear hA hlen
    go_enter Try.func3, Try.ntmps3
    go_wp2_with fail
    refine HW.out.mono ?_
    rintro e w' ⟨rfl, hb⟩
    have HB := Lib.hid hb
    clear hb
    go_wp2_with fail
    go_ret
    exact ⟨rfl, HB.out⟩
  have hd : decide ((1024 : Int) < (len : Int)) = false := by simp; omega
  have hl4 : len ≤ 1024 := by omega
  have HA := Lib.hid hA
  have HL := Lib.hid hlen
  have HC : Hid (len ≤ cap ∧ cap ≤ 9223372036854775807) := Lib.hid ⟨hcap, by unfold maxLen at hcm; omega⟩
  have H0 := Lib.hid (roomy_any A len cap p w hlen hA (by omega))
  obtain ⟨X, hX⟩ : ∃ X, gotX p slot = X := ⟨_, rfl⟩
  obtain ⟨bb, hbb⟩ : ∃ bb, (gotR p slot).isSome = bb := ⟨_, rfl⟩
  obtain ⟨ob, hob⟩ : ∃ ob, okB p = ob := ⟨_, rfl⟩
  obtain ⟨rr, hrr⟩ : ∃ rr, roomR p = rr := ⟨_, rfl⟩
  obtain ⟨zs, hzs⟩ : ∃ zs, usedK (recs p) = zs := ⟨_, rfl⟩
  obtain ⟨xl, hxl⟩ : ∃ xl, X.length = xl := ⟨_, rfl⟩
  have hx1 : xl ≤ 1000 := by rw [← hxl, ← hX]; exact gotX_len p slot
  have HX := Lib.hid hxl
  have HG : Hid (∀ (A : Option Addr) (cap : Nat) (W : World), Bytes W A p → len ≤ cap → cap ≤ maxLen → Calls Try.prog 11 #[.slice A len cap, .int .i64 slot] W fun e w' => ∃ A c, e = .returned (.tuple #[.slice A xl c, .bool bb]) ∧ ItOk w' W.heap.size ⟨A, xl, c, X⟩ ∧ Below W.heap.size W w') := Lib.hid (fun A cap W h1 h2 h3 => by
    refine (get_any A len cap slot p W hlen h1 h2 h3).mono fun e w' h => ?_
    have := h.ans
    rwa [hX, hbb, hxl] at this)
  have HRG : Hid (∀ (W : World), Bytes W A p → Calls Try.prog 12 #[.slice A len cap, .int .i64 slot] W fun e w' => ∃ A c, e = .returned (.tuple #[.slice A xl c, .bool bb]) ∧ Bytes w' A X ∧ xl ≤ c ∧ c ≤ 9223372036854775807 ∧ Below W.heap.size W w') := Lib.hid (fun W h1 => by
    refine (refget_any A len cap slot p W hs hlen h1 hcap hcm).mono fun e w' h => ?_
    have := h.ans
    rwa [hX, hbb, hxl] at this)
  have HRT : Hid (∀ (A : Option Addr) (cap : Nat) (W : World), Bytes W A p → len ≤ cap → cap ≤ maxLen → Calls Try.prog 13 #[.slice A len cap] W fun e w' => e = .returned (.bool ob) ∧ W = w') := Lib.hid (fun A cap W h1 h2 h3 => by
    have := right_any A len cap p W hlen h1 h2 h3
    rwa [hob] at this)
  have HRR : Hid (∀ (W : World), Bytes W A p → Calls Try.prog 14 #[.slice A len cap] W fun e w' => e = .returned (.bool ob) ∧ Below W.heap.size W w') := Lib.hid (fun W h1 => by
    have := refright_any A len cap p W hlen h1 hcap hcm
    rwa [hob] at this)
  have HSL : Hid (∀ (A : Option Addr) (cap : Nat) (W : World), Bytes W A p → len ≤ cap → cap ≤ maxLen → Calls Try.prog 16 #[.slice A len cap] W fun e w' => ∃ sv, e = .returned sv ∧ IntsO w' sv zs ∧ Below W.heap.size W w') := Lib.hid (fun A cap W h1 h2 h3 => by
    refine (slots_any A len cap p W hlen h1 h2 h3).mono ?_
    rintro e w' ⟨sv, rfl, h1, _, h2⟩
    rw [hzs] at h1
    exact ⟨sv, rfl, h1, h2⟩)
  have HRS : Hid (∀ (W : World), Bytes W A p → Calls Try.prog 17 #[.slice A len cap] W fun e w' => ∃ sv, e = .returned sv ∧ IntsO w' sv zs ∧ Below W.heap.size W w') := Lib.hid (fun W h1 => by
    have := refslots_any A len cap p W hlen h1 hcap hcm
    rwa [hzs] at this)
  have HRM : Hid (∀ (A : Option Addr) (cap : Nat) (W : World), Bytes W A p → len ≤ cap → cap ≤ maxLen → Calls Try.prog 18 #[.slice A len cap] W fun e w' => e = .returned (.int .i64 rr) ∧ Below W.heap.size W w') := Lib.hid (fun A cap W h1 h2 h3 => by
    have := room_any A len cap p W hlen h1 h2 h3
    rwa [hrr] at this)
  have HRRM : Hid (∀ (W : World), Bytes W A p → Calls Try.prog 19 #[.slice A len cap] W fun e w' => e = .returned (.int .i64 rr) ∧ Below W.heap.size W w') := Lib.hid (fun W h1 => by
    have := refroom_any A len cap p W hlen h1 hcap hcm
    rwa [hrr] at this)
  have hbq : (bb != bb) = false := by simp
  have hoq : (ob != ob) = false := by simp
  have hrq : (rr != rr) = false := by simp
  clear hA hlen hbig hX hbb hxl hcm hcap hob hrr hzs
  go_enter Try.func3, Try.ntmps3
  go_wp2_with fail
  refine H0.out.mono ?_
  rintro e w1 ⟨g0, rfl, hg0, hR0, hb1⟩
  have HB1 := Lib.hid hb1
  have HR0 := Lib.hid hR0
  have HG0 := Lib.hid hg0
  have hin : Rw w1 g0 len (len + 6) p := by
    have := hR0.take len (by omega)
    rwa [List.take_left' HL.out] at this
  have HIN := Lib.hid hin
  have H1 := Lib.hid (HG.out (some ⟨g0, 0, none⟩) (len + 6) w1 hin.bytes (by omega) hin.max)
  clear H0 hg0 hR0 hb1 hin HG
  go_wp2_with fail
  refine H1.out.mono ?_
  rintro e w2 ⟨A2, c2, rfl, hq, hb2⟩
  have HB2 := Lib.hid (HB1.out.trans (hb2.mono HB1.out.size))
  have HR02 := Lib.hid (HR0.out.below hb2)
  have HIN2 := Lib.hid (HIN.out.below hb2)
  have HNE : Hid ((⟨A2, xl, c2, X⟩ : Itm).home ≠ some g0) := Lib.hid (fun e => by have := (hq.home_lt e).2; have := HIN.out.lt; omega)
  have hq1 : ItOk w2 w.heap.size ⟨A2, xl, c2, X⟩ := by
    rcases hq with h | ⟨g, h1, h2, h3⟩
    · exact .inl h
    · exact .inr ⟨g, h1, Nat.le_trans HB1.out.size h2, h3⟩
  have HQ := Lib.hid hq1
  have H2 := Lib.hid (HRG.out w2 (HA.out.below HB2.out))
  clear H1 hq hq1 hb2 HRG HR0 HIN
  go_wp2_with fail
  refine H2.out.mono ?_
  rintro e w3 ⟨A3, c3, rfl, hx, hxc1, hxc2, hb3⟩
  have HXB := Lib.hid hx
  have HB3 := Lib.hid (HB2.out.trans (hb3.mono HB2.out.size))
  have HR03 := Lib.hid (HR02.out.below hb3)
  have HIN3 := Lib.hid (HIN2.out.below hb3)
  have HQ3 := Lib.hid (HQ.out.below hb3)
  have H3 := Lib.hid (HRT.out (some ⟨g0, 0, none⟩) (len + 6) w3 HIN3.out.bytes (by omega) HIN3.out.max)
  have H4 := Lib.hid (HRR.out w3 (HA.out.below HB3.out))
  clear H2 hx hb3 HQ HR02 HIN2 HRT HRR
  go_wp2_with fail
  refine H3.out.mono ?_
  rintro e w' ⟨rfl, rfl⟩
  clear H3
  go_wp2_with fail
  refine H4.out.mono ?_
  rintro e w4 ⟨rfl, hb4⟩
  have HB4 := Lib.hid (HB3.out.trans (hb4.mono HB3.out.size))
  have HXB4 := Lib.hid (HXB.out.below hb4)
  have HR04 := Lib.hid (HR03.out.below hb4)
  have HIN4 := Lib.hid (HIN3.out.below hb4)
  have HQ4 := Lib.hid (HQ3.out.below hb4)
  have H5 := Lib.hid (HSL.out (some ⟨g0, 0, none⟩) (len + 6) w4 HIN4.out.bytes (by omega) HIN4.out.max)
  clear H4 hb4 HQ3 HR03 HIN3 HSL HXB
  go_wp2_with fail
  refine H5.out.mono ?_
  rintro e w5 ⟨s1, rfl, hs1, hb5⟩
  have HB5 := Lib.hid (HB4.out.trans (hb5.mono HB4.out.size))
  have HXB5 := Lib.hid (HXB4.out.below hb5)
  have HR05 := Lib.hid (HR04.out.below hb5)
  have HIN5 := Lib.hid (HIN4.out.below hb5)
  have HQ5 := Lib.hid (HQ4.out.below hb5)
  have H6 := Lib.hid (HRS.out w5 (HA.out.below HB5.out))
  have HS1 := Lib.hid hs1
  obtain ⟨As1, cs1, e1, _, _⟩ := hs1.shape
  subst e1
  clear H5 hb5 HQ4 HR04 HIN4 HRS HXB4 hs1
  go_wp2_with fail
  refine H6.out.mono ?_
  rintro e w6 ⟨s2, rfl, hs2, hb6⟩
  have HB6 := Lib.hid (HB5.out.trans (hb6.mono HB5.out.size))
  have HXB6 := Lib.hid (HXB5.out.below hb6)
  have HR06 := Lib.hid (HR05.out.below hb6)
  have HIN6 := Lib.hid (HIN5.out.below hb6)
  have HQ6 := Lib.hid (HQ5.out.below hb6)
  have H7 := Lib.hid (same_any _ _ zs w6 (HS1.out.same fun k hk => hb6.block k (HS1.out.lt k hk)) hs2)
  obtain ⟨As2, cs2, e2, _, _⟩ := hs2.shape
  subst e2
  clear H6 hb6 HQ5 HR05 HIN5 HXB5 hs2 HS1
  go_wp2_with fail
  refine H7.out.mono ?_
  rintro e w7 ⟨rfl, hb7⟩
  have HB7 := Lib.hid (HB6.out.trans (hb7.mono HB6.out.size))
  have HXB7 := Lib.hid (HXB6.out.below hb7)
  have HR07 := Lib.hid (HR06.out.below hb7)
  have HIN7 := Lib.hid (HIN6.out.below hb7)
  have HQ7 := Lib.hid (HQ6.out.below hb7)
  have H8 := Lib.hid (HRM.out (some ⟨g0, 0, none⟩) (len + 6) w7 HIN7.out.bytes (by omega) HIN7.out.max)
  clear H7 hb7 HQ6 HR06 HIN6 HRM HXB6
  go_wp2_with fail
  refine H8.out.mono ?_
  rintro e w8 ⟨rfl, hb8⟩
  have HB8 := Lib.hid (HB7.out.trans (hb8.mono HB7.out.size))
  have HXB8 := Lib.hid (HXB7.out.below hb8)
  have HR08 := Lib.hid (HR07.out.below hb8)
  have HIN8 := Lib.hid (HIN7.out.below hb8)
  have HQ8 := Lib.hid (HQ7.out.below hb8)
  have H9 := Lib.hid (HRRM.out w8 (HA.out.below HB8.out))
  clear H8 hb8 HQ7 HR07 HIN7 HRRM HXB7
  go_wp2_with fail
  refine H9.out.mono ?_
  rintro e w9 ⟨rfl, hb9⟩
  have HB9 := Lib.hid (HB8.out.trans (hb9.mono HB8.out.size))
  have HXB9 := Lib.hid (HXB8.out.below hb9)
  have HR09 := Lib.hid (HR08.out.below hb9)
  have HIN9 := Lib.hid (HIN8.out.below hb9)
  have HQ9 := Lib.hid (HQ8.out.below hb9)
  have hqc := HQ9.out.caps
  have h3 := eq_any A2 A3 xl c2 xl c3 X X w9 HX.out HX.out HQ9.out.bytes HXB9.out ⟨hqc.1, hqc.2, by omega⟩ ⟨hxc1, hxc2, by omega⟩
  rw [decide_eq_true (rfl : X = X)] at h3
  have H10 := Lib.hid h3
  clear H9 hb9 HQ8 HR08 HIN8 HXB8 h3 hqc
  go_wp2_with fail
  refine H10.out.mono ?_
  rintro e wa ⟨rfl, hba⟩
  have HBA := Lib.hid (HB9.out.trans (hba.mono HB9.out.size))
  have HINA := Lib.hid (HIN9.out.below hba)
  have HQA := Lib.hid (HQ9.out.below hba)
  have H11 := Lib.hid (kept_any g0 len A cap p wa HL.out (HR09.out.below hba) (HA.out.below HBA.out) HC.out (by omega))
  clear H10 hba HIN9 HQ9 HR09 HXB9
  go_wp2_with fail
  refine H11.out.mono ?_
  rintro e wb ⟨rfl, hbb⟩
  have HBB := Lib.hid (HBA.out.trans (hbb.mono HBA.out.size))
  have H12 := Lib.hid (apart2 ⟨A2, xl, c2, X⟩ g0 len w.heap.size p wb (HQA.out.below hbb) hx1 (HINA.out.below hbb) HG0.out HNE.out HBB.out.size (by omega))
  clear H11 hbb
  go_wp2_with fail
  refine H12.out.mono ?_
  rintro e wc ⟨rfl, hbc⟩
  have HBC := Lib.hid (HBB.out.trans hbc)
  have H13 := Lib.hid (works_any wc)
  clear H12 hbc
  go_wp2_with fail
  refine H13.out.mono ?_
  rintro e wd ⟨rfl, hbd⟩
  have HBD := Lib.hid (HBC.out.trans (hbd.mono HBC.out.size))
  clear hbd
  go_wp2_with fail
  go_ret
  exact ⟨rfl, HBD.out⟩
end Go.Proofs.Ytipjokbkgcepbaa
