/- SlotsPuts. -/
import Derived.Test.YtipjokbkgcepbaaY
namespace Go.Proofs.Ytipjokbkgcepbaa
open Go.RowKit Slt

set_option maxRecDepth 20000 in
set_option maxHeartbeats 2000000 in
theorem puts_big (A B : Option Addr) (len cap l2 c2 : Nat) (w : World) (hbig : 1024 < len ∨ 1024 < l2) :
    Calls Try.prog 4 #[.slice A len cap, .slice B l2 c2] w fun e W' => e = .returned (.bool true) ∧ Below w.heap.size w W' := by
  have HW := Lib.hid (works_any w)
  by_cases h1 : 1024 < len
  · have hd : decide ((1024 : Int) < (len : Int)) = true := by simp; omega
    clear hbig
    go_enter Try.func4, Try.ntmps4
    go_wp2_with fail
    refine HW.out.mono ?_
    rintro e w' ⟨rfl, hb⟩
    have HB := Lib.hid hb
    clear hb
    go_wp2_with fail
    go_ret
    exact ⟨rfl, HB.out⟩
  · have hd : decide ((1024 : Int) < (len : Int)) = false := by simp; omega
    have hd2 : decide ((1024 : Int) < (l2 : Int)) = true := by simp; omega
    clear hbig
    go_enter Try.func4, Try.ntmps4
    go_wp2_with fail
    refine HW.out.mono ?_
    rintro e w' ⟨rfl, hb⟩
    have HB := Lib.hid hb
    clear hb
    go_wp2_with fail
    go_ret
    exact ⟨rfl, HB.out⟩

set_option maxRecDepth 20000 in
set_option maxHeartbeats 2000000 in
theorem puts_any (A B : Option Addr) (len cap l2 c2 : Nat) (p rec : List UInt8) (w : World) (hlen : p.length = len) (hA : Bytes w A p) (hcap : len ≤ cap) (hcm : cap ≤ maxLen)
    (hl2 : rec.length = l2) (hB : Bytes w B rec) (hc2 : l2 ≤ c2) (hm2 : c2 ≤ maxLen) :
    Calls Try.prog 4 #[.slice A len cap, .slice B l2 c2] w fun e W' => e = .returned (.bool true) ∧ Below w.heap.size w W' := by
  by_cases hbig : 1024 < len ∨ 1024 < l2
  · exact puts_big A B len cap l2 c2 w hbig
  have hd : decide ((1024 : Int) < (len : Int)) = false := by simp; omega
  have hd2 : decide ((1024 : Int) < (l2 : Int)) = false := by simp; omega
  have hl4 : len ≤ 1024 := by omega
  have hl5 : l2 ≤ 1024 := by omega
  have HA := Lib.hid hA
  have HBB := Lib.hid hB
  have HL := Lib.hid hlen
  have HL2 := Lib.hid hl2
  have HC : Hid (len ≤ cap ∧ cap ≤ 9223372036854775807) := Lib.hid ⟨hcap, by unfold maxLen at hcm; omega⟩
  have HC2 : Hid (l2 ≤ c2 ∧ c2 ≤ 9223372036854775807) := Lib.hid ⟨hc2, by unfold maxLen at hm2; omega⟩
  have H0 := Lib.hid (roomy_any A len cap p w hlen hA (by omega))
  obtain ⟨X, hX⟩ : ∃ X, putX p rec = X := ⟨_, rfl⟩
  obtain ⟨kk, hkk⟩ : ∃ kk, putK p rec = kk := ⟨_, rfl⟩
  obtain ⟨bb, hbb⟩ : ∃ bb, decide (mayPut p rec) = bb := ⟨_, rfl⟩
  obtain ⟨xl, hxl⟩ : ∃ xl, X.length = xl := ⟨_, rfl⟩
  have hx1 : xl ≤ 1000 := by rw [← hxl, ← hX]; exact putX_len p rec
  have HD : Hid (∀ (A B : Option Addr) (cap c2 : Nat) (W : World), Bytes W A p → len ≤ cap → cap ≤ maxLen → Bytes W B rec → l2 ≤ c2 → c2 ≤ maxLen → Calls Try.prog 23 #[.slice A len cap, .slice B l2 c2] W fun e w' => ∃ A c, e = .returned (.tuple #[.slice A xl c, .int .i64 kk, .bool bb]) ∧ ItOk w' W.heap.size ⟨A, xl, c, X⟩ ∧ Below W.heap.size W w') := Lib.hid (fun A B cap c2 W h1 h2 h3 h4 h5 h6 => by
    refine (put_any A B len cap l2 c2 p rec W hlen h1 h2 h3 hl2 h4 h5 h6).mono fun e w' h => ?_
    have := h.ans
    rwa [hX, hbb, hkk, hxl] at this)
  have HRD : Hid (∀ (W : World), Bytes W A p → Bytes W B rec → Calls Try.prog 24 #[.slice A len cap, .slice B l2 c2] W fun e w' => ∃ A c, e = .returned (.tuple #[.slice A xl c, .int .i64 kk, .bool bb]) ∧ ItOk w' W.heap.size ⟨A, xl, c, X⟩ ∧ Below W.heap.size W w') := Lib.hid (fun W h1 h2 => by
    refine (refput_any A B len cap l2 c2 p rec W hlen h1 hcap hcm hl2 h2 hc2 hm2).mono fun e w' h => ?_
    have := h.ans
    rwa [hX, hbb, hkk, hxl] at this)
  have hbq : (bb != bb) = false := by simp
  have hkq : (kk != kk) = false := by simp
  clear hA hlen hB hl2 hbig hX hbb hkk hxl hcm hcap hc2 hm2
  go_enter Try.func4, Try.ntmps4
  go_wp2_with fail
  refine H0.out.mono ?_
  rintro e w0 ⟨g0, rfl, hg0, hR0, hb1⟩
  have HB0 := Lib.hid hb1
  have HR0 := Lib.hid hR0
  have HG0 := Lib.hid hg0
  have hin : Rw w0 g0 len (len + 6) p := by
    have := hR0.take len (by omega)
    rwa [List.take_left' HL.out] at this
  have HIN := Lib.hid hin
  have H0b := Lib.hid (roomy_any B l2 c2 rec w0 HL2.out (HBB.out.below hb1) (by omega))
  clear H0 hg0 hR0 hb1 hin
  go_wp2_with fail
  refine H0b.out.mono ?_
  rintro e w1 ⟨g1, rfl, hg1, hR1, hb1⟩
  have HB1 := Lib.hid (HB0.out.trans (hb1.mono HB0.out.size))
  have HR1 := Lib.hid hR1
  have HR01 := Lib.hid (HR0.out.below hb1)
  have HIN1 := Lib.hid (HIN.out.below hb1)
  have HG1 : Hid (g0 < g1) := Lib.hid (Nat.lt_of_lt_of_le HIN.out.lt hg1)
  have hrin : Rw w1 g1 l2 (l2 + 6) rec := by
    have := hR1.take l2 (by omega)
    rwa [List.take_left' HL2.out] at this
  have HRIN := Lib.hid hrin
  have H1 := Lib.hid (HD.out (some ⟨g0, 0, none⟩) (some ⟨g1, 0, none⟩) (len + 6) (l2 + 6) w1 HIN1.out.bytes (by omega) HIN1.out.max hrin.bytes (by omega) hrin.max)
  clear H0b hg1 hR1 hb1 hrin HD HR0 HIN
  go_wp2_with fail
  refine H1.out.mono ?_
  rintro e w2 ⟨A2, c2, rfl, hq, hb2⟩
  have HB2 := Lib.hid (HB1.out.trans (hb2.mono HB1.out.size))
  have HR02 := Lib.hid (HR01.out.below hb2)
  have HR12 := Lib.hid (HR1.out.below hb2)
  have HIN2 := Lib.hid (HIN1.out.below hb2)
  have HRIN2 := Lib.hid (HRIN.out.below hb2)
  have HNE : Hid ((⟨A2, xl, c2, X⟩ : Itm).home ≠ some g0) := Lib.hid (fun e => by have := (hq.home_lt e).2; have := HIN1.out.lt; omega)
  have HNE1 : Hid ((⟨A2, xl, c2, X⟩ : Itm).home ≠ some g1) := Lib.hid (fun e => by have := (hq.home_lt e).2; have := HRIN.out.lt; omega)
  have hq1 : ItOk w2 w.heap.size ⟨A2, xl, c2, X⟩ := by
    rcases hq with h | ⟨g, h1, h2, h3⟩
    · exact .inl h
    · exact .inr ⟨g, h1, Nat.le_trans HB1.out.size h2, h3⟩
  have HQ := Lib.hid hq1
  have H2 := Lib.hid (HRD.out w2 (HA.out.below HB2.out) (HBB.out.below HB2.out))
  clear H1 hq hq1 hb2 HRD HR01 HIN1 HRIN HR1
  go_wp2_with fail
  refine H2.out.mono ?_
  rintro e w3 ⟨A3, c3, rfl, hx, hb3⟩
  have HB3 := Lib.hid (HB2.out.trans (hb3.mono HB2.out.size))
  have HR03 := Lib.hid (HR02.out.below hb3)
  have HR13 := Lib.hid (HR12.out.below hb3)
  have HIN3 := Lib.hid (HIN2.out.below hb3)
  have HRIN3 := Lib.hid (HRIN2.out.below hb3)
  have HQ3 := Lib.hid (HQ.out.below hb3)
  have hqc := HQ3.out.caps
  have hxc := hx.caps
  have h3 := eq_any A2 A3 xl c2 xl c3 X X w3 HQ3.out.long HQ3.out.long HQ3.out.bytes hx.bytes ⟨hqc.1, hqc.2, by omega⟩ ⟨hxc.1, hxc.2, by omega⟩
  rw [decide_eq_true (rfl : X = X)] at h3
  have H3 := Lib.hid h3
  clear H2 hx hb3 h3 hqc hxc HQ HR02 HIN2 HR12 HRIN2
  go_wp2_with fail
  refine H3.out.mono ?_
  rintro e w4 ⟨rfl, hb4⟩
  have HB4 := Lib.hid (HB3.out.trans (hb4.mono HB3.out.size))
  have HIN4 := Lib.hid (HIN3.out.below hb4)
  have HRIN4 := Lib.hid (HRIN3.out.below hb4)
  have HR14 := Lib.hid (HR13.out.below hb4)
  have HQ4 := Lib.hid (HQ3.out.below hb4)
  have H4 := Lib.hid (kept_any g0 len A cap p w4 HL.out (HR03.out.below hb4) (HA.out.below HB4.out) HC.out (by omega))
  clear H3 hb4 HIN3 HRIN3 HR13 HR03 HQ3
  go_wp2_with fail
  refine H4.out.mono ?_
  rintro e w5 ⟨rfl, hb5⟩
  have HB5 := Lib.hid (HB4.out.trans (hb5.mono HB4.out.size))
  have HIN5 := Lib.hid (HIN4.out.below hb5)
  have HRIN5 := Lib.hid (HRIN4.out.below hb5)
  have HQ5 := Lib.hid (HQ4.out.below hb5)
  have H5 := Lib.hid (kept_any g1 l2 B _ rec w5 HL2.out (HR14.out.below hb5) (HBB.out.below HB5.out) HC2.out (by omega))
  clear H4 hb5 HIN4 HRIN4 HQ4 HR14
  go_wp2_with fail
  refine H5.out.mono ?_
  rintro e w6 ⟨rfl, hb6⟩
  have HB6 := Lib.hid (HB5.out.trans (hb6.mono HB5.out.size))
  have H6 := Lib.hid (apart3 ⟨A2, xl, c2, X⟩ g0 len g1 l2 w.heap.size p rec w6 (HQ5.out.below hb6) hx1 (HIN5.out.below hb6) HG0.out HNE.out (HRIN5.out.below hb6) (by have := HG0.out; have := HG1.out; omega) HNE1.out (by have := HG1.out; omega) HB6.out.size (by omega) (by omega))
  clear H5 hb6
  go_wp2_with fail
  refine H6.out.mono ?_
  rintro e w7 ⟨rfl, hb7⟩
  have HB7 := Lib.hid (HB6.out.trans hb7)
  have H7 := Lib.hid (works_any w7)
  clear H6 hb7
  go_wp2_with fail
  refine H7.out.mono ?_
  rintro e w8 ⟨rfl, hb8⟩
  have HB8 := Lib.hid (HB7.out.trans (hb8.mono HB7.out.size))
  clear hb8
  go_wp2_with fail
  go_ret
  exact ⟨rfl, HB8.out⟩
end Go.Proofs.Ytipjokbkgcepbaa
