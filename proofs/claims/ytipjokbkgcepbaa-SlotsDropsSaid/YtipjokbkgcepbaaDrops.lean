/- SlotsDrops. -/
import Derived.Test.YtipjokbkgcepbaaY
namespace Go.Proofs.Ytipjokbkgcepbaa
open Go.RowKit Slt

set_option maxRecDepth 20000 in
set_option maxHeartbeats 2000000 in
theorem drops_any (A : Option Addr) (len cap : Nat) (slot : Int) (p : List UInt8) (w : World) (hs : -9223372036854775808 ≤ slot ∧ slot < 9223372036854775808) (hlen : p.length = len) (hA : Bytes w A p) (hcap : len ≤ cap) (hcm : cap ≤ maxLen) :
    Calls Try.prog 5 #[.slice A len cap, .int .i64 slot] w fun e W' => e = .returned (.bool true) ∧ Below w.heap.size w W' := by
  by_cases hbig : 1024 < len
  · have hd : decide ((1024 : Int) < (len : Int)) = true := by simp; omega
    have HW := Lib.hid (works_any w)
    clear hA hlen
    go_enter Try.func5, Try.ntmps5
    go_wp2_with fail
    refine HW.out.mono ?_
    rintro e w' ⟨rfl, hb⟩
    have HB := Lib.hid hb
    clear hb
    go_wp2_with fail
    go_ret
    exact ⟨rfl, HB.out⟩
  have hd : decide ((1024 : Int) < (len : Int)) = false := by simp; omega
  have hl4 : len ≤ 1024 := by omega
  have HA := Lib.hid hA
  have HL := Lib.hid hlen
  have HC : Hid (len ≤ cap ∧ cap ≤ 9223372036854775807) := Lib.hid ⟨hcap, by unfold maxLen at hcm; omega⟩
  have H0 := Lib.hid (roomy_any A len cap p w hlen hA (by omega))
  obtain ⟨X, hX⟩ : ∃ X, dropX p slot = X := ⟨_, rfl⟩
  obtain ⟨bb, hbb⟩ : ∃ bb, (gotR p slot).isSome = bb := ⟨_, rfl⟩
  obtain ⟨xl, hxl⟩ : ∃ xl, X.length = xl := ⟨_, rfl⟩
  have hx1 : xl ≤ 1000 := by rw [← hxl, ← hX]; exact dropX_len p slot
  have HD : Hid (∀ (A : Option Addr) (cap : Nat) (W : World), Bytes W A p → len ≤ cap → cap ≤ maxLen → Calls Try.prog 25 #[.slice A len cap, .int .i64 slot] W fun e w' => ∃ A c, e = .returned (.tuple #[.slice A xl c, .bool bb]) ∧ ItOk w' W.heap.size ⟨A, xl, c, X⟩ ∧ Below W.heap.size W w') := Lib.hid (fun A cap W h1 h2 h3 => by
    refine (drop_any A len cap slot p W hs hlen h1 h2 h3).mono fun e w' h => ?_
    have := h.ans
    rwa [hX, hbb, hxl] at this)
  have HRD : Hid (∀ (W : World), Bytes W A p → Calls Try.prog 26 #[.slice A len cap, .int .i64 slot] W fun e w' => ∃ A c, e = .returned (.tuple #[.slice A xl c, .bool bb]) ∧ ItOk w' W.heap.size ⟨A, xl, c, X⟩ ∧ Below W.heap.size W w') := Lib.hid (fun W h1 => by
    refine (refdrop_any A len cap slot p W hs hlen h1 hcap hcm).mono fun e w' h => ?_
    have := h.ans
    rwa [hX, hbb, hxl] at this)
  have hbq : (bb == bb) = true := by simp
  clear hA hlen hbig hX hbb hxl hcm hcap
  go_enter Try.func5, Try.ntmps5
  go_wp2_with fail
  refine H0.out.mono ?_
  rintro e w1 ⟨g0, rfl, hg0, hR0, hb1⟩
  have HB1 := Lib.hid hb1
  have HR0 := Lib.hid hR0
  have HG0 := Lib.hid hg0
  have hin : Rw w1 g0 len (len + 6) p := by
    have := hR0.take len (by omega)
    rwa [List.take_left' HL.out] at this
  have HIN := Lib.hid hin
  have H1 := Lib.hid (HD.out (some ⟨g0, 0, none⟩) (len + 6) w1 hin.bytes (by omega) hin.max)
  clear H0 hg0 hR0 hb1 hin HD
  go_wp2_with fail
  refine H1.out.mono ?_
  rintro e w2 ⟨A2, c2, rfl, hq, hb2⟩
  have HB2 := Lib.hid (HB1.out.trans (hb2.mono HB1.out.size))
  have HR02 := Lib.hid (HR0.out.below hb2)
  have HIN2 := Lib.hid (HIN.out.below hb2)
  have HNE : Hid ((⟨A2, xl, c2, X⟩ : Itm).home ≠ some g0) := Lib.hid (fun e => by have := (hq.home_lt e).2; have := HIN.out.lt; omega)
  have hq1 : ItOk w2 w.heap.size ⟨A2, xl, c2, X⟩ := by
    rcases hq with h | ⟨g, h1, h2, h3⟩
    · exact .inl h
    · exact .inr ⟨g, h1, Nat.le_trans HB1.out.size h2, h3⟩
  have HQ := Lib.hid hq1
  have H2 := Lib.hid (HRD.out w2 (HA.out.below HB2.out))
  clear H1 hq hq1 hb2 HRD HR0 HIN
  go_wp2_with fail
  refine H2.out.mono ?_
  rintro e w3 ⟨A3, c3, rfl, hx, hb3⟩
  have HB3 := Lib.hid (HB2.out.trans (hb3.mono HB2.out.size))
  have HR03 := Lib.hid (HR02.out.below hb3)
  have HIN3 := Lib.hid (HIN2.out.below hb3)
  have HQ3 := Lib.hid (HQ.out.below hb3)
  have hqc := HQ3.out.caps
  have hxc := hx.caps
  have h3 := eq_any A2 A3 xl c2 xl c3 X X w3 HQ3.out.long HQ3.out.long HQ3.out.bytes hx.bytes ⟨hqc.1, hqc.2, by omega⟩ ⟨hxc.1, hxc.2, by omega⟩
  rw [decide_eq_true (rfl : X = X)] at h3
  have H3 := Lib.hid h3
  clear H2 hx hb3 h3 hqc hxc HQ HR02 HIN2
  go_wp2_with fail
  refine H3.out.mono ?_
  rintro e w4 ⟨rfl, hb4⟩
  have HB4 := Lib.hid (HB3.out.trans (hb4.mono HB3.out.size))
  have HIN4 := Lib.hid (HIN3.out.below hb4)
  have HQ4 := Lib.hid (HQ3.out.below hb4)
  have H4 := Lib.hid (kept_any g0 len A cap p w4 HL.out (HR03.out.below hb4) (HA.out.below HB4.out) HC.out (by omega))
  clear H3 hb4
  go_wp2_with fail
  refine H4.out.mono ?_
  rintro e w5 ⟨rfl, hb5⟩
  have HB5 := Lib.hid (HB4.out.trans (hb5.mono HB4.out.size))
  have H5 := Lib.hid (apart2 ⟨A2, xl, c2, X⟩ g0 len w.heap.size p w5 (HQ4.out.below hb5) hx1 (HIN4.out.below hb5) HG0.out HNE.out HB5.out.size (by omega))
  clear H4 hb5
  go_wp2_with fail
  refine H5.out.mono ?_
  rintro e w6 ⟨rfl, hb6⟩
  have HB6 := Lib.hid (HB5.out.trans hb6)
  have H6 := Lib.hid (works_any w6)
  clear H5 hb6
  go_wp2_with fail
  refine H6.out.mono ?_
  rintro e w7 ⟨rfl, hb7⟩
  have HB7 := Lib.hid (HB6.out.trans (hb7.mono HB6.out.size))
  clear hb7
  go_wp2_with fail
  go_ret
  exact ⟨rfl, HB7.out⟩
end Go.Proofs.Ytipjokbkgcepbaa
