/- TokenScans. -/
import Derived.Test.YtdnmdccjecoojaaDoorY
import Derived.Test.YtdnmdccjecoojaaDoorCd
namespace Go.Proofs.YtdnmdccjecoojaaDoor
open Go.RowKit Tok
/-- What Scan answers, in one form. -/
structure ScanA where
  l : List (Tk × Nat)
  i : Nat
  e : Nat
def Tok.ansR : Res → ScanA
  | .ok l => ⟨l, 0, 0⟩
  | .err i => ⟨[], i, 10⟩
theorem ScanP.ans {B : Nat} {s : List UInt8} {w : World} {e : Ending} {w' : World} (h : ScanP B s w e w') :
    ∃ A n c, e = .returned (.tuple #[.slice A n c, .int .i64 ((ansR (scanR s)).i : Int), .int .i64 ((ansR (scanR s)).e : Int)]) ∧ (ansR (scanR s)).l.length = n ∧ n ≤ c ∧ c ≤ maxLen ∧ Toks w' A (ansR (scanR s)).l ∧ (ansR (scanR s)).l.length ≤ s.length ∧ Below w.heap.size w w' := by
  obtain ⟨hb, ⟨l, lv, hs, rfl, hz, hl⟩ | ⟨i, hs, rfl⟩⟩ := h
  · obtain ⟨A, c, rfl, h1, h2, h3⟩ := hz.toks
    rw [hs]
    exact ⟨A, _, c, rfl, rfl, h1, h2, h3, hl, hb⟩
  · rw [hs]
    exact ⟨none, 0, 0, rfl, rfl, Nat.le_refl _, Nat.zero_le _, fun r x h => by simp [ansR] at h, Nat.zero_le _, hb⟩
set_option maxRecDepth 20000 in
set_option maxHeartbeats 2000000 in
theorem scans_any (A : Option Addr) (len cap : Nat) (s : List UInt8) (w : World) (hlen : s.length = len) (hA : Bytes w A s) (hcap : len ≤ cap) (hcm : cap ≤ maxLen) (hT : Tabs w) :
    Calls Tryd.prog 3 #[.slice A len cap] w fun e W' => e = .returned (.bool true) ∧ Below w.heap.size w W' := by
  unfold maxLen at hcm
  by_cases hbig : 65536 < len
  · have hd : decide ((len : Int) > 65536) = true := by simp; omega
    have H1 := Lib.hid (works_any w hT)
    clear hA hlen hT
    go_enter Tryd.func3, Tryd.ntmps3
    go_wp2_with fail
    refine H1.out.mono ?_
    rintro e w' ⟨rfl, hb⟩
    go_wp2_with fail
    go_ret
    exact ⟨rfl, hb⟩
  · have hd : decide ((len : Int) > 65536) = false := by simp; omega
    obtain ⟨a, ha⟩ : ∃ a, ansR (scanR s) = a := ⟨_, rfl⟩
    have HSC : Hid (∀ A len cap W, s.length = len → Bytes W A s → len ≤ maxLen → Below w.heap.size w W → Calls Tryd.prog 11 #[.slice A len cap] W fun e w' => ∃ A n c, e = .returned (.tuple #[.slice A n c, .int .i64 (a.i : Int), .int .i64 (a.e : Int)]) ∧ a.l.length = n ∧ n ≤ c ∧ c ≤ maxLen ∧ Toks w' A a.l ∧ a.l.length ≤ s.length ∧ Below W.heap.size W w') := Lib.hid (fun A len cap W h1 h2 h3 hW => by
      refine (scan_any A len cap s W h1 h2 h3 (hT.below hW)).mono ?_
      intro e w' h
      have := h.ans
      rw [ha] at this
      exact this)
    have HRS : Hid (∀ A len cap W, s.length = len → Bytes W A s → len ≤ maxLen → Calls Tryd.prog 12 #[.slice A len cap] W fun e w' => ∃ A n c, e = .returned (.tuple #[.slice A n c, .int .i64 (a.i : Int), .int .i64 (a.e : Int)]) ∧ a.l.length = n ∧ n ≤ c ∧ c ≤ maxLen ∧ Toks w' A a.l ∧ a.l.length ≤ s.length ∧ Below W.heap.size W w') := Lib.hid (fun A len cap W h1 h2 h3 => by
      refine (rscan_any A len cap s W h1 h2 h3).mono ?_
      intro e w' h
      have := h.ans
      rw [ha] at this
      exact this)
    have H1 := Lib.hid (roomy_any A len cap s w hlen hA (by omega))
    have HA := Lib.hid hA
    have HL := Lib.hid hlen
    have HT := Lib.hid hT
    have hll : len ≤ 65536 := by omega
    have hei : ((a.i : Int) == (a.i : Int)) = true := by simp
    have hee : ((a.e : Int) == (a.e : Int)) = true := by simp
    obtain ⟨ai, hai⟩ : ∃ ai, a.i = ai := ⟨_, rfl⟩
    obtain ⟨ae, hae⟩ : ∃ ae, a.e = ae := ⟨_, rfl⟩
    rw [hai] at HSC HRS hei
    rw [hae] at HSC HRS hee
    clear hA hlen hT ha hbig hai hae
    go_enter Tryd.func3, Tryd.ntmps3
    go_wp2_with fail
    refine H1.out.mono ?_
    rintro e w1 ⟨g, rfl, hg, hR, hb1⟩
    have hbi : Bytes w1 (some ⟨g, 0, none⟩) s := fun k c hk => hR.bytes k c (by rw [List.getElem?_append_left (List.getElem?_eq_some_iff.1 hk).1]; exact hk)
    have H2 := Lib.hid (HSC.out (some ⟨g, 0, none⟩) len (len + 6) w1 HL.out hbi (by unfold maxLen; omega) hb1)
    have HR := Lib.hid hR
    have HB := Lib.hid hb1
    clear hg hR hb1 hbi H1
    go_wp2_with fail
    refine H2.out.mono ?_
    rintro e w2 ⟨A1, n, c1, rfl, hn, hc1, _, hk1, hln, hb2⟩
    have HB := Lib.hid (HB.out.trans (hb2.mono HB.out.size))
    have HR := Lib.hid (HR.out.below hb2)
    have HK := Lib.hid hk1
    have HN := Lib.hid hn
    have hnb : n ≤ 65536 := by have := HL.out; omega
    have H2 := Lib.hid (HRS.out A len cap w2 HL.out (HA.out.below HB.out) (by unfold maxLen; omega))
    clear hb2 hk1 hn hln hc1
    go_wp2_with fail
    refine H2.out.mono ?_
    rintro e w3 ⟨A2, n', c2, rfl, hn', hc2, _, hk2, hln, hb3⟩
    obtain rfl : n = n' := HN.out.symm.trans hn'
    have HB := Lib.hid (HB.out.trans (hb3.mono HB.out.size))
    have HR := Lib.hid (HR.out.below hb3)
    have H3 := Lib.hid (same_any A1 A2 n c1 c2 a.l w3 HN.out (HK.out.below hb3) hk2 (by omega))
    clear hb3 hk2 hn' hln hc2 H2
    go_wp2_with fail
    refine H3.out.mono ?_
    rintro e w4 ⟨rfl, hb4⟩
    have HB := Lib.hid (HB.out.trans (hb4.mono HB.out.size))
    have HR := Lib.hid (HR.out.below hb4)
    have H4 := Lib.hid (kept_any g len A cap s w4 HL.out HR.out (HA.out.below HB.out) (by omega) (by omega))
    clear hb4 H3
    go_wp2_with fail
    refine H4.out.mono ?_
    rintro e w5 ⟨rfl, hb5⟩
    have HB := Lib.hid (HB.out.trans (hb5.mono HB.out.size))
    have H5 := Lib.hid (works_any w5 (HT.out.below HB.out))
    clear hb5 H4
    go_wp2_with fail
    refine H5.out.mono ?_
    rintro e w6 ⟨rfl, hb6⟩
    have HB := Lib.hid (HB.out.trans (hb6.mono HB.out.size))
    clear hb6
    go_wp2_with fail
    go_ret
    exact ⟨rfl, HB.out⟩
end Go.Proofs.YtdnmdccjecoojaaDoor
