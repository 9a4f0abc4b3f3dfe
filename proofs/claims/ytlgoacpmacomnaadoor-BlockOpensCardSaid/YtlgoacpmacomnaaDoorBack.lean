/- BlockBack. -/
import Derived.Test.YtlgoacpmacomnaaDoorLengths
namespace Go.Proofs.YtlgoacpmacomnaaDoor
open Go.RowKit Crc

theorem row_cap {k : IntKind} {w : World} {a : Option Addr} {len cap : Nat} {zs : List Int} (h : IsRow k w a len cap zs) : len ≤ cap ∧ cap ≤ 9223372036854775807 := by
  rcases h with ⟨rfl, rfl, rfl, rfl⟩ | ⟨x, rfl, hl, hm, _⟩
  · exact ⟨Nat.le_refl _, Nat.zero_le _⟩
  · exact ⟨hl, by unfold maxLen at hm; omega⟩

set_option maxRecDepth 20000 in
set_option maxHeartbeats 2000000 in
theorem back_any (k : Nat) (A A2 : Option Addr) (len cap len2 cap2 : Nat) (bs bs2 : List UInt8) (w : World) (hk : k < 256) (hlen : bs.length = len) (hA : Bytes w A bs) (hcap : len ≤ cap ∧ cap ≤ 9223372036854775807) (hlen2 : bs2.length = len2) (hA2 : Bytes w A2 bs2) (hcap2 : len2 ≤ cap2) (hcm2 : cap2 ≤ 9223372036854775807) (hT : Tab w) :
    Calls Tryd.prog 5 #[.int .u8 (k : Int), .slice A len cap, .slice A2 len2 cap2] w fun e W' => e = .returned (.bool true) ∧ Below w.heap.size w W' := by
  have HW := Lib.hid (works_any w hT)
  by_cases hbig : 4096 < len
  · have hd : decide ((4096 : Int) < (len : Int)) = true := by simp; omega
    clear hA hA2 hT
    go_enter Tryd.func5, Tryd.ntmps5
    go_wp2_with fail
    refine HW.out.mono ?_
    rintro e w' ⟨rfl, hb⟩
    have HB := Lib.hid hb
    clear hb
    go_wp2_with fail
    go_ret
    exact ⟨rfl, HB.out⟩
  have hd : decide ((4096 : Int) < (len : Int)) = false := by simp; omega
  by_cases hbig2 : 4096 < len2
  · have hd2 : decide ((4096 : Int) < (len2 : Int)) = true := by simp; omega
    clear hA hA2 hT
    go_enter Tryd.func5, Tryd.ntmps5
    go_wp2_with fail
    refine HW.out.mono ?_
    rintro e w' ⟨rfl, hb⟩
    have HB := Lib.hid hb
    clear hb
    go_wp2_with fail
    go_ret
    exact ⟨rfl, HB.out⟩
  have hd2 : decide ((4096 : Int) < (len2 : Int)) = false := by simp; omega
  have HA2 := Lib.hid hA2
  have HL2 := Lib.hid hlen2
  have HT := Lib.hid hT
  by_cases hno : k = 0 ∨ 248 < len
  · have H1 := Lib.hid (seal_no k A len cap w hk hno)
    have HBX := Lib.hid (Below.refl w.heap.size w)
    clear hA hA2 hT hlen hlen2 HW
    by_cases hk0 : k = 0
    · subst hk0
      clear hno
      go_enter Tryd.func5, Tryd.ntmps5
      go_wp2_with (go_at_call 11; refine H1.out.mono ?_; rintro e w' ⟨rfl, rfl⟩; clear H1)
      rcases Classical.em (∃ k' body', IsBlk bs2 k' body') with hblk | hblk
      · obtain ⟨k', body', hblk⟩ := hblk
        obtain ⟨hk1, hk2, hbl, hbe⟩ := hblk
        have H4 := Lib.hid (open_yes A2 len2 cap2 k' bs2 body' w HL2.out (HA2.out.below HBX.out) hcap2 (HT.out.below HBX.out) ⟨hk1, hk2, hbl, hbe⟩)
        have hk0' : k' ≠ 0 := by omega
        have hl256 : len2 = 256 := by rw [← HL2.out, hbe, blockOf_length k' body' hbl]
        have HBE := Lib.hid hbe
        have HL6 := Lib.hid hl256
        clear hbe hl256
        go_wp2_with fail
        refine H4.out.mono ?_
        rintro e w5 ⟨g5, rfl, hg5, hR5, hb5⟩
        have hB5 := HBX.out.trans (hb5.mono HBX.out.size)
        have H5 := Lib.hid (seal_yes k' (some ⟨g5, 0, none⟩) body'.length body'.length body' w5 hk2 hk0' rfl hbl (Bytes.row hR5) (HT.out.below hB5))
        have HB5 := Lib.hid hB5
        clear H4 hg5 hR5 hb5 hB5 hk1 hk2 hbl hk0'
        go_wp2_with fail
        refine H5.out.mono ?_
        rintro e w6 ⟨g6, rfl, hg6, hR6, hb6⟩
        have hB6 := HB5.out.trans (hb6.mono HB5.out.size)
        rw [← HBE.out] at hR6
        have H6 := Lib.hid (eq_any (some ⟨g6, 0, none⟩) A2 256 256 len2 cap2 bs2 bs2 w6 (by rw [HL2.out, HL6.out]) HL2.out (Bytes.row hR6) (HA2.out.below hB6) (by decide) ⟨hcap2, hcm2, by omega⟩)
        rw [decide_eq_true (rfl : bs2 = bs2)] at H6
        have HB6 := Lib.hid hB6
        clear H5 hg6 hR6 hb6 hB6
        go_wp2_with fail
        refine H6.out.mono ?_
        rintro e w7 ⟨rfl, hb7⟩
        have hB7 := HB6.out.trans (hb7.mono HB6.out.size)
        have H7 := Lib.hid (works_any w7 (HT.out.below hB7))
        have HB7 := Lib.hid hB7
        clear H6 hb7 hB7
        go_wp2_with fail
        refine H7.out.mono ?_
        rintro e w8 ⟨rfl, hb8⟩
        have HB8 := Lib.hid (HB7.out.trans (hb8.mono HB7.out.size))
        clear H7 hb8
        go_wp2_with fail
        go_ret
        exact ⟨rfl, HB8.out⟩
      · have H4 := Lib.hid (open_no A2 len2 cap2 bs2 w HL2.out (HA2.out.below HBX.out) hcap2 (HT.out.below HBX.out) (fun k body h => hblk ⟨k, body, h⟩))
        clear hblk
        go_wp2_with fail
        refine H4.out.mono ?_
        rintro e w5 ⟨rfl, hb5⟩
        have hB5 := HBX.out.trans (hb5.mono HBX.out.size)
        have H5 := Lib.hid (works_any w5 (HT.out.below hB5))
        have HB5 := Lib.hid hB5
        clear H4 hb5 hB5
        go_wp2_with fail
        refine H5.out.mono ?_
        rintro e w6 ⟨rfl, hb6⟩
        have HB6 := Lib.hid (HB5.out.trans (hb6.mono HB5.out.size))
        clear H5 hb6
        go_wp2_with fail
        go_ret
        exact ⟨rfl, HB6.out⟩
    · have hk0' : ((k : Int) == 0) = false := by simpa using hk0
      have hk1' : ((k : Int) != 0) = true := by simp; omega
      have h248 : 248 < len := by omega
      have hd3 : decide ((len : Int) ≤ (248 : Int)) = false := by simp; omega
      clear hno
      go_enter Tryd.func5, Tryd.ntmps5
      go_wp2_with (go_at_call 11; refine H1.out.mono ?_; rintro e w' ⟨rfl, rfl⟩; clear H1)
      rcases Classical.em (∃ k' body', IsBlk bs2 k' body') with hblk | hblk
      · obtain ⟨k', body', hblk⟩ := hblk
        obtain ⟨hk1, hk2, hbl, hbe⟩ := hblk
        have H4 := Lib.hid (open_yes A2 len2 cap2 k' bs2 body' w HL2.out (HA2.out.below HBX.out) hcap2 (HT.out.below HBX.out) ⟨hk1, hk2, hbl, hbe⟩)
        have hk0' : k' ≠ 0 := by omega
        have hl256 : len2 = 256 := by rw [← HL2.out, hbe, blockOf_length k' body' hbl]
        have HBE := Lib.hid hbe
        have HL6 := Lib.hid hl256
        clear hbe hl256
        go_wp2_with fail
        refine H4.out.mono ?_
        rintro e w5 ⟨g5, rfl, hg5, hR5, hb5⟩
        have hB5 := HBX.out.trans (hb5.mono HBX.out.size)
        have H5 := Lib.hid (seal_yes k' (some ⟨g5, 0, none⟩) body'.length body'.length body' w5 hk2 hk0' rfl hbl (Bytes.row hR5) (HT.out.below hB5))
        have HB5 := Lib.hid hB5
        clear H4 hg5 hR5 hb5 hB5 hk1 hk2 hbl hk0'
        go_wp2_with fail
        refine H5.out.mono ?_
        rintro e w6 ⟨g6, rfl, hg6, hR6, hb6⟩
        have hB6 := HB5.out.trans (hb6.mono HB5.out.size)
        rw [← HBE.out] at hR6
        have H6 := Lib.hid (eq_any (some ⟨g6, 0, none⟩) A2 256 256 len2 cap2 bs2 bs2 w6 (by rw [HL2.out, HL6.out]) HL2.out (Bytes.row hR6) (HA2.out.below hB6) (by decide) ⟨hcap2, hcm2, by omega⟩)
        rw [decide_eq_true (rfl : bs2 = bs2)] at H6
        have HB6 := Lib.hid hB6
        clear H5 hg6 hR6 hb6 hB6
        go_wp2_with fail
        refine H6.out.mono ?_
        rintro e w7 ⟨rfl, hb7⟩
        have hB7 := HB6.out.trans (hb7.mono HB6.out.size)
        have H7 := Lib.hid (works_any w7 (HT.out.below hB7))
        have HB7 := Lib.hid hB7
        clear H6 hb7 hB7
        go_wp2_with fail
        refine H7.out.mono ?_
        rintro e w8 ⟨rfl, hb8⟩
        have HB8 := Lib.hid (HB7.out.trans (hb8.mono HB7.out.size))
        clear H7 hb8
        go_wp2_with fail
        go_ret
        exact ⟨rfl, HB8.out⟩
      · have H4 := Lib.hid (open_no A2 len2 cap2 bs2 w HL2.out (HA2.out.below HBX.out) hcap2 (HT.out.below HBX.out) (fun k body h => hblk ⟨k, body, h⟩))
        clear hblk
        go_wp2_with fail
        refine H4.out.mono ?_
        rintro e w5 ⟨rfl, hb5⟩
        have hB5 := HBX.out.trans (hb5.mono HBX.out.size)
        have H5 := Lib.hid (works_any w5 (HT.out.below hB5))
        have HB5 := Lib.hid hB5
        clear H4 hb5 hB5
        go_wp2_with fail
        refine H5.out.mono ?_
        rintro e w6 ⟨rfl, hb6⟩
        have HB6 := Lib.hid (HB5.out.trans (hb6.mono HB5.out.size))
        clear H5 hb6
        go_wp2_with fail
        go_ret
        exact ⟨rfl, HB6.out⟩
  · have hk0 : k ≠ 0 := by omega
    have h248 : len ≤ 248 := by omega
    have hk1' : ((k : Int) != 0) = true := by simp; omega
    have hd3 : decide ((len : Int) ≤ (248 : Int)) = true := by simp; omega
    have H1 := Lib.hid (seal_yes k A len cap bs w hk hk0 hlen h248 hA hT)
    have HA := Lib.hid hA
    have HL := Lib.hid hlen
    have HBK : Hid (IsBlk (blockOf k bs) k bs) := Lib.hid ⟨by omega, hk, by omega, rfl⟩
    have HLN : Hid ((blockOf k bs).length = 256) := Lib.hid (blockOf_length k bs (by omega))
    clear hA hA2 hT hlen hlen2 HW hno
    go_enter Tryd.func5, Tryd.ntmps5
    go_wp2_with fail
    refine H1.out.mono ?_
    rintro e w1 ⟨g, rfl, hg, hR, hb1⟩
    have HB1 := Lib.hid hb1
    have H2 := Lib.hid (open_yes (some ⟨g, 0, none⟩) 256 256 k (blockOf k bs) bs w1 HLN.out (Bytes.row hR) (Nat.le_refl _) (HT.out.below hb1) HBK.out)
    clear H1 hg hR hb1
    go_wp2_with fail
    refine H2.out.mono ?_
    rintro e w2 ⟨g2, rfl, hg2, hR2, hb2⟩
    have hB2 := HB1.out.trans (hb2.mono HB1.out.size)
    have h3 := eq_any (some ⟨g2, 0, none⟩) A bs.length bs.length len cap bs bs w2 rfl HL.out (Bytes.row hR2) (HA.out.below hB2) (by have := HL.out; omega) ⟨hcap.1, hcap.2, by omega⟩
    rw [decide_eq_true (rfl : bs = bs)] at h3
    have H3 := Lib.hid h3
    have HB2 := Lib.hid hB2
    clear H2 hg2 hR2 hb2 hB2 h3
    go_wp2_with fail
    refine H3.out.mono ?_
    rintro e w3 ⟨rfl, hb3⟩
    have HBX := Lib.hid (HB2.out.trans (hb3.mono HB2.out.size))
    clear H3 hb3
    go_wp2_with fail
    rcases Classical.em (∃ k' body', IsBlk bs2 k' body') with hblk | hblk
    · obtain ⟨k', body', hblk⟩ := hblk
      obtain ⟨hk1, hk2, hbl, hbe⟩ := hblk
      have H4 := Lib.hid (open_yes A2 len2 cap2 k' bs2 body' w3 HL2.out (HA2.out.below HBX.out) hcap2 (HT.out.below HBX.out) ⟨hk1, hk2, hbl, hbe⟩)
      have hk0' : k' ≠ 0 := by omega
      have hl256 : len2 = 256 := by rw [← HL2.out, hbe, blockOf_length k' body' hbl]
      have HBE := Lib.hid hbe
      have HL6 := Lib.hid hl256
      clear hbe hl256
      go_wp2_with fail
      refine H4.out.mono ?_
      rintro e w5 ⟨g5, rfl, hg5, hR5, hb5⟩
      have hB5 := HBX.out.trans (hb5.mono HBX.out.size)
      have H5 := Lib.hid (seal_yes k' (some ⟨g5, 0, none⟩) body'.length body'.length body' w5 hk2 hk0' rfl hbl (Bytes.row hR5) (HT.out.below hB5))
      have HB5 := Lib.hid hB5
      clear H4 hg5 hR5 hb5 hB5 hk1 hk2 hbl hk0'
      go_wp2_with fail
      refine H5.out.mono ?_
      rintro e w6 ⟨g6, rfl, hg6, hR6, hb6⟩
      have hB6 := HB5.out.trans (hb6.mono HB5.out.size)
      rw [← HBE.out] at hR6
      have H6 := Lib.hid (eq_any (some ⟨g6, 0, none⟩) A2 256 256 len2 cap2 bs2 bs2 w6 (by rw [HL2.out, HL6.out]) HL2.out (Bytes.row hR6) (HA2.out.below hB6) (by decide) ⟨hcap2, hcm2, by omega⟩)
      rw [decide_eq_true (rfl : bs2 = bs2)] at H6
      have HB6 := Lib.hid hB6
      clear H5 hg6 hR6 hb6 hB6
      go_wp2_with fail
      refine H6.out.mono ?_
      rintro e w7 ⟨rfl, hb7⟩
      have hB7 := HB6.out.trans (hb7.mono HB6.out.size)
      have H7 := Lib.hid (works_any w7 (HT.out.below hB7))
      have HB7 := Lib.hid hB7
      clear H6 hb7 hB7
      go_wp2_with fail
      refine H7.out.mono ?_
      rintro e w8 ⟨rfl, hb8⟩
      have HB8 := Lib.hid (HB7.out.trans (hb8.mono HB7.out.size))
      clear H7 hb8
      go_wp2_with fail
      go_ret
      exact ⟨rfl, HB8.out⟩
    · have H4 := Lib.hid (open_no A2 len2 cap2 bs2 w3 HL2.out (HA2.out.below HBX.out) hcap2 (HT.out.below HBX.out) (fun k body h => hblk ⟨k, body, h⟩))
      clear hblk
      go_wp2_with fail
      refine H4.out.mono ?_
      rintro e w5 ⟨rfl, hb5⟩
      have hB5 := HBX.out.trans (hb5.mono HBX.out.size)
      have H5 := Lib.hid (works_any w5 (HT.out.below hB5))
      have HB5 := Lib.hid hB5
      clear H4 hb5 hB5
      go_wp2_with fail
      refine H5.out.mono ?_
      rintro e w6 ⟨rfl, hb6⟩
      have HB6 := Lib.hid (HB5.out.trans (hb6.mono HB5.out.size))
      clear H5 hb6
      go_wp2_with fail
      go_ret
      exact ⟨rfl, HB6.out⟩
end Go.Proofs.YtlgoacpmacomnaaDoor
