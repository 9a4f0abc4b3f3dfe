/- RecordBack. -/
import Derived.Test.YtobfglnopihibaaAn
namespace Go.Proofs.Ytobfglnopihibaa
open Go.RowKit Rcd

set_option maxRecDepth 20000 in
set_option maxHeartbeats 4000000 in
theorem backlaw (k : UInt8) (tag : Int) (A : Option Addr) (n c : Nat) (t : List UInt8) (ws : List Wd) (B : Option Addr) (lb cb : Nat) (b : List UInt8) (w : World) (h : OArg w k tag A n c t ws) (hlb : b.length = lb) (hBb : Bytes w B b) (hcb : lb ≤ cb) (hcmb : cb ≤ maxLen) :
    Calls Try.prog 6 #[.agg #[bv k, .int .i64 tag, .slice A n c, .string (str t)], .slice B lb cb] w fun e w' => e = .returned (.bool true) ∧ Below w.heap.size w w' := by
  obtain ⟨hn, hc, hm, hA, htg⟩ := h
  have HN := Lib.hid hn
  have HLB := Lib.hid hlb
  have HBB := Lib.hid hBb
  have HCB := Lib.hid (And.intro hcb hcmb)
  unfold maxLen at hcmb
  clear hlb hBb
  have HCM := Lib.hid (And.intro hc hm)
  obtain ⟨kn, hkn⟩ : ∃ kn, k.toNat = kn := ⟨_, rfl⟩
  have HKN := Lib.hid hkn
  have hbv : bv k = .int .u8 (kn : Int) := by rw [← hkn]; rfl
  have HBV := Lib.hid hbv
  obtain ⟨tl, htl⟩ : ∃ tl, t.length = tl := ⟨_, rfl⟩
  have HTL := Lib.hid htl
  rw [hbv]
  obtain ⟨w0, hw0⟩ : ∃ w0, w.alloc (.cells #[.int .u8 (kn : Int), .int .i64 tag, .slice A n c, .string (str t)] 24) = w0 := ⟨_, rfl⟩
  have hB0 : Blk w0 w.heap.size 24 #[.int .u8 (kn : Int), .int .i64 tag, .slice A n c, .string (str t)] := by rw [← hw0]; exact Blk.new _ _ _
  have hb0 : Below w.heap.size w w0 := by rw [← hw0]; exact (Below.refl _ _).alloc (Nat.le_refl _) _
  have HQ : Hid (∀ W, Below w0.heap.size w0 W → Words W A ws ∧ W.cell? ⟨w.heap.size, 0, none⟩ = some (.int .u8 (kn : Int)) ∧ W.cell? ⟨w.heap.size, 1, none⟩ = some (.int .i64 tag) ∧ W.cell? ⟨w.heap.size, 2, none⟩ = some (.slice A n c) ∧ W.cell? ⟨w.heap.size, 3, none⟩ = some (.string (str t))) := Lib.hid (fun W hW =>
    ⟨(hA.below hb0).below hW, (hW.cell (p := ⟨w.heap.size, 0, none⟩) hB0.lt).trans (hB0.cell 0), (hW.cell (p := ⟨w.heap.size, 1, none⟩) hB0.lt).trans (hB0.cell 1), (hW.cell (p := ⟨w.heap.size, 2, none⟩) hB0.lt).trans (hB0.cell 2), (hW.cell (p := ⟨w.heap.size, 3, none⟩) hB0.lt).trans (hB0.cell 3)⟩)
  have hlg := large_any k tag A n c t w0 tl htl
  rw [hbv] at hlg
  have HB0 := Lib.hid hb0
  have HA := Lib.hid hA
  clear hB0 hb0 hA hn hc hm hkn hbv htl
  obtain ⟨_, c0, c1, c2, c3⟩ := HQ.out w0 (Below.refl _ _)
  go_enter Try.func6, Try.ntmps6
  by_cases hbig : 2048 < n ∨ 32768 < tl
  · have hv : (decide (2048 < n) || decide (32768 < tl)) = true := by simpa using hbig
    rw [hv] at hlg
    have HLG := Lib.hid hlg
    clear hlg hv
    go_wp2_with fail
    refine HLG.out.mono ?_
    rintro e w1 ⟨rfl, hb1⟩
    have HB1 := Lib.hid (HB0.out.trans (hb1.mono HB0.out.size))
    have HW := Lib.hid (works_any w1)
    clear hb1 HLG c0 c1 c2 c3
    go_wp2_with fail
    refine HW.out.mono ?_
    rintro e w2 ⟨rfl, hb2⟩
    have HB2 := Lib.hid (HB1.out.trans (hb2.mono HB1.out.size))
    clear hb2
    go_wp2_with fail
    go_ret
    exact ⟨rfl, HB2.out⟩
  have hv : (decide (2048 < n) || decide (32768 < tl)) = false := by simpa using hbig
  rw [hv] at hlg
  have HLG := Lib.hid hlg
  have hn2 : n ≤ 2048 := by omega
  have ht3 : tl ≤ 32768 := by omega
  clear hlg hv hbig
  go_wp2_with fail
  refine HLG.out.mono ?_
  rintro e w1 ⟨rfl, hb1⟩
  have HB1 : Hid (Below w0.heap.size w0 w1) := Lib.hid hb1
  clear hb1 HLG c0 c1 c2 c3
  by_cases hlb2 : 16384 < lb
  · have hd : decide ((16384 : Int) < (lb : Int)) = true := by simp; omega
    have HW := Lib.hid (works_any w1)
    go_wp2_with fail
    refine HW.out.mono ?_
    rintro e wz ⟨rfl, hbz⟩
    have HBZ := Lib.hid (HB0.out.trans ((HB1.out.trans (hbz.mono HB1.out.size)).mono HB0.out.size))
    clear hbz
    go_wp2_with fail
    go_ret
    exact ⟨rfl, HBZ.out⟩
  have hd : decide ((16384 : Int) < (lb : Int)) = false := by simp; omega
  obtain ⟨hw1, c0, c1, c2, c3⟩ := HQ.out w1 HB1.out
  obtain ⟨X, hX⟩ : ∃ X, writeX ⟨k, tag, ws, t⟩ = X := ⟨_, rfl⟩
  obtain ⟨E, hE⟩ : ∃ E, writeE ⟨k, tag, ws, t⟩ = E := ⟨_, rfl⟩
  obtain ⟨xl, hxl⟩ : ∃ xl, X.length = xl := ⟨_, rfl⟩
  have hx1 : xl ≤ 8192 := by rw [← hxl, ← hX]; exact writeX_len _
  have h2 := (write_any k tag A n c t ws w1 HN.out hw1 (by omega) htg (by rw [HTL.out]; omega)).mono fun e w' h => h.ans
  rw [HBV.out, hX, hE, hxl] at h2
  have H2 := Lib.hid h2
  have HX : Hid (E = 0 → readO X = some ⟨k, tag, ws, t⟩ ∧ xl = 5 + 9 * n + tl) := Lib.hid (fun h0 => by
    rw [h0] at hE
    obtain ⟨hm0, hs0, hx0⟩ := writeE_ok hE
    have h1 := read_write hm0 hs0
    rw [← hx0, hX] at h1
    refine ⟨h1, ?_⟩
    rw [← hxl, ← hX, hx0, bytesO_len]
    unfold sizeO
    dsimp only
    rw [HN.out, HTL.out])
  have HX0 : Hid (E ≠ 0 → xl = 0) := Lib.hid (fun h0 => by rw [← hxl, ← hX, writeE_no (by rw [hE]; exact h0)]; rfl)
  have hts : (str t).size = tl := by rw [str_size]; exact HTL.out
  clear h2 hw1 hX hE hxl htg
  go_wp2_with fail
  refine H2.out.mono ?_
  rintro e w2 ⟨A2, d2, rfl, hq2, hb2⟩
  have HB2 : Hid (Below w0.heap.size w0 w2) := Lib.hid (HB1.out.trans (hb2.mono HB1.out.size))
  have HQ2 := Lib.hid hq2
  have hk2 := hq2.caps
  dsimp only at hk2
  clear hq2 hb2 H2 c0 c1 c2 c3
  go_upto_if 27 with fail
  go_cut [7, 8, 27] from 28 to 62 (fun p q r wx => Hid (Below w0.heap.size w0 wx))
  case first =>
    by_cases h0 : E = 0
    · obtain ⟨hrx, hxs⟩ := HX.out h0
      have he0 : (E == 0) = true := by simpa using h0
      have H3 := Lib.hid (read_any A2 xl d2 X w2 HQ2.out.long HQ2.out.bytes hk2.1 (by unfold maxLen; omega))
      have HRX := Lib.hid hrx
      have HXS := Lib.hid hxs
      clear hrx hxs h0
      go_wp2_with fail
      refine H3.out.mono ?_
      rintro e w3 (⟨h, _⟩ | ⟨o, v, h, rfl, ⟨A3, d3, rfl, _, _, hw3, _⟩, hb3⟩)
      · rw [HRX.out] at h; cases h
      obtain rfl : ⟨k, tag, ws, t⟩ = o := by rw [HRX.out] at h; exact Option.some.inj h
      dsimp only at hw3 ⊢
      rw [HBV.out, HN.out]
      have HB3 : Hid (Below w0.heap.size w0 w3) := Lib.hid (HB2.out.trans (hb3.mono HB2.out.size))
      have hbz : Below w3.heap.size w3 (w3.alloc (.cells #[.int .u8 (kn : Int), .int .i64 tag, .slice A3 n d3, .string (str t)] 24)) := (Below.refl _ _).alloc (Nat.le_refl _) _
      have HBz : Hid (Below w0.heap.size w0 (w3.alloc (.cells #[.int .u8 (kn : Int), .int .i64 tag, .slice A3 n d3, .string (str t)] 24))) := Lib.hid (HB3.out.trans (hbz.mono HB3.out.size))
      obtain ⟨hwz, c0, c1, c2, c3⟩ := HQ.out _ HBz.out
      have h4 := same_ok k tag A A3 n c d3 t ws _ HN.out hwz (hw3.below hbz) (by omega)
      rw [HBV.out] at h4
      have H4 := Lib.hid h4
      have hxs := HXS.out
      have q1 : ((xl : Int) != 5 + 9 * (n : Int) + (tl : Int)) = false := by simp; omega
      have q2 : decide ((8192 : Int) < (xl : Int)) = false := by simp; omega
      clear h4 hwz hbz hb3 hw3 h H3 hxs
      go_wp2_with fail
      refine H4.out.mono ?_
      rintro e w4 ⟨rfl, hb4⟩
      have HB4 : Hid (Below w0.heap.size w0 w4) := Lib.hid (HBz.out.trans (hb4.mono HBz.out.size))
      clear hb4 H4 c0 c1 c2 c3
      obtain ⟨_, c0, c1, c2, c3⟩ := HQ.out w4 HB4.out
      go_wp2_with fail
      go_meet
      exact HB4
    · have he0 : (E == 0) = false := by simpa using h0
      have hx0 := HX0.out h0
      have hq0 : ((xl : Int) != 0) = false := by simp; omega
      clear h0 hx0
      go_wp2_with fail
      go_meet
      exact HB2
  case rest =>
    obtain ⟨w5, rfl⟩ : ∃ w5, w5 = wc := ⟨_, rfl⟩
    have HB5 := hcut
    have H6 := Lib.hid (read_any B lb cb b w5 HLB.out (HBB.out.below (HB0.out.trans (HB5.out.mono HB0.out.size))) HCB.out.1 HCB.out.2)
    clear HX HX0 HQ2 hk2
    go_wp2_with fail
    refine H6.out.mono ?_
    rintro e w6 (⟨_, rfl, hb6⟩ | ⟨o, v, hr, rfl, ⟨A6, d6, rfl, hd1, hd2, hw6, _⟩, hb6⟩)
    · have HB6 : Hid (Below w0.heap.size w0 (w6.alloc (.cells #[.int .u8 0, .int .i64 0, .slice none 0 0, .string ⟨#[]⟩] 24))) := Lib.hid (by
        have h := HB5.out.trans (hb6.mono HB5.out.size)
        exact h.alloc h.size _)
      have H7 : Hid (Calls Try.prog 15 #[.agg #[.int .u8 0, .int .i64 0, .slice none 0 0, .string ⟨#[]⟩], .agg #[.int .u8 0, .int .i64 0, .slice none 0 0, .string ⟨#[]⟩]] (w6.alloc (.cells #[.int .u8 0, .int .i64 0, .slice none 0 0, .string ⟨#[]⟩] 24)) fun e w' => e = .returned (.bool true) ∧ Below (w6.alloc (.cells #[.int .u8 0, .int .i64 0, .slice none 0 0, .string ⟨#[]⟩] 24)).heap.size (w6.alloc (.cells #[.int .u8 0, .int .i64 0, .slice none 0 0, .string ⟨#[]⟩] 24)) w') :=
        Lib.hid (same_ok 0 0 none none 0 0 0 [] [] _ rfl (fun r x hx => by simp at hx) (fun r x hx => by simp at hx) (by omega))
      clear hb6 H6
      go_wp2_with fail
      refine H7.out.mono ?_
      rintro e w7 ⟨rfl, hb7⟩
      have HB7 : Hid (Below w0.heap.size w0 w7) := Lib.hid (HB6.out.trans (hb7.mono HB6.out.size))
      clear hb7 H7
      have HW := Lib.hid (works_any w7)
      go_wp2_with fail
      refine HW.out.mono ?_
      rintro e wz ⟨rfl, hbz⟩
      have HBZ := Lib.hid (HB0.out.trans ((HB7.out.trans (hbz.mono HB7.out.size)).mono HB0.out.size))
      clear hbz
      go_wp2_with fail
      go_ret
      exact ⟨rfl, HBZ.out⟩
    · obtain ⟨hm0, hs0, hby⟩ := write_read hr
      obtain ⟨ko, tago, wso, tt⟩ := o
      dsimp only at hd1 hw6 ⊢
      obtain ⟨⟨ht1, ht2⟩, _, _, _⟩ := may_facts hm0
      dsimp only at ht1 ht2
      obtain ⟨no, hno⟩ : ∃ no, wso.length = no := ⟨_, rfl⟩
      have hsz := hs0
      unfold sizeO at hsz
      dsimp only at hsz
      rw [hno] at hd1 hsz ⊢
      obtain ⟨ok, hok⟩ : ∃ ok, ko.toNat = ok := ⟨_, rfl⟩
      have hbo : bv ko = .int .u8 (ok : Int) := by rw [← hok]; rfl
      rw [hbo]
      have hbz : Below w6.heap.size w6 (w6.alloc (.cells #[.int .u8 (ok : Int), .int .i64 tago, .slice A6 no d6, .string (str tt)] 24)) := (Below.refl _ _).alloc (Nat.le_refl _) _
      have HB6 : Hid (Below w0.heap.size w0 (w6.alloc (.cells #[.int .u8 (ok : Int), .int .i64 tago, .slice A6 no d6, .string (str tt)] 24))) := Lib.hid (by
        have h := HB5.out.trans (hb6.mono HB5.out.size)
        exact h.trans (hbz.mono h.size))
      have h7 := write_any ko tago A6 no d6 tt wso _ hno (hw6.below hbz) (by omega) (by omega) (by omega)
      rw [hbo] at h7
      have H7 := Lib.hid h7
      have HW0 := Lib.hid (writeE_is hm0 hs0).1
      have HBY := Lib.hid hby
      have HSZ : Hid (sizeO ⟨ko, tago, wso, tt⟩ = lb) := Lib.hid (by rw [← bytesO_len, hby, HLB.out])
      clear h7 hbz hb6 hw6 hd1 hd2 hr hm0 hs0 hby hsz hno hok hbo ht1 ht2 H6
      go_wp2_with fail
      refine H7.out.mono ?_
      rintro e w7 (⟨h, _⟩ | ⟨g7, d7, _, rfl, hR7, _, hb7⟩)
      · exact absurd HW0.out h
      rw [HSZ.out] at hR7 ⊢
      rw [HBY.out] at hR7
      have HB7 : Hid (Below w0.heap.size w0 w7) := Lib.hid (HB6.out.trans (hb7.mono HB6.out.size))
      have hmx := hR7.max
      have h8 := eq_any B (some ⟨g7, 0, none⟩) lb cb lb d7 b b w7 HLB.out HLB.out (HBB.out.below (HB0.out.trans (HB7.out.mono HB0.out.size))) hR7.bytes ⟨hcb, hcmb, by omega⟩ ⟨hR7.le, by unfold maxLen at hmx; omega, by omega⟩
      rw [decide_eq_true (rfl : b = b)] at h8
      have H8 := Lib.hid h8
      clear h8 hR7 hb7 hmx H7 HW0
      go_wp2_with fail
      refine H8.out.mono ?_
      rintro e w8 ⟨rfl, hb8⟩
      have HB8 : Hid (Below w0.heap.size w0 w8) := Lib.hid (HB7.out.trans (hb8.mono HB7.out.size))
      clear hb8 H8
      have HW := Lib.hid (works_any w8)
      go_wp2_with fail
      refine HW.out.mono ?_
      rintro e wz ⟨rfl, hbz⟩
      have HBZ := Lib.hid (HB0.out.trans ((HB8.out.trans (hbz.mono HB8.out.size)).mono HB0.out.size))
      clear hbz
      go_wp2_with fail
      go_ret
      exact ⟨rfl, HBZ.out⟩
end Go.Proofs.Ytobfglnopihibaa
