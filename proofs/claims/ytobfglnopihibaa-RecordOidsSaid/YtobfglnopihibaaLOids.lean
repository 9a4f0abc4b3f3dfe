/- RecordOids. -/
import Derived.Test.YtobfglnopihibaaY
import Derived.Test.YtobfglnopihibaaP
namespace Go.Proofs.Ytobfglnopihibaa
open Go.RowKit Rcd

set_option maxRecDepth 20000 in
set_option maxHeartbeats 4000000 in
theorem oidslaw (k : UInt8) (tag : Int) (A : Option Addr) (n c : Nat) (t : List UInt8) (ws : List Wd) (w : World) (h : OArg w k tag A n c t ws) :
    Calls Try.prog 5 #[.agg #[bv k, .int .i64 tag, .slice A n c, .string (str t)]] w fun e w' => e = .returned (.bool true) ∧ Below w.heap.size w w' := by
  obtain ⟨hn, hc, hm, hA, htg⟩ := h
  have HN := Lib.hid hn
  have HCM := Lib.hid (And.intro hc hm)
  obtain ⟨kn, hkn⟩ : ∃ kn, k.toNat = kn := ⟨_, rfl⟩
  have HKN := Lib.hid hkn
  have hbv : bv k = .int .u8 (kn : Int) := by rw [← hkn]; rfl
  have HBV := Lib.hid hbv
  obtain ⟨tl, htl⟩ : ∃ tl, t.length = tl := ⟨_, rfl⟩
  have HTL := Lib.hid htl
  rw [hbv]
  obtain ⟨w0, hw0⟩ : ∃ w0, w.alloc (.cells #[.int .u8 (kn : Int), .int .i64 tag, .slice A n c, .string (str t)] 24) = w0 := ⟨_, rfl⟩
  have hB0 : Blk w0 w.heap.size 24 #[.int .u8 (kn : Int), .int .i64 tag, .slice A n c, .string (str t)] := by rw [← hw0]; exact Blk.new _ _ _
  have hb0 : Below w.heap.size w w0 := by rw [← hw0]; exact (Below.refl _ _).alloc (Nat.le_refl _) _
  have HQ : Hid (∀ W, Below w0.heap.size w0 W → Words W A ws ∧ W.cell? ⟨w.heap.size, 0, none⟩ = some (.int .u8 (kn : Int)) ∧ W.cell? ⟨w.heap.size, 1, none⟩ = some (.int .i64 tag) ∧ W.cell? ⟨w.heap.size, 2, none⟩ = some (.slice A n c) ∧ W.cell? ⟨w.heap.size, 3, none⟩ = some (.string (str t))) := Lib.hid (fun W hW =>
    ⟨(hA.below hb0).below hW, (hW.cell (p := ⟨w.heap.size, 0, none⟩) hB0.lt).trans (hB0.cell 0), (hW.cell (p := ⟨w.heap.size, 1, none⟩) hB0.lt).trans (hB0.cell 1), (hW.cell (p := ⟨w.heap.size, 2, none⟩) hB0.lt).trans (hB0.cell 2), (hW.cell (p := ⟨w.heap.size, 3, none⟩) hB0.lt).trans (hB0.cell 3)⟩)
  have hlg := large_any k tag A n c t w0 tl htl
  rw [hbv] at hlg
  have HB0 := Lib.hid hb0
  have HA := Lib.hid hA
  clear hB0 hb0 hA hn hc hm hkn hbv htl
  obtain ⟨_, c0, c1, c2, c3⟩ := HQ.out w0 (Below.refl _ _)
  go_enter Try.func5, Try.ntmps5
  by_cases hbig : 2048 < n ∨ 32768 < tl
  · have hv : (decide (2048 < n) || decide (32768 < tl)) = true := by simpa using hbig
    rw [hv] at hlg
    have HLG := Lib.hid hlg
    clear hlg hv
    go_wp2_with fail
    refine HLG.out.mono ?_
    rintro e w1 ⟨rfl, hb1⟩
    have HB1 := Lib.hid (HB0.out.trans (hb1.mono HB0.out.size))
    have HW := Lib.hid (works_any w1)
    clear hb1 HLG c0 c1 c2 c3
    go_wp2_with fail
    refine HW.out.mono ?_
    rintro e w2 ⟨rfl, hb2⟩
    have HB2 := Lib.hid (HB1.out.trans (hb2.mono HB1.out.size))
    clear hb2
    go_wp2_with fail
    go_ret
    exact ⟨rfl, HB2.out⟩
  have hv : (decide (2048 < n) || decide (32768 < tl)) = false := by simpa using hbig
  rw [hv] at hlg
  have HLG := Lib.hid hlg
  have hn2 : n ≤ 2048 := by omega
  have ht3 : tl ≤ 32768 := by omega
  clear hlg hv hbig
  go_wp2_with fail
  refine HLG.out.mono ?_
  rintro e w1 ⟨rfl, hb1⟩
  have HB1 : Hid (Below w0.heap.size w0 w1) := Lib.hid hb1
  clear hb1 HLG c0 c1 c2 c3
  obtain ⟨hw1, c0, c1, c2, c3⟩ := HQ.out w1 HB1.out
  have h2 := oids_any k tag A n c (str t) ws w1 HN.out hw1 (by omega)
  rw [HBV.out] at h2
  have H2 := Lib.hid h2
  clear h2 hw1
  go_wp2_with fail
  refine H2.out.mono ?_
  rintro e w2 ⟨lv, rfl, hi2, _, hb2⟩
  have HB2 : Hid (Below w0.heap.size w0 w2) := Lib.hid (HB1.out.trans (hb2.mono HB1.out.size))
  have HI2 := Lib.hid hi2
  clear hi2 hb2 H2 c0 c1 c2 c3
  obtain ⟨hw2, c0, c1, c2, c3⟩ := HQ.out w2 HB2.out
  have h3 := refoids_any k tag A n c (str t) ws w2 HN.out hw2 (by omega)
  rw [HBV.out] at h3
  have H3 := Lib.hid h3
  clear h3 hw2
  go_wp2_with fail
  refine H3.out.mono ?_
  rintro e w3 ⟨lm, rfl, hi3, _, hb3⟩
  have HB3 : Hid (Below w0.heap.size w0 w3) := Lib.hid (HB2.out.trans (hb3.mono HB2.out.size))
  have hi2 := HI2.out.same fun k hk => hb3.block k (HI2.out.lt k hk)
  have hzn : (oids ws).length ≤ 2048 := by have := oids_len ws; have := HN.out; omega
  obtain ⟨zs, hzs⟩ : ∃ zs, oids ws = zs := ⟨_, rfl⟩
  rw [hzs] at hi2 hi3 hzn
  obtain ⟨zl, hzl⟩ : ∃ zl, zs.length = zl := ⟨_, rfl⟩
  obtain ⟨Al, cl, hlv, _, _⟩ := hi2.shape
  obtain ⟨Am, cm, hlm, _, _⟩ := hi3.shape
  rw [hzl] at hlv hlm hzn
  subst hlv
  subst hlm
  have HI2' := Lib.hid hi2
  have HI3 := Lib.hid hi3
  have HZL := Lib.hid hzl
  have HEND := Lib.hid (fun q => works_any (w3.drewN q))
  clear hi2 hi3 hb3 H3 HI2 c0 c1 c2 c3 hzs hzl
  go_wp2_with fail
  go_loopw [5] (fun iv wr => ∃ i q : Nat, i ≤ zl ∧ iv = .int .i64 (i : Int) ∧ wr = w3.drewN q) (fun iv _ => zl - (intOf iv).toNat)
  case atStart => exact ⟨0, 0, Nat.zero_le _, rfl, rfl⟩
  case round =>
    obtain ⟨i, q, hi, rfl, rfl⟩ := hrel
    by_cases hlt : i < zl
    · have hd : decide ((i : Int) < (zl : Int)) = true := by simpa using hlt
      obtain ⟨z, hz⟩ : ∃ z, zs[i]? = some z := ⟨_, List.getElem?_eq_getElem (by rw [HZL.out]; exact hlt)⟩
      obtain ⟨g1, d1, e1, _, x1⟩ := HI2'.out.get i z hz
      obtain ⟨g2, d2, e2, _, x2⟩ := HI3.out.get i z hz
      rw [HZL.out] at e1 e2
      injection e1 with e1 f1 f2
      injection e2 with e2 f3 f4
      subst e1
      subst e2
      clear f1 f2 f3 f4
      clear hz
      go_wp2_with fail
      go_quiet (fail)
      go_wp2_with fail
      go_roundw
      case rel => exact ⟨i + 1, _, by omega, by go_num, rfl⟩
      case measure => simp [intOf]; omega
    · obtain rfl : zl = i := by omega
      have hd : decide ((zl : Int) < (zl : Int)) = false := by simp
      have HQ2 := Lib.hid (HEND.out q)
      have HB4 := Lib.hid (HB0.out.trans ((HB3.out.trans ((drewN_below w3 q).mono HB3.out.size)).mono HB0.out.size))
      clear HEND
      go_wp2_with fail
      refine HQ2.out.mono ?_
      rintro e w5 ⟨rfl, hb5⟩
      have HB5 := Lib.hid (HB4.out.trans (hb5.mono HB4.out.size))
      clear hb5
      go_wp2_with fail
      go_ret
      exact ⟨rfl, HB5.out⟩
end Go.Proofs.Ytobfglnopihibaa
