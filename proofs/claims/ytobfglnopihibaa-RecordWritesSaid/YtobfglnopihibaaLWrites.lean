/- RecordWrites. -/
import Derived.Test.YtobfglnopihibaaAn
namespace Go.Proofs.Ytobfglnopihibaa
open Go.RowKit Rcd

set_option maxRecDepth 20000 in
set_option maxHeartbeats 4000000 in
theorem writeslaw (k : UInt8) (tag : Int) (A : Option Addr) (n c : Nat) (t : List UInt8) (ws : List Wd) (w : World) (h : OArg w k tag A n c t ws) :
    Calls Try.prog 3 #[.agg #[bv k, .int .i64 tag, .slice A n c, .string (str t)]] w fun e w' => e = .returned (.bool true) ∧ Below w.heap.size w w' := by
  obtain ⟨hn, hc, hm, hA, htg⟩ := h
  have HN := Lib.hid hn
  have HCM := Lib.hid (And.intro hc hm)
  obtain ⟨kn, hkn⟩ : ∃ kn, k.toNat = kn := ⟨_, rfl⟩
  have HKN := Lib.hid hkn
  have hbv : bv k = .int .u8 (kn : Int) := by rw [← hkn]; rfl
  have HBV := Lib.hid hbv
  obtain ⟨tl, htl⟩ : ∃ tl, t.length = tl := ⟨_, rfl⟩
  have HTL := Lib.hid htl
  rw [hbv]
  obtain ⟨w0, hw0⟩ : ∃ w0, w.alloc (.cells #[.int .u8 (kn : Int), .int .i64 tag, .slice A n c, .string (str t)] 24) = w0 := ⟨_, rfl⟩
  have hB0 : Blk w0 w.heap.size 24 #[.int .u8 (kn : Int), .int .i64 tag, .slice A n c, .string (str t)] := by rw [← hw0]; exact Blk.new _ _ _
  have hb0 : Below w.heap.size w w0 := by rw [← hw0]; exact (Below.refl _ _).alloc (Nat.le_refl _) _
  have HQ : Hid (∀ W, Below w0.heap.size w0 W → Words W A ws ∧ W.cell? ⟨w.heap.size, 0, none⟩ = some (.int .u8 (kn : Int)) ∧ W.cell? ⟨w.heap.size, 1, none⟩ = some (.int .i64 tag) ∧ W.cell? ⟨w.heap.size, 2, none⟩ = some (.slice A n c) ∧ W.cell? ⟨w.heap.size, 3, none⟩ = some (.string (str t))) := Lib.hid (fun W hW =>
    ⟨(hA.below hb0).below hW, (hW.cell (p := ⟨w.heap.size, 0, none⟩) hB0.lt).trans (hB0.cell 0), (hW.cell (p := ⟨w.heap.size, 1, none⟩) hB0.lt).trans (hB0.cell 1), (hW.cell (p := ⟨w.heap.size, 2, none⟩) hB0.lt).trans (hB0.cell 2), (hW.cell (p := ⟨w.heap.size, 3, none⟩) hB0.lt).trans (hB0.cell 3)⟩)
  have hlg := large_any k tag A n c t w0 tl htl
  rw [hbv] at hlg
  have HB0 := Lib.hid hb0
  have HA := Lib.hid hA
  clear hB0 hb0 hA hn hc hm hkn hbv htl
  obtain ⟨_, c0, c1, c2, c3⟩ := HQ.out w0 (Below.refl _ _)
  go_enter Try.func3, Try.ntmps3
  by_cases hbig : 2048 < n ∨ 32768 < tl
  · have hv : (decide (2048 < n) || decide (32768 < tl)) = true := by simpa using hbig
    rw [hv] at hlg
    have HLG := Lib.hid hlg
    clear hlg hv
    go_wp2_with fail
    refine HLG.out.mono ?_
    rintro e w1 ⟨rfl, hb1⟩
    have HB1 := Lib.hid (HB0.out.trans (hb1.mono HB0.out.size))
    have HW := Lib.hid (works_any w1)
    clear hb1 HLG c0 c1 c2 c3
    go_wp2_with fail
    refine HW.out.mono ?_
    rintro e w2 ⟨rfl, hb2⟩
    have HB2 := Lib.hid (HB1.out.trans (hb2.mono HB1.out.size))
    clear hb2
    go_wp2_with fail
    go_ret
    exact ⟨rfl, HB2.out⟩
  have hv : (decide (2048 < n) || decide (32768 < tl)) = false := by simpa using hbig
  rw [hv] at hlg
  have HLG := Lib.hid hlg
  have hn2 : n ≤ 2048 := by omega
  have ht3 : tl ≤ 32768 := by omega
  clear hlg hv hbig
  go_wp2_with fail
  refine HLG.out.mono ?_
  rintro e w1 ⟨rfl, hb1⟩
  have HB1 : Hid (Below w0.heap.size w0 w1) := Lib.hid hb1
  clear hb1 HLG c0 c1 c2 c3
  obtain ⟨hw1, c0, c1, c2, c3⟩ := HQ.out w1 HB1.out
  have h2 := copyobj_any k tag A n c t ws w1 HN.out hw1 (by omega)
  rw [HBV.out] at h2
  have H2 := Lib.hid h2
  clear h2 hw1
  go_wp2_with fail
  refine H2.out.mono ?_
  rintro e w2 ⟨_, rfl, ⟨A2, d2, rfl, hd1, hd2, hws2, _⟩, hb2⟩
  dsimp only at hd1 hws2 ⊢
  rw [HBV.out, HN.out]
  rw [HN.out] at hd1
  obtain ⟨w3, hw3⟩ : ∃ w3, w2.alloc (.cells #[.int .u8 (kn : Int), .int .i64 tag, .slice A2 n d2, .string (str t)] 24) = w3 := ⟨_, rfl⟩
  have hP3 : Blk w3 w2.heap.size 24 #[.int .u8 (kn : Int), .int .i64 tag, .slice A2 n d2, .string (str t)] := by rw [← hw3]; exact Blk.new _ _ _
  have hb23 : Below w2.heap.size w2 w3 := by rw [← hw3]; exact (Below.refl _ _).alloc (Nat.le_refl _) _
  have HB2 : Hid (Below w0.heap.size w0 w2) := Lib.hid (HB1.out.trans (hb2.mono HB1.out.size))
  have HB3 : Hid (Below w0.heap.size w0 w3) := Lib.hid (HB2.out.trans (hb23.mono HB2.out.size))
  have HP : Hid (∀ W, Below w3.heap.size w3 W → Words W A2 ws ∧ W.cell? ⟨w2.heap.size, 0, none⟩ = some (.int .u8 (kn : Int)) ∧ W.cell? ⟨w2.heap.size, 1, none⟩ = some (.int .i64 tag) ∧ W.cell? ⟨w2.heap.size, 2, none⟩ = some (.slice A2 n d2) ∧ W.cell? ⟨w2.heap.size, 3, none⟩ = some (.string (str t))) := Lib.hid (fun W hW =>
    ⟨(hws2.below hb23).below hW, (hW.cell (p := ⟨w2.heap.size, 0, none⟩) hP3.lt).trans (hP3.cell 0), (hW.cell (p := ⟨w2.heap.size, 1, none⟩) hP3.lt).trans (hP3.cell 1), (hW.cell (p := ⟨w2.heap.size, 2, none⟩) hP3.lt).trans (hP3.cell 2), (hW.cell (p := ⟨w2.heap.size, 3, none⟩) hP3.lt).trans (hP3.cell 3)⟩)
  have HW3 := Lib.hid hw3
  clear hw3 hP3 hb23 hb2 hws2 hd1 hd2 H2 c0 c1 c2 c3
  obtain ⟨X, hX⟩ : ∃ X, writeX ⟨k, tag, ws, t⟩ = X := ⟨_, rfl⟩
  obtain ⟨E, hE⟩ : ∃ E, writeE ⟨k, tag, ws, t⟩ = E := ⟨_, rfl⟩
  obtain ⟨xl, hxl⟩ : ∃ xl, X.length = xl := ⟨_, rfl⟩
  have hx1 : xl ≤ 8192 := by rw [← hxl, ← hX]; exact writeX_len _
  have HWR : Hid (∀ W, Words W A2 ws → Calls Try.prog 12 #[.agg #[.int .u8 (kn : Int), .int .i64 tag, .slice A2 n d2, .string (str t)]] W fun e w' => ∃ A c, e = .returned (.tuple #[.slice A xl c, .int .i64 E]) ∧ ItOk w' W.heap.size ⟨A, xl, c, X⟩ ∧ Below W.heap.size W w') := Lib.hid (fun W hW => by
    have := (write_any k tag A2 n d2 t ws W HN.out hW (by omega) htg (by rw [HTL.out]; omega)).mono fun e w' h => h.ans
    rwa [HBV.out, hX, hE, hxl] at this)
  have HRW : Hid (∀ W, Words W A ws → Calls Try.prog 13 #[.agg #[.int .u8 (kn : Int), .int .i64 tag, .slice A n c, .string (str t)]] W fun e w' => ∃ A c, e = .returned (.tuple #[.slice A xl c, .int .i64 E]) ∧ ItOk w' W.heap.size ⟨A, xl, c, X⟩ ∧ Below W.heap.size W w') := Lib.hid (fun W hW => by
    have := (refwrite_any k tag A n c t ws W HN.out hW (by omega) htg (by rw [HTL.out]; omega)).mono fun e w' h => h.ans
    rwa [HBV.out, hX, hE, hxl] at this)
  clear hX hE hxl htg
  go_upto_region 4 with fail
  rw [HW3.out]
  obtain ⟨hw3', p0, p1, p2, p3⟩ := HP.out w3 (Below.refl _ _)
  have H4 := Lib.hid (HWR.out w3 hw3')
  clear hw3'
  go_wp2_with fail
  refine H4.out.mono ?_
  rintro e w4 ⟨A4, c4, rfl, hq4, hb4⟩
  have HB34 : Hid (Below w3.heap.size w3 w4) := Lib.hid hb4
  have HB4 : Hid (Below w0.heap.size w0 w4) := Lib.hid (HB3.out.trans (hb4.mono HB3.out.size))
  have HQ4 := Lib.hid hq4
  clear hq4 hb4 H4 p0 p1 p2 p3
  obtain ⟨hw4, c0, c1, c2, c3⟩ := HQ.out w4 HB4.out
  have H5 := Lib.hid (HRW.out w4 hw4)
  clear hw4
  go_wp2_with fail
  refine H5.out.mono ?_
  rintro e w5 ⟨A5, c5, rfl, hq5, hb5⟩
  have HB35 : Hid (Below w3.heap.size w3 w5) := Lib.hid (HB34.out.trans (hb5.mono HB34.out.size))
  have HB5 : Hid (Below w0.heap.size w0 w5) := Lib.hid (HB4.out.trans (hb5.mono HB4.out.size))
  have HQ45 := Lib.hid (HQ4.out.below hb5)
  have hk4 := HQ45.out.caps
  have hk5 := hq5.caps
  have h6 := eq_any A4 A5 xl c4 xl c5 X X w5 HQ45.out.long hq5.long HQ45.out.bytes hq5.bytes ⟨hk4.1, hk4.2, by omega⟩ ⟨hk5.1, hk5.2, by omega⟩
  rw [decide_eq_true (rfl : X = X)] at h6
  have H6 := Lib.hid h6
  clear h6 hk4 hk5 hq5 hb5 H5 HQ4 c0 c1 c2 c3
  go_wp2_with fail
  refine H6.out.mono ?_
  rintro e w6 ⟨rfl, hb6⟩
  have HB36 : Hid (Below w3.heap.size w3 w6) := Lib.hid (HB35.out.trans (hb6.mono HB35.out.size))
  have HB6 : Hid (Below w0.heap.size w0 w6) := Lib.hid (HB5.out.trans (hb6.mono HB5.out.size))
  have HQ46 := Lib.hid (HQ45.out.below hb6)
  clear hb6 H6 HQ45
  obtain ⟨hwx, c0, c1, c2, c3⟩ := HQ.out w6 HB6.out
  obtain ⟨hwy, p0, p1, p2, p3⟩ := HP.out w6 HB36.out
  have h7 := same_ok k tag A2 A n d2 c t ws w6 HN.out hwy hwx (by omega)
  rw [HBV.out] at h7
  have H7 := Lib.hid h7
  clear h7 hwx hwy
  go_wp2_with fail
  refine H7.out.mono ?_
  rintro e w7 ⟨rfl, hb7⟩
  have HB37 : Hid (Below w3.heap.size w3 w7) := Lib.hid (HB36.out.trans (hb7.mono HB36.out.size))
  have HB7 : Hid (Below w0.heap.size w0 w7) := Lib.hid (HB6.out.trans (hb7.mono HB6.out.size))
  have HQ47 := Lib.hid (HQ46.out.below hb7)
  clear hb7 H7 HQ46 c0 c1 c2 c3 p0 p1 p2 p3
  obtain ⟨hwy, p0, p1, p2, p3⟩ := HP.out w7 HB37.out
  have H8 := Lib.hid (HWR.out w7 hwy)
  clear hwy
  go_wp2_with fail
  refine H8.out.mono ?_
  rintro e w8 ⟨A8, c8, rfl, hq8, hb8⟩
  have HB8 : Hid (Below w0.heap.size w0 w8) := Lib.hid (HB7.out.trans (hb8.mono HB7.out.size))
  have hq48 := HQ47.out.below hb8
  have hne : ∀ g, (⟨A4, xl, c4, X⟩ : Itm).home = some g → (⟨A8, xl, c8, X⟩ : Itm).home ≠ some g := fun g hg hg' => by
    have h1 := (HQ47.out.home_lt hg).1
    have h2 := (hq8.home_lt hg').2
    omega
  have H9 := Lib.hid (apartq ⟨A4, xl, c4, X⟩ ⟨A8, xl, c8, X⟩ w0.heap.size w8 (hq48.low HB3.out.size) (hq8.low HB7.out.size) hx1 hx1 hne HB8.out.size)
  clear hb8 hq8 hq48 hne H8 HQ47 p0 p1 p2 p3
  go_wp2_with fail
  refine H9.out.mono ?_
  rintro e w9 ⟨rfl, hb9⟩
  have HB9 : Hid (Below w0.heap.size w0 w9) := Lib.hid (HB8.out.trans hb9)
  have HW := Lib.hid (works_any w9)
  clear hb9 H9
  go_wp2_with fail
  refine HW.out.mono ?_
  rintro e w10 ⟨rfl, hb10⟩
  have HB10 := Lib.hid (HB0.out.trans ((HB9.out.trans (hb10.mono HB9.out.size)).mono HB0.out.size))
  clear hb10
  go_wp2_with fail
  go_ret
  exact ⟨rfl, HB10.out⟩
end Go.Proofs.Ytobfglnopihibaa
