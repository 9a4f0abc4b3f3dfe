/- RecordReads. -/
import Derived.Test.YtobfglnopihibaaAn
namespace Go.Proofs.Ytobfglnopihibaa
open Go.RowKit Rcd

theorem Words.same {w w' : World} {A : Option Addr} {ws : List Wd} (h : Words w A ws) (hs : w.heap.size ≤ w'.heap.size) (he : ∀ p : Addr, A = some p → w'.heap[p.block]? = w.heap[p.block]?) : Words w' A ws := fun r x hr => by
  obtain ⟨b, off, e, hlt, c0, c1, h2⟩ := h r x hr
  have hb := he _ e
  exact ⟨b, off, e, Nat.lt_of_lt_of_le hlt hs, (World.cell?_of_block (a := ⟨b, off + r * 2, none⟩) hb).trans c0, (World.cell?_of_block (a := ⟨b, off + r * 2 + 1, none⟩) hb).trans c1, h2⟩
theorem Blk.cell4 {w : World} {g : Nat} {t : TypeId} {a b c d : Value} (h : Blk w g t #[a, b, c, d]) : w.cell? ⟨g, 0, none⟩ = some a ∧ w.cell? ⟨g, 1, none⟩ = some b ∧ w.cell? ⟨g, 2, none⟩ = some c ∧ w.cell? ⟨g, 3, none⟩ = some d := ⟨h.cell 0, h.cell 1, h.cell 2, h.cell 3⟩
theorem bv_inc (cn : Nat) : (Value.int .u8 (((cn : Int) + 1) % 256)) = bv (UInt8.ofNat (cn + 1)) := by
  unfold bv
  rw [UInt8.toNat_ofNat']
  congr 1

set_option maxRecDepth 20000 in
set_option maxHeartbeats 4000000 in
theorem readslaw (A : Option Addr) (len cap : Nat) (b : List UInt8) (w : World) (hlen : b.length = len) (hA : Bytes w A b) (hcap : len ≤ cap) (hcm : cap ≤ maxLen) :
    Calls Try.prog 4 #[.slice A len cap] w fun e w' => e = .returned (.bool true) ∧ Below w.heap.size w w' := by
  have HLEN := Lib.hid hlen
  have HA := Lib.hid hA
  have HC := Lib.hid (And.intro hcap hcm)
  have HCQ : Hid (len ≤ cap ∧ cap ≤ 9223372036854775807) := Lib.hid ⟨hcap, by unfold maxLen at hcm; omega⟩
  by_cases hbig : 16384 < len
  · have hd : decide ((16384 : Int) < (len : Int)) = true := by simp; omega
    have HW := Lib.hid (works_any w)
    clear hA hlen hcap hcm
    go_enter Try.func4, Try.ntmps4
    go_wp2_with fail
    refine HW.out.mono ?_
    rintro e w2 ⟨rfl, hb2⟩
    have HB2 := Lib.hid hb2
    clear hb2
    go_wp2_with fail
    go_ret
    exact ⟨rfl, HB2.out⟩
  have hd : decide ((16384 : Int) < (len : Int)) = false := by simp; omega
  have hl4 : len ≤ 16384 := by omega
  have H1 := Lib.hid (roomy_any A len cap b w hlen hA (by omega))
  obtain ⟨⟨k, tag, ws, t⟩, ho⟩ : ∃ o, readX b = o := ⟨_, rfl⟩
  obtain ⟨E, hE⟩ : ∃ E, readE b = E := ⟨_, rfl⟩
  obtain ⟨n, hn⟩ : ∃ n, ws.length = n := ⟨_, rfl⟩
  have hn8 : n ≤ 8192 := by
    have h1 : (readX b).ws.length = n := by rw [ho]; exact hn
    rw [← h1]
    unfold readX
    cases hr : readO b with
    | none => simp
    | some o =>
      have h2 := (write_read hr).2.1
      unfold sizeO at h2
      show o.ws.length ≤ 8192
      omega
  obtain ⟨kn, hkn⟩ : ∃ kn, k.toNat = kn := ⟨_, rfl⟩
  have hbv : bv k = .int .u8 (kn : Int) := by rw [← hkn]; rfl
  have HBV := Lib.hid hbv
  have HRD : Hid (∀ (A : Option Addr) (cap : Nat) (W : World), Bytes W A b → len ≤ cap → cap ≤ maxLen → Calls Try.prog 18 #[.slice A len cap] W fun e w' => ∃ A2 c2, e = .returned (.tuple #[.agg #[.int .u8 (kn : Int), .int .i64 tag, .slice A2 n c2, .string (str t)], .int .i64 E]) ∧ Words w' A2 ws ∧ (∀ p : Addr, A2 = some p → W.heap.size ≤ p.block ∧ p.block < w'.heap.size) ∧ Below W.heap.size W w') := Lib.hid (fun A cap W h1 h2 h3 => by
    refine ((read_any A len cap b W hlen h1 h2 h3).mono fun e w' h => h.ans).mono ?_
    rintro e w' ⟨v, rfl, ⟨A2, c2, rfl, _, _, h4, h5⟩, h6⟩
    rw [ho] at h4 ⊢
    dsimp only at h4 ⊢
    rw [hE, hbv, hn]
    exact ⟨A2, c2, rfl, h4, h5, h6⟩)
  have HRR : Hid (∀ (A : Option Addr) (cap : Nat) (W : World), Bytes W A b → len ≤ cap → cap ≤ maxLen → Calls Try.prog 19 #[.slice A len cap] W fun e w' => ∃ A2 c2, e = .returned (.tuple #[.agg #[.int .u8 (kn : Int), .int .i64 tag, .slice A2 n c2, .string (str t)], .int .i64 E]) ∧ Words w' A2 ws ∧ (∀ p : Addr, A2 = some p → W.heap.size ≤ p.block ∧ p.block < w'.heap.size) ∧ Below W.heap.size W w') := Lib.hid (fun A cap W h1 h2 h3 => by
    refine ((refread_any A len cap b W hlen h1 h2 h3).mono fun e w' h => h.ans).mono ?_
    rintro e w' ⟨v, rfl, ⟨A2, c2, rfl, _, _, h4, h5⟩, h6⟩
    rw [ho] at h4 ⊢
    dsimp only at h4 ⊢
    rw [hE, hbv, hn]
    exact ⟨A2, c2, rfl, h4, h5, h6⟩)
  have HN := Lib.hid hn
  have HSAME : Hid (∀ (A B : Option Addr) (c c' : Nat) (W : World), Words W A ws → Words W B ws → Calls Try.prog 15 #[.agg #[.int .u8 (kn : Int), .int .i64 tag, .slice A n c, .string (str t)], .agg #[.int .u8 (kn : Int), .int .i64 tag, .slice B n c', .string (str t)]] W fun e w' => e = .returned (.bool true) ∧ Below W.heap.size W w') := Lib.hid (fun A B c c' W h1 h2 => by
    have := same_ok k tag A B n c c' t ws W hn h1 h2 (by omega)
    rwa [hbv] at this)
  clear hA hlen hcap hcm hbig ho hE hn hkn hbv
  go_enter Try.func4, Try.ntmps4
  go_wp2_with fail
  refine H1.out.mono ?_
  rintro e w1 ⟨g0, rfl, hg0, hR1, hb1⟩
  have HB1 := Lib.hid hb1
  have HR1 := Lib.hid hR1
  have HG0 := Lib.hid hg0
  have hin : Rw w1 g0 len (len + 6) b := by
    have := hR1.take len (by omega)
    rwa [List.take_left' HLEN.out] at this
  have H2 := Lib.hid (HRD.out (some ⟨g0, 0, none⟩) (len + 6) w1 hin.bytes (by omega) hin.max)
  clear H1 hg0 hR1 hb1 hin HRD
  go_wp2_with fail
  refine H2.out.mono ?_
  rintro e w2 ⟨A2, c2, rfl, hw2, hA2, hb2⟩
  have hz2 : Below w2.heap.size w2 (w2.alloc (.cells #[.int .u8 (kn : Int), .int .i64 tag, .slice A2 n c2, .string (str t)] 24)) := (Below.refl _ _).alloc (Nat.le_refl _) _
  have hp2 : Blk (w2.alloc (.cells #[.int .u8 (kn : Int), .int .i64 tag, .slice A2 n c2, .string (str t)] 24)) w2.heap.size 24 #[.int .u8 (kn : Int), .int .i64 tag, .slice A2 n c2, .string (str t)] := Blk.new _ _ _
  obtain ⟨w2z, hw2z⟩ : ∃ w2z, w2.alloc (.cells #[.int .u8 (kn : Int), .int .i64 tag, .slice A2 n c2, .string (str t)] 24) = w2z := ⟨_, rfl⟩
  rw [hw2z] at hz2 hp2
  have h12 := hb2.trans (hz2.mono hb2.size)
  have HB2 : Hid (Below w.heap.size w w2z) := Lib.hid (HB1.out.trans (h12.mono HB1.out.size))
  have HR2 := Lib.hid (HR1.out.below h12)
  have HP2 := Lib.hid hp2
  have HWD2 := Lib.hid (hw2.below hz2)
  have hgl1 := HR1.out.lt
  have HA2 : Hid ((∀ p : Addr, A2 = some p → g0 < p.block ∧ p.block < w2z.heap.size) ∧ g0 < w2.heap.size) := Lib.hid ⟨fun p e => by have := hA2 p e; have := hz2.size; omega, by have := hb2.size; omega⟩
  have H3 := Lib.hid (HRR.out A cap w2z (HA.out.below HB2.out) HC.out.1 HC.out.2)
  have HWZ := Lib.hid hw2z
  clear H2 hw2 hA2 hb2 hz2 hp2 hw2z h12 hgl1 HRR
  go_upto_region 5 with fail
  rw [HWZ.out]
  go_wp2_with fail
  refine H3.out.mono ?_
  rintro e w3 ⟨A3, c3, rfl, hw3, hA3, hb3⟩
  have hz3 : Below w3.heap.size w3 (w3.alloc (.cells #[.int .u8 (kn : Int), .int .i64 tag, .slice A3 n c3, .string (str t)] 24)) := (Below.refl _ _).alloc (Nat.le_refl _) _
  have hp3 : Blk (w3.alloc (.cells #[.int .u8 (kn : Int), .int .i64 tag, .slice A3 n c3, .string (str t)] 24)) w3.heap.size 24 #[.int .u8 (kn : Int), .int .i64 tag, .slice A3 n c3, .string (str t)] := Blk.new _ _ _
  obtain ⟨w3z, hw3z⟩ : ∃ w3z, w3.alloc (.cells #[.int .u8 (kn : Int), .int .i64 tag, .slice A3 n c3, .string (str t)] 24) = w3z := ⟨_, rfl⟩
  rw [hw3z] at hz3 hp3
  have h23 := hb3.trans (hz3.mono hb3.size)
  have HB3 : Hid (Below w.heap.size w w3z) := Lib.hid (HB2.out.trans (h23.mono HB2.out.size))
  have HR3 := Lib.hid (HR2.out.below h23)
  have HP23 := Lib.hid (HP2.out.below h23 HP2.out.lt)
  have HP3 := Lib.hid hp3
  have HWD23 := Lib.hid (HWD2.out.below h23)
  have HWD3 := Lib.hid (hw3.below hz3)
  have hgl2 := HR2.out.lt
  have HA3 : Hid ((∀ p : Addr, A3 = some p → g0 < p.block) ∧ g0 < w3.heap.size) := Lib.hid ⟨fun p e => by have := hA3 p e; omega, by have := hb3.size; omega⟩
  have H4 := Lib.hid (HSAME.out A2 A3 c2 c3 w3z HWD23.out HWD3.out)
  have HWZ3 := Lib.hid hw3z
  obtain ⟨p0, p1, p2, p3⟩ := HP23.out.cell4
  obtain ⟨q0, q1, q2, q3⟩ := HP3.out.cell4
  clear H3 hw3 hA3 hb3 hz3 hp3 hw3z h23 hgl2 HR2 HP2 HWD2
  go_upto_region 6 with fail
  rw [HWZ3.out]
  go_wp2_with fail
  refine H4.out.mono ?_
  rintro e w4 ⟨rfl, hb4⟩
  have HB4 : Hid (Below w.heap.size w w4) := Lib.hid (HB3.out.trans (hb4.mono HB3.out.size))
  have HR4 := Lib.hid (HR3.out.below hb4)
  have H5 := Lib.hid (kept_any g0 len A cap b w4 HLEN.out HR4.out (HA.out.below HB4.out) HCQ.out (by omega))
  have H34 := Lib.hid hb4
  clear H4 hb4 p0 p1 p2 p3 q0 q1 q2 q3 HR3
  go_wp2_with fail
  refine H5.out.mono ?_
  rintro e w5 ⟨rfl, hb5⟩
  have HB5 : Hid (Below w.heap.size w w5) := Lib.hid (HB4.out.trans (hb5.mono HB4.out.size))
  have hb35 := H34.out.trans (hb5.mono H34.out.size)
  have HR5 := Lib.hid (HR4.out.below hb5)
  have HF : Hid (∀ W, Off (fun j => j = g0) w5 W → Words W A2 ws ∧ Words W A3 ws ∧ Blk W w2.heap.size 24 #[.int .u8 (kn : Int), .int .i64 tag, .slice A2 n c2, .string (str t)] ∧ Blk W w3.heap.size 24 #[.int .u8 (kn : Int), .int .i64 tag, .slice A3 n c3, .string (str t)]) := Lib.hid (fun W hW => by
    have k2 := HWD23.out.below hb35
    have k3 := HWD3.out.below hb35
    have m2 := HP23.out.below hb35 HP23.out.lt
    have m3 := HP3.out.below hb35 HP3.out.lt
    have z2 := HA2.out.2
    have z3 := HA3.out.2
    refine ⟨fun r x hr => ?_, fun r x hr => ?_, m2.off hW (fun e => by have e' : w2.heap.size = g0 := e; omega), m3.off hW (fun e => by have e' : w3.heap.size = g0 := e; omega)⟩
    · obtain ⟨bq, oq, e, hlt, u0, u1, ur⟩ := k2 r x hr
      have hne : g0 < bq := (HA2.out.1 _ e).1
      have hs := hW.block bq hlt (fun e' => by have e' : bq = g0 := e'; omega)
      exact ⟨bq, oq, e, Nat.lt_of_lt_of_le hlt hW.size, (World.cell?_of_block (a := ⟨bq, oq + r * 2, none⟩) hs).trans u0, (World.cell?_of_block (a := ⟨bq, oq + r * 2 + 1, none⟩) hs).trans u1, ur⟩
    · obtain ⟨bq, oq, e, hlt, u0, u1, ur⟩ := k3 r x hr
      have hne : g0 < bq := HA3.out.1 _ e
      have hs := hW.block bq hlt (fun e' => by have e' : bq = g0 := e'; omega)
      exact ⟨bq, oq, e, Nat.lt_of_lt_of_le hlt hW.size, (World.cell?_of_block (a := ⟨bq, oq + r * 2, none⟩) hs).trans u0, (World.cell?_of_block (a := ⟨bq, oq + r * 2 + 1, none⟩) hs).trans u1, ur⟩)
  clear H5 hb5 hb35 HR4 H34
  go_wp2_with fail
  go_loopw [8] (fun iv wr => ∃ (i : Nat) (cs : List UInt8), i ≤ len ∧ iv = .int .i64 (i : Int) ∧ Hid (Rw wr g0 (len + 6) (len + 6) cs ∧ Off (fun j => j = g0) w5 wr)) (fun iv _ => len - (intOf iv).toNat)
  case atStart => exact ⟨0, _, Nat.zero_le _, rfl, Lib.hid ⟨HR5.out, Off.refl _ _⟩⟩
  case round =>
    clear HR5
    obtain ⟨i, cs, hi, rfl, hI⟩ := hrel
    by_cases hlt : i < len
    · have hdi : decide ((i : Int) < (len : Int)) = true := by simpa using hlt
      have hR := hI.out.1
      obtain ⟨u, hu⟩ : ∃ u, cs[i]? = some u := ⟨_, List.getElem?_eq_getElem (by rw [hR.long]; omega)⟩
      obtain ⟨un, hun⟩ : ∃ un, u.toNat = un := ⟨_, rfl⟩
      have k1 : wr.cell? ⟨g0, i, none⟩ = some (.int .u8 (un : Int)) := by rw [← hun]; exact hR.holds i u hu
      have f1 := (hR.there i (by omega)).2
      have hulb : un < 256 := by rw [← hun]; exact u.toNat_lt
      have hR2 := hR.set i (by omega) (UInt8.ofNat (un + 1))
      rw [← bv_inc] at hR2
      have HI2 : Hid (Rw (wr.setCell ⟨g0, i, none⟩ (.int .u8 (((un : Int) + 1) % 256))) g0 (len + 6) (len + 6) (cs.set i (UInt8.ofNat (un + 1))) ∧ Off (fun j => j = g0) w5 (wr.setCell ⟨g0, i, none⟩ (.int .u8 (((un : Int) + 1) % 256)))) := Lib.hid ⟨hR2, hI.out.2.trans (Off.setc _ _ _ _)⟩
      clear hR hu hun hR2 hI
      go_wp2_with fail
      go_roundw
      case rel => exact ⟨i + 1, _, by omega, by go_num, HI2⟩
      case measure => simp [intOf]; omega
    · obtain rfl : len = i := by omega
      have hdi : decide ((len : Int) < (len : Int)) = false := by simp
      have hoff := hI.out.2
      obtain ⟨k2, k3, m2, m3⟩ := HF.out wr hoff
      have HB6 : Hid (Below w.heap.size w wr) := Lib.hid (HB5.out.trans (hoff.below HB5.out.size (fun j e => by have e' : j = g0 := e; rw [e']; exact HG0.out)))
      obtain ⟨p0, p1, p2, p3⟩ := m2.cell4
      obtain ⟨q0, q1, q2, q3⟩ := m3.cell4
      have H7 := Lib.hid (HSAME.out A2 A3 c2 c3 wr k2 k3)
      clear hoff k2 k3 m2 m3 hI
      go_wp2_with fail
      refine H7.out.mono ?_
      rintro e w7 ⟨rfl, hb7⟩
      have HB7 : Hid (Below w.heap.size w w7) := Lib.hid (HB6.out.trans (hb7.mono HB6.out.size))
      have HW := Lib.hid (works_any w7)
      clear hb7 H7 p0 p1 p2 p3 q0 q1 q2 q3
      go_wp2_with fail
      refine HW.out.mono ?_
      rintro e w8 ⟨rfl, hb8⟩
      have HB8 := Lib.hid (HB7.out.trans (hb8.mono HB7.out.size))
      clear hb8
      go_wp2_with fail
      go_ret
      exact ⟨rfl, HB8.out⟩
end Go.Proofs.Ytobfglnopihibaa
