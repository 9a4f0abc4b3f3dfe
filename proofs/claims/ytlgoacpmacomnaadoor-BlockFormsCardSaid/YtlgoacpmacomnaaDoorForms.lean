/- BlockForms. -/
import Derived.Test.YtlgoacpmacomnaaDoorH
namespace Go.Proofs.YtlgoacpmacomnaaDoor
open Go.RowKit Crc

theorem Bytes.cut4 {w : World} {g n : Nat} {cs b : List UInt8} (h : Bytes w (some ⟨g, 0, none⟩) cs) (e : fieldOf cs 4 n = b) : Bytes w (some ⟨g, 4, none⟩) b := fun k c hk => by
  rw [← e] at hk
  unfold fieldOf at hk
  have hkn : k < n := by
    have := (List.getElem?_eq_some_iff.1 hk).1
    simp at this
    omega
  rw [List.getElem?_take_of_lt hkn, List.getElem?_drop] at hk
  obtain ⟨b', off', e', hlt, hc⟩ := h _ c hk
  cases e'
  exact ⟨g, 4, rfl, hlt, by rw [Nat.zero_add] at hc; exact hc⟩

set_option maxRecDepth 20000 in
set_option maxHeartbeats 4000000 in
theorem forms_walk (a v : Nat) (A : Option Addr) (len cap : Nat) (bs : List UInt8) (w : World) (ha : a < 256) (hv : v < 256) (hlen : bs.length = len) (hA : Bytes w A bs) (hT : Tab w) :
    Calls Tryd.prog 7 #[.slice A len cap, .int .u8 (a : Int), .int .u8 (v : Int)] w fun e W' => e = .returned (.bool true) ∧ Below w.heap.size w W' := by
  have HW := Lib.hid (works_any w hT)
  by_cases hbig : 248 < len
  · have hd : decide ((248 : Int) < (len : Int)) = true := by simp; omega
    clear hA hT
    go_enter Tryd.func7, Tryd.ntmps7
    go_wp2_with fail
    refine HW.out.mono ?_
    rintro e w' ⟨rfl, hb⟩
    have HB := Lib.hid hb
    clear hb
    go_wp2_with fail
    go_ret
    exact ⟨rfl, HB.out⟩
  have hd : decide ((248 : Int) < (len : Int)) = false := by simp; omega
  have hl248 : len ≤ 248 := by omega
  obtain ⟨kk, hkk⟩ : ∃ kk, a % 252 = kk := ⟨_, rfl⟩
  have hk252 : kk < 252 := by omega
  have hki : (a : Int) % 252 = (kk : Int) := by omega
  have H1 := Lib.hid (seal_yes 7 A len cap bs w (by decide) (by decide) hlen hl248 hA hT)
  have HT := Lib.hid hT
  have HL := Lib.hid hlen
  have hblen := blockOf_length 7 bs (by omega)
  have HFORM := Lib.hid (forms_any bs kk (UInt8.ofNat v) (by omega) hk252)
  have HLC : Hid (((blockOf 7 bs).set kk (UInt8.ofNat v)).length = 256) := Lib.hid (by rw [List.length_set]; exact hblen)
  have hrow : (row8 (blockOf 7 bs)).setIfInBounds kk (.int .u8 (v : Int)) = row8 ((blockOf 7 bs).set kk (UInt8.ofNat v)) := by
    unfold row8
    have : bv (UInt8.ofNat v) = .int .u8 (v : Int) := by unfold bv; rw [UInt8.toNat_ofNat', Nat.mod_eq_of_lt hv]
    rw [List.setIfInBounds_toArray, ← this, ← List.map_set]
  have HVZ : Hid (v = 0 → UInt8.ofNat v = 0) := Lib.hid (fun h => by rw [h]; rfl)
  have HV0 : Hid ((UInt8.ofNat v ≠ 0 → v ≠ 0) ∧ (UInt8.ofNat v = 0 → v = 0)) := Lib.hid ⟨fun h e => h (by rw [e]; rfl), fun h => by
    have := congrArg UInt8.toNat h
    rw [UInt8.toNat_ofNat', Nat.mod_eq_of_lt hv] at this
    exact this⟩
  have hsz256 : (row8 (blockOf 7 bs)).size = 256 := by simp [row8, hblen]
  obtain ⟨us, hus⟩ : ∃ us, row8 (blockOf 7 bs) = us := ⟨_, rfl⟩
  obtain ⟨cs, hcs⟩ : ∃ cs, (blockOf 7 bs).set kk (UInt8.ofNat v) = cs := ⟨_, rfl⟩
  rw [hus] at hsz256
  rw [hcs] at HFORM HLC
  rw [hus, hcs] at hrow
  rw [hus] at H1
  have HROW := Lib.hid hrow
  have HSZ := Lib.hid hsz256
  clear hA hT hkk hlen HW hbig hblen hus hcs hrow hsz256
  go_enter Tryd.func7, Tryd.ntmps7
  go_wp2_with fail
  refine H1.out.mono ?_
  rintro e w1 ⟨g, rfl, hg, hR, hb1⟩
  obtain ⟨u, hu⟩ : ∃ u, w1.cell? ⟨g, kk, none⟩ = some u := ⟨_, (hR.cell kk).trans (Array.getElem?_eq_getElem (by rw [HSZ.out]; omega))⟩
  have hf := hR.frozen kk
  have hR1 := hR.set_ kk (.int .u8 (v : Int))
  rw [HROW.out] at hR1
  obtain ⟨w2, hw2⟩ : ∃ w2, w1.setCell ⟨g, kk, none⟩ (.int .u8 (v : Int)) = w2 := ⟨_, rfl⟩
  have hb2 : Below w.heap.size w w2 := by rw [← hw2]; exact hb1.setCell (p := ⟨g, kk, none⟩) hg _
  rw [hw2] at hR1
  have HB2 := Lib.hid hb2
  have HR1 := Lib.hid hR1
  have H2 := Lib.hid (summed_any (some ⟨g, 0, none⟩) 256 cs w2 HLC.out (Bytes.row hR1) (Nat.le_refl _))
  have hkk256 : (kk : Int) < 256 := by omega
  clear H1 hg hR hb1 hb2 hR1
  go_wp2_with fail
  refine H2.out.mono ?_
  rintro e w2' ⟨A2, c2, rfl, hown, hb2⟩
  have HB2' := Lib.hid (HB2.out.trans (hb2.mono HB2.out.size))
  have hcap := own_cap hown
  have HBY2 := Lib.hid ((Bytes.row HR1.out).below hb2)
  have HLR := Lib.hid (resum_length HLC.out)
  have H3 := Lib.hid (open_any A2 256 c2 (resum cs) w2' HLR.out (Bytes.of_own hown) hcap.1 (HT.out.below HB2'.out))
  clear H2 hown hb2 hcap hu hf HR1 HROW HSZ hw2
  go_wp2_with fail
  refine H3.out.mono ?_
  rintro e w3 ⟨⟨k', b', g3, hblk, rfl, hg3, hR3⟩ | ⟨hno, rfl⟩, hb3⟩
  · obtain ⟨hfit, hk0, hfb⟩ := isBlk_fits hblk
    have hble := hfit.le
    obtain ⟨N, hN⟩ : ∃ N, b'.length = N := ⟨_, rfl⟩
    rw [hN] at hfit hfb hble
    rw [resum_get HLC.out (by decide)] at hk0
    have HX0 := Lib.hid hk0
    rw [resum_field HLC.out hble] at hfb
    have HF := Lib.hid hfb
    have HBL := Lib.hid hN
    have HFIT := Lib.hid hfit
    have HR3 := Lib.hid hR3
    have HBY := Lib.hid (HBY2.out.below hb3)
    have HCUT : Hid (∀ b, fieldOf cs 4 N = b → Bytes w3 (some ⟨g, 4, none⟩) b) := Lib.hid (fun b e => HBY.out.cut4 e)
    have HB3 := Lib.hid (HB2'.out.trans (hb3.mono HB2'.out.size))
    have HCELL : Hid (∀ j, j < 256 → w3.cell? ⟨g, 0 + j, none⟩ = some (.int .u8 ((cs.getD j 0).toNat : Int))) := Lib.hid (by
      obtain ⟨b0, off, e, _, hc⟩ := byte_at HBY.out (i := 0) (by rw [HLC.out]; decide)
      cases e
      exact fun j hj => hc j (by rw [HLC.out]; exact hj))
    rw [hN]
    clear H3 hblk hg3 hR3 hb3 hfit hk0 hfb hN HBY2 HB2 HB2' HLR
    by_cases h0 : kk = 0
    · have e0 : ((kk : Int) == 0) = true := by simp; omega
      have hf := (HFORM.out.zero h0 N).1 HFIT.out
      obtain rfl : N = len := hf.2.trans HL.out
      have hv : ((v : Int) != 0) = true := by have := HV0.out.1 hf.1; simp; omega
      clear hf
      have hc0 := HCELL.out 0 (by decide)
      rw [Nat.zero_add, HX0.out] at hc0
      have h4 := eq_any (some ⟨g3, 0, none⟩) (some ⟨g, 4, none⟩) N N N 252 b' b' w3 HBL.out HBL.out (Bytes.row HR3.out) (HCUT.out _ HF.out) (by omega) (by omega)
      rw [decide_eq_true (rfl : b' = b')] at h4
      have H4 := Lib.hid h4
      clear h4
      go_wp2_with fail
      refine H4.out.mono ?_
      rintro e w4 ⟨rfl, hb4⟩
      have HB4 := Lib.hid (HB3.out.trans (hb4.mono HB3.out.size))
      have HWK := Lib.hid (works_any w4 (HT.out.below HB4.out))
      clear H4 hb4 hc0
      go_wp2_with fail
      refine HWK.out.mono ?_
      rintro e w5 ⟨rfl, hb5⟩
      have HB5 := Lib.hid (HB4.out.trans (hb5.mono HB4.out.size))
      clear hb5
      go_wp2_with fail
      go_ret
      exact ⟨rfl, HB5.out⟩
    have e0 : ((kk : Int) == 0) = false := by simp; omega
    by_cases h1 : kk = 1
    · have e1 : ((kk : Int) == 1) = true := by simp; omega
      have hf := (HFORM.out.one h1 N).1 HFIT.out
      obtain rfl : N = len := hf.2.trans HL.out
      have hv : ((v : Int) == 0) = true := by have := HV0.out.2 hf.1; simp; omega
      clear hf
      have hc0 := HCELL.out 0 (by decide)
      rw [Nat.zero_add, HX0.out] at hc0
      have h4 := eq_any (some ⟨g3, 0, none⟩) (some ⟨g, 4, none⟩) N N N 252 b' b' w3 HBL.out HBL.out (Bytes.row HR3.out) (HCUT.out _ HF.out) (by omega) (by omega)
      rw [decide_eq_true (rfl : b' = b')] at h4
      have H4 := Lib.hid h4
      clear h4
      go_wp2_with fail
      refine H4.out.mono ?_
      rintro e w4 ⟨rfl, hb4⟩
      have HB4 := Lib.hid (HB3.out.trans (hb4.mono HB3.out.size))
      have HWK := Lib.hid (works_any w4 (HT.out.below HB4.out))
      clear H4 hb4 hc0
      go_wp2_with fail
      refine HWK.out.mono ?_
      rintro e w5 ⟨rfl, hb5⟩
      have HB5 := Lib.hid (HB4.out.trans (hb5.mono HB4.out.size))
      clear hb5
      go_wp2_with fail
      go_ret
      exact ⟨rfl, HB5.out⟩
    have e1 : ((kk : Int) == 1) = false := by simp; omega
    by_cases h2 : kk = 2
    · have e2 : ((kk : Int) == 2) = true := by simp; omega
      have hget := refget_ok (some ⟨g, 0, none⟩) 256 256 2 2 cs w3 HLC.out (by decide) (by decide) (by decide) HBY.out
      rw [fieldOf_two cs (by rw [HLC.out]; decide), leN_two] at hget
      obtain ⟨M, hM⟩ : ∃ M, (cs[2]'(by rw [HLC.out]; decide)).toNat + 256 * (cs[3]'(by rw [HLC.out]; decide)).toNat = M := ⟨_, rfl⟩
      rw [hM] at hget
      have hM16 : M < 65536 := by rw [← hM]; have := (cs[2]'(by rw [HLC.out]; decide)).toNat_lt; have := (cs[3]'(by rw [HLC.out]; decide)).toNat_lt; omega
      have hMd : M = (cs.getD 2 0).toNat + 256 * (cs.getD 3 0).toNat := by rw [← hM]; simp [List.getD, HLC.out]
      have HMD := Lib.hid hMd
      have HGET := Lib.hid hget
      clear hget hM hMd
      go_wp2_with (go_at_call 20; refine HGET.out.mono ?_; rintro e w' ⟨rfl, rfl⟩)
      go_loop [13, 17] (fun f i => ∃ (j : Nat) (b : Bool), f = .bool b ∧ i = .int .i64 j ∧ (b = true → j ≤ 252 ∧ M ≤ 248) ∧ 4 + M ≤ j ∧ j ≤ 70000 ∧ Hid (b = true → ∀ q, 4 + M ≤ q → q < j → cs.getD q 0 = 0) ∧ Hid (b = false → ¬ Fits (resum cs) M)) (fun _ i => 252 - (intOf i).toNat)
      case atStart => exact ⟨4 + M, decide ((M : Int) ≤ 248), rfl, by go_num, fun h => by simp at h; omega, Nat.le_refl _, by omega, Lib.hid (fun _ q h1 h2 => by omega), Lib.hid (fun h f => by have := f.le; simp at h; omega)⟩
      case round =>
        obtain ⟨j, b, rfl, rfl, hj1, hj2, hj7, hz, hno⟩ := hrel
        cases b
        · by_cases hj : j < 252
          · have hjd : decide ((j : Int) < 252) = true := by simp; omega
            have hNM : N = M := ((HFORM.out.size (.inl h2) N).1 HFIT.out).1.trans HMD.out.symm
            exact absurd (hNM ▸ HFIT.out) (hno.out rfl)
          · have hjd : decide ((j : Int) < 252) = false := by simp; omega
            have hNM : N = M := ((HFORM.out.size (.inl h2) N).1 HFIT.out).1.trans HMD.out.symm
            exact absurd (hNM ▸ HFIT.out) (hno.out rfl)
        · obtain ⟨hj3, hM8⟩ := hj1 rfl
          by_cases hj : j < 252
          · have hjd : decide ((j : Int) < 252) = true := by simp; omega
            have hcj := HCELL.out j (by omega)
            rw [Nat.zero_add] at hcj
            obtain ⟨x, hx⟩ : ∃ x, (cs.getD j 0).toNat = x := ⟨_, rfl⟩
            rw [hx] at hcj
            obtain ⟨bb, hbb⟩ : ∃ bb, ((x : Int) == 0) = bb := ⟨_, rfl⟩
            have HZ2 : Hid (bb = true → ∀ q, 4 + M ≤ q → q < j + 1 → cs.getD q 0 = 0) := Lib.hid (fun h q h1 h2 => by
              by_cases e : q = j
              · subst e
                rw [h] at hbb
                apply UInt8.toNat_inj.1
                rw [hx]
                simp at hbb
                exact hbb
              · exact hz.out rfl q h1 (by omega))
            have HN2 : Hid (bb = false → ¬ Fits (resum cs) M) := Lib.hid (fun h f => by
              have := ((fits_resum HLC.out M).1 f).2.2.2.2 j (by omega) hj
              rw [this] at hx
              rw [h, ← hx] at hbb
              exact absurd hbb (by decide))
            clear hx hz hno
            go_wp2_with fail
            go_round
            case rel => exact ⟨j + 1, bb, rfl, by go_num, fun _ => ⟨by omega, hM8⟩, by omega, by omega, HZ2, HN2⟩
            case measure => simp [intOf]; omega
          · have hjd : decide ((j : Int) < 252) = false := by simp; omega
            obtain rfl : N = M := ((HFORM.out.size (.inl h2) N).1 HFIT.out).1.trans HMD.out.symm
            have hkf := hjd
            clear hz hno
            have hc0 := HCELL.out 0 (by decide)
            rw [Nat.zero_add, HX0.out] at hc0
            have h4 := eq_any (some ⟨g3, 0, none⟩) (some ⟨g, 4, none⟩) N N N 252 b' b' w3 HBL.out HBL.out (Bytes.row HR3.out) (HCUT.out _ HF.out) (by omega) (by omega)
            rw [decide_eq_true (rfl : b' = b')] at h4
            have H4 := Lib.hid h4
            clear h4
            go_wp2_with fail
            refine H4.out.mono ?_
            rintro e w4 ⟨rfl, hb4⟩
            have HB4 := Lib.hid (HB3.out.trans (hb4.mono HB3.out.size))
            have HWK := Lib.hid (works_any w4 (HT.out.below HB4.out))
            clear H4 hb4 hc0
            go_wp2_with fail
            refine HWK.out.mono ?_
            rintro e w5 ⟨rfl, hb5⟩
            have HB5 := Lib.hid (HB4.out.trans (hb5.mono HB4.out.size))
            clear hb5
            go_wp2_with fail
            go_ret
            exact ⟨rfl, HB5.out⟩
    have e2 : ((kk : Int) == 2) = false := by simp; omega
    by_cases h3 : kk = 3
    · have e3 : ((kk : Int) == 3) = true := by simp; omega
      have hget := refget_ok (some ⟨g, 0, none⟩) 256 256 2 2 cs w3 HLC.out (by decide) (by decide) (by decide) HBY.out
      rw [fieldOf_two cs (by rw [HLC.out]; decide), leN_two] at hget
      obtain ⟨M, hM⟩ : ∃ M, (cs[2]'(by rw [HLC.out]; decide)).toNat + 256 * (cs[3]'(by rw [HLC.out]; decide)).toNat = M := ⟨_, rfl⟩
      rw [hM] at hget
      have hM16 : M < 65536 := by rw [← hM]; have := (cs[2]'(by rw [HLC.out]; decide)).toNat_lt; have := (cs[3]'(by rw [HLC.out]; decide)).toNat_lt; omega
      have hMd : M = (cs.getD 2 0).toNat + 256 * (cs.getD 3 0).toNat := by rw [← hM]; simp [List.getD, HLC.out]
      have HMD := Lib.hid hMd
      have HGET := Lib.hid hget
      clear hget hM hMd
      go_wp2_with (go_at_call 20; refine HGET.out.mono ?_; rintro e w' ⟨rfl, rfl⟩)
      go_loop [13, 17] (fun f i => ∃ (j : Nat) (b : Bool), f = .bool b ∧ i = .int .i64 j ∧ (b = true → j ≤ 252 ∧ M ≤ 248) ∧ 4 + M ≤ j ∧ j ≤ 70000 ∧ Hid (b = true → ∀ q, 4 + M ≤ q → q < j → cs.getD q 0 = 0) ∧ Hid (b = false → ¬ Fits (resum cs) M)) (fun _ i => 252 - (intOf i).toNat)
      case atStart => exact ⟨4 + M, decide ((M : Int) ≤ 248), rfl, by go_num, fun h => by simp at h; omega, Nat.le_refl _, by omega, Lib.hid (fun _ q h1 h2 => by omega), Lib.hid (fun h f => by have := f.le; simp at h; omega)⟩
      case round =>
        obtain ⟨j, b, rfl, rfl, hj1, hj2, hj7, hz, hno⟩ := hrel
        cases b
        · by_cases hj : j < 252
          · have hjd : decide ((j : Int) < 252) = true := by simp; omega
            have hNM : N = M := ((HFORM.out.size (.inr h3) N).1 HFIT.out).1.trans HMD.out.symm
            exact absurd (hNM ▸ HFIT.out) (hno.out rfl)
          · have hjd : decide ((j : Int) < 252) = false := by simp; omega
            have hNM : N = M := ((HFORM.out.size (.inr h3) N).1 HFIT.out).1.trans HMD.out.symm
            exact absurd (hNM ▸ HFIT.out) (hno.out rfl)
        · obtain ⟨hj3, hM8⟩ := hj1 rfl
          by_cases hj : j < 252
          · have hjd : decide ((j : Int) < 252) = true := by simp; omega
            have hcj := HCELL.out j (by omega)
            rw [Nat.zero_add] at hcj
            obtain ⟨x, hx⟩ : ∃ x, (cs.getD j 0).toNat = x := ⟨_, rfl⟩
            rw [hx] at hcj
            obtain ⟨bb, hbb⟩ : ∃ bb, ((x : Int) == 0) = bb := ⟨_, rfl⟩
            have HZ2 : Hid (bb = true → ∀ q, 4 + M ≤ q → q < j + 1 → cs.getD q 0 = 0) := Lib.hid (fun h q h1 h2 => by
              by_cases e : q = j
              · subst e
                rw [h] at hbb
                apply UInt8.toNat_inj.1
                rw [hx]
                simp at hbb
                exact hbb
              · exact hz.out rfl q h1 (by omega))
            have HN2 : Hid (bb = false → ¬ Fits (resum cs) M) := Lib.hid (fun h f => by
              have := ((fits_resum HLC.out M).1 f).2.2.2.2 j (by omega) hj
              rw [this] at hx
              rw [h, ← hx] at hbb
              exact absurd hbb (by decide))
            clear hx hz hno
            go_wp2_with fail
            go_round
            case rel => exact ⟨j + 1, bb, rfl, by go_num, fun _ => ⟨by omega, hM8⟩, by omega, by omega, HZ2, HN2⟩
            case measure => simp [intOf]; omega
          · have hjd : decide ((j : Int) < 252) = false := by simp; omega
            obtain rfl : N = M := ((HFORM.out.size (.inr h3) N).1 HFIT.out).1.trans HMD.out.symm
            have hkf := hjd
            clear hz hno
            have hc0 := HCELL.out 0 (by decide)
            rw [Nat.zero_add, HX0.out] at hc0
            have h4 := eq_any (some ⟨g3, 0, none⟩) (some ⟨g, 4, none⟩) N N N 252 b' b' w3 HBL.out HBL.out (Bytes.row HR3.out) (HCUT.out _ HF.out) (by omega) (by omega)
            rw [decide_eq_true (rfl : b' = b')] at h4
            have H4 := Lib.hid h4
            clear h4
            go_wp2_with fail
            refine H4.out.mono ?_
            rintro e w4 ⟨rfl, hb4⟩
            have HB4 := Lib.hid (HB3.out.trans (hb4.mono HB3.out.size))
            have HWK := Lib.hid (works_any w4 (HT.out.below HB4.out))
            clear H4 hb4 hc0
            go_wp2_with fail
            refine HWK.out.mono ?_
            rintro e w5 ⟨rfl, hb5⟩
            have HB5 := Lib.hid (HB4.out.trans (hb5.mono HB4.out.size))
            clear hb5
            go_wp2_with fail
            go_ret
            exact ⟨rfl, HB5.out⟩
    have e3 : ((kk : Int) == 3) = false := by simp; omega
    by_cases h4 : 4 + len ≤ kk
    · have e4 : decide ((4 : Int) + (len : Int) ≤ (kk : Int)) = true := by simp; omega
      have hf := (HFORM.out.far (by rw [HL.out]; exact h4) N).1 HFIT.out
      obtain rfl : N = len := hf.2.trans HL.out
      have hv : ((v : Int) == 0) = true := by have := HV0.out.2 hf.1; simp; omega
      clear hf
      have hc0 := HCELL.out 0 (by decide)
      rw [Nat.zero_add, HX0.out] at hc0
      have h4 := eq_any (some ⟨g3, 0, none⟩) (some ⟨g, 4, none⟩) N N N 252 b' b' w3 HBL.out HBL.out (Bytes.row HR3.out) (HCUT.out _ HF.out) (by omega) (by omega)
      rw [decide_eq_true (rfl : b' = b')] at h4
      have H4 := Lib.hid h4
      clear h4
      go_wp2_with fail
      refine H4.out.mono ?_
      rintro e w4 ⟨rfl, hb4⟩
      have HB4 := Lib.hid (HB3.out.trans (hb4.mono HB3.out.size))
      have HWK := Lib.hid (works_any w4 (HT.out.below HB4.out))
      clear H4 hb4 hc0
      go_wp2_with fail
      refine HWK.out.mono ?_
      rintro e w5 ⟨rfl, hb5⟩
      have HB5 := Lib.hid (HB4.out.trans (hb5.mono HB4.out.size))
      clear hb5
      go_wp2_with fail
      go_ret
      exact ⟨rfl, HB5.out⟩
    have e4 : decide ((4 : Int) + (len : Int) ≤ (kk : Int)) = false := by simp; omega
    have hf := (HFORM.out.mid (by omega) (by rw [HL.out]; omega) N).1 HFIT.out
    obtain rfl : N = len := hf.trans HL.out
    clear hf
    have hc0 := HCELL.out 0 (by decide)
    rw [Nat.zero_add, HX0.out] at hc0
    have h4 := eq_any (some ⟨g3, 0, none⟩) (some ⟨g, 4, none⟩) N N N 252 b' b' w3 HBL.out HBL.out (Bytes.row HR3.out) (HCUT.out _ HF.out) (by omega) (by omega)
    rw [decide_eq_true (rfl : b' = b')] at h4
    have H4 := Lib.hid h4
    clear h4
    go_wp2_with fail
    refine H4.out.mono ?_
    rintro e w4 ⟨rfl, hb4⟩
    have HB4 := Lib.hid (HB3.out.trans (hb4.mono HB3.out.size))
    have HWK := Lib.hid (works_any w4 (HT.out.below HB4.out))
    clear H4 hb4 hc0
    go_wp2_with fail
    refine HWK.out.mono ?_
    rintro e w5 ⟨rfl, hb5⟩
    have HB5 := Lib.hid (HB4.out.trans (hb5.mono HB4.out.size))
    clear hb5
    go_wp2_with fail
    go_ret
    exact ⟨rfl, HB5.out⟩
  · have HNO : Hid (∀ n, ¬ Fits (resum cs) n) := Lib.hid (fun n f => hno _ _ (fits_isBlk f).1)
    have HBY := Lib.hid (HBY2.out.below hb3)
    have HB3 := Lib.hid (HB2'.out.trans (hb3.mono HB2'.out.size))
    have HCELL : Hid (∀ j, j < 256 → w3.cell? ⟨g, 0 + j, none⟩ = some (.int .u8 ((cs.getD j 0).toNat : Int))) := Lib.hid (by
      obtain ⟨b0, off, e, _, hc⟩ := byte_at HBY.out (i := 0) (by rw [HLC.out]; decide)
      cases e
      exact fun j hj => hc j (by rw [HLC.out]; exact hj))
    clear H3 hno hb3 HBY2 HB2 HB2' HLR
    by_cases h0 : kk = 0
    · have e0 : ((kk : Int) == 0) = true := by simp; omega
      have hv : ((v : Int) != 0) = false := by
        by_cases e : v = 0
        · subst e; rfl
        · exact absurd ((HFORM.out.zero h0 _).2 ⟨fun h => e (HV0.out.2 h), rfl⟩) (HNO.out _)
      have HWK := Lib.hid (works_any w3 (HT.out.below HB3.out))
      go_wp2_with fail
      refine HWK.out.mono ?_
      rintro e w5 ⟨rfl, hb5⟩
      have HB5 := Lib.hid (HB3.out.trans (hb5.mono HB3.out.size))
      clear hb5
      go_wp2_with fail
      go_ret
      exact ⟨rfl, HB5.out⟩
    have e0 : ((kk : Int) == 0) = false := by simp; omega
    by_cases h1 : kk = 1
    · have e1 : ((kk : Int) == 1) = true := by simp; omega
      have hv : ((v : Int) == 0) = false := by
        by_cases e : v = 0
        · exact absurd ((HFORM.out.one h1 _).2 ⟨HVZ.out e, rfl⟩) (HNO.out _)
        · simpa using e
      have HWK := Lib.hid (works_any w3 (HT.out.below HB3.out))
      go_wp2_with fail
      refine HWK.out.mono ?_
      rintro e w5 ⟨rfl, hb5⟩
      have HB5 := Lib.hid (HB3.out.trans (hb5.mono HB3.out.size))
      clear hb5
      go_wp2_with fail
      go_ret
      exact ⟨rfl, HB5.out⟩
    have e1 : ((kk : Int) == 1) = false := by simp; omega
    by_cases h2 : kk = 2
    · have e2 : ((kk : Int) == 2) = true := by simp; omega
      have hget := refget_ok (some ⟨g, 0, none⟩) 256 256 2 2 cs w3 HLC.out (by decide) (by decide) (by decide) HBY.out
      rw [fieldOf_two cs (by rw [HLC.out]; decide), leN_two] at hget
      obtain ⟨M, hM⟩ : ∃ M, (cs[2]'(by rw [HLC.out]; decide)).toNat + 256 * (cs[3]'(by rw [HLC.out]; decide)).toNat = M := ⟨_, rfl⟩
      rw [hM] at hget
      have hM16 : M < 65536 := by rw [← hM]; have := (cs[2]'(by rw [HLC.out]; decide)).toNat_lt; have := (cs[3]'(by rw [HLC.out]; decide)).toNat_lt; omega
      have hMd : M = (cs.getD 2 0).toNat + 256 * (cs.getD 3 0).toNat := by rw [← hM]; simp [List.getD, HLC.out]
      have HMD := Lib.hid hMd
      have HGET := Lib.hid hget
      clear hget hM hMd
      go_wp2_with (go_at_call 20; refine HGET.out.mono ?_; rintro e w' ⟨rfl, rfl⟩)
      go_loop [13, 17] (fun f i => ∃ (j : Nat) (b : Bool), f = .bool b ∧ i = .int .i64 j ∧ (b = true → j ≤ 252 ∧ M ≤ 248) ∧ 4 + M ≤ j ∧ j ≤ 70000 ∧ Hid (b = true → ∀ q, 4 + M ≤ q → q < j → cs.getD q 0 = 0) ∧ Hid (b = false → ¬ Fits (resum cs) M)) (fun _ i => 252 - (intOf i).toNat)
      case atStart => exact ⟨4 + M, decide ((M : Int) ≤ 248), rfl, by go_num, fun h => by simp at h; omega, Nat.le_refl _, by omega, Lib.hid (fun _ q h1 h2 => by omega), Lib.hid (fun h f => by have := f.le; simp at h; omega)⟩
      case round =>
        obtain ⟨j, b, rfl, rfl, hj1, hj2, hj7, hz, hno⟩ := hrel
        cases b
        · by_cases hj : j < 252
          · have hjd : decide ((j : Int) < 252) = true := by simp; omega
            clear hz hno
            have HWK := Lib.hid (works_any w3 (HT.out.below HB3.out))
            go_wp2_with fail
            refine HWK.out.mono ?_
            rintro e w5 ⟨rfl, hb5⟩
            have HB5 := Lib.hid (HB3.out.trans (hb5.mono HB3.out.size))
            clear hb5
            go_wp2_with fail
            go_ret
            exact ⟨rfl, HB5.out⟩
          · have hjd : decide ((j : Int) < 252) = false := by simp; omega
            clear hz hno
            have HWK := Lib.hid (works_any w3 (HT.out.below HB3.out))
            go_wp2_with fail
            refine HWK.out.mono ?_
            rintro e w5 ⟨rfl, hb5⟩
            have HB5 := Lib.hid (HB3.out.trans (hb5.mono HB3.out.size))
            clear hb5
            go_wp2_with fail
            go_ret
            exact ⟨rfl, HB5.out⟩
        · obtain ⟨hj3, hM8⟩ := hj1 rfl
          by_cases hj : j < 252
          · have hjd : decide ((j : Int) < 252) = true := by simp; omega
            have hcj := HCELL.out j (by omega)
            rw [Nat.zero_add] at hcj
            obtain ⟨x, hx⟩ : ∃ x, (cs.getD j 0).toNat = x := ⟨_, rfl⟩
            rw [hx] at hcj
            obtain ⟨bb, hbb⟩ : ∃ bb, ((x : Int) == 0) = bb := ⟨_, rfl⟩
            have HZ2 : Hid (bb = true → ∀ q, 4 + M ≤ q → q < j + 1 → cs.getD q 0 = 0) := Lib.hid (fun h q h1 h2 => by
              by_cases e : q = j
              · subst e
                rw [h] at hbb
                apply UInt8.toNat_inj.1
                rw [hx]
                simp at hbb
                exact hbb
              · exact hz.out rfl q h1 (by omega))
            have HN2 : Hid (bb = false → ¬ Fits (resum cs) M) := Lib.hid (fun h f => by
              have := ((fits_resum HLC.out M).1 f).2.2.2.2 j (by omega) hj
              rw [this] at hx
              rw [h, ← hx] at hbb
              exact absurd hbb (by decide))
            clear hx hz hno
            go_wp2_with fail
            go_round
            case rel => exact ⟨j + 1, bb, rfl, by go_num, fun _ => ⟨by omega, hM8⟩, by omega, by omega, HZ2, HN2⟩
            case measure => simp [intOf]; omega
          · have hjd : decide ((j : Int) < 252) = false := by simp; omega
            exact absurd ((HFORM.out.size (.inl h2) M).2 ⟨HMD.out, hM8, fun q h1 h2 => hz.out rfl q h1 (by omega)⟩) (HNO.out M)
    have e2 : ((kk : Int) == 2) = false := by simp; omega
    by_cases h3 : kk = 3
    · have e3 : ((kk : Int) == 3) = true := by simp; omega
      have hget := refget_ok (some ⟨g, 0, none⟩) 256 256 2 2 cs w3 HLC.out (by decide) (by decide) (by decide) HBY.out
      rw [fieldOf_two cs (by rw [HLC.out]; decide), leN_two] at hget
      obtain ⟨M, hM⟩ : ∃ M, (cs[2]'(by rw [HLC.out]; decide)).toNat + 256 * (cs[3]'(by rw [HLC.out]; decide)).toNat = M := ⟨_, rfl⟩
      rw [hM] at hget
      have hM16 : M < 65536 := by rw [← hM]; have := (cs[2]'(by rw [HLC.out]; decide)).toNat_lt; have := (cs[3]'(by rw [HLC.out]; decide)).toNat_lt; omega
      have hMd : M = (cs.getD 2 0).toNat + 256 * (cs.getD 3 0).toNat := by rw [← hM]; simp [List.getD, HLC.out]
      have HMD := Lib.hid hMd
      have HGET := Lib.hid hget
      clear hget hM hMd
      go_wp2_with (go_at_call 20; refine HGET.out.mono ?_; rintro e w' ⟨rfl, rfl⟩)
      go_loop [13, 17] (fun f i => ∃ (j : Nat) (b : Bool), f = .bool b ∧ i = .int .i64 j ∧ (b = true → j ≤ 252 ∧ M ≤ 248) ∧ 4 + M ≤ j ∧ j ≤ 70000 ∧ Hid (b = true → ∀ q, 4 + M ≤ q → q < j → cs.getD q 0 = 0) ∧ Hid (b = false → ¬ Fits (resum cs) M)) (fun _ i => 252 - (intOf i).toNat)
      case atStart => exact ⟨4 + M, decide ((M : Int) ≤ 248), rfl, by go_num, fun h => by simp at h; omega, Nat.le_refl _, by omega, Lib.hid (fun _ q h1 h2 => by omega), Lib.hid (fun h f => by have := f.le; simp at h; omega)⟩
      case round =>
        obtain ⟨j, b, rfl, rfl, hj1, hj2, hj7, hz, hno⟩ := hrel
        cases b
        · by_cases hj : j < 252
          · have hjd : decide ((j : Int) < 252) = true := by simp; omega
            clear hz hno
            have HWK := Lib.hid (works_any w3 (HT.out.below HB3.out))
            go_wp2_with fail
            refine HWK.out.mono ?_
            rintro e w5 ⟨rfl, hb5⟩
            have HB5 := Lib.hid (HB3.out.trans (hb5.mono HB3.out.size))
            clear hb5
            go_wp2_with fail
            go_ret
            exact ⟨rfl, HB5.out⟩
          · have hjd : decide ((j : Int) < 252) = false := by simp; omega
            clear hz hno
            have HWK := Lib.hid (works_any w3 (HT.out.below HB3.out))
            go_wp2_with fail
            refine HWK.out.mono ?_
            rintro e w5 ⟨rfl, hb5⟩
            have HB5 := Lib.hid (HB3.out.trans (hb5.mono HB3.out.size))
            clear hb5
            go_wp2_with fail
            go_ret
            exact ⟨rfl, HB5.out⟩
        · obtain ⟨hj3, hM8⟩ := hj1 rfl
          by_cases hj : j < 252
          · have hjd : decide ((j : Int) < 252) = true := by simp; omega
            have hcj := HCELL.out j (by omega)
            rw [Nat.zero_add] at hcj
            obtain ⟨x, hx⟩ : ∃ x, (cs.getD j 0).toNat = x := ⟨_, rfl⟩
            rw [hx] at hcj
            obtain ⟨bb, hbb⟩ : ∃ bb, ((x : Int) == 0) = bb := ⟨_, rfl⟩
            have HZ2 : Hid (bb = true → ∀ q, 4 + M ≤ q → q < j + 1 → cs.getD q 0 = 0) := Lib.hid (fun h q h1 h2 => by
              by_cases e : q = j
              · subst e
                rw [h] at hbb
                apply UInt8.toNat_inj.1
                rw [hx]
                simp at hbb
                exact hbb
              · exact hz.out rfl q h1 (by omega))
            have HN2 : Hid (bb = false → ¬ Fits (resum cs) M) := Lib.hid (fun h f => by
              have := ((fits_resum HLC.out M).1 f).2.2.2.2 j (by omega) hj
              rw [this] at hx
              rw [h, ← hx] at hbb
              exact absurd hbb (by decide))
            clear hx hz hno
            go_wp2_with fail
            go_round
            case rel => exact ⟨j + 1, bb, rfl, by go_num, fun _ => ⟨by omega, hM8⟩, by omega, by omega, HZ2, HN2⟩
            case measure => simp [intOf]; omega
          · have hjd : decide ((j : Int) < 252) = false := by simp; omega
            exact absurd ((HFORM.out.size (.inr h3) M).2 ⟨HMD.out, hM8, fun q h1 h2 => hz.out rfl q h1 (by omega)⟩) (HNO.out M)
    have e3 : ((kk : Int) == 3) = false := by simp; omega
    by_cases h4 : 4 + len ≤ kk
    · have e4 : decide ((4 : Int) + (len : Int) ≤ (kk : Int)) = true := by simp; omega
      have hv : ((v : Int) == 0) = false := by
        by_cases e : v = 0
        · exact absurd ((HFORM.out.far (by rw [HL.out]; exact h4) _).2 ⟨HVZ.out e, rfl⟩) (HNO.out _)
        · simpa using e
      have HWK := Lib.hid (works_any w3 (HT.out.below HB3.out))
      go_wp2_with fail
      refine HWK.out.mono ?_
      rintro e w5 ⟨rfl, hb5⟩
      have HB5 := Lib.hid (HB3.out.trans (hb5.mono HB3.out.size))
      clear hb5
      go_wp2_with fail
      go_ret
      exact ⟨rfl, HB5.out⟩
    have e4 : decide ((4 : Int) + (len : Int) ≤ (kk : Int)) = false := by simp; omega
    exact absurd ((HFORM.out.mid (by omega) (by rw [HL.out]; omega) _).2 rfl) (HNO.out _)
end Go.Proofs.YtlgoacpmacomnaaDoor
