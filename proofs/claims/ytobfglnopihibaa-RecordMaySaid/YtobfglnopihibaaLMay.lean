/- RecordMay. -/
import Derived.Test.YtobfglnopihibaaAn
namespace Go.Proofs.Ytobfglnopihibaa
open Go.RowKit Rcd

theorem head_fact (o : Ob) (kn n : Nat) (te : Bool) (hk : o.k.toNat = kn) (hn : o.ws.length = n) (ht : o.t.isEmpty = te) :
    headOk o = if kn = 1 then (decide ((2 : Int) ≤ (n : Int)) && (te && (o.tag == 0))) else if kn = 2 then (decide ((n : Int) ≤ 1) && (te && (decide (0 ≤ o.tag) && decide (o.tag < 65536)))) else if kn = 3 then (((n : Int) == 1) && (te && (o.tag == 0))) else if kn = 4 then (te && (o.tag == 0)) else if kn = 5 then (((n : Int) == 0) && (o.tag == 0)) else false := by
  have e : ∀ j : UInt8, o.k = j ↔ kn = j.toNat := fun j => by rw [← hk]; exact ⟨fun e => by rw [e], fun e => UInt8.toNat_inj.1 e⟩
  unfold headOk cntOk
  simp only [e, hn, ht]
  by_cases h1 : kn = 1
  · subst h1; rw [Bool.eq_iff_iff]; cases te <;> simp <;> omega
  by_cases h2 : kn = 2
  · subst h2; rw [Bool.eq_iff_iff]; cases te <;> simp <;> omega
  by_cases h3 : kn = 3
  · subst h3; rw [Bool.eq_iff_iff]; cases te <;> simp <;> omega
  by_cases h4 : kn = 4
  · subst h4; rw [Bool.eq_iff_iff]; cases te <;> simp <;> omega
  by_cases h5 : kn = 5
  · subst h5; rw [Bool.eq_iff_iff]; cases te <;> simp <;> omega
  simp [h1, h2, h3, h4, h5]

set_option maxRecDepth 20000 in
set_option maxHeartbeats 4000000 in
theorem maylaw (k : UInt8) (tag : Int) (A : Option Addr) (n c : Nat) (t : List UInt8) (ws : List Wd) (w : World) (h : OArg w k tag A n c t ws) :
    Calls Try.prog 7 #[.agg #[bv k, .int .i64 tag, .slice A n c, .string (str t)]] w fun e w' => e = .returned (.bool true) ∧ Below w.heap.size w w' := by
  obtain ⟨hn, hc, hm, hA, htg⟩ := h
  have HN := Lib.hid hn
  have HCM := Lib.hid (And.intro hc hm)
  obtain ⟨kn, hkn⟩ : ∃ kn, k.toNat = kn := ⟨_, rfl⟩
  have HKN := Lib.hid hkn
  have hbv : bv k = .int .u8 (kn : Int) := by rw [← hkn]; rfl
  have HBV := Lib.hid hbv
  obtain ⟨tl, htl⟩ : ∃ tl, t.length = tl := ⟨_, rfl⟩
  have HTL := Lib.hid htl
  rw [hbv]
  obtain ⟨w0, hw0⟩ : ∃ w0, w.alloc (.cells #[.int .u8 (kn : Int), .int .i64 tag, .slice A n c, .string (str t)] 24) = w0 := ⟨_, rfl⟩
  have hB0 : Blk w0 w.heap.size 24 #[.int .u8 (kn : Int), .int .i64 tag, .slice A n c, .string (str t)] := by rw [← hw0]; exact Blk.new _ _ _
  have hb0 : Below w.heap.size w w0 := by rw [← hw0]; exact (Below.refl _ _).alloc (Nat.le_refl _) _
  have HQ : Hid (∀ W, Below w0.heap.size w0 W → Words W A ws ∧ W.cell? ⟨w.heap.size, 0, none⟩ = some (.int .u8 (kn : Int)) ∧ W.cell? ⟨w.heap.size, 1, none⟩ = some (.int .i64 tag) ∧ W.cell? ⟨w.heap.size, 2, none⟩ = some (.slice A n c) ∧ W.cell? ⟨w.heap.size, 3, none⟩ = some (.string (str t))) := Lib.hid (fun W hW =>
    ⟨(hA.below hb0).below hW, (hW.cell (p := ⟨w.heap.size, 0, none⟩) hB0.lt).trans (hB0.cell 0), (hW.cell (p := ⟨w.heap.size, 1, none⟩) hB0.lt).trans (hB0.cell 1), (hW.cell (p := ⟨w.heap.size, 2, none⟩) hB0.lt).trans (hB0.cell 2), (hW.cell (p := ⟨w.heap.size, 3, none⟩) hB0.lt).trans (hB0.cell 3)⟩)
  have hlg := large_any k tag A n c t w0 tl htl
  rw [hbv] at hlg
  have HB0 := Lib.hid hb0
  have HA := Lib.hid hA
  clear hB0 hb0 hA hn hc hm hkn hbv htl
  obtain ⟨_, c0, c1, c2, c3⟩ := HQ.out w0 (Below.refl _ _)
  go_enter Try.func7, Try.ntmps7
  by_cases hbig : 2048 < n ∨ 32768 < tl
  · have hv : (decide (2048 < n) || decide (32768 < tl)) = true := by simpa using hbig
    rw [hv] at hlg
    have HLG := Lib.hid hlg
    clear hlg hv
    go_wp2_with fail
    refine HLG.out.mono ?_
    rintro e w1 ⟨rfl, hb1⟩
    have HB1 := Lib.hid (HB0.out.trans (hb1.mono HB0.out.size))
    have HW := Lib.hid (works_any w1)
    clear hb1 HLG c0 c1 c2 c3
    go_wp2_with fail
    refine HW.out.mono ?_
    rintro e w2 ⟨rfl, hb2⟩
    have HB2 := Lib.hid (HB1.out.trans (hb2.mono HB1.out.size))
    clear hb2
    go_wp2_with fail
    go_ret
    exact ⟨rfl, HB2.out⟩
  have hv : (decide (2048 < n) || decide (32768 < tl)) = false := by simpa using hbig
  rw [hv] at hlg
  have HLG := Lib.hid hlg
  have hn2 : n ≤ 2048 := by omega
  have ht3 : tl ≤ 32768 := by omega
  clear hlg hv hbig
  go_wp2_with fail
  refine HLG.out.mono ?_
  rintro e w1 ⟨rfl, hb1⟩
  have HB1 : Hid (Below w0.heap.size w0 w1) := Lib.hid hb1
  clear hb1 HLG c0 c1 c2 c3
  obtain ⟨hw1, c0, c1, c2, c3⟩ := HQ.out w1 HB1.out
  have HTG := Lib.hid htg
  obtain ⟨te, hte⟩ : ∃ q, (str t).toList.isEmpty = q := ⟨_, rfl⟩
  obtain ⟨hd, hhd⟩ : ∃ hd, headOk ⟨k, tag, ws, t⟩ = hd := ⟨_, rfl⟩
  have hfact := head_fact ⟨k, tag, ws, t⟩ kn n te HKN.out HN.out (by rw [← hte, str_toList])
  rw [hhd] at hfact
  dsimp only at hfact
  have hts : (str t).size = tl := by rw [str_size]; exact HTL.out
  clear hw1 htg
  go_upto_block 0 with fail
  go_cut [4] from 17 to 82 (fun s wx => s = .bool hd ∧ wx = w1)
  case first =>
    by_cases h1 : kn = 1
    · rw [if_pos h1] at hfact
      subst h1
      obtain ⟨b1, hb1⟩ : ∃ b, decide ((2 : Int) ≤ (n : Int)) = b := ⟨_, rfl⟩
      obtain ⟨b2, hb2⟩ : ∃ b, (tag == 0) = b := ⟨_, rfl⟩
      rw [hb1, hb2] at hfact
      cases b1 <;> cases te <;> cases b2
      all_goals
        go_wp2_with fail
        go_meet
        exact ⟨by rw [hfact]; rfl, rfl⟩
    rw [if_neg h1] at hfact
    have e1 : ((kn : Int) == 1) = false := by simp; omega
    by_cases h2 : kn = 2
    · rw [if_pos h2] at hfact
      subst h2
      obtain ⟨b1, hb1⟩ : ∃ b, decide ((n : Int) ≤ 1) = b := ⟨_, rfl⟩
      obtain ⟨b2, hb2⟩ : ∃ b, decide (0 ≤ tag) = b := ⟨_, rfl⟩
      obtain ⟨b3, hb3⟩ : ∃ b, decide (tag < 65536) = b := ⟨_, rfl⟩
      rw [hb1, hb2, hb3] at hfact
      cases b1 <;> cases te <;> cases b2 <;> cases b3
      all_goals
        go_wp2_with fail
        go_meet
        exact ⟨by rw [hfact]; rfl, rfl⟩
    rw [if_neg h2] at hfact
    have e2 : ((kn : Int) == 2) = false := by simp; omega
    by_cases h3 : kn = 3
    · rw [if_pos h3] at hfact
      subst h3
      obtain ⟨b1, hb1⟩ : ∃ b, ((n : Int) == 1) = b := ⟨_, rfl⟩
      obtain ⟨b2, hb2⟩ : ∃ b, (tag == 0) = b := ⟨_, rfl⟩
      rw [hb1, hb2] at hfact
      cases b1 <;> cases te <;> cases b2
      all_goals
        go_wp2_with fail
        go_meet
        exact ⟨by rw [hfact]; rfl, rfl⟩
    rw [if_neg h3] at hfact
    have e3 : ((kn : Int) == 3) = false := by simp; omega
    by_cases h4 : kn = 4
    · rw [if_pos h4] at hfact
      subst h4
      obtain ⟨b2, hb2⟩ : ∃ b, (tag == 0) = b := ⟨_, rfl⟩
      rw [hb2] at hfact
      cases te <;> cases b2
      all_goals
        go_wp2_with fail
        go_meet
        exact ⟨by rw [hfact]; rfl, rfl⟩
    rw [if_neg h4] at hfact
    have e4 : ((kn : Int) == 4) = false := by simp; omega
    by_cases h5 : kn = 5
    · rw [if_pos h5] at hfact
      subst h5
      obtain ⟨b1, hb1⟩ : ∃ b, ((n : Int) == 0) = b := ⟨_, rfl⟩
      obtain ⟨b2, hb2⟩ : ∃ b, (tag == 0) = b := ⟨_, rfl⟩
      rw [hb1, hb2] at hfact
      cases b1 <;> cases b2
      all_goals
        go_wp2_with fail
        go_meet
        exact ⟨by rw [hfact]; rfl, rfl⟩
    rw [if_neg h5] at hfact
    have e5 : ((kn : Int) == 5) = false := by simp; omega
    go_wp2_with fail
    go_meet
    exact ⟨by rw [hfact], rfl⟩
  case rest =>
    obtain ⟨rfl, hwc⟩ := hcut
    obtain rfl : w1 = wc := hwc.symm
    have HHD := Lib.hid hhd
    clear hfact hte hhd c0 c1 c2 c3
    go_wp2_with fail
    go_loopw [4, 5, 6] (fun fv iv xv wr => ∃ (i : Nat) (f : Bool), i ≤ n ∧ fv = .bool f ∧ iv = .int .i64 (i : Int) ∧ Hid (f = (headOk ⟨k, tag, ws, t⟩ && (ws.take i).all wordB)) ∧ Hid (Below w0.heap.size w0 wr)) (fun _ iv _ _ => n - (intOf iv).toNat)
    case atStart => exact ⟨0, hd, Nat.zero_le _, rfl, rfl, Lib.hid (by rw [HHD.out]; simp), HB1⟩
    case round =>
      obtain ⟨i, f, hi, rfl, rfl, hF, hB⟩ := hrel
      obtain ⟨hwr, c0, c1, c2, c3⟩ := HQ.out wr hB.out
      by_cases hlt : i < n
      · have hdi : decide ((i : Int) < (n : Int)) = true := by simpa using hlt
        obtain ⟨x, hx⟩ : ∃ x, ws[i]? = some x := ⟨_, List.getElem?_eq_getElem (by rw [HN.out]; exact hlt)⟩
        obtain ⟨bx, off, rfl, hblt, e0, e1, hr⟩ := hwr i x hx
        have HX := Lib.hid hx
        obtain ⟨kx, nx⟩ := x
        dsimp only at e0 e1 hr
        obtain ⟨un, hun⟩ : ∃ un, kx.toNat = un := ⟨_, rfl⟩
        have hbv : bv kx = .int .u8 (un : Int) := by rw [← hun]; rfl
        rw [hbv] at e0
        have e1' : kx = 1 ↔ un = 1 := by rw [← hun]; exact ⟨fun e => by rw [e]; rfl, fun e => UInt8.toNat_inj.1 (by rw [e]; rfl)⟩
        have e2' : kx = 2 ↔ un = 2 := by rw [← hun]; exact ⟨fun e => by rw [e]; rfl, fun e => UInt8.toNat_inj.1 (by rw [e]; rfl)⟩
        have HB3 : Hid (Below w0.heap.size w0 (wr.alloc (.cells #[.int .u8 (un : Int), .int .i64 nx] 44))) := Lib.hid (hB.out.alloc hB.out.size _)
        have HF2 : Hid ((f && wordB ⟨kx, nx⟩) = (headOk ⟨k, tag, ws, t⟩ && (ws.take (i + 1)).all wordB)) := Lib.hid (by
          obtain ⟨h1, h2⟩ := List.getElem?_eq_some_iff.1 HX.out
          rw [hF.out, List.take_succ_eq_append_getElem h1, h2, List.all_append]
          simp [Bool.and_assoc])
        have HWB : Hid (wordB ⟨kx, nx⟩ = if un = 1 then decide ((-4611686018427387904 : Int) ≤ nx) && decide (nx ≤ 4611686018427387903) else if un = 2 then decide ((1 : Int) ≤ nx) && decide (nx ≤ 16384) else false) := Lib.hid (by unfold wordB; simp only [e1', e2'])
        clear hx hbv hun e1' e2' hwr hB hF
        by_cases u1 : un = 1
        · subst u1
          obtain ⟨b1, hb1⟩ : ∃ b, decide (nx ≤ (4611686018427387903 : Int)) = b := ⟨_, rfl⟩
          obtain ⟨b2, hb2⟩ : ∃ b, decide ((-4611686018427387904 : Int) ≤ nx) = b := ⟨_, rfl⟩
          have HW2 : Hid (wordB ⟨kx, nx⟩ = (b2 && b1)) := Lib.hid (by rw [HWB.out, ← hb1, ← hb2, if_pos rfl])
          rw [HW2.out] at HF2
          cases f <;> cases b1 <;> cases b2
          all_goals
            go_wp2_with fail
            go_roundw
            case rel => exact ⟨i + 1, _, by omega, rfl, by go_num, HF2, HB3⟩
            case measure => simp [intOf]; omega
        have n1 : ((un : Int) == 1) = false := by simp; omega
        by_cases u2 : un = 2
        · subst u2
          obtain ⟨b1, hb1⟩ : ∃ b, decide ((1 : Int) ≤ nx) = b := ⟨_, rfl⟩
          obtain ⟨b2, hb2⟩ : ∃ b, decide (nx ≤ (16384 : Int)) = b := ⟨_, rfl⟩
          have HW2 : Hid (wordB ⟨kx, nx⟩ = (b1 && b2)) := Lib.hid (by rw [HWB.out, ← hb1, ← hb2, if_neg (by decide), if_pos rfl])
          rw [HW2.out] at HF2
          cases f <;> cases b1 <;> cases b2
          all_goals
            go_wp2_with fail
            go_roundw
            case rel => exact ⟨i + 1, _, by omega, rfl, by go_num, HF2, HB3⟩
            case measure => simp [intOf]; omega
        have n2 : ((un : Int) == 2) = false := by simp; omega
        rw [HWB.out, if_neg u1, if_neg u2, Bool.and_false] at HF2
        clear u1 u2
        go_wp2_with fail
        go_roundw
        case rel => exact ⟨i + 1, false, by omega, rfl, by go_num, HF2, HB3⟩
        case measure => simp [intOf]; omega
      · obtain rfl : n = i := by omega
        have hdi : decide ((n : Int) < (n : Int)) = false := by simp
        have HMF : Hid (mayB ⟨k, tag, ws, t⟩ = f) := Lib.hid (by
          have := hF.out
          rw [List.take_of_length_le (by rw [HN.out]; exact Nat.le_refl _)] at this
          rw [this]; rfl)
        have h2 := (write_any k tag A n c t ws wr HN.out hwr (by omega) HTG.out (by rw [HTL.out]; omega)).mono fun e w' h => h.ans
        rw [HBV.out] at h2
        have HBr := Lib.hid hB.out
        obtain ⟨X, hX⟩ : ∃ X, (writeX ⟨k, tag, ws, t⟩).length = X := ⟨_, rfl⟩
        have hsz : sizeO ⟨k, tag, ws, t⟩ = 5 + 9 * n + tl := by unfold sizeO; dsimp only; rw [HN.out, HTL.out]
        have HEF : Hid (writeE ⟨k, tag, ws, t⟩ = if f then (if 8192 < 5 + 9 * n + tl then 6 else 0) else 1) := Lib.hid (by unfold writeE; rw [HMF.out, hsz])
        obtain ⟨E, hE⟩ : ∃ E, writeE ⟨k, tag, ws, t⟩ = E := ⟨_, rfl⟩
        rw [hE] at HEF
        rw [hX, hE] at h2
        have H2 : Hid (Calls Try.prog 12 #[.agg #[.int .u8 (kn : Int), .int .i64 tag, .slice A n c, .string (str t)]] wr fun e w' => ∃ A2 d2, e = .returned (.tuple #[.slice A2 X d2, .int .i64 E]) ∧ Below wr.heap.size wr w') := Lib.hid (h2.mono fun e w' ⟨A2, d2, h1, _, h3⟩ => ⟨A2, d2, h1, h3⟩)
        clear h2 hwr hX hE hsz hF hB HMF
        go_wp2_with fail
        refine H2.out.mono ?_
        rintro e w2 ⟨A2, d2, rfl, hb2⟩
        have HB2 : Hid (Below w0.heap.size w0 w2) := Lib.hid (HBr.out.trans (hb2.mono HBr.out.size))
        clear hb2 H2 c0 c1 c2 c3
        obtain ⟨_, c0, c1, c2, c3⟩ := HQ.out w2 HB2.out
        cases f
        · obtain rfl : E = 1 := HEF.out
          have HW := Lib.hid (works_any w2)
          go_wp2_with fail
          refine HW.out.mono ?_
          rintro e wz ⟨rfl, hbz⟩
          have HBZ := Lib.hid (HB0.out.trans ((HB2.out.trans (hbz.mono HB2.out.size)).mono HB0.out.size))
          clear hbz
          go_wp2_with fail
          go_ret
          exact ⟨rfl, HBZ.out⟩
        · by_cases hbg : 8192 < 5 + 9 * n + tl
          · have hbi : decide ((8192 : Int) < 5 + 9 * (n : Int) + (tl : Int)) = true := by simp; omega
            obtain rfl : E = 6 := by rw [HEF.out, if_pos rfl, if_pos hbg]
            clear hbg
            have HW := Lib.hid (works_any w2)
            go_wp2_with fail
            refine HW.out.mono ?_
            rintro e wz ⟨rfl, hbz⟩
            have HBZ := Lib.hid (HB0.out.trans ((HB2.out.trans (hbz.mono HB2.out.size)).mono HB0.out.size))
            clear hbz
            go_wp2_with fail
            go_ret
            exact ⟨rfl, HBZ.out⟩
          · have hbi : decide ((8192 : Int) < 5 + 9 * (n : Int) + (tl : Int)) = false := by simp; omega
            obtain rfl : E = 0 := by rw [HEF.out, if_pos rfl, if_neg hbg]
            clear hbg
            have HW := Lib.hid (works_any w2)
            go_wp2_with fail
            refine HW.out.mono ?_
            rintro e wz ⟨rfl, hbz⟩
            have HBZ := Lib.hid (HB0.out.trans ((HB2.out.trans (hbz.mono HB2.out.size)).mono HB0.out.size))
            clear hbz
            go_wp2_with fail
            go_ret
            exact ⟨rfl, HBZ.out⟩
end Go.Proofs.Ytobfglnopihibaa
