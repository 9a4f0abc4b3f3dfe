/- The reference's May, Size. -/
import Derived.Test.YtobfglnopihibaaJ
import Derived.Deep.CutBlock
namespace Go.Proofs.Ytobfglnopihibaa
open Go.RowKit Rcd

set_option maxRecDepth 20000 in
set_option maxHeartbeats 2000000 in
theorem size_any (k : UInt8) (tag : Int) (A : Option Addr) (n c : Nat) (t : List UInt8) (w : World) (tl : Nat) (htl : t.length = tl) (hl : n ≤ 100000) (hl2 : tl ≤ 4503599627370496) :
    Calls Try.prog 26 #[.agg #[bv k, .int .i64 tag, .slice A n c, .string (str t)]] w fun e w' => e = .returned (.int .i64 (5 + 9 * (n : Int) + (tl : Int))) ∧ Below w.heap.size w w' := by
  have hts : (str t).size = tl := by rw [str_size]; exact htl
  obtain ⟨w0, hw0⟩ : ∃ w0, w.alloc (.cells #[bv k, .int .i64 tag, .slice A n c, .string (str t)] 24) = w0 := ⟨_, rfl⟩
  have hB0 : Blk w0 w.heap.size 24 #[bv k, .int .i64 tag, .slice A n c, .string (str t)] := by rw [← hw0]; exact Blk.new _ _ _
  have HB : Hid (Below w.heap.size w w0) := Lib.hid (by rw [← hw0]; exact (Below.refl _ _).alloc (Nat.le_refl _) _)
  have c2 : w0.cell? ⟨w.heap.size, 2, none⟩ = some (.slice A n c) := hB0.cell 2
  have c3 : w0.cell? ⟨w.heap.size, 3, none⟩ = some (.string (str t)) := hB0.cell 3
  clear hB0 htl
  go_enter Try.func26, Try.ntmps26
  go_wp2_with fail
  go_ret
  exact ⟨rfl, HB.out⟩

set_option maxRecDepth 20000 in
set_option maxHeartbeats 2000000 in
theorem refmay_any (k : UInt8) (tag : Int) (A : Option Addr) (n c : Nat) (t : List UInt8) (ws : List Wd) (w : World) (hn : ws.length = n) (hA : Words w A ws) (hl : n ≤ 100000) :
    Calls Try.prog 25 #[.agg #[bv k, .int .i64 tag, .slice A n c, .string (str t)]] w fun e w' => e = .returned (.bool (mayB ⟨k, tag, ws, t⟩)) ∧ Below w.heap.size w w' := by
  have HN := Lib.hid hn
  obtain ⟨kn, hkn⟩ : ∃ kn, k.toNat = kn := ⟨_, rfl⟩
  have hbv : bv k = .int .u8 (kn : Int) := by rw [← hkn]; rfl
  have hklt : kn < 256 := by rw [← hkn]; exact k.toNat_lt
  rw [hbv]
  obtain ⟨w0, hw0⟩ : ∃ w0, w.alloc (.cells #[.int .u8 (kn : Int), .int .i64 tag, .slice A n c, .string (str t)] 24) = w0 := ⟨_, rfl⟩
  have hB0 : Blk w0 w.heap.size 24 #[.int .u8 (kn : Int), .int .i64 tag, .slice A n c, .string (str t)] := by rw [← hw0]; exact Blk.new _ _ _
  have hb0 : Below w.heap.size w w0 := by rw [← hw0]; exact (Below.refl _ _).alloc (Nat.le_refl _) _
  have d0 : w0.cell? ⟨w.heap.size, 0, none⟩ = some (.int .u8 (kn : Int)) := hB0.cell 0
  have d1 : w0.cell? ⟨w.heap.size, 1, none⟩ = some (.int .i64 tag) := hB0.cell 1
  have d2 : w0.cell? ⟨w.heap.size, 2, none⟩ = some (.slice A n c) := hB0.cell 2
  have d3 : w0.cell? ⟨w.heap.size, 3, none⟩ = some (.string (str t)) := hB0.cell 3
  have HB0 := Lib.hid hB0
  have HBL := Lib.hid hb0
  have HA := Lib.hid (hA.below hb0)
  clear hbv hB0 hb0 hA
  go_enter Try.func25, Try.ntmps25
  have HNO : Hid (headOk ⟨k, tag, ws, t⟩ = false → mayB ⟨k, tag, ws, t⟩ = false) := Lib.hid (fun h => by unfold mayB; rw [h]; rfl)
  have HC0 : Hid (cntOk k n = false → mayB ⟨k, tag, ws, t⟩ = false) := Lib.hid (fun h => HNO.out (by unfold headOk; dsimp only; rw [HN.out, h]; rfl))
  have e : ∀ j : UInt8, k = j ↔ kn = j.toNat := fun j => by rw [← hkn]; exact ⟨fun e => by rw [e], fun e => UInt8.toNat_inj.1 e⟩
  have HE := Lib.hid e
  have HCN : Hid (cntOk k n = if kn = 1 then decide (2 ≤ n) else if kn = 2 then decide (n ≤ 1) else if kn = 3 then decide (n = 1) else if kn = 4 then true else if kn = 5 then decide (n = 0) else false) := Lib.hid (by unfold cntOk; simp only [e]; rfl)
  clear e
  go_upto_block 0 with fail
  go_cut [] from 11 to 28 (fun wx => Hid (cntOk k n = true) ∧ wx = w0)
  case first =>
    by_cases h1 : kn = 1
    · subst h1
      by_cases hc : n < 2
      · have hci : (n : Int) < 2 := by omega
        go_wp2_with fail
        go_ret
        exact ⟨by rw [HC0.out (by rw [HCN.out]; simp; omega)]; rfl, HBL.out⟩
      · have hci : ¬ (n : Int) < 2 := by omega
        go_wp2_with fail
        go_meet
        exact ⟨Lib.hid (by rw [HCN.out]; simp; omega), rfl⟩
    have e1 : ((kn : Int) == 1) = false := by simp; omega
    by_cases h2 : kn = 2
    · subst h2
      by_cases hc : 1 < n
      · have hci : (1 : Int) < n := by omega
        go_wp2_with fail
        go_ret
        exact ⟨by rw [HC0.out (by rw [HCN.out]; simp; omega)]; rfl, HBL.out⟩
      · have hci : ¬ (1 : Int) < n := by omega
        go_wp2_with fail
        go_meet
        exact ⟨Lib.hid (by rw [HCN.out]; simp; omega), rfl⟩
    have e2 : ((kn : Int) == 2) = false := by simp; omega
    by_cases h3 : kn = 3
    · subst h3
      by_cases hc : n = 1
      · have hci : ((n : Int) != 1) = false := by simp; omega
        have HCc := Lib.hid hc
        clear hc
        go_wp2_with fail
        go_meet
        exact ⟨Lib.hid (by have := HCc.out; rw [HCN.out]; simp; omega), rfl⟩
      · have hci : ((n : Int) != 1) = true := by simp; omega
        go_wp2_with fail
        go_ret
        exact ⟨by rw [HC0.out (by rw [HCN.out]; simp; omega)]; rfl, HBL.out⟩
    have e3 : ((kn : Int) == 3) = false := by simp; omega
    by_cases h4 : kn = 4
    · subst h4
      go_wp2_with fail
      go_meet
      exact ⟨Lib.hid (by rw [HCN.out]; simp), rfl⟩
    have e4 : ((kn : Int) == 4) = false := by simp; omega
    by_cases h5 : kn = 5
    · subst h5
      by_cases hc : n = 0
      · have hci : ((n : Int) != 0) = false := by simp; omega
        have HCc := Lib.hid hc
        clear hc
        go_wp2_with fail
        go_meet
        exact ⟨Lib.hid (by have := HCc.out; rw [HCN.out]; simp; omega), rfl⟩
      · have hci : ((n : Int) != 0) = true := by simp; omega
        go_wp2_with fail
        go_ret
        exact ⟨by rw [HC0.out (by rw [HCN.out]; simp; omega)]; rfl, HBL.out⟩
    have e5 : ((kn : Int) == 5) = false := by simp; omega
    go_wp2_with fail
    go_ret
    exact ⟨by rw [HC0.out (by rw [HCN.out]; simp [h1, h2, h3, h4, h5])]; rfl, HBL.out⟩
  case rest =>
    obtain ⟨hcn, hwc⟩ := hcut
    obtain rfl : w0 = wc := hwc.symm
    obtain ⟨q1, hq1⟩ : ∃ q, ((kn : Int) != 5) = q := ⟨_, rfl⟩
    obtain ⟨te, hte⟩ : ∃ q, (str t).toList.isEmpty = q := ⟨_, rfl⟩
    obtain ⟨g1, hg1⟩ : ∃ g, decide (tag < 0) = g := ⟨_, rfl⟩
    obtain ⟨g2, hg2⟩ : ∃ g, decide (65535 < tag) = g := ⟨_, rfl⟩
    obtain ⟨g3, hg3⟩ : ∃ g, ((kn : Int) != 2) = g := ⟨_, rfl⟩
    obtain ⟨g4, hg4⟩ : ∃ g, (tag != 0) = g := ⟨_, rfl⟩
    obtain ⟨r, hr⟩ : ∃ r, ((q1 && !te) || ((g3 && g4) || (g1 || g2))) = r := ⟨_, rfl⟩
    have HHD : Hid (headOk ⟨k, tag, ws, t⟩ = !r) := Lib.hid (by
      have u1 : decide (k = 5) = !q1 := by rw [← hq1, Bool.eq_iff_iff]; simp [HE.out]; omega
      have u2 : decide (k = 2) = !g3 := by rw [← hg3, Bool.eq_iff_iff]; simp [HE.out]; omega
      have u3 : decide (0 ≤ tag) = !g1 := by rw [← hg1, Bool.eq_iff_iff]; simp
      have u4 : decide (tag ≤ 65535) = !g2 := by rw [← hg2, Bool.eq_iff_iff]; simp
      have u5 : decide (tag = 0) = !g4 := by rw [← hg4, Bool.eq_iff_iff]; simp
      have u6 : t.isEmpty = te := by rw [← hte, str_toList]
      unfold headOk
      dsimp only
      rw [HN.out, hcn.out, u1, u2, u3, u4, u5, u6, ← hr]
      cases q1 <;> cases te <;> cases g1 <;> cases g2 <;> cases g3 <;> cases g4 <;> rfl)
    clear HCN HE
    go_upto_region 17 with fail
    go_cut [56] from 29 to 56 (fun s wx => s = .bool r ∧ wx = w0)
    case first =>
      cases q1 <;> cases te <;> cases g3 <;> cases g4 <;> cases g1
      all_goals
        go_wp2_with fail
        go_meet
        exact ⟨by rw [← hr]; rfl, rfl⟩
    case rest =>
      obtain ⟨rfl, hwc⟩ := hcut
      obtain rfl : w0 = wc := hwc.symm
      clear hq1 hte hg1 hg2 hg3 hg4 hr
      cases r
      · have HM : Hid (mayB ⟨k, tag, ws, t⟩ = ws.all wordB) := Lib.hid (by unfold mayB; rw [HHD.out]; rfl)
        go_wp2_with fail
        go_loopw [4, 5] (fun iv xv wr => ∃ i : Nat, i ≤ n ∧ iv = .int .i64 (i : Int) ∧ Hid (Below w0.heap.size w0 wr ∧ ∀ x ∈ ws.take i, wordB x = true)) (fun iv _ _ => n - (intOf iv).toNat)
        case atStart => exact ⟨0, Nat.zero_le _, rfl, Lib.hid ⟨Below.refl _ _, fun x hx => by simp at hx⟩⟩
        case round =>
          obtain ⟨i, hi, rfl, hJ⟩ := hrel
          have c2 : wr.cell? ⟨w.heap.size, 2, none⟩ = some (.slice A n c) := (hJ.out.1.cell (p := ⟨w.heap.size, 2, none⟩) HB0.out.lt).trans d2
          clear d0 d1 d2 d3
          by_cases hlt : i < n
          · have hd : decide ((i : Int) < (n : Int)) = true := by simpa using hlt
            obtain ⟨x, hx⟩ : ∃ x, ws[i]? = some x := ⟨_, List.getElem?_eq_getElem (by rw [HN.out]; exact hlt)⟩
            obtain ⟨bx, off, rfl, hblt, e0, e1, hr⟩ := HA.out.below hJ.out.1 i x hx
            have HX := Lib.hid hx
            obtain ⟨kx, nx⟩ := x
            dsimp only at e0 e1 hr
            obtain ⟨un, hun⟩ : ∃ un, kx.toNat = un := ⟨_, rfl⟩
            have hbv : bv kx = .int .u8 (un : Int) := by rw [← hun]; rfl
            rw [hbv] at e0
            have e1' : kx = 1 ↔ un = 1 := by rw [← hun]; exact ⟨fun e => by rw [e]; rfl, fun e => UInt8.toNat_inj.1 (by rw [e]; rfl)⟩
            have e2' : kx = 2 ↔ un = 2 := by rw [← hun]; exact ⟨fun e => by rw [e]; rfl, fun e => UInt8.toNat_inj.1 (by rw [e]; rfl)⟩
            have HB3 := Lib.hid (hJ.out.1.alloc hJ.out.1.size (.cells #[.int .u8 (un : Int), .int .i64 nx] 44))
            have HJ2 := Lib.hid hJ.out.2
            have hbad : wordB ⟨kx, nx⟩ = false → mayB ⟨k, tag, ws, t⟩ = false := fun h => by
              rw [HM.out, List.all_eq_false]
              exact ⟨_, List.mem_of_getElem? HX.out, by rw [h]; simp⟩
            have HBAD := Lib.hid hbad
            have hok : wordB ⟨kx, nx⟩ = true → ∀ x ∈ ws.take (i + 1), wordB x = true := fun h x hx => by
              obtain ⟨h1, h2⟩ := List.getElem?_eq_some_iff.1 HX.out
              rw [List.take_succ_eq_append_getElem h1, h2] at hx
              rcases List.mem_append.1 hx with h' | h'
              · exact HJ2.out x h'
              · rw [List.mem_singleton.1 h']; exact h
            have HOK := Lib.hid hok
            have HWB : Hid (wordB ⟨kx, nx⟩ = if un = 1 then decide ((-4611686018427387904 : Int) ≤ nx) && decide (nx ≤ 4611686018427387903) else if un = 2 then decide ((1 : Int) ≤ nx) && decide (nx ≤ 16384) else false) := Lib.hid (by unfold wordB; simp only [e1', e2'])
            clear hx hbv hJ hun hbad hok e1' e2'
            by_cases u1 : un = 1
            · subst u1
              obtain ⟨b1, hb1⟩ : ∃ b, decide (nx < (-4611686018427387904 : Int)) = b := ⟨_, rfl⟩
              obtain ⟨b2, hb2⟩ : ∃ b, decide ((4611686018427387903 : Int) < nx) = b := ⟨_, rfl⟩
              have HW2 : Hid (wordB ⟨kx, nx⟩ = (!b1 && !b2)) := Lib.hid (by rw [HWB.out, ← hb1, ← hb2, if_pos rfl, Bool.eq_iff_iff]; simp)
              cases b1
              · cases b2
                · go_wp2_with fail
                  go_roundw
                  case rel => exact ⟨i + 1, by omega, by go_num, Lib.hid ⟨HB3.out, HOK.out (by rw [HW2.out]; rfl)⟩⟩
                  case measure => simp [intOf]; omega
                · go_wp2_with fail
                  go_ret
                  exact ⟨by rw [HBAD.out (by rw [HW2.out]; rfl)]; rfl, HBL.out.trans (HB3.out.mono HBL.out.size)⟩
              · go_wp2_with fail
                go_ret
                exact ⟨by rw [HBAD.out (by rw [HW2.out]; rfl)]; rfl, HBL.out.trans (HB3.out.mono HBL.out.size)⟩
            have n1 : ((un : Int) == 1) = false := by simp; omega
            by_cases u2 : un = 2
            · subst u2
              obtain ⟨b1, hb1⟩ : ∃ b, decide (nx < (1 : Int)) = b := ⟨_, rfl⟩
              obtain ⟨b2, hb2⟩ : ∃ b, decide ((16384 : Int) < nx) = b := ⟨_, rfl⟩
              have HW2 : Hid (wordB ⟨kx, nx⟩ = (!b1 && !b2)) := Lib.hid (by rw [HWB.out, ← hb1, ← hb2, if_neg (by decide), if_pos rfl, Bool.eq_iff_iff]; simp)
              cases b1
              · cases b2
                · go_wp2_with fail
                  go_roundw
                  case rel => exact ⟨i + 1, by omega, by go_num, Lib.hid ⟨HB3.out, HOK.out (by rw [HW2.out]; rfl)⟩⟩
                  case measure => simp [intOf]; omega
                · go_wp2_with fail
                  go_ret
                  exact ⟨by rw [HBAD.out (by rw [HW2.out]; rfl)]; rfl, HBL.out.trans (HB3.out.mono HBL.out.size)⟩
              · go_wp2_with fail
                go_ret
                exact ⟨by rw [HBAD.out (by rw [HW2.out]; rfl)]; rfl, HBL.out.trans (HB3.out.mono HBL.out.size)⟩
            have n2 : ((un : Int) == 2) = false := by simp; omega
            go_wp2_with fail
            go_ret
            exact ⟨by rw [HBAD.out (by rw [HWB.out, if_neg u1, if_neg u2])]; rfl, HBL.out.trans (HB3.out.mono HBL.out.size)⟩
          · obtain rfl : n = i := by omega
            have hd : decide ((n : Int) < (n : Int)) = false := by simp
            have hm : Hid (ws.all wordB = true) := Lib.hid (by
              rw [List.all_eq_true]
              have := hJ.out.2
              rw [List.take_of_length_le (by rw [HN.out]; exact Nat.le_refl _)] at this
              exact this)
            have HB5 := Lib.hid hJ.out.1
            clear hJ
            go_wp2_with fail
            go_ret
            exact ⟨by rw [HM.out, hm.out]; rfl, HBL.out.trans (HB5.out.mono HBL.out.size)⟩
      · go_wp2_with fail
        go_ret
        exact ⟨by rw [HNO.out (by rw [HHD.out]; rfl)]; rfl, HBL.out⟩
end Go.Proofs.Ytobfglnopihibaa
