/- SlotsRoom. -/
import Derived.Test.YtipjokbkgcepbaaV
import Derived.Test.YtipjokbkgcepbaaO
namespace Go.Proofs.Ytipjokbkgcepbaa
open Go.RowKit Slt

/-- A page of the call's own, between the rounds. -/
structure PgI (w wr : World) (pv : Value) : Prop where
  ex : ∃ pg g c, pv = .slice (some ⟨g, 0, none⟩) pg.length c ∧ Rw wr g pg.length c pg ∧ Ok pg
  bel : Below w.heap.size w wr
/-- Put, where what is made is not looked at. -/
theorem put_is (A B : Option Addr) (len cap l2 c2 : Nat) (p rec : List UInt8) (w : World) (hlen : p.length = len) (hA : Bytes w A p) (hcap : len ≤ cap) (hcm : cap ≤ maxLen)
    (hl2 : rec.length = l2) (hB : Bytes w B rec) (hc2 : l2 ≤ c2) (hm2 : c2 ≤ maxLen) :
    Calls Try.prog 23 #[.slice A len cap, .slice B l2 c2] w fun e w' => ∃ A' l' c' k, e = .returned (.tuple #[.slice A' l' c', .int .i64 k, .bool (decide (mayPut p rec))]) ∧ Below w.heap.size w w' := by
  refine (put_any A B len cap l2 c2 p rec w hlen hA hcap hcm hl2 hB hc2 hm2).mono ?_
  rintro e w' (⟨h, rfl, h2⟩ | ⟨g, c, h, rfl, _, _, h4⟩)
  · exact ⟨_, _, _, _, by rw [decide_eq_false h], h2⟩
  · exact ⟨_, _, _, _, by rw [decide_eq_true h], h4⟩
theorem mk8_bytes (W : World) (n : Nat) : Bytes (W.alloc (.cells (mk8 n) 5)) (some ⟨W.heap.size, 0, none⟩) (List.replicate n 0) := by
  have h := Blk.new W 5 (mk8 n)
  refine Bytes.of_blk h fun k c hk => ?_
  have hkn : k < n := by have := (List.getElem?_eq_some_iff.1 hk).1; simpa using this
  rw [mk8_eq]
  rw [List.getElem?_replicate, if_pos hkn] at hk
  cases hk
  simp [hkn]

set_option maxRecDepth 20000 in
set_option maxHeartbeats 4000000 in
theorem room_walk (len cap z : Nat) (A : Option Addr) (ls : List St) (w : World) (hz : z < 256) (hlen : ls.length = len) (hA : Steps w A ls) (hv : longB ls = false) :
    Calls Try.prog 8 #[.slice A len cap, .int .u8 (z : Int)] w fun e W' => e = .returned (.bool true) ∧ Below w.heap.size w W' := by
  have h0 := long_any A len cap ls w hlen hA
  rw [hv] at h0
  have H0 := Lib.hid h0
  obtain ⟨hl100, hsm⟩ := longB_no hv
  rw [hlen] at hl100
  have HSM := Lib.hid hsm
  have HA := Lib.hid hA
  have HL := Lib.hid hlen
  have H1 := Lib.hid (empty_any w)
  clear hA hlen hv h0 hsm
  go_enter Try.func8, Try.ntmps8
  go_wp2_with fail
  refine H0.out.mono ?_
  rintro e w' ⟨rfl, rfl⟩
  go_wp2_with fail
  refine H1.out.mono ?_
  rintro e w1 ⟨rfl, hr1, hb1⟩
  have HI : Hid (PgI w w1 (.slice (some ⟨w.heap.size, 0, none⟩) 1 1)) := Lib.hid ⟨⟨[0], w.heap.size, 1, rfl, hr1, by decide +kernel⟩, hb1⟩
  clear hr1 hb1 H0 H1
  go_wp2_with fail
  go_loopw [5, 6, 7, 8, 9, 10, 11] (fun pv i a b c d e wr => ∃ j : Nat, j ≤ len ∧ i = .int .i64 (j : Int) ∧ Hid (PgI w wr pv)) (fun _ i _ _ _ _ _ _ => len - (intOf i).toNat)
  case atStart => exact ⟨0, Nat.zero_le _, rfl, HI⟩
  case round =>
    obtain ⟨j, hj, rfl, hI⟩ := hrel
    clear HI
    obtain ⟨pg, g, c, rfl, hrw, hok⟩ := hI.out.ex
    have HB := Lib.hid hI.out.bel
    have HRW := Lib.hid hrw
    have HOK := Lib.hid hok
    clear hI hok
    obtain ⟨pl, hpl⟩ : ∃ pl, pg.length = pl := ⟨_, rfl⟩
    rw [hpl] at hrw ⊢
    have HPL := Lib.hid hpl
    by_cases hlt : j < len
    · have hd : decide ((j : Int) < (len : Int)) = true := by simpa using hlt
      obtain ⟨st, hsj⟩ : ∃ st, ls[j]? = some st := ⟨_, List.getElem?_eq_getElem (by rw [HL.out]; exact hlt)⟩
      obtain ⟨b, off, v0, v1, rfl, hblt, c0, c1, hs4⟩ := HA.out.below HB.out j st hsj
      obtain ⟨⟨A2, x2, rfl, hx2, hx3, hbr⟩, rfl, hs1, hs2⟩ := hs4
      obtain ⟨L, hL⟩ : ∃ L, st.R.length = L := ⟨_, rfl⟩
      have hput := put_any _ A2 pl c L x2 pg st.R wr hpl hrw.bytes hrw.le hrw.max hL hbr (by omega) hx3
      have hdrop := drop_any _ pl c st.s pg wr ⟨hs1, hs2⟩ hpl hrw.bytes hrw.le hrw.max
      rw [hL] at c0
      have HPUT := Lib.hid hput
      have HDROP := Lib.hid hdrop
      clear hput hdrop hbr hx2 hx3 hsj hrw hpl hL
      by_cases hR0 : 0 < L
      · have d1 : decide ((0 : Int) < (L : Int)) = true := by simpa using hR0
        go_wp2_with fail
        refine HPUT.out.mono ?_
        rintro e w2 (⟨_, rfl, hb2⟩ | ⟨g2, c2, hm, rfl, hr2, _, hb2⟩)
        · have HI : Hid (PgI w w2 (.slice (some ⟨g, 0, none⟩) pl c)) := Lib.hid ⟨⟨pg, g, c, by rw [HPL.out], HRW.out.below hb2, HOK.out⟩, HB.out.trans (hb2.mono HB.out.size)⟩
          clear hb2 HPUT HDROP c0 c1
          go_wp2_with fail
          go_roundw
          case rel => exact ⟨j + 1, by omega, by go_num, HI⟩
          case measure => simp [intOf]; omega
        · have HI : Hid (PgI w w2 (.slice (some ⟨g2, 0, none⟩) (pageOf (putL pg st.R)).length c2)) := Lib.hid ⟨⟨_, g2, c2, rfl, hr2, hm.made.1⟩, HB.out.trans (hb2.mono HB.out.size)⟩
          clear hb2 hr2 hm HPUT HDROP c0 c1
          go_wp2_with fail
          go_roundw
          case rel => exact ⟨j + 1, by omega, by go_num, HI⟩
          case measure => simp [intOf]; omega
      · have d1 : decide ((0 : Int) < (L : Int)) = false := by simp; omega
        go_wp2_with fail
        refine HDROP.out.mono ?_
        rintro e w2 (⟨_, rfl, hb2⟩ | ⟨r2, g2, c2, _, rfl, hr2, _, hb2⟩)
        · have HI : Hid (PgI w w2 (.slice (some ⟨g, 0, none⟩) pl c)) := Lib.hid ⟨⟨pg, g, c, by rw [HPL.out], HRW.out.below hb2, HOK.out⟩, HB.out.trans (hb2.mono HB.out.size)⟩
          clear hb2 HPUT HDROP c0 c1
          go_wp2_with fail
          go_roundw
          case rel => exact ⟨j + 1, by omega, by go_num, HI⟩
          case measure => simp [intOf]; omega
        · have HI : Hid (PgI w w2 (.slice (some ⟨g2, 0, none⟩) (pageOf (dropL pg st.s)).length c2)) := Lib.hid ⟨⟨_, g2, c2, rfl, hr2, (drop_ok HOK.out st.s).1⟩, HB.out.trans (hb2.mono HB.out.size)⟩
          clear hb2 hr2 HPUT HDROP c0 c1
          go_wp2_with fail
          go_roundw
          case rel => exact ⟨j + 1, by omega, by go_num, HI⟩
          case measure => simp [intOf]; omega
    · obtain rfl : len = j := by omega
      have hd : decide ((len : Int) < (len : Int)) = false := by simp
      have hrm := room_any _ pl c pg wr hpl hrw.bytes hrw.le hrw.max
      have hmz := run_mk8 z (by omega)
      have hbd := roomR_bd pg
      have hput := fun (W : World) (hW : Below wr.heap.size wr W) (n : Nat) (hn : n ≤ 256) => put_is (some ⟨g, 0, none⟩) (some ⟨W.heap.size, 0, none⟩) pl c n n pg (List.replicate n 0) (W.alloc (.cells (mk8 n) 5)) HPL.out ((hrw.bytes.below hW).below ((Below.refl _ _).alloc (Nat.le_refl _) _)) hrw.le hrw.max (by simp) (mk8_bytes W n) (Nat.le_refl _) (by unfold maxLen; omega)
      have hmay : ∀ n : Nat, decide (mayPut pg (List.replicate n 0)) = decide (0 < n ∧ (n : Int) ≤ roomR pg) := fun n => by
        rw [decide_eq_decide, mayPut_iff, List.length_replicate]
      have HPUT := Lib.hid hput
      have HMAY := Lib.hid hmay
      clear hput hmay hrw hpl
      rcases hbd with hrr | ⟨hr1, hr2⟩
      · have hput1 := fun W hW => HPUT.out W hW z (by omega)
        rw [HMAY.out z, hrr, decide_eq_false (by omega)] at hput1
        rw [hrr] at hrm
        have HRM := Lib.hid hrm
        have HP1 := Lib.hid hput1
        have d8 : decide ((z : Int) ≤ -1) = false := by simp; omega
        clear hrm hput1 hrr HPUT
        by_cases hz1 : 1 ≤ z
        all_goals
          first
            | (have d7 : decide ((1 : Int) ≤ (z : Int)) = true := decide_eq_true (by omega))
            | (have d7 : decide ((1 : Int) ≤ (z : Int)) = false := decide_eq_false (by omega))
          go_wp2_with fail
          refine HRM.out.mono ?_
          rintro e w2 ⟨rfl, hb2⟩
          have HB2 := Lib.hid hb2
          clear hb2
          go_wp2_with fail
          refine (HP1.out w2 HB2.out).mono ?_
          rintro e w3 ⟨A3, l3, c3, k3, rfl, hb3⟩
          have HB3 : Hid (Below w.heap.size w w3) := Lib.hid (by
            have h2 := HB.out.trans (HB2.out.mono HB.out.size)
            have h3 : Below w2.heap.size w2 w3 := ((Below.refl _ _).alloc (Nat.le_refl _) _).trans (hb3.mono (by simp))
            exact h2.trans (h3.mono h2.size))
          clear hb3
          have HW := Lib.hid (works_any w3)
          go_wp2_with fail
          refine HW.out.mono ?_
          rintro e w4 ⟨rfl, hb4⟩
          have HB4 := Lib.hid (HB3.out.trans (hb4.mono HB3.out.size))
          clear hb4
          go_wp2_with fail
          go_ret
          exact ⟨rfl, HB4.out⟩
      · obtain ⟨R, hRR⟩ : ∃ R : Nat, roomR pg = R := ⟨(roomR pg).toNat, by omega⟩
        rw [hRR] at hr1 hr2 hrm
        have hR1 : 1 ≤ R := by omega
        have hR2 : R ≤ 246 := by omega
        have hmR : mayPut pg (List.replicate R 0) := mayPut_iff.2 ⟨by rw [List.length_replicate]; omega, by simp [hRR]⟩
        have HFULL := Lib.hid (room_full hmR (by simp [hRR]))
        have HMR := Lib.hid hmR
        have hput2 := fun (W : World) (hW : Below wr.heap.size wr W) => put_any (some ⟨g, 0, none⟩) (some ⟨W.heap.size, 0, none⟩) pl c R R pg (List.replicate R 0) (W.alloc (.cells (mk8 R) 5)) HPL.out ((HRW.out.bytes.below hW).below ((Below.refl _ _).alloc (Nat.le_refl _) _)) (by rw [← HPL.out]; exact HRW.out.le) (by exact HRW.out.max) (by simp) (mk8_bytes W R) (Nat.le_refl _) (by unfold maxLen; omega)
        have HP2 := Lib.hid hput2
        have hmR8 := run_mk8 R (by omega)
        have HRM := Lib.hid hrm
        have d3 : ((R : Int) == 0) = false := beq_eq_false_iff_ne.2 (by omega)
        have d4 : decide ((R : Int) < -1) = false := decide_eq_false (by omega)
        have d5 : decide ((246 : Int) < (R : Int)) = false := by simp; omega
        have d6 : decide ((R : Int) < 0) = false := by simp
        have hput1 := fun W hW => HPUT.out W hW z (by omega)
        rw [HMAY.out z, hRR] at hput1
        clear hrm hr1 hr2 hRR hmR hput2 HPUT HMAY
        by_cases hz1 : 1 ≤ z
        · have d7 : decide ((1 : Int) ≤ (z : Int)) = true := decide_eq_true (by omega)
          obtain ⟨bb, hbb⟩ : ∃ bb, decide (z ≤ R) = bb := ⟨_, rfl⟩
          have hbz : decide (0 < z ∧ (z : Int) ≤ (R : Int)) = bb := by
            rw [← hbb, decide_eq_decide]; omega
          rw [hbz] at hput1
          have HP1 := Lib.hid hput1
          have hbn : (bb != bb) = false := by simp
          clear hput1 hbz
          go_wp2_with fail
          refine HRM.out.mono ?_
          rintro e w2 ⟨rfl, hb2⟩
          have HB2 := Lib.hid hb2
          clear hb2
          go_wp2_with fail
          refine (HP1.out w2 HB2.out).mono ?_
          rintro e w3 ⟨A3, l3, c3, k3, rfl, hb3⟩
          have HB3 : Hid (Below wr.heap.size wr w3) := Lib.hid (by
            have h3 : Below w2.heap.size w2 w3 := ((Below.refl _ _).alloc (Nat.le_refl _) _).trans (hb3.mono (by simp))
            exact HB2.out.trans (h3.mono HB2.out.size))
          clear hb3 HP1
          go_wp2_with fail
          refine (HP2.out w3 HB3.out).mono ?_
          rintro e w4 (⟨hno, _⟩ | ⟨g4, c4, _, rfl, hr4, _, hb4⟩)
          · exact absurd HMR.out hno
          have hq := room_any _ _ c4 _ w4 rfl hr4.bytes hr4.le hr4.max
          rw [HFULL.out.2] at hq
          rw [HFULL.out.1] at hq ⊢
          have HQ := Lib.hid hq
          have HB4 : Hid (Below w.heap.size w w4) := Lib.hid (by
            have h2 := HB.out.trans (HB3.out.mono HB.out.size)
            have h3 : Below w3.heap.size w3 w4 := ((Below.refl _ _).alloc (Nat.le_refl _) _).trans (hb4.mono (by simp))
            exact h2.trans (h3.mono h2.size))
          clear hr4 hb4 hq
          go_wp2_with fail
          refine HQ.out.mono ?_
          rintro e w5 ⟨rfl, hb5⟩
          have HB5 := Lib.hid (HB4.out.trans (hb5.mono HB4.out.size))
          clear hb5
          have HW := Lib.hid (works_any w5)
          go_wp2_with fail
          refine HW.out.mono ?_
          rintro e w6 ⟨rfl, hb6⟩
          have HB6 := Lib.hid (HB5.out.trans (hb6.mono HB5.out.size))
          clear hb6
          go_wp2_with fail
          go_ret
          exact ⟨rfl, HB6.out⟩
        · have d7 : decide ((1 : Int) ≤ (z : Int)) = false := decide_eq_false (by omega)
          rw [decide_eq_false (by omega)] at hput1
          have HP1 := Lib.hid hput1
          clear hput1
          go_wp2_with fail
          refine HRM.out.mono ?_
          rintro e w2 ⟨rfl, hb2⟩
          have HB2 := Lib.hid hb2
          clear hb2
          go_wp2_with fail
          refine (HP1.out w2 HB2.out).mono ?_
          rintro e w3 ⟨A3, l3, c3, k3, rfl, hb3⟩
          have HB3 : Hid (Below wr.heap.size wr w3) := Lib.hid (by
            have h3 : Below w2.heap.size w2 w3 := ((Below.refl _ _).alloc (Nat.le_refl _) _).trans (hb3.mono (by simp))
            exact HB2.out.trans (h3.mono HB2.out.size))
          clear hb3 HP1
          go_wp2_with fail
          refine (HP2.out w3 HB3.out).mono ?_
          rintro e w4 (⟨hno, _⟩ | ⟨g4, c4, _, rfl, hr4, _, hb4⟩)
          · exact absurd HMR.out hno
          have hq := room_any _ _ c4 _ w4 rfl hr4.bytes hr4.le hr4.max
          rw [HFULL.out.2] at hq
          rw [HFULL.out.1] at hq ⊢
          have HQ := Lib.hid hq
          have HB4 : Hid (Below w.heap.size w w4) := Lib.hid (by
            have h2 := HB.out.trans (HB3.out.mono HB.out.size)
            have h3 : Below w3.heap.size w3 w4 := ((Below.refl _ _).alloc (Nat.le_refl _) _).trans (hb4.mono (by simp))
            exact h2.trans (h3.mono h2.size))
          clear hr4 hb4 hq
          go_wp2_with fail
          refine HQ.out.mono ?_
          rintro e w5 ⟨rfl, hb5⟩
          have HB5 := Lib.hid (HB4.out.trans (hb5.mono HB4.out.size))
          clear hb5
          have HW := Lib.hid (works_any w5)
          go_wp2_with fail
          refine HW.out.mono ?_
          rintro e w6 ⟨rfl, hb6⟩
          have HB6 := Lib.hid (HB5.out.trans (hb6.mono HB5.out.size))
          clear hb6
          go_wp2_with fail
          go_ret
          exact ⟨rfl, HB6.out⟩

set_option maxRecDepth 20000 in
set_option maxHeartbeats 1000000 in
theorem roomlaw_any (len cap z : Nat) (A : Option Addr) (ls : List St) (w : World) (hz : z < 256) (hlen : ls.length = len) (hA : Steps w A ls) :
    Calls Try.prog 8 #[.slice A len cap, .int .u8 (z : Int)] w fun e W' => e = .returned (.bool true) ∧ Below w.heap.size w W' := by
  cases hv : longB ls
  · exact room_walk len cap z A ls w hz hlen hA hv
  · have h0 := long_any A len cap ls w hlen hA
    rw [hv] at h0
    have H0 := Lib.hid h0
    have HW := Lib.hid (works_any w)
    clear hA hlen hv h0
    go_enter Try.func8, Try.ntmps8
    go_wp2_with fail
    refine H0.out.mono ?_
    rintro e w' ⟨rfl, rfl⟩
    go_wp2_with fail
    refine HW.out.mono ?_
    rintro e w2 ⟨rfl, hb⟩
    have HB := Lib.hid hb
    clear hb
    go_wp2_with fail
    go_ret
    exact ⟨rfl, HB.out⟩
end Go.Proofs.Ytipjokbkgcepbaa
