/- DiskReads. -/
import Derived.Test.YtdohfkblmadejaaSettle
namespace Go.Proofs.Ytdohfkblmadejaa
open Go.RowKit Dsk

/-- Between the rounds of DiskReads. -/
def RInv (w wr : World) (g k j wb : Nat) : Prop := ∃ D ws, Run w wr (fun i => i = wb) g D ∧ Blk wr wb 5 (row8 ws) ∧ Good D ∧ readS D k = ws ∧ ws.length = 256 ∧ D.steps ≤ j ∧ D.P.length ≤ j

/-- The four cells of a step. -/
structure C4 (w : World) (b o : Nat) (v0 v1 v2 v3 : Value) : Prop where
  c0 : w.cell? ⟨b, o, none⟩ = some v0
  c1 : w.cell? ⟨b, o + 1, none⟩ = some v1
  c2 : w.cell? ⟨b, o + 2, none⟩ = some v2
  c3 : w.cell? ⟨b, o + 3, none⟩ = some v3
theorem C4.below {w w' : World} {b o : Nat} {v0 v1 v2 v3 : Value} (h : C4 w b o v0 v1 v2 v3) (hb : Below w.heap.size w w') : C4 w' b o v0 v1 v2 v3 := by
  have hlt := World.block_lt_of_cell? w _ h.c0
  exact ⟨(hb.cell (p := ⟨b, o, none⟩) hlt).trans h.c0, (hb.cell (p := ⟨b, o + 1, none⟩) hlt).trans h.c1, (hb.cell (p := ⟨b, o + 2, none⟩) hlt).trans h.c2, (hb.cell (p := ⟨b, o + 3, none⟩) hlt).trans h.c3⟩

set_option maxRecDepth 20000 in
set_option maxHeartbeats 4000000 in
theorem reads_any (s len cap : Nat) (A : Option Addr) (ls : List St) (w : World) (hs : s < 256) (hlen : ls.length = len) (hA : Steps w A ls) :
    Calls Try.prog 5 #[.slice A len cap, .int .u8 (s : Int)] w fun e W' => e = .returned (.bool true) ∧ Below w.heap.size w W' := by
  have h0 := vast_any A len cap ls w hlen hA
  by_cases hv : vastB ls = true
  · rw [hv] at h0
    have H0 := Lib.hid h0
    have HW := Lib.hid (works_any w)
    clear hA h0
    go_enter Try.func5, Try.ntmps5
    go_wp2_with fail
    refine H0.out.mono ?_
    rintro e w' ⟨rfl, rfl⟩
    go_wp2_with fail
    refine HW.out.mono ?_
    rintro e w2 ⟨rfl, hb⟩
    have HB := Lib.hid hb
    clear hb
    go_wp2_with fail
    go_ret
    exact ⟨rfl, HB.out⟩
  have hv' : vastB ls = false := by simpa using hv
  rw [hv'] at h0
  have H0 := Lib.hid h0
  obtain ⟨hl120, hsm⟩ := vastB_no hv'
  rw [hlen] at hl120
  have HSM := Lib.hid hsm
  have HA := Lib.hid hA
  have HL := Lib.hid hlen
  obtain ⟨k, hk⟩ : ∃ k, s % 16 = k := ⟨_, rfl⟩
  have hk16 : k < 16 := by omega
  have kk : (s : Int) % 16 = (k : Int) := by omega
  have HK := Lib.hid kk
  have H1 := Lib.hid (Run.new 16 w w (fun _ => False) (fun _ h => h.elim) (Below.refl _ _) (by decide))
  have hmk : ∀ W : World, (Instr.makeSlice 32 (.int .i64 256) (.int .i64 256)).run Try.prog W = .ok (.slice (some ⟨W.heap.size, 0, none⟩) 256 256) (W.alloc (.cells (mk8 256) 5)) := fun W => run_mk8 256 (by decide) W
  clear hA hlen hk hv hv' h0 hsm kk
  go_enter Try.func5, Try.ntmps5
  go_wp2_with fail
  refine H0.out.mono ?_
  rintro e w' ⟨rfl, rfl⟩
  go_wp2_with fail
  refine H1.out.mono ?_
  rintro e w1 ⟨g, rfl, hR, _⟩
  have hb1 : Below w1.heap.size w1 (w1.alloc (.cells (mk8 256) 5)) := (Below.refl _ w1).alloc (Nat.le_refl _) _
  have hblk : Blk (w1.alloc (.cells (mk8 256) 5)) w1.heap.size 5 (row8 zeros) := by
    have e : row8 zeros = mk8 256 := by rw [mk8_eq]; unfold row8 zeros; rw [List.map_replicate]
    rw [e]; exact Blk.new _ _ _
  have HINV : Hid (RInv w (w1.alloc (.cells (mk8 256) 5)) g k 0 w1.heap.size) := Lib.hid ⟨newD 16, zeros, hR.add hb1 _ (fun j hj => .inr ⟨Nat.le_of_eq (Eq.symm hj), by rw [show j = w1.heap.size from hj]; simp⟩), hblk, Good.new, by
    unfold readS newD overlay List.getD
    simp only [List.foldl_nil]
    rw [List.getElem?_replicate, if_pos hk16]; rfl, zeros_length, Nat.le_refl _, Nat.le_refl _⟩
  clear hR hb1 hblk H0 H1
  go_wp2_with fail
  rw [HK.out]
  clear hmk
  go_loopw [8, 9, 10, 11, 12, 13] (fun wv i a b c d wr => ∃ j wb : Nat, j ≤ len ∧ i = .int .i64 (j : Int) ∧ wv = .slice (some ⟨wb, 0, none⟩) 256 256 ∧ Hid (RInv w wr g k j wb)) (fun _ i _ _ _ _ _ => len - (intOf i).toNat)
  case atStart => exact ⟨0, w1.heap.size, Nat.zero_le _, rfl, rfl, HINV⟩
  case round =>
    obtain ⟨j, wb, hj, rfl, rfl, hI⟩ := hrel
    clear HINV
    obtain ⟨D, ws, hR, hWB, hG, hrs, hwl, hst, hpl⟩ := hI.out
    have HB := Lib.hid hR.bel
    by_cases hlt : j < len
    · have hd : decide ((j : Int) < (len : Int)) = true := by simpa using hlt
      obtain ⟨st, hsj⟩ : ∃ st, ls[j]? = some st := ⟨_, List.getElem?_eq_getElem (by rw [HL.out]; exact hlt)⟩
      have hsmall := HSM.out st (List.mem_of_getElem? hsj)
      obtain ⟨b, off, v0, v1, v2, v3, rfl, hblt, c0, c1, c2, c3, hs4⟩ := HA.out j st hsj
      have HC : Hid (C4 w b (off + j * 4) v0 v1 v2 v3) := Lib.hid ⟨c0, c1, c2, c3⟩
      have hs4' := hs4.below HB.out
      obtain ⟨c0, c1, c2, c3⟩ := HC.out.below HB.out
      have HR := Lib.hid hR
      have HWB := Lib.hid hWB
      have HG : Hid (Good D ∧ readS D k = ws ∧ ws.length = 256 ∧ D.steps ≤ j ∧ D.P.length ≤ j) := Lib.hid ⟨hG, hrs, hwl, hst, hpl⟩
      obtain ⟨e0, k1, k2⟩ := hs4'.kind
      obtain ⟨e1, s1, s2⟩ := hs4'.s
      obtain ⟨A2, cap2, e2, b1, b2, b3⟩ := hs4'.B
      obtain ⟨A3, cap3, e3, b4, b5, b6⟩ := hs4'.K
      have HST := Lib.hid hs4'
      have HBY : Hid (∀ W : World, Below w.heap.size w W → Bytes W A2 st.B) := Lib.hid fun W hW => by
        obtain ⟨A', c', q, _, _, hb⟩ := hs4.B
        rw [e2] at q
        injection q with q1 q2 q3
        rw [q1]; exact hb.below hW
      obtain ⟨x, hx⟩ : ∃ x, st.B.length = x := ⟨_, rfl⟩
      rw [hx] at e2 b1 hsmall
      have HX := Lib.hid hx
      have hP9 : D.P.length < 1000000 ∧ D.steps < 1000000000 := by omega
      have HP9 := Lib.hid hP9
      clear hs4 hs4' hblt hI hsj hR hWB hG hrs hwl hst hpl b3 b6 hx hP9
      by_cases hk : st.kind = 1
      · rw [hk] at e0
        subst e0; subst e1; subst e2; subst e3
        have h2 := HR.out.do_write _ _ _ _ st HST.out hk (by rw [HX.out]; exact hsmall.1) HP9.out.1 HP9.out.2
        by_cases hf : (0 ≤ st.s ∧ st.s < 16) ∧ x ≤ 256
        · have hf' : (0 ≤ st.s ∧ st.s < 16) ∧ st.B.length ≤ 256 := by rw [HX.out]; exact hf
          rw [HG.out.1.writeE, if_pos hf'] at h2
          obtain ⟨⟨f1, f2⟩, f3⟩ := hf
          have f4 : decide ((x : Int) ≤ 256) = true := by simp; omega
          have hg10 : Good (writeD D st.s st.B) := HG.out.1.write st.s st.B
          have hrd := HG.out.1.writeRead st.s st.B k hf'
          have hst10 := write_steps D st.s st.B
          by_cases hsk : st.s = k
          · rw [if_pos hsk] at hrd
            have HGN : Hid (Good (writeD D st.s st.B) ∧ readS (writeD D st.s st.B) k = filled st.B 256 ∧ (filled st.B 256).length = 256 ∧ (writeD D st.s st.B).steps ≤ j + 1 ∧ (writeD D st.s st.B).P.length ≤ j + 1) := Lib.hid ⟨hg10, hrd, filled_length st.B 256 hf'.2, by have := HG.out.2.2.2; omega, by have := HG.out.2.2.2; omega⟩
            have e9 : (st.s == (k : Int)) = true := by simpa using hsk
            clear hg10 hrd hst10 hf' hsk hk
            generalize writeD D st.s st.B = DN at *
            have H2 := Lib.hid h2
            clear h2
            go_wp2_with fail
            refine H2.out.mono ?_
            rintro e w10 ⟨rfl, hR10, hk10⟩
            have HRN := Lib.hid hR10
            have HWB10 := Lib.hid (HWB.out.same (hk10.at_ _ rfl))
            obtain ⟨d0, d1, d2, d3⟩ := HC.out.below hR10.bel
            clear hR10 hk10 H2 HR
            have h5 := reffill_ok A2 x cap2 256 st.B w10 HX.out f3 (by decide) (HBY.out w10 HRN.out.bel)
            generalize filled st.B 256 = fs at *
            have H5 := Lib.hid h5
            clear h5
            go_wp2_with fail
            refine H5.out.mono ?_
            rintro e w11 ⟨rfl, hb11, hw11⟩
            have hR11 := HRN.out.add hw11 (fun i => i = w10.heap.size) (fun i hi => .inr ⟨Nat.le_of_eq (Eq.symm hi), by rw [show i = w10.heap.size from hi]; exact hb11.lt⟩)
            clear HRN HWB HWB10
            have HRN := Lib.hid hR11
            have HWB := Lib.hid hb11
            clear hR11 hb11 hw11 H5
            have h20 := HRN.out.read_yes (k : Int) (HGN.out.1.read k hk16).2
            rw [Int.toNat_natCast, HGN.out.2.1] at h20
            have H20 := Lib.hid h20
            have HWL := Lib.hid HGN.out.2.2.1
            clear h20
            go_wp2_with fail
            refine H20.out.mono ?_
            rintro e w20 ⟨rfl, hb20, hl20, hR20, hw20⟩
            have HWB20 := Lib.hid (HWB.out.below hw20 HWB.out.lt)
            have h21 := eq_any (some ⟨w11.heap.size, 0, none⟩) (some ⟨w10.heap.size, 0, none⟩) 256 256 256 256 fs fs w20 hl20 hl20 (Bytes.row hb20) (Bytes.row HWB20.out) (by decide) (by decide)
            rw [decide_eq_true (rfl : fs = fs)] at h21
            have H21 := Lib.hid h21
            have HR20 := Lib.hid (hR20.less (Y := fun i => i = w10.heap.size) (fun i hi => .inl hi))
            clear h21 hR20 hb20 hw20 hl20 H20 HWB
            go_wp2_with fail
            refine H21.out.mono ?_
            rintro e w21 ⟨rfl, hw21⟩
            have HINV : Hid (RInv w w21 g k (j + 1) w10.heap.size) := Lib.hid ⟨_, _, HR20.out.below hw21, HWB20.out.below hw21 HWB20.out.lt, HGN.out⟩
            clear hw21 H21 HR20 HWB20 HRN HGN
            go_wp2_with fail
            go_roundw
            case rel => exact ⟨j + 1, w10.heap.size, by omega, by go_num, rfl, HINV⟩
            case measure => simp [intOf]; omega
          · rw [if_neg hsk, HG.out.2.1] at hrd
            have HGN : Hid (Good (writeD D st.s st.B) ∧ readS (writeD D st.s st.B) k = ws ∧ ws.length = 256 ∧ (writeD D st.s st.B).steps ≤ j + 1 ∧ (writeD D st.s st.B).P.length ≤ j + 1) := Lib.hid ⟨hg10, hrd, HG.out.2.2.1, by have := HG.out.2.2.2; omega, by have := HG.out.2.2.2; omega⟩
            have e9 : (st.s == (k : Int)) = false := by simpa using hsk
            clear hg10 hrd hst10 hf' hsk hk
            generalize writeD D st.s st.B = DN at *
            have H2 := Lib.hid h2
            clear h2
            go_wp2_with fail
            refine H2.out.mono ?_
            rintro e w10 ⟨rfl, hR10, hk10⟩
            have HRN := Lib.hid hR10
            have HWB10 := Lib.hid (HWB.out.same (hk10.at_ _ rfl))
            obtain ⟨d0, d1, d2, d3⟩ := HC.out.below hR10.bel
            clear hR10 hk10 H2 HR
            clear HWB
            have HWB := HWB10
            have h20 := HRN.out.read_yes (k : Int) (HGN.out.1.read k hk16).2
            rw [Int.toNat_natCast, HGN.out.2.1] at h20
            have H20 := Lib.hid h20
            have HWL := Lib.hid HGN.out.2.2.1
            clear h20
            go_wp2_with fail
            refine H20.out.mono ?_
            rintro e w20 ⟨rfl, hb20, hl20, hR20, hw20⟩
            have HWB20 := Lib.hid (HWB.out.below hw20 HWB.out.lt)
            have h21 := eq_any (some ⟨w10.heap.size, 0, none⟩) (some ⟨wb, 0, none⟩) 256 256 256 256 ws ws w20 hl20 hl20 (Bytes.row hb20) (Bytes.row HWB20.out) (by decide) (by decide)
            rw [decide_eq_true (rfl : ws = ws)] at h21
            have H21 := Lib.hid h21
            have HR20 := Lib.hid (hR20.less (Y := fun i => i = wb) (fun i hi => .inl hi))
            clear h21 hR20 hb20 hw20 hl20 H20 HWB
            go_wp2_with fail
            refine H21.out.mono ?_
            rintro e w21 ⟨rfl, hw21⟩
            have HINV : Hid (RInv w w21 g k (j + 1) wb) := Lib.hid ⟨_, _, HR20.out.below hw21, HWB20.out.below hw21 HWB20.out.lt, HGN.out⟩
            clear hw21 H21 HR20 HWB20 HRN HGN
            go_wp2_with fail
            go_roundw
            case rel => exact ⟨j + 1, wb, by omega, by go_num, rfl, HINV⟩
            case measure => simp [intOf]; omega
        · have hf' : ¬ ((0 ≤ st.s ∧ st.s < 16) ∧ st.B.length ≤ 256) := by rw [HX.out]; exact hf
          rw [HG.out.1.writeE, if_neg hf', HG.out.1.writeD, if_neg hf'] at h2
          have HGN : Hid (Good D ∧ readS D k = ws ∧ ws.length = 256 ∧ D.steps ≤ j + 1 ∧ D.P.length ≤ j + 1) := Lib.hid ⟨HG.out.1, HG.out.2.1, HG.out.2.2.1, by have := HG.out.2.2.2; omega, by have := HG.out.2.2.2; omega⟩
          clear hf' hk
          by_cases f1 : 0 ≤ st.s
          · by_cases f2 : st.s < 16
            · have f3 : ¬ x ≤ 256 := fun e => hf ⟨⟨f1, f2⟩, e⟩
              have f4 : decide ((x : Int) ≤ 256) = false := by simp; omega
              clear hf
              have H2 := Lib.hid h2
              clear h2
              go_wp2_with fail
              refine H2.out.mono ?_
              rintro e w10 ⟨rfl, hR10, hk10⟩
              have HRN := Lib.hid hR10
              have HWB10 := Lib.hid (HWB.out.same (hk10.at_ _ rfl))
              obtain ⟨d0, d1, d2, d3⟩ := HC.out.below hR10.bel
              clear hR10 hk10 H2 HR

              clear HWB
              have HWB := HWB10

              have h20 := HRN.out.read_yes (k : Int) (HGN.out.1.read k hk16).2
              rw [Int.toNat_natCast, HGN.out.2.1] at h20
              have H20 := Lib.hid h20
              have HWL := Lib.hid HGN.out.2.2.1
              clear h20
              go_wp2_with fail
              refine H20.out.mono ?_
              rintro e w20 ⟨rfl, hb20, hl20, hR20, hw20⟩
              have HWB20 := Lib.hid (HWB.out.below hw20 HWB.out.lt)
              have h21 := eq_any (some ⟨w10.heap.size, 0, none⟩) (some ⟨wb, 0, none⟩) 256 256 256 256 ws ws w20 hl20 hl20 (Bytes.row hb20) (Bytes.row HWB20.out) (by decide) (by decide)
              rw [decide_eq_true (rfl : ws = ws)] at h21
              have H21 := Lib.hid h21
              have HR20 := Lib.hid (hR20.less (Y := fun i => i = wb) (fun i hi => .inl hi))
              clear h21 hR20 hb20 hw20 hl20 H20 HWB
              go_wp2_with fail
              refine H21.out.mono ?_
              rintro e w21 ⟨rfl, hw21⟩
              have HINV : Hid (RInv w w21 g k (j + 1) wb) := Lib.hid ⟨_, _, HR20.out.below hw21, HWB20.out.below hw21 HWB20.out.lt, HGN.out⟩
              clear hw21 H21 HR20 HWB20 HRN HGN
              go_wp2_with fail
              go_roundw
              case rel => exact ⟨j + 1, wb, by omega, by go_num, rfl, HINV⟩
              case measure => simp [intOf]; omega
            · have f5 : 16 ≤ st.s := by omega
              clear hf f2
              have H2 := Lib.hid h2
              clear h2
              go_wp2_with fail
              refine H2.out.mono ?_
              rintro e w10 ⟨rfl, hR10, hk10⟩
              have HRN := Lib.hid hR10
              have HWB10 := Lib.hid (HWB.out.same (hk10.at_ _ rfl))
              obtain ⟨d0, d1, d2, d3⟩ := HC.out.below hR10.bel
              clear hR10 hk10 H2 HR

              clear HWB
              have HWB := HWB10

              have h20 := HRN.out.read_yes (k : Int) (HGN.out.1.read k hk16).2
              rw [Int.toNat_natCast, HGN.out.2.1] at h20
              have H20 := Lib.hid h20
              have HWL := Lib.hid HGN.out.2.2.1
              clear h20
              go_wp2_with fail
              refine H20.out.mono ?_
              rintro e w20 ⟨rfl, hb20, hl20, hR20, hw20⟩
              have HWB20 := Lib.hid (HWB.out.below hw20 HWB.out.lt)
              have h21 := eq_any (some ⟨w10.heap.size, 0, none⟩) (some ⟨wb, 0, none⟩) 256 256 256 256 ws ws w20 hl20 hl20 (Bytes.row hb20) (Bytes.row HWB20.out) (by decide) (by decide)
              rw [decide_eq_true (rfl : ws = ws)] at h21
              have H21 := Lib.hid h21
              have HR20 := Lib.hid (hR20.less (Y := fun i => i = wb) (fun i hi => .inl hi))
              clear h21 hR20 hb20 hw20 hl20 H20 HWB
              go_wp2_with fail
              refine H21.out.mono ?_
              rintro e w21 ⟨rfl, hw21⟩
              have HINV : Hid (RInv w w21 g k (j + 1) wb) := Lib.hid ⟨_, _, HR20.out.below hw21, HWB20.out.below hw21 HWB20.out.lt, HGN.out⟩
              clear hw21 H21 HR20 HWB20 HRN HGN
              go_wp2_with fail
              go_roundw
              case rel => exact ⟨j + 1, wb, by omega, by go_num, rfl, HINV⟩
              case measure => simp [intOf]; omega
          · have f5 : st.s < 0 := by omega
            clear hf f1
            have H2 := Lib.hid h2
            clear h2
            go_wp2_with fail
            refine H2.out.mono ?_
            rintro e w10 ⟨rfl, hR10, hk10⟩
            have HRN := Lib.hid hR10
            have HWB10 := Lib.hid (HWB.out.same (hk10.at_ _ rfl))
            obtain ⟨d0, d1, d2, d3⟩ := HC.out.below hR10.bel
            clear hR10 hk10 H2 HR

            clear HWB
            have HWB := HWB10

            have h20 := HRN.out.read_yes (k : Int) (HGN.out.1.read k hk16).2
            rw [Int.toNat_natCast, HGN.out.2.1] at h20
            have H20 := Lib.hid h20
            have HWL := Lib.hid HGN.out.2.2.1
            clear h20
            go_wp2_with fail
            refine H20.out.mono ?_
            rintro e w20 ⟨rfl, hb20, hl20, hR20, hw20⟩
            have HWB20 := Lib.hid (HWB.out.below hw20 HWB.out.lt)
            have h21 := eq_any (some ⟨w10.heap.size, 0, none⟩) (some ⟨wb, 0, none⟩) 256 256 256 256 ws ws w20 hl20 hl20 (Bytes.row hb20) (Bytes.row HWB20.out) (by decide) (by decide)
            rw [decide_eq_true (rfl : ws = ws)] at h21
            have H21 := Lib.hid h21
            have HR20 := Lib.hid (hR20.less (Y := fun i => i = wb) (fun i hi => .inl hi))
            clear h21 hR20 hb20 hw20 hl20 H20 HWB
            go_wp2_with fail
            refine H21.out.mono ?_
            rintro e w21 ⟨rfl, hw21⟩
            have HINV : Hid (RInv w w21 g k (j + 1) wb) := Lib.hid ⟨_, _, HR20.out.below hw21, HWB20.out.below hw21 HWB20.out.lt, HGN.out⟩
            clear hw21 H21 HR20 HWB20 HRN HGN
            go_wp2_with fail
            go_roundw
            case rel => exact ⟨j + 1, wb, by omega, by go_num, rfl, HINV⟩
            case measure => simp [intOf]; omega
      have hk1 : st.kind ≠ 1 := hk
      clear hk
      by_cases hk : st.kind = 2
      · rw [hk] at e0
        subst e0; subst e1; subst e2; subst e3
        have h2 := HR.out.do_barrier _ _ _ _ st HST.out hk HP9.out.1 HP9.out.2
        rw [HG.out.1.barE] at h2
        have hst10 := bar_steps D
        have HGN : Hid (Good (barD D) ∧ readS (barD D) k = ws ∧ ws.length = 256 ∧ (barD D).steps ≤ j + 1 ∧ (barD D).P.length ≤ j + 1) := Lib.hid ⟨HG.out.1.bar, by rw [HG.out.1.barRead]; exact HG.out.2.1, HG.out.2.2.1, by have := HG.out.2.2.2; omega, by have := HG.out.2.2.2; omega⟩
        clear hst10 hk
        generalize barD D = DN at *
        have H2 := Lib.hid h2
        clear h2
        go_wp2_with fail
        refine H2.out.mono ?_
        rintro e w10 ⟨rfl, hR10, hk10⟩
        have HRN := Lib.hid hR10
        have HWB10 := Lib.hid (HWB.out.same (hk10.at_ _ rfl))
        obtain ⟨d0, d1, d2, d3⟩ := HC.out.below hR10.bel
        clear hR10 hk10 H2 HR

        clear HWB
        have HWB := HWB10

        have h20 := HRN.out.read_yes (k : Int) (HGN.out.1.read k hk16).2
        rw [Int.toNat_natCast, HGN.out.2.1] at h20
        have H20 := Lib.hid h20
        have HWL := Lib.hid HGN.out.2.2.1
        clear h20
        go_wp2_with fail
        refine H20.out.mono ?_
        rintro e w20 ⟨rfl, hb20, hl20, hR20, hw20⟩
        have HWB20 := Lib.hid (HWB.out.below hw20 HWB.out.lt)
        have h21 := eq_any (some ⟨w10.heap.size, 0, none⟩) (some ⟨wb, 0, none⟩) 256 256 256 256 ws ws w20 hl20 hl20 (Bytes.row hb20) (Bytes.row HWB20.out) (by decide) (by decide)
        rw [decide_eq_true (rfl : ws = ws)] at h21
        have H21 := Lib.hid h21
        have HR20 := Lib.hid (hR20.less (Y := fun i => i = wb) (fun i hi => .inl hi))
        clear h21 hR20 hb20 hw20 hl20 H20 HWB
        go_wp2_with fail
        refine H21.out.mono ?_
        rintro e w21 ⟨rfl, hw21⟩
        have HINV : Hid (RInv w w21 g k (j + 1) wb) := Lib.hid ⟨_, _, HR20.out.below hw21, HWB20.out.below hw21 HWB20.out.lt, HGN.out⟩
        clear hw21 H21 HR20 HWB20 HRN HGN
        go_wp2_with fail
        go_roundw
        case rel => exact ⟨j + 1, wb, by omega, by go_num, rfl, HINV⟩
        case measure => simp [intOf]; omega
      have hk2 : st.kind ≠ 2 := hk
      clear hk
      by_cases hk : st.kind = 0
      · rw [hk] at e0
        subst e0; subst e1; subst e2; subst e3
        have HGN : Hid (Good D ∧ readS D k = ws ∧ ws.length = 256 ∧ D.steps ≤ j + 1 ∧ D.P.length ≤ j + 1) := Lib.hid ⟨HG.out.1, HG.out.2.1, HG.out.2.2.1, by have := HG.out.2.2.2; omega, by have := HG.out.2.2.2; omega⟩
        by_cases hr : readE D st.s = 0
        · have H2 := Lib.hid (HR.out.do_yes _ _ _ _ st HST.out hk hr)
          clear hr hk
          go_wp2_with fail
          refine H2.out.mono ?_
          rintro e w10 ⟨bb, rfl, _, _, _, hR10, hk10⟩
          have HRN := Lib.hid (hR10.less (Y := fun i => i = wb) fun i hi => .inl hi)
          have HWB10 := Lib.hid (HWB.out.same (hk10.at_ _ rfl))
          obtain ⟨d0, d1, d2, d3⟩ := HC.out.below hR10.bel
          clear hR10 hk10 H2 HR HWB
          have HWB := HWB10
          have h20 := HRN.out.read_yes (k : Int) (HGN.out.1.read k hk16).2
          rw [Int.toNat_natCast, HGN.out.2.1] at h20
          have H20 := Lib.hid h20
          have HWL := Lib.hid HGN.out.2.2.1
          clear h20
          go_wp2_with fail
          refine H20.out.mono ?_
          rintro e w20 ⟨rfl, hb20, hl20, hR20, hw20⟩
          have HWB20 := Lib.hid (HWB.out.below hw20 HWB.out.lt)
          have h21 := eq_any (some ⟨w10.heap.size, 0, none⟩) (some ⟨wb, 0, none⟩) 256 256 256 256 ws ws w20 hl20 hl20 (Bytes.row hb20) (Bytes.row HWB20.out) (by decide) (by decide)
          rw [decide_eq_true (rfl : ws = ws)] at h21
          have H21 := Lib.hid h21
          have HR20 := Lib.hid (hR20.less (Y := fun i => i = wb) (fun i hi => .inl hi))
          clear h21 hR20 hb20 hw20 hl20 H20 HWB
          go_wp2_with fail
          refine H21.out.mono ?_
          rintro e w21 ⟨rfl, hw21⟩
          have HINV : Hid (RInv w w21 g k (j + 1) wb) := Lib.hid ⟨_, _, HR20.out.below hw21, HWB20.out.below hw21 HWB20.out.lt, HGN.out⟩
          clear hw21 H21 HR20 HWB20 HRN HGN
          go_wp2_with fail
          go_roundw
          case rel => exact ⟨j + 1, wb, by omega, by go_num, rfl, HINV⟩
          case measure => simp [intOf]; omega
        · have h2 := HR.out.do_no _ _ _ _ st HST.out hk hr
          generalize readE D st.s = rr at *
          clear hr hk
          have H2 := Lib.hid h2
          clear h2
          go_wp2_with fail
          refine H2.out.mono ?_
          rintro e w10 ⟨rfl, hR10, hk10⟩
          have HRN := Lib.hid hR10
          have HWB10 := Lib.hid (HWB.out.same (hk10.at_ _ rfl))
          obtain ⟨d0, d1, d2, d3⟩ := HC.out.below hR10.bel
          clear hR10 hk10 H2 HR

          clear HWB
          have HWB := HWB10

          have h20 := HRN.out.read_yes (k : Int) (HGN.out.1.read k hk16).2
          rw [Int.toNat_natCast, HGN.out.2.1] at h20
          have H20 := Lib.hid h20
          have HWL := Lib.hid HGN.out.2.2.1
          clear h20
          go_wp2_with fail
          refine H20.out.mono ?_
          rintro e w20 ⟨rfl, hb20, hl20, hR20, hw20⟩
          have HWB20 := Lib.hid (HWB.out.below hw20 HWB.out.lt)
          have h21 := eq_any (some ⟨w10.heap.size, 0, none⟩) (some ⟨wb, 0, none⟩) 256 256 256 256 ws ws w20 hl20 hl20 (Bytes.row hb20) (Bytes.row HWB20.out) (by decide) (by decide)
          rw [decide_eq_true (rfl : ws = ws)] at h21
          have H21 := Lib.hid h21
          have HR20 := Lib.hid (hR20.less (Y := fun i => i = wb) (fun i hi => .inl hi))
          clear h21 hR20 hb20 hw20 hl20 H20 HWB
          go_wp2_with fail
          refine H21.out.mono ?_
          rintro e w21 ⟨rfl, hw21⟩
          have HINV : Hid (RInv w w21 g k (j + 1) wb) := Lib.hid ⟨_, _, HR20.out.below hw21, HWB20.out.below hw21 HWB20.out.lt, HGN.out⟩
          clear hw21 H21 HR20 HWB20 HRN HGN
          go_wp2_with fail
          go_roundw
          case rel => exact ⟨j + 1, wb, by omega, by go_num, rfl, HINV⟩
          case measure => simp [intOf]; omega
      have hk0 : st.kind ≠ 0 := hk
      clear hk
      have q1 : (st.kind != 1) = true := by simpa using hk1
      have q2 : (st.kind != 2) = true := by simpa using hk2
      have q0 : (st.kind != 0) = true := by simpa using hk0
      subst e0
      have HINV : Hid (RInv w wr g k (j + 1) wb) := Lib.hid ⟨D, ws, HR.out, HWB.out, HG.out.1, HG.out.2.1, HG.out.2.2.1, by have := HG.out.2.2.2; omega, by have := HG.out.2.2.2; omega⟩
      go_wp2_with fail
      go_roundw
      case rel => exact ⟨j + 1, wb, by omega, by go_num, rfl, HINV⟩
      case measure => simp [intOf]; omega
    · obtain rfl : j = len := by omega
      have hd : decide ((j : Int) < (j : Int)) = false := by simp
      have HW := Lib.hid (works_any wr)
      clear hR hWB hG hrs
      go_wp2_with fail
      refine HW.out.mono ?_
      rintro e w2 ⟨rfl, hb⟩
      have HB2 := Lib.hid (HB.out.trans (hb.mono HB.out.size))
      clear hb
      go_wp2_with fail
      go_ret
      exact ⟨rfl, HB2.out⟩

end Go.Proofs.Ytdohfkblmadejaa
