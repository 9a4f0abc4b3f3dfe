/- DiskTorn. -/
import Derived.Test.YtdohfkblmadejaaLive
namespace Go.Proofs.Ytdohfkblmadejaa
open Go.RowKit Dsk

def Z16 : List (List UInt8) := List.replicate 16 zeros
theorem Z16_length : Z16.length = 16 := List.length_replicate
def tS (k : Nat) : List (List UInt8) := Z16.set k []
theorem tS_length (k : Nat) : (tS k).length = 16 := by unfold tS; rw [List.length_set]; exact Z16_length
theorem tS_self {k : Nat} (hk : k < 16) : (tS k).getD k [] = [] := by
  unfold tS List.getD; rw [List.getElem?_set_self (by rw [Z16_length]; exact hk)]; rfl
theorem tS_other {k i : Nat} (hi : i < 16) (h : i ≠ k) : (tS k).getD i [] = zeros := by
  unfold tS List.getD Z16; rw [List.getElem?_set_ne (fun e => h e.symm), List.getElem?_replicate, if_pos hi]; rfl

def t1 (k : Nat) : DS := ⟨Z16, [(k, filled [1] 256)], false, 0, 1⟩
def t3 (k : Nat) : DS := ⟨tS k, [], false, 0, 1⟩
def t4 (k : Nat) (b : List UInt8) : DS := ⟨tS k, [(k, filled b 256)], false, 0, 2⟩
def t5 (k : Nat) (b : List UInt8) : DS := ⟨(tS k).set k (filled b 256), [], false, 0, 3⟩
theorem t_new : newD 16 = ⟨Z16, [], false, 0, 0⟩ := rfl
theorem t_one (k : Nat) (hk : k < 16) : writeE (newD 16) k [1] = 0 ∧ writeD (newD 16) k [1] = t1 k := by
  rw [t_new]
  exact ⟨write_liveE _ _ _ k _ (by rw [Z16_length]; exact hk) (by decide), write_liveD _ _ _ k _ (by rw [Z16_length]; exact hk) (by decide)⟩
theorem t_three (k : Nat) : onE (offD (t1 k)) = 0 ∧ onD (offD (t1 k)) [0] 0 = t3 k := ⟨rfl, rfl⟩
theorem t_read (k i : Nat) (hi : i < 16) (hk : k < 16) : readE (t3 k) i = if i = k then 5 else 0 := by
  unfold t3
  rw [read_live _ _ _ _ i (by rw [tS_length]; exact hi)]
  show (if (tS k).getD i [] = [] then (5 : Int) else 0) = _
  by_cases e : i = k
  · subst e; rw [tS_self hk, if_pos rfl, if_pos rfl]
  · rw [tS_other hi e, if_neg zeros_ne, if_neg e]
theorem t_four (k : Nat) (b : List UInt8) (hk : k < 16) (hb : b.length ≤ 256) : writeE (t3 k) k b = 0 ∧ writeD (t3 k) k b = t4 k b :=
  ⟨write_liveE _ _ _ k _ (by rw [tS_length]; exact hk) hb, write_liveD _ _ _ k _ (by rw [tS_length]; exact hk) hb⟩
theorem t_read4 (k : Nat) (b : List UInt8) : readS (t4 k b) k = filled b 256 := by simp [readS, t4, overlay]
theorem t_read4E (k : Nat) (b : List UInt8) (hk : k < 16) (hb : b.length ≤ 256) : readE (t4 k b) k = 0 := by
  have e : readE (t4 k b) k = if readS (t4 k b) k = [] then 5 else 0 := read_live _ _ _ _ k (by rw [tS_length]; exact hk)
  rw [e, t_read4, if_neg (filled_ne hb)]
theorem t_five (k : Nat) (b : List UInt8) : barE (t4 k b) = 0 ∧ barD (t4 k b) = t5 k b := ⟨rfl, rfl⟩
theorem t_seven (k : Nat) (b : List UInt8) : onE (offD (t5 k b)) = 0 ∧ onD (offD (t5 k b)) [] (-1) = t5 k b := ⟨rfl, rfl⟩
theorem t_six (k : Nat) (b : List UInt8) : onE (offD (t4 k b)) = 0 ∧ onD (offD (t4 k b)) [] (-1) = { t3 k with steps := 2 } := ⟨rfl, rfl⟩
theorem t_read5 (k : Nat) (b : List UInt8) (hk : k < 16) : readS (t5 k b) k = filled b 256 := by
  unfold t5 readS
  show ((tS k).set k (filled b 256)).getD k [] = _
  unfold List.getD; rw [List.getElem?_set_self (by rw [tS_length]; exact hk)]; rfl
theorem t_read5E (k : Nat) (b : List UInt8) (hk : k < 16) (hb : b.length ≤ 256) : readE (t5 k b) k = 0 := by
  have e : readE (t5 k b) k = if readS (t5 k b) k = [] then 5 else 0 := read_live _ _ _ _ k (by rw [List.length_set, tS_length]; exact hk)
  rw [e, t_read5 k b hk, if_neg (filled_ne hb)]
theorem t_read6E (k : Nat) (hk : k < 16) : readE { t3 k with steps := 2 } k = 5 := by
  have e : readE { t3 k with steps := 2 } k = if readS { t3 k with steps := 2 } k = [] then 5 else 0 := read_live (tS k) [] 2 0 k (by rw [tS_length]; exact hk)
  rw [e]
  show (if (tS k).getD k [] = [] then (5 : Int) else 0) = _
  rw [tS_self hk, if_pos rfl]

theorem Disk1 {P : DS → Prop} {D D' : DS} (e : D = D') (h : P D) : P D' := e ▸ h

theorem zero_int (w : World) : Ints (w.alloc (.cells #[.int .i64 0] 3)) (some ⟨w.heap.size, 0, none⟩) [0] := fun k z hk => by
  have h := Blk.new w 3 #[.int .i64 0]
  rcases k with _ | k
  · cases hk
    exact ⟨_, 0, rfl, h.lt, h.cell 0, by decide, by decide⟩
  · simp at hk

set_option maxRecDepth 20000 in
set_option maxHeartbeats 2000000 in
theorem torn_any (s len cap : Nat) (keep : Bool) (A : Option Addr) (b : List UInt8) (w : World) (hs : s < 256) (hlen : b.length = len) (hA : Bytes w A b) :
    Calls Try.prog 8 #[.int .u8 (s : Int), .slice A len cap, .bool keep] w fun e W' => e = .returned (.bool true) ∧ Below w.heap.size w W' := by
  by_cases hbig : 256 < len
  · have hd : decide ((256 : Int) < (len : Int)) = true := by simp; omega
    have HW := Lib.hid (works_any w)
    clear hA
    go_enter Try.func8, Try.ntmps8
    go_wp2_with fail
    refine HW.out.mono ?_
    rintro e w2 ⟨rfl, hb⟩
    have HB := Lib.hid hb
    clear hb
    go_wp2_with fail
    go_ret
    exact ⟨rfl, HB.out⟩
  have hd : decide ((256 : Int) < (len : Int)) = false := by simp; omega
  obtain ⟨k, hk⟩ : ∃ k, s % 16 = k := ⟨_, rfl⟩
  have hk16 : k < 16 := by omega
  have kk : (s : Int) % 16 = (k : Int) := by omega
  have hl256 : len ≤ 256 := by omega
  have KK := Lib.hid kk
  have HA := Lib.hid hA
  have HL := Lib.hid hlen
  have HLB : Hid (b.length ≤ 256) := Lib.hid (by omega)
  have H1 := Lib.hid (Run.new 16 w w (fun _ => False) (fun _ h => h.elim) (Below.refl _ _) (by decide))
  clear hA hlen hk hbig
  go_enter Try.func8, Try.ntmps8
  go_wp2_with fail
  refine H1.out.mono ?_
  rintro e w1 ⟨g, rfl, hR, _⟩
  rw [kk]
  have h2 := (hR.below ((Below.refl _ w1).alloc (Nat.le_refl _) (.cells #[.int .u8 ((1 : UInt8).toNat : Int)] 5))).write 1 1 _ (k : Int) [1] rfl (one_byte w1 1) (by decide) (by decide)
  rw [(t_one k hk16).1, (t_one k hk16).2] at h2
  have H2 := Lib.hid h2
  clear h2 H1 hR kk
  go_wp2_with fail
  refine H2.out.mono ?_
  rintro e w2 ⟨rfl, hR, _⟩
  have H3 := Lib.hid hR.off
  clear H2 hR
  go_wp2_with fail
  refine H3.out.mono ?_
  rintro e w3 ⟨rfl, hR, _⟩
  have h4 := (hR.below ((Below.refl _ w3).alloc (Nat.le_refl _) (.cells #[.int .i64 0] 3))).on 1 1 _ [0] 0 (by show 1 < 1000000; decide) (zero_int w3) rfl (by decide)
  rw [(t_three k).1, (t_three k).2] at h4
  have H4 := Lib.hid h4
  clear h4 H3 hR
  go_wp2_with fail
  refine H4.out.mono ?_
  rintro e w4 ⟨rfl, hR4, _⟩
  have HR4 := Lib.hid hR4
  clear H4 hR4
  go_wp2_with fail
  go_loopw [10, 11, 12] (fun i x y wr => ∃ j : Nat, j ≤ 16 ∧ i = .int .i64 (j : Int) ∧ Hid (Run w wr (fun _ => False) g (t3 k))) (fun i _ _ _ => 16 - (intOf i).toNat)
  case atStart => exact ⟨0, Nat.zero_le _, rfl, HR4⟩
  case round =>
    obtain ⟨j, hj, rfl, hR⟩ := hrel
    clear HR4
    by_cases hlt : j < 16
    · have hd2 : decide ((j : Int) < 16) = true := by simp; omega
      by_cases hjk : j = k
      · subst hjk
        have hr : readE (t3 j) (j : Int) = 5 := by rw [t_read j j hk16 hk16, if_pos rfl]
        have h5 := hR.out.read_no (j : Int) (by rw [hr]; decide)
        rw [hr] at h5
        have H5 := Lib.hid h5
        clear h5 hr
        go_wp2_with fail
        refine H5.out.mono ?_
        rintro e w' ⟨rfl, rfl⟩
        go_wp2_with fail
        go_roundw
        case rel => exact ⟨j + 1, by omega, by go_num, hR⟩
        case measure => simp [intOf]; omega
      · have hr : readE (t3 k) (j : Int) = 0 := by rw [t_read k j hlt hk16, if_neg hjk]
        have H5 := Lib.hid (hR.out.read_yes (j : Int) hr)
        have n1 : ((j : Int) == (k : Int)) = false := by simp; omega
        have n2 : ((j : Int) != (k : Int)) = true := by simp; omega
        clear hr
        go_wp2_with fail
        refine H5.out.mono ?_
        rintro e w5 ⟨rfl, _, _, hR5, _⟩
        have HR5 := Lib.hid (hR5.less (Y := fun _ => False) fun _ h => h.elim)
        clear hR5 H5
        go_wp2_with fail
        go_roundw
        case rel => exact ⟨j + 1, by omega, by go_num, HR5⟩
        case measure => simp [intOf]; omega
    · obtain rfl : j = 16 := by omega
      have hf : (filled b 256).length = 256 := filled_length b 256 HLB.out
      have h5 := reffill_ok A len cap 256 b wr HL.out hl256 (by decide) (HA.out.below (hR.out.bel))
      have hrd := And.intro (t_read4 k b) (t_read4E k b hk16 HLB.out)
      have hrd5 := And.intro (t_read5 k b hk16) (t_read5E k b hk16 HLB.out)
      have hwr := t_four k b hk16 HLB.out
      obtain ⟨fs, hfs⟩ : ∃ fs, filled b 256 = fs := ⟨_, rfl⟩
      rw [hfs] at h5 hf hrd hrd5
      have HF := Lib.hid hf
      have HRD := Lib.hid hrd
      have HRD5 := Lib.hid hrd5
      have HWR := Lib.hid hwr
      have H5 := Lib.hid h5
      clear hf hrd hrd5 hwr h5 hfs
      go_wp2_with fail
      refine H5.out.mono ?_
      rintro e w5 ⟨rfl, hb5, hw5⟩
      have hR5 := hR.out.add hw5 (fun j => j = wr.heap.size) (fun j hj => .inr ⟨by omega, by have := hb5.lt; omega⟩)
      have H6 := Lib.hid (copy_any A len cap b w5 HL.out (HA.out.below hR5.bel) (by unfold maxLen; omega))
      have HB5 := Lib.hid hb5
      have HR5 := Lib.hid hR5
      clear hb5 hw5 hR5 hR H5
      go_wp2_with fail
      refine H6.out.mono ?_
      rintro e w6 ⟨c6, rfl, hrw6, hw6⟩
      have h7 := (HR5.out.below hw6).write len c6 _ (k : Int) b HL.out hrw6.bytes (by show 0 < 1000000; decide) (by show 1 < 1000000000; decide)
      rw [HWR.out.1, HWR.out.2] at h7
      have H7 := Lib.hid h7
      have HB6 := Lib.hid (HB5.out.below hw6 HB5.out.lt)
      clear h7 hrw6 hw6 H6 HB5 HR5
      go_wp2_with fail
      refine H7.out.mono ?_
      rintro e w7 ⟨rfl, hR7, hk7⟩
      have HB7 := Lib.hid (HB6.out.same (hk7 _ rfl))
      have h8 := hR7.read_yes (k : Int) HRD.out.2
      rw [Int.toNat_natCast, HRD.out.1] at h8
      have H8 := Lib.hid h8
      clear h8 hR7 hk7 H7 HB6
      go_wp2_with fail
      refine H8.out.mono ?_
      rintro e w8 ⟨rfl, hb8, _, hR8, hw8⟩
      have HB8 := Lib.hid (HB7.out.below hw8 HB7.out.lt)
      have h9 := eq_any (some ⟨w7.heap.size, 0, none⟩) (some ⟨wr.heap.size, 0, none⟩) 256 256 256 256 fs fs w8 HF.out HF.out (Bytes.row hb8) (Bytes.row HB8.out) (by decide) (by decide)
      rw [decide_eq_true (rfl : fs = fs)] at h9
      have H9 := Lib.hid h9
      have HR8 := Lib.hid (hR8.less (Y := fun j => j = wr.heap.size) (fun j hj => .inl hj))
      clear h9 hR8 hb8 hw8 H8 HB7
      go_wp2_with fail
      refine H9.out.mono ?_
      rintro e w9 ⟨rfl, hw9⟩
      have HR9 := Lib.hid (HR8.out.below hw9)
      have HB9 := Lib.hid (HB8.out.below hw9 HB8.out.lt)
      clear H9 hw9 HR8 HB8
      cases keep
      · have H10 := Lib.hid HR9.out.off
        go_wp2_with fail
        refine H10.out.mono ?_
        rintro e w10 ⟨rfl, hR10, hk10⟩
        have h11 := hR10.on 0 0 none [] (-1) (by show 1 < 1000000; decide) (Ints.nil _ _) rfl (by decide)
        rw [(t_six k b).1, (t_six k b).2] at h11
        have H11 := Lib.hid h11
        clear h11 hR10 hk10 H10
        go_wp2_with fail
        refine H11.out.mono ?_
        rintro e w11 ⟨rfl, hR11, _⟩
        have h12 := hR11.read_no (k : Int) (by rw [t_read6E k hk16]; decide)
        rw [t_read6E k hk16] at h12
        have H12 := Lib.hid h12
        have H13 := Lib.hid (works_any w11)
        have HBL := Lib.hid hR11.bel
        clear h12 hR11 H11
        go_wp2_with fail
        refine H12.out.mono ?_
        rintro e w' ⟨rfl, rfl⟩
        go_wp2_with fail
        refine H13.out.mono ?_
        rintro e w13 ⟨rfl, hb13⟩
        have HBB := Lib.hid (HBL.out.trans (hb13.mono HBL.out.size))
        clear hb13
        go_wp2_with fail
        go_ret
        exact ⟨rfl, HBB.out⟩
      · have h10 := HR9.out.barrier (by show 1 < 1000000; decide) (by show 2 < 1000000000; decide)
        rw [(t_five k b).1, (t_five k b).2] at h10
        have H10 := Lib.hid h10
        clear h10
        go_wp2_with fail
        refine H10.out.mono ?_
        rintro e w10 ⟨rfl, hR10, hk10⟩
        have HB10 := Lib.hid (HB9.out.same (hk10 _ rfl))
        have H11 := Lib.hid hR10.off
        clear hR10 hk10 H10 HB9
        go_wp2_with fail
        refine H11.out.mono ?_
        rintro e w11 ⟨rfl, hR11, hk11⟩
        have HB11 := Lib.hid (HB10.out.same (hk11 _ rfl))
        have h12 := hR11.on 0 0 none [] (-1) (by show 0 < 1000000; decide) (Ints.nil _ _) rfl (by decide)
        rw [(t_seven k b).1, (t_seven k b).2] at h12
        have H12 := Lib.hid h12
        clear h12 hR11 hk11 H11 HB10
        go_wp2_with fail
        refine H12.out.mono ?_
        rintro e w12 ⟨rfl, hR12, hk12⟩
        have HB12 := Lib.hid (HB11.out.same (hk12 _ rfl))
        have h13 := hR12.read_yes (k : Int) HRD5.out.2
        rw [Int.toNat_natCast, HRD5.out.1] at h13
        have H13 := Lib.hid h13
        clear h13 hR12 hk12 H12 HB11
        go_wp2_with fail
        refine H13.out.mono ?_
        rintro e w13 ⟨rfl, hb13, _, hR13, hw13⟩
        have HB13 := Lib.hid (HB12.out.below hw13 HB12.out.lt)
        have h14 := eq_any (some ⟨w12.heap.size, 0, none⟩) (some ⟨wr.heap.size, 0, none⟩) 256 256 256 256 fs fs w13 HF.out HF.out (Bytes.row hb13) (Bytes.row HB13.out) (by decide) (by decide)
        rw [decide_eq_true (rfl : fs = fs)] at h14
        have H14 := Lib.hid h14
        have HBL := Lib.hid hR13.bel
        clear h14 hR13 hb13 hw13 H13 HB12
        go_wp2_with fail
        refine H14.out.mono ?_
        rintro e w14 ⟨rfl, hw14⟩
        have HBM := Lib.hid (HBL.out.trans (hw14.mono HBL.out.size))
        have H15 := Lib.hid (works_any w14)
        clear hw14 H14
        go_wp2_with fail
        refine H15.out.mono ?_
        rintro e w15 ⟨rfl, hb15⟩
        have HBB := Lib.hid (HBM.out.trans (hb15.mono HBM.out.size))
        clear hb15
        go_wp2_with fail
        go_ret
        exact ⟨rfl, HBB.out⟩

end Go.Proofs.Ytdohfkblmadejaa
