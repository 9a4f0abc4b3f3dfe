/- The reference's Seal. -/
import Derived.Test.YtlgoacpmacomnaaDoorH
namespace Go.Proofs.YtlgoacpmacomnaaDoor
open Go.RowKit Crc

theorem refseal_no (k : Nat) (A : Option Addr) (len cap : Nat) (w : World) (_hk : k < 256) (h : k = 0 ∨ 248 < len) :
    Calls Tryd.prog 12 #[.int .u8 (k : Int), .slice A len cap] w fun e w' => e = .returned (.tuple #[.slice none 0 0, .int .i64 1]) ∧ w = w' := by
  by_cases hk0 : k = 0
  · subst hk0
    clear h
    go_enter Tryd.func12, Tryd.ntmps12
    go_wp2
    go_ret2
    exact ⟨rfl, rfl⟩
  · have hb : ((k : Int) == 0) = false := by simpa using hk0
    have hd : decide ((248 : Int) < (len : Int)) = true := by simp; omega
    clear h hk0
    go_enter Tryd.func12, Tryd.ntmps12
    go_wp2
    go_ret2
    exact ⟨rfl, rfl⟩

set_option maxRecDepth 20000 in
set_option maxHeartbeats 1000000 in
theorem refseal_yes (k : Nat) (A : Option Addr) (len cap : Nat) (bs : List UInt8) (w : World) (hk : k < 256) (hk0 : k ≠ 0) (hlen : bs.length = len) (h248 : len ≤ 248) (hA : Bytes w A bs) :
    Calls Tryd.prog 12 #[.int .u8 (k : Int), .slice A len cap] w fun e w' => ∃ A' c', e = .returned (.tuple #[.slice A' 256 c', .int .i64 0]) ∧ w'.ownsRow w.heap.size 5 1 (.slice A' 256 c') 256 ((blockOf k bs).map bv) ∧ Below w.heap.size w w' := by
  have hb : ((k : Int) == 0) = false := by simpa using hk0
  have hd : decide ((248 : Int) < (len : Int)) = false := by simp; omega
  have hr : row8 [UInt8.ofNat k, 0] = #[.int .u8 (k : Int), .int .u8 0] := by
    unfold row8 bv
    simp only [List.map_cons, List.map_nil, UInt8.toNat_ofNat', Nat.mod_eq_of_lt hk]
    rfl
  have hB1 : Bytes (w.alloc (.cells #[.int .u8 (k : Int), .int .u8 0] 5)) (some ⟨w.heap.size, 0, none⟩) [UInt8.ofNat k, 0] := by rw [← hr]; exact Bytes.row (Blk.new w _ _)
  have H1 := Lib.hid (refput_any (some ⟨w.heap.size, 0, none⟩) 2 2 len 2 [UInt8.ofNat k, 0] _ rfl (by decide) hB1 (by omega))
  have HP1 : Hid (putBytes [UInt8.ofNat k, 0] len 2 = hd4 k len) := Lib.hid rfl
  have HB0 := Lib.hid ((Below.refl w.heap.size w).alloc (Nat.le_refl _) (.cells #[.int .u8 (k : Int), .int .u8 0] 5))
  have HWR : Hid (IntKind.u64.wrap (len : Int) = (len : Int)) := Lib.hid (IntWalk.u64_in _ (by omega))
  have HA := Lib.hid hA
  have HL := Lib.hid hlen
  have HLB := Lib.hid (base_length k bs (by omega))
  clear hk hk0 hr hB1 hA hlen
  go_enter Tryd.func12, Tryd.ntmps12
  go_wp2_with fail
  refine H1.out.mono ?_
  rintro e w1 ⟨v1, m1, rfl, hown, hb1⟩
  rw [HP1.out] at hown
  obtain rfl : m1 = 4 := by have := hown.1; simp [hd4] at this; omega
  have hown1 := Joins.ownsRow_le hown (by simp : w.heap.size ≤ _)
  have hbl1 := HB0.out.trans (hb1.mono (by simp))
  obtain ⟨v2, w2, hrun2, hown2, hgr2⟩ := run_app8 w1 w.heap.size v1 4 _ hown1 A len cap bs HL.out (HA.out.below hbl1) (by omega) hbl1.size
  have hbl2 : Below w.heap.size w w2 := hbl1.grown hgr2 hbl1.size (fun k e => (hown1.lt k e).1)
  obtain ⟨A2, c2, rfl⟩ := own_shape hown2
  have HRUN := Lib.hid hrun2
  have h3 := reffill_ok A2 (4 + len) c2 252 (hd4 k len ++ bs) w2 (by simp [hd4, HL.out]; omega) (by omega) (by decide) (Bytes.of_own hown2)
  have e3 : filled (hd4 k len ++ bs) 252 = base k bs := by
    unfold filled base
    rw [HL.out]
    congr 2
    simp only [hd4, List.length_append, HL.out, List.length_cons, List.length_nil]
    omega
  rw [e3] at h3
  have H3 := Lib.hid h3
  have HB2 := Lib.hid hbl2
  clear H1 hown hb1 hown1 hbl1 hrun2 hown2 hgr2 hbl2 h3 e3
  go_wp2_with (at_builtin; refine wpList_app rfl _ _ 22 rfl _ _ _ _ rfl rfl HRUN.out ?_; clear HRUN)
  refine H3.out.mono ?_
  rintro e w3 ⟨rfl, hblk, hb3⟩
  have HB3 := Lib.hid (HB2.out.trans (hb3.mono HB2.out.size))
  have hby := Bytes.row hblk
  have H4 := Lib.hid (refsum_any (some ⟨w2.heap.size, 0, none⟩) 252 252 (base k bs) w3 HLB.out hby (by decide))
  have HBY := Lib.hid hby
  have hs := sumFrom_lt (x := 0) (by decide) (base k bs)
  have HBO : Hid (putBytes (base k bs) (sumFrom 0 (base k bs)) 4 = blockOf k bs) := Lib.hid rfl
  have HLK := Lib.hid (blockOf_length k bs (by rw [HL.out]; exact h248))
  obtain ⟨s, hse⟩ : ∃ s, sumFrom 0 (base k bs) = s := ⟨_, rfl⟩
  rw [hse] at H4 HBO hs
  have hs32 : s < 4294967296 := hs
  clear H3 hblk hb3 hby hse hs
  go_wp2_with fail
  refine H4.out.mono ?_
  rintro e w4 ⟨rfl, hb4⟩
  have HB4 := Lib.hid (HB3.out.trans (hb4.mono HB3.out.size))
  have H5 := Lib.hid (refput_any (some ⟨w2.heap.size, 0, none⟩) 252 252 s 4 (base k bs) w4 HLB.out (by decide) (HBY.out.below hb4) (by omega))
  rw [HBO.out] at H5
  clear H4 hb4 HBY
  go_wp2_with fail
  refine H5.out.mono ?_
  rintro e w5 ⟨v5, m5, rfl, hown, hb5⟩
  obtain rfl : m5 = 256 := by
    have := hown.1
    rw [List.length_map, HLK.out] at this
    omega
  obtain ⟨A5, c5, rfl⟩ := own_shape hown
  have HO := Lib.hid (Joins.ownsRow_le hown HB4.out.size)
  have HB5 := Lib.hid (HB4.out.trans (hb5.mono HB4.out.size))
  clear hown hb5
  go_wp2_with fail
  go_ret2
  exact ⟨A5, c5, rfl, HO.out, HB5.out⟩

end Go.Proofs.YtlgoacpmacomnaaDoor
