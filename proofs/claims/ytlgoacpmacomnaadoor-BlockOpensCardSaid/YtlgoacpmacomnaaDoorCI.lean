/- The bits of a text, as the reference lists them. -/
import Derived.Test.YtlgoacpmacomnaaDoorCV
namespace Go.Proofs.YtlgoacpmacomnaaDoor
open Go.RowKit Crc

theorem bit_of (c q : Nat) (b : Bool) (h : c.testBit q = b) : (((c : Int) / 2 ^ q).tmod 2 == 1) = b := by
  have e : ((c : Int) / 2 ^ q) = ((c / 2 ^ q : Nat) : Int) := by push_cast; rfl
  have e2 : (((c / 2 ^ q : Nat) : Int)).tmod 2 = ((c / 2 ^ q % 2 : Nat) : Int) := by
    generalize c / 2 ^ q = m
    rw [Int.tmod_eq_emod_of_nonneg (by omega)]; omega
  rw [e, e2, ← h, Nat.testBit_eq_decide_div_mod_eq, Bool.eq_iff_iff]
  simp only [beq_iff_eq, decide_eq_true_eq]
  omega

set_option maxHeartbeats 400000 in
theorem bits_any (A : Option Addr) (n cap : Nat) (bs : List UInt8) (w : World) (hn : bs.length = n) (hA : Bytes w A bs) (hl : n ≤ 4096) :
    Calls Tryd.prog 43 #[.slice A n cap] w fun e w' => ∃ v, e = .returned v ∧ w'.ownsRow w.heap.size 4 1 v (8 * n) (rowB (bl (bval bs) (8 * n))) ∧ Below w.heap.size w w' := by
  obtain ⟨B, hB⟩ : ∃ B, w.heap.size = B := ⟨_, rfl⟩
  rw [hB]
  obtain ⟨X, hX⟩ : ∃ X, bval bs = X := ⟨_, rfl⟩
  rw [hX]
  have HA := Lib.hid hA
  have HN := Lib.hid hn
  have HB := Lib.hid hB
  have HX := Lib.hid hX
  clear hA hn hB hX
  go_enter Tryd.func43, Tryd.ntmps43
  go_wp2
  go_loopw [3, 4] (fun v i wr => ∃ j : Nat, j ≤ n ∧ i = .int .i64 j ∧ wr.ownsRow B 4 1 v (8 * j) (rowB (bl X (8 * j))) ∧ Below B w wr ∧ B ≤ wr.heap.size) (fun _ i _ => n - (intOf i).toNat)
  case atStart => exact ⟨0, Nat.zero_le _, rfl, ⟨by simp [rowB, bl], .inl ⟨rfl, rfl⟩⟩, Below.refl _ _, Nat.le_of_eq HB.out.symm⟩
  case round =>
    obtain ⟨j, hj, rfl, hown, hbw, hsz⟩ := hrel
    by_cases hlt : j < n
    · obtain ⟨wo, rfl⟩ : ∃ wo : World, wo = wr := ⟨_, rfl⟩
      have HO := Lib.hid hown
      have HBW := Lib.hid hbw
      have HSZ := Lib.hid hsz
      clear hown hbw hsz
      go_wp2
      go_loopw [3, 5] (fun v i wr => ∃ q : Nat, q ≤ 8 ∧ i = .int .i64 q ∧ wr.ownsRow B 4 1 v (8 * j + q) (rowB (bl X (8 * j + q))) ∧ Below B w wr ∧ B ≤ wr.heap.size) (fun _ i _ => 8 - (intOf i).toNat)
      case atStart => exact ⟨0, by omega, rfl, HO.out, HBW.out, HSZ.out⟩
      case round =>
        obtain ⟨q, hq, rfl, hown, hbw, hsz⟩ := hrel
        by_cases hlq : q < 8
        · have hA2 := HA.out.below (show Below w.heap.size w wr by rw [HB.out]; exact hbw)
          have hjl : j < bs.length := by rw [HN.out]; exact hlt
          obtain ⟨b, off, rfl, hblt, hc⟩ := hA2.at_ (k := j) hjl
          have hc' := hc j _ (List.getElem?_eq_getElem hjl)
          have hbit := bval_bit bs j q hlq hjl
          rw [HX.out] at hbit
          have hcl := bs[j].toNat_lt
          have hval := bit_of _ q _ hbit.symm
          obtain ⟨d, hd⟩ : ∃ d, X.testBit (8 * j + q) = d := ⟨_, rfl⟩
          rw [hd] at hval
          obtain ⟨v2, w2, hrun, hown2, hgr⟩ := run_appB wr B _ (8 * j + q) _ d hown (by omega) hsz
          rw [← hd, bl_succ] at hown2
          have hb2 : Below B w w2 := (hbw.alloc hsz _).grown hgr (by rw [World.size_alloc]; omega) (fun k e => (hown.lt k e).1)
          have hszz := hgr.size
          rw [World.size_alloc] at hszz
          have hsz2 : B ≤ w2.heap.size := by omega
          generalize bs[j].toNat = cc at *
          have HRUN := Lib.hid hrun
          have HO2 := Lib.hid hown2
          have HB2 := Lib.hid hb2
          clear hA2 hc hbit hd hrun hown hown2 hgr hb2 hbw hszz
          go_wp2_with (first
            | (at_builtin; refine wpList_app rfl _ _ 70 rfl _ _ _ _ rfl rfl HRUN.out ?_; clear HRUN))
          go_roundw
          case rel => exact ⟨q + 1, by omega, by go_num, HO2.out, HB2.out, hsz2⟩
          case measure => simp [intOf]; omega
        · obtain rfl : q = 8 := by omega
          have HO1 := Lib.hid hown
          have HB1 := Lib.hid hbw
          clear hown hbw
          go_wp2
          go_roundw
          case rel => exact ⟨j + 1, by omega, by go_num, HO1.out, HB1.out, hsz⟩
          case measure => simp [intOf]; omega
    · obtain rfl : j = n := by omega
      have HO1 := Lib.hid hown
      have HB1 := Lib.hid hbw
      clear hown hbw
      go_wp2
      go_ret
      exact ⟨_, rfl, HO1.out, HB1.out⟩

end Go.Proofs.YtlgoacpmacomnaaDoor
