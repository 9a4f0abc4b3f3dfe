/- summed, walked. -/
import Derived.Test.YtlgoacpmacomnaaDoorG
import Derived.Deep.RegionHeld
import Derived.Lib.SmallJoins
namespace Go.Proofs.YtlgoacpmacomnaaDoor
open Go.RowKit Crc

set_option maxRecDepth 20000 in
set_option maxHeartbeats 1000000 in
theorem summed_any (A : Option Addr) (cap : Nat) (cs : List UInt8) (w : World) (hlen : cs.length = 256) (hA : Bytes w A cs) (hcap : 256 ≤ cap) :
    Calls Tryd.prog 19 #[.slice A 256 cap] w fun e w' => ∃ A' c', e = .returned (.slice A' 256 c') ∧ w'.ownsRow w.heap.size 5 1 (.slice A' 256 c') 256 ((resum cs).map bv) ∧ Below w.heap.size w w' := by
  have hA1 : Bytes w A (cs.take 252) := hA.take 252
  have htl : (cs.take 252).length = 252 := by simp; omega
  have hbd : Below w.heap.size w w.drew := ⟨rfl, rfl, rfl, Nat.le_refl _, fun _ _ => rfl⟩
  have H1 := Lib.hid (refsum_any A 252 cap (cs.take 252) w.drew htl (hA1.below hbd) (by decide))
  have hs := sumFrom_lt (x := 0) (by decide) (cs.take 252)
  obtain ⟨s, hse⟩ : ∃ s, sumFrom 0 (cs.take 252) = s := ⟨_, rfl⟩
  have hput := fun W' hb => refput_any A 252 cap s 4 (cs.take 252) W' htl (by decide) (hA1.below (w' := W') hb) (by omega)
  have HRS : Hid (putBytes (cs.take 252) s 4 = resum cs) := Lib.hid (by rw [← hse]; rfl)
  have HRL := Lib.hid (resum_length hlen)
  rw [hse] at H1 hs
  have HP := Lib.hid hput
  have HBD := Lib.hid hbd
  have HWR : Hid (IntKind.u64.wrap (s : Int) = (s : Int)) := Lib.hid (by simp [IntKind.wrap, IntKind.bits, IntKind.signed]; omega)
  have hs32 : s < 4294967296 := hs
  have hcp : (252 : Int) ≤ (cap : Int) := by omega
  clear hA hs hbd hA1 htl hse hput hlen
  go_enter Tryd.func19, Tryd.ntmps19
  go_wp2_with fail
  refine wp_region_held_drew (S := fun _ => True) (by kernel_rfl) trivial (fun hHeld => ?_)
  refine takeY 0 (some 3) rfl rfl (by kernel_rfl) (by kernel_rfl) (by kernel_rfl) (fun _ _ _ h => h) (by rfl) (v := _) (by (intro _ hSw; (try dsimp only at hSw); go_simp; try with_reducible rfl)) hHeld ?_
  simp only [Act.put, List.setIfInBounds_toArray, List.set_cons_zero, List.set_cons_succ]
  refine takeY 1 (some 4) rfl rfl (by kernel_rfl) (by kernel_rfl) (by kernel_rfl) (fun _ _ _ h => h) (by rfl) (v := _) (by (intro _ hSw; (try dsimp only at hSw); go_simp; try with_reducible rfl)) hHeld ?_
  simp only [Act.put, List.setIfInBounds_toArray, List.set_cons_zero, List.set_cons_succ]
  refine takeY 2 (some 5) rfl rfl (by kernel_rfl) (by kernel_rfl) (by kernel_rfl) (fun _ _ _ h => h) (by rfl) (v := _) (by (intro _ hSw; (try dsimp only at hSw); go_simp; try with_reducible rfl)) hHeld ?_
  simp only [Act.put, List.setIfInBounds_toArray, List.set_cons_zero, List.set_cons_succ]
  refine takeY 3 (some 6) rfl rfl (by kernel_rfl) (by kernel_rfl) (by kernel_rfl) (fun _ _ _ h => h) (by rfl) (v := _) (by (intro _ hSw; (try dsimp only at hSw); go_simp; try with_reducible rfl)) hHeld ?_
  simp only [Act.put, List.setIfInBounds_toArray, List.set_cons_zero, List.set_cons_succ]
  refine wpAnyH_ready (rs := [4]) (by kernel_rfl) (by simp) ?_
  refine AllReadyH.cons rfl (fun K hK => ?_) AllReadyH.nil
  clear hHeld
  go_simp
  go_wp2_with (go_at_call 28; refine Calls.mono H1.out ?_; rintro e w2 ⟨rfl, hb2⟩; have HB2 := Lib.hid (HBD.out.trans (hb2.mono (Nat.le_refl _))); clear hb2 H1)
  refine hK.out _ _ trivial (fun hHeld => ?_)
  clear hK K
  refine takeY 5 (some 8) rfl rfl (by kernel_rfl) (by kernel_rfl) (by kernel_rfl) (fun _ _ _ h => h) (by rfl) (v := _) (by (intro _ hSw; (try dsimp only at hSw); go_simp; try with_reducible rfl)) hHeld ?_
  simp only [Act.put, List.setIfInBounds_toArray, List.set_cons_zero, List.set_cons_succ]
  refine wpAnyH_ready (rs := [6]) (by kernel_rfl) (by simp) ?_
  refine AllReadyH.cons rfl (fun K hK => ?_) AllReadyH.nil
  clear hHeld
  go_simp
  go_wp2_with (rw [HWR.out]; go_at_call 26; refine Calls.mono (HP.out _ HB2.out) ?_; rintro e w3 ⟨v3, m3, rfl, hown, hb3⟩; have HO := Lib.hid hown; have HB3 := Lib.hid hb3; clear hown hb3 HP)
  refine hK.out _ _ trivial (fun hHeld => ?_)
  clear hK K
  refine takeY 7 (some 2) rfl rfl (by kernel_rfl) (by kernel_rfl) (by kernel_rfl) (fun _ _ _ h => h) (by rfl) (v := _) (by (intro _ hSw; (try dsimp only at hSw); go_simp; try with_reducible rfl)) hHeld ?_
  simp only [Act.put, List.setIfInBounds_toArray, List.set_cons_zero, List.set_cons_succ]
  refine wpAnyH_done (by kernel_rfl) ?_ _
  go_wp2_with fail
  go_ret
  have ho := HO.out
  rw [HRS.out] at ho
  obtain rfl : m3 = 256 := by
    have := ho.1
    rw [List.length_map, HRL.out] at this
    omega
  obtain ⟨A', c', rfl⟩ := own_shape ho
  exact ⟨A', c', rfl, Joins.ownsRow_le ho HB2.out.size, HB2.out.trans (HB3.out.mono HB2.out.size)⟩

end Go.Proofs.YtlgoacpmacomnaaDoor
