/- stand. -/
import Derived.Test.YtobfglnopihibaaZKept
namespace Go.Proofs.Ytobfglnopihibaa
open Go.RowKit

/-- What is held of answer i, in the block gl. -/
structure HoldAt (w : World) (gl i : Nat) (A : Option Addr) (len cap : Nat) (cs says : List UInt8) (gm cm : Nat) : Prop where
  c0 : w.cell? ⟨gl, i * 3, none⟩ = some (.slice A len cap)
  c1 : w.cell? ⟨gl, i * 3 + 1, none⟩ = some (.string (str says))
  c2 : w.cell? ⟨gl, i * 3 + 2, none⟩ = some (.slice (some ⟨gm, 0, none⟩) (len + 10) cm)
  long : cs.length = len
  short : len ≤ 70368744177664
  bytes : Bytes w A cs
  more : ∀ k, k < 10 → w.cell? ⟨gm, len + k, none⟩ = some (.int .u8 ((i : Int) % 256))

theorem HoldAt.below {w w' : World} {gl i : Nat} {A : Option Addr} {len cap : Nat} {cs says : List UInt8} {gm cm : Nat} (h : HoldAt w gl i A len cap cs says gm cm) (hb : Below w.heap.size w w') : HoldAt w' gl i A len cap cs says gm cm :=
  ⟨(hb.cell (p := ⟨gl, i * 3, none⟩) (World.block_lt_of_cell? w _ h.c0)).trans h.c0, (hb.cell (p := ⟨gl, i * 3 + 1, none⟩) (World.block_lt_of_cell? w _ h.c1)).trans h.c1, (hb.cell (p := ⟨gl, i * 3 + 2, none⟩) (World.block_lt_of_cell? w _ h.c2)).trans h.c2,
    h.long, h.short, h.bytes.below hb, fun k hk => (hb.cell (p := ⟨gm, len + k, none⟩) (World.block_lt_of_cell? w _ (h.more k hk))).trans (h.more k hk)⟩

def Stands (w : World) (gl n : Nat) (but : Int) : Prop := ∀ i, i < n → ∃ A len cap cs says gm cm, HoldAt w gl i A len cap cs says gm cm ∧ ((i : Int) = but ∨ cs = says)

set_option maxRecDepth 20000 in
set_option maxHeartbeats 1000000 in
theorem stand_any (gl n c : Nat) (but : Int) (w : World) (hS : Stands w gl n but) (hn : n ≤ 256) :
    Calls Try.prog 28 #[.slice (some ⟨gl, 0, none⟩) n c, .int .i64 but] w fun e w' => e = .returned (.bool true) ∧ Below w.heap.size w w' := by
  have HS := Lib.hid hS
  clear hS
  go_enter Try.func28, Try.ntmps28
  go_wp2_with fail
  go_loopw [5, 6] (fun x _ wr => ∃ i : Nat, i ≤ n ∧ x = .int .i64 i ∧ Hid (Below w.heap.size w wr)) (fun x _ _ => n - (intOf x).toNat)
  case atStart => exact ⟨0, Nat.zero_le _, rfl, Lib.hid (Below.refl _ _)⟩
  case round =>
    obtain ⟨i, hi, rfl, hbel⟩ := hrel
    by_cases hin : i < n
    · have hid : decide ((i : Int) < (n : Int)) = true := by simp; omega
      have hin2 : (i : Int) < (n : Int) := by omega
      obtain ⟨A, len, cap, cs, says, gm, cm, hh, hor⟩ := HS.out i hin
      have HH := Lib.hid hh
      have hsh := hh.short
      have hlg := hh.long
      have h0 := (hh.below hbel.out.drew)
      have HBD := Lib.hid hbel.out.drew
      have H0 := Lib.hid h0
      by_cases hbut : (i : Int) = but
      · have hq : ((i : Int) != but) = false := by simpa using hbut
        clear hh hor h0 hlg hbel hbut
        go_wp2_with fail
        refine wp_region_held_drew (S := fun _ => True) (by kernel_rfl) trivial (fun hHeld => ?_)
        refine takeY 0 (some 13) rfl rfl (by kernel_rfl) (by kernel_rfl) (by kernel_rfl) (fun _ _ _ h => h) (by rfl) (v := _) (by (intro _ hSw; (try dsimp only at hSw); go_simp; try with_reducible rfl)) hHeld ?_
        simp only [Act.put, List.setIfInBounds_toArray, List.set_cons_zero, List.set_cons_succ]
        refine takeY 1 (some 14) rfl rfl (by kernel_rfl) (by kernel_rfl) (by kernel_rfl) (fun _ _ _ h => h) (by rfl) (v := _) (by (intro _ hSw; (try dsimp only at hSw); go_simp; try with_reducible rfl)) hHeld ?_
        simp only [Act.put, List.setIfInBounds_toArray, List.set_cons_zero, List.set_cons_succ]
        refine takeY 2 (some 15) rfl rfl (by kernel_rfl) (by kernel_rfl) (by kernel_rfl) (fun _ _ _ h => h) (by rfl) (v := _) (by (intro _ hSw; (try dsimp only at hSw); go_simp; try with_reducible rfl)) hHeld ?_
        simp only [Act.put, List.setIfInBounds_toArray, List.set_cons_zero, List.set_cons_succ]
        refine takeY 3 (some 16) rfl rfl (by kernel_rfl) (by kernel_rfl) (by kernel_rfl) (fun _ _ _ h => h) (by rfl) (v := _) (by (intro _ hSw; (try dsimp only at hSw); go_simp; try with_reducible rfl)) hHeld ?_
        simp only [Act.put, List.setIfInBounds_toArray, List.set_cons_zero, List.set_cons_succ]
        refine takeN 4 (some 17) rfl rfl (by kernel_rfl) (by kernel_rfl) (by kernel_rfl) (fun _ _ _ h => h) (by rfl) hHeld ?_
        simp only [Act.put, List.setIfInBounds_toArray, List.set_cons_zero, List.set_cons_succ]
        refine takeN 5 (some 18) rfl rfl (by kernel_rfl) (by kernel_rfl) (by kernel_rfl) (fun _ _ _ h => h) (by rfl) hHeld ?_
        simp only [Act.put, List.setIfInBounds_toArray, List.set_cons_zero, List.set_cons_succ]
        refine takeN 6 (some 19) rfl rfl (by kernel_rfl) (by kernel_rfl) (by kernel_rfl) (fun _ _ _ h => h) (by rfl) hHeld ?_
        simp only [Act.put, List.setIfInBounds_toArray, List.set_cons_zero, List.set_cons_succ]
        refine takeN 7 (some 20) rfl rfl (by kernel_rfl) (by kernel_rfl) (by kernel_rfl) (fun _ _ _ h => h) (by rfl) hHeld ?_
        simp only [Act.put, List.setIfInBounds_toArray, List.set_cons_zero, List.set_cons_succ]
        refine takeN 8 (some 21) rfl rfl (by kernel_rfl) (by kernel_rfl) (by kernel_rfl) (fun _ _ _ h => h) (by rfl) hHeld ?_
        simp only [Act.put, List.setIfInBounds_toArray, List.set_cons_zero, List.set_cons_succ]
        refine takeN 9 (some 22) rfl rfl (by kernel_rfl) (by kernel_rfl) (by kernel_rfl) (fun _ _ _ h => h) (by rfl) hHeld ?_
        simp only [Act.put, List.setIfInBounds_toArray, List.set_cons_zero, List.set_cons_succ]
        refine takeN 10 (some 23) rfl rfl (by kernel_rfl) (by kernel_rfl) (by kernel_rfl) (fun _ _ _ h => h) (by rfl) hHeld ?_
        simp only [Act.put, List.setIfInBounds_toArray, List.set_cons_zero, List.set_cons_succ]
        refine takeN 11 (some 24) rfl rfl (by kernel_rfl) (by kernel_rfl) (by kernel_rfl) (fun _ _ _ h => h) (by rfl) hHeld ?_
        simp only [Act.put, List.setIfInBounds_toArray, List.set_cons_zero, List.set_cons_succ]
        refine takeN 12 (some 25) rfl rfl (by kernel_rfl) (by kernel_rfl) (by kernel_rfl) (fun _ _ _ h => h) (by rfl) hHeld ?_
        simp only [Act.put, List.setIfInBounds_toArray, List.set_cons_zero, List.set_cons_succ]
        refine takeN 13 (some 26) rfl rfl (by kernel_rfl) (by kernel_rfl) (by kernel_rfl) (fun _ _ _ h => h) (by rfl) hHeld ?_
        simp only [Act.put, List.setIfInBounds_toArray, List.set_cons_zero, List.set_cons_succ]
        refine takeN 14 (some 27) rfl rfl (by kernel_rfl) (by kernel_rfl) (by kernel_rfl) (fun _ _ _ h => h) (by rfl) hHeld ?_
        simp only [Act.put, List.setIfInBounds_toArray, List.set_cons_zero, List.set_cons_succ]
        refine takeN 15 (some 28) rfl rfl (by kernel_rfl) (by kernel_rfl) (by kernel_rfl) (fun _ _ _ h => h) (by rfl) hHeld ?_
        simp only [Act.put, List.setIfInBounds_toArray, List.set_cons_zero, List.set_cons_succ]
        refine takeY 16 (some 29) rfl rfl (by kernel_rfl) (by kernel_rfl) (by kernel_rfl) (fun _ _ _ h => h) (by rfl) (v := _) (by (intro _ hSw; (try dsimp only at hSw); go_simp; try with_reducible rfl)) hHeld ?_
        simp only [Act.put, List.setIfInBounds_toArray, List.set_cons_zero, List.set_cons_succ]
        refine wpAnyH_done (by kernel_rfl) ?_ _
        have hc0 := H0.out.c0
        have hc2 := H0.out.c2
        go_wp2_with fail
        go_loop [6] (fun x => ∃ p : Nat, len ≤ p ∧ p ≤ len + 10 ∧ x = .int .i64 p) (fun x => len + 10 - (intOf x).toNat)
        case atStart => exact ⟨len, Nat.le_refl _, by omega, rfl⟩
        case round =>
          obtain ⟨p, hp1, hp2, rfl⟩ := hrel
          by_cases hp : p < len + 10
          · have hm := H0.out.more (p - len) (by omega)
            rw [show len + (p - len) = p by omega] at hm
            have hpd : (p : Int) < (len : Int) + 10 := by omega
            have hpd2 : decide ((p : Int) < (len : Int) + 10) = true := by simp; omega
            go_wp2_with fail
            go_round
            case rel => exact ⟨p + 1, by omega, by omega, by go_num⟩
            case measure => simp [intOf]; omega
          · have hpd : ¬ (p : Int) < (len : Int) + 10 := by omega
            have hpd2 : decide ((p : Int) < (len : Int) + 10) = false := by simp; omega
            go_wp2_with fail
            go_roundw
            case rel => exact ⟨i + 1, by omega, by go_num, HBD⟩
            case measure => simp [intOf]; omega
      · have hq : ((i : Int) != but) = true := by simpa using hbut
        obtain rfl : cs = says := hor.resolve_left hbut
        have hconv := run_str8L wr.drew A len cap cs hlg h0.bytes
        have hc0 := h0.c0
        have hc1 := h0.c1
        obtain ⟨s, hs⟩ : ∃ s, str cs = s := ⟨_, rfl⟩
        rw [hs] at hconv hc1
        have HK := Lib.hid (And.intro hc0 (And.intro hc1 hconv))
        have hss : (s.toList == s.toList) = true := by simp
        clear hh hor h0 hlg hbel hconv hc0 hc1 hs hbut
        go_wp2_with fail
        refine wp_region_held_drew (S := fun W => W.cell? ⟨gl, i * 3, none⟩ = some (.slice A len cap) ∧ W.cell? ⟨gl, i * 3 + 1, none⟩ = some (.string s) ∧ (convert 28 9 (.slice A len cap)).run Try.prog W = .ok (.string s) W) (by kernel_rfl) HK.out (fun hHeld => ?_)
        refine takeY 0 (some 13) rfl rfl (by kernel_rfl) (by kernel_rfl) (by kernel_rfl) (fun _ _ _ h => h) (by rfl) (v := _) (by (intro _ hSw; (try dsimp only at hSw); go_simp; try with_reducible rfl)) hHeld ?_
        simp only [Act.put, List.setIfInBounds_toArray, List.set_cons_zero, List.set_cons_succ]
        refine takeY 1 (some 14) rfl rfl (by kernel_rfl) (by kernel_rfl) (by kernel_rfl) (fun _ _ _ h => h) (by rfl) (v := _) (by (intro _ hSw; (try dsimp only at hSw); go_simp; try with_reducible rfl)) hHeld ?_
        simp only [Act.put, List.setIfInBounds_toArray, List.set_cons_zero, List.set_cons_succ]
        refine takeY 2 (some 15) rfl rfl (by kernel_rfl) (by kernel_rfl) (by kernel_rfl) (fun _ _ _ h => h) (by rfl) (v := _) (by (intro _ hSw; (try dsimp only at hSw); go_simp; try with_reducible rfl)) hHeld ?_
        simp only [Act.put, List.setIfInBounds_toArray, List.set_cons_zero, List.set_cons_succ]
        refine takeY 3 (some 16) rfl rfl (by kernel_rfl) (by kernel_rfl) (by kernel_rfl) (fun _ _ _ h => h) (by rfl) (v := _) (by (intro _ hSw; (try dsimp only at hSw); go_simp; try with_reducible rfl)) hHeld ?_
        simp only [Act.put, List.setIfInBounds_toArray, List.set_cons_zero, List.set_cons_succ]
        refine takeY 4 (some 17) rfl rfl (by kernel_rfl) (by kernel_rfl) (by kernel_rfl) (fun _ _ _ h => h) (by rfl) (v := _) (by (intro _ hSw; (try dsimp only at hSw); go_simp; try with_reducible rfl)) hHeld ?_
        simp only [Act.put, List.setIfInBounds_toArray, List.set_cons_zero, List.set_cons_succ]
        refine takeY 5 (some 18) rfl rfl (by kernel_rfl) (by kernel_rfl) (by kernel_rfl) (fun _ _ _ h => h) (by rfl) (v := _) (by (intro _ hSw; (try dsimp only at hSw); go_simp; try with_reducible rfl)) hHeld ?_
        simp only [Act.put, List.setIfInBounds_toArray, List.set_cons_zero, List.set_cons_succ]
        refine takeY 6 (some 19) rfl rfl (by kernel_rfl) (by kernel_rfl) (by kernel_rfl) (fun _ _ _ h => h) (by rfl) (v := _) (by (intro _ hSw; (try dsimp only at hSw); go_simp; try with_reducible rfl)) hHeld ?_
        simp only [Act.put, List.setIfInBounds_toArray, List.set_cons_zero, List.set_cons_succ]
        refine takeY 7 (some 20) rfl rfl (by kernel_rfl) (by kernel_rfl) (by kernel_rfl) (fun _ _ _ h => h) (by rfl) (v := _) (by (intro _ hSw; (try dsimp only at hSw); go_simp; try with_reducible rfl)) hHeld ?_
        simp only [Act.put, List.setIfInBounds_toArray, List.set_cons_zero, List.set_cons_succ]
        refine takeY 8 (some 21) rfl rfl (by kernel_rfl) (by kernel_rfl) (by kernel_rfl) (fun _ _ _ h => h) (by rfl) (v := _) (by (intro _ hSw; (try dsimp only at hSw); go_simp; try with_reducible rfl)) hHeld ?_
        simp only [Act.put, List.setIfInBounds_toArray, List.set_cons_zero, List.set_cons_succ]
        refine takeY 9 (some 22) rfl rfl (by kernel_rfl) (by kernel_rfl) (by kernel_rfl) (fun _ _ _ h => h) (by rfl) (v := _) (by (intro _ hSw; (try dsimp only at hSw); go_simp; try with_reducible rfl)) hHeld ?_
        simp only [Act.put, List.setIfInBounds_toArray, List.set_cons_zero, List.set_cons_succ]
        refine takeY 10 (some 23) rfl rfl (by kernel_rfl) (by kernel_rfl) (by kernel_rfl) (fun _ _ _ h => h) (by rfl) (v := _) (by (intro _ hSw; (try dsimp only at hSw); go_simp; try with_reducible rfl)) hHeld ?_
        simp only [Act.put, List.setIfInBounds_toArray, List.set_cons_zero, List.set_cons_succ]
        refine takeY 11 (some 24) rfl rfl (by kernel_rfl) (by kernel_rfl) (by kernel_rfl) (fun _ _ _ h => h) (by rfl) (v := _) (by (intro _ hSw; (try dsimp only at hSw); go_simp; try with_reducible rfl)) hHeld ?_
        simp only [Act.put, List.setIfInBounds_toArray, List.set_cons_zero, List.set_cons_succ]
        refine takeY 12 (some 25) rfl rfl (by kernel_rfl) (by kernel_rfl) (by kernel_rfl) (fun _ _ _ h => h) (by rfl) (v := _) (by (intro _ hSw; (try dsimp only at hSw); go_simp; try with_reducible rfl)) hHeld ?_
        simp only [Act.put, List.setIfInBounds_toArray, List.set_cons_zero, List.set_cons_succ]
        refine takeY 13 (some 26) rfl rfl (by kernel_rfl) (by kernel_rfl) (by kernel_rfl) (fun _ _ _ h => h) (by rfl) (v := _) (by (intro _ hSw; (try dsimp only at hSw); go_simp; try with_reducible rfl)) hHeld ?_
        simp only [Act.put, List.setIfInBounds_toArray, List.set_cons_zero, List.set_cons_succ]
        refine takeY 14 (some 27) rfl rfl (by kernel_rfl) (by kernel_rfl) (by kernel_rfl) (fun _ _ _ h => h) (by rfl) (v := _) (by (intro _ hSw; (try dsimp only at hSw); go_simp; try with_reducible rfl)) hHeld ?_
        simp only [Act.put, List.setIfInBounds_toArray, List.set_cons_zero, List.set_cons_succ]
        refine takeY 15 (some 28) rfl rfl (by kernel_rfl) (by kernel_rfl) (by kernel_rfl) (fun _ _ _ h => h) (by rfl) (v := _) (by (intro _ hSw; (try dsimp only at hSw); go_simp; try with_reducible rfl)) hHeld ?_
        simp only [Act.put, List.setIfInBounds_toArray, List.set_cons_zero, List.set_cons_succ]
        refine takeY 16 (some 29) rfl rfl (by kernel_rfl) (by kernel_rfl) (by kernel_rfl) (fun _ _ _ h => h) (by rfl) (v := _) (by (intro _ hSw; (try dsimp only at hSw); go_simp; try with_reducible rfl)) hHeld ?_
        simp only [Act.put, List.setIfInBounds_toArray, List.set_cons_zero, List.set_cons_succ]
        refine wpAnyH_done (by kernel_rfl) ?_ _
        have hc0 := H0.out.c0
        have hc2 := H0.out.c2
        go_wp2_with fail
        go_loop [6] (fun x => ∃ p : Nat, len ≤ p ∧ p ≤ len + 10 ∧ x = .int .i64 p) (fun x => len + 10 - (intOf x).toNat)
        case atStart => exact ⟨len, Nat.le_refl _, by omega, rfl⟩
        case round =>
          obtain ⟨p, hp1, hp2, rfl⟩ := hrel
          by_cases hp : p < len + 10
          · have hm := H0.out.more (p - len) (by omega)
            rw [show len + (p - len) = p by omega] at hm
            have hpd : (p : Int) < (len : Int) + 10 := by omega
            have hpd2 : decide ((p : Int) < (len : Int) + 10) = true := by simp; omega
            go_wp2_with fail
            go_round
            case rel => exact ⟨p + 1, by omega, by omega, by go_num⟩
            case measure => simp [intOf]; omega
          · have hpd : ¬ (p : Int) < (len : Int) + 10 := by omega
            have hpd2 : decide ((p : Int) < (len : Int) + 10) = false := by simp; omega
            go_wp2_with fail
            go_roundw
            case rel => exact ⟨i + 1, by omega, by go_num, HBD⟩
            case measure => simp [intOf]; omega
    · have hid : decide ((i : Int) < (n : Int)) = false := by simp; omega
      have hin2 : ¬ (i : Int) < (n : Int) := by omega
      have HB := Lib.hid hbel.out
      clear hbel
      go_wp2_with fail
      go_ret
      exact ⟨rfl, HB.out⟩

end Go.Proofs.Ytobfglnopihibaa
