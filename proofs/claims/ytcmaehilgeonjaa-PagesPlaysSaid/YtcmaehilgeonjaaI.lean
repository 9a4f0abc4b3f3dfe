/- pages: Part. -/
import Derived.Test.YtcmaehilgeonjaaH
import Derived.Deep.CutBlock
namespace Go.Proofs.Ytcmaehilgeonjaa
open Go.RowKit Pgs

theorem arrayLen16 : Try.prog.arrayLen 51 = 1116 := by kernel_rfl
theorem slice_part (g i : Nat) (hi : i < 9) (w : World) :
    (Instr.sliceAt 51 (.pointer (some ⟨g, 0, none⟩)) (some (.int .i64 ((i : Int) * 124))) (some (.int .i64 (((i : Int) + 1) * 124))) none).run Try.prog w = .ok (.slice (some ⟨g, i * 124, none⟩) 124 (1116 - i * 124)) w := by
  have ht : Try.prog.underlying 51 = some (.array (Try.prog.arrayLen 51) (Try.prog.elem 51)) := by kernel_rfl
  have hs : (sizeOf (Try.prog.elem 51)).run Try.prog w = .ok 1 w := by kernel_rfl
  rw [run_sliceAt_array_lh w 51 ⟨g, 0, none⟩ ht .i64 .i64 _ _ (by omega) (by omega) (by rw [arrayLen16]; omega), hs]
  have e1 : ((i : Int) * 124).toNat = i * 124 := by omega
  have e2 : (((i : Int) + 1) * 124).toNat = i * 124 + 124 := by omega
  have e3 : ¬ (1116 = i * 124) := by omega
  have ea : (⟨g, 0, none⟩ : Addr).add (i * 124 * 1) = ⟨g, i * 124, none⟩ := by unfold Addr.add; split <;> simp_all
  simp only [Result.andThen, slicedAt, e1, e2, arrayLen16, if_neg e3, ea, Nat.add_sub_cancel_left]
set_option maxRecDepth 20000 in
set_option maxHeartbeats 1000000 in
theorem part_nil (i : Int) (w : World) : Calls Try.prog 26 #[.pointer none, .int .i64 i] w fun e w' => e = .returned (.slice none 0 0) ∧ w = w' := by
  go_enter Try.func26, Try.ntmps26
  go_wp2_with fail
  go_ret
  exact ⟨rfl, rfl⟩
set_option maxRecDepth 20000 in
set_option maxHeartbeats 1000000 in
theorem part_no (g : Nat) (i : Int) (w : World) (h : ¬ (0 ≤ i ∧ i < 9)) : Calls Try.prog 26 #[.pointer (some ⟨g, 0, none⟩), .int .i64 i] w fun e w' => e = .returned (.slice none 0 0) ∧ w = w' := by
  have h1 := isPart_any i w
  rw [decide_eq_false h] at h1
  have H1 := Lib.hid h1
  clear h1 h
  go_enter Try.func26, Try.ntmps26
  go_wp2_with (go_at_call 37; refine Calls.mono H1.out ?_; rintro e w' ⟨rfl, rfl⟩)
  go_ret
  exact ⟨rfl, rfl⟩

set_option maxRecDepth 20000 in
set_option maxHeartbeats 2000000 in
theorem part_some (g i : Nat) (L : List Nat) (w : World) (h : PM w g L) (hi : i < 9) :
    Calls Try.prog 26 #[.pointer (some ⟨g, 0, none⟩), .int .i64 (i : Int)] w fun e w' => ∃ A n c, e = .returned (.slice A n c) ∧ n ≤ c ∧ c ≤ maxLen ∧ (partB L i).length = n ∧ Bytes w' A (partB L i) ∧ Below w.heap.size w w' := by
  have h1 := isPart_any (i : Int) w
  rw [decide_eq_true (by omega)] at h1
  have H1 := Lib.hid h1
  have HP := Lib.hid h
  have hpl := partN_len h.ok hi
  obtain ⟨P, hP⟩ : ∃ P, partN L i = P := ⟨_, rfl⟩
  have HG : Hid (∀ j, j < 124 → ∃ x : Nat, P[j]? = some x ∧ x < 65536 ∧ ∀ W, Below w.heap.size w W → W.cell? ⟨g, i * 124 + j, none⟩ = some (.int .u16 (x : Int))) := Lib.hid (fun j hj => by
    obtain ⟨x, e1, e2, e3⟩ := partN_get h.ok hi hj
    rw [hP] at e1
    exact ⟨x, e1, e3, fun W hW => ((PM.below h hW).cell e2)⟩)
  rw [hP] at hpl
  have HPL := Lib.hid hpl
  have hB : partB L i = bytes2 (trim P) := by unfold partB; rw [hP]
  rw [hB]
  clear h1 h hpl hP hB
  have q1 : (0 : Int) ≤ (i : Int) * 124 := by omega
  have q2 : ((i : Int) * 124).toNat = i * 124 := by omega
  have q3 : (i : Int) * 124 ≤ ((i : Int) + 1) * 124 := by omega
  have q4 : ((i : Int) + 1) * 124 ≤ 1116 := by omega
  have q5 : (((i : Int) + 1) * 124).toNat = i * 124 + 124 := by omega
  have q6 : i * 124 + 124 - i * 124 = 124 := by omega
  have hsl := slice_part g i hi w
  have q9 : 124 ≤ 1116 - i * 124 := by omega
  have q7 : (0 : Int) ≤ ((i : Int) + 1) * 124 := by omega
  go_enter Try.func26, Try.ntmps26
  go_upto_block 0 with (go_at_call 37; refine Calls.mono H1.out ?_; rintro e w' ⟨rfl, rfl⟩)
  go_cut [6] from 28 to 39 (fun nv wx => ∃ n : Nat, n ≤ 124 ∧ nv = .int .i64 (n : Int) ∧ Hid (trim P = P.take n) ∧ wx = w)
  case first =>
    go_wp2_with fail
    go_loopw [6] (fun nv wr => ∃ n : Nat, n ≤ 124 ∧ nv = .int .i64 (n : Int) ∧ wr = w ∧ Hid (∀ j, n ≤ j → j < 124 → P[j]? = some 0)) (fun nv _ => (intOf nv).toNat)
    case atStart => exact ⟨124, Nat.le_refl _, rfl, rfl, Lib.hid (fun j h1 h2 => by omega)⟩
    case round =>
      obtain ⟨n, hn, rfl, rfl, hZ⟩ := hrel
      cases n with
      | zero =>
        have HT : Hid (trim P = P.take 0) := Lib.hid (trim_take P 0 (Nat.zero_le _) (fun j h1 h2 => hZ.out j h1 (by rw [← HPL.out]; exact h2)) (.inl rfl))
        go_wp2_with fail
        go_meet
        exact ⟨0, by omega, rfl, HT, rfl⟩
      | succ q =>
        obtain ⟨x, hx, hx6, hc⟩ := HG.out q (by omega)
        have c0 := hc wr (Below.refl _ _)
        have e1 : ((q + 1 : Nat) : Int) - 1 = (q : Int) := by omega
        have e2 : (0 : Int) < ((q + 1 : Nat) : Int) := by omega
        by_cases hx0 : x = 0
        · subst hx0
          have HZ2 : Hid (∀ j, q ≤ j → j < 124 → P[j]? = some 0) := Lib.hid (fun j h1 h2 => by
            by_cases e : j = q
            · subst e; exact hx
            · exact hZ.out j (by omega) h2)
          clear hc hx hZ
          go_wp2_with fail
          go_roundw
          case rel => exact ⟨q, by omega, rfl, by trivial, HZ2⟩
          case measure => simp [intOf]
        · have hxi : ((x : Int) == 0) = false := by simp; omega
          have HT : Hid (trim P = P.take (q + 1)) := Lib.hid (trim_take P (q + 1) (by rw [HPL.out]; omega) (fun j h1 h2 => hZ.out j h1 (by rw [← HPL.out]; exact h2)) (.inr ⟨x, by rw [Nat.add_sub_cancel]; exact hx, hx0⟩))
          clear hc hx hZ
          go_wp2_with fail
          go_meet
          exact ⟨q + 1, by omega, rfl, HT, rfl⟩
  case rest =>
    obtain ⟨n, hn, rfl, hT, hwc⟩ := hcut
    obtain rfl : w = wc := hwc.symm
    have hn2 : (n : Int) ≤ ((1116 - i * 124 : Nat) : Int) := by omega
    have HW : Hid (Bytes w none (bytes2 (P.take 0)) ∧ Below w.heap.size w w) := Lib.hid ⟨Bytes.nil _ _, Below.refl _ _⟩
    clear hsl q1 q2 q3 q4 q5 q6 q7
    go_wp2_with fail
    go_loopw [7, 9, 44] (fun bvv sv iv wr => ∃ (k : Nat) (Ab : Option Addr) (cb : Nat), k ≤ n ∧ iv = .int .i64 (k : Int) ∧ bvv = .slice Ab (2 * k) cb ∧ 2 * k ≤ cb ∧ cb ≤ 1000000 ∧ Hid (Bytes wr Ab (bytes2 (P.take k)) ∧ Below w.heap.size w wr)) (fun _ _ iv _ => n - (intOf iv).toNat)
    case atStart => exact ⟨0, none, 0, Nat.zero_le _, rfl, rfl, Nat.le_refl _, by omega, HW⟩
    case round =>
      clear HW
      obtain ⟨k, Ab, cb, hk, rfl, rfl, hcb, hcb2, hI⟩ := hrel
      by_cases hlt : k < n
      · have hd : decide ((k : Int) < (n : Int)) = true := by simpa using hlt
        obtain ⟨x, hx, hx6, hc⟩ := HG.out k (by omega)
        have c0 := hc wr hI.out.2
        have hlk : (bytes2 (P.take k)).length = 2 * k := by rw [bytes2_len, List.length_take, HPL.out]; omega
        have hput := put_okL Ab (2 * k) cb 2 x (bytes2 (P.take k)) wr hlk rfl (by omega) hI.out.1
        have hts : P.take (k + 1) = P.take k ++ [x] := by
          obtain ⟨h1, h2⟩ := List.getElem?_eq_some_iff.1 hx
          rw [List.take_succ_eq_append_getElem h1, h2]
        have HTS : Hid (bytes2 (P.take (k + 1)) = bytes2 (P.take k) ++ lePut x 2) := Lib.hid (by rw [hts, bytes2_snoc])
        have HPUT := Lib.hid hput
        have HIB := Lib.hid hI.out.2
        have hwx : IntKind.u64.wrap (x : Int) = x := IntWalk.u64_in _ (by omega)
        have e2 : 2 * k + 2 = 2 * (k + 1) := by omega
        clear hx hc hlk hput hts hI
        go_wp2_with fail
        refine HPUT.out.mono ?_
        rintro e w5 ⟨rfl, hR5, hb5⟩
        rw [← HTS.out] at hR5
        have HI5 : Hid (Bytes w5 (some ⟨wr.heap.size + 2, 0, none⟩) (bytes2 (P.take (k + 1))) ∧ Below w.heap.size w w5) := Lib.hid ⟨Bytes.row hR5, HIB.out.trans (hb5.mono HIB.out.size)⟩
        clear hR5 hb5 HPUT HTS c0
        go_wp2_with fail
        go_roundw
        case rel => exact ⟨k + 1, _, _, by omega, by go_num, rfl, by omega, by omega, HI5⟩
        case measure => simp [intOf]; omega
      · obtain rfl : n = k := by omega
        have hd : decide ((n : Int) < (n : Int)) = false := by simp
        go_wp2_with fail
        go_ret
        exact ⟨Ab, 2 * n, cb, rfl, hcb, by unfold maxLen; omega, by rw [hT.out, bytes2_len, List.length_take, HPL.out]; omega, by rw [hT.out]; exact hI.out.1, hI.out.2⟩
end Go.Proofs.Ytcmaehilgeonjaa
