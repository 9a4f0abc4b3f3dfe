/- token: the reference's number. -/
import Derived.Test.YtdnmdccjecoojaaDoorS
namespace Go.Proofs.YtdnmdccjecoojaaDoor
open Go.RowKit Tok
set_option maxHeartbeats 2000000 in
theorem rnumber_any (s : List UInt8) (w : World) (hb : s.length < 4294967296) :
    Calls Tryd.prog 46 #[.string (str s)] w (OneP (numN s) w) := by
  obtain ⟨n, hn⟩ : ∃ n, s.length = n := ⟨_, rfl⟩
  have hsz := str_sizeN hn
  rw [hn] at hb
  obtain ⟨w0, hw0⟩ : ∃ w0, w.alloc (.cells #[.int .u8 0, .string ⟨#[]⟩, .int .i64 0, .int .i64 0] 34) = w0 := ⟨_, rfl⟩
  have hR0 : Blk w0 w.heap.size 34 #[.int .u8 0, .string ⟨#[]⟩, .int .i64 0, .int .i64 0] := by rw [← hw0]; exact Blk.new _ _ _
  have hb0 : Below w.heap.size w w0 := by rw [← hw0]; exact (Below.refl _ _).alloc (Nat.le_refl _) _
  have hX : numN s = (numL 0 (s.takeWhile digitB)).map fun v => (⟨4, [], v⟩, (s.takeWhile digitB).length) := rfl
  have htk := take_tw digitB s
  have hrl := tw_le digitB s
  rw [hn] at hrl
  obtain ⟨r, hr⟩ : ∃ r, (s.takeWhile digitB).length = r := ⟨_, rfl⟩
  have HY : Hid (∀ k c, k ≤ r → s[k]? = some c → digitB c = true → k + 1 ≤ r ∧ (s.takeWhile digitB)[k]? = some c) := Lib.hid (fun k c h h2 h3 => by
    subst hr
    have := tw_yes h h2 h3
    refine ⟨this, ?_⟩
    rw [← htk, List.getElem?_take_of_lt (by omega)]
    exact h2)
  have HZ : Hid (∀ k c, k ≤ r → s[k]? = some c → digitB c = false → r = k) := Lib.hid (fun k c h h2 h3 => by subst hr; exact tw_no h h2 h3)
  rw [hr] at hX hrl
  obtain ⟨ds, hds⟩ : ∃ ds, s.takeWhile digitB = ds := ⟨_, rfl⟩
  rw [hds] at hX hr HY
  have HX := Lib.hid hX
  have HDL := Lib.hid hr
  have HR0 := Lib.hid hR0
  have HB0 := Lib.hid hb0
  have HN := Lib.hid hn
  have HRL := Lib.hid hrl
  obtain ⟨r0, r1, r2, r3, f0⟩ := hR0.told4
  have HF : Hid (numL 0 ds = numL 0 (ds.drop 0)) := Lib.hid (by rw [List.drop_zero])
  have HEND : Hid (∀ v, numL 0 ds = numL v (ds.drop r) → numN s = some (⟨4, [], v⟩, r)) := Lib.hid (fun v h => by rw [HX.out, h, List.drop_eq_nil_of_le (by rw [HDL.out]; exact Nat.le_refl _)]; rfl)
  clear hX hR0 hb0 hn hrl hr hds htk
  go_enter Tryd.func46, Tryd.ntmps46
  go_wp2_with fail
  go_loopw [4, 5, 6] (fun iv nv _ wr => ∃ k v : Nat, k ≤ r ∧ iv = .int .i64 (k : Int) ∧ nv = .int .i64 (v : Int) ∧ wr = w0 ∧ v ≤ 4611686018427387903 ∧ Hid (numL 0 ds = numL v (ds.drop k))) (fun iv _ _ _ => n - (intOf iv).toNat)
  case atStart => exact ⟨0, 0, Nat.zero_le _, rfl, rfl, rfl, by omega, HF⟩
  case round =>
    clear HF
    obtain ⟨k, v, hk, rfl, rfl, hw, hv, hI⟩ := hrel
    obtain rfl : w0 = _ := hw.symm
    by_cases hlt : k < n
    · have hdk : decide ((k : Int) < (n : Int)) = true := by simpa using hlt
      obtain ⟨c, hc⟩ : ∃ c, s[k]? = some c := ⟨_, List.getElem?_eq_getElem (by rw [HN.out]; exact hlt)⟩
      have hks : k < (str s).size := by rw [hsz]; exact hlt
      have hcc := str_at hc hks
      have H1 := rdigit_any c w0
      unfold bv at H1
      obtain ⟨p, hp⟩ : ∃ p, digitB c = p := ⟨_, rfl⟩
      rw [hp] at H1
      cases p with
      | true =>
        obtain ⟨hk1, hdc⟩ := HY.out k c hk hc hp
        have hI2 := hI.out
        rw [numL_cons hdc] at hI2
        unfold digitB at hp
        simp only [Bool.and_eq_true, decide_eq_true_eq] at hp
        obtain ⟨cn, hcn⟩ : ∃ cn, c.toNat = cn := ⟨_, rfl⟩
        rw [hcn] at hI2 hp H1
        obtain ⟨d, hdd⟩ : ∃ d, cn - 48 = d := ⟨_, rfl⟩
        rw [hdd] at hI2
        obtain ⟨h48, h57⟩ := hp
        have H1 := Lib.hid H1
        have hd9 : d ≤ 9 := by omega
        clear hc hdc HY HZ
        by_cases hbig : (big - d) / 10 < v
        · rw [if_pos hbig] at hI2
          have hd : decide ((v : Int) > (4611686018427387903 - ((cn : Int) - 48)) / 10) = true := by unfold big at hbig; simp; omega
          have HI := Lib.hid hI2
          clear hI2 hI hbig
          go_wp2_with fail
          refine H1.out.mono ?_
          rintro e w' ⟨rfl, rfl⟩
          go_wp2_with fail
          refine bodyPost_ret (results_cell_row2 rfl _ _ w.heap.size 34 _ (0, 0) _ rfl HR0.out.put4 Tryd.underlying34 rfl infoTk) rfl ?_
          exact ⟨below_put4 HB0.out (Nat.le_refl _), noTk, 0, rfl, .inl ⟨by rw [HX.out, HI.out]; rfl, rfl⟩⟩
        · rw [if_neg hbig] at hI2
          have hd : decide ((v : Int) > (4611686018427387903 - ((cn : Int) - 48)) / 10) = false := by unfold big at hbig; simp; omega
          have hv2 : 10 * v + d ≤ 4611686018427387903 := by unfold big at hbig; omega
          have HI := Lib.hid hI2
          clear hI2 hI hbig
          go_wp2_with fail
          refine H1.out.mono ?_
          rintro e w' ⟨rfl, rfl⟩
          go_wp2_with fail
          go_roundw
          case rel => exact ⟨k + 1, 10 * v + d, hk1, by go_num, by congr 1; omega, by trivial, hv2, HI⟩
          case measure => simp [intOf]; omega
      | false =>
        obtain rfl : r = k := HZ.out k c hk hc hp
        have H1 := Lib.hid H1
        have HE := Lib.hid (HEND.out v hI.out)
        clear hI hc hp HY HZ
        go_wp2_with fail
        refine H1.out.mono ?_
        rintro e w' ⟨rfl, rfl⟩
        go_wp2_with fail
        refine bodyPost_ret (results_cell_row2 rfl _ _ w.heap.size 34 _ (0, 0) _ rfl HR0.out.put4 Tryd.underlying34 rfl infoTk) rfl ?_
        exact ⟨below_put4 HB0.out (Nat.le_refl _), ⟨4, [], v⟩, r, rfl, .inr HE.out⟩
    · obtain rfl : k = r := by have := HRL.out; omega
      have hdk : decide ((k : Int) < (n : Int)) = false := by simpa using hlt
      have HE := Lib.hid (HEND.out v hI.out)
      clear hI HY HZ
      go_wp2_with fail
      refine bodyPost_ret (results_cell_row2 rfl _ _ w.heap.size 34 _ (0, 0) _ rfl HR0.out.put4 Tryd.underlying34 rfl infoTk) rfl ?_
      exact ⟨below_put4 HB0.out (Nat.le_refl _), ⟨4, [], v⟩, k, rfl, .inr HE.out⟩
end Go.Proofs.YtdnmdccjecoojaaDoor
