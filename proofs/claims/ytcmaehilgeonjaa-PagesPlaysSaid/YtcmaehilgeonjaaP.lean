/- pages: Lay, of an even row. -/
import Derived.Test.YtcmaehilgeonjaaN
import Derived.Deep.WholeRow
namespace Go.Proofs.Ytcmaehilgeonjaa
open Go.RowKit Pgs

theorem infoSaid : (Try.prog.info? 63).map (fun i => (i.zero, i.size)) = some (some (.agg (row16 (List.replicate 124 0))), 124) := by kernel_rfl
theorem arrayLen124 : Try.prog.arrayLen 63 = 124 := by kernel_rfl
theorem slice_said (s n : Nat) (hn : n ≤ 124) (w : World) :
    (Instr.sliceAt 63 (.pointer (some ⟨s, 0, none⟩)) none (some (.int .i64 (n : Int))) none).run Try.prog w = .ok (.slice (some ⟨s, 0, none⟩) n 124) w := by
  have ht : Try.prog.underlying 63 = some (.array (Try.prog.arrayLen 63) (Try.prog.elem 63)) := by kernel_rfl
  have hs : (sizeOf (Try.prog.elem 63)).run Try.prog w = .ok 1 w := by kernel_rfl
  rw [run_sliceAt_array_h w 63 ⟨s, 0, none⟩ ht .i64 _ (by omega) (by rw [arrayLen124]; omega), hs]
  have ea : (⟨s, 0, none⟩ : Addr).add 0 = ⟨s, 0, none⟩ := by unfold Addr.add; split <;> simp_all
  simp only [Result.andThen, slicedAt, arrayLen124, Int.toNat_natCast, Nat.zero_mul, ea, Nat.sub_zero, reduceCtorEq, ite_self]
/-- While the numbers are read. -/
structure LyI (w wr : World) (bs : List UInt8) (k : Nat) : Prop where
  blk : Blk wr w.heap.size 63 (row16 (sf bs k))
  bel : Below w.heap.size w wr
theorem sf_at (bs : List UInt8) {k : Nat} (hk : k < 124) (h : k ≤ bs.length / 2) : (sf bs k)[k]? = some 0 := by
  unfold sf
  rw [List.getElem?_append_right (by rw [List.length_take]; omega), List.length_take, said_len, Nat.min_eq_left h, Nat.sub_self, List.getElem?_replicate, if_pos (by omega)]
theorem LyI.cell {w wr W : World} {bs : List UInt8} {k : Nat} (h : LyI w wr bs k) (hk : k < 124) (hl : k ≤ bs.length / 2) (hb : Below wr.heap.size wr W) : W.cell? ⟨w.heap.size, k, none⟩ = some (.int .u16 0) ∧ W.frozen? ⟨w.heap.size, k, none⟩ = false :=
  ⟨((h.blk.below hb h.blk.lt).cell k).trans (row16_get (sf_at bs hk hl)), (h.blk.below hb h.blk.lt).frozen k⟩
theorem LyI.step {w wr w2 : World} {bs : List UInt8} {k x : Nat} (h : LyI w wr bs k) (hb : Below wr.heap.size wr w2) (hk : k < 124) (hx : (said bs)[k]? = some x) : LyI w (w2.setCell ⟨w.heap.size, k, none⟩ (.int .u16 (x : Int))) bs (k + 1) := by
  have h1 := (h.blk.below hb h.blk.lt).set_ k (.int .u16 (x : Int))
  rw [row16_set, sf_set bs hk hx] at h1
  exact ⟨h1, (h.bel.trans (hb.mono h.bel.size)).setCell (p := ⟨w.heap.size, k, none⟩) (Nat.le_refl _) _⟩

set_option maxRecDepth 20000 in
set_option maxHeartbeats 4000000 in
theorem lay_even (g i n c : Nat) (A : Option Addr) (L : List Nat) (bs : List UInt8) (w : World) (h : PM w g L) (hi : i < 9) (hn : n ≤ 124) (hl : bs.length = 2 * n) (hA : Bytes w A bs) :
    Calls Try.prog 28 #[.pointer (some ⟨g, 0, none⟩), .int .i64 (i : Int), .slice A (2 * n) c] w fun e w' => e = .returned (.bool (layB (i : Int) bs)) ∧ Stp w w' g (layL L (i : Int) bs) := by
  have h1 := isPart_any (i : Int) w
  rw [decide_eq_true (by omega)] at h1
  have H1 := Lib.hid h1
  have HPM := Lib.hid h
  have HA := Lib.hid hA
  have HL := Lib.hid hl
  obtain ⟨hzero, _⟩ := zero_of_info infoSaid
  obtain ⟨Z, hZ⟩ : ∃ Z, row16 (List.replicate 124 0) = Z := ⟨_, rfl⟩
  rw [hZ] at hzero
  obtain ⟨w1, hw1⟩ : ∃ w1, w.alloc (.cells Z 63) = w1 := ⟨_, rfl⟩
  have HI0 : Hid (LyI w w1 bs 0) := Lib.hid (by rw [← hw1, ← hZ, ← sf_zero bs]; exact ⟨Blk.new _ _ _, (Below.refl _ _).alloc (Nat.le_refl _) _⟩)
  have hd : decide (((2 * n : Nat) : Int) > 248) = false := by simp; omega
  have ht : ((2 * n : Nat) : Int).tmod 2 = 0 := by rw [Int.tmod_eq_emod_of_nonneg (by omega)]; omega
  have ht2 : ((2 * n : Nat) : Int).tdiv 2 = n := by rw [Int.tdiv_eq_ediv_of_nonneg (by omega)]; omega
  obtain ⟨m, hm⟩ : ∃ m : Nat, 2 * n = m := ⟨_, rfl⟩
  rw [hm] at hd ht ht2
  have HM := Lib.hid hm
  rw [show (Value.slice A (2 * n) c) = Value.slice A m c by rw [hm]]
  have HF : Hid (layB (i : Int) bs = false → ∀ w', Below w.heap.size w w' → Stp w w' g (layL L (i : Int) bs)) := Lib.hid (fun hb w' hb' => by
    have : layL L (i : Int) bs = L := by unfold layL; rw [hb]; rfl
    rw [this]; exact ⟨h.below hb', Off.of_new hb' _⟩)
  clear h1 h hA hl hm hZ
  go_enter Try.func28, Try.ntmps28
  go_wp2_with (go_at_call 37; refine Calls.mono H1.out ?_; rintro e w' ⟨rfl, rfl⟩)
  go_loopw [9, 10, 11, 35] (fun _ _ _ iv wr => ∃ k : Nat, k ≤ n ∧ iv = .int .i64 (k : Int) ∧ Hid (LyI w wr bs k ∧ ∀ j x, j < k → (said bs)[j]? = some x → x ≠ 0 → i * 124 + j < 1024)) (fun _ _ _ iv _ => n - (intOf iv).toNat)
  case atStart => exact ⟨0, Nat.zero_le _, rfl, Lib.hid ⟨HI0.out, fun j x h => by omega⟩⟩
  case round =>
    clear HI0
    obtain ⟨k, hk, rfl, hI⟩ := hrel
    by_cases hlt : k < n
    · have hdk : decide ((k : Int) < (n : Int)) = true := by simpa using hlt
      obtain ⟨x, hx⟩ : ∃ x, leN (fieldOf bs (2 * k) 2) = x := ⟨_, rfl⟩
      have hsx := said_get bs HL.out hlt
      rw [hx] at hsx
      have hx6 := said_lt bs hsx
      have hget := get_okL A m c (2 * k) 2 bs wr (by rw [HL.out, HM.out]) rfl (by have := HM.out; omega) (by have := HM.out; unfold maxLen; omega) (HA.out.below hI.out.1.bel)
      rw [hx] at hget
      have HG := Lib.hid hget
      have HSX := Lib.hid hsx
      have ei : ((2 * k : Nat) : Int) = 2 * (k : Int) := by omega
      rw [ei] at HG
      have hwx : IntKind.u16.wrap (x : Int) = x := by rw [IntKind.wrap_u16]; omega
      have hk124 : (k : Int) < 124 := by omega
      have HC : Hid (∀ W, Below wr.heap.size wr W → W.cell? ⟨w.heap.size, k, none⟩ = some (.int .u16 0) ∧ W.frozen? ⟨w.heap.size, k, none⟩ = false) := Lib.hid (fun W hW => hI.out.1.cell (by omega) (by rw [HL.out]; omega) hW)
      have HQ : Hid (∀ W, Calls Try.prog 34 #[.int .i64 ((i : Int) * 124 + (k : Int))] W fun e w' => e = .returned (.bool (decide (i * 124 + k < 1024))) ∧ W = w') := Lib.hid (fun W => (isPage_any ((i : Int) * 124 + (k : Int)) W).mono (by
        rintro e w' ⟨rfl, rfl⟩
        refine ⟨?_, rfl⟩
        congr 3
        apply propext; omega))
      clear hx hsx hget
      by_cases hx0 : x = 0
      · subst hx0
        have HN : Hid (∀ W, Below wr.heap.size wr W → LyI w (W.setCell ⟨w.heap.size, k, none⟩ (.int .u16 0)) bs (k + 1) ∧ ∀ j x, j < k + 1 → (said bs)[j]? = some x → x ≠ 0 → i * 124 + j < 1024) := Lib.hid (fun W hW => ⟨hI.out.1.step hW (by omega) HSX.out, fun j x hj hjx h0 => by
          by_cases e : j = k
          · subst e; rw [HSX.out] at hjx; injection hjx with e2; exact absurd e2.symm h0
          · exact hI.out.2 j x (by omega) hjx h0⟩)
        clear hI HSX
        go_wp2_with (go_at_call 39; refine Calls.mono HG.out ?_; rintro e w5 ⟨rfl, hb5⟩; have HB5 := Lib.hid hb5; obtain ⟨c5, f5⟩ := HC.out _ hb5; clear hb5)
        go_roundw
        case rel => exact ⟨k + 1, by omega, by go_num, Lib.hid (HN.out _ HB5.out)⟩
        case measure => simp [intOf]; omega
      · by_cases hp : i * 124 + k < 1024
        · rw [decide_eq_true hp] at HQ
          have HN : Hid (∀ W, Below wr.heap.size wr W → LyI w (W.setCell ⟨w.heap.size, k, none⟩ (.int .u16 (x : Int))) bs (k + 1) ∧ ∀ j x, j < k + 1 → (said bs)[j]? = some x → x ≠ 0 → i * 124 + j < 1024) := Lib.hid (fun W hW => ⟨hI.out.1.step hW (by omega) HSX.out, fun j x hj hjx h0 => by
            by_cases e : j = k
            · subst e; exact hp
            · exact hI.out.2 j x (by omega) hjx h0⟩)
          clear hI HSX
          go_wp2_with (first
            | (go_at_call 39; refine Calls.mono HG.out ?_; rintro e w5 ⟨rfl, hb5⟩; have HB5 := Lib.hid hb5; obtain ⟨c5, f5⟩ := HC.out _ hb5; clear hb5)
            | (go_at_call 34; refine Calls.mono (HQ.out _) ?_; rintro e w' ⟨rfl, rfl⟩))
          go_roundw
          case rel => exact ⟨k + 1, by omega, by go_num, Lib.hid (HN.out _ HB5.out)⟩
          case measure => simp [intOf]; omega
        · rw [decide_eq_false hp] at HQ
          have HLB : Hid (layB (i : Int) bs = false) := Lib.hid (layB_page HL.out hlt HSX.out hx0 hp)
          have HIB := Lib.hid hI.out.1.bel
          clear hI HSX
          go_wp2_with (first
            | (go_at_call 39; refine Calls.mono HG.out ?_; rintro e w5 ⟨rfl, hb5⟩; have HB5 := Lib.hid hb5; obtain ⟨c5, f5⟩ := HC.out _ hb5; clear hb5)
            | (go_at_call 34; refine Calls.mono (HQ.out _) ?_; rintro e w' ⟨rfl, rfl⟩))
          go_ret
          exact ⟨by rw [HLB.out]; rfl, HF.out HLB.out _ (HIB.out.trans (HB5.out.mono HIB.out.size))⟩
    · obtain rfl : n = k := by omega
      have hdk : decide ((n : Int) < (n : Int)) = false := by simp
      have hlen := HL.out
      have hOk := HPM.out.ok
      have hP := HPM.out.below hI.out.1.bel
      have hgl := HPM.out.blk.lt
      have hsl := slice_part g i hi wr
      obtain ⟨w2, hcl, hB2, hO2⟩ := run_clear16 wr g i L (1116 - i * 124) hP hi
      have hS2 : Blk w2 w.heap.size 63 (row16 (sf bs n)) := (hO2.block _ hI.out.1.blk.lt (by omega)).trans hI.out.1.blk
      have hs2 := slice_said w.heap.size n hn w2
      obtain ⟨w3, hcp, hB3, hO3⟩ := run_copy16 w2 g i w.heap.size n (1116 - i * 124) 124 _ (sf bs n) hB2 (by simp [hOk.len]; omega) hi _ hS2 hn (by rw [sf_len bs n (by omega) hn]; exact hn)
      have HE0 : Hid (layB (i : Int) bs = true → Stp w w3 g (layL L (i : Int) bs)) := Lib.hid (fun hb => by
        rw [layL_eq hOk.len hi hlen hn hb] at hB3
        exact ⟨⟨hB3, layL_ok hOk _ _⟩, ((Off.of_new hI.out.1.bel _).trans hO2).trans hO3⟩)
      have HPG := Lib.hid hI.out.2
      have HIB := Lib.hid hI.out.1.bel
      have q1 : (0 : Int) ≤ (i : Int) * 124 := by omega
      have q2 : ((i : Int) * 124).toNat = i * 124 := by omega
      have q3 : (i : Int) * 124 ≤ ((i : Int) + 1) * 124 := by omega
      have q4 : ((i : Int) + 1) * 124 ≤ 1116 := by omega
      have q5 : (((i : Int) + 1) * 124).toNat = i * 124 + 124 := by omega
      have q7 : (0 : Int) ≤ ((i : Int) + 1) * 124 := by omega
      have hn2 : (n : Int) ≤ 124 := by omega
      clear hB2 hO2 hS2 hB3 hO3
      by_cases hn0 : n = 0
      · have HB : Hid (layB (i : Int) bs = true) := Lib.hid (layB_true hi hlen hn (fun k x h => by omega) (.inl hn0))
        have HE := Lib.hid (HE0.out HB.out)
        subst hn0
        clear hI hP hOk hgl hlen HE0
        go_wp2_with fail
        go_ret
        exact ⟨by rw [HB.out]; rfl, HE.out⟩
      · have hnp : decide ((n : Int) > 0) = true := by simp; omega
        obtain ⟨q, hq⟩ : ∃ q, n = q + 1 := ⟨n - 1, by omega⟩
        have hqn : q < n := by omega
        have hn1 : n - 1 = q := by omega
        have hsx := said_get bs hlen hqn
        obtain ⟨x, hx⟩ : ∃ x, leN (fieldOf bs (2 * q) 2) = x := ⟨_, rfl⟩
        rw [hx] at hsx
        have c7 : wr.cell? ⟨w.heap.size, q, none⟩ = some (.int .u16 (x : Int)) := (hI.out.1.blk.cell q).trans (row16_get (by rw [sf_get bs hlen hqn]; exact hsx))
        have e7 : (n : Int) - 1 = (q : Int) := by omega
        have e8 : (0 : Int) < (n : Int) := by omega
        have e9 : (q : Int) < 124 := by omega
        clear hq
        by_cases hx0 : x = 0
        · subst hx0
          have HB : Hid (layB (i : Int) bs = false) := Lib.hid (layB_end hlen (by omega) (by rw [hn1]; exact hsx))
          clear hI hP hOk hgl hlen HE0 hx hsx hcl hcp hsl hs2
          go_wp2_with fail
          go_ret
          exact ⟨by rw [HB.out]; rfl, HF.out HB.out _ HIB.out⟩
        · have HB : Hid (layB (i : Int) bs = true) := Lib.hid (layB_true hi hlen hn (fun k x h hkx h0 => HPG.out k x h hkx h0) (.inr ⟨x, by rw [hn1]; exact hsx, hx0⟩))
          have HE := Lib.hid (HE0.out HB.out)
          clear hI hP hOk hgl hlen HE0 hx hsx
          go_wp2_with fail
          go_ret
          exact ⟨by rw [HB.out]; rfl, HE.out⟩
end Go.Proofs.Ytcmaehilgeonjaa
