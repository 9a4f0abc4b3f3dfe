/- crc.Extend and crc.Sum. -/
import Derived.Test.YtlgoacpmacomnaaDoorL
import Derived.Test.YtlgoacpmacomnaaDoorCN
import Derived.LoopTactic
import Derived.Outline
namespace Go.Proofs.YtlgoacpmacomnaaDoor
open Go.RowKit Crc

/-- The table of rests lies as its text lays it. -/
def Tab (W : World) : Prop := ∀ i, i < 16 → W.cell? ⟨0, i, none⟩ = some (.int .u32 (tab i : Int))
theorem Tab.below {W W' : World} (h : Tab W) (hb : Below W.heap.size W W') : Tab W' := fun i hi =>
  (hb.cell (p := ⟨0, i, none⟩) (World.block_lt_of_cell? W _ (h i hi))).trans (h i hi)

theorem not32 (s : Nat) (hs : s < 4294967296) : bits .xor .u32 IntKind.u32.max (s : Int) = ((s ^^^ ones : Nat) : Int) := by
  have h := u32_xor_nat 4294967295 s (by decide) hs
  rw [Nat.xor_comm] at h
  exact h
theorem xor32 (x c : Nat) (hx : x < 4294967296) (hc : c < 4294967296) : bits .xor .u32 (x : Int) (c : Int) = ((x ^^^ c : Nat) : Int) := u32_xor_nat x c hx hc
theorem and32 (y : Nat) (hy : y < 4294967296) : bits .and .u32 (y : Int) 15 = ((y % 16 : Nat) : Int) := by
  have h := u32_and_nat y 15 hy (by decide)
  rw [and15] at h
  exact h
theorem nib32 (y : Nat) (hy : y < 4294967296) : bits .xor .u32 ((y : Int) / 16) (tab (y % 16) : Int) = ((Ln 4 y : Nat) : Int) := by
  have h := u32_xor_nat (y / 16) (tab (y % 16)) (by omega) (tab_lt _ (Nat.mod_lt _ (by decide)))
  rw [nib] at h
  exact h

theorem F_take_succ (s : Nat) (bs : List UInt8) (k : Nat) (hk : k < bs.length) : F s (bs.take (k + 1)) = Ln 8 (F s (bs.take k) ^^^ bs[k].toNat) := by
  rw [List.take_succ_eq_append_getElem hk, F_append]; rfl

set_option maxHeartbeats 400000 in
theorem extend_any (A : Option Addr) (cap s : Nat) (bs : List UInt8) (w : World) (hT : Tab w) (hA : Bytes w A bs) (hl : bs.length ≤ maxLen) (hs : s < 4294967296) :
    Calls Tryd.prog 39 #[.int .u32 s, .slice A bs.length cap] w fun e w' => e = .returned (.int .u32 (sumFrom s bs : Int)) ∧ w = w' := by
  unfold maxLen at hl
  have HT := Lib.hid hT
  have HA := Lib.hid hA
  have q0 := not32 s hs
  have hs0 : s ^^^ ones < 2 ^ 32 := Nat.xor_lt_two_pow hs ones_lt
  have HS : Hid (sumFrom s bs = F (s ^^^ ones) bs ^^^ ones) := Lib.hid rfl
  obtain ⟨s0, hs0e⟩ : ∃ s0, s ^^^ ones = s0 := ⟨_, rfl⟩
  rw [hs0e] at q0 hs0 HS
  clear hT hA hs0e
  go_enter Tryd.func39, Tryd.ntmps39
  go_wp2
  go_loop [5, 12] (fun x i => ∃ k : Nat, k ≤ bs.length ∧ i = .int .i64 k ∧ x = .int .u32 (F s0 (bs.take k) : Int)) (fun _ i => bs.length - (intOf i).toNat)
  case atStart => exact ⟨0, Nat.zero_le _, rfl, by rw [List.take_zero, F_nil]⟩
  case round =>
    obtain ⟨k, hk, rfl, rfl⟩ := hrel
    by_cases hlt : k < bs.length
    · obtain ⟨b, off, rfl, _, hc⟩ := HA.out.at_ hlt
      have hc' := hc k _ (List.getElem?_eq_getElem hlt)
      clear hc
      have hb := bs[k].toNat_lt
      have hx := F_lt hs0 (bs.take k)
      have hF := F_take_succ s0 bs k hlt
      generalize bs[k].toNat = c at *
      generalize F s0 (bs.take k) = x at *
      have e1 := xor32 x c hx (by omega)
      have hy : x ^^^ c < 2 ^ 32 := Nat.xor_lt_two_pow hx (by omega)
      generalize x ^^^ c = y at *
      have e2 := and32 y hy
      have e3 := nib32 y hy
      have hz : Ln 4 y < 2 ^ 32 := Ln_lt 4 hy
      have hF2 : F s0 (bs.take (k + 1)) = Ln 4 (Ln 4 y) := by rw [hF, ← Ln_add]
      have t1 := HT.out (y % 16) (Nat.mod_lt _ (by decide))
      have m1 : y % 16 < 16 := Nat.mod_lt _ (by decide)
      generalize Ln 4 y = z at *
      generalize tab (y % 16) = r1 at *
      generalize y % 16 = i1 at *
      have e4 := and32 z hz
      have e5 := nib32 z hz
      have t2 := HT.out (z % 16) (Nat.mod_lt _ (by decide))
      have m2 : z % 16 < 16 := Nat.mod_lt _ (by decide)
      generalize Ln 4 z = u at *
      generalize tab (z % 16) = r2 at *
      generalize z % 16 = i2 at *
      have HF := Lib.hid hF2
      clear hF hF2
      go_wp2
      go_round
      case rel => exact ⟨k + 1, by omega, by go_num, by rw [HF.out]⟩
      case measure => simp [intOf]; omega
    · obtain rfl : k = bs.length := by omega
      have ht : bs.take bs.length = bs := List.take_length
      have hx := F_lt hs0 bs
      rw [ht]
      have q1 := not32 (F s0 bs) hx
      rw [← HS.out] at q1
      clear hx
      go_wp2
      go_ret
      exact ⟨rfl, rfl⟩

set_option maxHeartbeats 400000 in
theorem sum_any (A : Option Addr) (cap : Nat) (bs : List UInt8) (w : World) (hT : Tab w) (hA : Bytes w A bs) (hl : bs.length ≤ maxLen) :
    Calls Tryd.prog 25 #[.slice A bs.length cap] w fun e w' => e = .returned (.int .u32 (sumFrom 0 bs : Int)) ∧ w = w' := by
  have hx := extend_any A cap 0 bs w hT hA hl (by decide)
  have HX := Lib.hid hx
  clear hx hA hT
  go_enter Tryd.func25, Tryd.ntmps25
  go_wp2_with fail
  refine HX.out.mono ?_
  rintro e w' ⟨rfl, rfl⟩
  go_wp2
  go_ret
  exact ⟨rfl, rfl⟩

theorem extend_anyL (A : Option Addr) (len cap s : Nat) (bs : List UInt8) (w : World) (hlen : bs.length = len) (hT : Tab w) (hA : Bytes w A bs) (hl : len ≤ maxLen) (hs : s < 4294967296) :
    Calls Tryd.prog 39 #[.int .u32 s, .slice A len cap] w fun e w' => e = .returned (.int .u32 (sumFrom s bs : Int)) ∧ w = w' := by subst hlen; exact extend_any A cap s bs w hT hA hl hs
theorem sum_anyL (A : Option Addr) (len cap : Nat) (bs : List UInt8) (w : World) (hlen : bs.length = len) (hT : Tab w) (hA : Bytes w A bs) (hl : len ≤ maxLen) :
    Calls Tryd.prog 25 #[.slice A len cap] w fun e w' => e = .returned (.int .u32 (sumFrom 0 bs : Int)) ∧ w = w' := by subst hlen; exact sum_any A cap bs w hT hA hl

end Go.Proofs.YtlgoacpmacomnaaDoor
