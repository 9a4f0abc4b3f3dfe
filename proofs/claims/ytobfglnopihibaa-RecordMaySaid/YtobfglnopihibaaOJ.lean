/- The reference's Put and Cut. -/
import Derived.Test.YtobfglnopihibaaOI
namespace Go.Proofs.Ytobfglnopihibaa
open Go.RowKit

theorem own_new (w : World) (base : Nat) (h : base ≤ w.heap.size) : (w.alloc (.cells #[] 5)).ownsRow base 5 1 (.slice (some ⟨w.heap.size, 0, none⟩) 0 0) 0 (([] : List UInt8).map bv) :=
  World.ownsRow_made w #[] 0 h (Nat.zero_le _) rfl
theorem own_shape {w : World} {base : Nat} {e : TypeId} {v : Value} {n : Nat} {xs : List Value} (h : w.ownsRow base e 1 v n xs) : ∃ A c, v = .slice A n c := by
  rcases h.2 with ⟨rfl, rfl⟩ | ⟨g, cap, cur, rfl, _⟩
  · exact ⟨none, 0, rfl⟩
  · exact ⟨_, cap, rfl⟩
theorem run_app1 (w : World) (base : Nat) (v : Value) (n : Nat) (xs : List UInt8) (c : UInt8) (hown : w.ownsRow base 5 1 v n (xs.map bv)) (hb : n ≤ 70368744177664) (hbase : base ≤ w.heap.size) :
    ∃ v' w', (Builtin.append_ #[28, 28] 28 #[v, .slice (some ⟨w.heap.size, 0, none⟩) 1 1]).run Try.prog (w.alloc (.cells #[.int .u8 (c.toNat : Int)] 5)) = .ok v' w' ∧ w'.ownsRow base 5 1 v' (n + 1) ((xs ++ [c]).map bv) ∧ (w.alloc (.cells #[.int .u8 (c.toNat : Int)] 5)).grownBy w' v.ownBlock :=
  run_app8 (w.alloc (.cells #[.int .u8 (c.toNat : Int)] 5)) base v n xs (own_below hown ((Below.refl _ w).alloc (Nat.le_refl _) _)) (some ⟨w.heap.size, 0, none⟩) 1 1 [c] rfl (Bytes.row (bs := [c]) (Blk.new w _ _)) (by omega) (by rw [World.size_alloc]; omega)

theorem lePut_snoc (x k : Nat) : lePut x (k + 1) = lePut x k ++ [UInt8.ofNat (x / 256 ^ k)] := by
  induction k generalizing x with
  | zero => simp [lePut]
  | succ k ih =>
    rw [lePut, ih]
    simp only [lePut, List.cons_append]
    rw [Nat.div_div_eq_div_mul, Nat.pow_succ, Nat.mul_comm 256]
theorem ofNat_mod (x y : Nat) (h : x % 256 = y % 256) : UInt8.ofNat x = UInt8.ofNat y := by
  apply UInt8.toNat_inj.1
  rw [UInt8.toNat_ofNat', UInt8.toNat_ofNat']; exact h
theorem lePut_mod (x n : Nat) : lePut (x % 256 ^ n) n = lePut x n := by
  induction n generalizing x with
  | zero => rfl
  | succ n ih =>
    simp only [lePut]
    have h1 : x % 256 ^ (n + 1) = x % 256 + 256 * (x / 256 % 256 ^ n) := by rw [Nat.pow_succ, Nat.mul_comm]; exact Nat.mod_mul
    rw [h1, show (x % 256 + 256 * (x / 256 % 256 ^ n)) / 256 = x / 256 % 256 ^ n by omega, ih]
    congr 1
    exact ofNat_mod _ _ (by omega)

/-- What Put puts: nothing, if that is no size. -/
def putBytes (bs : List UInt8) (x : Nat) (n : Int) : List UInt8 := if sizeB n then bs ++ lePut x n.toNat else bs

set_option maxHeartbeats 800000 in
theorem refput_any (A : Option Addr) (len cap x : Nat) (n : Int) (bs : List UInt8) (w : World) (hbl : bs.length = len) (hl : len ≤ 1048576) (hA : Bytes w A bs) (hx : x < 18446744073709551616) :
    Calls Try.prog 27 #[.slice A len cap, .int .u64 x, .int .i64 n] w fun e w' => ∃ v, ∃ m, e = .returned v ∧ w'.ownsRow w.heap.size 5 1 v m ((putBytes bs x n).map bv) ∧ Below w.heap.size w w' := by
  have hb0 : Below w.heap.size w (w.alloc (.cells #[] 5)) := (Below.refl _ w).alloc (Nat.le_refl _) _
  obtain ⟨v1, w1, hrun1, hown1, hgr1⟩ := run_app8 (w.alloc (.cells #[] 5)) w.heap.size _ 0 [] (own_new w w.heap.size (Nat.le_refl _)) A len cap bs hbl (hA.below hb0) (by omega) (by simp)
  rw [List.nil_append, Nat.zero_add] at hown1
  have hb1 : Below w.heap.size w w1 := hb0.grown hgr1 (by simp) (fun k e => by simp [Value.ownBlock] at e; omega)
  have HRUN := Lib.hid hrun1
  have HO := Lib.hid hown1
  have HB1 := Lib.hid hb1
  have HP := Lib.hid (power_any n w1)
  have HS1 := Lib.hid hb1.size
  cases hs : sizeB n
  · rw [hs] at HP
    have hpb : putBytes bs x n = bs := by unfold putBytes; rw [hs]; rfl
    rw [hpb]
    clear hpb
    clear hrun1 hown1 hgr1 hb1 hb0 hA hs
    go_enter Try.func27, Try.ntmps27
    go_wp2_with (first
      | (at_builtin; refine wpList_app rfl _ _ 28 rfl _ _ _ _ rfl rfl HRUN.out ?_; clear HRUN)
      | (go_at_call 38; refine HP.out.mono ?_; rintro e w' ⟨rfl, rfl⟩))
    go_ret
    exact ⟨_, _, rfl, HO.out, HB1.out⟩
  · rw [hs] at HP
    have hpb : putBytes bs x n = bs ++ lePut x n.toNat := by unfold putBytes; rw [hs]; rfl
    have hcases : n = 1 ∨ n = 2 ∨ n = 4 ∨ n = 8 := by simpa [sizeB, or_assoc] using hs
    obtain ⟨m, rfl⟩ : ∃ m : Nat, n = m := ⟨n.toNat, by omega⟩
    have hm8 : m ≤ 8 := by omega
    rw [Int.toNat_natCast, ← lePut_mod x m] at hpb
    have hx1 : ∃ y, x % 256 ^ m = y ∧ (0 < powI m → (x : Int) % powI m = (y : Int)) ∧ (¬ 0 < powI m → x = y) := by
      refine ⟨_, rfl, ?_, ?_⟩
      · rcases hcases with h | h | h | h
        · obtain rfl : m = 1 := by omega
          intro _; rfl
        · obtain rfl : m = 2 := by omega
          intro _; rfl
        · obtain rfl : m = 4 := by omega
          intro _; rfl
        · obtain rfl : m = 8 := by omega
          intro h0; exact absurd h0 (by decide)
      · rcases hcases with h | h | h | h
        · obtain rfl : m = 1 := by omega
          intro h0; exact absurd (by decide) h0
        · obtain rfl : m = 2 := by omega
          intro h0; exact absurd (by decide) h0
        · obtain rfl : m = 4 := by omega
          intro h0; exact absurd (by decide) h0
        · obtain rfl : m = 8 := by omega
          intro _
          exact (Nat.mod_eq_of_lt (by have : (256 : Nat) ^ 8 = 18446744073709551616 := by decide
                                      omega)).symm
    obtain ⟨y, hy, hy1, hy2⟩ := hx1
    rw [hy] at hpb
    have HPB := Lib.hid hpb
    have hyx : y < 18446744073709551616 := by rw [← hy]; exact Nat.lt_of_le_of_lt (Nat.mod_le _ _) hx
    have hpnn : 0 ≤ powI m := by unfold powI; repeat (first | omega | split)
    have HX1 := Lib.hid hy1
    have HX2 := Lib.hid hy2
    obtain ⟨P, hP⟩ : ∃ P, powI m = P := ⟨_, rfl⟩
    rw [hP] at HP HX1 HX2 hpnn
    clear hrun1 hown1 hgr1 hb1 hb0 hA hs hcases hy hy1 hy2 hP hpb
    by_cases hP0 : 0 < P
    · have hxy := HX1.out hP0
      go_enter Try.func27, Try.ntmps27
      go_wp2_with (first
        | (at_builtin; refine wpList_app rfl _ _ 28 rfl _ _ _ _ rfl rfl HRUN.out ?_; clear HRUN)
        | (go_at_call 38; refine HP.out.mono ?_; rintro e w' ⟨rfl, rfl⟩))
      rw [hxy]
      clear hxy
      go_loopw [1, 7, 10] (fun xx v i wr => ∃ k : Nat, k ≤ m ∧ i = .int .i64 k ∧ xx = .int .u64 ((y / 256 ^ k : Nat) : Int) ∧ wr.ownsRow w.heap.size 5 1 v (len + k) ((bs ++ lePut y k).map bv) ∧ Below w.heap.size w wr) (fun _ _ i _ => m - (intOf i).toNat)
      case atStart => exact ⟨0, Nat.zero_le _, rfl, by simp, by simpa [lePut] using HO.out, HB1.out⟩
      case round =>
        obtain ⟨k, hk, rfl, rfl, hown, hbw⟩ := hrel
        have hszw := hbw.size
        by_cases hlt : k < m
        · have hsn := lePut_snoc y k
          have hnext : y / 256 ^ (k + 1) = y / 256 ^ k / 256 := by rw [Nat.pow_succ, Nat.div_div_eq_div_mul]
          have hXl : y / 256 ^ k < 18446744073709551616 := Nat.lt_of_le_of_lt (Nat.div_le_self _ _) hyx
          obtain ⟨X, hX⟩ : ∃ X, y / 256 ^ k = X := ⟨_, rfl⟩
          rw [hX] at hsn hnext hXl
          rw [hX]
          obtain ⟨c, hc⟩ : ∃ c, UInt8.ofNat X = c := ⟨_, rfl⟩
          have hcn : (X : Int) % 256 = (c.toNat : Int) := by
            rw [← hc]; have : (UInt8.ofNat X).toNat = X % 256 := UInt8.toNat_ofNat'
            rw [this]; omega
          rw [hc] at hsn
          obtain ⟨v2, w2, hrun2, hown2, hgr2⟩ := run_app1 wr w.heap.size _ (len + k) _ c hown (by omega) hszw
          rw [List.append_assoc, ← hsn] at hown2
          have hb2 : Below w.heap.size w w2 := (hbw.alloc hszw _).grown hgr2 (by rw [World.size_alloc]; omega) (fun k e => (hown.lt k e).1)
          have HR2 := Lib.hid hrun2
          have HO2 := Lib.hid hown2
          have HB2 := Lib.hid hb2
          have HNX := Lib.hid hnext
          have hkm : (k : Int) < (m : Int) := by omega
          have hcl := c.toNat_lt
          clear hsn hnext hX hc hown hbw hrun2 hown2 hgr2 hb2
          go_wp2_with (at_builtin; refine wpList_app rfl _ _ 28 rfl _ _ _ _ rfl rfl HR2.out ?_; clear HR2)
          go_roundw
          case rel => exact ⟨k + 1, by omega, by go_num, by rw [HNX.out]; go_num, HO2.out, HB2.out⟩
          case measure => simp [intOf]; omega
        · obtain rfl : k = m := by omega
          have HO3 := Lib.hid hown
          have HB3 := Lib.hid hbw
          have hkm : ¬ ((k : Int) < (k : Int)) := by omega
          clear hown hbw
          go_wp2
          go_ret
          exact ⟨_, rfl, ⟨_, by rw [HPB.out]; exact HO3.out⟩, HB3.out⟩
    · obtain rfl := HX2.out hP0
      go_enter Try.func27, Try.ntmps27
      go_wp2_with (first
        | (at_builtin; refine wpList_app rfl _ _ 28 rfl _ _ _ _ rfl rfl HRUN.out ?_; clear HRUN)
        | (go_at_call 38; refine HP.out.mono ?_; rintro e w' ⟨rfl, rfl⟩))
      go_loopw [1, 7, 10] (fun xx v i wr => ∃ k : Nat, k ≤ m ∧ i = .int .i64 k ∧ xx = .int .u64 ((x / 256 ^ k : Nat) : Int) ∧ wr.ownsRow w.heap.size 5 1 v (len + k) ((bs ++ lePut x k).map bv) ∧ Below w.heap.size w wr) (fun _ _ i _ => m - (intOf i).toNat)
      case atStart => exact ⟨0, Nat.zero_le _, rfl, by simp, by simpa [lePut] using HO.out, HB1.out⟩
      case round =>
        obtain ⟨k, hk, rfl, rfl, hown, hbw⟩ := hrel
        have hszw := hbw.size
        by_cases hlt : k < m
        · have hsn := lePut_snoc x k
          have hnext : x / 256 ^ (k + 1) = x / 256 ^ k / 256 := by rw [Nat.pow_succ, Nat.div_div_eq_div_mul]
          have hXl : x / 256 ^ k < 18446744073709551616 := Nat.lt_of_le_of_lt (Nat.div_le_self _ _) hyx
          obtain ⟨X, hX⟩ : ∃ X, x / 256 ^ k = X := ⟨_, rfl⟩
          rw [hX] at hsn hnext hXl
          rw [hX]
          obtain ⟨c, hc⟩ : ∃ c, UInt8.ofNat X = c := ⟨_, rfl⟩
          have hcn : (X : Int) % 256 = (c.toNat : Int) := by
            rw [← hc]; have : (UInt8.ofNat X).toNat = X % 256 := UInt8.toNat_ofNat'
            rw [this]; omega
          rw [hc] at hsn
          obtain ⟨v2, w2, hrun2, hown2, hgr2⟩ := run_app1 wr w.heap.size _ (len + k) _ c hown (by omega) hszw
          rw [List.append_assoc, ← hsn] at hown2
          have hb2 : Below w.heap.size w w2 := (hbw.alloc hszw _).grown hgr2 (by rw [World.size_alloc]; omega) (fun k e => (hown.lt k e).1)
          have HR2 := Lib.hid hrun2
          have HO2 := Lib.hid hown2
          have HB2 := Lib.hid hb2
          have HNX := Lib.hid hnext
          have hkm : (k : Int) < (m : Int) := by omega
          have hcl := c.toNat_lt
          clear hsn hnext hX hc hown hbw hrun2 hown2 hgr2 hb2
          go_wp2_with (at_builtin; refine wpList_app rfl _ _ 28 rfl _ _ _ _ rfl rfl HR2.out ?_; clear HR2)
          go_roundw
          case rel => exact ⟨k + 1, by omega, by go_num, by rw [HNX.out]; go_num, HO2.out, HB2.out⟩
          case measure => simp [intOf]; omega
        · obtain rfl : k = m := by omega
          have HO3 := Lib.hid hown
          have HB3 := Lib.hid hbw
          have hkm : ¬ ((k : Int) < (k : Int)) := by omega
          clear hown hbw
          go_wp2
          go_ret
          exact ⟨_, rfl, ⟨_, by rw [HPB.out]; exact HO3.out⟩, HB3.out⟩

end Go.Proofs.Ytobfglnopihibaa
