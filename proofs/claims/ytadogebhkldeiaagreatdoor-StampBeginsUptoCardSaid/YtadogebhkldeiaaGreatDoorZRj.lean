/- stamp: the reference's Join, inner. -/
import Derived.Test.YtadogebhkldeiaaGreatDoorZAp
namespace Go.Proofs.YtadogebhkldeiaaGreatDoor
open Go.RowKit Ty
set_option linter.unusedVariables false
set_option linter.unusedSimpArgs false
attribute [local go_sem] Oper.semAt_some
set_option maxRecDepth 100000 in
set_option maxHeartbeats 4000000 in
theorem rjoin_any (L : List (List UInt8)) (s : List UInt8) (zs : ByteArray) (hzs : str s = zs) (A : Option Addr) (n c : Nat) (hn : L.length = n) (hx : n ≤ 1000000) (F : Nat → Prop) (w : World) (hA : SsAt F w A L) (hl : (joinT s L).length < 4294967295) :
    Calls Tryz.prog 16 #[.slice A n c, .string zs] w fun e w' => e = .returned (.string (str (joinT s L))) ∧ w = w' := by
  have HK := Lib.hid (And.intro hn (And.intro hA (And.intro hl hzs)))
  clear hn hA hl hzs
  go_enter Tryz.func16, Tryz.ntmps16
  go_wp2_with fail
  go_loopw [5, 6] (fun ov iv wr => ∃ (i : Nat) (z : ByteArray), i ≤ n ∧ iv = .int .i64 (i : Int) ∧ ov = .string z ∧ w = wr ∧ Hid (z = str (joinT s (L.take i)))) (fun _ iv _ => n - (intOf iv).toNat)
  case atStart => exact ⟨0, _, Nat.zero_le _, rfl, rfl, rfl, Lib.hid (by rw [List.take_zero]; rfl)⟩
  case round =>
    obtain ⟨i, z, hi, rfl, rfl, rfl, HZ⟩ := hrel
    by_cases hli : i < n
    · have hd : decide ((i : Int) < (n : Int)) = true := by simpa using hli
      obtain ⟨x, hx1⟩ : ∃ x, L[i]? = some x := ⟨_, List.getElem?_eq_getElem (by rw [HK.out.1]; exact hli)⟩
      obtain ⟨b, off, rfl, _, _, z0⟩ := HK.out.2.1 i x hx1
      have hnx := joinT_next (s := s) hx1
      have hle := joinT_le s L (i + 1)
      have hlx := HK.out.2.2.1
      have hz := HZ.out
      have hzz : z.size = (joinT s (L.take i)).length := by rw [hz, str_size]
      by_cases h0 : i = 0
      · subst h0
        have hg : decide (((0 : Nat) : Int) > 0) = false := by decide
        rw [if_pos rfl, List.nil_append] at hnx
        rw [hnx] at hle
        have hz1 : z = ⟨#[]⟩ := by rw [hz, List.take_zero]; rfl
        subst hz1
        have HN : Hid (str x = str (joinT s (L.take (0 + 1)))) := Lib.hid (by rw [hnx])
        simp only [Nat.add_zero] at z0
        have hm0 : ¬ (9223372036854775807 < (str x).size) := by rw [str_size]; omega
        clear hx1 hnx hle hlx hz hzz HZ hg
        go_wp2_with fail
        go_roundw
        case rel => exact ⟨1, _, by omega, by go_num, rfl, trivial, by first | exact HN | simpa using HN⟩
        case measure => simp [intOf]; omega
      · have hg : decide ((i : Int) > 0) = true := by simp; omega
        have hpos : 0 < i := by omega
        rw [if_neg h0] at hnx
        have hlen : (joinT s (L.take i)).length + s.length + x.length < 4294967295 := by
          rw [hnx] at hle
          simp only [List.length_append] at hle
          omega
        have hs1 : zs.size = s.length := by rw [← HK.out.2.2.2, str_size]
        have hs2 : (str x).size = x.length := str_size x
        have hm1 : ¬ (9223372036854775807 < z.size + zs.size) := by omega
        have hm2 : ¬ (9223372036854775807 < (z ++ zs).size + (str x).size) := by
          have : (z ++ zs).size = z.size + zs.size := by simp
          omega
        have hm3 : ¬ (9223372036854775807 < z.size + zs.size + (str x).size) := by omega
        have HN : Hid (z ++ zs ++ str x = str (joinT s (L.take (i + 1)))) := Lib.hid (by rw [hnx, hz, ← HK.out.2.2.2, str_append, str_append])
        clear hx1 hnx hle hlx hz hzz HZ h0 hlen hs1 hs2
        go_wp2_with fail
        go_roundw
        case rel => exact ⟨i + 1, _, by omega, by go_num, rfl, trivial, HN⟩
        case measure => simp [intOf]; omega
    · obtain rfl : n = i := by omega
      have hd : decide ((n : Int) < (n : Int)) = false := by simp
      have HV : Hid (z = str (joinT s L)) := Lib.hid (by
        rw [HZ.out, List.take_of_length_le (by rw [HK.out.1]; exact Nat.le_refl _)])
      go_wp2_with fail
      go_ret
      exact ⟨by rw [HV.out] <;> rfl, rfl⟩
/-- What the reference says of a type. -/
def RefC (t : Ty) : Prop := ∀ (A : Option Addr) (c : Nat) (w : World), Ty.At (fun b => b < w.heap.size) w A t.ks → (tyT t).length < 4294967200 →
  Calls Tryz.prog 7 #[t.val A c] w fun e w' => e = .returned (.string (str (tyT t))) ∧ Below w.heap.size w w'
set_option maxRecDepth 20000 in
theorem inner_any (t : Ty) (ht : RefC t) (A : Option Addr) (c : Nat) (w : World) (hA : Ty.At (fun b => b < w.heap.size) w A t.ks) (hl : (tyT t).length < 4294967200) (so : Bool) :
    Calls Tryz.prog 15 #[t.val A c, .bool so] w fun e w' => e = .returned (.string (str (closedT so (tyT t)))) ∧ Below w.heap.size w w' := by
  obtain ⟨k, nm, n, ks⟩ := t
  obtain ⟨kl, hkl⟩ : ∃ kl, ks.length = kl := ⟨_, rfl⟩
  obtain ⟨tx, htx⟩ : ∃ tx, tyT (.node k nm n ks) = tx := ⟨_, rfl⟩
  show Calls Tryz.prog 15 #[.agg #[.int .u8 (k : Int), .string (str nm), .int .i64 n, .slice A ks.length c], .bool so] w fun e w' => e = .returned (.string (str (closedT so (tyT (.node k nm n ks))))) ∧ Below w.heap.size w w'
  obtain ⟨q, hq⟩ : ∃ q, w.heap.size = q := ⟨_, rfl⟩
  obtain ⟨w1, hw1⟩ : ∃ W, w.alloc (.cells #[.int .u8 (k : Int), .string (str nm), .int .i64 n, .slice A kl c] 24) = W := ⟨_, rfl⟩
  have hb1 : Below w.heap.size w w1 := by rw [← hw1]; exact (Below.refl _ _).alloc (Nat.le_refl _) _
  have hB1 : Blk w1 w.heap.size 24 #[.int .u8 (k : Int), .string (str nm), .int .i64 n, .slice A kl c] := by rw [← hw1]; exact Blk.new _ _ _
  have hC := ht A c w1 ((hA.bel hb1).mono fun b h => Nat.lt_of_lt_of_le h hb1.size) hl
  change Calls Tryz.prog 7 #[.agg #[.int .u8 (k : Int), .string (str nm), .int .i64 n, .slice A ks.length c]] w1 (fun e w' => e = .returned (.string (str (tyT (.node k nm n ks)))) ∧ Below w1.heap.size w1 w') at hC
  rw [hkl, htx] at hC
  rw [htx] at hl
  rw [htx, hkl]
  rw [hq] at hB1
  have x0 : w1.cell? ⟨q, 0, none⟩ = some (.int .u8 (k : Int)) := hB1.cell 0
  have x1 : w1.cell? ⟨q, 1, none⟩ = some (.string (str nm)) := hB1.cell 1
  have x2 : w1.cell? ⟨q, 2, none⟩ = some (.int .i64 n) := hB1.cell 2
  have x3 : w1.cell? ⟨q, 3, none⟩ = some (.slice A kl c) := hB1.cell 3
  have HC := Lib.hid hC
  have HB := Lib.hid hb1
  have HW := Lib.hid (And.intro hw1 hq)
  have hs : (str tx).size = tx.length := str_size tx
  have hm1 : ¬ (9223372036854775807 < 1 + (str tx).size) := by omega
  have hm2 : ¬ (9223372036854775807 < 1 + (str tx).size + 1) := by omega
  have HV : Hid ((⟨#[40]⟩ : ByteArray) ++ str tx ++ ⟨#[41]⟩ = str ([40] ++ tx ++ [41])) := Lib.hid (by rw [← str_append, ← str_append]; rfl)
  clear ht hA hl hkl htx hw1 hb1 hB1 hC hq
  go_enter Tryz.func15, Tryz.ntmps15
  go_upto_region 1 with fail
  (try rw [HW.out.1])
  (try rw [HW.out.2])
  cases so with
  | true =>
    go_wp2_with fail
    refine HC.out.mono ?_
    rintro e w2 ⟨rfl, hb2⟩
    have HP := Lib.hid (HB.out.trans (hb2.mono HB.out.size))
    clear hb2 HC
    go_wp2_with fail
    go_ret
    exact ⟨by rw [HV.out] <;> rfl, HP.out⟩
  | false =>
    go_wp2_with fail
    refine HC.out.mono ?_
    rintro e w2 ⟨rfl, hb2⟩
    have HP := Lib.hid (HB.out.trans (hb2.mono HB.out.size))
    clear hb2 HC
    go_wp2_with fail
    go_ret
    exact ⟨rfl, HP.out⟩
end Go.Proofs.YtadogebhkldeiaaGreatDoor
