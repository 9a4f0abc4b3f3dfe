/- CrcBlank. -/
import Derived.Test.YtbihhjcgiaaopaaDoorW
import Derived.Test.YtbihhjcgiaaopaaDoorK
import Derived.Deep.CutRange
import Derived.Deep.RegionWith
namespace Go.Proofs.YtbihhjcgiaaopaaDoor
open Go.RowKit Crc

/-- A blank text's sum, as it goes on from another. -/
def Zs (x m : Nat) : Nat := sumFrom x (List.replicate m 0)
theorem Zs_lt {x : Nat} (hx : x < 4294967296) (m : Nat) : Zs x m < 4294967296 := sumFrom_lt hx _
theorem Zs_eq {x : Nat} (hx : x < 4294967296) (n m : Nat) (hn : n < 4096) (hm : m < 4096) : Zs x n = Zs x m ↔ (n = m ∨ x = 4294967295) := by
  have hs : x ^^^ ones < 2 ^ 32 := Nat.xor_lt_two_pow hx ones_lt
  have main : ∀ n m, n < m → m < 4096 → Zs x n = Zs x m → x = 4294967295 := by
    intro n m h1 h2 h
    unfold Zs sumFrom at h
    have h3 := xor_cancel_right h
    rw [F_zeros, F_zeros, show 8 * m = 8 * (m - n) + 8 * n by omega, Ln_add] at h3
    have h4 := Ln_inj2 _ hs (Ln_lt _ hs) h3
    have h5 := no_period hs (by omega) (by omega) h4.symm
    have := congrArg (· ^^^ ones) h5
    simpa [Nat.xor_assoc, ones] using this
  constructor
  · intro h
    rcases Nat.lt_trichotomy n m with h1 | h1 | h1
    · exact .inr (main n m h1 hm h)
    · exact .inl h1
    · exact .inr (main m n h1 hn h.symm)
  · rintro (rfl | rfl)
    · rfl
    · have z : (4294967295 : Nat) ^^^ ones = 0 := by decide
      unfold Zs sumFrom
      rw [z, F_zeros, F_zeros, Ln_zero, Ln_zero]
theorem Bytes.alloc {w : World} {A : Option Addr} {bs : List UInt8} (h : Bytes w A bs) (o : Obj) : Bytes (w.alloc o) A bs := h.below ((Below.refl _ w).alloc (Nat.le_refl _) o)
theorem Bytes.drew {w : World} {A : Option Addr} {bs : List UInt8} (h : Bytes w A bs) : Bytes w.drew A bs := h.below (Below.refl _ w).drew
theorem Tab.alloc {w : World} (h : Tab w) (o : Obj) : Tab (w.alloc o) := h.below ((Below.refl _ w).alloc (Nat.le_refl _) o)
theorem Tab.drew {w : World} (h : Tab w) : Tab w.drew := h.below (Below.refl _ w).drew
theorem zeros_at (W : World) (g m : Nat) (hg : g = W.heap.size) : Bytes (W.alloc (.cells (mk8 m) 5)) (some ⟨g, 0, none⟩) (List.replicate m 0) := by
  subst hg
  refine Bytes.of_blk (Blk.new W _ _) (fun k c hk => ?_)
  rw [List.getElem?_replicate] at hk
  split at hk
  · rename_i hlt
    cases hk
    rw [mk8_eq]
    simp [hlt]
  · cases hk
theorem zsum (g m : Nat) (W : World) (hm : m < 4096) (hT : Tab W) (hB : Bytes W (some ⟨g, 0, none⟩) (List.replicate m 0)) :
    Calls Tryd.prog 12 #[.slice (some ⟨g, 0, none⟩) m m] W fun e w' => e = .returned (.int .u32 (Zs 0 m : Int)) ∧ W = w' :=
  sum_anyL (some ⟨g, 0, none⟩) m m _ W (List.length_replicate ..) hT hB (by unfold maxLen; omega)
theorem zext (g m x : Nat) (W : World) (hm : m < 4096) (hx : x < 4294967296) (hT : Tab W) (hB : Bytes W (some ⟨g, 0, none⟩) (List.replicate m 0)) :
    Calls Tryd.prog 10 #[.int .u32 x, .slice (some ⟨g, 0, none⟩) m m] W fun e w' => e = .returned (.int .u32 (Zs x m : Int)) ∧ W = w' :=
  extend_anyL (some ⟨g, 0, none⟩) m m x _ W (List.length_replicate ..) hT hB (by unfold maxLen; omega) hx

theorem raw_mod (a n : Nat) (ha : a < 65536) (h : (a : Int) % 4096 = (n : Int)) : (IntKind.i64.wrap (a : Int)).tmod 4096 = (n : Int) := by
  have hw : IntKind.i64.wrap (a : Int) = (a : Int) := by
    first | (simp [IntKind.wrap, IntKind.bits, IntKind.signed]; omega) | go_num
  rw [hw, Int.tmod_eq_emod_of_nonneg (by omega), h]

set_option maxHeartbeats 800000 in
theorem blank_any (A : Option Addr) (l cap a b : Nat) (bs : List UInt8) (w : World) (hl : bs.length = l) (hT : Tab w) (hA : Bytes w A bs) (hml : l ≤ maxLen) (ha : a < 65536) (hb : b < 65536) :
    Calls Tryd.prog 6 #[.slice A l cap, .int .u16 a, .int .u16 b] w fun e W' => e = .returned (.bool true) ∧ Below w.heap.size w W' := by
  have hWK := Lib.hid (works_any w hT)
  have HT := Lib.hid hT
  by_cases hbig : 4096 < l
  · clear hT hA
    go_enter Tryd.func6, Tryd.ntmps6
    go_wp2_with fail
    refine hWK.out.mono ?_
    rintro e w1 ⟨rfl, hb⟩
    have HB := Lib.hid hb
    clear hb
    go_wp2
    go_ret
    exact ⟨rfl, HB.out⟩
  · obtain ⟨n, hn⟩ : ∃ n, a % 4096 = n := ⟨_, rfl⟩
    obtain ⟨m, hm⟩ : ∃ m, b % 4096 = m := ⟨_, rfl⟩
    have hnl : n < 4096 := by omega
    have hmm : m < 4096 := by omega
    have hni : (a : Int) % 4096 = (n : Int) := by omega
    have hmi : (b : Int) % 4096 = (m : Int) := by omega
    have hra := raw_mod a n ha hni
    have hrb := raw_mod b m hb hmi
    have hk1 := run_mk8 n (by omega)
    have hk2 := run_mk8 m (by omega)
    have hsum := sum_anyL A l cap bs w hl hT hA hml
    have hx := sumFrom_lt (x := 0) (by decide) bs
    generalize sumFrom 0 bs = x at *
    have HX : Hid (x < 4294967296) := Lib.hid hx
    have HS := Lib.hid hsum
    clear hsum hT hA hWK hn hm hx
    go_enter Tryd.func6, Tryd.ntmps6
    go_wp2_with fail
    refine HS.out.mono ?_
    rintro e w' ⟨rfl, rfl⟩
    clear HS
    go_wp2_with fail
    refine (zext _ n x _ hnl HX.out (HT.out.alloc _) (zeros_at _ _ _ rfl)).mono ?_
    rintro e w' ⟨rfl, rfl⟩
    go_wp2_with fail
    refine (zext _ m x _ hmm HX.out ((HT.out.alloc _).alloc _) (zeros_at _ _ _ (by simp))).mono ?_
    rintro e w' ⟨rfl, rfl⟩
    go_upto_region 6 with fail
    have hzz : ((Zs 0 n : Int) == (Zs 0 m : Int)) = ((n : Int) == (m : Int)) := by
      rw [Bool.eq_iff_iff]
      simp only [beq_iff_eq]
      have := Zs_eq (x := 0) (by decide) n m hnl hmm
      omega
    go_cut [10] from 30 to 40 (fun s10 wx => s10 = .bool ((n : Int) == (m : Int)) ∧ Below w.heap.size w wx)
    case first =>
      go_region_with (go_at_call 12; refine Calls.mono (zsum _ _ _ (by first | exact hnl | exact hmm) (by repeat (first | exact HT.out | apply Tab.alloc | apply Tab.drew)) (by repeat (first | exact zeros_at _ _ _ (by simp) | apply Bytes.alloc | apply Bytes.drew))) ?_; rintro e w' ⟨rfl, rfl⟩)
      all_goals (go_wp2_with fail; go_meet; exact ⟨rfl, by repeat (first | exact Below.refl _ _ | apply Below.drew | refine Below.alloc ?_ (by simp <;> omega) _)⟩)
    case rest =>
      obtain ⟨rfl, hbc⟩ := hcut
      have HW := Lib.hid (works_any wc (HT.out.below hbc))
      have HBC := Lib.hid hbc
      have hszc := Lib.hid hbc.size
      have hze := Zs_eq HX.out n m hnl hmm
      have fin : ∀ w5, Below wc.heap.size wc w5 → Below w.heap.size w w5 := fun w5 hb5 => HBC.out.trans (hb5.mono hszc.out)
      have FIN := Lib.hid fin
      clear hbc hzz fin
      by_cases hnm : n = m
      · have q1 : ((n : Int) == (m : Int)) = true := by simp [hnm]
        have q2 : ((Zs x n : Int) == (Zs x m : Int)) = true := by rw [hnm]; simp
        clear hze hnm
        go_wp2_with fail
        refine HW.out.mono ?_
        rintro e w5 ⟨rfl, hb5⟩
        have HB5 := Lib.hid (FIN.out w5 hb5)
        clear hb5 HW FIN
        go_wp2
        go_ret
        exact ⟨rfl, HB5.out⟩
      · have q1 : ((n : Int) == (m : Int)) = false := by rw [beq_eq_false_iff_ne]; omega
        have q2 : ((Zs x n : Int) == (Zs x m : Int)) = ((x : Int) == 4294967295) := by
          rw [Bool.eq_iff_iff]
          simp only [beq_iff_eq]
          omega
        clear hze hnm
        go_wp2_with fail
        refine HW.out.mono ?_
        rintro e w5 ⟨rfl, hb5⟩
        have HB5 := Lib.hid (FIN.out w5 hb5)
        clear hb5 HW FIN
        go_wp2
        go_ret
        exact ⟨rfl, HB5.out⟩

end Go.Proofs.YtbihhjcgiaaopaaDoor
