/- TokenBack: digits. -/
import Derived.Test.YtdnmdccjecoojaaDoorLe
import Derived.Test.YtdnmdccjecoojaaDoorMk
namespace Go.Proofs.YtdnmdccjecoojaaDoor
open Go.RowKit Tok
set_option maxRecDepth 20000 in
set_option maxHeartbeats 1000000 in
theorem ldigits_any (m : Nat) : ∀ (x : Nat) (w : World), x < m → x ≤ big → Calls Tryd.prog 28 #[.int .i64 (x : Int)] w fun e w' => e = .returned (.string (str (digs x))) ∧ ∃ q, w' = w.drewN q := by
  induction m with
  | zero => intro x w h; omega
  | succ m ih =>
    intro x w hx hb
    unfold big at hb
    obtain ⟨d10, hd10⟩ : ∃ d10, str [48, 49, 50, 51, 52, 53, 54, 55, 56, 57] = d10 := ⟨_, rfl⟩
    have hdl : (⟨#[48, 49, 50, 51, 52, 53, 54, 55, 56, 57]⟩ : ByteArray) = d10 := by rw [← hd10]; rfl
    have hds : d10.size = 10 := by rw [← hd10]; rfl
    have hcut : ∀ k, k < 10 → d10.extract k (k + 1) = str [UInt8.ofNat (48 + k)] := fun k hk => by
      rw [← hd10, str_extract, show k + 1 - k = 1 by omega]
      congr 1
      have : ∀ k, k < 10 → (([48, 49, 50, 51, 52, 53, 54, 55, 56, 57] : List UInt8).drop k).take 1 = [UInt8.ofNat (48 + k)] := by decide
      exact this k hk
    by_cases h : x < 10
    · have hd : decide ((x : Int) < 10) = true := by simp; omega
      have hc := hcut x h
      have hxi : (x : Int) < 10 := by omega
      obtain ⟨t, ht⟩ : ∃ t, [UInt8.ofNat (48 + x)] = t := ⟨_, rfl⟩
      have HD : Hid (digs x = t) := Lib.hid (by rw [digs_small h, ht])
      rw [ht] at hc
      obtain ⟨x1, hx1⟩ : ∃ x1, x + 1 = x1 := ⟨_, rfl⟩
      have hw1 : IntKind.i64.wrap ((x : Int) + 1) = (x1 : Int) := by rw [show (x : Int) + 1 = (x1 : Int) by omega]; exact IntWalk.i64_in _ (by omega)
      have h1 : x1 ≤ 10 := by omega
      have h2 : x ≤ x1 := by omega
      rw [hx1] at hc
      clear hcut ih hb hx hd10 hx1 ht
      go_enter Tryd.func28, Tryd.ntmps28
      go_wp2_with fail
      go_ret
      rw [HD.out]
      exact ⟨rfl, 0, rfl⟩
    · have hd : decide ((x : Int) < 10) = false := by simp; omega
      obtain ⟨r, hr⟩ : ∃ r, x % 10 = r := ⟨_, rfl⟩
      obtain ⟨q, hq⟩ : ∃ q, x / 10 = q := ⟨_, rfl⟩
      have hr9 : r < 10 := by omega
      have hc := hcut r hr9
      obtain ⟨t, ht⟩ : ∃ t, [UInt8.ofNat (48 + r)] = t := ⟨_, rfl⟩
      have HD : Hid (digs x = digs q ++ t) := Lib.hid (by rw [digs_more h, hq, hr, ht])
      rw [ht] at hc
      have HI : Hid (∀ W, Calls Tryd.prog 28 #[.int .i64 (q : Int)] W fun e w' => e = .returned (.string (str (digs q))) ∧ ∃ q, w' = W.drewN q) := Lib.hid (fun W => ih q W (by omega) (by unfold big; omega))
      have hql : (digs q).length ≤ 19 := digs_len 18 q (by omega)
      have htl : t.length = 1 := by rw [← ht]; rfl
      obtain ⟨y, hy⟩ : ∃ y, digs q = y := ⟨_, rfl⟩
      rw [hy] at HI HD hql
      obtain ⟨yl, hyl⟩ : ∃ yl, y.length = yl := ⟨_, rfl⟩
      rw [hyl] at hql
      have hys := str_sizeN hyl
      have hts := str_sizeN htl
      have happ := str_app y t
      have hr1 : (x : Int) % 10 = (r : Int) := by omega
      have hr2 : (x : Int).tmod 10 = (r : Int) := by rw [Int.tmod_eq_emod_of_nonneg (by omega)]; exact hr1
      have hq1 : (x : Int) / 10 = (q : Int) := by omega
      have hq2 : (x : Int).tdiv 10 = (q : Int) := by rw [Int.tdiv_eq_ediv_of_nonneg (by omega)]; exact hq1
      obtain ⟨r1, hr3⟩ : ∃ r1, r + 1 = r1 := ⟨_, rfl⟩
      have hw1 : IntKind.i64.wrap ((r : Int) + 1) = (r1 : Int) := by rw [show (r : Int) + 1 = (r1 : Int) by omega]; exact IntWalk.i64_in _ (by omega)
      have hwr : IntKind.i64.wrap (r : Int) = (r : Int) := IntWalk.i64_in _ (by omega)
      have hwq : IntKind.i64.wrap (q : Int) = (q : Int) := IntWalk.i64_in _ (by omega)
      have h1 : r1 ≤ 10 := by omega
      have h2 : r ≤ r1 := by omega
      have h1i : (r1 : Int) ≤ 10 := by omega
      have h2i : (r : Int) ≤ (r1 : Int) := by omega
      rw [hr3] at hc
      clear hcut ih hb hx hd10 hr3 ht htl hyl hy hr hq
      go_enter Tryd.func28, Tryd.ntmps28
      go_wp2_with fail
      go_quiet (first | (go_at_call 28; exact Calls.quiet_of (HI.out _)))
      go_wp2_with fail
      go_ret
      rw [HD.out]
      exact ⟨rfl, _, rfl⟩
end Go.Proofs.YtdnmdccjecoojaaDoor
