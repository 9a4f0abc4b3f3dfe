/- CrcTwo. -/
import Derived.Test.YtbihhjcgiaaopaaDoorW
import Derived.Test.YtbihhjcgiaaopaaDoorK
namespace Go.Proofs.YtbihhjcgiaaopaaDoor
open Go.RowKit Crc

theorem sealed_length (bs : List UInt8) : (sealed bs).length = bs.length + 4 := by simp [sealed, le4]
theorem one_sum (bs : List UInt8) (p : Nat) (hp : p < 8 * (bs.length + 4)) : ¬ sumFrom 0 (bitTurned (sealed bs) p) = 558161692 := by
  have hl := sealed_length bs
  have hF := F_bit (0 ^^^ ones) (sealed bs) p (by omega)
  have h := sum_eq_iff _ _ hF
  have hs := sum_sealed bs
  unfold sumFrom at hs ⊢
  rw [← hs, h]
  intro h0
  exact absurd (Ln_inj _ (by decide) h0) (by decide)
theorem no_meet {L p q : Nat} (hL : L < 65535) (hp : p < q) (hq : q < L) (h : Ln (L - p) 1 = Ln (L - q) 1) : False := by
  have e : L - p = (q - p) + (L - q) := by omega
  rw [e, Ln_add] at h
  have h1 := Ln_inj2 _ (Ln_lt _ (by decide)) (by decide) h
  exact absurd (no_period (by decide) (by omega) (by omega) h1) (by decide)
theorem xor_zero_iff (a b : Nat) : a ^^^ b = 0 ↔ a = b := by
  constructor
  · intro h
    have := congrArg (· ^^^ b) h
    simpa [Nat.xor_assoc] using this
  · rintro rfl; exact Nat.xor_self _
theorem two_sum (bs : List UInt8) (p q : Nat) (hb : bs.length ≤ 4096) (hp : p < 8 * (bs.length + 4)) (hq : q < 8 * (bs.length + 4)) : sumFrom 0 (bitTurned (bitTurned (sealed bs) p) q) = 558161692 ↔ p = q := by
  have hl := sealed_length bs
  have hF := F_bit (0 ^^^ ones) (sealed bs) p (by omega)
  have hG := F_bit (0 ^^^ ones) (bitTurned (sealed bs) p) q (by rw [bitTurned_length]; omega)
  rw [bitTurned_length, hF, hl, Nat.xor_assoc] at hG
  have h := sum_eq_iff _ _ hG
  have hs := sum_sealed bs
  unfold sumFrom at hs ⊢
  rw [← hs, h, xor_zero_iff]
  constructor
  · intro e
    rcases Nat.lt_trichotomy p q with h1 | h1 | h1
    · exact (no_meet (by omega) h1 (by omega) e).elim
    · exact h1
    · exact (no_meet (by omega) h1 (by omega) e.symm).elim
  · rintro rfl; rfl

set_option maxHeartbeats 400000 in
theorem two_any (A : Option Addr) (n cap a b : Nat) (bs : List UInt8) (w : World) (hn : bs.length = n) (hT : Tab w) (hA : Bytes w A bs) (hl : n ≤ maxLen) (ha : a < 65536) (hb : b < 65536) :
    Calls Tryd.prog 5 #[.slice A n cap, .int .u16 a, .int .u16 b] w fun e W' => e = .returned (.bool true) ∧ Below w.heap.size w W' := by
  have hWK := Lib.hid (works_any w hT)
  have HT := Lib.hid hT
  by_cases hbig : 4096 < n
  · clear hT hA
    go_enter Tryd.func5, Tryd.ntmps5
    go_wp2_with fail
    refine hWK.out.mono ?_
    rintro e w1 ⟨rfl, hb⟩
    have HB := Lib.hid hb
    clear hb
    go_wp2
    go_ret
    exact ⟨rfl, HB.out⟩
  · subst hn
    have hs := seal_any A cap bs w hT hA (by omega)
    have HS := Lib.hid hs
    clear hs hT hA hWK
    obtain ⟨p, hp⟩ : ∃ p, a % (8 * (bs.length + 4)) = p := ⟨_, rfl⟩
    obtain ⟨q, hq⟩ : ∃ q, b % (8 * (bs.length + 4)) = q := ⟨_, rfl⟩
    have hpl : p < 8 * (bs.length + 4) := by rw [← hp]; exact Nat.mod_lt _ (by omega)
    have hql : q < 8 * (bs.length + 4) := by rw [← hq]; exact Nat.mod_lt _ (by omega)
    have hpi : (a : Int) % (8 * ((bs.length : Int) + 4)) = (p : Int) := by rw [← hp]; push_cast; rfl
    have hqi : (b : Int) % (8 * ((bs.length : Int) + 4)) = (q : Int) := by rw [← hq]; push_cast; rfl
    clear hp hq
    have hsl := Lib.hid (sealed_length bs)
    go_enter Tryd.func5, Tryd.ntmps5
    go_wp2_with fail
    refine HS.out.mono ?_
    rintro e w1 ⟨v, rfl, hown, hb1⟩
    clear HS
    have HB1 := Lib.hid hb1
    obtain ⟨g, c1, rfl, hg, hglt, hcell, hfz⟩ := own_form hown (by omega)
    have HT1 := Lib.hid (HT.out.below hb1)
    have htu := turn_anyL (some ⟨g, 0, none⟩) (bs.length + 4) c1 p _ w1 hsl.out (Bytes.of_own hown) (by omega) hpl
    have HTU := Lib.hid htu
    have HSZ := Lib.hid hb1.size
    clear hb1 hown hcell hfz htu
    go_wp2_with fail
    refine HTU.out.mono ?_
    rintro e w2 ⟨v, rfl, hown, hb2⟩
    clear HTU
    obtain ⟨g2, c2, rfl, hg2, hglt2, hcell, hfz⟩ := own_form hown (by omega)
    have HT2 := Lib.hid (HT1.out.below hb2)
    have HB2 := Lib.hid (HB1.out.trans (hb2.mono HSZ.out))
    have HY2 := Lib.hid (Bytes.of_own hown)
    have htu := turn_anyL (some ⟨g2, 0, none⟩) (bs.length + 4) c2 q _ w2 (by rw [bitTurned_length]; exact hsl.out) HY2.out (by omega) hql
    have HTU := Lib.hid htu
    have HSZ2 := Lib.hid hb2.size
    clear hb2 hown hcell hfz htu
    go_wp2_with fail
    refine HTU.out.mono ?_
    rintro e w3 ⟨v, rfl, hown, hb3⟩
    clear HTU
    obtain ⟨g3, c3, rfl, hg3, hglt3, hcell, hfz⟩ := own_form hown (by omega)
    have HT3 := Lib.hid (HT2.out.below hb3)
    have hsz : w.heap.size ≤ w2.heap.size := by have := HSZ.out; have := HSZ2.out; omega
    have HB3 := Lib.hid (HB2.out.trans (hb3.mono hsz))
    have h1 := sum_anyL (some ⟨g2, 0, none⟩) (bs.length + 4) c2 _ w3 (by rw [bitTurned_length]; exact hsl.out) HT3.out (HY2.out.below hb3) (by unfold maxLen; omega)
    have h2 := sum_anyL (some ⟨g3, 0, none⟩) (bs.length + 4) c3 _ w3 (by rw [bitTurned_length, bitTurned_length]; exact hsl.out) HT3.out (Bytes.of_own hown) (by unfold maxLen; omega)
    have hone := one_sum bs p hpl
    have htwo := two_sum bs p q (by omega) hpl hql
    obtain ⟨x, hxe⟩ : ∃ x, sumFrom 0 (bitTurned (sealed bs) p) = x := ⟨_, rfl⟩
    obtain ⟨y, hye⟩ : ∃ y, sumFrom 0 (bitTurned (bitTurned (sealed bs) p) q) = y := ⟨_, rfl⟩
    rw [hxe] at h1 hone
    rw [hye] at h2 htwo
    have hx : ((x : Int) == 558161692) = false := by
      rw [beq_eq_false_iff_ne]; omega
    have hxn : ¬ ((x : Int) = 558161692) := by omega
    have hxb : ((x : Int) != 558161692) = true := by simpa using hxn
    have hy : ((y : Int) == 558161692) = ((p : Int) == (q : Int)) := by
      rw [Bool.eq_iff_iff]
      simp only [beq_iff_eq]
      omega
    have HS1 := Lib.hid h1
    have HS2 := Lib.hid h2
    have HW := Lib.hid (works_any w3 HT3.out)
    have hsz3 := hb3.size
    have HSZ3 : Hid (w.heap.size ≤ w3.heap.size) := Lib.hid (by omega)
    clear hown hb3 hcell hfz hone htwo hxe hye h1 h2 hsz hsz3
    go_wp2_with fail
    refine HS1.out.mono ?_
    rintro e w' ⟨rfl, rfl⟩
    clear HS1
    go_wp2_with fail
    refine HS2.out.mono ?_
    rintro e w' ⟨rfl, rfl⟩
    clear HS2
    go_wp2_with fail
    refine HW.out.mono ?_
    rintro e w4 ⟨rfl, hb4⟩
    have HB4 := Lib.hid (HB3.out.trans (hb4.mono HSZ3.out))
    clear hb4 HW
    go_wp2
    go_ret
    exact ⟨rfl, HB4.out⟩

end Go.Proofs.YtbihhjcgiaaopaaDoor
