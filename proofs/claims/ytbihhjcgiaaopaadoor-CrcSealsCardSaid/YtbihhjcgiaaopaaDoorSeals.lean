/- CrcSeals. -/
import Derived.Test.YtbihhjcgiaaopaaDoorW
import Derived.Test.YtbihhjcgiaaopaaDoorK
namespace Go.Proofs.YtbihhjcgiaaopaaDoor
open Go.RowKit Crc

theorem wf_u32 {n : Int} (h : (Lit.int .u32 n).wf = true) : ∃ m : Nat, n = m ∧ m < 4294967296 := by
  have h' := h
  simp [Lit.wf, IntKind.min, IntKind.max, IntKind.bits, IntKind.signed] at h'
  exact ⟨n.toNat, by omega, by omega⟩

theorem burst_sum (bs : List UInt8) (p m : Nat) (hm : m < 4294967296) (hp : p + 32 ≤ 8 * (bs.length + 4)) : sumFrom 0 (burst (sealed bs) p m 32) = 558161692 ↔ m = 0 := by
  have hl : (sealed bs).length = bs.length + 4 := by simp [sealed, le4]
  have hF := F_burst (0 ^^^ ones) (sealed bs) p m 32 (by omega)
  rw [Nat.mod_eq_of_lt (show m < 2 ^ 32 from hm)] at hF
  have h := sum_eq_iff _ _ hF
  have hs := sum_sealed bs
  unfold sumFrom at hs ⊢
  rw [← hs]
  refine h.trans ⟨Ln_inj _ hm, ?_⟩
  rintro rfl
  exact Ln_zero _

set_option maxHeartbeats 400000 in
theorem seals_any (A : Option Addr) (n cap a m : Nat) (bs : List UInt8) (w : World) (hn : bs.length = n) (hT : Tab w) (hA : Bytes w A bs) (hl : n ≤ maxLen) (ha : a < 65536) (hm : m < 4294967296) :
    Calls Tryd.prog 4 #[.slice A n cap, .int .u16 a, .int .u32 m] w fun e W' => e = .returned (.bool true) ∧ Below w.heap.size w W' := by
  have hWK := Lib.hid (works_any w hT)
  have HT := Lib.hid hT
  by_cases hbig : 4096 < n
  · clear hT hA
    go_enter Tryd.func4, Tryd.ntmps4
    go_wp2_with fail
    refine hWK.out.mono ?_
    rintro e w1 ⟨rfl, hb⟩
    have HB := Lib.hid hb
    clear hb
    go_wp2
    go_ret
    exact ⟨rfl, HB.out⟩
  · subst hn
    have hs := seal_any A cap bs w hT hA (by omega)
    have HS := Lib.hid hs
    clear hs hT hA hWK
    go_enter Tryd.func4, Tryd.ntmps4
    go_wp2_with fail
    refine HS.out.mono ?_
    rintro e w1 ⟨v, rfl, hown, hb1⟩
    clear HS
    have HB1 := Lib.hid hb1
    obtain ⟨g, c1, rfl, hg, hglt, hcell, hfz⟩ := own_form hown (by omega)
    have HY := Lib.hid (Bytes.of_own hown)
    have HT1 := Lib.hid (HT.out.below hb1)
    have hsl : (sealed bs).length = bs.length + 4 := by simp [sealed, le4]
    have hsum := sum_anyL (some ⟨g, 0, none⟩) (bs.length + 4) c1 _ w1 hsl HT1.out HY.out (by unfold maxLen; omega)
    rw [sum_sealed] at hsum
    have HS := Lib.hid hsum
    obtain ⟨p, hp⟩ : ∃ p, a % (8 * (bs.length + 4) - 31) = p := ⟨_, rfl⟩
    have hpl : p < 8 * (bs.length + 4) - 31 := by rw [← hp]; exact Nat.mod_lt _ (by omega)
    have hpi : (a : Int) % (8 * ((bs.length : Int) + 4) - 31) = (p : Int) := by
      have e : ((8 * (bs.length + 4) - 31 : Nat) : Int) = 8 * ((bs.length : Int) + 4) - 31 := by omega
      rw [← e, ← hp]; first | exact (Int.natCast_emod _ _).symm | exact (Int.ofNat_emod _ _).symm | (push_cast; rfl)
    have hbu := burst_any (some ⟨g, 0, none⟩) (bs.length + 4) c1 p m (sealed bs) w1 hsl HY.out (by omega) hm (by omega)
    have HBU := Lib.hid hbu
    have HSZ := Lib.hid hb1.size
    clear hb1 hown hcell hfz hsl hsum hbu hp
    go_wp2_with fail
    refine HS.out.mono ?_
    rintro e w' ⟨rfl, rfl⟩
    clear HS
    go_wp2_with fail
    refine HBU.out.mono ?_
    rintro e w2 ⟨v, rfl, hown, hb2⟩
    clear HBU
    obtain ⟨g2, c2, rfl, hg2, hglt2, hcell, hfz⟩ := own_form hown (by omega)
    have HT2 := Lib.hid (HT1.out.below hb2)
    have HB2 := Lib.hid (HB1.out.trans (hb2.mono HSZ.out))
    have hx := burst_sum bs p m hm (by omega)
    have hsum := sum_anyL (some ⟨g2, 0, none⟩) (bs.length + 4) c2 _ w2 (by rw [burst_length]; simp [sealed, le4]) HT2.out (Bytes.of_own hown) (by unfold maxLen; omega)
    obtain ⟨x, hxe⟩ : ∃ x, sumFrom 0 (burst (sealed bs) p m 32) = x := ⟨_, rfl⟩
    rw [hxe] at hx hsum
    have HX := Lib.hid hx
    have HS := Lib.hid hsum
    have HW := Lib.hid (works_any w2 HT2.out)
    have HSZ2 := Lib.hid hb2.size
    clear hown hb2 hcell hfz hx hsum hxe
    go_wp2_with fail
    refine HS.out.mono ?_
    rintro e w' ⟨rfl, rfl⟩
    clear HS
    have hxm : ((x : Int) == 558161692) = ((m : Int) == 0) := by
      rw [Bool.eq_iff_iff]
      simp only [beq_iff_eq]
      have := HX.out
      omega
    go_wp2_with fail
    refine HW.out.mono ?_
    rintro e w3 ⟨rfl, hb3⟩
    have HB3 := Lib.hid (HB2.out.trans (hb3.mono (by have := HSZ.out; have := HSZ2.out; omega)))
    clear hb3 HW
    go_wp2
    go_ret
    exact ⟨rfl, HB3.out⟩

end Go.Proofs.YtbihhjcgiaaopaaDoor
