/- The reference's Open. -/
import Derived.Test.YtlgoacpmacomnaaDoorStand
namespace Go.Proofs.YtlgoacpmacomnaaDoor
open Go.RowKit Crc

/-- What the reference's Open answers. -/
def RefTold (bs : List UInt8) (w : World) (e : Ending) (w' : World) : Prop :=
  ((∃ k body A c, IsBlk bs k body ∧ e = .returned (.tuple #[.int .u8 (k : Int), .slice A body.length c, .int .i64 0]) ∧ w'.ownsRow w.heap.size 5 1 (.slice A body.length c) body.length (body.map bv)) ∨
    ((∀ k body, ¬ IsBlk bs k body) ∧ e = .returned (.tuple #[.int .u8 0, .slice none 0 0, .int .i64 8]))) ∧ Below w.heap.size w w'

theorem isBlk_is {bs : List UInt8} {k : Nat} {body : List UInt8} (h : IsBlk bs k body) : (bs.getD 0 0).toNat = k ∧ body.length = (bs.getD 2 0).toNat + 256 * (bs.getD 3 0).toNat ∧ fieldOf bs 4 body.length = body ∧ bs = blockOf k body := by
  obtain ⟨f, e1, e2⟩ := isBlk_fits h
  exact ⟨e1, f.n_eq, e2, h.2.2.2⟩

set_option maxRecDepth 20000 in
set_option maxHeartbeats 2000000 in
theorem refopen_any (A : Option Addr) (len cap : Nat) (bs : List UInt8) (w : World) (hlen : bs.length = len) (hA : Bytes w A bs) (hcap : len ≤ cap ∧ cap ≤ 9223372036854775807) :
    Calls Tryd.prog 17 #[.slice A len cap] w (RefTold bs w) := by
  by_cases h256 : len = 256
  · subst h256
    have hget := refget_ok A 256 cap 2 2 bs w hlen (by decide) (by decide) (by decide) hA
    rw [fieldOf_two bs (by omega), leN_two] at hget
    obtain ⟨M, hM⟩ : ∃ M, (bs[2]'(by omega)).toNat + 256 * (bs[3]'(by omega)).toNat = M := ⟨_, rfl⟩
    rw [hM] at hget
    have hM16 : M < 65536 := by rw [← hM]; have := (bs[2]'(by omega)).toNat_lt; have := (bs[3]'(by omega)).toNat_lt; omega
    have hMd : M = (bs.getD 2 0).toNat + 256 * (bs.getD 3 0).toNat := by rw [← hM]; simp [List.getD, show 2 < bs.length by omega, show 3 < bs.length by omega]
    have HMD := Lib.hid hMd
    have HGET := Lib.hid hget
    have HA := Lib.hid hA
    have HL := Lib.hid hlen
    clear hget hM hMd hA hlen
    by_cases h4 : 4 + M ≤ 256
    · have H2 := Lib.hid (refcut_ok A 256 cap 4 M bs w HL.out h4 (by decide) HA.out)
      obtain ⟨b, off, rfl, hbl, hc⟩ := byte_at HA.out (i := 0) (by rw [HL.out]; decide)
      have hc0 := hc 0 (by rw [HL.out]; decide)
      obtain ⟨x0, hx0⟩ : ∃ x, (bs.getD 0 0).toNat = x := ⟨_, rfl⟩
      have hx256 : x0 < 256 := by rw [← hx0]; exact (bs.getD 0 0).toNat_lt
      rw [Nat.add_zero, hx0] at hc0
      have HX0 := Lib.hid hx0
      have HC0 := Lib.hid (And.intro hbl hc0)
      have hfl : (fieldOf bs 4 M).length = M := by simp [fieldOf, HL.out]; omega
      have HFL := Lib.hid hfl
      clear hc0 hx0 hc hbl hfl
      go_enter Tryd.func17, Tryd.ntmps17
      go_wp2_with (first
        | (go_at_call 20; refine HGET.out.mono ?_; rintro e w' ⟨rfl, rfl⟩))
      refine H2.out.mono ?_
      rintro e w1 ⟨v1, rfl, hown1, hb1⟩
      obtain ⟨A1, c1, rfl⟩ := own_shape hown1
      have hcap1 := own_cap hown1
      have HO1 := Lib.hid hown1
      have HB1 := Lib.hid hb1
      have hc0 : w1.cell? ⟨b, off, none⟩ = some (.int .u8 (x0 : Int)) := (hb1.cell (p := ⟨b, off, none⟩) HC0.out.1).trans HC0.out.2
      clear H2 hown1 hb1
      by_cases hno : x0 = 0 ∨ 248 < M
      · have H3 := Lib.hid (refseal_no x0 A1 M c1 w1 hx256 hno)
        have HNO : Hid (∀ k body, ¬ IsBlk bs k body) := Lib.hid (fun k body h => by
          obtain ⟨e1, e2, _, _⟩ := isBlk_is h
          have h1 := h.1
          have h2 := h.2.2.1
          have e3 := HX0.out
          have e4 := HMD.out
          omega)
        clear hno
        go_wp2_with fail
        refine H3.out.mono ?_
        rintro e w2 ⟨rfl, rfl⟩
        go_wp2_with fail
        go_ret3
        exact ⟨.inr ⟨HNO.out, rfl⟩, HB1.out⟩
      · have H3 := Lib.hid (refseal_yes x0 A1 M c1 (fieldOf bs 4 M) w1 hx256 (by omega) HFL.out (by omega) (Bytes.of_own HO1.out))
        have hBb : Hid ((blockOf x0 (fieldOf bs 4 M)).length = 256) := Lib.hid (blockOf_length _ _ (by rw [HFL.out]; omega))
        have hx00 : x0 ≠ 0 := by omega
        have hM248 : M ≤ 248 := by omega
        clear hno
        go_wp2_with fail
        refine H3.out.mono ?_
        rintro e w2 ⟨A2, c2, rfl, hown2, hb2⟩
        have hcap2 := own_cap hown2
        have hm2 := hcap2.2
        unfold maxLen at hm2
        have HB2 := Lib.hid (HB1.out.trans (hb2.mono HB1.out.size))
        have h4 := eq_any A2 (some ⟨b, off, none⟩) 256 c2 256 cap (blockOf x0 (fieldOf bs 4 M)) bs w2 hBb.out HL.out (Bytes.of_own hown2) (HA.out.below HB2.out) (by omega) (by omega)
        have hc02 : w2.cell? ⟨b, off, none⟩ = some (.int .u8 (x0 : Int)) := (HB2.out.cell (p := ⟨b, off, none⟩) HC0.out.1).trans HC0.out.2
        have HO2 := Lib.hid (own_below HO1.out hb2)
        have HC2 := Lib.hid hc02
        by_cases heq : blockOf x0 (fieldOf bs 4 M) = bs
        · rw [decide_eq_true heq] at h4
          have HBK : Hid (IsBlk bs x0 (fieldOf bs 4 M)) := Lib.hid ⟨by omega, hx256, by rw [HFL.out]; exact hM248, heq.symm⟩
          have H4 := Lib.hid h4
          clear H3 hown2 hb2 h4 hc0 hc02 heq
          go_wp2_with fail
          refine H4.out.mono ?_
          rintro e w3 ⟨rfl, hb3⟩
          have HB3 := Lib.hid (HB2.out.trans (hb3.mono HB2.out.size))
          have hc03 : w3.cell? ⟨b, off, none⟩ = some (.int .u8 (x0 : Int)) := (HB3.out.cell (p := ⟨b, off, none⟩) HC0.out.1).trans HC0.out.2
          have HO3 := Lib.hid (own_below HO2.out hb3)
          clear H4 hb3
          go_wp2_with fail
          go_ret3
          refine ⟨.inl ⟨x0, fieldOf bs 4 M, A1, c1, HBK.out, ?_, ?_⟩, HB3.out⟩
          · rw [HFL.out]; rfl
          · rw [HFL.out]; exact HO3.out
        · rw [decide_eq_false heq] at h4
          have HNO : Hid (∀ k body, ¬ IsBlk bs k body) := Lib.hid (fun k body h => by
            obtain ⟨e1, e2, e3, e4⟩ := isBlk_is h
            have e5 : k = x0 := by rw [← e1]; exact HX0.out
            have e6 : body.length = M := e2.trans HMD.out.symm
            apply heq
            rw [← e5, ← e6, e3]
            exact e4.symm)
          have H4 := Lib.hid h4
          clear H3 hown2 hb2 h4 hc0 hc02 heq
          go_wp2_with fail
          refine H4.out.mono ?_
          rintro e w3 ⟨rfl, hb3⟩
          have HB3 := Lib.hid (HB2.out.trans (hb3.mono HB2.out.size))
          clear H4 hb3
          go_wp2_with fail
          go_ret3
          exact ⟨.inr ⟨HNO.out, rfl⟩, HB3.out⟩
    · have H2 := Lib.hid (refcut_no A 256 cap 4 M w (by decide) (by omega) (by simp [insideB]; omega))
      have HNO : Hid (∀ k body, ¬ IsBlk bs k body) := Lib.hid (fun k body h => by
        obtain ⟨_, e2, _, _⟩ := isBlk_is h
        have h2 := h.2.2.1
        have e4 := HMD.out
        omega)
      clear h4
      go_enter Tryd.func17, Tryd.ntmps17
      go_wp2_with (first
        | (go_at_call 20; refine HGET.out.mono ?_; rintro e w' ⟨rfl, rfl⟩)
        | (go_at_call 32; refine H2.out.mono ?_; rintro e w' ⟨rfl, rfl⟩))
      go_ret3
      exact ⟨.inr ⟨HNO.out, rfl⟩, Below.refl _ _⟩
  · have hne : ((len : Int) != 256) = true := by simp; omega
    have HNO : Hid (∀ k body, ¬ IsBlk bs k body) := Lib.hid (fun k body h => h256 (by rw [← hlen]; exact (isBlk_fits h).1.len))
    clear hA hlen
    go_enter Tryd.func17, Tryd.ntmps17
    go_wp2_with fail
    go_ret3
    exact ⟨.inr ⟨HNO.out, rfl⟩, Below.refl _ _⟩

end Go.Proofs.YtlgoacpmacomnaaDoor
