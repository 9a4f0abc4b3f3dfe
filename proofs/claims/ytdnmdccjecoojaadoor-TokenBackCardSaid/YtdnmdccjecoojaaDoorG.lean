/- token: skip; the reference's blank. -/
import Derived.Test.YtdnmdccjecoojaaDoorE
namespace Go.Proofs.YtdnmdccjecoojaaDoor
open Go.RowKit Tok
theorem drop_cons {s : List UInt8} {k : Nat} {c : UInt8} (h : s[k]? = some c) : s.drop k = c :: s.drop (k + 1) := by
  obtain ⟨h1, h2⟩ := List.getElem?_eq_some_iff.1 h
  rw [← h2]
  exact List.drop_eq_getElem_cons h1
theorem blankN_at {s : List UInt8} {k : Nat} {c : UInt8} (h : s[k]? = some c) : blankN (s.drop k) = if blankB c then some 1 else if (s.drop k).take 2 = [40, 42] then comS (s.drop k) 0 else some 0 := by
  rw [drop_cons h]; rfl
structure SkipR (s : List UInt8) (n i k : Nat) : Prop where
  le : i ≤ k ∧ k ≤ n
  is : ∀ l, res s i l = res s k l
theorem SkipR.refl {s : List UInt8} {n i : Nat} (h : i ≤ n) : SkipR s n i i := ⟨⟨Nat.le_refl _, h⟩, fun _ => rfl⟩
theorem SkipR.step {s : List UInt8} {n i k m : Nat} (hn : s.length = n) (h : SkipR s n i k) (hk : k < n) (hb : blankN (s.drop k) = some m) (hm : 0 < m) (hl : k + m ≤ n) : SkipR s n i (k + m) :=
  ⟨⟨by have := h.le; omega, hl⟩, fun l => by rw [h.is, res_blank (by omega) hb hm]⟩
def SkipP (s : List UInt8) (n i : Nat) (w : World) : Ending → World → Prop := fun e w' => w = w' ∧ ∃ m ok, e = .returned (.tuple #[.int .i64 ((m : Nat) : Int), .bool ok]) ∧ SkipR s n i m ∧ (ok = true → m < n → blankN (s.drop m) = some 0) ∧ (ok = false → m < n ∧ blankN (s.drop m) = none)
set_option maxHeartbeats 1000000 in
theorem skip_any (s : List UInt8) (n i : Nat) (w : World) (hn : s.length = n) (hb : n < 4294967296) (hi : i ≤ n) :
    Calls Tryd.prog 22 #[.string (str s), .int .i64 (i : Int)] w (SkipP s n i w) := by
  have hsz := str_sizeN hn
  have HSX : Hid (∀ k, (str s).extract k n = str (s.drop k)) := Lib.hid (fun k => str_suf hn k)
  have HB1 : Hid (∀ r : List UInt8, Calls Tryd.prog 30 #[.string (str r), .string ⟨#[40, 42]⟩] w fun e w' => e = .returned (.bool (r.take 2 == [40, 42])) ∧ w = w') := Lib.hid (fun r => begins_any r [40, 42] w)
  have HN := Lib.hid hn
  have HF := Lib.hid (SkipR.refl (s := s) hi)
  clear hn
  go_enter Tryd.func22, Tryd.ntmps22
  go_wp2_with fail
  go_loopw [1, 6] (fun kv _ wr => ∃ k : Nat, kv = .int .i64 (k : Int) ∧ wr = w ∧ Hid (SkipR s n i k)) (fun kv _ _ => n - (intOf kv).toNat)
  case atStart => exact ⟨i, rfl, rfl, HF⟩
  case round =>
    clear HF
    obtain ⟨k, rfl, hw, hI⟩ := hrel
    obtain rfl : w = _ := hw.symm
    have hkn := hI.out.le.2
    by_cases hlt : k < n
    · have hd : decide ((k : Int) < (n : Int)) = true := by simpa using hlt
      obtain ⟨c, hc⟩ : ∃ c, s[k]? = some c := ⟨_, List.getElem?_eq_getElem (by rw [HN.out]; exact hlt)⟩
      have hcc := str_at hc (by rw [hsz]; exact hlt)
      have hbl := blankN_at hc
      have H0 := blank_any c w
      obtain ⟨x, hx⟩ : ∃ x, blankB c = x := ⟨_, rfl⟩
      rw [hx] at hbl H0
      unfold bv at H0
      cases x with
      | true =>
        have HI := Lib.hid (hI.out.step HN.out hlt hbl (by omega) (by omega))
        have H0 := Lib.hid H0
        clear hx hbl hc hI
        go_wp2_with (go_at_call 29; refine Calls.mono H0.out ?_; rintro e w' ⟨rfl, rfl⟩)
        go_roundw
        case rel => exact ⟨k + 1, by go_num, by trivial, HI⟩
        case measure => simp [intOf]; omega
      | false =>
        have hex := HSX.out k
        have H1 := HB1.out (s.drop k)
        obtain ⟨p, hp⟩ : ∃ p, ((s.drop k).take 2 == [40, 42]) = p := ⟨_, rfl⟩
        rw [hp] at H1
        rw [if_neg (by decide)] at hbl
        cases p with
        | true =>
          have hp := beq_iff_eq.1 hp
          rw [if_pos hp] at hbl
          have H2 := comment_any (s.drop k) w (by rw [drop_len HN.out]; omega) hp
          cases ho : comS (s.drop k) 0 with
          | none =>
            rw [ho] at H2 hbl
            have H0 := Lib.hid H0
            have H1 := Lib.hid H1
            have H2 := Lib.hid H2
            have HR : Hid (SkipR s n i k ∧ (k < n ∧ blankN (s.drop k) = none)) := Lib.hid ⟨hI.out, hlt, hbl⟩
            clear hx hbl hc hI hp ho
            go_wp2_with (first
              | (go_at_call 29; refine Calls.mono H0.out ?_; rintro e w' ⟨rfl, rfl⟩)
              | (go_at_call 30; refine Calls.mono H1.out ?_; rintro e w' ⟨rfl, rfl⟩)
              | (go_at_call 31; refine Calls.mono H2.out ?_; rintro e w' ⟨rfl, rfl⟩))
            go_ret2
            exact ⟨rfl, k, false, rfl, HR.out.1, (fun h => by cases h), fun _ => HR.out.2⟩
          | some m =>
            have hm := comS_le _ _ _ _ (Nat.le_refl _) ho
            rw [drop_len HN.out] at hm
            rw [ho] at H2 hbl
            simp only [Option.getD_some] at H2
            have HI := Lib.hid (hI.out.step HN.out hlt hbl (by omega) (by omega))
            have hm0 : ((m : Int) == 0) = false := by simp; omega
            have hm1 : k + m ≤ n := by omega
            have hm2 : 0 < m := by omega
            have H0 := Lib.hid H0
            have H1 := Lib.hid H1
            have H2 := Lib.hid H2
            clear hx hbl hc hI hp ho hm
            go_wp2_with (first
              | (go_at_call 29; refine Calls.mono H0.out ?_; rintro e w' ⟨rfl, rfl⟩)
              | (go_at_call 30; refine Calls.mono H1.out ?_; rintro e w' ⟨rfl, rfl⟩)
              | (go_at_call 31; refine Calls.mono H2.out ?_; rintro e w' ⟨rfl, rfl⟩))
            go_roundw
            case rel => exact ⟨k + m, by go_num, by trivial, HI⟩
            case measure => simp [intOf]; omega
        | false =>
          rw [if_neg (fun e => by rw [e] at hp; exact absurd hp (by decide))] at hbl
          have H0 := Lib.hid H0
          have H1 := Lib.hid H1
          have HR : Hid (SkipR s n i k ∧ blankN (s.drop k) = some 0) := Lib.hid ⟨hI.out, hbl⟩
          clear hx hbl hc hI hp
          go_wp2_with (first
            | (go_at_call 29; refine Calls.mono H0.out ?_; rintro e w' ⟨rfl, rfl⟩)
            | (go_at_call 30; refine Calls.mono H1.out ?_; rintro e w' ⟨rfl, rfl⟩))
          go_ret2
          exact ⟨rfl, k, true, rfl, HR.out.1, fun _ _ => HR.out.2, fun h => by cases h⟩
    · obtain rfl : n = k := by omega
      have hd : decide ((n : Int) < (n : Int)) = false := by simp
      go_wp2_with fail
      go_ret2
      exact ⟨rfl, n, true, rfl, hI.out, fun _ h => absurd h (by omega), fun h => by cases h⟩
end Go.Proofs.YtdnmdccjecoojaaDoor
