/- Count, Low. -/
import Derived.Test.YtfkhgdhfelfegaaDoorD
namespace Go.Proofs.YtfkhgdhfelfegaaDoor
open Go.RowKit Bts

theorem card_mono (S : Nat → Bool) {a b : Nat} (h : a ≤ b) : card S a ≤ card S b := by
  obtain ⟨c, rfl⟩ : ∃ c, b = a + c := ⟨b - a, by omega⟩
  rw [card_add]; omega
theorem card_past {S : Nat → Bool} {n m : Nat} (h : n ≤ m) (ho : ∀ j, n ≤ j → S j = false) : card S m = card S n := by
  obtain ⟨c, rfl⟩ : ∃ c, m = n + c := ⟨m - n, by omega⟩
  rw [card_add, card_zero c fun k _ => ho _ (by omega)]; rfl

/-- Where all words lie. -/
structure All (w : World) (p q n : Nat) (S : Nat → Bool) (L c : Nat) (ws : List Nat) : Prop where
  hd : w.cell? ⟨p, 0, none⟩ = some (.int .i64 (n : Int))
  sl : w.cell? ⟨p, 1, none⟩ = some (.slice (some ⟨q, 0, none⟩) L c)
  len : L = (n + 63) / 64
  top : n ≤ 65536
  wd : ∀ i, i < L → w.cell? ⟨q, i, none⟩ = some (.int .u64 (ws.getD i 0 : Int)) ∧ ws.getD i 0 < 18446744073709551616 ∧ ∀ k, k < 64 → (ws.getD i 0).testBit k = S (64 * i + k)
  out : ∀ j, n ≤ j → S j = false
theorem Bs.all {w : World} {p q n : Nat} {S : Nat → Bool} (h : Bs w p q n S) : ∃ L c ws, All w p q n S L c ws := by
  obtain ⟨c, ws, cs, hw, hp, hc1, hc2, hq, hcs⟩ := h.mem
  exact ⟨ws.length, c, ws, hp.cell 0, hp.cell 1, hw.len, hw.top, fun i hi => ⟨(Blk.cell (cs := cs) hq i).trans (hcs i hi), hw.lt i hi, fun k hk => hw.bit i k hi hk⟩, hw.out⟩

set_option maxHeartbeats 1000000 in
theorem count_any (p q n : Nat) (S : Nat → Bool) (w : World) (h : Bs w p q n S) :
    Calls Tryd.prog 21 #[.pointer (some ⟨p, 0, none⟩)] w fun e w' => e = .returned (.int .i64 (card S n : Int)) ∧ w = w' := by
  obtain ⟨L, c, ws, hA⟩ := h.all
  have sl := hA.sl
  have hfin : card S (64 * L) = card S n := card_past (by have := hA.len; omega) hA.out
  have hL : L ≤ 1024 := by have := hA.len; have := hA.top; omega
  have HF := Lib.hid hfin
  have HW := Lib.hid hA.wd
  clear hA h hfin
  go_enter Tryd.func21, Tryd.ntmps21
  go_wp2
  go_loop [3, 12] (fun x i => ∃ k : Nat, k ≤ L ∧ i = .int .i64 k ∧ x = .int .i64 (card S (64 * k) : Int)) (fun _ i => L - (intOf i).toNat)
  case atStart => exact ⟨0, Nat.zero_le _, rfl, rfl⟩
  case round =>
    obtain ⟨k, hk, rfl, rfl⟩ := hrel
    by_cases hlt : k < L
    · obtain ⟨hc, hx, hb⟩ := HW.out k hlt
      have hstep : card S (64 * (k + 1)) = card S (64 * k) + card (ws.getD k 0).testBit 64 := by
        rw [show 64 * (k + 1) = 64 * k + 64 by omega, card_add]
        congr 1
        exact card_congr 64 fun j hj => (hb j hj).symm
      have hle := card_le S (64 * k)
      have hle2 := card_le (ws.getD k 0).testBit 64
      generalize hcx : ws.getD k 0 = x at *
      have hc' := hc
      have H1 := Lib.hid (ones_any x hx)
      generalize card x.testBit 64 = u at *
      generalize card S (64 * k) = v at *
      have HS := Lib.hid hstep
      clear hstep hb hcx hc' hx
      go_wp2_with (go_at_call 32; refine (H1.out _).mono ?_; rintro e w' ⟨rfl, rfl⟩)
      go_round
      case rel => exact ⟨k + 1, by omega, by go_num, by rw [HS.out]; go_num⟩
      case measure => simp [intOf]; omega
    · obtain rfl : k = L := by omega
      rw [HF.out]
      go_wp2
      go_ret
      exact ⟨rfl, rfl⟩

theorem count_nil (w : World) : Calls Tryd.prog 21 #[.pointer none] w fun e w' => e = .returned (.int .i64 0) ∧ w = w' := by
  go_enter Tryd.func21, Tryd.ntmps21
  go_wp2
  go_ret
  exact ⟨rfl, rfl⟩
theorem low_nil (w : World) : Calls Tryd.prog 22 #[.pointer none] w fun e w' => e = .returned (.tuple #[.int .i64 0, .bool false]) ∧ w = w' := by
  go_enter Tryd.func22, Tryd.ntmps22
  go_wp2
  go_ret2
  exact ⟨rfl, rfl⟩

/-! ### The lowest that is not in -/

/-- k is the lowest below n that is not in. -/
def IsLow (S : Nat → Bool) (n k : Nat) : Prop := k < n ∧ S k = false ∧ ∀ j, j < k → S j = true
theorem IsLow.one {S : Nat → Bool} {n a b : Nat} (h : IsLow S n a) (k : IsLow S n b) : a = b := by
  rcases Nat.lt_trichotomy a b with hl | hl | hl
  · have := k.2.2 a hl; rw [h.2.1] at this; cases this
  · exact hl
  · have := h.2.2 b hl; rw [k.2.1] at this; cases this

theorem not64 (x : Nat) (hx : x < 18446744073709551616) : bits .xor .u64 IntKind.u64.max (x : Int) = ((18446744073709551615 - x : Nat) : Int) := by
  have h1 : (BitVec.ofInt 64 (x : Int)).toNat = x := by
    rw [BitVec.ofInt_natCast, BitVec.toNat_ofNat]; exact Nat.mod_eq_of_lt (by omega)
  have h2 : (BitVec.ofInt 64 IntKind.u64.max).toNat = 2 ^ 64 - 1 := by decide
  show IntKind.u64.wrap ((BitVec.ofInt 64 IntKind.u64.max ^^^ BitVec.ofInt 64 (x : Int)).toNat : Int) = _
  have e : (2 ^ 64 - 1) ^^^ x = 18446744073709551615 - x := by
    rw [show 18446744073709551615 - x = 2 ^ 64 - (x + 1) by omega]
    apply Nat.eq_of_testBit_eq
    intro i
    rw [Nat.testBit_two_pow_sub_succ (show x < 2 ^ 64 by omega), Nat.testBit_xor, Nat.testBit_two_pow_sub_one]
    by_cases hi : i < 64
    · simp [hi]
    · have hxi : x.testBit i = false := Nat.testBit_lt_two_pow (Nat.lt_of_lt_of_le (show x < 2 ^ 64 by omega) (Nat.pow_le_pow_right (by decide) (by omega)))
      simp [hi, hxi]
  rw [BitVec.toNat_xor, h1, h2, e]
  exact IntWalk.u64_in _ (by omega)
theorem not_bit (x k : Nat) (hx : x < 18446744073709551616) (hk : k < 64) : (18446744073709551615 - x).testBit k = !x.testBit k := by
  rw [show 18446744073709551615 - x = 2 ^ 64 - (x + 1) by omega, Nat.testBit_two_pow_sub_succ (show x < 2 ^ 64 by omega)]
  simp [hk]

/-- Of a word: the lowest that is not in, 64 if there is none. -/
theorem low_word {S : Nat → Bool} {i x : Nat} (hx : x < 18446744073709551616) (hb : ∀ k, k < 64 → x.testBit k = S (64 * i + k)) :
    (Lib.ctz 64 (18446744073709551615 - x) = 64 ∧ ∀ k, k < 64 → S (64 * i + k) = true) ∨ (Lib.ctz 64 (18446744073709551615 - x) < 64 ∧ S (64 * i + Lib.ctz 64 (18446744073709551615 - x)) = false ∧ ∀ k, k < Lib.ctz 64 (18446744073709551615 - x) → S (64 * i + k) = true) := by
  by_cases h0 : 18446744073709551615 - x = 0
  · refine .inl ⟨by rw [h0]; rfl, fun k hk => ?_⟩
    have := not_bit x k hx hk
    rw [h0, Nat.zero_testBit] at this
    rw [← hb k hk]
    simpa using this.symm
  · obtain ⟨h1, h2, h3⟩ := ctz_spec _ h0 (show 18446744073709551615 - x < 2 ^ 64 by omega)
    generalize Lib.ctz 64 (18446744073709551615 - x) = c at *
    refine .inr ⟨h1, ?_, fun k hk => ?_⟩
    · rw [not_bit x c hx h1] at h2
      rw [← hb c h1]; simpa using h2
    · have := h3 k hk
      rw [not_bit x k hx (by omega)] at this
      rw [← hb k (by omega)]; simpa using this

/-- Of a word: what the library's two answer of what is not in. -/
theorem word_low {S : Nat → Bool} {i x : Nat} (hx : x < 18446744073709551616) (hb : ∀ k, k < 64 → x.testBit k = S (64 * i + k)) :
    ∃ y t : Nat, bits .xor .u64 IntKind.u64.max (x : Int) = (y : Int) ∧ (∀ w : World, Tab w → Calls Tryd.prog 33 #[.int .u64 (y : Int)] w fun e w' => e = .returned (.int .i64 (t : Int)) ∧ w = w') ∧
      ((t = 64 ∧ ∀ k, k < 64 → S (64 * i + k) = true) ∨ (t < 64 ∧ S (64 * i + t) = false ∧ ∀ k, k < t → S (64 * i + k) = true)) :=
  ⟨18446744073709551615 - x, _, not64 x hx, fun w hT => tz_any _ w (by omega) hT, low_word hx hb⟩

/-- What Low tells. -/
def LowTold (S : Nat → Bool) (n : Nat) (w : World) (e : Ending) (w' : World) : Prop :=
  ((∃ k : Nat, IsLow S n k ∧ e = .returned (.tuple #[.int .i64 (k : Int), .bool true])) ∨ ((∀ j, j < n → S j = true) ∧ e = .returned (.tuple #[.int .i64 0, .bool false]))) ∧ w = w'

set_option maxHeartbeats 1000000 in
theorem low_any (p q n : Nat) (S : Nat → Bool) (w : World) (h : Bs w p q n S) (hT : Tab w) :
    Calls Tryd.prog 22 #[.pointer (some ⟨p, 0, none⟩)] w (LowTold S n w) := by
  obtain ⟨L, c, ws, hA⟩ := h.all
  have sl := hA.sl
  have hd := hA.hd
  have hL : L ≤ 1024 := by have := hA.len; have := hA.top; omega
  have HL := Lib.hid hA.len
  have HN := Lib.hid hA.top
  have HW := Lib.hid hA.wd
  have HT := Lib.hid hT
  clear hA h hT
  go_enter Tryd.func22, Tryd.ntmps22
  go_wp2
  go_loop [4, 5, 13] (fun _ _ i => ∃ k : Nat, k ≤ L ∧ i = .int .i64 k ∧ ∀ j, j < 64 * k → j < n → S j = true) (fun _ _ i => L - (intOf i).toNat)
  case atStart => exact ⟨0, Nat.zero_le _, rfl, fun j hj => by omega⟩
  case round =>
    obtain ⟨k, hk, rfl, hall⟩ := hrel
    have HALL := Lib.hid hall
    clear hall
    by_cases hlt : k < L
    · obtain ⟨hc, hx, hb⟩ := HW.out k hlt
      obtain ⟨y, t, hnot, h1, hlw⟩ := word_low hx hb
      have ht : t ≤ 64 := by rcases hlw with h | h <;> omega
      have H1 := Lib.hid h1
      have HLW := Lib.hid hlw
      generalize ws.getD k 0 = x at *
      clear hlw hb hx h1
      have hsg : IntKind.u64.signed = false := rfl
      by_cases h2 : 64 * k + t < n
      · by_cases h1 : t < 64
        · have hlow : IsLow S n (64 * k + t) := by
            rcases HLW.out with ⟨h, _⟩ | ⟨_, ha, hb⟩
            · omega
            · refine ⟨h2, ha, fun j hj => ?_⟩
              by_cases hjk : j < 64 * k
              · exact HALL.out j hjk (by omega)
              · obtain ⟨r, rfl⟩ : ∃ r, j = 64 * k + r := ⟨j - 64 * k, by omega⟩
                exact hb r (by omega)
          have HLOW := Lib.hid hlow
          clear hlow
          go_wp2_with (go_at_call 33; refine (H1.out _ HT.out).mono ?_; rintro e w' ⟨rfl, rfl⟩)
          go_ret2
          exact ⟨.inl ⟨_, HLOW.out, rfl⟩, rfl⟩
        · have hall : ∀ j, j < 64 * (k + 1) → j < n → S j = true := by
            rcases HLW.out with ⟨_, hb⟩ | ⟨h, _⟩
            · intro j hj hjn
              by_cases hjk : j < 64 * k
              · exact HALL.out j hjk hjn
              · obtain ⟨r, rfl⟩ : ∃ r, j = 64 * k + r := ⟨j - 64 * k, by omega⟩
                exact hb r (by omega)
            · omega
          have HA2 := Lib.hid hall
          clear hall
          go_wp2_with (go_at_call 33; refine (H1.out _ HT.out).mono ?_; rintro e w' ⟨rfl, rfl⟩)
          go_round
          case rel => exact ⟨k + 1, by omega, by go_num, HA2.out⟩
          case measure => simp [intOf]; omega
      · have hall : ∀ j, j < 64 * (k + 1) → j < n → S j = true := by
          intro j hj hjn
          by_cases hjk : j < 64 * k
          · exact HALL.out j hjk hjn
          · obtain ⟨r, rfl⟩ : ∃ r, j = 64 * k + r := ⟨j - 64 * k, by omega⟩
            rcases HLW.out with ⟨_, hb⟩ | ⟨_, _, hb⟩
            · exact hb r (by omega)
            · exact hb r (by omega)
        have HA2 := Lib.hid hall
        clear hall
        go_wp2_with (go_at_call 33; refine (H1.out _ HT.out).mono ?_; rintro e w' ⟨rfl, rfl⟩)
        go_round
        case rel => exact ⟨k + 1, by omega, by go_num, HA2.out⟩
        case measure => simp [intOf]; omega
    · obtain rfl : k = L := by omega
      have hfin : ∀ j, j < n → S j = true := fun j hj => HALL.out j (by have := HL.out; omega) hj
      have HF := Lib.hid hfin
      clear hfin
      go_wp2
      go_ret2
      exact ⟨.inr ⟨HF.out, rfl⟩, rfl⟩

end Go.Proofs.YtfkhgdhfelfegaaDoor
