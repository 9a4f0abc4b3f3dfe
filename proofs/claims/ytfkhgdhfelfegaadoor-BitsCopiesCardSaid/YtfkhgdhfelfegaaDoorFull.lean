/- BitsFull. -/
import Derived.Test.YtfkhgdhfelfegaaDoorW
import Derived.Test.YtfkhgdhfelfegaaDoorK
namespace Go.Proofs.YtfkhgdhfelfegaaDoor
open Go.RowKit Bts

theorem wf_u16 {n : Int} (h : (Lit.int .u16 n).wf = true) : ∃ m : Nat, n = m ∧ m < 65536 := by
  have h' := h
  simp [Lit.wf, IntKind.min, IntKind.max, IntKind.bits, IntKind.signed] at h'
  exact ⟨n.toNat, by omega, by omega⟩

/-- All below k. -/
def upto (k : Nat) : Nat → Bool := fun j => decide (j < k)
theorem upto_low {k n : Nat} (h : k < n) : IsLow (upto k) n k := ⟨h, by simp [upto], fun j hj => by simp [upto, hj]⟩
theorem upto_zero : ∀ j, none_ j = upto 0 j := fun j => by simp [none_, upto]
theorem upto_ins {k n : Nat} (h : k < n) : ∀ j, ins (upto k) n (k : Int) j = upto (k + 1) j := fun j => by
  simp only [ins, upto]
  by_cases e : j = k
  · subst e; simp [h]
  · have : ¬ (j : Int) = (k : Int) := by omega
    simp only [this, decide_false, Bool.false_and, Bool.or_false, decide_eq_decide]; omega
theorem upto_again {k n : Nat} (h : k < n) : ∀ j, ins (upto (k + 1)) n (k : Int) j = upto (k + 1) j := fun j => by
  simp only [ins, upto]
  by_cases e : j = k
  · subst e; simp
  · have : ¬ (j : Int) = (k : Int) := by omega
    simp [this]
theorem upto_del (k : Nat) : ∀ j, del (upto (k + 1)) (k : Int) j = upto k j := fun j => by
  simp only [del, upto]
  by_cases e : j = k
  · subst e; simp
  · have h1 : ¬ (j : Int) = (k : Int) := by omega
    have h2 : j < k + 1 ↔ j < k := by omega
    simp [h1, h2]
theorem upto_gone (k : Nat) : ∀ j, del (upto k) (k : Int) j = upto k j := fun j => by
  simp only [del, upto]
  by_cases e : j = k
  · subst e; simp
  · have h1 : ¬ (j : Int) = (k : Int) := by omega
    simp [h1]
theorem upto_card : ∀ k n : Nat, k ≤ n → card (upto k) n = k := fun k n h => by
  obtain ⟨c, rfl⟩ : ∃ c, n = k + c := ⟨n - k, by omega⟩
  rw [card_add, card_zero c fun j _ => by simp [upto]]
  rw [card_congr (T := fun _ => true) k fun j hj => by simp [upto, hj]]
  have : ∀ k, card (fun _ => true) k = k := fun k => by
    induction k with
    | zero => rfl
    | succ k ih => simp only [card, ih]; rfl
  rw [this]; rfl

/-- What holds from round to round: the set, the table, and what was there before. -/
structure St (B p q n : Nat) (S : Nat → Bool) (w wr : World) : Prop where
  bs : Bs wr p q n S
  tab : Tab wr
  bel : Below B w wr
  lo : B ≤ q
  tb : 0 < B
  bw : B ≤ w.heap.size

theorem St.to {B p q n : Nat} {S T : Nat → Bool} {w wr w' : World} (h : St B p q n S w wr) (hb : Bs w' p q n T) (hg : wr.grownBy w' (some q)) : St B p q n T w w' :=
  ⟨hb, h.tab.grown hg (fun e => by injection e with e; have := h.lo; have := h.tb; omega), h.bel.grown hg (Nat.le_trans h.bw h.bel.size) (fun k e => by injection e with e; rw [← e]; exact h.lo), h.lo, h.tb, h.bw⟩
theorem St.same {B p q n : Nat} {S : Nat → Bool} {w wr w' : World} (h : St B p q n S w wr) (hb : Below wr.heap.size wr w') : St B p q n S w w' :=
  ⟨h.bs.below hb, h.tab.below hb, h.bel.trans (hb.mono (Nat.le_trans h.bw h.bel.size)), h.lo, h.tb, h.bw⟩
theorem St.congr {B p q n : Nat} {S T : Nat → Bool} {w wr : World} (h : St B p q n S w wr) (e : ∀ j, S j = T j) : St B p q n T w wr :=
  ⟨h.bs.congr e, h.tab, h.bel, h.lo, h.tb, h.bw⟩
theorem St.start {w w1 : World} {p q n : Nat} {S : Nat → Bool} (hT : Tab w) (hb : Bs w1 p q n S) (hq : w.heap.size ≤ q) (hbel : Below w.heap.size w w1) : St w.heap.size p q n S w w1 :=
  ⟨hb, hT.below hbel, hbel, hq, hT.lt, Nat.le_refl _⟩

theorem set_st (b : Bool) {B p q n : Nat} {i : Int} {S : Nat → Bool} {w wr : World} (h : St B p q n S w wr) (hb : setB S n i = b) :
    Calls Tryd.prog 18 #[.pointer (some ⟨p, 0, none⟩), .int .i64 i] wr fun e w' => e = .returned (.bool b) ∧ St B p q n (ins S n i) w w' := by
  refine (set_is b h.bs hb).mono ?_
  rintro e w' ⟨rfl, h1, h2⟩
  exact ⟨rfl, h.to h1 h2⟩
theorem clear_st (b : Bool) {B p q n : Nat} {i : Int} {S : Nat → Bool} {w wr : World} (h : St B p q n S w wr) (hb : hasB S n i = b) :
    Calls Tryd.prog 16 #[.pointer (some ⟨p, 0, none⟩), .int .i64 i] wr fun e w' => e = .returned (.bool b) ∧ St B p q n (del S i) w w' := by
  refine (clear_is b h.bs hb).mono ?_
  rintro e w' ⟨rfl, h1, h2⟩
  exact ⟨rfl, h.to h1 h2⟩
theorem has_st (b : Bool) {B p q n : Nat} {i : Int} {S : Nat → Bool} {w wr : World} (h : St B p q n S w wr) (hb : hasB S n i = b) :
    Calls Tryd.prog 12 #[.pointer (some ⟨p, 0, none⟩), .int .i64 i] wr fun e w' => e = .returned (.bool b) ∧ St B p q n S w w' := by
  refine (has_is b h.bs hb).mono ?_
  rintro e w' ⟨rfl, h1⟩
  exact ⟨rfl, h.same h1⟩
theorem works_st {B p q n : Nat} {S : Nat → Bool} {w wr : World} (h : St B p q n S w wr) : Calls Tryd.prog 9 #[] wr fun e w' => e = .returned (.bool true) ∧ St B p q n S w w' := by
  refine (works_any wr h.tab).mono ?_
  rintro e w' ⟨rfl, h1⟩
  exact ⟨rfl, h.same h1⟩

set_option maxRecDepth 20000 in
set_option maxHeartbeats 1000000 in
theorem full_any (a : Nat) (w : World) (_ha : a < 65536) (hT : Tab w) : Calls Tryd.prog 7 #[.int .u16 (a : Int)] w fun e W' => e = .returned (.bool true) ∧ Below w.heap.size w W' := by
  obtain ⟨m, hm⟩ : ∃ m, a % 3000 = m := ⟨_, rfl⟩
  have hm3 : m < 3000 := by omega
  have hmi : (a : Int) % 3000 = (m : Int) := by omega
  have hn := Lib.hid (new_some m w (by omega))
  have HT := Lib.hid hT
  clear hT hm
  go_enter Tryd.func7, Tryd.ntmps7
  go_wp2_with fail
  refine hn.out.mono ?_
  rintro e w1 ⟨p, q, rfl, hp, hq, hb, hbel⟩
  have hst := Lib.hid ((St.start HT.out hb hq hbel).congr upto_zero)
  clear hb hbel hp hq hn HT
  obtain ⟨B, hB⟩ : ∃ B, w.heap.size = B := ⟨_, rfl⟩
  rw [hB] at hst
  go_wp2_with fail
  go_loopw [6, 7, 8] (fun i _ _ wr => ∃ k : Nat, k ≤ m ∧ i = .int .i64 k ∧ Hid (St B p q m (upto k) w wr)) (fun i _ _ _ => m - (intOf i).toNat)
  case atStart => exact ⟨0, Nat.zero_le _, rfl, hst⟩
  case round =>
    clear hst
    obtain ⟨k, hk, rfl, hst⟩ := hrel
    by_cases hlt : k < m
    · have H1 := Lib.hid (low_is hst.out.bs hst.out.tab (upto_low hlt))
      have H2 := Lib.hid (set_st true (i := (k : Int)) hst.out (by simp [setB, hlt, upto]))
      go_wp2_with fail
      refine H1.out.mono ?_
      rintro e w' ⟨rfl, rfl⟩
      go_wp2_with fail
      refine H2.out.mono ?_
      rintro e w2 ⟨rfl, h2⟩
      have hst2 := h2.congr (upto_ins hlt)
      have H3 := Lib.hid (set_st false (i := (k : Int)) hst2 (by simp [setB, upto]))
      clear h2 hst2 H1 H2
      go_wp2_with fail
      refine H3.out.mono ?_
      rintro e w3 ⟨rfl, h3⟩
      have hst3 := Lib.hid (h3.congr (upto_again hlt))
      clear h3 H3
      go_wp2_with fail
      go_roundw
      case rel => exact ⟨k + 1, by omega, by go_num, hst3⟩
      case measure => simp [intOf]; omega
    · obtain rfl : k = m := by omega
      have H1 := Lib.hid (low_full hst.out.bs hst.out.tab (fun j hj => by simp [upto, hj]))
      have H2 := Lib.hid (count_is k hst.out.bs (upto_card k k (Nat.le_refl _)))
      go_wp2_with (first
        | (go_at_call 22; refine H1.out.mono ?_; rintro e w' ⟨rfl, rfl⟩)
        | (go_at_call 21; refine H2.out.mono ?_; rintro e w' ⟨rfl, rfl⟩))
      go_loopw [11, 12, 13] (fun i _ _ wr => ∃ r : Nat, r ≤ k ∧ i = .int .i64 ((r : Int) - 1) ∧ Hid (St B p q k (upto r) w wr)) (fun i _ _ _ => (intOf i + 1).toNat)
      case atStart => exact ⟨k, Nat.le_refl _, rfl, hst⟩
      case round =>
        clear hst H1 H2
        obtain ⟨r, hr, rfl, hst⟩ := hrel
        rcases Nat.eq_zero_or_pos r with h0 | h0
        · subst h0
          have H2 := Lib.hid (count_is 0 hst.out.bs (upto_card 0 k (Nat.zero_le _)))
          have H3 := Lib.hid (works_st hst.out)
          rw [show ((0 : Nat) : Int) - 1 = -1 from rfl]
          go_wp2_with (first
            | (go_at_call 21; refine H2.out.mono ?_; rintro e w' ⟨rfl, rfl⟩)
            | (go_at_call 9; refine H3.out.mono ?_; rintro e w' ⟨rfl, h3⟩; have HST := Lib.hid h3; clear h3))
          go_ret
          exact ⟨rfl, by rw [hB]; exact HST.out.bel⟩
        · obtain ⟨s, rfl⟩ : ∃ s, r = s + 1 := ⟨r - 1, by omega⟩
          have es : ((s + 1 : Nat) : Int) - 1 = (s : Int) := by omega
          rw [es]
          have H1 := Lib.hid (clear_st true (i := (s : Int)) hst.out (by simp [hasB, upto]; omega))
          clear es
          go_wp2_with fail
          refine H1.out.mono ?_
          rintro e w2 ⟨rfl, h2⟩
          have hst2 := h2.congr (upto_del s)
          have H2 := Lib.hid (clear_st false (i := (s : Int)) hst2 (by simp [hasB, upto]))
          clear h2 hst2 H1
          go_wp2_with fail
          refine H2.out.mono ?_
          rintro e w3 ⟨rfl, h3⟩
          have hst3 := Lib.hid (h3.congr (upto_gone s))
          have H3 := Lib.hid (low_is hst3.out.bs hst3.out.tab (upto_low (by omega)))
          clear h3 H2
          go_wp2_with fail
          refine H3.out.mono ?_
          rintro e w' ⟨rfl, rfl⟩
          go_wp2_with fail
          go_roundw
          case rel => exact ⟨s, by omega, rfl, hst3⟩
          case measure => simp [intOf]

end Go.Proofs.YtfkhgdhfelfegaaDoor
