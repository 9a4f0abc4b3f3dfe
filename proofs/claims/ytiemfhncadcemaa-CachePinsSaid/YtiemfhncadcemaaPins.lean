/- CachePins. -/
import Derived.Test.YtiemfhncadcemaaDa
namespace Go.Proofs.Ytiemfhncadcemaa
open Go.RowKit Dsk
def pinP (times i k : Nat) : Nat → Nat := fun j => if j < i then times else if j = i then k else 0
theorem pinP_next (times i k : Nat) : putP (pinP times i k) i (pinP times i k i + 1) = pinP times i (k + 1) := by
  funext j
  unfold putP pinP
  by_cases e : j = i
  · subst e; simp
  · rw [if_neg e]
    by_cases h : j < i
    · rw [if_pos h, if_pos h]
    · rw [if_neg h, if_neg h, if_neg e, if_neg e]
theorem pinP_end (times i : Nat) : pinP times i times = pinP times (i + 1) 0 := by
  funext j
  unfold pinP
  by_cases h : j < i
  · rw [if_pos h, if_pos (by omega)]
  · rw [if_neg h]
    by_cases e : j = i
    · rw [if_pos e, if_pos (by omega)]
    · rw [if_neg e, if_neg (by omega)]; split <;> rfl
def unP (n times k : Nat) : Nat → Nat := fun j => if j = 0 then k else if j < n then times else 0
theorem unP_start (n times : Nat) (hn : 0 < n) : pinP times n 0 = unP n times times := by
  funext j
  unfold pinP unP
  by_cases e : j = 0
  · rw [if_pos e, if_pos (by omega)]
  · rw [if_neg e]
    by_cases h : j < n
    · rw [if_pos h, if_pos h]
    · rw [if_neg h, if_neg h]; split <;> rfl
theorem unP_next (n times k : Nat) : putP (unP n times (k + 1)) 0 k = unP n times k := by
  funext j
  unfold putP unP
  by_cases e : j = 0
  · rw [if_pos e, if_pos e]
  · rw [if_neg e, if_neg e, if_neg e]
/-- All of the pinned frames. -/
structure AllP (n times k : Nat) (L : List Fr) : Prop where
  pn : Pn (unP n times k) L
  len : L.length = n
  lt : ∀ x ∈ L, x.s < n
  has : ∀ i, i < n → ∃ x ∈ L, x.s = i
theorem AllP.pos {n times k : Nat} {L : List Fr} (h : AllP n times k L) (ht : 0 < times) (hk : 0 < k) : ∀ x ∈ L, 0 < x.pins := fun x hx => by
  rw [h.pn.at_ x hx]
  unfold unP
  have := h.lt x hx
  split
  · exact hk
  · exact ht
theorem AllP.unpin {n times k : Nat} {L : List Fr} (h : AllP n times (k + 1) L) {x : Fr} (hx : x ∈ L) (hs : x.s = 0) : AllP n times k (updL { x with pins := k } L) := by
  have hex : ∃ z ∈ L, z.s = ({ x with pins := k } : Fr).s := ⟨x, hx, rfl⟩
  have hp := h.pn.upd hex
  have e : putP (unP n times (k + 1)) ({ x with pins := k } : Fr).s ({ x with pins := k } : Fr).pins = unP n times k := by
    show putP (unP n times (k + 1)) x.s k = _
    rw [hs, unP_next]
  rw [e] at hp
  refine ⟨hp, by rw [updL_len]; exact h.len, fun z hz => ?_, fun i hi => ?_⟩
  · rcases updL_mem hz with ⟨rfl, _⟩ | ⟨hz, _⟩
    · exact h.lt x hx
    · exact h.lt z hz
  · obtain ⟨z, hz, e⟩ := h.has i hi
    refine ⟨_, List.mem_map.2 ⟨z, hz, rfl⟩, ?_⟩
    rw [updL_s]; exact e
/-- Between the rounds. -/
def PinI (w wr : World) (g dg n times i k : Nat) : Prop := ∃ t D L, t ≤ i * 4 + k ∧ CS w wr (fun _ => False) g dg 20 n t D L ∧ Pn (pinP times i k) L
def UnI (w wr : World) (g dg n times k : Nat) : Prop := ∃ t D L, t ≤ 48 ∧ CS w wr (fun _ => False) g dg 20 n t D L ∧ AllP n times k L
theorem PinI.nostuck {n times i k : Nat} {L : List Fr} (hp : Pn (pinP times i k) L) (hn : L.Pairwise fun x y => x.s ≠ y.s) (hi : i < n) : ¬ Stuck n L i := fun hs => by
  have := pigle i hn (fun x hx => by
    have h0 := hs.1.2 x hx
    have h1 := hs.2 x hx
    rw [hp.at_ x hx] at h0
    unfold pinP at h0
    by_cases e : x.s < i
    · exact e
    · rw [if_neg e, if_neg h1] at h0; exact absurd rfl h0)
  have := hs.1.1
  omega
theorem PinI.all {w wr : World} {g dg n times : Nat} (h : PinI w wr g dg n times n 0) (hn : 0 < n ∧ n ≤ 12) (ht : 0 < times) : UnI w wr g dg n times times := by
  obtain ⟨t, D, L, h1, h2, h3⟩ := h
  have hh : ∀ i, i < n → ∃ x ∈ L, x.s = i := fun i hi => h3.has i (by unfold pinP; rw [if_pos hi]; omega)
  obtain ⟨e1, e2⟩ := pig n h2.st.nodup h2.st.len hh
  rw [unP_start n times hn.1] at h3
  exact ⟨t, D, L, by omega, h2, h3, e1, e2, hh⟩
set_option maxRecDepth 20000 in
set_option maxHeartbeats 2000000 in
theorem pins_any (a b : Nat) (w : World) (ha : a < 256) (hb : b < 256) :
    Calls Try.prog 5 #[.int .u8 (a : Int), .int .u8 (b : Int)] w fun e w' => e = .returned (.bool true) ∧ Below w.heap.size w w' := by
  have H1 := Lib.hid (Run.new 20 w w (fun _ => False) (fun k h => h.elim) (Below.refl _ _) ⟨by omega, by omega⟩)
  obtain ⟨n, hn⟩ : ∃ n, 1 + a % 12 = n := ⟨_, rfl⟩
  obtain ⟨times, ht⟩ : ∃ times, 1 + b % 4 = times := ⟨_, rfl⟩
  have hn1 : 1 + (a : Int) % 12 = (n : Int) := by rw [← hn]; omega
  have ht1 : 1 + (b : Int) % 4 = (times : Int) := by rw [← ht]; omega
  have hn12 : 0 < n ∧ n ≤ 12 := by omega
  have ht4 : 0 < times ∧ times ≤ 4 := by omega
  clear hn ht
  go_enter Try.func5, Try.ntmps5
  go_wp2_with fail
  refine H1.out.mono ?_
  rintro e w1 ⟨dg, rfl, hr, hb1⟩
  have H2 := Lib.hid (CS.new 20 n ⟨by omega, by omega⟩ ⟨by omega, by omega⟩ hr)
  clear hr hb1 H1
  go_wp2_with fail
  refine H2.out.mono ?_
  rintro e w2 ⟨g, rfl, _, hc, hb2⟩
  have HI0 : Hid (PinI w w2 g dg n times 0 0) := Lib.hid ⟨0, _, _, Nat.le_refl _, hc, by
    have e : pinP times 0 0 = fun _ => 0 := by funext j; unfold pinP; simp
    rw [e]; exact Pn.nil⟩
  clear hc hb2 H2 hn1 ht1
  go_wp2_with fail
  go_loopw [10, 11] (fun iv _ wr => ∃ i : Nat, i ≤ n ∧ iv = .int .i64 (i : Int) ∧ Hid (PinI w wr g dg n times i 0)) (fun iv _ _ => n - (intOf iv).toNat)
  case atStart => exact ⟨0, Nat.zero_le _, rfl, HI0⟩
  case round =>
    obtain ⟨w9, rfl⟩ : ∃ w9, w9 = wr := ⟨_, rfl⟩
    clear HI0
    obtain ⟨i, hi, rfl, hI⟩ := hrel
    by_cases hlt : i < n
    · have hd : decide ((i : Int) < (n : Int)) = true := by simpa using hlt
      go_wp2_with fail
      go_loopw [11] (fun kv wr => ∃ k : Nat, k ≤ times ∧ kv = .int .i64 (k : Int) ∧ Hid (PinI w wr g dg n times i k)) (fun kv _ => times - (intOf kv).toNat)
      case atStart => exact ⟨0, Nat.zero_le _, rfl, hI⟩
      case round =>
        clear hI
        obtain ⟨k, hk, rfl, hI⟩ := hrel
        by_cases hlk : k < times
        · have hdk : decide ((k : Int) < (times : Int)) = true := by simpa using hlk
          obtain ⟨t, D, L, h1, h2, h3⟩ := hI.out
          have H3 := Lib.hid (h2.pin (s := i) (by omega) (by omega))
          have HN := Lib.hid (PinI.nostuck h3 h2.st.nodup hlt)
          have HF := Lib.hid (And.intro h1 (And.intro h2 h3))
          clear hI h1 h2 h3
          go_wp2_with fail
          refine H3.out.mono ?_
          rintro e w3 (⟨rfl, hs, _⟩ | ⟨D', L', y, rfl, hb, hc, _⟩)
          · exact absurd hs HN.out
          have hst := hb.sta HF.out.2.1.st (by omega) (by omega)
          have hp := HF.out.2.2.pinned hb hst.2.2.2.1
          rw [pinP_next] at hp
          have HI2 : Hid (PinI w w3 g dg n times i (k + 1)) := Lib.hid ⟨t + 1, D', _, by have := HF.out.1; omega, hc, hp⟩
          clear hb hc hst hp H3 HN
          go_wp2_with fail
          go_roundw
          case rel => exact ⟨k + 1, by omega, by go_num, HI2⟩
          case measure => simp [intOf]; omega
        · obtain rfl : times = k := by omega
          have hdk : decide ((times : Int) < (times : Int)) = false := by simp
          have HI2 : Hid (PinI w wr g dg n times (i + 1) 0) := Lib.hid (by
            obtain ⟨t, D, L, h1, h2, h3⟩ := hI.out
            rw [pinP_end] at h3
            exact ⟨t, D, L, by omega, h2, h3⟩)
          clear hI
          go_wp2_with fail
          go_roundw
          case rel => exact ⟨i + 1, by omega, by go_num, HI2⟩
          case measure => simp [intOf]; omega
    · obtain rfl : n = i := by omega
      have hd : decide ((n : Int) < (n : Int)) = false := by simp
      have HU : Hid (UnI w w9 g dg n times times) := Lib.hid (hI.out.all hn12 ht4.1)
      clear hI
      go_wp2_with fail
      go_loopw [12, 13, 14, 15, 16, 17, 18, 19] (fun kv _ _ _ _ _ _ _ wr => ∃ k : Nat, k ≤ times ∧ kv = .int .i64 (k : Int) ∧ Hid (UnI w wr g dg n times k)) (fun kv _ _ _ _ _ _ _ _ => (intOf kv).toNat)
      case atStart => exact ⟨times, Nat.le_refl _, rfl, HU⟩
      case round =>
        clear HU
        obtain ⟨k, hk, rfl, hU⟩ := hrel
        obtain ⟨t, D, L, h1, h2, h3⟩ := hU.out
        have hh := h3.has 0 (by omega)
        obtain ⟨x0, hx0, hs0⟩ := hh
        by_cases hk0 : 0 < k
        · have hd : decide ((k : Int) > 0) = true := by simp; omega
          obtain ⟨k1, hk1⟩ : ∃ k1, k = k1 + 1 := ⟨k - 1, by omega⟩
          have hkw : (k : Int) - 1 = (k1 : Int) := by omega
          have hpos := h3.pos ht4.1 hk0
          have H3 := Lib.hid (h2.read (s := 15) (by omega) (by omega))
          have HF := Lib.hid (And.intro h1 (And.intro h3 (And.intro hx0 (And.intro hs0 (And.intro hpos hk1)))))
          clear hU h1 h2 h3 hx0 hs0 hpos hk1
          go_wp2_with fail
          refine H3.out.mono ?_
          rintro e w3 (⟨rfl, _, hc, _⟩ | ⟨D', L', y, q, c, rfl, hb, _⟩)
          case inr =>
            rcases hb with ⟨x, hx, e, _⟩ | ⟨_, L1, hr, _⟩
            · have := HF.out.2.1.lt x hx; omega
            · rcases hr with ⟨hl, _⟩ | ⟨_, x, hx, e, _⟩
              · have := HF.out.2.1.len; omega
              · have := HF.out.2.2.2.2.1 x hx; omega
          have H4 := Lib.hid (hc.evict 0 (by omega) (fun e => by have h9 := HF.out.2.2.1; rw [e] at h9; cases h9) (by have := HF.out.1; omega))
          clear hc H3
          go_wp2_with fail
          refine H4.out.mono ?_
          rintro e w4 ⟨x, hx, ⟨_, rfl, hc, _⟩ | ⟨h0, _⟩⟩
          case inr => have := HF.out.2.2.2.2.1 x hx; omega
          have H5 := hc.held
          have hcp : L.countP (fun x => decide (0 < x.pins)) = n := by rw [List.countP_eq_length.2 (fun z hz => by have := HF.out.2.2.2.2.1 z hz; simpa using this), HF.out.2.1.len]
          rw [hcp, HF.out.2.1.len] at H5
          replace H5 := Lib.hid H5
          have HC := Lib.hid hc
          obtain ⟨dn, hdn⟩ : ∃ dn, L.countP (fun x => x.dirty) = dn := ⟨_, rfl⟩
          rw [hdn] at H5
          clear hc hcp hx H4 hdn
          go_wp2_with fail
          refine H5.out.mono ?_
          rintro e w5 ⟨rfl, hb5⟩
          have hc5 := HC.out.below hb5
          have H6 := hc5.drop_pin HF.out.2.2.1 (HF.out.2.2.2.2.1 x0 HF.out.2.2.1)
          have hp0 : x0.pins = k1 + 1 := by
            rw [HF.out.2.1.pn.at_ x0 HF.out.2.2.1, HF.out.2.2.2.1]
            unfold unP
            rw [if_pos rfl]; exact HF.out.2.2.2.2.2
          have H7 := hc5.unpin HF.out.2.2.1 hp0
          have hall : AllP n times k1 (updL { x0 with pins := k1 } L) := by
            have h9 := HF.out.2.1
            rw [HF.out.2.2.2.2.2] at h9
            exact h9.unpin HF.out.2.2.1 HF.out.2.2.2.1
          obtain ⟨L2, hL2⟩ : ∃ L2, updL { x0 with pins := k1 } L = L2 := ⟨_, rfl⟩
          rw [hL2] at H7 hall
          have HALL := Lib.hid hall
          clear hL2 hall
          rw [HF.out.2.2.2.1] at H6 H7
          replace H6 := Lib.hid H6
          replace H7 := Lib.hid H7
          have hnn : ((n : Int) != (n : Int)) = false := by simp
          clear hb5 hc5 hp0 H5 HC
          go_wp2_with (first
            | (go_at_call 22; refine H6.out.mono ?_; rintro e w' ⟨rfl, rfl⟩)
            | fail)
          refine H7.out.mono ?_
          rintro e w6 ⟨rfl, hc, _⟩
          have HU2 : Hid (UnI w w6 g dg n times k1) := Lib.hid ⟨t, D, _, HF.out.1, hc, HALL.out⟩
          have HK1 := Lib.hid HF.out.2.2.2.2.2
          clear hc HF H6 H7
          go_wp2_with fail
          go_roundw
          case rel => exact ⟨k1, by have := HK1.out; omega, by go_num, HU2⟩
          case measure => have := HK1.out; simp [intOf]; omega
        · have hd : decide ((k : Int) > 0) = false := by simp; omega
          have hk00 : k = 0 := by omega
          have hp0 : x0.pins = 0 := by
            rw [h3.pn.at_ x0 hx0, hs0]
            unfold unP
            rw [if_pos rfl]; exact hk00
          have H3 := Lib.hid (h2.read (s := 15) (by omega) (by omega))
          have HF := Lib.hid (And.intro h3 (And.intro hx0 (And.intro hp0 hk00)))
          clear hU h1 h2 h3 hx0 hs0 hp0 hk00
          go_wp2_with fail
          refine H3.out.mono ?_
          rintro e w3 (⟨rfl, hs, _⟩ | ⟨D', L', y, q, c, rfl, hb, _, _, hc, _⟩)
          · exact absurd HF.out.2.2.1 (hs.1.2 x0 HF.out.2.1)
          have hp := (HF.out.1.pn.brought hb).1
          have H4 := Lib.hid (hc.unpin_none (i := 0) (by decide) (fun x hx e => by
            rw [hp.at_ x hx]
            unfold unP
            rw [if_pos (by omega)]; exact HF.out.2.2.2))
          have H5 := Lib.hid (works_any w3)
          have HB := Lib.hid hc.bel
          clear hp hb hc H3 HF
          go_wp2_with (first
            | (go_at_call 23; refine H4.out.mono ?_; rintro e w' ⟨rfl, rfl⟩)
            | fail)
          refine H5.out.mono ?_
          rintro e w6 ⟨rfl, hb6⟩
          have HB6 := Lib.hid (HB.out.trans (hb6.mono HB.out.size))
          clear hb6
          go_wp2_with fail
          go_ret
          exact ⟨rfl, HB6.out⟩
end Go.Proofs.Ytiemfhncadcemaa
