/- The reference's sets. -/
import Derived.Test.YtfkhgdhfelfegaaDoorP
namespace Go.Proofs.YtfkhgdhfelfegaaDoor
open Go.RowKit Bts

/-- A reference's set, as it lies in blocks rp (its head) and rq (what is in). -/
structure Rs (w : World) (rp rq n : Nat) (S : Nat → Bool) : Prop where
  mem : ∃ (A : Option Addr) (c : Nat), w.cell? ⟨rp, 0, none⟩ = some (.slice A n c) ∧ (n = 0 ∨ A = some ⟨rq, 0, none⟩)
  at_ : ∀ i, i < n → w.cell? ⟨rq, i, none⟩ = some (.bool (S i)) ∧ w.frozen? ⟨rq, i, none⟩ = false
  top : n ≤ 65536
  out : ∀ j, n ≤ j → S j = false
  ne : rp ≠ rq

theorem Rs.lt {w : World} {rp rq n : Nat} {S : Nat → Bool} (h : Rs w rp rq n S) : rp < w.heap.size := by
  obtain ⟨A, c, h1, _⟩ := h.mem
  exact World.block_lt_of_cell? w _ h1
theorem Rs.kept {w w' : World} {rp rq n : Nat} {S : Nat → Bool} (h : Rs w rp rq n S) {row : Option Nat} (hg : w.grownBy w' row) (hp : some rp ≠ row) (hq : some rq ≠ row) : Rs w' rp rq n S := by
  obtain ⟨A, c, h1, h2⟩ := h.mem
  refine ⟨⟨A, c, hg.cell h1 hp, h2⟩, fun i hi => ?_, h.top, h.out, h.ne⟩
  obtain ⟨h3, h4⟩ := h.at_ i hi
  have hlt := World.block_lt_of_cell? w _ h3
  exact ⟨hg.cell h3 hq, (World.frozen?_of_block (a := ⟨rq, i, none⟩) (hg.block rq hlt hq)).trans h4⟩
theorem Rs.below {w w' : World} {rp rq n : Nat} {S : Nat → Bool} (h : Rs w rp rq n S) (hb : Below w.heap.size w w') : Rs w' rp rq n S :=
  h.kept (below_grown hb none) (by simp) (by simp)
theorem Rs.congr {w : World} {rp rq n : Nat} {S T : Nat → Bool} (h : Rs w rp rq n S) (e : ∀ j, S j = T j) : Rs w rp rq n T := by
  obtain rfl : S = T := funext e
  exact h
theorem Rs.put {w : World} {rp rq n i : Nat} {S T : Nat → Bool} (h : Rs w rp rq n S) (_hi : i < n) (b : Bool) (h1 : T i = b) (h2 : ∀ j, j ≠ i → T j = S j) : Rs (w.setCell ⟨rq, i, none⟩ (.bool b)) rp rq n T := by
  obtain ⟨A, c, g1, g2⟩ := h.mem
  refine ⟨⟨A, c, (World.cell?_setCell_other w _ _ _ (fun e => h.ne (by injection e with e; exact e.symm))).trans g1, g2⟩, fun j hj => ?_, h.top, fun j hj => ?_, h.ne⟩
  · obtain ⟨h3, h4⟩ := h.at_ j hj
    by_cases e : j = i
    · subst e
      exact ⟨by rw [h1]; exact World.cell?_setCell_same' w _ _ (by rw [h3]; rfl), by rw [World.frozen?_setCell]; exact h4⟩
    · refine ⟨?_, by rw [World.frozen?_setCell]; exact h4⟩
      rw [h2 j e]
      exact (World.cell?_setCell_other w _ _ _ (fun e' => e (by injection e' with _ e'; exact e'.symm))).trans h3
  · rw [h2 j (by omega)]; exact h.out j hj

theorem Tryd.infoB : (Tryd.prog.info? 4).map (fun i => (i.zero, i.size, i.bytes)) = some (some (.bool false), 1, 1) := by kernel_rfl
theorem run_mkB (n : Nat) (hn : n ≤ 65536) (w : World) :
    (Instr.makeSlice 49 (.int .i64 (n : Int)) (.int .i64 (n : Int))).run Tryd.prog w = .ok (.slice (some ⟨w.heap.size, 0, none⟩) n n) (w.alloc (.cells (madeCells #[.bool false] n) 4)) := by
  obtain ⟨i0, hi, hz0, hz1, hz2⟩ := info_parts Tryd.infoB
  have h := run_make (P := Tryd.prog) w 49 4 i0 (.bool false) Tryd.underlying49 hi hz0 .i64 .i64 (n : Int) (n : Int) (by omega) (by omega) (by rw [hz2]; omega) (by omega)
  simpa [hz1, Value.cells] using h

theorem rs_new (w : World) (n : Nat) (hn : n ≤ 65536) :
    Rs ((w.alloc (.cells (madeCells #[.bool false] n) 4)).alloc (.cells #[.slice (some ⟨w.heap.size, 0, none⟩) n n] 51)) (w.heap.size + 1) w.heap.size n none_ := by
  have h1 := (Blk.new w 4 (madeCells #[.bool false] n)).alloc (.cells #[.slice (some ⟨w.heap.size, 0, none⟩) n n] 51)
  have h2 := Blk.new (w.alloc (.cells (madeCells #[.bool false] n) 4)) 51 #[.slice (some ⟨w.heap.size, 0, none⟩) n n]
  rw [World.size_alloc] at h2
  refine ⟨⟨_, n, h2.cell 0, .inr rfl⟩, fun i hi => ⟨?_, h1.frozen i⟩, hn, fun _ _ => rfl, by omega⟩
  rw [h1.cell i]
  simp [madeCells, hi, none_, Nat.mod_one]

set_option maxHeartbeats 400000 in
theorem rnew_some (n : Nat) (w : World) (hn : n ≤ 65536) :
    Calls Tryd.prog 24 #[.int .i64 (n : Int)] w fun e w' => ∃ p q, e = .returned (.tuple #[.pointer (some ⟨p, 0, none⟩), .int .i64 0]) ∧ w.heap.size ≤ p ∧ w.heap.size ≤ q ∧ Rs w' p q n none_ ∧ Below w.heap.size w w' := by
  have hmk := run_mkB n hn w
  have hb := Lib.hid (rs_new w n hn)
  go_enter Tryd.func24, Tryd.ntmps24
  go_wp2
  go_ret2
  exact ⟨_, _, rfl, Nat.le_succ _, Nat.le_refl _, hb.out, ((Below.refl _ w).alloc (Nat.le_refl _) _).alloc (by simp) _⟩
theorem rnew_none (n : Int) (w : World) (hn : n < 0 ∨ 65536 < n) :
    Calls Tryd.prog 24 #[.int .i64 n] w fun e w' => e = .returned (.tuple #[.pointer none, .int .i64 1]) ∧ w = w' := by
  by_cases h : n < 0
  · go_enter Tryd.func24, Tryd.ntmps24
    go_wp2
    go_ret2
    exact ⟨rfl, rfl⟩
  · have h2 : 65536 < n := by omega
    go_enter Tryd.func24, Tryd.ntmps24
    go_wp2
    go_ret2
    exact ⟨rfl, rfl⟩

set_option maxHeartbeats 400000 in
theorem rhas_any (p q n : Nat) (i : Int) (S : Nat → Bool) (w : World) (h : Rs w p q n S) :
    Calls Tryd.prog 13 #[.pointer (some ⟨p, 0, none⟩), .int .i64 i] w fun e w' => e = .returned (.bool (hasB S n i)) ∧ w = w' := by
  obtain ⟨A, c, h1, h2⟩ := h.mem
  by_cases h0 : 0 ≤ i
  · by_cases hi : i < n
    · obtain ⟨i, rfl⟩ : ∃ k : Nat, i = k := ⟨i.toNat, by omega⟩
      have hin : i < n := by omega
      obtain rfl : A = some ⟨q, 0, none⟩ := by rcases h2 with h2 | h2
                                               · omega
                                               · exact h2
      have hc := (h.at_ i hin).1
      rw [hasB_in S n i hin]
      generalize S i = b at *
      clear h h2
      go_enter Tryd.func13, Tryd.ntmps13
      go_wp2
      go_ret
      exact ⟨rfl, rfl⟩
    · rw [hasB_out S n i (by omega)]
      have hd : decide (i < (n : Int)) = false := by simpa using hi
      clear h h2
      go_enter Tryd.func13, Tryd.ntmps13
      go_wp2
      go_ret
      exact ⟨rfl, rfl⟩
  · rw [hasB_out S n i (by omega)]
    have hd : decide (0 ≤ i) = false := by simpa using h0
    clear h h2 h1
    go_enter Tryd.func13, Tryd.ntmps13
    go_wp2
    go_ret
    exact ⟨rfl, rfl⟩

set_option maxHeartbeats 400000 in
theorem rset_any (p q n : Nat) (i : Int) (S : Nat → Bool) (w : World) (h : Rs w p q n S) :
    Calls Tryd.prog 19 #[.pointer (some ⟨p, 0, none⟩), .int .i64 i] w fun e w' => e = .returned (.bool (setB S n i)) ∧ Rs w' p q n (ins S n i) ∧ w.grownBy w' (some q) := by
  obtain ⟨A, c, h1, h2⟩ := h.mem
  by_cases hi : 0 ≤ i ∧ i < n
  · obtain ⟨i, rfl⟩ : ∃ k : Nat, i = k := ⟨i.toNat, by omega⟩
    have hin : i < n := by omega
    obtain rfl : A = some ⟨q, 0, none⟩ := by rcases h2 with h2 | h2
                                             · omega
                                             · exact h2
    obtain ⟨hc, hf⟩ := h.at_ i hin
    have hput := Lib.hid (h.put hin true (T := ins S n (i : Int)) (by simp [ins, hin]) (fun j hj => by
      have : ¬ (j : Int) = (i : Int) := by omega
      simp [ins, this]))
    have hsame : S i = true → Hid (Rs w p q n (ins S n (i : Int))) := fun hs => Lib.hid (h.congr fun j => by
      by_cases e : j = i
      · subst e; simp [ins, hs]
      · have : ¬ (j : Int) = (i : Int) := by omega
        simp [ins, this])
    have hr : setB S n (i : Int) = !S i := by simp [setB, hin]
    rw [hr]
    clear h2 hi hr h
    cases hs : S i
    · rw [hs] at hc
      clear hsame
      go_enter Tryd.func19, Tryd.ntmps19
      go_wp2
      go_ret
      exact ⟨rfl, hput.out, grown_set _ _ _ _⟩
    · rw [hs] at hc
      have HSAME := hsame hs
      clear hsame hput
      go_enter Tryd.func19, Tryd.ntmps19
      go_wp2
      go_ret
      exact ⟨rfl, HSAME.out, World.grownBy.refl w _⟩
  · have hr : setB S n i = false := by
      simp only [setB, Bool.and_eq_false_iff, decide_eq_false_iff_not]; omega
    have HT := Lib.hid (h.congr (T := ins S n i) fun j => by
      have : (decide ((j : Int) = i) && decide (j < n)) = false := by simp only [Bool.and_eq_false_iff, decide_eq_false_iff_not]; omega
      simp [ins, this])
    rw [hr]
    clear h h2 hr
    by_cases h0 : i < 0
    · clear h1
      go_enter Tryd.func19, Tryd.ntmps19
      go_wp2
      go_ret
      exact ⟨rfl, HT.out, World.grownBy.refl w _⟩
    · have h' : (n : Int) ≤ i := by omega
      have h3 : 0 ≤ i := by omega
      go_enter Tryd.func19, Tryd.ntmps19
      go_wp2
      go_ret
      exact ⟨rfl, HT.out, World.grownBy.refl w _⟩

set_option maxHeartbeats 400000 in
theorem rclear_any (p q n : Nat) (i : Int) (S : Nat → Bool) (w : World) (h : Rs w p q n S) :
    Calls Tryd.prog 17 #[.pointer (some ⟨p, 0, none⟩), .int .i64 i] w fun e w' => e = .returned (.bool (hasB S n i)) ∧ Rs w' p q n (del S i) ∧ w.grownBy w' (some q) := by
  have H1 := Lib.hid (rhas_any p q n i S w h)
  obtain ⟨A, c, h1, h2⟩ := h.mem
  by_cases hr : hasB S n i = true
  · have hr' := hr
    simp only [hasB, Bool.and_eq_true, decide_eq_true_eq] at hr'
    obtain ⟨⟨ha, hb⟩, hS⟩ := hr'
    obtain ⟨i, rfl⟩ : ∃ k : Nat, i = k := ⟨i.toNat, by omega⟩
    have hin : i < n := by omega
    obtain rfl : A = some ⟨q, 0, none⟩ := by rcases h2 with h2 | h2
                                             · omega
                                             · exact h2
    obtain ⟨hc, hf⟩ := h.at_ i hin
    have hput := Lib.hid (h.put hin false (T := del S (i : Int)) (by simp [del]) (fun j hj => by
      have : ¬ (j : Int) = (i : Int) := by omega
      simp [del, this]))
    rw [hr] at H1 ⊢
    clear h h2 hr hS
    go_enter Tryd.func17, Tryd.ntmps17
    go_wp2_with (go_at_call 13; refine H1.out.mono ?_; rintro e w' ⟨rfl, rfl⟩)
    go_ret
    exact ⟨rfl, hput.out, grown_set _ _ _ _⟩
  · have hr' : hasB S n i = false := by simpa using hr
    have ho := h.out
    have HT := Lib.hid (h.congr (T := del S i) fun j => by
      by_cases e : (j : Int) = i
      · subst e
        by_cases hj : j < n
        · rw [hasB_in S n j hj] at hr'; simp [del, hr']
        · simp [del, ho j (by omega)]
      · simp [del, e])
    rw [hr'] at H1 ⊢
    clear h h1 h2 hr hr' ho
    go_enter Tryd.func17, Tryd.ntmps17
    go_wp2_with (go_at_call 13; refine H1.out.mono ?_; rintro e w' ⟨rfl, rfl⟩)
    go_ret
    exact ⟨rfl, HT.out, World.grownBy.refl w _⟩

set_option maxHeartbeats 400000 in
theorem rcount_any (p q n : Nat) (S : Nat → Bool) (w : World) (h : Rs w p q n S) :
    Calls Tryd.prog 26 #[.pointer (some ⟨p, 0, none⟩)] w fun e w' => e = .returned (.int .i64 (card S n : Int)) ∧ w = w' := by
  obtain ⟨A, c, h1, h2⟩ := h.mem
  have HA := Lib.hid h.at_
  have H2 := Lib.hid h2
  have hn := h.top
  clear h h2
  go_enter Tryd.func26, Tryd.ntmps26
  go_wp2
  go_loop [3, 4] (fun x i => ∃ k : Nat, k ≤ n ∧ i = .int .i64 k ∧ x = .int .i64 (card S k : Int)) (fun _ i => n - (intOf i).toNat)
  case atStart => exact ⟨0, Nat.zero_le _, rfl, rfl⟩
  case round =>
    obtain ⟨k, hk, rfl, rfl⟩ := hrel
    by_cases hlt : k < n
    · obtain rfl : A = some ⟨q, 0, none⟩ := by rcases H2.out with h2 | h2
                                               · omega
                                               · exact h2
      have hc := (HA.out k hlt).1
      have hcard : card S (k + 1) = card S k + (S k).toNat := rfl
      have hle := card_le S k
      generalize card S k = v at *
      cases hs : S k
      · rw [hs] at hc hcard
        have HC := Lib.hid hcard
        clear hcard hs
        go_wp2
        go_round
        case rel => exact ⟨k + 1, by omega, by go_num, by rw [HC.out]; rfl⟩
        case measure => simp [intOf]; omega
      · rw [hs] at hc hcard
        have HC := Lib.hid hcard
        clear hcard hs
        go_wp2
        go_round
        case rel => exact ⟨k + 1, by omega, by go_num, by rw [HC.out]; rfl⟩
        case measure => simp [intOf]; omega
    · obtain rfl : k = n := by omega
      go_wp2
      go_ret
      exact ⟨rfl, rfl⟩

set_option maxHeartbeats 400000 in
theorem rlow_any (p q n : Nat) (S : Nat → Bool) (w : World) (h : Rs w p q n S) :
    Calls Tryd.prog 25 #[.pointer (some ⟨p, 0, none⟩)] w (LowTold S n w) := by
  obtain ⟨A, c, h1, h2⟩ := h.mem
  have HA := Lib.hid h.at_
  have H2 := Lib.hid h2
  have hn := h.top
  clear h h2
  go_enter Tryd.func25, Tryd.ntmps25
  go_wp2
  go_loop [4] (fun i => ∃ k : Nat, k ≤ n ∧ i = .int .i64 k ∧ Hid (∀ j, j < k → S j = true)) (fun i => n - (intOf i).toNat)
  case atStart => exact ⟨0, Nat.zero_le _, rfl, Lib.hid (fun j hj => by omega)⟩
  case round =>
    obtain ⟨k, hk, rfl, hall⟩ := hrel
    by_cases hlt : k < n
    · obtain rfl : A = some ⟨q, 0, none⟩ := by rcases H2.out with h2 | h2
                                               · omega
                                               · exact h2
      have hc := (HA.out k hlt).1
      cases hs : S k
      · rw [hs] at hc
        have HL : Hid (IsLow S n k) := Lib.hid ⟨hlt, hs, hall.out⟩
        clear hs
        go_wp2
        go_ret2
        exact ⟨.inl ⟨_, HL.out, rfl⟩, rfl⟩
      · rw [hs] at hc
        have HL : Hid (∀ j, j < k + 1 → S j = true) := Lib.hid (fun j hj => by
          by_cases e : j = k
          · subst e; exact hs
          · exact hall.out j (by omega))
        clear hs
        go_wp2
        go_round
        case rel => exact ⟨k + 1, by omega, by go_num, HL⟩
        case measure => simp [intOf]; omega
    · obtain rfl : k = n := by omega
      go_wp2
      go_ret2
      exact ⟨.inr ⟨hall.out, rfl⟩, rfl⟩

end Go.Proofs.YtfkhgdhfelfegaaDoor
