/- Read. -/
import Derived.Test.YtiemfhncadcemaaH
namespace Go.Proofs.Ytiemfhncadcemaa
open Go.RowKit Dsk

theorem read_nil (i : Int) (w : World) : Calls Try.prog 51 #[.pointer none, .int .i64 i] w fun e w' => e = .returned (.tuple #[.slice none 0 0, .int .i64 2]) ∧ w = w' := by
  go_enter Try.func51, Try.ntmps51
  go_wp2_with (go_at_call 45; refine (refuses_nil _ _).mono ?_; rintro e w' ⟨rfl, rfl⟩)
  go_ret2
  exact ⟨rfl, rfl⟩

theorem read_refused (g n armed steps : Nat) (A : Option Addr) (rv lv : Value) (dead : Bool) (i r : Int) (w : World) (h : Head w g A n rv lv dead armed steps) (hr : refuse dead n i = r) (h0 : r ≠ 0) :
    Calls Try.prog 51 #[.pointer (some ⟨g, 0, none⟩), .int .i64 i] w fun e w' => e = .returned (.tuple #[.slice none 0 0, .int .i64 r]) ∧ w = w' := by
  have H := refuses_hd g n armed steps A rv lv dead i w h
  rw [hr] at H
  have HR := Lib.hid H
  have hd : (r != 0) = true := by simpa using h0
  clear H h hr
  go_enter Try.func51, Try.ntmps51
  go_wp2_with (go_at_call 45; refine HR.out.mono ?_; rintro e w' ⟨rfl, rfl⟩)
  go_ret2
  exact ⟨rfl, rfl⟩

/-- The value that Read copies. -/
def Shows (w : World) (gl gi s : Nat) (rv v : Value) : Prop :=
  (w.cell? ⟨gl, s, none⟩ = some v ∧ w.cell? ⟨gi, s, none⟩ = some (.int .i64 0)) ∨
  ∃ r m c v1, ∃ k : Nat, rv = .slice (some ⟨r, 0, none⟩) m c ∧ k < m ∧ m ≤ maxLen ∧ w.cell? ⟨gl, s, none⟩ = some v1 ∧ w.cell? ⟨gi, s, none⟩ = some (.int .i64 ((k : Int) + 1)) ∧ w.cell? ⟨r, k * 2 + 1, none⟩ = some v

theorem Dk.shows {w : World} {E : Nat → Prop} {g gl gi : Nat} {rv : Value} {D : DS} (h : Dk w E g gl gi rv D) {s : Nat} (hs : s < D.S.length) : ∃ v, Shows w gl gi s rv v ∧ Sec w E v (readS D s) := by
  have hl := h.last.at_ hs
  obtain ⟨v, hv, hsec⟩ := h.secs.at_ (List.getElem?_eq_getElem hs)
  have hg : D.S.getD s [] = D.S[s] := by simp [List.getD, hs]
  rcases overlay_last s (D.S.getD s []) D.P with ⟨h1, h2⟩ | ⟨k, h1, h2, h3⟩
  · rw [h1] at hl
    refine ⟨v, .inl ⟨hv, hl⟩, ?_⟩
    unfold readS
    rw [h2, hg]
    exact hsec
  · obtain ⟨r, c, u, e, hr, c1, c2, c3⟩ := h.pend.at_ h3
    obtain ⟨A, cc, e2, hle, hm⟩ := h.pend.shape
    rw [h1] at hl
    exact ⟨u, .inr ⟨r, D.P.length, c, v, k, e, h2, Nat.le_trans hle hm, hv, by rw [hl]; rfl, c2⟩, c3⟩

set_option maxHeartbeats 400000 in
theorem read_torn (g gl gi n armed steps s c : Nat) (A : Option Addr) (rv : Value) (w : World) (h : Head w g (some ⟨gl, 0, none⟩) n rv (.slice (some ⟨gi, 0, none⟩) n n) false armed steps) (hs : s < n) (hv : Shows w gl gi s rv (.slice A 0 c)) :
    Calls Try.prog 51 #[.pointer (some ⟨g, 0, none⟩), .int .i64 (s : Int)] w fun e w' => e = .returned (.tuple #[.slice none 0 0, .int .i64 5]) ∧ w = w' := by
  have H := refuses_hd g n armed steps _ rv _ false (s : Int) w h
  have e0 : refuse false n (s : Int) = 0 := by simp [refuse]; omega
  rw [e0] at H
  have HR := Lib.hid H
  have h0 := h.c0
  have h1 := h.c1
  have h2 := h.c2
  clear H h e0
  rcases hv with ⟨c1, c2⟩ | ⟨r, m, cc, v1, k, rfl, hk, hm, c1, c2, c3⟩
  · go_enter Try.func51, Try.ntmps51
    go_wp2_with (go_at_call 45; refine HR.out.mono ?_; rintro e w' ⟨rfl, rfl⟩)
    go_ret2
    exact ⟨rfl, rfl⟩
  · unfold maxLen at hm
    go_enter Try.func51, Try.ntmps51
    go_wp2_with (go_at_call 45; refine HR.out.mono ?_; rintro e w' ⟨rfl, rfl⟩)
    go_ret2
    exact ⟨rfl, rfl⟩

set_option maxHeartbeats 400000 in
theorem read_full (g gl gi n armed steps s c L : Nat) (A : Option Addr) (rv : Value) (bs : List UInt8) (w : World) (h : Head w g (some ⟨gl, 0, none⟩) n rv (.slice (some ⟨gi, 0, none⟩) n n) false armed steps) (hs : s < n) (hv : Shows w gl gi s rv (.slice A L c))
    (hA : Bytes w A bs) (hL : bs.length = L) (h0 : 0 < L) (hL2 : L ≤ 65536) :
    Calls Try.prog 51 #[.pointer (some ⟨g, 0, none⟩), .int .i64 (s : Int)] w fun e w' => e = .returned (.tuple #[.slice (some ⟨w.heap.size, 0, none⟩) L L, .int .i64 0]) ∧ Blk w' w.heap.size 5 (row8 bs) ∧ Below w.heap.size w w' := by
  have H := refuses_hd g n armed steps _ rv _ false (s : Int) w h
  have e0 : refuse false n (s : Int) = 0 := by simp [refuse]; omega
  rw [e0] at H
  have HR := Lib.hid H
  have g0 := h.c0
  have g1 := h.c1
  have g2 := h.c2
  have hmk := run_mk8 L (by omega)
  have cR : Blk (w.alloc (.cells (mk8 L) 5)) w.heap.size 5 (List.replicate L (bv 0)).toArray := by
    rw [← mk8_eq]; exact Blk.new w _ _
  have cW : Below w.heap.size w (w.alloc (.cells (mk8 L) 5)) := (Below.refl _ w).alloc (Nat.le_refl _) _
  obtain ⟨w1, hcp, hR1, hg1, hs1⟩ := run_copy8 _ 3 w.heap.size L L A c bs _ (hA.below cW) cR (by omega) (by simp)
  rw [hL] at hcp
  have hB1 : Below w.heap.size w w1 := cW.grown hg1 (by simp) (fun k e => by cases e; omega)
  have hR2 : Blk w1 w.heap.size 5 (row8 bs) := by
    have e : bs.map bv ++ (List.replicate L (bv 0)).drop bs.length = bs.map bv := by rw [hL]; simp
    unfold row8; rw [← e]; exact hR1
  simp only [goInt] at hcp
  have HRR := Lib.hid hR2
  have HB := Lib.hid hB1
  have hne : ((L : Int) == 0) = false := by simp; omega
  clear H h e0 hA hL hR1 hR2 hB1 hg1 hs1 cR cW
  rcases hv with ⟨c1, c2⟩ | ⟨r, m, cc, v1, k, rfl, hk, hm, c1, c2, c3⟩
  · go_enter Try.func51, Try.ntmps51
    go_wp2_with (go_at_call 45; refine HR.out.mono ?_; rintro e w' ⟨rfl, rfl⟩)
    go_ret2
    exact ⟨rfl, HRR.out, HB.out⟩
  · unfold maxLen at hm
    go_enter Try.func51, Try.ntmps51
    go_wp2_with (go_at_call 45; refine HR.out.mono ?_; rintro e w' ⟨rfl, rfl⟩)
    go_ret2
    exact ⟨rfl, HRR.out, HB.out⟩

theorem readS_len {D : DS} (h : D.Ok) (s : Nat) : readS D s = [] ∨ (readS D s).length = 256 := by
  unfold readS
  rcases overlay_last s (D.S.getD s []) D.P with ⟨_, h2⟩ | ⟨k, _, h2, h3⟩
  · rw [h2]
    by_cases hs : s < D.S.length
    · simp only [List.getD, List.getElem?_eq_getElem hs, Option.getD_some]
      exact h.sec _ (List.getElem_mem hs)
    · left; simp [List.getD, hs]
  · exact .inr (h.pend _ (List.mem_of_getElem? h3)).2

/-- What Read says of an error. -/
def readE (D : DS) (i : Int) : Int := if refuse D.dead D.S.length i = 0 then (if readS D i.toNat = [] then 5 else 0) else refuse D.dead D.S.length i

theorem refuse_zero {dead : Bool} {n : Nat} {i : Int} (h : refuse dead n i = 0) : dead = false ∧ ∃ s : Nat, i = s ∧ s < n := by
  unfold refuse at h
  cases dead
  · simp at h
    exact ⟨rfl, i.toNat, by omega, by omega⟩
  · simp at h

theorem Disk.read_no (g : Nat) (F : Nat → Prop) (D : DS) (i : Int) (w : World) (h : Disk w F g D) (he : readE D i ≠ 0) :
    Calls Try.prog 51 #[.pointer (some ⟨g, 0, none⟩), .int .i64 i] w fun e w' => e = .returned (.tuple #[.slice none 0 0, .int .i64 (readE D i)]) ∧ w = w' := by
  obtain ⟨E, gl, gi, rv, hk, h1, h2, h3⟩ := h
  by_cases hr : refuse D.dead D.S.length i = 0
  · obtain ⟨hd, s, rfl, hs⟩ := refuse_zero hr
    unfold readE at he ⊢
    rw [if_pos hr] at he ⊢
    by_cases hb : readS D (s : Int).toNat = []
    · rw [if_pos hb]
      obtain ⟨v, hv, A, c, e1, _⟩ := hk.shows hs
      rw [Int.toNat_natCast] at hb
      rw [hb] at e1
      subst e1
      exact read_torn g gl gi _ D.armed D.steps s c A rv w (hd ▸ hk.hd) hs hv
    · rw [if_neg hb] at he; exact absurd rfl he
  · have e : readE D i = refuse D.dead D.S.length i := by unfold readE; rw [if_neg hr]
    rw [e]
    exact read_refused g _ _ _ _ _ _ _ i _ w hk.hd rfl hr

theorem Disk.read_yes (g : Nat) (F : Nat → Prop) (D : DS) (i : Int) (w : World) (h : Disk w F g D) (he : readE D i = 0) :
    Calls Try.prog 51 #[.pointer (some ⟨g, 0, none⟩), .int .i64 i] w fun e w' => e = .returned (.tuple #[.slice (some ⟨w.heap.size, 0, none⟩) 256 256, .int .i64 0]) ∧ Blk w' w.heap.size 5 (row8 (readS D i.toNat)) ∧ (readS D i.toNat).length = 256 ∧ Below w.heap.size w w' := by
  obtain ⟨E, gl, gi, rv, hk, h1, h2, h3⟩ := h
  by_cases hr : refuse D.dead D.S.length i = 0
  · obtain ⟨hd, s, rfl, hs⟩ := refuse_zero hr
    unfold readE at he
    rw [if_pos hr] at he
    by_cases hb : readS D (s : Int).toNat = []
    · rw [if_pos hb] at he; cases he
    · rw [Int.toNat_natCast] at hb ⊢
      have hlen : (readS D s).length = 256 := by
        rcases readS_len hk.ok s with h | h
        · exact absurd h hb
        · exact h
      obtain ⟨v, hv, A, c, e1, _, _, hA, _⟩ := hk.shows hs
      rw [hlen] at e1
      subst e1
      refine (read_full g gl gi _ D.armed D.steps s c 256 A rv (readS D s) w (hd ▸ hk.hd) hs hv hA hlen (by decide) (by decide)).mono ?_
      rintro e w' ⟨rfl, a, b⟩
      exact ⟨rfl, a, hlen, b⟩
  · exfalso
    unfold readE at he
    rw [if_neg hr] at he
    exact hr he

end Go.Proofs.Ytiemfhncadcemaa
