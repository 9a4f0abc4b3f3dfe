/- New. -/
import Derived.Test.YtiemfhncadcemaaE
import Derived.RegionTactic
namespace Go.Proofs.Ytiemfhncadcemaa
open Go.RowKit Dsk

theorem new_no (n : Int) (w : World) (h : n < 16 ∨ 4096 < n) : Calls Try.prog 10 #[.int .i64 n] w fun e w' => e = .returned (.tuple #[.pointer none, .int .i64 1]) ∧ w = w' := by
  have hm := may_any n w
  have e : (decide (16 ≤ n) && decide (n ≤ 4096)) = false := by simp; omega
  rw [e] at hm
  have HM := Lib.hid hm
  clear hm e
  go_enter Try.func10, Try.ntmps10
  go_wp2_with (go_at_call 26; refine HM.out.mono ?_; rintro e w' ⟨rfl, rfl⟩)
  go_ret2
  exact ⟨rfl, rfl⟩

/-- Sectors, k of them filled. -/
def fillTo (n k : Nat) : List (List UInt8) := List.replicate k zeros ++ List.replicate (n - k) []
theorem fillTo_length (n k : Nat) (h : k ≤ n) : (fillTo n k).length = n := by simp [fillTo]; omega
theorem fillTo_step (n k : Nat) (h : k < n) : (fillTo n k).set k zeros = fillTo n (k + 1) := by
  unfold fillTo
  rw [List.set_append_right _ _ (by simp), List.length_replicate, Nat.sub_self]
  obtain ⟨m, hm⟩ : ∃ m, n - k = m + 1 := ⟨n - k - 1, by omega⟩
  rw [hm, show n - (k + 1) = m by omega, List.replicate_succ, List.set_cons_zero, List.replicate_succ' (n := k)]
  simp
theorem fillTo_full (n : Nat) : fillTo n n = List.replicate n zeros := by simp [fillTo]

/-- A new disk. -/
def newD (n : Nat) : DS := ⟨List.replicate n zeros, [], false, 0, 0⟩
theorem newD_ok (n : Nat) (h : 16 ≤ n ∧ n ≤ 4096) : (newD n).Ok :=
  ⟨by simp [newD, h.1], by simp [newD, h.2], fun b hb => .inr (by rw [List.eq_of_mem_replicate hb, zeros_length]), (fun p hp => by cases hp), by simp [newD]⟩

theorem run_mkS (n : Nat) (hn : n ≤ 4096) (w : World) :
    (Instr.makeSlice 32 (.int .i64 (n : Int)) (.int .i64 (n : Int))).run Try.prog w = .ok (.slice (some ⟨w.heap.size, 0, none⟩) n n) (w.alloc (.cells (madeCells #[.slice none 0 0] n) 33)) := by
  have hI : (Try.prog.info? 33).map (fun i => (i.zero, i.size, i.bytes)) = some (some (.slice none 0 0), 1, 24) := by kernel_rfl
  obtain ⟨i0, hi, hz0, hz1, hz2⟩ := info_parts hI
  have h := run_make (P := Try.prog) w 32 33 i0 (.slice none 0 0) Try.underlying32 hi hz0 .i64 .i64 (n : Int) (n : Int) (by omega) (by omega) (by rw [hz2]; omega) (by omega)
  simpa [hz1, Value.cells] using h
theorem run_mkI (n : Nat) (hn : n ≤ 4096) (w : World) :
    (Instr.makeSlice 35 (.int .i64 (n : Int)) (.int .i64 (n : Int))).run Try.prog w = .ok (.slice (some ⟨w.heap.size, 0, none⟩) n n) (w.alloc (.cells (madeCells #[.int .i64 0] n) 3)) := by
  have hI : (Try.prog.info? 3).map (fun i => (i.zero, i.size, i.bytes)) = some (some (.int .i64 0), 1, 8) := by kernel_rfl
  obtain ⟨i0, hi, hz0, hz1, hz2⟩ := info_parts hI
  have h := run_make (P := Try.prog) w 35 3 i0 (.int .i64 0) Try.underlying35 hi hz0 .i64 .i64 (n : Int) (n : Int) (by omega) (by omega) (by rw [hz2]; omega) (by omega)
  simpa [hz1, Value.cells] using h
theorem made_get (v : Value) (n k : Nat) (h : k < n) : (madeCells #[v] n)[k]? = some v := by
  simp [madeCells, h, Nat.mod_one]
theorem made_size (v : Value) (n : Nat) : (madeCells #[v] n).size = n := by simp [madeCells]

theorem Secs.made {w : World} {g n : Nat} (E : Nat → Prop) (h : Blk w g 33 (madeCells #[.slice none 0 0] n)) : Secs w E g (fillTo n 0) :=
  ⟨_, h, by rw [made_size, fillTo_length n 0 (Nat.zero_le _)]; exact Nat.le_refl _, fun k b hb => by
    have hk := (List.getElem?_eq_some_iff.1 hb).1
    rw [fillTo_length n 0 (Nat.zero_le _)] at hk
    have : b = [] := by
      have := List.mem_of_getElem? hb
      simp [fillTo] at this
      exact this.2
    exact ⟨_, made_get _ n k hk, this ▸ Sec.nil _ _⟩⟩
theorem Lasts.made {w : World} {g n : Nat} (h : Blk w g 3 (madeCells #[.int .i64 0] n)) : Lasts w g n [] := ⟨_, h, made_size _ _, fun s hs => made_get _ n s hs⟩

/-- Between the rounds of New. -/
structure NewR (w0 : World) (n gl gi g k : Nat) (w : World) : Prop where
  secs : Secs w (fun j => w0.heap.size + 3 ≤ j) gl (fillTo n k)
  last : Lasts w gi n []
  head : Blk w g 62 #[.slice (some ⟨gl, 0, none⟩) n n, .slice none 0 0, .slice (some ⟨gi, 0, none⟩) n n, .bool false, .int .i64 0, .int .i64 0]
  bel : Below w0.heap.size w0 w
  size : w0.heap.size + 3 ≤ w.heap.size

theorem NewR.step {w0 w : World} {n gl gi g k : Nat} (h : NewR w0 n gl gi g k w) (hk : k < n) (hg : (gl = w0.heap.size ∨ gl = w0.heap.size + 1) ∧ g = w0.heap.size + 2 ∧ (gi = w0.heap.size ∨ gi = w0.heap.size + 1) ∧ gl ≠ gi) :
    NewR w0 n gl gi g (k + 1) ((w.alloc (.cells (mk8 256) 5)).setCell ⟨gl, k, none⟩ (.slice (some ⟨w.heap.size, 0, none⟩) 256 256)) := by
  have hsz := h.size
  have hnl : gl ≠ w.heap.size := by omega
  have h1 : Secs (w.alloc (.cells (mk8 256) 5)) (fun j => w0.heap.size + 3 ≤ j) gl (fillTo n k) := h.secs.same (by simp) (fun j _ hj => Below.heap_alloc _ _ _ hj) (Below.heap_alloc _ _ _ h.secs.lt)
  have hb : Blk (w.alloc (.cells (mk8 256) 5)) w.heap.size 5 (row8 zeros) := by
    have e : row8 zeros = mk8 256 := by rw [mk8_eq]; unfold row8 zeros; rw [List.map_replicate]
    rw [e]; exact Blk.new _ _ _
  refine ⟨?_, ?_, ?_, (h.bel.alloc (by have := h.bel.size; omega) _).setCell (by show w0.heap.size ≤ gl; omega) _, by simp [World.setCell]; omega⟩
  · rw [← fillTo_step n k hk]
    exact h1.set_ (by omega) k _ _ (Sec.of_blk hb hsz (by rw [zeros_length]; decide) 256 zeros_length)
  · exact h.last.same ((Below.heap_setCell _ _ _ _ (by show gi ≠ gl; omega)).trans (Below.heap_alloc _ _ _ h.last.lt))
  · exact (h.head.alloc _).far (by show g ≠ gl; omega) _

theorem NewR.disk {w0 w : World} {n gl gi g : Nat} (h : NewR w0 n gl gi g n w) (hn : 16 ≤ n ∧ n ≤ 4096) (hg : (gl = w0.heap.size ∨ gl = w0.heap.size + 1) ∧ g = w0.heap.size + 2 ∧ (gi = w0.heap.size ∨ gi = w0.heap.size + 1) ∧ gl ≠ gi) :
    Disk w (fun k => w0.heap.size ≤ k ∧ k < w.heap.size) g (newD n) := by
  have hsz := h.size
  have hl : (newD n).S.length = n := by simp [newD]
  refine ⟨fun j => w0.heap.size + 3 ≤ j ∧ j < w.heap.size, gl, gi, .slice none 0 0, ⟨newD_ok n hn, by rw [hl]; exact h.head, ?_, Pend.nil _ _ _, by rw [hl]; exact h.last, by omega, by omega, by omega, (fun k hk => by cases hk), by omega, by omega, by omega⟩,
    (fun k hk => by omega), fun k hk => ?_, fun k hk => hk.2⟩
  · have h1 := h.secs
    rw [fillTo_full] at h1
    obtain ⟨ls, a, b, c⟩ := h1.blk
    refine ⟨ls, a, b, fun k bs hb => ?_⟩
    obtain ⟨v, e, A, cc, e1, e2, e3, e4, e5⟩ := c k bs hb
    refine ⟨v, e, A, cc, e1, e2, e3, e4, fun p ep => ⟨e5 p ep, ?_⟩⟩
    have hb0 : bs.length = 256 := by
      have := List.mem_of_getElem? hb
      rw [List.eq_of_mem_replicate this, zeros_length]
    obtain ⟨q, off, eq, hlt, _⟩ := e4 0 (bs[0]'(by omega)) (List.getElem?_eq_getElem _)
    rw [ep] at eq
    cases eq
    exact hlt
  · rcases hk with rfl | rfl | rfl | hk
    · have := h.head.lt; omega
    · have := h.secs.lt; omega
    · have := h.last.lt; omega
    · cases hk

theorem newR_one (w : World) (n : Nat) : NewR w n w.heap.size (w.heap.size + 1) (w.heap.size + 2) 0 ((((w.alloc (.cells (madeCells #[.slice none 0 0] n) 33)).alloc (.cells (madeCells #[.int .i64 0] n) 3)).alloc (.cells #[.slice (some ⟨w.heap.size, 0, none⟩) n n, .slice none 0 0, .slice (some ⟨w.heap.size + 1, 0, none⟩) n n, .bool false, .int .i64 0, .int .i64 0] 62)).drew) := by
  have h1 := Blk.new w 33 (madeCells #[.slice none 0 0] n)
  have h2 := Blk.new (w.alloc (.cells (madeCells #[.slice none 0 0] n) 33)) 3 (madeCells #[.int .i64 0] n)
  have h3 := Blk.new ((w.alloc (.cells (madeCells #[.slice none 0 0] n) 33)).alloc (.cells (madeCells #[.int .i64 0] n) 3)) 62 #[.slice (some ⟨w.heap.size, 0, none⟩) n n, .slice none 0 0, .slice (some ⟨w.heap.size + 1, 0, none⟩) n n, .bool false, .int .i64 0, .int .i64 0]
  simp only [World.size_alloc] at h2 h3
  exact ⟨Secs.made _ (((h1.alloc _).alloc _).drew), Lasts.made ((h2.alloc _).drew), h3.drew, ((((Below.refl _ w).alloc (Nat.le_refl _) _).alloc (by simp) _).alloc (by simp; omega) _).drew, by simp⟩
theorem newR_two (w : World) (n : Nat) : NewR w n (w.heap.size + 1) w.heap.size (w.heap.size + 2) 0 ((((w.alloc (.cells (madeCells #[.int .i64 0] n) 3)).alloc (.cells (madeCells #[.slice none 0 0] n) 33)).alloc (.cells #[.slice (some ⟨w.heap.size + 1, 0, none⟩) n n, .slice none 0 0, .slice (some ⟨w.heap.size, 0, none⟩) n n, .bool false, .int .i64 0, .int .i64 0] 62)).drew) := by
  have h1 := Blk.new w 3 (madeCells #[.int .i64 0] n)
  have h2 := Blk.new (w.alloc (.cells (madeCells #[.int .i64 0] n) 3)) 33 (madeCells #[.slice none 0 0] n)
  have h3 := Blk.new ((w.alloc (.cells (madeCells #[.int .i64 0] n) 3)).alloc (.cells (madeCells #[.slice none 0 0] n) 33)) 62 #[.slice (some ⟨w.heap.size + 1, 0, none⟩) n n, .slice none 0 0, .slice (some ⟨w.heap.size, 0, none⟩) n n, .bool false, .int .i64 0, .int .i64 0]
  simp only [World.size_alloc] at h2 h3
  exact ⟨Secs.made _ ((h2.alloc _).drew), Lasts.made (((h1.alloc _).alloc _).drew), h3.drew, ((((Below.refl _ w).alloc (Nat.le_refl _) _).alloc (by simp) _).alloc (by simp; omega) _).drew, by simp⟩

theorem NewR.drew {w0 w : World} {n gl gi g k : Nat} (h : NewR w0 n gl gi g k w) : NewR w0 n gl gi g k w.drew := ⟨h.secs.same (Nat.le_refl _) (fun _ _ _ => rfl) rfl, h.last.same rfl, h.head.drew, h.bel.drew, h.size⟩

end Go.Proofs.Ytiemfhncadcemaa
