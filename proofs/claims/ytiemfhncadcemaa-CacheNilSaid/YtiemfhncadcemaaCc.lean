/- cache: New; use; a frame. -/
import Derived.Test.YtiemfhncadcemaaCb
namespace Go.Proofs.Ytiemfhncadcemaa
open Go.RowKit Dsk

theorem cnew_nil (k : Int) (w : World) : Calls Try.prog 11 #[.pointer none, .int .i64 k] w fun e w' => e = .returned (.tuple #[.pointer none, .int .i64 2]) ∧ w = w' := by
  go_enter Try.func11, Try.ntmps11
  go_wp2_with fail
  go_ret2
  exact ⟨rfl, rfl⟩
theorem cnew_dead (dg : Nat) (F : Nat → Prop) (D : DS) (k : Int) (w : World) (hD : Disk w F dg D) (hd : D.dead = true) :
    Calls Try.prog 11 #[.pointer (some ⟨dg, 0, none⟩), .int .i64 k] w fun e w' => e = .returned (.tuple #[.pointer none, .int .i64 4]) ∧ w = w' := by
  have H1 := hD.dead_
  rw [hd] at H1
  replace H1 := Lib.hid H1
  clear hD hd
  go_enter Try.func11, Try.ntmps11
  go_wp2_with fail
  refine H1.out.mono ?_
  rintro e w' ⟨rfl, rfl⟩
  go_wp2_with fail
  go_ret2
  exact ⟨rfl, rfl⟩
theorem cnew_arg (dg : Nat) (F : Nat → Prop) (D : DS) (k : Int) (w : World) (hD : Disk w F dg D) (hd : D.dead = false) (hk : k < 1 ∨ 1024 < k) :
    Calls Try.prog 11 #[.pointer (some ⟨dg, 0, none⟩), .int .i64 k] w fun e w' => e = .returned (.tuple #[.pointer none, .int .i64 1]) ∧ w = w' := by
  have H1 := hD.dead_
  rw [hd] at H1
  replace H1 := Lib.hid H1
  clear hD hd
  by_cases h1 : k < 1
  · have d1 : decide (k < 1) = true := by simpa using h1
    clear hk h1
    go_enter Try.func11, Try.ntmps11
    go_wp2_with fail
    refine H1.out.mono ?_
    rintro e w' ⟨rfl, rfl⟩
    go_wp2_with fail
    go_ret2
    exact ⟨rfl, rfl⟩
  · have d1 : decide (k < 1) = false := by simpa using h1
    have d2 : decide (k > 1024) = true := by simp; omega
    clear hk h1
    go_enter Try.func11, Try.ntmps11
    go_wp2_with fail
    refine H1.out.mono ?_
    rintro e w' ⟨rfl, rfl⟩
    go_wp2_with fail
    go_ret2
    exact ⟨rfl, rfl⟩
theorem cnew_ok (dg : Nat) (F : Nat → Prop) (D : DS) (k : Nat) (w : World) (hD : Disk w F dg D) (hd : D.dead = false) (hk : 1 ≤ k ∧ k ≤ 1024) :
    Calls Try.prog 11 #[.pointer (some ⟨dg, 0, none⟩), .int .i64 (k : Int)] w fun e w' => e = .returned (.tuple #[.pointer (some ⟨w.heap.size + 1, 0, none⟩), .int .i64 0]) ∧ CHead w' (w.heap.size + 1) dg w.heap.size k 0 ∧ PMap w' w.heap.size 0 0 (fun _ => none) ∧ Below w.heap.size w w' := by
  have H1 := hD.dead_
  rw [hd] at H1
  replace H1 := Lib.hid H1
  clear hD hd
  have d1 : decide ((k : Int) < 1) = false := by simp; omega
  have d2 : decide ((k : Int) > 1024) = false := by simp; omega
  have hmm := @run_makeMap Try.prog
  obtain ⟨w1, hw1⟩ : ∃ w1, w.alloc (.map #[] 0) = w1 := ⟨_, rfl⟩
  have hM : PMap w1 w.heap.size 0 0 (fun _ => none) := by rw [← hw1]; exact PMap.made w
  have hs1 : w1.heap.size = w.heap.size + 1 := by rw [← hw1]; simp
  have hb1 : Below w.heap.size w w1 := by rw [← hw1]; exact (Below.refl _ _).alloc (Nat.le_refl _) _
  obtain ⟨w2, hw2⟩ : ∃ w2, w1.alloc (.cells #[.pointer (some ⟨dg, 0, none⟩), .int .i64 (k : Int), .map (some w.heap.size), .int .u64 0] 66) = w2 := ⟨_, rfl⟩
  have hC : CHead w2 (w.heap.size + 1) dg w.heap.size k 0 := by rw [← hw2, ← hs1]; exact Blk.new _ _ _
  have hM2 : PMap w2 w.heap.size 0 0 (fun _ => none) := hM.same (by rw [← hw2]; exact Below.heap_alloc w1 _ _ (by omega))
  have hb2 : Below w.heap.size w w2 := by rw [← hw2]; exact hb1.alloc (by omega) _
  have HO := Lib.hid (And.intro hC (And.intro hM2 hb2))
  clear hM hb1 hC hM2 hb2 hk
  go_enter Try.func11, Try.ntmps11
  go_wp2_with fail
  refine H1.out.mono ?_
  rintro e w' ⟨rfl, rfl⟩
  go_wp2_with fail
  go_ret2
  exact ⟨by first | rfl | rw [hs1], HO.out⟩
/-- A frame in memory. -/
def Frm (w : World) (f : Nat) (v : Value) (dirty : Bool) (pins used : Nat) : Prop := Blk w f 70 #[v, .bool dirty, .int .i64 (pins : Int), .int .u64 (used : Int)]
theorem Frm.told {w : World} {f : Nat} {v : Value} {dirty : Bool} {pins used : Nat} (h : Frm w f v dirty pins used) : w.cell? ⟨f, 0, none⟩ = some v ∧ w.cell? ⟨f, 1, none⟩ = some (.bool dirty) ∧ w.cell? ⟨f, 2, none⟩ = some (.int .i64 (pins : Int)) ∧ w.cell? ⟨f, 3, none⟩ = some (.int .u64 (used : Int)) ∧ (∀ i, w.frozen? ⟨f, i, none⟩ = false) :=
  ⟨Blk.cell h 0, Blk.cell h 1, Blk.cell h 2, Blk.cell h 3, Blk.frozen h⟩
theorem cuse_any (g dg mb most time f pins used : Nat) (v : Value) (dirty : Bool) (w : World) (h : CHead w g dg mb most time) (hF : Frm w f v dirty pins used) (hne : g ≠ f) (ht : time < 1000000000) :
    Calls Try.prog 42 #[.pointer (some ⟨g, 0, none⟩), .pointer (some ⟨f, 0, none⟩)] w fun e w' => e = .returned (.tuple #[]) ∧ CHead w' g dg mb most (time + 1) ∧ Frm w' f v dirty pins (time + 1) ∧ Off (fun k => k = g ∨ k = f) w w' ∧ w'.heap.size = w.heap.size := by
  obtain ⟨c0, c1, c2, c3, cf⟩ := h.told
  obtain ⟨w1, hw1⟩ : ∃ w1, w.setCell ⟨g, 3, none⟩ (.int .u64 ((time + 1 : Nat) : Int)) = w1 := ⟨_, rfl⟩
  have h1 : CHead w1 g dg mb most (time + 1) := by rw [← hw1]; exact Blk.set_ h 3 _
  have hF1 : Frm w1 f v dirty pins used := by rw [← hw1]; exact Blk.far hF (p := ⟨g, 3, none⟩) (fun e => hne e.symm) _
  obtain ⟨w2, hw2⟩ : ∃ w2, w1.setCell ⟨f, 3, none⟩ (.int .u64 ((time + 1 : Nat) : Int)) = w2 := ⟨_, rfl⟩
  have h2 : CHead w2 g dg mb most (time + 1) := by rw [← hw2]; exact Blk.far h1 (p := ⟨f, 3, none⟩) hne _
  have hF2 : Frm w2 f v dirty pins (time + 1) := by rw [← hw2]; exact Blk.set_ hF1 3 _
  have ho : Off (fun k => k = g ∨ k = f) w w2 := by
    rw [← hw2, ← hw1]
    exact ((Off.setc _ _ _ _).mono (fun k _ e => .inl e)).trans ((Off.setc _ _ _ _).mono (fun k _ e => .inr e))
  have hs : w2.heap.size = w.heap.size := by rw [← hw2, ← hw1]; simp [World.setCell]
  obtain ⟨d0, d1, d2, d3, df⟩ := h1.told
  obtain ⟨f0, f1, f2, f3, ff⟩ := hF1.told
  have HO := Lib.hid (And.intro h2 (And.intro hF2 (And.intro ho hs)))
  have hwt : IntKind.u64.wrap ((time : Int) + 1) = ((time + 1 : Nat) : Int) := by rw [show (time : Int) + 1 = ((time + 1 : Nat) : Int) by omega]; exact IntWalk.u64_in _ (by omega)
  obtain ⟨t1, ht1⟩ : ∃ t1, time + 1 = t1 := ⟨_, rfl⟩
  rw [ht1] at hw1 hw2 d3 HO hwt
  clear h hF h1 hF1 h2 hF2 ho hs
  go_enter Try.func42, Try.ntmps42
  go_wp2_with fail
  go_end0
  exact ⟨rfl, by rw [ht1]; exact HO.out⟩
end Go.Proofs.Ytiemfhncadcemaa
