/- What a disk tells; a step; arming. -/
import Derived.Test.YtiemfhncadcemaaD
namespace Go.Proofs.Ytiemfhncadcemaa
open Go.RowKit Dsk

theorem may_any (n : Int) (w : World) : Calls Try.prog 26 #[.int .i64 n] w fun e w' => e = .returned (.bool (decide (16 ≤ n) && decide (n ≤ 4096))) ∧ w = w' := by
  by_cases h : 16 ≤ n
  · by_cases h2 : n ≤ 4096
    · have a : decide (16 ≤ n) = true := by simpa using h
      have b : decide (n ≤ 4096) = true := by simpa using h2
      go_enter Try.func26, Try.ntmps26
      go_wp2
      go_ret
      exact ⟨by first | rfl | (rw [a, b]; rfl), rfl⟩
    · have a : decide (16 ≤ n) = true := by simpa using h
      have b : decide (n ≤ 4096) = false := by simpa using h2
      go_enter Try.func26, Try.ntmps26
      go_wp2
      go_ret
      exact ⟨by first | rfl | (rw [a, b]; rfl), rfl⟩
  · have a : decide (16 ≤ n) = false := by simpa using h
    go_enter Try.func26, Try.ntmps26
    go_wp2
    go_ret
    exact ⟨by first | rfl | (rw [a]; rfl), rfl⟩

/-- What a walk is told of a disk's own block. -/
structure Head (w : World) (g : Nat) (A : Option Addr) (n : Nat) (rv lv : Value) (dead : Bool) (armed steps : Nat) : Prop where
  c0 : w.cell? ⟨g, 0, none⟩ = some (.slice A n n)
  c1 : w.cell? ⟨g, 1, none⟩ = some rv
  c2 : w.cell? ⟨g, 2, none⟩ = some lv
  c3 : w.cell? ⟨g, 3, none⟩ = some (.bool dead)
  c4 : w.cell? ⟨g, 4, none⟩ = some (.int .i64 (armed : Int))
  c5 : w.cell? ⟨g, 5, none⟩ = some (.int .i64 (steps : Int))
  f : ∀ i, w.frozen? ⟨g, i, none⟩ = false
theorem Dk.hd {w : World} {E : Nat → Prop} {g gl gi : Nat} {rv : Value} {D : DS} (h : Dk w E g gl gi rv D) : Head w g (some ⟨gl, 0, none⟩) D.S.length rv (.slice (some ⟨gi, 0, none⟩) D.S.length D.S.length) D.dead D.armed D.steps :=
  ⟨h.head.cell 0, h.head.cell 1, h.head.cell 2, h.head.cell 3, h.head.cell 4, h.head.cell 5, h.head.frozen⟩

theorem refuses_nil (i : Int) (w : World) : Calls Try.prog 45 #[.pointer none, .int .i64 i] w fun e w' => e = .returned (.int .i64 2) ∧ w = w' := by
  go_enter Try.func45, Try.ntmps45
  go_wp2
  go_ret
  exact ⟨rfl, rfl⟩

/-- Why nothing can be done with a sector. -/
def refuse (dead : Bool) (n : Nat) (i : Int) : Int := if dead then 4 else if i < 0 ∨ (n : Int) ≤ i then 1 else 0

set_option maxHeartbeats 400000 in
theorem refuses_hd (g n armed steps : Nat) (A : Option Addr) (rv lv : Value) (dead : Bool) (i : Int) (w : World) (h : Head w g A n rv lv dead armed steps) :
    Calls Try.prog 45 #[.pointer (some ⟨g, 0, none⟩), .int .i64 i] w fun e w' => e = .returned (.int .i64 (refuse dead n i)) ∧ w = w' := by
  have h0 := h.c0
  have h3 := h.c3
  clear h
  cases dead
  · by_cases hi : i < 0
    · have hd : decide (i < 0) = true := by simpa using hi
      go_enter Try.func45, Try.ntmps45
      go_wp2
      go_ret
      exact ⟨by simp [refuse, hi], rfl⟩
    · have hd : decide (i < 0) = false := by simpa using hi
      by_cases h2 : (n : Int) ≤ i
      · have hd2 : decide ((n : Int) ≤ i) = true := by simpa using h2
        go_enter Try.func45, Try.ntmps45
        go_wp2
        go_ret
        exact ⟨by simp [refuse, h2], rfl⟩
      · have hd2 : decide ((n : Int) ≤ i) = false := by simpa using h2
        go_enter Try.func45, Try.ntmps45
        go_wp2
        go_ret
        exact ⟨by simp [refuse, hi, h2], rfl⟩
  · go_enter Try.func45, Try.ntmps45
    go_wp2
    go_ret
    exact ⟨by simp [refuse], rfl⟩

theorem sectors_nil (w : World) : Calls Try.prog 50 #[.pointer none] w fun e w' => e = .returned (.int .i64 0) ∧ w = w' := by
  go_enter Try.func50, Try.ntmps50
  go_wp2
  go_ret
  exact ⟨rfl, rfl⟩
theorem dead_nil (w : World) : Calls Try.prog 27 #[.pointer none] w fun e w' => e = .returned (.bool false) ∧ w = w' := by
  go_enter Try.func27, Try.ntmps27
  go_wp2
  go_ret
  exact ⟨rfl, rfl⟩
theorem sectors_hd (g n armed steps : Nat) (A : Option Addr) (rv lv : Value) (dead : Bool) (w : World) (h : Head w g A n rv lv dead armed steps) :
    Calls Try.prog 50 #[.pointer (some ⟨g, 0, none⟩)] w fun e w' => e = .returned (.int .i64 (n : Int)) ∧ w = w' := by
  have h0 := h.c0
  clear h
  go_enter Try.func50, Try.ntmps50
  go_wp2
  go_ret
  exact ⟨rfl, rfl⟩
theorem dead_hd (g n armed steps : Nat) (A : Option Addr) (rv lv : Value) (dead : Bool) (w : World) (h : Head w g A n rv lv dead armed steps) :
    Calls Try.prog 27 #[.pointer (some ⟨g, 0, none⟩)] w fun e w' => e = .returned (.bool dead) ∧ w = w' := by
  have h0 := h.c3
  clear h
  go_enter Try.func27, Try.ntmps27
  go_wp2
  go_ret
  exact ⟨rfl, rfl⟩

/-! ### Off, Arm, a step: the disk's own block -/
theorem off_nil (w : World) : Calls Try.prog 28 #[.pointer none] w fun e w' => e = .returned (.tuple #[]) ∧ w = w' := by
  go_enter Try.func28, Try.ntmps28
  go_wp2
  go_end0
  exact ⟨rfl, rfl⟩
theorem off_hd (g n armed steps : Nat) (A : Option Addr) (rv lv : Value) (dead : Bool) (w : World) (h : Head w g A n rv lv dead armed steps) :
    Calls Try.prog 28 #[.pointer (some ⟨g, 0, none⟩)] w fun e w' => e = .returned (.tuple #[]) ∧ w.setCell ⟨g, 3, none⟩ (.bool true) = w' := by
  have h0 := h.c3
  have hf := h.f 3
  clear h
  go_enter Try.func28, Try.ntmps28
  go_wp2
  go_end0
  exact ⟨rfl, rfl⟩

theorem Dk.turned {w w' : World} {E : Nat → Prop} {g gl gi : Nat} {rv : Value} {D D' : DS} (h : Dk w E g gl gi rv D) (hs : w.heap.size ≤ w'.heap.size) (ho : ∀ k, k < w.heap.size → k ≠ g → w'.heap[k]? = w.heap[k]?)
    (hS : D'.S = D.S) (hP : D'.P = D.P) (hok : D'.Ok)
    (hb : Blk w' g 62 #[.slice (some ⟨gl, 0, none⟩) D.S.length D.S.length, rv, .slice (some ⟨gi, 0, none⟩) D.S.length D.S.length, .bool D'.dead, .int .i64 (D'.armed : Int), .int .i64 (D'.steps : Int)]) : Dk w' E g gl gi rv D' := by
  have hE : ∀ k, E k → k ≠ g := fun k hk e => h.e1 (e ▸ hk)
  refine ⟨hok, by rw [hS]; exact hb, ?_, ?_, ?_, h.e1, h.e2, h.e3, h.e4, h.n1, h.n2, h.n3⟩
  · rw [hS]; exact h.secs.same hs (fun k hk hl => ho k hl (hE k hk)) (ho gl h.secs.lt h.n1.symm)
  · rw [hP]; exact h.pend.same hs (fun k hk hl => ho k hl (hE k hk)) (fun k hk => ho k (h.pend.lt k hk) (h.e4 k hk).2.1)
  · rw [hS, hP]; exact h.last.same (ho gi h.last.lt h.n2.symm)

/-- The power is off. -/
def offD (D : DS) : DS := { D with dead := true }
theorem Disk.off_ (g : Nat) (F : Nat → Prop) (D : DS) (w : World) (h : Disk w F g D) :
    Calls Try.prog 28 #[.pointer (some ⟨g, 0, none⟩)] w fun e w' => e = .returned (.tuple #[]) ∧ Disk w' F g (offD D) ∧ Off F w w' := by
  have hF := h.has
  obtain ⟨E, gl, gi, rv, hk, h1, h2, h3⟩ := h
  refine (off_hd g _ _ _ _ _ _ _ w hk.hd).mono ?_
  rintro e w' ⟨rfl, rfl⟩
  refine ⟨rfl, ⟨E, gl, gi, rv, ?_, h1, h2, fun k hk' => by simpa [World.setCell] using h3 k hk'⟩, (Off.set_ _ _ _).mono fun k _ e => by rw [show k = g from e]; exact hF⟩
  exact hk.turned (by simp [World.setCell]) (fun k _ hne => Below.heap_setCell _ _ _ _ hne) rfl rfl ⟨hk.ok.lo, hk.ok.hi, hk.ok.sec, hk.ok.pend, hk.ok.armed⟩ (by have h5 := hk.head.set_ 3 (.bool true); simp only [List.setIfInBounds_toArray, List.set_cons_succ, List.set_cons_zero] at h5; exact h5)

set_option maxHeartbeats 400000 in
theorem arm_nil (i : Int) (w : World) : Calls Try.prog 30 #[.pointer none, .int .i64 i] w fun e w' => e = .returned (.int .i64 2) ∧ w = w' := by
  go_enter Try.func30, Try.ntmps30
  go_wp2_with (go_at_call 45; refine (refuses_nil _ _).mono ?_; rintro e w' ⟨rfl, rfl⟩)
  go_ret
  exact ⟨rfl, rfl⟩

/-- What Arm answers. -/
def armE (D : DS) (i : Int) : Int := if D.dead then 4 else if i < 0 then 1 else 0
def armD (D : DS) (i : Int) : DS := if D.dead then D else if i < 0 then D else { D with armed := i.toNat }

set_option maxHeartbeats 400000 in
theorem arm_hd (g n armed steps : Nat) (A : Option Addr) (rv lv : Value) (dead : Bool) (i : Int) (w : World) (h : Head w g A n rv lv dead armed steps) (hn : 0 < n) :
    Calls Try.prog 30 #[.pointer (some ⟨g, 0, none⟩), .int .i64 i] w fun e w' => (e = .returned (.int .i64 (if dead then 4 else if i < 0 then 1 else 0))) ∧ (if dead then w else if i < 0 then w else w.setCell ⟨g, 4, none⟩ (.int .i64 i)) = w' := by
  have H := refuses_hd g n armed steps A rv lv dead 0 w h
  have h0 := h.c4
  have hf := h.f 4
  clear h
  cases dead
  · have e0 : refuse false n 0 = 0 := by simp [refuse]; omega
    rw [e0] at H
    have HR := Lib.hid H
    clear H e0
    by_cases hi : i < 0
    · have hd : decide (i < 0) = true := by simpa using hi
      go_enter Try.func30, Try.ntmps30
      go_wp2_with (go_at_call 45; refine HR.out.mono ?_; rintro e w' ⟨rfl, rfl⟩)
      go_ret
      exact ⟨by simp, by simp⟩
    · have hd : decide (i < 0) = false := by simpa using hi
      go_enter Try.func30, Try.ntmps30
      go_wp2_with (go_at_call 45; refine HR.out.mono ?_; rintro e w' ⟨rfl, rfl⟩)
      go_ret
      exact ⟨by simp, by simp⟩
  · have e0 : refuse true n 0 = 4 := by simp [refuse]
    rw [e0] at H
    have HR := Lib.hid H
    clear H e0
    go_enter Try.func30, Try.ntmps30
    go_wp2_with (go_at_call 45; refine HR.out.mono ?_; rintro e w' ⟨rfl, rfl⟩)
    go_ret
    exact ⟨rfl, rfl⟩

theorem Disk.arm_ (g : Nat) (F : Nat → Prop) (D : DS) (i : Int) (w : World) (h : Disk w F g D) (hi : i < 9223372036854775808) :
    Calls Try.prog 30 #[.pointer (some ⟨g, 0, none⟩), .int .i64 i] w fun e w' => e = .returned (.int .i64 (armE D i)) ∧ Disk w' F g (armD D i) ∧ Off F w w' := by
  have hF := h.has
  have hD := h
  obtain ⟨E, gl, gi, rv, hk, h1, h2, h3⟩ := h
  refine (arm_hd g _ _ _ _ _ _ _ i w hk.hd (by have := hk.ok.lo; omega)).mono ?_
  rintro e w' ⟨rfl, rfl⟩
  refine ⟨rfl, ?_⟩
  unfold armD
  split
  · exact ⟨hD, Off.refl _ _⟩
  · split
    · exact ⟨hD, Off.refl _ _⟩
    · rename_i hi0
      refine ⟨⟨E, gl, gi, rv, ?_, h1, h2, fun k hk' => by simpa [World.setCell] using h3 k hk'⟩, (Off.set_ _ _ _).mono fun k _ e => by rw [show k = g from e]; exact hF⟩
      have hii : ((i.toNat : Nat) : Int) = i := by omega
      refine hk.turned (by simp [World.setCell]) (fun k _ hne => Below.heap_setCell _ _ _ _ hne) rfl rfl ⟨hk.ok.lo, hk.ok.hi, hk.ok.sec, hk.ok.pend, by show i.toNat < _; omega⟩ ?_
      show Blk _ g _ #[_, _, _, _, .int .i64 ((i.toNat : Nat) : Int), _]
      rw [hii]
      simpa using hk.head.set_ 4 (.int .i64 i)

/-- A step more. -/
def stepD (D : DS) : DS := { D with dead := if D.armed = 0 then D.dead else decide (D.armed = 1), armed := D.armed - 1, steps := D.steps + 1 }
def stepE (D : DS) : Int := if (stepD D).dead then 4 else 0

def stepEv (dead : Bool) (armed : Nat) : Int := if (if armed = 0 then dead else decide (armed = 1)) then 4 else 0
def stepW (w : World) (g armed steps : Nat) : World :=
  if armed = 0 then w.setCell ⟨g, 5, none⟩ (.int .i64 ((steps : Int) + 1))
  else ((w.setCell ⟨g, 5, none⟩ (.int .i64 ((steps : Int) + 1))).setCell ⟨g, 4, none⟩ (.int .i64 ((armed : Int) - 1))).setCell ⟨g, 3, none⟩ (.bool (decide (armed = 1)))

set_option maxHeartbeats 400000 in
theorem step_hd (g n armed steps : Nat) (A : Option Addr) (rv lv : Value) (dead : Bool) (w : World) (h : Head w g A n rv lv dead armed steps) (hs : steps < 1000000000) (ha : armed < 9223372036854775808) :
    Calls Try.prog 48 #[.pointer (some ⟨g, 0, none⟩)] w fun e w' => e = .returned (.int .i64 (stepEv dead armed)) ∧ stepW w g armed steps = w' := by
  have h3 := h.c3
  have h4 := h.c4
  have h5 := h.c5
  have f3 := h.f 3
  have f4 := h.f 4
  have f5 := h.f 5
  clear h
  by_cases h0 : armed = 0
  · subst h0
    cases dead
    all_goals
      go_enter Try.func48, Try.ntmps48
      go_wp2
      go_ret
      exact ⟨rfl, rfl⟩
  · have hp : (0 : Int) < (armed : Int) := by omega
    by_cases h1 : armed = 1
    · subst h1
      go_enter Try.func48, Try.ntmps48
      go_wp2
      go_ret
      exact ⟨rfl, rfl⟩
    · have hd1 : ((armed : Int) - 1 == 0) = false := by simp; omega
      have hd2 : decide ((armed : Int) - 1 = 0) = false := by simp; omega
      go_enter Try.func48, Try.ntmps48
      go_wp2
      go_ret
      exact ⟨by simp [stepEv, h0, h1], by simp [stepW, h0, h1]⟩

theorem stepD_ok {D : DS} (h : D.Ok) : (stepD D).Ok := ⟨h.lo, h.hi, h.sec, h.pend, by have := h.armed; show D.armed - 1 < _; omega⟩

theorem Dk.step_ {w : World} {E : Nat → Prop} {g gl gi : Nat} {rv : Value} {D : DS} (h : Dk w E g gl gi rv D) : Dk (stepW w g D.armed D.steps) E g gl gi rv (stepD D) := by
  have hn := stepD_ok h.ok
  unfold stepW stepD at *
  have h1 := h.head
  split
  · rename_i h0
    rw [if_pos h0] at hn
    refine h.turned (by simp [World.setCell]) (fun k _ hne => Below.heap_setCell _ _ _ _ hne) rfl rfl hn ?_
    have h2 := h1.set_ 5 (.int .i64 ((D.steps : Int) + 1))
    have e : (D.armed : Int) = ((D.armed - 1 : Nat) : Int) := by omega
    simp only [List.setIfInBounds_toArray, List.set_cons_succ, List.set_cons_zero] at h2
    show Blk _ g _ #[_, _, _, _, .int .i64 ((D.armed - 1 : Nat) : Int), .int .i64 ((D.steps + 1 : Nat) : Int)]
    rw [← e]
    exact h2
  · rename_i h0
    rw [if_neg h0] at hn
    refine h.turned (by simp [World.setCell]) (fun k _ hne => (Below.heap_setCell _ _ _ _ hne).trans ((Below.heap_setCell _ _ _ _ hne).trans (Below.heap_setCell _ _ _ _ hne))) rfl rfl hn ?_
    have h2 := ((h1.set_ 5 (.int .i64 ((D.steps : Int) + 1))).set_ 4 (.int .i64 ((D.armed : Int) - 1))).set_ 3 (.bool (decide (D.armed = 1)))
    have e : (D.armed : Int) - 1 = ((D.armed - 1 : Nat) : Int) := by omega
    simp only [List.setIfInBounds_toArray, List.set_cons_succ, List.set_cons_zero] at h2
    rw [e] at h2 ⊢
    exact h2

theorem stepW_off (w : World) (g armed steps : Nat) : Off (fun k => k = g) w (stepW w g armed steps) := by
  unfold stepW
  split
  · exact Off.setc _ _ _ _
  · exact ((Off.setc _ _ _ _).trans (Off.setc _ _ _ _)).trans (Off.setc _ _ _ _)
theorem stepW_size (w : World) (g armed steps : Nat) : (stepW w g armed steps).heap.size = w.heap.size := by
  unfold stepW
  split <;> simp [World.setCell]

end Go.Proofs.Ytiemfhncadcemaa
