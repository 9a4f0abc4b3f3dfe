/- The reference's disk in memory: what it tells, a step, arming. -/
import Derived.Test.YtdohfkblmadejaaImg
namespace Go.Proofs.Ytdohfkblmadejaa
open Go.RowKit Dsk

/-- The blocks that the reference's disk turns. -/
def own3 (g gs : Nat) (pv : Value) : Nat → Prop := fun k => k = g ∨ k = gs ∨ pv.ownBlock = some k

structure Rk (w : World) (E : Nat → Prop) (g gs c : Nat) (pv : Value) (D : DS) : Prop where
  ok : D.Ok
  cap : D.S.length ≤ c
  head : Blk w g 46 #[.slice (some ⟨gs, 0, none⟩) D.S.length c, pv, .bool D.dead, .int .i64 (D.armed : Int), .int .i64 (D.steps : Int)]
  secs : Secs w E gs D.S
  pend : Pend w 78 E pv D.P
  e1 : ¬ E g
  e2 : ¬ E gs
  e4 : ∀ k, pv.ownBlock = some k → ¬ E k ∧ k ≠ g ∧ k ≠ gs
  n1 : g ≠ gs

def Ref (w : World) (F : Nat → Prop) (g : Nat) (D : DS) : Prop :=
  ∃ E gs c pv, Rk w E g gs c pv D ∧ (∀ k, E k → F k) ∧ (∀ k, own3 g gs pv k → F k) ∧ ∀ k, F k → k < w.heap.size

section
variable {w w' : World} {E : Nat → Prop} {g gs c : Nat} {pv : Value} {D D' : DS}
theorem Rk.own_lt (h : Rk w E g gs c pv D) : ∀ k, own3 g gs pv k → k < w.heap.size ∧ ¬ E k := fun k hk => by
  rcases hk with rfl | rfl | hk
  · exact ⟨h.head.lt, h.e1⟩
  · exact ⟨h.secs.lt, h.e2⟩
  · exact ⟨h.pend.lt k hk, (h.e4 k hk).1⟩
theorem Rk.same (h : Rk w E g gs c pv D) (hs : w.heap.size ≤ w'.heap.size) (he : ∀ k, k < w.heap.size → E k ∨ own3 g gs pv k → w'.heap[k]? = w.heap[k]?) : Rk w' E g gs c pv D :=
  ⟨h.ok, h.cap, h.head.same (he g h.head.lt (.inr (.inl rfl))), h.secs.same hs (fun k hk hl => he k hl (.inl hk)) (he gs h.secs.lt (.inr (.inr (.inl rfl)))),
    h.pend.same hs (fun k hk hl => he k hl (.inl hk)) (fun k hk => he k (h.pend.lt k hk) (.inr (.inr (.inr hk)))), h.e1, h.e2, h.e4, h.n1⟩
theorem Rk.drew (h : Rk w E g gs c pv D) : Rk w.drew E g gs c pv D := h.same (Nat.le_refl _) (fun _ _ _ => rfl)
theorem Rk.alloc (h : Rk w E g gs c pv D) (o : Obj) : Rk (w.alloc o) E g gs c pv D := h.same (by simp) (fun k hk _ => Below.heap_alloc _ _ _ hk)
theorem Rk.mono (h : Rk w E g gs c pv D) (G : Nat → Prop) (hG : ∀ k, G k → ¬ own3 g gs pv k) : Rk w (fun k => E k ∨ G k) g gs c pv D :=
  ⟨h.ok, h.cap, h.head, h.secs.mono fun _ => .inl, h.pend.mono fun _ => .inl, fun e => e.elim h.e1 fun e => hG _ e (.inl rfl), fun e => e.elim h.e2 fun e => hG _ e (.inr (.inl rfl)),
    fun k hk => ⟨fun e => e.elim (h.e4 k hk).1 fun e => hG _ e (.inr (.inr hk)), (h.e4 k hk).2⟩, h.n1⟩
theorem Rk.turned (h : Rk w E g gs c pv D) (hs : w.heap.size ≤ w'.heap.size) (ho : ∀ k, k < w.heap.size → k ≠ g → w'.heap[k]? = w.heap[k]?) (hS : D'.S = D.S) (hP : D'.P = D.P) (hok : D'.Ok)
    (hb : Blk w' g 46 #[.slice (some ⟨gs, 0, none⟩) D.S.length c, pv, .bool D'.dead, .int .i64 (D'.armed : Int), .int .i64 (D'.steps : Int)]) : Rk w' E g gs c pv D' := by
  have hE : ∀ k, E k → k ≠ g := fun k hk e => h.e1 (e ▸ hk)
  refine ⟨hok, by rw [hS]; exact h.cap, by rw [hS]; exact hb, ?_, ?_, h.e1, h.e2, h.e4, h.n1⟩
  · rw [hS]; exact h.secs.same hs (fun k hk hl => ho k hl (hE k hk)) (ho gs h.secs.lt h.n1.symm)
  · rw [hP]; exact h.pend.same hs (fun k hk hl => ho k hl (hE k hk)) (fun k hk => ho k (h.pend.lt k hk) (h.e4 k hk).2.1)
theorem Rk.set_ (h : Rk w E g gs c pv D) (s : Nat) (v : Value) (b : List UInt8) (hv : Sec w E v b) (hb : b = [] ∨ b.length = 256) :
    Rk (w.setCell ⟨gs, s, none⟩ v) E g gs c pv { D with S := D.S.set s b } := by
  have hf : ∀ k, k ≠ gs → (w.setCell ⟨gs, s, none⟩ v).heap[k]? = w.heap[k]? := fun k hk => Below.heap_setCell _ _ _ _ hk
  have hE : ∀ k, E k → k ≠ gs := fun k hk e => h.e2 (e ▸ hk)
  have hl : (D.S.set s b).length = D.S.length := List.length_set
  have hsz : w.heap.size ≤ (w.setCell ⟨gs, s, none⟩ v).heap.size := by simp [World.setCell]
  refine ⟨⟨by show 16 ≤ (D.S.set s b).length; rw [hl]; exact h.ok.lo, by show (D.S.set s b).length ≤ _; rw [hl]; exact h.ok.hi, fun c hc => ?_, fun p hp => by show p.1 < (D.S.set s b).length ∧ _; rw [hl]; exact h.ok.pend p hp, h.ok.armed⟩, by show (D.S.set s b).length ≤ c; rw [hl]; exact h.cap, ?_, h.secs.set_ h.e2 s v b hv, ?_, h.e1, h.e2, h.e4, h.n1⟩
  · rcases List.mem_or_eq_of_mem_set hc with hc | rfl
    · exact h.ok.sec c hc
    · exact hb
  · show Blk _ g _ #[.slice _ (D.S.set s b).length c, _, _, _, _]
    rw [hl]
    exact h.head.far h.n1 v
  · exact h.pend.same hsz (fun k hk _ => hf k (hE k hk)) (fun k hk => hf k (h.e4 k hk).2.2)
end

theorem Ref.off {w w' : World} {F G : Nat → Prop} {g : Nat} {D : DS} (h : Ref w F g D) (ho : Off G w w') (hd : ∀ k, F k → ¬ G k) : Ref w' F g D := by
  obtain ⟨E, gs, c, pv, hk, h1, h2, h3⟩ := h
  exact ⟨E, gs, c, pv, hk.same ho.size fun k hlt hk' => ho.block k hlt (hd k (hk'.elim (h1 k) (h2 k))), h1, h2, fun k hk => Nat.lt_of_lt_of_le (h3 k hk) ho.size⟩
theorem Ref.below {w w' : World} {F : Nat → Prop} {g : Nat} {D : DS} (h : Ref w F g D) (hb : Below w.heap.size w w') : Ref w' F g D := h.off (Off.of_new hb fun _ => False) (fun _ _ => id)
theorem Ref.keep {w w' : World} {F : Nat → Prop} {g : Nat} {D : DS} (h : Ref w F g D) (hk : Keep F w w') : Ref w' F g D := by
  obtain ⟨E, gs, c, pv, hr, h1, h2, h3⟩ := h
  exact ⟨E, gs, c, pv, hr.same hk.size fun k _ hk' => hk.at_ k (hk'.elim (h1 k) (h2 k)), h1, h2, fun k hf => Nat.lt_of_lt_of_le (h3 k hf) hk.size⟩
theorem Ref.lt {w : World} {F : Nat → Prop} {g : Nat} {D : DS} (h : Ref w F g D) : ∀ k, F k → k < w.heap.size := by obtain ⟨_, _, _, _, _, _, _, h3⟩ := h; exact h3
theorem Ref.has {w : World} {F : Nat → Prop} {g : Nat} {D : DS} (h : Ref w F g D) : F g := by obtain ⟨_, _, _, _, _, _, h2, _⟩ := h; exact h2 g (.inl rfl)
theorem Ref.ok {w : World} {F : Nat → Prop} {g : Nat} {D : DS} (h : Ref w F g D) : D.Ok := by obtain ⟨_, _, _, _, h, _⟩ := h; exact h.ok

/-- What a walk is told of the reference's own block. -/
structure RHead (w : World) (g : Nat) (A : Option Addr) (n c : Nat) (pv : Value) (dead : Bool) (armed steps : Nat) : Prop where
  c0 : w.cell? ⟨g, 0, none⟩ = some (.slice A n c)
  c1 : w.cell? ⟨g, 1, none⟩ = some pv
  c2 : w.cell? ⟨g, 2, none⟩ = some (.bool dead)
  c3 : w.cell? ⟨g, 3, none⟩ = some (.int .i64 (armed : Int))
  c4 : w.cell? ⟨g, 4, none⟩ = some (.int .i64 (steps : Int))
  f : ∀ i, w.frozen? ⟨g, i, none⟩ = false
theorem Rk.hd {w : World} {E : Nat → Prop} {g gs c : Nat} {pv : Value} {D : DS} (h : Rk w E g gs c pv D) : RHead w g (some ⟨gs, 0, none⟩) D.S.length c pv D.dead D.armed D.steps :=
  ⟨h.head.cell 0, h.head.cell 1, h.head.cell 2, h.head.cell 3, h.head.cell 4, h.head.frozen⟩

theorem roff_hd (g n c armed steps : Nat) (A : Option Addr) (pv : Value) (dead : Bool) (w : World) (h : RHead w g A n c pv dead armed steps) :
    Calls Try.prog 42 #[.pointer (some ⟨g, 0, none⟩)] w fun e w' => e = .returned (.tuple #[]) ∧ w.setCell ⟨g, 2, none⟩ (.bool true) = w' := by
  have h0 := h.c2
  have hf := h.f 2
  clear h
  go_enter Try.func42, Try.ntmps42
  go_wp2
  go_end0
  exact ⟨rfl, rfl⟩
theorem Ref.off_ (g : Nat) (F : Nat → Prop) (D : DS) (w : World) (h : Ref w F g D) :
    Calls Try.prog 42 #[.pointer (some ⟨g, 0, none⟩)] w fun e w' => e = .returned (.tuple #[]) ∧ Ref w' F g (offD D) ∧ Off F w w' := by
  have hF := h.has
  obtain ⟨E, gs, c, pv, hk, h1, h2, h3⟩ := h
  refine (roff_hd g _ _ _ _ _ _ _ w hk.hd).mono ?_
  rintro e w' ⟨rfl, rfl⟩
  refine ⟨rfl, ⟨E, gs, c, pv, ?_, h1, h2, fun k hk' => by simpa [World.setCell] using h3 k hk'⟩, (Off.set_ _ _ _).mono fun k _ e => by rw [show k = g from e]; exact hF⟩
  exact hk.turned (by simp [World.setCell]) (fun k _ hne => Below.heap_setCell _ _ _ _ hne) rfl rfl ⟨hk.ok.lo, hk.ok.hi, hk.ok.sec, hk.ok.pend, hk.ok.armed⟩ (by have h5 := hk.head.set_ 2 (.bool true); simp only [List.setIfInBounds_toArray, List.set_cons_succ, List.set_cons_zero] at h5; exact h5)

set_option maxHeartbeats 400000 in
theorem rarm_hd (g n c armed steps : Nat) (A : Option Addr) (pv : Value) (dead : Bool) (i : Int) (w : World) (h : RHead w g A n c pv dead armed steps) :
    Calls Try.prog 41 #[.pointer (some ⟨g, 0, none⟩), .int .i64 i] w fun e w' => (e = .returned (.int .i64 (if dead then 4 else if i < 0 then 1 else 0))) ∧ (if dead then w else if i < 0 then w else w.setCell ⟨g, 3, none⟩ (.int .i64 i)) = w' := by
  have h0 := h.c3
  have h2 := h.c2
  have hf := h.f 3
  clear h
  cases dead
  · by_cases hi : i < 0
    · have hd : decide (i < 0) = true := by simpa using hi
      go_enter Try.func41, Try.ntmps41
      go_wp2
      go_ret
      exact ⟨by simp, by simp⟩
    · have hd : decide (i < 0) = false := by simpa using hi
      go_enter Try.func41, Try.ntmps41
      go_wp2
      go_ret
      exact ⟨by simp, by simp⟩
  · go_enter Try.func41, Try.ntmps41
    go_wp2
    go_ret
    exact ⟨rfl, rfl⟩
theorem Ref.arm_ (g : Nat) (F : Nat → Prop) (D : DS) (i : Int) (w : World) (h : Ref w F g D) (hi : i < 9223372036854775808) :
    Calls Try.prog 41 #[.pointer (some ⟨g, 0, none⟩), .int .i64 i] w fun e w' => e = .returned (.int .i64 (armE D i)) ∧ Ref w' F g (armD D i) ∧ Off F w w' := by
  have hF := h.has
  have hD := h
  obtain ⟨E, gs, c, pv, hk, h1, h2, h3⟩ := h
  refine (rarm_hd g _ _ _ _ _ _ _ i w hk.hd).mono ?_
  rintro e w' ⟨rfl, rfl⟩
  refine ⟨rfl, ?_⟩
  unfold armD
  split
  · exact ⟨hD, Off.refl _ _⟩
  · split
    · exact ⟨hD, Off.refl _ _⟩
    · rename_i hi0
      refine ⟨⟨E, gs, c, pv, ?_, h1, h2, fun k hk' => by simpa [World.setCell] using h3 k hk'⟩, (Off.set_ _ _ _).mono fun k _ e => by rw [show k = g from e]; exact hF⟩
      have hii : ((i.toNat : Nat) : Int) = i := by omega
      refine hk.turned (by simp [World.setCell]) (fun k _ hne => Below.heap_setCell _ _ _ _ hne) rfl rfl ⟨hk.ok.lo, hk.ok.hi, hk.ok.sec, hk.ok.pend, by show i.toNat < _; omega⟩ ?_
      show Blk _ g _ #[_, _, _, .int .i64 ((i.toNat : Nat) : Int), _]
      rw [hii]
      simpa using hk.head.set_ 3 (.int .i64 i)

def rstepW (w : World) (g armed steps : Nat) : World :=
  if armed = 0 then w.setCell ⟨g, 4, none⟩ (.int .i64 ((steps : Int) + 1))
  else ((w.setCell ⟨g, 4, none⟩ (.int .i64 ((steps : Int) + 1))).setCell ⟨g, 3, none⟩ (.int .i64 ((armed : Int) - 1))).setCell ⟨g, 2, none⟩ (.bool (decide (armed = 1)))
def rstepB (dead : Bool) (armed : Nat) : Bool := if armed = 0 then dead else decide (armed = 1)

set_option maxHeartbeats 400000 in
theorem rstep_hd (g n c armed steps : Nat) (A : Option Addr) (pv : Value) (dead : Bool) (w : World) (h : RHead w g A n c pv dead armed steps) (hs : steps < 1000000000) (ha : armed < 9223372036854775808) :
    Calls Try.prog 51 #[.pointer (some ⟨g, 0, none⟩)] w fun e w' => e = .returned (.bool (rstepB dead armed)) ∧ rstepW w g armed steps = w' := by
  have h3 := h.c2
  have h4 := h.c3
  have h5 := h.c4
  have f3 := h.f 2
  have f4 := h.f 3
  have f5 := h.f 4
  clear h
  by_cases h0 : armed = 0
  · subst h0
    go_enter Try.func51, Try.ntmps51
    go_wp2
    go_ret
    exact ⟨rfl, rfl⟩
  · have hp : (0 : Int) < (armed : Int) := by omega
    by_cases h1 : armed = 1
    · subst h1
      go_enter Try.func51, Try.ntmps51
      go_wp2
      go_ret
      exact ⟨rfl, rfl⟩
    · have hd1 : ((armed : Int) - 1 == 0) = false := by simp; omega
      have hd2 : decide ((armed : Int) - 1 = 0) = false := by simp; omega
      go_enter Try.func51, Try.ntmps51
      go_wp2
      go_ret
      exact ⟨by simp [rstepB, h0, h1], by simp [rstepW, h0, h1]⟩

theorem Rk.step_ {w : World} {E : Nat → Prop} {g gs c : Nat} {pv : Value} {D : DS} (h : Rk w E g gs c pv D) : Rk (rstepW w g D.armed D.steps) E g gs c pv (stepD D) := by
  have hn := stepD_ok h.ok
  unfold rstepW stepD at *
  have h1 := h.head
  split
  · rename_i h0
    rw [if_pos h0] at hn
    refine h.turned (by simp [World.setCell]) (fun k _ hne => Below.heap_setCell _ _ _ _ hne) rfl rfl hn ?_
    have h2 := h1.set_ 4 (.int .i64 ((D.steps : Int) + 1))
    have e : (D.armed : Int) = ((D.armed - 1 : Nat) : Int) := by omega
    simp only [List.setIfInBounds_toArray, List.set_cons_succ, List.set_cons_zero] at h2
    show Blk _ g _ #[_, _, _, .int .i64 ((D.armed - 1 : Nat) : Int), .int .i64 ((D.steps + 1 : Nat) : Int)]
    rw [← e]
    exact h2
  · rename_i h0
    rw [if_neg h0] at hn
    refine h.turned (by simp [World.setCell]) (fun k _ hne => (Below.heap_setCell _ _ _ _ hne).trans ((Below.heap_setCell _ _ _ _ hne).trans (Below.heap_setCell _ _ _ _ hne))) rfl rfl hn ?_
    have h2 := ((h1.set_ 4 (.int .i64 ((D.steps : Int) + 1))).set_ 3 (.int .i64 ((D.armed : Int) - 1))).set_ 2 (.bool (decide (D.armed = 1)))
    have e : (D.armed : Int) - 1 = ((D.armed - 1 : Nat) : Int) := by omega
    simp only [List.setIfInBounds_toArray, List.set_cons_succ, List.set_cons_zero] at h2
    rw [e] at h2 ⊢
    exact h2
theorem rstepW_off (w : World) (g armed steps : Nat) : Off (fun k => k = g) w (rstepW w g armed steps) := by
  unfold rstepW
  split
  · exact Off.setc _ _ _ _
  · exact ((Off.setc _ _ _ _).trans (Off.setc _ _ _ _)).trans (Off.setc _ _ _ _)
theorem rstepW_size (w : World) (g armed steps : Nat) : (rstepW w g armed steps).heap.size = w.heap.size := by
  unfold rstepW
  split <;> simp [World.setCell]

end Go.Proofs.Ytdohfkblmadejaa
