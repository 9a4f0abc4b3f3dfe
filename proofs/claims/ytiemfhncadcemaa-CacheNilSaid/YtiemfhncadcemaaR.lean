/- Barrier and On. -/
import Derived.Test.YtiemfhncadcemaaQ
namespace Go.Proofs.Ytiemfhncadcemaa
open Go.RowKit Dsk

set_option maxHeartbeats 400000 in
theorem barrier_nil (w : World) : Calls Try.prog 35 #[.pointer none] w fun e w' => e = .returned (.int .i64 2) ∧ Below w.heap.size w w' := by
  have HB := Lib.hid ((Below.refl w.heap.size w).alloc (Nat.le_refl _) (.cells #[.pointer none] 25))
  go_enter Try.func35, Try.ntmps35
  go_wp2_with (go_at_call 45; refine (refuses_nil _ _).mono ?_; rintro e w' ⟨rfl, rfl⟩)
  go_ret
  exact ⟨rfl, HB.out⟩

def barE (D : DS) : Int := if D.dead then 4 else stepE D
def barD (D : DS) : DS := if D.dead then D else if (stepD D).dead then stepD D else clearD (sett (fun _ b => some b) (stepD D) D.P.length)

set_option maxHeartbeats 400000 in
theorem barrier_dead (g n armed steps : Nat) (A : Option Addr) (rv lv : Value) (w : World) (h : Head w g A n rv lv true armed steps) :
    Calls Try.prog 35 #[.pointer (some ⟨g, 0, none⟩)] w fun e w' => e = .returned (.int .i64 4) ∧ Below w.heap.size w w' := by
  have HB := Lib.hid ((Below.refl w.heap.size w).alloc (Nat.le_refl _) (.cells #[.pointer (some ⟨g, 0, none⟩)] 25))
  have hg := World.block_lt_of_cell? w _ h.c0
  have ha : ∀ i, (w.alloc (.cells #[.pointer (some ⟨g, 0, none⟩)] 25)).cell? ⟨g, i, none⟩ = w.cell? ⟨g, i, none⟩ := fun i => World.cell?_of_block (a := ⟨g, i, none⟩) (Below.heap_alloc _ _ _ hg)
  have hf : ∀ i, (w.alloc (.cells #[.pointer (some ⟨g, 0, none⟩)] 25)).frozen? ⟨g, i, none⟩ = w.frozen? ⟨g, i, none⟩ := fun i => World.frozen?_of_block (a := ⟨g, i, none⟩) (Below.heap_alloc _ _ _ hg)
  have H := Lib.hid (refuses_hd g n armed steps A rv lv true 0 (w.alloc (.cells #[.pointer (some ⟨g, 0, none⟩)] 25))
    ⟨(ha 0).trans h.c0, (ha 1).trans h.c1, (ha 2).trans h.c2, (ha 3).trans h.c3, (ha 4).trans h.c4, (ha 5).trans h.c5, fun i => (hf i).trans (h.f i)⟩)
  clear h ha hf
  go_enter Try.func35, Try.ntmps35
  go_wp2_with (go_at_call 45; refine H.out.mono ?_; rintro e w' ⟨rfl, rfl⟩)
  go_ret
  exact ⟨rfl, HB.out⟩

set_option maxHeartbeats 1000000 in
theorem barrier_on (g gl gi : Nat) (rv : Value) (D : DS) (E : Nat → Prop) (w : World) (h : Dk w E g gl gi rv D) (hd : D.dead = false) (hP : D.P.length < 1000000) (hS : D.steps < 1000000000) :
    Calls Try.prog 35 #[.pointer (some ⟨g, 0, none⟩)] w fun e w' => e = .returned (.int .i64 (barE D)) ∧ (∃ rv', Dk w' E g gl gi rv' (barD D) ∧ (rv' = rv ∨ rv' = .slice none 0 0)) ∧ Off (own4 g gl gi rv) w w' := by
  have ha := h.alloc (.cells #[.pointer (some ⟨g, 0, none⟩)] 25)
  have HK := Lib.hid h
  have HA := Lib.hid ha
  have H1 := Lib.hid (refuses_hd g _ _ _ _ _ _ _ 0 _ ha.hd)
  have e0 : refuse D.dead D.S.length 0 = 0 := by have := h.ok.lo; rw [hd]; unfold refuse; rw [if_neg (by decide), if_neg (by omega)]
  rw [e0] at H1
  have H2 := Lib.hid (step_hd g _ _ _ _ _ _ _ _ ha.hd hS ha.ok.armed)
  have hb := Blk.new w 25 #[.pointer (some ⟨g, 0, none⟩)]
  have hg := h.head.lt
  have hgl := h.secs.lt
  have c1 : w.cell? ⟨g, 1, none⟩ = some rv := h.hd.c1
  have hO : Off (own4 g gl gi rv) w (stepW (w.alloc (.cells #[.pointer (some ⟨g, 0, none⟩)] 25)) g D.armed D.steps) := (Off.alloc _ _ _).trans ((stepW_off _ _ _ _).mono fun k _ e => .inl e)
  have HO := Lib.hid hO
  have hs := Lib.hid ha.step_
  have hblk : Blk (stepW (w.alloc (.cells #[.pointer (some ⟨g, 0, none⟩)] 25)) g D.armed D.steps) w.heap.size 25 #[.pointer (some ⟨g, 0, none⟩)] := hb.off (stepW_off _ _ _ _) (by omega)
  have HD := Lib.hid hd
  have hc := hblk.cell 0
  have e1 : stepEv D.dead D.armed = stepE D := rfl
  rw [e1] at H2
  simp only [List.getElem?_toArray, List.getElem?_cons_zero] at hc
  clear ha h e0 hb hO hd hblk e1
  generalize hw1 : stepW (w.alloc (.cells #[.pointer (some ⟨g, 0, none⟩)] 25)) g D.armed D.steps = w1 at *
  by_cases hq : (stepD D).dead = true
  · have e1 : stepE D = 4 := by unfold stepE; rw [hq]; rfl
    have e2 : barE D = 4 := by unfold barE; rw [HD.out, e1]; rfl
    have e3 : barD D = stepD D := by unfold barD; rw [HD.out, hq]; rfl
    rw [e1] at H2
    rw [e2, e3]
    clear e1 e2 e3 hc
    go_enter Try.func35, Try.ntmps35
    go_wp2_with fail
    refine H1.out.mono ?_
    rintro e w' ⟨rfl, rfl⟩
    go_wp2_with fail
    refine H2.out.mono ?_
    rintro e w' ⟨rfl, rfl⟩
    go_wp2_with fail
    go_ret
    exact ⟨rfl, ⟨_, hs.out, .inl rfl⟩, HO.out⟩
  · have hq' : (stepD D).dead = false := by simpa using hq
    have e1 : stepE D = 0 := by unfold stepE; rw [hq']; rfl
    have e2 : barE D = 0 := by unfold barE; rw [HD.out, e1]; rfl
    have e3 : barD D = clearD (sett (fun _ b => some b) (stepD D) D.P.length) := by unfold barD; rw [HD.out, hq']; rfl
    rw [e1] at H2
    rw [e2, e3]
    have H3 := Lib.hid (settle_bar w.heap.size g gl gi rv (stepD D) E w1 hs.out hP hc (by omega))
    clear e1 e2 e3 hq hq'
    go_enter Try.func35, Try.ntmps35
    go_wp2_with fail
    refine H1.out.mono ?_
    rintro e w' ⟨rfl, rfl⟩
    go_wp2_with fail
    refine H2.out.mono ?_
    rintro e w' ⟨rfl, rfl⟩
    go_wp2_with fail
    refine H3.out.mono ?_
    rintro e w2 ⟨rfl, hD2, hO2⟩
    have HD2 := Lib.hid hD2
    have HO2 := Lib.hid (HO.out.trans hO2)
    clear hD2 hO2
    go_wp2_with fail
    go_ret
    exact ⟨rfl, ⟨_, HD2.out, .inr rfl⟩, HO2.out⟩

theorem Disk.barrier_ (g : Nat) (F : Nat → Prop) (D : DS) (w : World) (h : Disk w F g D) (hP : D.P.length < 1000000) (hS : D.steps < 1000000000) :
    Calls Try.prog 35 #[.pointer (some ⟨g, 0, none⟩)] w fun e w' => e = .returned (.int .i64 (barE D)) ∧ Disk w' F g (barD D) ∧ Off F w w' := by
  have hD := h
  obtain ⟨E, gl, gi, rv, hk, h1, h2, h3⟩ := h
  by_cases hd : D.dead = true
  · have e1 : barE D = 4 := by unfold barE; rw [hd]; rfl
    have e2 : barD D = D := by unfold barD; rw [hd]; rfl
    rw [e1, e2]
    refine (barrier_dead g _ _ _ _ _ _ w (hd ▸ hk.hd)).mono ?_
    rintro e w' ⟨rfl, hb⟩
    exact ⟨rfl, hD.below hb, Off.of_new hb _⟩
  · refine (barrier_on g gl gi rv D E w hk (by simpa using hd) hP hS).mono ?_
    rintro e w' ⟨rfl, ⟨rv', hk', hr⟩, ho⟩
    refine ⟨rfl, ⟨E, gl, gi, rv', hk', h1, fun k hk2 => ?_, fun k hk2 => Nat.lt_of_lt_of_le (h3 k hk2) ho.size⟩, ho.mono fun k _ => h2 k⟩
    rcases hr with rfl | rfl
    · exact h2 k hk2
    · rcases hk2 with rfl | rfl | rfl | hk2
      · exact h2 _ (.inl rfl)
      · exact h2 _ (.inr (.inl rfl))
      · exact h2 _ (.inr (.inr (.inl rfl)))
      · cases hk2

end Go.Proofs.Ytiemfhncadcemaa
