/- The reference's Barrier and On. -/
import Derived.Test.YtdohfkblmadejaaRc
namespace Go.Proofs.Ytdohfkblmadejaa
open Go.RowKit Dsk

theorem Rk.setd {w : World} {E : Nat → Prop} {g gs c : Nat} {pv : Value} {D : DS} (h : Rk w E g gs c pv D) (s : Nat) (v : Value) (b : List UInt8) (hv : Sec w E v b) (hb : b = [] ∨ b.length = 256) : Rk (w.setCell ⟨gs, s, none⟩ v) E g gs c pv (setD D s (some b)) := h.set_ s v b hv hb

theorem Rk.cleared {w : World} {E : Nat → Prop} {g gs c : Nat} {pv : Value} {D : DS} (h : Rk w E g gs c pv D) : Rk (w.setCell ⟨g, 1, none⟩ (.slice none 0 0)) E g gs c (.slice none 0 0) (clearD D) := by
  have hE : ∀ k, E k → k ≠ g := fun k hk e => h.e1 (e ▸ hk)
  have hsz : w.heap.size ≤ (w.setCell ⟨g, 1, none⟩ (.slice none 0 0)).heap.size := by simp [World.setCell]
  refine ⟨⟨h.ok.lo, h.ok.hi, h.ok.sec, (fun p hp => by cases hp), h.ok.armed⟩, h.cap, ?_, h.secs.same hsz (fun k hk _ => Below.heap_setCell _ _ _ _ (hE k hk)) (Below.heap_setCell _ _ _ _ h.n1.symm), Pend.nil _ _ _, h.e1, h.e2, (fun k hk => by cases hk), h.n1⟩
  have h1 := h.head.set_ 1 (.slice none 0 0)
  simp only [List.setIfInBounds_toArray, List.set_cons_succ, List.set_cons_zero] at h1
  exact h1

set_option maxHeartbeats 2000000 in
theorem rbarrier_on (g gs c : Nat) (rv : Value) (D : DS) (E : Nat → Prop) (w : World) (h : Rk w E g gs c rv D) (hd : D.dead = false) (hP : D.P.length < 1000000) (hS : D.steps < 1000000000) (hq : (stepD D).dead = false) :
    Calls Try.prog 40 #[.pointer (some ⟨g, 0, none⟩)] w fun e w' => e = .returned (.int .i64 0) ∧ Rk w' E g gs c (.slice none 0 0) (clearD (sett (fun _ b => some b) (stepD D) D.P.length)) ∧ Off (own3 g gs rv) w w' := by
  have c2 := h.hd.c2
  rw [hd] at c2
  have h2 := rstep_hd g _ _ _ _ _ _ _ _ h.hd hS h.ok.armed
  have e4 : rstepB D.dead D.armed = (stepD D).dead := rfl
  rw [e4, hq] at h2
  have H2 := Lib.hid h2
  have hs := h.step_
  have HO := Lib.hid ((rstepW_off w g D.armed D.steps).mono (G := own3 g gs rv) fun k _ e => .inl e)
  obtain ⟨A, cp, rfl, hle, hmx⟩ := h.pend.shape
  obtain ⟨m, hm⟩ : ∃ m, D.P.length = m := ⟨_, rfl⟩
  have hm2 : (stepD D).P.length = m := hm
  rw [hm] at hs hP hle HO ⊢
  have HS := Lib.hid hs
  have HM := Lib.hid hm2
  clear h2 e4 h hd hS hq hs hm hm2
  generalize hw1 : rstepW w g D.armed D.steps = w1 at *
  generalize stepD D = D1 at *
  clear hw1
  go_enter Try.func40, Try.ntmps40
  go_wp2_with fail
  refine H2.out.mono ?_
  rintro e w' ⟨rfl, rfl⟩
  go_wp2_with fail
  go_loopw [3] (fun i wr => ∃ k : Nat, k ≤ m ∧ i = .int .i64 (k : Int) ∧ Hid (Rk wr E g gs c (.slice A m cp) (sett (fun _ b => some b) D1 k)) ∧ Hid (Off (own3 g gs (.slice A m cp)) w wr)) (fun i _ => m - (intOf i).toNat)
  case atStart => exact ⟨0, Nat.zero_le _, rfl, HS, HO⟩
  case round =>
    obtain ⟨k, hk, rfl, hR, hO⟩ := hrel
    clear HS HO
    have hhd := hR.out.hd
    have c0 := hhd.c0
    have c1 := hhd.c1
    by_cases hlt : k < m
    · have hd : decide ((k : Int) < (m : Int)) = true := by simpa using hlt
      obtain ⟨⟨s, b⟩, hpk⟩ : ∃ p, D1.P[k]? = some p := ⟨_, List.getElem?_eq_getElem (by rw [HM.out]; exact hlt)⟩
      obtain ⟨r, cc, v, er, hr, q1, q2, hsec⟩ := hR.out.pend.at_ (show (sett (fun _ b => some b) D1 k).P[k]? = _ from hpk)
      injection er with er1 er2 er3
      subst er1
      have hsec0 := hsec
      obtain ⟨Av, cv, rfl, hsec2⟩ := hsec
      obtain ⟨L, hL⟩ : ∃ L, b.length = L := ⟨_, rfl⟩
      have q3 : wr.cell? ⟨r, k * 2 + 1, none⟩ = some (.slice Av L cv) := by rw [← hL]; exact q2
      have hsec1 : Sec wr E (.slice Av L cv) b := by rw [← hL]; exact hsec0
      have hrk : k * 2 + 1 < 3000000 := by omega
      have hin := hR.out.ok.pend (s, b) (List.mem_of_getElem? (show (sett (fun _ b => some b) D1 k).P[k]? = _ from hpk))
      have hset := hR.out.setd s _ b hsec1 (.inr hin.2)
      rw [← sett_succ _ D1 k s b hpk] at hset
      obtain ⟨v0, hv0⟩ : ∃ v, wr.cell? ⟨gs, s, none⟩ = some v := by
        obtain ⟨v, hv, _⟩ := hR.out.secs.at_ (List.getElem?_eq_getElem hin.1)
        exact ⟨v, hv⟩
      have hf0 := hR.out.secs.free s
      have hn := hR.out.ok.hi
      have hs0 : (0 : Int) ≤ (s : Int) := by omega
      have hsl : s < (sett (fun _ b => some b) D1 k).S.length := hin.1
      have HSET := Lib.hid hset.drew
      have HO2 := Lib.hid (hO.out.trans (((Off.setc wr gs s (.slice Av L cv)).mono (G := own3 g gs (.slice (some ⟨r, 0, none⟩) m cp)) fun k _ e => .inr (.inl e)).trans (Off.drew _ _)))
      simp only at q1
      clear hset hin hsec0 hsec1 hsec2 hpk er2 er3 hL q2 hhd hR hO
      generalize (sett (fun _ b => some b) D1 k).S.length = n at *
      go_wp2
      go_region
      all_goals
        go_wp2
        go_roundw
        case rel => exact ⟨k + 1, by omega, by go_num, HSET, HO2⟩
        case measure => simp [intOf]; omega
    · obtain rfl : m = k := by omega
      have hd : decide ((m : Int) < (m : Int)) = false := by simp
      have hf1 := hhd.f 1
      have HC := Lib.hid hR.out.cleared
      have HO2 := Lib.hid (hO.out.trans ((Off.setc wr g 1 (.slice none 0 0)).mono (G := own3 g gs (.slice A m cp)) fun k _ e => .inl e))
      clear hhd hR hO
      go_wp2
      go_ret
      exact ⟨rfl, HC.out, HO2.out⟩

theorem rbarrier_off (g n c armed steps : Nat) (A : Option Addr) (pv : Value) (w : World) (h : RHead w g A n c pv true armed steps) :
    Calls Try.prog 40 #[.pointer (some ⟨g, 0, none⟩)] w fun e w' => e = .returned (.int .i64 4) ∧ w = w' := by
  have h2 := h.c2
  clear h
  go_enter Try.func40, Try.ntmps40
  go_wp2
  go_ret
  exact ⟨rfl, rfl⟩

theorem rbarrier_goes (g gs c : Nat) (rv : Value) (D : DS) (E : Nat → Prop) (w : World) (h : Rk w E g gs c rv D) (hd : D.dead = false) (hS : D.steps < 1000000000) (hq : (stepD D).dead = true) :
    Calls Try.prog 40 #[.pointer (some ⟨g, 0, none⟩)] w fun e w' => e = .returned (.int .i64 4) ∧ Rk w' E g gs c rv (stepD D) ∧ Off (own3 g gs rv) w w' := by
  have c2 := h.hd.c2
  rw [hd] at c2
  have h2 := rstep_hd g _ _ _ _ _ _ _ _ h.hd hS h.ok.armed
  have e4 : rstepB D.dead D.armed = (stepD D).dead := rfl
  rw [e4, hq] at h2
  have H2 := Lib.hid h2
  have HS := Lib.hid h.step_
  have HO := Lib.hid ((rstepW_off w g D.armed D.steps).mono (G := own3 g gs rv) fun k _ e => .inl e)
  clear h2 e4 h hd hS hq
  go_enter Try.func40, Try.ntmps40
  go_wp2_with fail
  refine H2.out.mono ?_
  rintro e w' ⟨rfl, rfl⟩
  go_wp2_with fail
  go_ret
  exact ⟨rfl, HS.out, HO.out⟩

theorem Ref.of_nil {w w' : World} {F : Nat → Prop} {E : Nat → Prop} {g gs c : Nat} {rv : Value} {D : DS} (hk : Rk w' E g gs c (.slice none 0 0) D) (h1 : ∀ k, E k → F k) (h2 : ∀ k, own3 g gs rv k → F k) (h3 : ∀ k, F k → k < w.heap.size) (hs : w.heap.size ≤ w'.heap.size) : Ref w' F g D :=
  ⟨E, gs, c, _, hk, h1, (fun k hk2 => by
    rcases hk2 with rfl | rfl | hk2
    · exact h2 _ (.inl rfl)
    · exact h2 _ (.inr (.inl rfl))
    · cases hk2), fun k hk => Nat.lt_of_lt_of_le (h3 k hk) hs⟩

theorem Ref.barrier_ (g : Nat) (F : Nat → Prop) (D : DS) (w : World) (h : Ref w F g D) (hP : D.P.length < 1000000) (hS : D.steps < 1000000000) :
    Calls Try.prog 40 #[.pointer (some ⟨g, 0, none⟩)] w fun e w' => e = .returned (.int .i64 (barE D)) ∧ Ref w' F g (barD D) ∧ Off F w w' := by
  have hD := h
  obtain ⟨E, gs, c, rv, hk, h1, h2, h3⟩ := h
  by_cases hd : D.dead = true
  · have e1 : barE D = 4 := by unfold barE; rw [hd]; rfl
    have e2 : barD D = D := by unfold barD; rw [hd]; rfl
    rw [e1, e2]
    refine (rbarrier_off g _ _ _ _ _ _ w (hd ▸ hk.hd)).mono ?_
    rintro e w' ⟨rfl, rfl⟩
    exact ⟨rfl, hD, Off.refl _ _⟩
  · have hd' : D.dead = false := by simpa using hd
    cases hq : (stepD D).dead
    · have e1 : barE D = 0 := by unfold barE stepE; rw [hd', hq]; rfl
      have e2 : barD D = clearD (sett (fun _ b => some b) (stepD D) D.P.length) := by unfold barD; rw [hd', hq]; rfl
      rw [e1, e2]
      refine (rbarrier_on g gs c rv D E w hk hd' hP hS hq).mono ?_
      rintro e w' ⟨rfl, hk', ho⟩
      exact ⟨rfl, Ref.of_nil hk' h1 h2 h3 ho.size, ho.mono fun k _ => h2 k⟩
    · have e1 : barE D = 4 := by unfold barE stepE; rw [hd', hq]; rfl
      have e2 : barD D = stepD D := by unfold barD; rw [hd', hq]; rfl
      rw [e1, e2]
      refine (rbarrier_goes g gs c rv D E w hk hd' hS hq).mono ?_
      rintro e w' ⟨rfl, hk', ho⟩
      exact ⟨rfl, ⟨E, gs, c, rv, hk', h1, h2, fun k hk => Nat.lt_of_lt_of_le (h3 k hk) ho.size⟩, ho.mono fun k _ => h2 k⟩

end Go.Proofs.Ytdohfkblmadejaa
