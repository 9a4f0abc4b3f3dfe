/- On. -/
import Derived.Test.YtiemfhncadcemaaR
import Derived.ChangeAlike
namespace Go.Proofs.Ytiemfhncadcemaa
open Go.RowKit Dsk

/-- A slice of integers. -/
def Ints (w : World) (A : Option Addr) (zs : List Int) : Prop :=
  ∀ (k : Nat) (z : Int), zs[k]? = some z → ∃ b off, A = some ⟨b, off, none⟩ ∧ b < w.heap.size ∧ w.cell? ⟨b, off + k, none⟩ = some (.int .i64 z) ∧ (-9223372036854775808 ≤ z ∧ z < 9223372036854775808)
theorem Ints.nil (w : World) (A : Option Addr) : Ints w A [] := fun k z h => by simp at h
theorem Ints.below {w w' : World} {A : Option Addr} {zs : List Int} (h : Ints w A zs) (hb : Below w.heap.size w w') : Ints w' A zs := fun k z hk => by
  obtain ⟨b, off, e, hlt, h1, h2⟩ := h k z hk
  exact ⟨b, off, e, Nat.lt_of_lt_of_le hlt hb.size, (hb.cell (p := ⟨b, off + k, none⟩) hlt).trans h1, h2⟩
theorem Ints.off {w w' : World} {F : Nat → Prop} {A : Option Addr} {zs : List Int} (h : Ints w A zs) (ho : Off F w w') (hF : ∀ p : Addr, A = some p → zs ≠ [] → ¬ F p.block) : Ints w' A zs := fun k z hk => by
  obtain ⟨b, off, e, hlt, h1, h2⟩ := h k z hk
  exact ⟨b, off, e, Nat.lt_of_lt_of_le hlt ho.size, (World.cell?_of_block (a := ⟨b, off + k, none⟩) (ho.block b hlt (hF ⟨b, off, none⟩ e (fun h => by rw [h] at hk; cases hk)))).trans h1, h2⟩

theorem on_nil (K : Option Addr) (kl kc : Nat) (torn : Int) (w : World) : Calls Try.prog 29 #[.pointer none, .slice K kl kc, .int .i64 torn] w fun e w' => e = .returned (.int .i64 2) ∧ Below w.heap.size w w' := by
  have HB := Lib.hid (((Below.refl w.heap.size w).alloc (Nat.le_refl _) (.cells #[.pointer none] 25)).alloc (by simp) (.cells #[.int .i64 torn] 3))
  go_enter Try.func29, Try.ntmps29
  go_wp2
  go_ret
  exact ⟨rfl, HB.out⟩

theorem on_state (g : Nat) (K : Option Addr) (kl kc : Nat) (torn : Int) (w : World) (h3 : w.cell? ⟨g, 3, none⟩ = some (.bool false)) :
    Calls Try.prog 29 #[.pointer (some ⟨g, 0, none⟩), .slice K kl kc, .int .i64 torn] w fun e w' => e = .returned (.int .i64 3) ∧ Below w.heap.size w w' := by
  have HB := Lib.hid (((Below.refl w.heap.size w).alloc (Nat.le_refl _) (.cells #[.pointer (some ⟨g, 0, none⟩)] 25)).alloc (by simp) (.cells #[.int .i64 torn] 3))
  have hg := World.block_lt_of_cell? w _ h3
  go_enter Try.func29, Try.ntmps29
  go_wp2
  go_ret
  exact ⟨rfl, HB.out⟩

/-- The power is on again. -/
def upD (D : DS) : DS := { D with dead := false, armed := 0 }
theorem Dk.up {w : World} {E : Nat → Prop} {g gl gi : Nat} {rv : Value} {D : DS} (h : Dk w E g gl gi rv D) : Dk ((w.setCell ⟨g, 3, none⟩ (.bool false)).setCell ⟨g, 4, none⟩ (.int .i64 0)) E g gl gi rv (upD D) := by
  refine h.turned (by simp [World.setCell]) (fun k _ hne => (Below.heap_setCell _ _ _ _ hne).trans (Below.heap_setCell _ _ _ _ hne)) rfl rfl ⟨h.ok.lo, h.ok.hi, h.ok.sec, h.ok.pend, by show 0 < _; decide⟩ ?_
  have h2 := (h.head.set_ 3 (.bool false)).set_ 4 (.int .i64 0)
  simp only [List.setIfInBounds_toArray, List.set_cons_succ, List.set_cons_zero] at h2
  exact h2
theorem Dk.up' {w : World} {E : Nat → Prop} {g gl gi : Nat} {rv : Value} {D : DS} (h : Dk w E g gl gi rv D) : Dk ((w.setCell ⟨g, 4, none⟩ (.int .i64 0)).setCell ⟨g, 3, none⟩ (.bool false)) E g gl gi rv (upD D) := by
  refine h.turned (by simp [World.setCell]) (fun k _ hne => (Below.heap_setCell _ _ _ _ hne).trans (Below.heap_setCell _ _ _ _ hne)) rfl rfl ⟨h.ok.lo, h.ok.hi, h.ok.sec, h.ok.pend, by show 0 < _; decide⟩ ?_
  have h2 := (h.head.set_ 4 (.int .i64 0)).set_ 3 (.bool false)
  simp only [List.setIfInBounds_toArray, List.set_cons_succ, List.set_cons_zero] at h2
  exact h2

def has (ks : List Int) (i : Int) : Bool := ks.any fun k => i == k
theorem has_snoc (ks : List Int) (z i : Int) : (i == z || has ks i) = has (ks ++ [z]) i := by
  unfold has
  rw [List.any_append, Bool.or_comm]
  simp
def onD (D : DS) (ks : List Int) (torn : Int) : DS := if D.dead then upD (clearD (sett (onF (has ks) torn) D D.P.length)) else D
def onE (D : DS) : Int := if D.dead then 0 else 3

/-- Between the rounds of On. -/
structure OnR (w : World) (g : Nat) (torn : Int) (ks : List Int) (k : Nat) (wr : World) : Prop where
  map : KMap wr (w.heap.size + 2) k (has (ks.take k))
  p2 : wr.cell? ⟨w.heap.size, 0, none⟩ = some (.pointer (some ⟨g, 0, none⟩))
  p1 : wr.cell? ⟨w.heap.size + 1, 0, none⟩ = some (.int .i64 torn)
  p3 : wr.cell? ⟨w.heap.size + 3, 0, none⟩ = some (.map (some (w.heap.size + 2)))
  bel : Below w.heap.size w wr
theorem OnR.start (w : World) (g : Nat) (torn : Int) (ks : List Int) : OnR w g torn ks 0 ((((w.alloc (.cells #[.pointer (some ⟨g, 0, none⟩)] 25)).alloc (.cells #[.int .i64 torn] 3)).alloc (.map #[] 0)).alloc (.cells #[.map (some (w.heap.size + 2))] 76)) := by
  have h1 := Blk.new w 25 #[.pointer (some ⟨g, 0, none⟩)]
  have h2 := Blk.new (w.alloc (.cells #[.pointer (some ⟨g, 0, none⟩)] 25)) 3 #[.int .i64 torn]
  have h3 := KMap.made ((w.alloc (.cells #[.pointer (some ⟨g, 0, none⟩)] 25)).alloc (.cells #[.int .i64 torn] 3))
  have h4 := Blk.new (((w.alloc (.cells #[.pointer (some ⟨g, 0, none⟩)] 25)).alloc (.cells #[.int .i64 torn] 3)).alloc (.map #[] 0)) 76 #[.map (some (w.heap.size + 2))]
  simp only [World.size_alloc] at h2 h3 h4
  refine ⟨?_, (((h1.alloc _).alloc _).alloc _).cell 0, ((h2.alloc _).alloc _).cell 0, h4.cell 0, ((((Below.refl _ w).alloc (Nat.le_refl _) _).alloc (by simp) _).alloc (by simp; omega) _).alloc (by simp; omega) _⟩
  have h5 := h3.same (Below.heap_alloc _ (.cells #[.map (some (w.heap.size + 2))] 76) _ h3.lt)
  exact h5
theorem OnR.step {w wr w' : World} {g : Nat} {torn : Int} {ks : List Int} {k : Nat} (h : OnR w g torn ks k wr) {z : Int} (hz : ks[k]? = some z) (hM : KMap w' (w.heap.size + 2) (k + 1) (fun j => j == z || has (ks.take k) j)) (ho : Off (fun j => j = w.heap.size + 2) wr w') : OnR w g torn ks (k + 1) w' := by
  have e : ks.take (k + 1) = ks.take k ++ [z] := by
    obtain ⟨hk, e⟩ := List.getElem?_eq_some_iff.1 hz
    rw [List.take_succ_eq_append_getElem hk, e]
  have keep : ∀ {p : Nat} {v : Value}, p ≠ w.heap.size + 2 → wr.cell? ⟨p, 0, none⟩ = some v → w'.cell? ⟨p, 0, none⟩ = some v := fun {p v} hne hc => (World.cell?_of_block (a := ⟨p, 0, none⟩) (ho.block p (World.block_lt_of_cell? wr _ hc) hne)).trans hc
  refine ⟨?_, keep (by omega) h.p2, keep (by omega) h.p1, keep (by omega) h.p3, h.bel.trans (ho.below h.bel.size fun j hj => by rw [show j = w.heap.size + 2 from hj]; omega)⟩
  rw [e]
  have e2 : (fun j => j == z || has (ks.take k) j) = has (ks.take k ++ [z]) := funext fun j => has_snoc _ _ _
  rw [← e2]
  exact hM

set_option maxHeartbeats 1000000 in
theorem on_dead (g gl gi kl kc : Nat) (K : Option Addr) (ks : List Int) (torn : Int) (rv : Value) (D : DS) (E : Nat → Prop) (w : World) (h : Dk w E g gl gi rv D) (hd : D.dead = true) (hP : D.P.length < 1000000) (hK : Ints w K ks) (hkl : ks.length = kl) (hk9 : kl < 1000000) :
    Calls Try.prog 29 #[.pointer (some ⟨g, 0, none⟩), .slice K kl kc, .int .i64 torn] w fun e w' => e = .returned (.int .i64 0) ∧ Dk w' E g gl gi (.slice none 0 0) (upD (clearD (sett (onF (has ks) torn) D D.P.length))) ∧ Off (own4 g gl gi rv) w w' := by
  have c3 : w.cell? ⟨g, 3, none⟩ = some (.bool true) := by have := h.hd.c3; rw [hd] at this; exact this
  have hg := h.head.lt
  have HK := Lib.hid h
  have HI := Lib.hid hK
  have HL := Lib.hid hkl
  have HP := Lib.hid hP
  have hmm := @run_makeMap Try.prog
  clear h hd hP hK hkl
  go_enter Try.func29, Try.ntmps29
  go_wp2
  have HST := Lib.hid (OnR.start w g torn ks)
  go_loopw [9, 20] (fun u i wr => ∃ k : Nat, k ≤ kl ∧ i = .int .i64 (k : Int) ∧ Hid (OnR w g torn ks k wr)) (fun _ i _ => kl - (intOf i).toNat)
  case atStart => exact ⟨0, Nat.zero_le _, rfl, HST⟩
  case round =>
    obtain ⟨k, hk, rfl, hR⟩ := hrel
    clear HST
    by_cases hlt : k < kl
    · have hd : decide ((k : Int) < (kl : Int)) = true := by simpa using hlt
      obtain ⟨z, hz⟩ : ∃ z, ks[k]? = some z := ⟨_, List.getElem?_eq_getElem (by rw [HL.out]; exact hlt)⟩
      obtain ⟨b, off, rfl, hb, hcz, hwf⟩ := HI.out k z hz
      have hcz' : wr.cell? ⟨b, off + k, none⟩ = some (.int .i64 z) := (hR.out.bel.cell (p := ⟨b, off + k, none⟩) hb).trans hcz
      have hp3 : wr.cell? ⟨w.heap.size + 1 + 1 + 1, 0, none⟩ = some (.map (some (w.heap.size + 1 + 1))) := hR.out.p3
      obtain ⟨w2, hput, hM2, hO2⟩ := hR.out.map.put z (WalkArith.wf_i64 (by omega)) (by omega)
      have HR2 := Lib.hid (hR.out.step hz hM2 hO2)
      clear hcz hz hM2 hO2
      go_wp2
      go_roundw
      case rel => exact ⟨k + 1, by omega, by go_num, HR2⟩
      case measure => simp [intOf]; omega
    · obtain rfl : kl = k := by omega
      have hd : decide ((kl : Int) < (kl : Int)) = false := by simp
      have ht : ks.take kl = ks := by rw [List.take_of_length_le (by rw [HL.out]; exact Nat.le_refl _)]
      have hM := hR.out.map
      rw [ht] at hM
      have hDk : Dk wr E g gl gi rv D := HK.out.same hR.out.bel.size (fun j hj _ => hR.out.bel.block j hj)
      have hgl := HK.out.secs.lt
      have p1 : wr.cell? ⟨w.heap.size + 1, 0, none⟩ = some (.int .i64 torn) := hR.out.p1
      have p2 := hR.out.p2
      have p3 : wr.cell? ⟨w.heap.size + 1 + 1 + 1, 0, none⟩ = some (.map (some (w.heap.size + 1 + 1))) := hR.out.p3
      have H1 := Lib.hid (settle_on (w.heap.size + 1) w.heap.size (w.heap.size + 1 + 1 + 1) (w.heap.size + 1 + 1) kl g gl gi torn (has ks) rv D E wr hDk HP.out p1 p2 p3 hM (by omega))
      have HB := Lib.hid hR.out.bel
      clear hM ht hDk p1 p3 hR
      go_wp2_with fail
      refine H1.out.mono ?_
      rintro e w2 ⟨rfl, hD2, hO2⟩
      have q2 : w2.cell? ⟨w.heap.size, 0, none⟩ = some (.pointer (some ⟨g, 0, none⟩)) :=
        (World.cell?_of_block (a := ⟨w.heap.size, 0, none⟩) (hO2.block w.heap.size (World.block_lt_of_cell? wr _ p2) (fun e => by have := (HK.out.own_lt _ e).1; omega))).trans p2
      have c3 := hD2.hd.c3
      have c4 := hD2.hd.c4
      have f3 := hD2.hd.f 3
      have f4 := hD2.hd.f 4
      have HU := Lib.hid hD2.up
      have HU' := Lib.hid hD2.up'
      have HO2 := Lib.hid ((Off.of_below (F := own4 g gl gi rv) HB.out (fun k h1 h2 => by omega)).trans hO2)
      clear hD2 hO2 H1 p2
      go_wp2_with fail
      go_region
      all_goals
        go_wp2
        go_ret
        first
          | exact ⟨rfl, HU.out.drew, (HO2.out.trans ((Off.setc _ g 3 _).mono fun k _ e => .inl e)).trans (((Off.setc _ g 4 _).mono fun k _ e => .inl e).trans (Off.drew _ _))⟩
          | exact ⟨rfl, HU'.out.drew, (HO2.out.trans ((Off.setc _ g 4 _).mono fun k _ e => .inl e)).trans (((Off.setc _ g 3 _).mono fun k _ e => .inl e).trans (Off.drew _ _))⟩

theorem Disk.on_ (g kl kc : Nat) (K : Option Addr) (ks : List Int) (torn : Int) (F : Nat → Prop) (D : DS) (w : World) (h : Disk w F g D) (hP : D.P.length < 1000000) (hK : Ints w K ks) (hkl : ks.length = kl) (hk9 : kl < 1000000) :
    Calls Try.prog 29 #[.pointer (some ⟨g, 0, none⟩), .slice K kl kc, .int .i64 torn] w fun e w' => e = .returned (.int .i64 (onE D)) ∧ Disk w' F g (onD D ks torn) ∧ Off F w w' := by
  have hD := h
  obtain ⟨E, gl, gi, rv, hk, h1, h2, h3⟩ := h
  unfold onE onD
  by_cases hd : D.dead = true
  · rw [if_pos hd, if_pos hd]
    refine (on_dead g gl gi kl kc K ks torn rv D E w hk hd hP hK hkl hk9).mono ?_
    rintro e w' ⟨rfl, hk', ho⟩
    refine ⟨rfl, ⟨E, gl, gi, _, hk', h1, fun k hk2 => ?_, fun k hk2 => Nat.lt_of_lt_of_le (h3 k hk2) ho.size⟩, ho.mono fun k _ => h2 k⟩
    rcases hk2 with rfl | rfl | rfl | hk2
    · exact h2 _ (.inl rfl)
    · exact h2 _ (.inr (.inl rfl))
    · exact h2 _ (.inr (.inr (.inl rfl)))
    · cases hk2
  · rw [if_neg hd, if_neg hd]
    have c3 := hk.hd.c3
    rw [show D.dead = false by simpa using hd] at c3
    refine (on_state g K kl kc torn w c3).mono ?_
    rintro e w' ⟨rfl, hb⟩
    exact ⟨rfl, hD.below hb, Off.of_new hb _⟩

end Go.Proofs.Ytiemfhncadcemaa
