/- settle, with what Barrier hands it. -/
import Derived.Test.YtiemfhncadcemaaN
namespace Go.Proofs.Ytiemfhncadcemaa
open Go.RowKit Dsk

/-- k of the pending writes settled. -/
def sett (f : Nat → List UInt8 → Option (List UInt8)) (D : DS) (k : Nat) : DS := { D with S := settleTo f D.P D.S k }
theorem sett_succ (f : Nat → List UInt8 → Option (List UInt8)) (D : DS) (k s : Nat) (b : List UInt8) (h : D.P[k]? = some (s, b)) : sett f D (k + 1) = setD (sett f D k) s (f k b) := by
  unfold sett setD
  simp only [settleTo, h]
  cases f k b <;> rfl

theorem Blk.fill {t : TypeId} {g : Nat} (z : Value) : ∀ (n o : Nat) (w : World) (cs : Array Value), Blk w g t cs →
    ∃ cs', Blk (w.setCells g o (List.replicate n z)) g t cs' ∧ cs'.size = cs.size ∧ (∀ j, o ≤ j → j < o + n → j < cs.size → cs'[j]? = some z) ∧ ∀ j, j < o → cs'[j]? = cs[j]?
  | 0, o, w, cs, h => ⟨cs, h, rfl, fun j h1 h2 => by omega, fun _ _ => rfl⟩
  | n + 1, o, w, cs, h => by
    obtain ⟨cs', h1, h2, h3, h4⟩ := Blk.fill z n (o + 1) (w.setCell ⟨g, o, none⟩ z) _ (h.set_ o z)
    refine ⟨cs', h1, by rw [h2]; simp, fun j a b c => ?_, fun j a => ?_⟩
    · by_cases e : j = o
      · subst e
        rw [h4 j (by omega)]
        simp [c]
      · exact h3 j (by omega) (by omega) (by simpa using c)
    · rw [h4 j (by omega), Array.getElem?_setIfInBounds_ne (by omega)]

theorem setCells_far (g : Nat) (k : Nat) (hk : k ≠ g) : ∀ (vs : List Value) (o : Nat) (w : World), (w.setCells g o vs).heap[k]? = w.heap[k]?
  | [], _, _ => rfl
  | v :: r, o, w => (setCells_far g k hk r (o + 1) (w.setCell ⟨g, o, none⟩ v)).trans (Below.heap_setCell _ _ _ _ hk)
theorem setCells_size (g : Nat) : ∀ (vs : List Value) (o : Nat) (w : World), (w.setCells g o vs).heap.size = w.heap.size
  | [], _, _ => rfl
  | v :: r, o, w => (setCells_size g r (o + 1) (w.setCell ⟨g, o, none⟩ v)).trans (by simp [World.setCell])
theorem setCells_off (g : Nat) : ∀ (vs : List Value) (o : Nat) (w : World), Off (fun k => k = g) w (w.setCells g o vs)
  | [], _, _ => Off.refl _ _
  | v :: r, o, w => (Off.setc w g o v).trans (setCells_off g r (o + 1) (w.setCell ⟨g, o, none⟩ v))

/-- Behind the loop: nothing is pending. -/
def clearD (D : DS) : DS := { D with P := [] }
theorem Dk.cleared {w : World} {E : Nat → Prop} {g gl gi : Nat} {rv : Value} {D : DS} (h : Dk w E g gl gi rv D) :
    Dk ((w.setCell ⟨g, 1, none⟩ (.slice none 0 0)).setCells gi 0 (List.replicate D.S.length (.int .i64 0))) E g gl gi (.slice none 0 0) (clearD D) := by
  obtain ⟨li, l1, l2, l3⟩ := h.last.blk
  have hE : ∀ k, E k → k ≠ g ∧ k ≠ gi := fun k hk => ⟨fun e => h.e1 (e ▸ hk), fun e => h.e3 (e ▸ hk)⟩
  have hsz : w.heap.size ≤ ((w.setCell ⟨g, 1, none⟩ (.slice none 0 0)).setCells gi 0 (List.replicate D.S.length (.int .i64 0))).heap.size := by rw [setCells_size]; simp [World.setCell]
  have far : ∀ k, k ≠ g → k ≠ gi → ((w.setCell ⟨g, 1, none⟩ (.slice none 0 0)).setCells gi 0 (List.replicate D.S.length (.int .i64 0))).heap[k]? = w.heap[k]? := fun k h1 h2 => (setCells_far gi k h2 _ _ _).trans (Below.heap_setCell _ _ _ _ h1)
  refine ⟨⟨h.ok.lo, h.ok.hi, h.ok.sec, (fun p hp => by cases hp), h.ok.armed⟩, ?_, h.secs.same hsz (fun k hk _ => far k (hE k hk).1 (hE k hk).2) (far gl h.n1.symm h.n3), Pend.nil _ _ _, ?_, h.e1, h.e2, h.e3, (fun k hk => by cases hk), h.n1, h.n2, h.n3⟩
  · have h1 := h.head.set_ 1 (.slice none 0 0)
    simp only [List.setIfInBounds_toArray, List.set_cons_succ, List.set_cons_zero] at h1
    exact h1.same (setCells_far gi g h.n2 _ _ _)
  · obtain ⟨cs', a, b, c, _⟩ := Blk.fill (.int .i64 0) D.S.length 0 _ li (l1.far (p := ⟨g, 1, none⟩) h.n2.symm (.slice none 0 0))
    exact ⟨cs', a, by rw [b, l2]; rfl, fun s hs => by rw [c s (Nat.zero_le _) (by rw [Nat.zero_add]; exact hs) (by rw [l2]; exact hs)]; rfl⟩

theorem run_clearI (w : World) (g n : Nat) (P : List (Nat × List UInt8)) (h : Lasts w g n P) (hn : 0 < n) (ty : TypeId) :
    (Builtin.clear_ #[35] ty #[.slice (some ⟨g, 0, none⟩) n n]).run Try.prog w = .ok (.tuple #[]) (w.setCells g 0 (List.replicate n (.int .i64 0))) :=
  Lib.run_clear_slice w 35 3 ty (.int .i64 0) Try.underlying35 (fun _ => by kernel_rfl) rfl rfl g 0 n n hn (fun j hj => by rw [Nat.zero_add, h.at_ hj]; rfl) (fun j _ => h.free _)

set_option maxHeartbeats 1000000 in
theorem settle_bar (p1 g gl gi : Nat) (rv : Value) (D : DS) (E : Nat → Prop) (w : World) (h : Dk w E g gl gi rv D) (hP : D.P.length < 1000000) (hp : w.cell? ⟨p1, 0, none⟩ = some (.pointer (some ⟨g, 0, none⟩))) (hpg : p1 ≠ gl) :
    Calls Try.prog 43 #[.pointer (some ⟨g, 0, none⟩), .func (.func 49) #[] #[.pointer (some ⟨p1, 0, none⟩)]] w fun e w' => e = .returned (.tuple #[]) ∧ Dk w' E g gl gi (.slice none 0 0) (clearD (sett (fun _ b => some b) D D.P.length)) ∧ Off (own4 g gl gi rv) w w' := by
  have HK := Lib.hid h
  obtain ⟨A, c, rfl, hle, hmx⟩ := h.pend.shape
  have c1 := h.hd.c1
  have hplt := World.block_lt_of_cell? w _ hp
  have HP := Lib.hid hP
  have HPC := Lib.hid hp
  obtain ⟨m, hm⟩ : ∃ m, D.P.length = m := ⟨_, rfl⟩
  rw [hm] at hP hle c1
  have HM := Lib.hid hm
  clear h hp hm
  go_enter Try.func43, Try.ntmps43
  go_wp2
  go_loopw [4, 5, 11] (fun u v i wr => ∃ k : Nat, k ≤ m ∧ i = .int .i64 (k : Int) ∧ Hid (Dk wr E g gl gi (.slice A m c) (sett (fun _ b => some b) D k)) ∧ Hid (Off (fun k => k = gl) w wr)) (fun _ _ i _ => m - (intOf i).toNat)
  case atStart => exact ⟨0, Nat.zero_le _, rfl, Lib.hid (by have := HK.out; rw [HM.out] at this; exact this), Lib.hid (Off.refl _ _)⟩
  case round =>
    obtain ⟨k, hk, rfl, hR, hO⟩ := hrel
    by_cases hlt : k < m
    · have hd : decide ((k : Int) < (m : Int)) = true := by simpa using hlt
      obtain ⟨⟨s, b⟩, hpk⟩ : ∃ p, D.P[k]? = some p := ⟨_, List.getElem?_eq_getElem (by rw [HM.out]; exact hlt)⟩
      obtain ⟨r, cc, v, er, hr, q1, q2, hsec⟩ := hR.out.pend.at_ (show (sett (fun _ b => some b) D k).P[k]? = _ from hpk)
      injection er with er1 er2 er3
      subst er1
      obtain ⟨Av, cv, rfl, hsec2⟩ := hsec
      obtain ⟨L, hL⟩ : ∃ L, b.length = L := ⟨_, rfl⟩
      have q3 : wr.cell? ⟨r, k * 2 + 1, none⟩ = some (.slice Av L cv) := by rw [← hL]; exact q2
      have HSEC : Hid (Sec wr E (.slice Av L cv) b) := Lib.hid ⟨Av, cv, by rw [hL], hsec2⟩
      have hrk : k * 2 + 1 < 3000000 := by omega
      have HPK := Lib.hid hpk
      clear q2 hsec2 hpk er2 er3 hL
      have hsD : s < (sett (fun _ b => some b) D k).S.length := (hR.out.ok.pend (s, b) (List.mem_of_getElem? (HPK.out))).1
      have hbD : b = [] ∨ b.length = 256 := .inr (hR.out.ok.pend (s, b) (List.mem_of_getElem? (HPK.out))).2
      have hwp : (wr.alloc (.cells #[.int .i64 (s : Int), .slice Av L cv] 79)).cell? ⟨p1, 0, none⟩ = some (.pointer (some ⟨g, 0, none⟩)) :=
        Lib.cell?_alloc_some _ ((World.cell?_of_block (a := ⟨p1, 0, none⟩) (hO.out.block p1 hplt hpg)).trans HPC.out)
      have H1 := Lib.hid (bar1 p1 g gl gi s k Av L cv _ b _ E _ (hR.out.alloc (.cells #[.int .i64 (s : Int), .slice Av L cv] 79)) hsD
        (HSEC.out.same (by simp) (fun _ _ hk => Below.heap_alloc _ _ _ hk)) hbD hwp)
      clear hwp hbD hsD
      go_wp2_with fail
      refine H1.out.mono ?_
      rintro e w2 ⟨rfl, hD2, hO2⟩
      have HD2 : Hid (Dk w2 E g gl gi (.slice (some ⟨r, 0, none⟩) m c) (sett (fun _ b => some b) D (k + 1))) := Lib.hid (by rw [sett_succ _ D k s b HPK.out]; exact hD2)
      have HO2 := Lib.hid ((hO.out.trans (Off.alloc _ _ _)).trans hO2)
      clear hD2 hO2 H1
      go_wp2_with fail
      go_roundw
      case rel => exact ⟨k + 1, by omega, by go_num, HD2, HO2⟩
      case measure => simp [intOf]; omega
    · obtain rfl : m = k := by omega
      have hd : decide ((m : Int) < (m : Int)) = false := by simp
      have hR2 := hR.out.cleared
      have hlo := hR.out.ok.lo
      have hhd := hR.out.hd
      have hcl := fun ty => run_clearI (wr.setCell ⟨g, 1, none⟩ (.slice none 0 0)) gi _ _ (hR.out.last.same (Below.heap_setCell wr ⟨g, 1, none⟩ _ gi hR.out.n2.symm)) (by omega) ty
      have k1 := hhd.c1
      have k2 := hhd.c2
      have kf := hhd.f 1
      have hoff : Off (own4 g gl gi (.slice A m c)) w ((wr.setCell ⟨g, 1, none⟩ (.slice none 0 0)).setCells gi 0 (List.replicate (sett (fun _ b => some b) D m).S.length (.int .i64 0))) :=
        ((hO.out.mono (G := own4 g gl gi (.slice A m c)) (fun k _ e => .inr (.inl e))).trans ((Off.setc wr g 1 _).mono fun k _ e => .inl e)).trans ((setCells_off gi _ _ _).mono fun k _ e => .inr (.inr (.inl e)))
      have HR2 := Lib.hid hR2
      have HOFF := Lib.hid hoff
      clear hR2 hlo hhd hoff hO hR
      generalize (sett (fun _ b => some b) D m).S.length = n at *
      go_wp2
      go_end0
      exact ⟨rfl, by rw [HM.out]; exact HR2.out, by rw [HM.out]; exact HOFF.out⟩

end Go.Proofs.Ytiemfhncadcemaa
