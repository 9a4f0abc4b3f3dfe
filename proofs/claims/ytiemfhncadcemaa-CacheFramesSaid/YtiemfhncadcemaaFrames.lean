/- CacheFrames. -/

import Derived.Test.YtiemfhncadcemaaDn
import Derived.Test.YtiemfhncadcemaaDa
import Derived.Deep.QuietTactic
namespace Go.Proofs.Ytiemfhncadcemaa
open Go.RowKit Dsk
set_option maxRecDepth 20000 in
set_option maxHeartbeats 1000000 in
theorem frames_vast (a b : Nat) (A : Option Addr) (len cap : Nat) (ls : List Ov) (w : World) (hl : ls.length = len) (hA : OpsM w A ls) (hv : vastB ls = true) :
    Calls Try.prog 4 #[.int .u8 (a : Int), .int .u8 (b : Int), .slice A len cap] w fun e w' => e = .returned (.bool true) ∧ Below w.heap.size w w' := by
  have H1 := vast_any A len cap ls w hl hA
  rw [hv] at H1
  replace H1 := Lib.hid H1
  have H2 := Lib.hid (works_any w)
  clear hl hA hv
  go_enter Try.func4, Try.ntmps4
  go_wp2_with fail
  refine H1.out.mono ?_
  rintro e w' ⟨rfl, rfl⟩
  go_wp2_with fail
  refine H2.out.mono ?_
  rintro e w1 ⟨rfl, hb⟩
  have HB := Lib.hid hb
  clear hb
  go_wp2_with fail
  go_ret
  exact ⟨rfl, HB.out⟩

/-- The two arrays. -/
structure Arr2 (w wr : World) (vs us : Array Value) : Prop where
  d : Blk wr w.heap.size 46 vs
  c : Blk wr (w.heap.size + 1) 47 us
theorem Arr2.below {w wr w' : World} {vs us : Array Value} (h : Arr2 w wr vs us) (hb : Below wr.heap.size wr w') : Arr2 w w' vs us := ⟨h.d.below hb h.d.lt, h.c.below hb h.c.lt⟩
theorem Arr2.keep {w wr w' : World} {X : Nat → Prop} {vs us : Array Value} (h : Arr2 w wr vs us) (hk : Keep X wr w') (h1 : X w.heap.size) (h2 : X (w.heap.size + 1)) : Arr2 w w' vs us := ⟨h.d.same (hk.at_ _ h1), h.c.same (hk.at_ _ h2)⟩
def ptrD (d : Nat) : Value := .pointer (some ⟨d, 0, none⟩)
/-- Two caches that say the same. -/
structure FrS (w wr : World) (d0 g0 d1 g1 : Nat) (F0 F1 : Nat → Prop) (m0 m1 t0 t1 : Nat) (D0 : DS) (L0 : List Fr) (D1 : DS) (L1 : List Fr) : Prop where
  f0 : Foot w wr F0 g0 d0 20 m0 t0 D0 L0
  f1 : Foot w wr F1 g1 d1 20 m1 t1 D1 L1
  dis : ∀ k, F0 k → ¬ F1 k
  ar : Arr2 w wr #[.pointer (some ⟨d0, 0, none⟩), .pointer (some ⟨d1, 0, none⟩)] #[.pointer (some ⟨g0, 0, none⟩), .pointer (some ⟨g1, 0, none⟩)]
  off : ∀ k, F0 k ∨ F1 k → w.heap.size + 2 ≤ k
  same : ∀ j, j < 20 → what D0 L0 j = what D1 L1 j
  p0 : ∀ x ∈ L0, x.pins = 0
  p1 : ∀ x ∈ L1, x.pins = 0
def FrI (w wr : World) (d0 g0 d1 g1 m0 m1 i : Nat) : Prop := ∃ F0 F1 t0 t1 D0 L0 D1 L1, t0 ≤ 1025 * i ∧ t1 ≤ 1025 * i ∧ FrS w wr d0 g0 d1 g1 F0 F1 m0 m1 t0 t1 D0 L0 D1 L1
/-- Between the rounds that make them. -/
def FrL (w wr : World) (m0 m1 k : Nat) : Prop :=
  (k = 0 ∧ Arr2 w wr #[.pointer none, .pointer none] #[.pointer none, .pointer none] ∧ Below w.heap.size w wr) ∨
  (k = 1 ∧ ∃ d0 g0 F0, Foot w wr F0 g0 d0 20 m0 0 (newD 20) [] ∧ Arr2 w wr #[.pointer (some ⟨d0, 0, none⟩), .pointer none] #[.pointer (some ⟨g0, 0, none⟩), .pointer none] ∧ ∀ k, F0 k → w.heap.size + 2 ≤ k) ∨
  (k = 2 ∧ ∃ d0 g0 d1 g1, FrI w wr d0 g0 d1 g1 m0 m1 0)
def AX (_w wr : World) (F : Nat → Prop) : Nat → Prop := fun k => k < wr.heap.size ∧ ¬ F k
theorem Foot.csX {w wr : World} {F : Nat → Prop} {g dg nn most t : Nat} {D : DS} {L : List Fr} (h : Foot w wr F g dg nn most t D L) : CS w wr (AX w wr F) g dg nn most t D L := h.cs (fun _ hk => hk)
/-- A pair made is stored. -/
theorem CS.stored {w w3 : World} {X : Nat → Prop} {g dg nn most t i : Nat} {D : DS} {L : List Fr} (h : CS w w3 X g dg nn most t D L) (hX : X w.heap.size ∧ X (w.heap.size + 1)) (u v : Value) :
    ∃ F, Foot w ((w3.setCell ⟨w.heap.size, i, none⟩ u).setCell ⟨w.heap.size + 1, i, none⟩ v) F g dg nn most t D L ∧ (∀ k, F k → ¬ X k) ∧ ∀ k, F k → w.heap.size + 2 ≤ k := by
  have ho : Off (fun k => k = w.heap.size ∨ k = w.heap.size + 1) w3 ((w3.setCell ⟨w.heap.size, i, none⟩ u).setCell ⟨w.heap.size + 1, i, none⟩ v) := offS (offS (Off.refl _ _) _ _ _ (.inl rfl)) _ _ _ (.inr rfl)
  have h2 := h.turnX ho (fun k e => by
    rcases e with e | e
    · rw [e]; exact ⟨hX.1, Nat.le_refl _⟩
    · rw [e]; exact ⟨hX.2, Nat.le_succ _⟩)
  obtain ⟨F, hF, hd⟩ := h2.foot
  refine ⟨F, hF, hd, fun k hk => ?_⟩
  have h3 := (hF.rng k hk).1
  have h4 : k ≠ w.heap.size := fun e => hd k hk (by rw [e]; exact hX.1)
  have h5 : k ≠ w.heap.size + 1 := fun e => hd k hk (by rw [e]; exact hX.2)
  omega
theorem Arr2.stored {w w3 : World} {vs us : Array Value} (h : Arr2 w w3 vs us) (i : Nat) (u v : Value) : Arr2 w ((w3.setCell ⟨w.heap.size, i, none⟩ u).setCell ⟨w.heap.size + 1, i, none⟩ v) (vs.setIfInBounds i u) (us.setIfInBounds i v) :=
  ⟨(h.d.set_ i u).far (p := ⟨w.heap.size + 1, i, none⟩) (by show w.heap.size ≠ w.heap.size + 1; omega) v, (h.c.far (p := ⟨w.heap.size, i, none⟩) (by show w.heap.size + 1 ≠ w.heap.size; omega) u).set_ i v⟩
section
variable {w wr w2 w3 w4 w5 : World} {d0 g0 d1 g1 m0 m1 t0 t1 : Nat} {F0 F1 : Nat → Prop} {D0 D0' D1 D1' : DS} {L0 L0' L1 L1' : List Fr} {o : Ov} {e0 e1 : Int} {bs0 bs1 : List UInt8} {q0 q1 : Nat}
theorem FrS.below (h : FrS w wr d0 g0 d1 g1 F0 F1 m0 m1 t0 t1 D0 L0 D1 L1) (hb : Below wr.heap.size wr w2) : FrS w w2 d0 g0 d1 g1 F0 F1 m0 m1 t0 t1 D0 L0 D1 L1 :=
  ⟨h.f0.below hb, h.f1.below hb, h.dis, h.ar.below hb, h.off, h.same, h.p0, h.p1⟩
theorem FrS.inX (h : FrS w wr d0 g0 d1 g1 F0 F1 m0 m1 t0 t1 D0 L0 D1 L1) : AX w wr F0 w.heap.size ∧ AX w wr F0 (w.heap.size + 1) ∧ AX w wr F1 w.heap.size ∧ AX w wr F1 (w.heap.size + 1) ∧ (∀ k, F1 k → AX w wr F0 k) ∧ ∀ k, F0 k → AX w wr F1 k :=
  ⟨⟨h.ar.d.lt, fun e => by have := h.off _ (.inl e); omega⟩, ⟨h.ar.c.lt, fun e => by have := h.off _ (.inl e); omega⟩, ⟨h.ar.d.lt, fun e => by have := h.off _ (.inr e); omega⟩, ⟨h.ar.c.lt, fun e => by have := h.off _ (.inr e); omega⟩, fun k e => ⟨(h.f1.rng k e).2, fun e' => h.dis k e' e⟩, fun k e => ⟨(h.f0.rng k e).2, fun e' => h.dis k e e'⟩⟩
/-- The first one was asked. -/
theorem FrS.one (h : FrS w w2 d0 g0 d1 g1 F0 F1 m0 m1 t0 t1 D0 L0 D1 L1) (hc : CS w w3 (fun k => AX w w2 F0 k ∨ k = q0) g0 d0 20 m0 (t0 + 1025) D0' L0') (hk : Keep (AX w w2 F0) w2 w3) (hb : Below w3.heap.size w3 w4) :
    ∃ F0', Foot w w4 F0' g0 d0 20 m0 (t0 + 1025) D0' L0' ∧ Foot w w4 F1 g1 d1 20 m1 t1 D1 L1 ∧ (∀ k, F0' k → ¬ F1 k) ∧ Arr2 w w4 #[.pointer (some ⟨d0, 0, none⟩), .pointer (some ⟨d1, 0, none⟩)] #[.pointer (some ⟨g0, 0, none⟩), .pointer (some ⟨g1, 0, none⟩)] ∧ (∀ k, F0' k ∨ F1 k → w.heap.size + 2 ≤ k) ∧ CS w w4 (AX w w4 F1) g1 d1 20 m1 t1 D1 L1 := by
  obtain ⟨x1, x2, _, _, x5, _⟩ := h.inX
  obtain ⟨F0', hF, hd⟩ := hc.foot
  have hf1 := (h.f1.keep (hk.less x5) hc.bel).below hb
  refine ⟨F0', hF.below hb, hf1, fun k e e' => hd k e (.inl (x5 k e')), (h.ar.keep hk x1 x2).below hb, fun k e => ?_, hf1.csX⟩
  rcases e with e | e
  · have h3 := (hF.rng k e).1
    have h4 : k ≠ w.heap.size := fun e2 => hd k e (.inl (by rw [e2]; exact x1))
    have h5 : k ≠ w.heap.size + 1 := fun e2 => hd k e (.inl (by rw [e2]; exact x2))
    omega
  · exact h.off k (.inr e)
/-- Both were asked. -/
theorem FrS.two (h : FrS w w2 d0 g0 d1 g1 F0 F1 m0 m1 t0 t1 D0 L0 D1 L1) (hc : CS w w3 (fun k => AX w w2 F0 k ∨ k = q0) g0 d0 20 m0 (t0 + 1025) D0' L0') (hk : Keep (AX w w2 F0) w2 w3) (hb : Below w3.heap.size w3 w4)
    (hc1 : CS w w5 (fun k => AX w w4 F1 k ∨ k = q1) g1 d1 20 m1 (t1 + 1025) D1' L1') (hk1 : Keep (AX w w4 F1) w4 w5) (hs : ∀ j, j < 20 → what D0' L0' j = what D1' L1' j) (hp0 : ∀ x ∈ L0', x.pins = 0) (hp1 : ∀ x ∈ L1', x.pins = 0) :
    ∃ F0' F1', FrS w w5 d0 g0 d1 g1 F0' F1' m0 m1 (t0 + 1025) (t1 + 1025) D0' L0' D1' L1' := by
  obtain ⟨F0', f0, f1, hd, ha, ho, _⟩ := h.one hc hk hb
  have y1 : AX w w4 F1 w.heap.size := ⟨ha.d.lt, fun e => by have := ho _ (.inr e); omega⟩
  have y2 : AX w w4 F1 (w.heap.size + 1) := ⟨ha.c.lt, fun e => by have := ho _ (.inr e); omega⟩
  have y3 : ∀ k, F0' k → AX w w4 F1 k := fun k e => ⟨(f0.rng k e).2, hd k e⟩
  obtain ⟨F1', hF, hd1⟩ := hc1.foot
  refine ⟨F0', F1', f0.keep (hk1.less y3) hc1.bel, hF, fun k e e' => hd1 k e' (.inl (y3 k e)), ha.keep hk1 y1 y2, fun k e => ?_, hs, hp0, hp1⟩
  rcases e with e | e
  · exact ho k (.inl e)
  · have h3 := (hF.rng k e).1
    have h4 : k ≠ w.heap.size := fun e2 => hd1 k e (.inl (by rw [e2]; exact y1))
    have h5 : k ≠ w.heap.size + 1 := fun e2 => hd1 k e (.inl (by rw [e2]; exact y2))
    omega
/-- Both answer alike. -/
theorem alike (h : FrS w w2 d0 g0 d1 g1 F0 F1 m0 m1 t0 t1 D0 L0 D1 L1) (hk : o.kind = 0 ∨ o.kind = 1 ∨ o.kind = 4 ∨ o.kind = 6) (h0f : Did o 20 D0 L0 e0 bs0 D0' L0' ∧ (o.kind = 0 → e0 ≠ 0 → bs0 = [])) (h1f : Did o 20 D1 L1 e1 bs1 D1' L1' ∧ (o.kind = 0 → e1 ≠ 0 → bs1 = [])) :
    e0 = e1 ∧ (o.kind = 0 → bs0 = bs1) ∧ (∀ j, j < 20 → what D0' L0' j = what D1' L1' j) ∧ (∀ x ∈ L0', x.pins = 0) ∧ ∀ x ∈ L1', x.pins = 0 := by
  obtain ⟨h0, h0n⟩ := h0f
  obtain ⟨h1, h1n⟩ := h1f
  obtain ⟨a1, a2⟩ := h0.nopin h.p0 hk
  obtain ⟨b1, b2⟩ := h1.nopin h.p1 hk
  have he : e0 = e1 := by rw [a2, b2]
  refine ⟨he, fun h3 => ?_, fun j hj => ?_, a1, b1⟩
  · by_cases e : e0 = 0
    · have r1 := h0.rng (.inl h3) e
      rw [h0.read h3 e, h1.read h3 (by rw [← he]; exact e)]
      exact h.same _ (by omega)
    · rw [h0n h3 e, h1n h3 (by rw [← he]; exact e)]
  · rw [h0.what_ j, h1.what_ j, he, h.same j hj]
end
set_option maxRecDepth 40000 in
set_option maxHeartbeats 4000000 in
theorem frames_any (a b : Nat) (A : Option Addr) (len cap : Nat) (ls : List Ov) (w : World) (ha : a < 256) (hb : b < 256) (hl : ls.length = len) (hA : OpsM w A ls) (hv : vastB ls = false) :
    Calls Try.prog 4 #[.int .u8 (a : Int), .int .u8 (b : Int), .slice A len cap] w fun e w' => e = .returned (.bool true) ∧ Below w.heap.size w w' := by
  have H1 := vast_any A len cap ls w hl hA
  rw [hv] at H1
  replace H1 := Lib.hid H1
  obtain ⟨hl120, hsm⟩ := vastB_no hv
  rw [hl] at hl120
  have HA := Lib.hid hA
  have HL := Lib.hid hl
  have HSM := Lib.hid hsm
  clear hl hA hv hsm
  go_enter Try.func4, Try.ntmps4
  go_wp2_with fail
  refine H1.out.mono ?_
  rintro e w' ⟨rfl, rfl⟩
  obtain ⟨m0, hm0⟩ : ∃ m0, 1 + a % 30 = m0 := ⟨_, rfl⟩
  obtain ⟨m1, hm1⟩ : ∃ m1, 1 + b % 30 = m1 := ⟨_, rfl⟩
  have ha1 : 1 + (a : Int) % 30 = (m0 : Int) := by rw [← hm0]; omega
  have hb1 : 1 + (b : Int) % 30 = (m1 : Int) := by rw [← hm1]; omega
  have hma : 1 ≤ m0 ∧ m0 ≤ 30 := by omega
  have hmb : 1 ≤ m1 ∧ m1 ≤ 30 := by omega
  clear hm0 hm1
  have HL0 : Hid (FrL w ((w.alloc (.cells #[.pointer none, .pointer none] 46)).alloc (.cells #[.pointer none, .pointer none] 47)) m0 m1 0) := Lib.hid (by
    have hb0 : Below w.heap.size w (w.alloc (.cells #[.pointer none, .pointer none] 46)) := (Below.refl _ _).alloc (Nat.le_refl _) _
    refine .inl ⟨rfl, ⟨(Blk.new w _ _).alloc _, ?_⟩, hb0.alloc (by rw [World.size_alloc]; exact Nat.le_succ _) _⟩
    have := Blk.new (w.alloc (.cells #[.pointer none, .pointer none] 46)) 47 #[.pointer none, .pointer none]
    rw [World.size_alloc] at this
    exact this)
  go_wp2_with fail
  go_loopw [9, 10, 11, 12, 13] (fun kv _ _ _ _ wr => ∃ k : Nat, k ≤ 2 ∧ kv = .int .i64 (k : Int) ∧ Hid (FrL w wr m0 m1 k)) (fun kv _ _ _ _ _ => 2 - (intOf kv).toNat)
  case atStart => exact ⟨0, Nat.zero_le _, rfl, HL0⟩
  case round =>
    obtain ⟨w9, rfl⟩ : ∃ w9, w9 = wr := ⟨_, rfl⟩
    clear HL0
    obtain ⟨k, hk, rfl, hF⟩ := hrel
    rcases hF.out with ⟨hk0, har, hbel⟩ | ⟨hk1, d0, g0, F0, hf0, har, hoff⟩ | ⟨hk2, d0, g0, d1, g1, hI⟩
    · have hd : decide ((k : Int) < 2) = true := by simp; omega
      have hke : ((k : Int) == 1) = false := by simp; omega
      have HK0 := Lib.hid hk0
      have hX : ∀ j, (j = w.heap.size ∨ j = w.heap.size + 1) → j < w9.heap.size := fun j e => by have h1 := har.d.lt; have h2 := har.c.lt; rcases e with e | e <;> omega
      have H3 := Lib.hid (Run.new 20 w w9 (fun j => j = w.heap.size ∨ j = w.heap.size + 1) hX hbel ⟨by omega, by omega⟩)
      have HAR := Lib.hid har
      clear har hbel hF hk0 hX
      go_wp2_with fail
      refine H3.out.mono ?_
      rintro en w3 ⟨d0, rfl, hr, hb3⟩
      have H4 := Lib.hid (CS.new 20 m0 ⟨by omega, by omega⟩ ⟨by omega, by omega⟩ hr)
      have HAR3 := Lib.hid (HAR.out.below hb3)
      clear hr hb3 H3 HAR
      go_wp2_with fail
      refine H4.out.mono ?_
      rintro en w4 ⟨g0, rfl, _, hc, hb4⟩
      have har := HAR3.out.below hb4
      have z1 : w4.cell? ⟨w.heap.size, k, none⟩ = some (.pointer none) := by rw [HK0.out]; exact har.d.cell 0
      have z2 : w4.frozen? ⟨w.heap.size, k, none⟩ = false := har.d.frozen k
      have hS := har.stored k (.pointer (some ⟨d0, 0, none⟩)) (.pointer (some ⟨g0, 0, none⟩))
      have z3 : (w4.setCell ⟨w.heap.size, k, none⟩ (.pointer (some ⟨d0, 0, none⟩))).cell? ⟨w.heap.size + 1, k, none⟩ = some (.pointer none) := by rw [HK0.out]; exact (har.c.far (p := ⟨w.heap.size, 0, none⟩) (by show w.heap.size + 1 ≠ w.heap.size; omega) _).cell 0
      have z4 : (w4.setCell ⟨w.heap.size, k, none⟩ (.pointer (some ⟨d0, 0, none⟩))).frozen? ⟨w.heap.size + 1, k, none⟩ = false := (har.c.far (p := ⟨w.heap.size, k, none⟩) (by show w.heap.size + 1 ≠ w.heap.size; omega) _).frozen k
      obtain ⟨F, hF1, _, hF3⟩ := hc.stored (i := k) ⟨.inl rfl, .inr rfl⟩ (.pointer (some ⟨d0, 0, none⟩)) (.pointer (some ⟨g0, 0, none⟩))
      have HN : Hid (FrL w ((w4.setCell ⟨w.heap.size, k, none⟩ (.pointer (some ⟨d0, 0, none⟩))).setCell ⟨w.heap.size + 1, k, none⟩ (.pointer (some ⟨g0, 0, none⟩))) m0 m1 (k + 1)) := Lib.hid (by
        refine .inr (.inl ⟨by rw [HK0.out], d0, g0, F, hF1, ?_, hF3⟩)
        have e := HK0.out
        subst e
        exact hS)
      have hk2 : k + 1 ≤ 2 := by rw [HK0.out]; omega
      have hkl : k < 2 := by omega
      have hk0' : (k : Int) < 2 := by omega
      clear har hc hb4 hS hF1 hF3 H4 HAR3
      go_wp2_with fail
      go_roundw
      case rel => exact ⟨k + 1, hk2, by go_num, HN⟩
      case measure => simp [intOf]; omega
    · have hd : decide ((k : Int) < 2) = true := by simp; omega
      have hke : ((k : Int) == 1) = true := by simp; omega
      have HK1 := Lib.hid hk1
      have hX : ∀ j, (F0 j ∨ j = w.heap.size ∨ j = w.heap.size + 1) → j < w9.heap.size := fun j e => by
        have h1 := har.d.lt; have h2 := har.c.lt
        rcases e with e | e | e
        · exact (hf0.rng j e).2
        · omega
        · omega
      have H3 := Lib.hid (Run.new 20 w w9 (fun j => F0 j ∨ j = w.heap.size ∨ j = w.heap.size + 1) hX hf0.bel ⟨by omega, by omega⟩)
      have HAR := Lib.hid (And.intro har (And.intro hf0 hoff))
      clear har hf0 hoff hF hk1 hX
      go_wp2_with fail
      refine H3.out.mono ?_
      rintro en w3 ⟨d1, rfl, hr, hb3⟩
      have H4 := Lib.hid (CS.new 20 m1 ⟨by omega, by omega⟩ ⟨by omega, by omega⟩ hr)
      have HAR3 := Lib.hid (And.intro (HAR.out.1.below hb3) (And.intro (HAR.out.2.1.below hb3) HAR.out.2.2))
      clear hr hb3 H3 HAR
      go_wp2_with fail
      refine H4.out.mono ?_
      rintro en w4 ⟨g1, rfl, _, hc, hb4⟩
      have har := HAR3.out.1.below hb4
      have z1 : w4.cell? ⟨w.heap.size, k, none⟩ = some (.pointer none) := by rw [HK1.out]; exact har.d.cell 1
      have z2 : w4.frozen? ⟨w.heap.size, k, none⟩ = false := har.d.frozen k
      have hS := har.stored k (.pointer (some ⟨d1, 0, none⟩)) (.pointer (some ⟨g1, 0, none⟩))
      have z3 : (w4.setCell ⟨w.heap.size, k, none⟩ (.pointer (some ⟨d1, 0, none⟩))).cell? ⟨w.heap.size + 1, k, none⟩ = some (.pointer none) := by rw [HK1.out]; exact (har.c.far (p := ⟨w.heap.size, 1, none⟩) (by show w.heap.size + 1 ≠ w.heap.size; omega) _).cell 1
      have z4 : (w4.setCell ⟨w.heap.size, k, none⟩ (.pointer (some ⟨d1, 0, none⟩))).frozen? ⟨w.heap.size + 1, k, none⟩ = false := (har.c.far (p := ⟨w.heap.size, k, none⟩) (by show w.heap.size + 1 ≠ w.heap.size; omega) _).frozen k
      obtain ⟨F, hF1, hF2, hF3⟩ := hc.stored (i := k) ⟨.inr (.inl rfl), .inr (.inr rfl)⟩ (.pointer (some ⟨d1, 0, none⟩)) (.pointer (some ⟨g1, 0, none⟩))
      have HN : Hid (FrL w ((w4.setCell ⟨w.heap.size, k, none⟩ (.pointer (some ⟨d1, 0, none⟩))).setCell ⟨w.heap.size + 1, k, none⟩ (.pointer (some ⟨g1, 0, none⟩))) m0 m1 (k + 1)) := Lib.hid (by
        have e := HK1.out
        subst e
        have hf4 := HAR3.out.2.1.below hb4
        refine .inr (.inr ⟨rfl, d0, g0, d1, g1, F0, F, 0, 0, _, _, _, _, Nat.le_refl _, Nat.le_refl _, hf4.keep ⟨by simp [World.setCell], fun j hj => ?_⟩ hF1.bel, hF1, fun j hj hj' => hF2 j hj' (.inl hj), hS, fun j hj => hj.elim (HAR3.out.2.2 j) (hF3 j), fun _ _ => rfl, (fun x hx => by cases hx), (fun x hx => by cases hx)⟩)
        have := HAR3.out.2.2 j hj
        rw [Below.heap_setCell _ _ _ _ (by show j ≠ w.heap.size + 1; omega), Below.heap_setCell _ _ _ _ (by show j ≠ w.heap.size; omega)])
      have hk2 : k + 1 ≤ 2 := by rw [HK1.out]; exact Nat.le_refl _
      have hkl : k < 2 := by omega
      have hk0' : (k : Int) < 2 := by omega
      clear har hc hb4 hS hF1 hF2 hF3 H4 HAR3
      go_wp2_with fail
      go_roundw
      case rel => exact ⟨k + 1, hk2, by go_num, HN⟩
      case measure => simp [intOf]; omega
    · have hd : decide ((k : Int) < 2) = false := by simp; omega
      have HI := Lib.hid hI
      have hkl : ¬ k < 2 := by omega
      have hkl2 : ¬ ((k : Int) < 2) := by omega
      clear hF hk2 hI ha1 hb1
      go_wp2_with fail
      go_loopw [14, 15, 16, 17] (fun iv _ _ _ wr => ∃ i : Nat, i ≤ len ∧ iv = .int .i64 (i : Int) ∧ Hid (∃ d0 g0 d1 g1, FrI w wr d0 g0 d1 g1 m0 m1 i)) (fun iv _ _ _ _ => len - (intOf iv).toNat)
      case atStart => exact ⟨0, Nat.zero_le _, rfl, Lib.hid ⟨_, _, _, _, HI.out⟩⟩
      case round =>
        obtain ⟨w8, rfl⟩ : ∃ w8, w8 = wr := ⟨_, rfl⟩
        clear HI hd hkl hkl2 d0 g0 d1 g1
        obtain ⟨i, hi, rfl, hK⟩ := hrel
        by_cases hli : i < len
        · have hdi : decide ((i : Int) < (len : Int)) = true := by simpa using hli
          obtain ⟨d0, g0, d1, g1, F0, F1, t0, t1, D0, L0, D1, L1, ht0, ht1, hS⟩ := hK.out
          obtain ⟨o, hoi⟩ : ∃ o, ls[i]? = some o := ⟨_, List.getElem?_eq_getElem (by rw [HL.out]; exact hli)⟩
          have hsmall := HSM.out o (List.mem_of_getElem? hoi)
          obtain ⟨bo, off, v0, v1, v2, v3, v4, rfl, hblt, z0, z1, z2, z3, z4, hov⟩ := HA.out i o hoi
          have hbel := hS.f0.bel
          have c0 := (hbel.cell (p := ⟨bo, off + i * 5, none⟩) hblt).trans z0
          have c1 := (hbel.cell (p := ⟨bo, off + i * 5 + 1, none⟩) hblt).trans z1
          have c2 := (hbel.cell (p := ⟨bo, off + i * 5 + 2, none⟩) hblt).trans z2
          have c3 := (hbel.cell (p := ⟨bo, off + i * 5 + 3, none⟩) hblt).trans z3
          have c4 := (hbel.cell (p := ⟨bo, off + i * 5 + 4, none⟩) hblt).trans z4
          have HO := Lib.hid (And.intro hov (And.intro hsmall (And.intro hS (And.intro ht0 (And.intro ht1 hi)))))
          obtain ⟨⟨e0, hk1, hk2⟩, ⟨e1, hs1, hs2⟩, ⟨AB, cB, e2, hB1, hB2, hB3⟩, ⟨AK, cK, e3, _, _, _⟩, ⟨e4, _, _⟩⟩ := hov
          subst e0 e1 e2 e3 e4
          obtain ⟨w2, hw2⟩ : ∃ w2, w8.alloc (.cells #[.int .i64 o.kind, .int .i64 o.s, .slice AB o.B.length cB, .slice AK o.K.length cK, .int .i64 o.torn] 37) = w2 := ⟨_, rfl⟩
          have hb2 : Below w8.heap.size w8 w2 := by rw [← hw2]; exact (Below.refl _ _).alloc (Nat.le_refl _) _
          have hbox : Blk w2 w8.heap.size 37 #[.int .i64 o.kind, .int .i64 o.s, .slice AB o.B.length cB, .slice AK o.K.length cK, .int .i64 o.torn] := by rw [← hw2]; exact Blk.new _ _ _
          have hS2 := hS.below hb2
          have hbk := hbox.cell 0
          have hbs := hbox.cell 1
          have hbB := hbox.cell 2
          have hbK := hbox.cell 3
          have hbT := hbox.cell 4
          simp only [List.getElem?_toArray, List.getElem?_cons_zero, List.getElem?_cons_succ] at hbk hbs hbB hbK hbT
          have HB2 := Lib.hid (And.intro hb2 (And.intro hbox hS2))
          clear hK hS hoi hsmall hblt ht0 ht1 hB1 hB2 hB3 hbel z0 z1 z2 z3 z4 hb2 hbox hS2
          by_cases hk : o.kind = 0 ∨ o.kind = 1 ∨ o.kind = 4 ∨ o.kind = 6
          · go_upto_region 23 with fail
            go_cut [82] from 65 to 82 (fun s wx => s = .bool false ∧ wx = w2)
            case first =>
              rcases hk with e | e | e | e
              · have x0 : (o.kind != 0) = false := by rw [e]; rfl
                go_wp2_with fail
                go_meet
                exact ⟨rfl, rfl⟩
              · have x0 : (o.kind != 0) = true := by rw [e]; rfl
                have x1 : (o.kind != 1) = false := by rw [e]; rfl
                go_wp2_with fail
                go_meet
                exact ⟨rfl, rfl⟩
              · have x0 : (o.kind != 0) = true := by rw [e]; rfl
                have x1 : (o.kind != 1) = true := by rw [e]; rfl
                have x2 : (o.kind != 4) = false := by rw [e]; rfl
                go_wp2_with fail
                go_meet
                exact ⟨rfl, rfl⟩
              · have x0 : (o.kind != 0) = true := by rw [e]; rfl
                have x1 : (o.kind != 1) = true := by rw [e]; rfl
                have x2 : (o.kind != 4) = true := by rw [e]; rfl
                have x3 : (o.kind != 6) = false := by rw [e]; rfl
                go_wp2_with fail
                go_meet
                exact ⟨rfl, rfl⟩
            case rest =>
              obtain ⟨rfl, hwc⟩ := hcut
              obtain rfl : w2 = wc := hwc.symm
              have hS2 := HB2.out.2.2
              have ht8 : t0 < 800000 ∧ t1 < 800000 := by have := HO.out.2.2.2; omega
              have hp1 : w2.cell? ⟨w.heap.size, 0, none⟩ = some (.pointer (some ⟨d0, 0, none⟩)) := hS2.ar.d.cell 0
              have hp3 : w2.cell? ⟨w.heap.size + 1, 0, none⟩ = some (.pointer (some ⟨g0, 0, none⟩)) := hS2.ar.c.cell 0
              have hbel2 := hS2.f0.bel
              have hD1 := hS2.f0.csX.does_anyF (HO.out.1.below hbel2) hk ht8.1 HO.out.2.1.1
              have HK := Lib.hid hk
              have HD1 := Lib.hid hD1
              clear hS2 hbel2 hD1 hk hw2
              go_wp2_with fail
              refine HD1.out.mono ?_
              rintro en w3 ⟨A1, n1, q1c, is1, e1, bs1, D0', L0', q1, rfl, hdid1, hbl1, hby1, hA1, hq1, hc1, hkp1⟩
              obtain ⟨w4, hw4⟩ : ∃ w4, w3.alloc (.cells #[.slice A1 n1 q1c, .bool is1, .int .i64 e1] 39) = w4 := ⟨_, rfl⟩
              have hb4 : Below w3.heap.size w3 w4 := by rw [← hw4]; exact (Below.refl _ _).alloc (Nat.le_refl _) _
              have ht4 : Blk w4 w3.heap.size 39 #[.slice A1 n1 q1c, .bool is1, .int .i64 e1] := by rw [← hw4]; exact Blk.new _ _ _
              obtain ⟨F0', hf0, hf1, hdis, har, hoff, hcs1⟩ := HB2.out.2.2.one hc1 hkp1 hb4
              have hs23 := hkp1.size
              have hnF0 : AX w w2 F0 w8.heap.size := ⟨HB2.out.2.1.lt, fun e => by have h1 := (HO.out.2.2.1.f0.rng _ e).2; omega⟩
              have hbx4 : Blk w4 w8.heap.size 37 #[.int .i64 o.kind, .int .i64 o.s, .slice AB o.B.length cB, .slice AK o.K.length cK, .int .i64 o.torn] := (HB2.out.2.1.same (hkp1.at_ _ hnF0)).below hb4 (Nat.lt_of_lt_of_le HB2.out.2.1.lt hs23)
              have bk := hbx4.cell 0
              have bs := hbx4.cell 1
              have bB := hbx4.cell 2
              have bK := hbx4.cell 3
              have bT := hbx4.cell 4
              simp only [List.getElem?_toArray, List.getElem?_cons_zero, List.getElem?_cons_succ] at bk bs bB bK bT
              have p1 : w4.cell? ⟨w.heap.size, 1, none⟩ = some (.pointer (some ⟨d1, 0, none⟩)) := har.d.cell 1
              have p3 : w4.cell? ⟨w.heap.size + 1, 1, none⟩ = some (.pointer (some ⟨g1, 0, none⟩)) := har.c.cell 1
              have hD2 := hcs1.does_anyF (HO.out.1.below hf0.bel) HK.out ht8.2 HO.out.2.1.1
              have HD2 := Lib.hid hD2
              have HF1 := Lib.hid (And.intro hdid1 (And.intro hbl1 (And.intro hby1 (And.intro hA1 (And.intro hq1 (And.intro hc1 (And.intro hkp1 (And.intro hb4 (And.intro ht4 (And.intro hbx4 (And.intro hf1 hs23)))))))))))
              clear hdid1 hbl1 hby1 hA1 hq1 hc1 hkp1 hb4 ht4 hf0 hf1 hdis har hoff hcs1 hs23 hnF0 hbx4 hD2 HD1 hbk hbs hbB hbK hbT hp1 hp3
              go_wp2_with fail
              refine HD2.out.mono ?_
              rintro en w5 ⟨A2, n2, q2c, is2, e2, bs2, D1', L1', q2, rfl, hdid2, hbl2, hby2, hA2, hq2, hc2, hkp2⟩
              obtain ⟨w6, hw6⟩ : ∃ w6, w5.alloc (.cells #[.slice A2 n2 q2c, .bool is2, .int .i64 e2] 39) = w6 := ⟨_, rfl⟩
              have hb6 : Below w5.heap.size w5 w6 := by rw [← hw6]; exact (Below.refl _ _).alloc (Nat.le_refl _) _
              have ht6 : Blk w6 w5.heap.size 39 #[.slice A2 n2 q2c, .bool is2, .int .i64 e2] := by rw [← hw6]; exact Blk.new _ _ _
              obtain ⟨f1, f2, f3, f4, f5, f6, f7, f8, f9, f10, f11, f12⟩ := HF1.out
              obtain ⟨hee, hbb, hwh, hpp0, hpp1⟩ := alike HB2.out.2.2 HK.out f1 hdid2
              obtain ⟨F0n, F1n, hN⟩ := HB2.out.2.2.two f6 f7 f8 hc2 hkp2 hwh hpp0 hpp1
              have HN : Hid (∃ d0 g0 d1 g1, FrI w w6 d0 g0 d1 g1 m0 m1 (i + 1)) := Lib.hid ⟨d0, g0, d1, g1, F0n, F1n, t0 + 1025, t1 + 1025, _, _, _, _, by have := HO.out.2.2.2; omega, by have := HO.out.2.2.2; omega, hN.below hb6⟩
              have hs82 := HB2.out.1.size
              have hs45 := hkp2.size
              have hs34 := f8.size
              have hax : ∀ k, w2.heap.size ≤ k → k < w4.heap.size → AX w w4 F1 k := fun k h1 h2 => ⟨h2, fun e => by have := (HO.out.2.2.1.f1.rng k e).2; omega⟩
              have ht46 : Blk w6 w3.heap.size 39 #[.slice A1 n1 q1c, .bool is1, .int .i64 e1] := (f9.same (hkp2.at_ _ (hax _ f12 f9.lt))).below hb6 (Nat.lt_of_lt_of_le f9.lt hs45)
              have hbx6 : Blk w6 w8.heap.size 37 #[.int .i64 o.kind, .int .i64 o.s, .slice AB o.B.length cB, .slice AK o.K.length cK, .int .i64 o.torn] := (f10.same (hkp2.at_ _ ⟨f10.lt, fun e => by have := (HO.out.2.2.1.f1.rng _ e).2; omega⟩)).below hb6 (Nat.lt_of_lt_of_le f10.lt hs45)
              have r2 := ht46.cell 2
              have r0 := ht46.cell 0
              have s2 := ht6.cell 2
              have s0 := ht6.cell 0
              have bk6 := hbx6.cell 0
              simp only [List.getElem?_toArray, List.getElem?_cons_zero, List.getElem?_cons_succ] at r2 r0 s2 s0 bk6
              have hby6 : Bytes w6 A1 bs1 := ((f3.below f8).same hs45 (fun p e hlt => hkp2.at_ _ (hax _ (by rw [f4 p e]; exact f5) hlt))).below hb6
              have hby26 := hby2.below hb6
              rw [hee] at r2
              by_cases k0 : o.kind = 0
              · have x0 : (o.kind == 0) = true := by rw [k0]; rfl
                have hbb := hbb k0
                have HSM2 := Lib.hid (samet_any A1 A2 n1 q1c n2 q2c bs1 w6 f2 (by rw [hbb]; exact hbl2) hby6 (by rw [hbb]; exact hby26))
                clear f1 f2 f3 f4 f5 f6 f7 f8 f9 f10 f11 f12 hdid2 hbl2 hby2 hA2 hq2 hc2 hkp2 hb6 ht6 hwh hpp0 hpp1 hN hs82 hs45 hs34 hax ht46 hbx6 hby6 hby26 hbb hw4 bk bs bB bK bT p1 p3 HD2 HF1
                go_wp2_with (go_at_call 14; refine Calls.mono HSM2.out ?_; rintro en w7 ⟨rfl, rfl⟩)
                go_roundw
                case rel => exact ⟨i + 1, by omega, by go_num, HN⟩
                case measure => simp [intOf]; omega
              · have x0 : (o.kind == 0) = false := by simpa using k0
                clear f1 f2 f3 f4 f5 f6 f7 f8 f9 f10 f11 f12 hdid2 hbl2 hby2 hA2 hq2 hc2 hkp2 hb6 ht6 hwh hpp0 hpp1 hN hs82 hs45 hs34 hax ht46 hbx6 hby6 hby26 hbb hw4 bk bs bB bK bT p1 p3 HD2 HF1
                go_wp2_with fail
                go_roundw
                case rel => exact ⟨i + 1, by omega, by go_num, HN⟩
                case measure => simp [intOf]; omega
          · have x0 : (o.kind != 0) = true := by simp; omega
            have x1 : (o.kind != 1) = true := by simp; omega
            have x4 : (o.kind != 4) = true := by simp; omega
            have x6 : (o.kind != 6) = true := by simp; omega
            have HN : Hid (∃ d0 g0 d1 g1, FrI w w2 d0 g0 d1 g1 m0 m1 (i + 1)) := Lib.hid ⟨d0, g0, d1, g1, F0, F1, t0, t1, D0, L0, D1, L1, by have := HO.out.2.2.2; omega, by have := HO.out.2.2.2; omega, HB2.out.2.2⟩
            clear HO HB2 hk
            go_wp2_with fail
            go_roundw
            case rel => exact ⟨i + 1, by omega, by go_num, HN⟩
            case measure => simp [intOf]; omega
        · obtain rfl : len = i := by omega
          have hdi : decide ((len : Int) < (len : Int)) = false := by simp
          obtain ⟨d0, g0, d1, g1, F0, F1, t0, t1, D0, L0, D1, L1, ht0, ht1, hS⟩ := hK.out
          have hp3 : w8.cell? ⟨w.heap.size + 1, 0, none⟩ = some (.pointer (some ⟨g0, 0, none⟩)) := hS.ar.c.cell 0
          have HF0 := Lib.hid (hS.f0.csX.flush (by omega))
          have HS := Lib.hid (And.intro hS (And.intro ht0 ht1))
          clear hK hS ht0 ht1
          go_wp2_with fail
          refine HF0.out.mono ?_
          rintro en w3 ⟨D0', L0', rfl, hk1, hcl1, hwh1, hD1, hc1, hkp1⟩
          have hx := HS.out.1.inX
          obtain ⟨F0', hf0, hf1, hdis, har, hoff, hcs1⟩ := HS.out.1.one (q0 := w.heap.size) (hc1.less fun k hk => hk.elim id (fun e => by rw [e]; exact hx.1)) hkp1 (Below.refl _ _)
          have p3 : w3.cell? ⟨w.heap.size + 1, 1, none⟩ = some (.pointer (some ⟨g1, 0, none⟩)) := har.c.cell 1
          have HF2 := Lib.hid (hcs1.flush (by have := HS.out.2; omega))
          have HG := Lib.hid (And.intro hwh1 (And.intro hD1 (And.intro hf0 (And.intro hf1 (And.intro hdis (And.intro har hoff))))))
          clear hk1 hcl1 hwh1 hD1 hc1 hkp1 hx hf0 hf1 hdis har hoff hcs1 HF0
          go_wp2_with fail
          refine HF2.out.mono ?_
          rintro en w4 ⟨D1', L1', rfl, hk2, hcl2, hwh2, hD2, hc2, hkp2⟩
          obtain ⟨g1', g2', g3', g4', g5', g6', g7'⟩ := HG.out
          have y1 : AX w w3 F1 w.heap.size := ⟨g6'.d.lt, fun e => by have := g7' _ (.inr e); omega⟩
          have hf0n := g3'.keep (hkp2.less fun k e => ⟨(g3'.rng k e).2, g5' k e⟩) hc2.bel
          have hard := g6'.d.same (hkp2.at_ _ y1)
          have q1 : w4.cell? ⟨w.heap.size, 0, none⟩ = some (.pointer (some ⟨d0, 0, none⟩)) := hard.cell 0
          have q2 : w4.cell? ⟨w.heap.size, 1, none⟩ = some (.pointer (some ⟨d1, 0, none⟩)) := hard.cell 1
          have hSS : D0'.S = D1'.S := by
            have l0 := hf0n.st.hale.len
            have l1 := hc2.st.hale.len
            apply List.ext_getElem?
            intro j
            by_cases hj : j < 20
            · have h1 := g2' j
              have h2 := hD2 j
              rw [HS.out.1.same j hj, ← h2] at h1
              simp only [List.getD, List.getElem?_eq_getElem (show j < D0'.S.length by omega), List.getElem?_eq_getElem (show j < D1'.S.length by omega), Option.getD_some] at h1
              rw [List.getElem?_eq_getElem (show j < D0'.S.length by omega), List.getElem?_eq_getElem (show j < D1'.S.length by omega), h1]
            · rw [List.getElem?_eq_none (by omega), List.getElem?_eq_none (by omega)]
          have hfull := hf0n.st.hale.full
          have hlen0 := hf0n.st.hale.len
          have HQ : Hid (∀ W, Below w4.heap.size w4 W → W.cell? ⟨w.heap.size, 0, none⟩ = some (.pointer (some ⟨d0, 0, none⟩)) ∧ W.cell? ⟨w.heap.size, 1, none⟩ = some (.pointer (some ⟨d1, 0, none⟩))) := Lib.hid (fun W hW => ⟨(hW.cell (p := ⟨w.heap.size, 0, none⟩) hard.lt).trans q1, (hW.cell (p := ⟨w.heap.size, 1, none⟩) hard.lt).trans q2⟩)
          have HI0 : Hid (∀ W, Below w4.heap.size w4 W → Calls Try.prog 16 #[.pointer (some ⟨d0, 0, none⟩)] W fun e w' => e = .returned (.slice (some ⟨W.heap.size, 0, none⟩) 20 20) ∧ Secs w' (fun j => W.heap.size < j ∧ j < w'.heap.size) W.heap.size D0'.S ∧ Below W.heap.size W w') := Lib.hid (fun W hW => (hf0n.below hW).csX.image)
          have HI1 : Hid (∀ W, Below w4.heap.size w4 W → Calls Try.prog 16 #[.pointer (some ⟨d1, 0, none⟩)] W fun e w' => e = .returned (.slice (some ⟨W.heap.size, 0, none⟩) 20 20) ∧ Secs w' (fun j => W.heap.size < j ∧ j < w'.heap.size) W.heap.size D0'.S ∧ Below W.heap.size W w') := Lib.hid (fun W hW => by rw [hSS]; exact (hc2.below hW).image)
          have HSM3 : Hid (∀ (E E' : Nat → Prop) (a b : Nat) (W : World), Secs W E a D0'.S → Secs W E' b D0'.S → Calls Try.prog 18 #[.slice (some ⟨a, 0, none⟩) 20 20, .slice (some ⟨b, 0, none⟩) 20 20] W fun e w' => e = .returned (.bool true) ∧ Below W.heap.size W w') := Lib.hid (fun E E' a b W h1 h2 => by
            have hl : ∀ x ∈ D0'.S, x.length ≤ 4503599627370496 := fun x hx => by rw [hfull x hx]; omega
            have h := same_any (some ⟨a, 0, none⟩) (some ⟨b, 0, none⟩) 20 20 20 20 D0'.S D0'.S W hlen0 hlen0 h1.img h2.img (by omega) hl hl
            rw [decide_eq_true (rfl : D0'.S = D0'.S)] at h
            exact h)
          have HB := Lib.hid hf0n.bel
          clear hk2 hcl2 hwh2 hD2 hc2 hkp2 g1' g2' g3' g4' g5' g6' g7' y1 hf0n hard hSS hfull hlen0 hp3 p3 HG HS HF2 q1 q2
          go_wp2_with fail
          have hw5 : Below w4.heap.size w4 w4.drew := (Below.refl _ w4).drew
          go_region_held (fun W => W.cell? ⟨w.heap.size, 0, none⟩ = some (.pointer (some ⟨d0, 0, none⟩)) ∧ W.cell? ⟨w.heap.size, 1, none⟩ = some (.pointer (some ⟨d1, 0, none⟩)))
            (first | exact HQ.out _ hw5 | exact HQ.out _ hw13 | exact HQ.out _ hw12 | exact HQ.out _ hw11 | exact HQ.out _ hw10)
            (first
              | (go_at_call 16; refine Calls.mono (HI0.out _ hw5) ?_; rintro e w10 ⟨rfl, hS10, hb10⟩; have hw10 : Below w4.heap.size w4 w10 := hw5.trans hb10)
              | (go_at_call 16; refine Calls.mono (HI1.out _ hw10) ?_; rintro e w11 ⟨rfl, hS11, hb11⟩; have hS10b := hS10.same hb11.size (fun k _ hk => hb11.block k hk) (hb11.block _ hS10.lt); have hw11 : Below w4.heap.size w4 w11 := hw10.trans (hb11.mono hw10.size))
              | (go_at_call 18; refine Calls.mono (HSM3.out _ _ _ _ _ hS10b hS11) ?_; rintro e w12 ⟨rfl, hb12⟩; have hw12 := hw11.trans (hb12.mono hw11.size))
              | (go_at_call 9; refine Calls.mono (works_any _) ?_; rintro e w13 ⟨rfl, hb13⟩; have hw13 := hw12.trans (hb13.mono hw12.size)))
          all_goals
            go_wp2_with fail
            go_ret
            exact ⟨rfl, HB.out.trans (hw13.mono HB.out.size)⟩
end Go.Proofs.Ytiemfhncadcemaa
