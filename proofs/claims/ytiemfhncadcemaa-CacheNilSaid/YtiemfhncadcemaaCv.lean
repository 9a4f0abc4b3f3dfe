/- cache: Evict. -/
import Derived.Test.YtiemfhncadcemaaCu
namespace Go.Proofs.Ytiemfhncadcemaa
open Go.RowKit Dsk
section
variable {w0 w : World} {X : Nat → Prop} {g dg nn most t s : Nat} {L : List Fr} {D : DS}
set_option maxRecDepth 20000 in
theorem CS.evict_none (h : CS w0 w X g dg nn most t D L) (i : Int) (hi : i < 0 ∨ L = []) :
    Calls Try.prog 21 #[.pointer (some ⟨g, 0, none⟩), .int .i64 i] w fun e w' => e = .returned (.tuple #[.bool false, .int .i64 0]) ∧ w = w' := by
  have H1 := Lib.hid h.ref_
  obtain ⟨⟨mb, n, time, B, E, h1, h2, h5⟩, h3, h4⟩ := h
  obtain ⟨c0, c1, c2, c3, _⟩ := h1.cm.head.told
  have hlen := fun ty => h1.cm.map.len ty
  obtain ⟨l, hll⟩ : ∃ l, L.length = l := ⟨_, rfl⟩
  rw [hll] at hlen
  clear h1 h2 h5 h3 h4
  by_cases h0 : i < 0
  · have hd : decide (i < 0) = true := by simpa using h0
    clear hi hll h0
    go_enter Try.func21, Try.ntmps21
    go_wp2_with fail
    refine H1.out.mono ?_
    rintro e w' ⟨rfl, rfl⟩
    go_wp2_with fail
    go_ret2
    exact ⟨rfl, rfl⟩
  · have hd : decide (i < 0) = false := by simpa using h0
    have hl0 : L = [] := hi.resolve_left h0
    have hle : l = 0 := by rw [← hll, hl0]; rfl
    subst hle
    clear hi hll h0 hl0
    go_enter Try.func21, Try.ntmps21
    go_wp2_with fail
    refine H1.out.mono ?_
    rintro e w' ⟨rfl, rfl⟩
    go_wp2_with fail
    go_ret2
    exact ⟨rfl, rfl⟩
set_option maxRecDepth 20000 in
set_option maxHeartbeats 2000000 in
theorem CS.evict (h : CS w0 w X g dg nn most t D L) (i : Int) (hi : 0 ≤ i ∧ i < 9223372036854775808) (hL : L ≠ []) (ht : t < 900000) :
    Calls Try.prog 21 #[.pointer (some ⟨g, 0, none⟩), .int .i64 i] w fun e w' => ∃ x ∈ L,
      (0 < x.pins ∧ e = .returned (.tuple #[.bool false, .int .i64 0]) ∧ CS w0 w' X g dg nn most t D L ∧ Keep X w w') ∨
      (x.pins = 0 ∧ e = .returned (.tuple #[.bool true, .int .i64 0]) ∧ CS w0 w' X g dg nn most (t + 1) (outD D x) (delL x.s L) ∧ Keep X w w') := by
  have H1 := Lib.hid h.ref_
  have hst := h.st
  have hpos := h.pos
  obtain ⟨⟨mb, n, time, B, E, h1, h2, h5⟩, _, _⟩ := h
  obtain ⟨c0, c1, c2, c3, _⟩ := h1.cm.head.told
  have hlen : ∀ q ty, (Builtin.len_ #[63] ty #[.map (some mb)]).run Try.prog (w.drewN q) = .ok (.int .i64 (L.length : Int)) (w.drewN q) := fun q ty => (h1.cm.below (drewN_below w q)).map.len ty
  have hlen0 := fun ty => h1.cm.map.len ty
  have hl1024 : L.length ≤ 1024 := by have := hst.len; have := hst.top; omega
  have HRS : Hid (∀ q, Calls Try.prog 33 #[.pointer (some ⟨g, 0, none⟩)] (w.drewN q) fun e w' => ∃ q c V, e = .returned (.slice (some ⟨q, 0, none⟩) L.length c) ∧ (w.heap.size ≤ q ∧ q < w'.heap.size) ∧ Ints w' (some ⟨q, 0, none⟩) (nums V) ∧ V.length = L.length ∧ (∀ x ∈ L, x.s ∈ V) ∧ (∀ v ∈ V, ∃ x ∈ L, x.s = v) ∧ Below w.heap.size w w') := Lib.hid (fun q => by
    refine (rising_any g dg mb n most time E B L (w.drewN q) (h1.cm.below (drewN_below w q)) hl1024).mono ?_
    rintro e w' ⟨q', c, V, rfl, k1, k2, k3, k4, k5, k6⟩
    exact ⟨q', c, V, rfl, k1, k2, k3, k4, k5, (drewN_below w q).trans k6⟩)
  have hlpos : 0 < L.length := List.length_pos_iff.2 hL
  obtain ⟨l, hll⟩ : ∃ l, L.length = l := ⟨_, rfl⟩
  rw [hll] at hlen hlen0 hl1024 hlpos HRS
  have hd : decide (i < 0) = false := by simpa using hi.1
  have hl0 : ((l : Int) == 0) = false := by simp; omega
  obtain ⟨iN, rfl⟩ : ∃ iN : Nat, i = iN := ⟨i.toNat, by omega⟩
  have hmod : ((iN : Int).tmod (l : Int)) = ((iN % l : Nat) : Int) := (Int.ofNat_tmod iN l).symm
  have hwm : IntKind.i64.wrap ((iN : Int).tmod (l : Int)) = ((iN % l : Nat) : Int) := by rw [hmod]; exact IntWalk.i64_in _ (by have := Nat.mod_lt iN hlpos; omega)
  have hml : iN % l < l := Nat.mod_lt iN hlpos
  have HF := Lib.hid (And.intro h1 (And.intro hst (And.intro hpos (And.intro h2 (And.intro h5 (And.intro hll ht))))))
  clear h1 hst hpos h2 h5 hll ht hL hi
  go_enter Try.func21, Try.ntmps21
  go_wp2_with fail
  refine H1.out.mono ?_
  rintro e w' ⟨rfl, rfl⟩
  go_wp2_with fail
  obtain ⟨kk, hkk⟩ : ∃ kk, iN % l = kk := ⟨_, rfl⟩
  rw [hkk] at hmod hwm hml
  have hk1 : ¬ ((kk : Int) < 0) := by omega
  have hk2 : (kk : Int) < (l : Int) := by omega
  have hlz : (l : Int) ≠ 0 := by omega
  clear hkk
  go_region_with (go_at_call 33; refine (HRS.out _).mono ?_; rintro e w2 ⟨q, c, V, rfl, k1, k2, k3, k4, k5, k6⟩
                  obtain ⟨v, hv⟩ : ∃ v, V[kk]? = some v := ⟨_, List.getElem?_eq_getElem (by rw [k3]; exact hml)⟩
                  obtain ⟨x, hx, hxs⟩ := k5 v (List.mem_of_getElem? hv)
                  subst hxs
                  obtain ⟨q', off, e0, hqlt, hcq, _⟩ := k2 kk (x.s : Int) (nums_get hv)
                  have e0 := Option.some.inj e0
                  injection e0 with e1 e2
                  subst e1
                  subst e2
                  rw [Nat.zero_add] at hcq
                  have d2 := (k6.cell (p := ⟨g, 2, none⟩) (Blk.lt HF.out.1.cm.head)).trans c2
                  have hlen2 := (HF.out.1.cm.below k6).map.len 3
                  rw [HF.out.2.2.2.2.2.1] at hlen2
                  have HX := Lib.hid (And.intro hx k6)
                  clear k1 k2 k3 k4 k5 k6 hv hx)
  all_goals
    obtain ⟨hx, k6⟩ := HX.out
    have hk6 := HF.out.1.below k6
    have hl2 := hk6.1.cm.look_yes hx
    obtain ⟨b0, b1, b2, b3, _⟩ := hk6.1.cm.head.told
    obtain ⟨v, hf, _⟩ := hk6.1.cm.frm x hx
    obtain ⟨f0, f1, f2, f3, _⟩ := hf.told
    have HPO := putOut_any hk6.1 hx (by have := HF.out.2.1.hale.P; have := HF.out.2.2.2.2.2.2; omega) (by have := HF.out.2.1.hale.steps; have := HF.out.2.2.2.2.2.2; omega)
    rw [HF.out.2.1.outE hx, HF.out.2.1.outL hx] at HPO
    replace HPO := Lib.hid HPO
    have HK6 := Lib.hid hk6
    obtain ⟨bf, hbf⟩ : ∃ bf, B x.s = bf := ⟨_, rfl⟩
    obtain ⟨pp, hpp⟩ : ∃ pp, x.pins = pp := ⟨_, rfl⟩
    have HPP := Lib.hid hpp
    rw [hbf] at hl2 f0 f1 f2 f3
    rw [hpp] at f2
    clear hx k6 hk6 hf hbf hpp hcq d2 hlen2 H1 HRS
    by_cases hp : 0 < pp
    · have hpd : decide ((pp : Int) > 0) = true := by simp; omega
      go_wp2_with fail
      go_ret2
      exact ⟨x, HX.out.1, .inl ⟨by rw [HPP.out]; exact hp, rfl, ⟨⟨mb, n, time, B, E, HK6.out.1, HF.out.2.2.2.1, HF.out.2.2.2.2.1⟩, HF.out.2.1, HF.out.2.2.1⟩, HK6.out.2⟩⟩
    · have hpd : decide ((pp : Int) > 0) = false := by simp; omega
      go_wp2_with fail
      refine HPO.out.mono ?_
      rintro e w3 ⟨rfl, r1, r2⟩
      have HRR := Lib.hid (And.intro r1 r2)
      clear r1 r2
      go_wp2_with fail
      go_ret2
      exact ⟨x, HX.out.1, .inr ⟨by rw [HPP.out]; omega, rfl, ⟨⟨mb, n, time, B, E, HRR.out.1, Nat.le_succ_of_le HF.out.2.2.2.1, Nat.le_succ_of_le HF.out.2.2.2.2.1⟩, HF.out.2.1.out HX.out.1, HF.out.2.2.1⟩, HK6.out.2.trans HRR.out.2⟩⟩
end
end Go.Proofs.Ytiemfhncadcemaa
