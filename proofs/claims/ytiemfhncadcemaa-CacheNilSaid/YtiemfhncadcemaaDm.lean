/- cache: does where there is no cache. -/
import Derived.Test.YtiemfhncadcemaaDi
import Derived.Test.YtiemfhncadcemaaDb
import Derived.Deep.RegionHeld3
namespace Go.Proofs.Ytiemfhncadcemaa
open Go.RowKit Dsk
/-- What is answered where there is no cache. -/
def DidN (w0 w' : World) (k : Int) (en : Ending) : Prop := ∃ A c e, en = .returned (.agg #[.slice A 0 c, .bool false, .int .i64 e]) ∧ (0 ≤ k ∧ k ≤ 6 → e = 2) ∧ Below w0.heap.size w0 w'
theorem DidN.fin {w0 w w' wf : World} {k e : Int} {A : Option Addr} {c : Nat} (hw : w0.heap.size ≤ w.heap.size) (he : 0 ≤ k ∧ k ≤ 6 → e = 2) (hb : Below w0.heap.size w0 w') (ho : Off (fun k => k = w.heap.size + 1 ∨ k = w.heap.size + 1 + 1) w' wf) : DidN w0 wf k (.returned (.agg #[.slice A 0 c, .bool false, .int .i64 e])) :=
  ⟨A, c, e, rfl, he, hb.trans (ho.below hb.size (fun k e => by rcases e with e | e <;> omega))⟩
theorem run_appI (w : World) (base : Nat) (v : Value) (n : Nat) (xs : List Int) (hown : w.ownsRow base 3 1 v n (xs.map (Value.int .i64))) (A : Option Addr) (len c : Nat) (ks : List Int) (hlen : ks.length = len) (hA : Ints w A ks)
    (hb : n + len ≤ 140737488355) (hbase : base ≤ w.heap.size) :
    ∃ v' w', (Builtin.append_ #[35, 35] 35 #[v, .slice A len c]).run Try.prog w = .ok v' w' ∧ w'.ownsRow base 3 1 v' (n + len) ((xs ++ ks).map (Value.int .i64)) ∧ w.grownBy w' v.ownBlock := by
  obtain ⟨i0, hi, hz0, hz1, hz2⟩ := info_parts (show (Try.prog.info? 3).map (fun i => (i.zero, i.size, i.bytes)) = some (some (.int .i64 0), 1, 8) by kernel_rfl)
  have hcells : ∀ (a : Addr), A = some a → ∀ (j : Nat) (u : Value), (ks.map (Value.int .i64))[j]? = some u → w.cell? (a.add j) = some u := fun a e j u hu => by
    rw [List.getElem?_map] at hu
    cases hj : ks[j]? with
    | none => rw [hj] at hu; cases hu
    | some d =>
      rw [hj] at hu
      simp only [Option.map_some, Option.some.injEq] at hu
      subst hu
      obtain ⟨b, off, e', _, hc, _⟩ := hA j d hj
      rw [e] at e'; cases e'
      have e2 : (⟨b, off, none⟩ : Addr).add j = ⟨b, off + j, none⟩ := by unfold Addr.add; split <;> simp_all
      rw [e2]; exact hc
  have h1 : ∀ u ∈ ks.map (Value.int .i64), u.oneCell' = true := fun u hu => by obtain ⟨d, _, rfl⟩ := List.mem_map.1 hu; rfl
  cases A with
  | some a =>
    obtain ⟨v', w', hrun, h2, h3, _, _⟩ := run_append_own_at (P := Try.prog) w base 35 35 3 i0 (.int .i64 0) 1 8 Try.underlying35 hi hz0 hz1 hz2 rfl (by decide) v n (xs.map (Value.int .i64)) hown a len c (ks.map (Value.int .i64)) (by simp; omega) (hcells a rfl) h1 (by unfold maxLen; omega) (by omega) hbase
    exact ⟨v', w', hrun, by rw [List.map_append]; exact h2, h3⟩
  | none =>
    have h0 : ks = [] := by
      cases ks with
      | nil => rfl
      | cons d r =>
        obtain ⟨b, off, e, _⟩ := hA 0 d rfl
        cases e
    subst h0
    obtain rfl : 0 = len := hlen
    refine ⟨v, w, ?_, by simpa using hown, World.grownBy.refl w _⟩
    rcases hown.2 with ⟨rfl, rfl⟩ | ⟨g, cap, cur, rfl, _, _, hnc, _⟩
    · simp [Builtin.append_, run_underlying Try.underlying35, sizeOf, typeInfo, hi, Builtin.lenOf, Builtin.firstCells]
    · simp [Builtin.append_, run_underlying Try.underlying35, sizeOf, typeInfo, hi, Builtin.lenOf, Builtin.firstCells, hnc, storeCells]
theorem Ints.of_own {w : World} {base n : Nat} {t : TypeId} {A : Option Addr} {c : Nat} {ks : List Int} (h : w.ownsRow base t 1 (.slice A n c) n (ks.map (Value.int .i64))) (hr : ∀ z ∈ ks, -9223372036854775808 ≤ z ∧ z < 9223372036854775808) : Ints w A ks := fun k d hk => by
  rcases h.2 with ⟨e, rfl⟩ | ⟨g, cap, cur, e, hb, hg, hn, hm, hs, ht⟩
  · have := h.1; simp at this; subst this; simp at hk
  · injection e with e1 e2 e3
    have hlt : g < w.heap.size := (Array.getElem?_eq_some_iff.1 hg).1
    refine ⟨g, 0, e1, hlt, ?_, hr d (List.mem_of_getElem? hk)⟩
    have hkl : k < n := by have := h.1; simp at this; have := (List.getElem?_eq_some_iff.1 hk).1; omega
    rw [Nat.zero_add, cell_of_row w g k cur t (0, 0) hg]
    have h2 : (cur.toList.take (n * 1))[k]? = some (.int .i64 d) := by rw [ht]; simp [hk]
    rw [List.getElem?_take_of_lt (by omega)] at h2
    simpa using h2
theorem Ints.rng {w : World} {A : Option Addr} {ks : List Int} (h : Ints w A ks) : ∀ z ∈ ks, -9223372036854775808 ≤ z ∧ z < 9223372036854775808 := fun z hz => by
  obtain ⟨k, hk⟩ := List.getElem?_of_mem hz
  obtain ⟨_, _, _, _, _, h9⟩ := h k z hk
  exact h9
section
variable {w0 w : World} {X : Nat → Prop} {dg : Nat} {D : DS}
set_option maxRecDepth 20000 in
set_option maxHeartbeats 1000000 in
theorem doesn_pin (h : Run w0 w X dg D) {v0 v1 v2 v3 v4 : Value} {o : Ov} (hv : OpV w v0 v1 v2 v3 v4 o) (hk : o.kind = 2) :
    Calls Try.prog 13 #[.pointer none, .pointer (some ⟨dg, 0, none⟩), .agg #[v0, v1, v2, v3, v4]] w (fun en w' => DidN w0 w' o.kind en) := by
  obtain ⟨cs, hcs⟩ : ∃ cs : Array Value, #[v0, v1, v2, v3, v4] = cs := ⟨_, rfl⟩
  have hd : Run w0 (wD w cs) (YD w X) dg D := h.add (wD_below w cs) (YD w X) (fun k hk => hk.imp id fun e => by rw [wD_size]; exact e)
  have hz := Dz.new w cs
  obtain ⟨⟨e0, _, _⟩, ⟨e1, hs1, hs2⟩, ⟨A, c, e2, _⟩, ⟨K, d, e3, _⟩, ⟨e4, _, _⟩⟩ := hv
  have hcall : Calls Try.prog 19 #[.pointer none, .int .i64 o.s] (wD w cs) fun en w' => ∃ e, en = .returned (.int .i64 e) ∧ (0 ≤ o.kind ∧ o.kind ≤ 6 → e = 2) ∧ Below w0.heap.size w0 w' ∧ Keep (YD w X) (wD w cs) w' := by
    refine (pin_cnil o.s _).mono ?_
    rintro en w' ⟨rfl, rfl⟩
    exact ⟨2, rfl, fun _ => rfl, hd.bel, ⟨Nat.le_refl _, fun _ _ => rfl⟩⟩
  have HC := Lib.hid hcall
  have HD := Lib.hid h.size
  rw [hk] at e0 HC ⊢
  generalize o.B.length = x at *
  generalize o.K.length = y at *
  generalize o.torn = tn at *
  clear hcall hd
  subst e0 e1 e2 e3 e4
  subst hcs
  obtain ⟨s, hs⟩ : ∃ s, o.s = s := ⟨_, rfl⟩
  rw [hs] at HC hz hs1 hs2 ⊢
  clear hs h hk
  go_enter Try.func13, Try.ntmps13
  go_wp2_with fail
  refine HC.out.mono ?_
  rintro en w' ⟨e, rfl, he, hb, hkp⟩
  obtain ⟨zo, zr, zx⟩ := hz.keep hkp
  have r0 := zr.cell 0
  have r1 := zr.cell 1
  have r2 := zr.cell 2
  have rf := zr.frozen
  have x0 := zx.cell 0
  have x1 := zx.cell 1
  have x2 := zx.cell 2
  have xf := zx.frozen
  have HZ := Lib.hid (And.intro zr zx)
  have HF := Lib.hid (And.intro he hb)
  clear zo zr zx he hb hkp hz HC
  go_wp2_with fail
  have HB6 := (((HZ.out.1.far (p := ⟨w.heap.size + 1 + 1, 2, none⟩) (by show w.heap.size + 1 ≠ w.heap.size + 1 + 1; omega) (.int .i64 e)).set_ 0 (.slice none 0 0)).set_ 1 (.bool false)).set_ 2 (.int .i64 e)
  refine bodyPost_ret (results_cell_row rfl _ _ (w.heap.size + 1) 39 _ (0, 0) _ rfl HB6 Try.underlying39 rfl (by kernel_rfl)) rfl ?_
  exact DidN.fin HD.out HF.out.1 HF.out.2 (offS (offS (offS (offS (Off.refl _ _) _ _ _ (.inr rfl)) _ _ _ (.inl rfl)) _ _ _ (.inl rfl)) _ _ _ (.inl rfl))
set_option maxRecDepth 20000 in
set_option maxHeartbeats 1000000 in
theorem doesn_unpin (h : Run w0 w X dg D) {v0 v1 v2 v3 v4 : Value} {o : Ov} (hv : OpV w v0 v1 v2 v3 v4 o) (hk : o.kind = 3) :
    Calls Try.prog 13 #[.pointer none, .pointer (some ⟨dg, 0, none⟩), .agg #[v0, v1, v2, v3, v4]] w (fun en w' => DidN w0 w' o.kind en) := by
  obtain ⟨cs, hcs⟩ : ∃ cs : Array Value, #[v0, v1, v2, v3, v4] = cs := ⟨_, rfl⟩
  have hd : Run w0 (wD w cs) (YD w X) dg D := h.add (wD_below w cs) (YD w X) (fun k hk => hk.imp id fun e => by rw [wD_size]; exact e)
  have hz := Dz.new w cs
  obtain ⟨⟨e0, _, _⟩, ⟨e1, hs1, hs2⟩, ⟨A, c, e2, _⟩, ⟨K, d, e3, _⟩, ⟨e4, _, _⟩⟩ := hv
  have hcall : Calls Try.prog 23 #[.pointer none, .int .i64 o.s] (wD w cs) fun en w' => ∃ e, en = .returned (.int .i64 e) ∧ (0 ≤ o.kind ∧ o.kind ≤ 6 → e = 2) ∧ Below w0.heap.size w0 w' ∧ Keep (YD w X) (wD w cs) w' := by
    refine (unpin_cnil o.s _).mono ?_
    rintro en w' ⟨rfl, rfl⟩
    exact ⟨2, rfl, fun _ => rfl, hd.bel, ⟨Nat.le_refl _, fun _ _ => rfl⟩⟩
  have HC := Lib.hid hcall
  have HD := Lib.hid h.size
  rw [hk] at e0 HC ⊢
  generalize o.B.length = x at *
  generalize o.K.length = y at *
  generalize o.torn = tn at *
  clear hcall hd
  subst e0 e1 e2 e3 e4
  subst hcs
  obtain ⟨s, hs⟩ : ∃ s, o.s = s := ⟨_, rfl⟩
  rw [hs] at HC hz hs1 hs2 ⊢
  clear hs h hk
  go_enter Try.func13, Try.ntmps13
  go_wp2_with fail
  refine HC.out.mono ?_
  rintro en w' ⟨e, rfl, he, hb, hkp⟩
  obtain ⟨zo, zr, zx⟩ := hz.keep hkp
  have r0 := zr.cell 0
  have r1 := zr.cell 1
  have r2 := zr.cell 2
  have rf := zr.frozen
  have x0 := zx.cell 0
  have x1 := zx.cell 1
  have x2 := zx.cell 2
  have xf := zx.frozen
  have HZ := Lib.hid (And.intro zr zx)
  have HF := Lib.hid (And.intro he hb)
  clear zo zr zx he hb hkp hz HC
  go_wp2_with fail
  have HB6 := (((HZ.out.1.far (p := ⟨w.heap.size + 1 + 1, 2, none⟩) (by show w.heap.size + 1 ≠ w.heap.size + 1 + 1; omega) (.int .i64 e)).set_ 0 (.slice none 0 0)).set_ 1 (.bool false)).set_ 2 (.int .i64 e)
  refine bodyPost_ret (results_cell_row rfl _ _ (w.heap.size + 1) 39 _ (0, 0) _ rfl HB6 Try.underlying39 rfl (by kernel_rfl)) rfl ?_
  exact DidN.fin HD.out HF.out.1 HF.out.2 (offS (offS (offS (offS (Off.refl _ _) _ _ _ (.inr rfl)) _ _ _ (.inl rfl)) _ _ _ (.inl rfl)) _ _ _ (.inl rfl))
set_option maxRecDepth 20000 in
set_option maxHeartbeats 1000000 in
theorem doesn_evict (h : Run w0 w X dg D) {v0 v1 v2 v3 v4 : Value} {o : Ov} (hv : OpV w v0 v1 v2 v3 v4 o) (hk : o.kind = 4) :
    Calls Try.prog 13 #[.pointer none, .pointer (some ⟨dg, 0, none⟩), .agg #[v0, v1, v2, v3, v4]] w (fun en w' => DidN w0 w' o.kind en) := by
  obtain ⟨cs, hcs⟩ : ∃ cs : Array Value, #[v0, v1, v2, v3, v4] = cs := ⟨_, rfl⟩
  have hd : Run w0 (wD w cs) (YD w X) dg D := h.add (wD_below w cs) (YD w X) (fun k hk => hk.imp id fun e => by rw [wD_size]; exact e)
  have hz := Dz.new w cs
  obtain ⟨⟨e0, _, _⟩, ⟨e1, hs1, hs2⟩, ⟨A, c, e2, _⟩, ⟨K, d, e3, _⟩, ⟨e4, _, _⟩⟩ := hv
  have hcall : Calls Try.prog 21 #[.pointer none, .int .i64 o.s] (wD w cs) fun en w' => ∃ e, en = .returned (.tuple #[.bool false, .int .i64 e]) ∧ (0 ≤ o.kind ∧ o.kind ≤ 6 → e = 2) ∧ Below w0.heap.size w0 w' ∧ Keep (YD w X) (wD w cs) w' := by
    refine (evict_cnil o.s _).mono ?_
    rintro en w' ⟨rfl, rfl⟩
    exact ⟨2, rfl, fun _ => rfl, hd.bel, ⟨Nat.le_refl _, fun _ _ => rfl⟩⟩
  have HC := Lib.hid hcall
  have HD := Lib.hid h.size
  rw [hk] at e0 HC ⊢
  generalize o.B.length = x at *
  generalize o.K.length = y at *
  generalize o.torn = tn at *
  clear hcall hd
  subst e0 e1 e2 e3 e4
  subst hcs
  obtain ⟨s, hs⟩ : ∃ s, o.s = s := ⟨_, rfl⟩
  rw [hs] at HC hz hs1 hs2 ⊢
  clear hs h hk
  go_enter Try.func13, Try.ntmps13
  go_wp2_with fail
  refine HC.out.mono ?_
  rintro en w' ⟨e, rfl, he, hb, hkp⟩
  obtain ⟨zo, zr, zx⟩ := hz.keep hkp
  have r0 := zr.cell 0
  have r1 := zr.cell 1
  have r2 := zr.cell 2
  have rf := zr.frozen
  have x0 := zx.cell 0
  have x1 := zx.cell 1
  have x2 := zx.cell 2
  have xf := zx.frozen
  have HZ := Lib.hid (And.intro zr zx)
  have HF := Lib.hid (And.intro he hb)
  clear zo zr zx he hb hkp hz HC
  go_wp2_with fail
  have HB6 := ((((HZ.out.1.far (p := ⟨w.heap.size + 1 + 1, 1, none⟩) (by show w.heap.size + 1 ≠ w.heap.size + 1 + 1; omega) (.bool false)).far (p := ⟨w.heap.size + 1 + 1, 2, none⟩) (by show w.heap.size + 1 ≠ w.heap.size + 1 + 1; omega) (.int .i64 e)).set_ 0 (.slice none 0 0)).set_ 1 (.bool false)).set_ 2 (.int .i64 e)
  refine bodyPost_ret (results_cell_row rfl _ _ (w.heap.size + 1) 39 _ (0, 0) _ rfl HB6 Try.underlying39 rfl (by kernel_rfl)) rfl ?_
  exact DidN.fin HD.out HF.out.1 HF.out.2 (offS (offS (offS (offS (offS (Off.refl _ _) _ _ _ (.inr rfl)) _ _ _ (.inr rfl)) _ _ _ (.inl rfl)) _ _ _ (.inl rfl)) _ _ _ (.inl rfl))
set_option maxRecDepth 20000 in
set_option maxHeartbeats 1000000 in
theorem doesn_drop (h : Run w0 w X dg D) {v0 v1 v2 v3 v4 : Value} {o : Ov} (hv : OpV w v0 v1 v2 v3 v4 o) (hk : o.kind = 5) :
    Calls Try.prog 13 #[.pointer none, .pointer (some ⟨dg, 0, none⟩), .agg #[v0, v1, v2, v3, v4]] w (fun en w' => DidN w0 w' o.kind en) := by
  obtain ⟨cs, hcs⟩ : ∃ cs : Array Value, #[v0, v1, v2, v3, v4] = cs := ⟨_, rfl⟩
  have hd : Run w0 (wD w cs) (YD w X) dg D := h.add (wD_below w cs) (YD w X) (fun k hk => hk.imp id fun e => by rw [wD_size]; exact e)
  have hz := Dz.new w cs
  obtain ⟨⟨e0, _, _⟩, ⟨e1, hs1, hs2⟩, ⟨A, c, e2, _⟩, ⟨K, d, e3, _⟩, ⟨e4, _, _⟩⟩ := hv
  have hcall : Calls Try.prog 22 #[.pointer none, .int .i64 o.s] (wD w cs) fun en w' => ∃ e, en = .returned (.int .i64 e) ∧ (0 ≤ o.kind ∧ o.kind ≤ 6 → e = 2) ∧ Below w0.heap.size w0 w' ∧ Keep (YD w X) (wD w cs) w' := by
    refine (drop_cnil o.s _).mono ?_
    rintro en w' ⟨rfl, rfl⟩
    exact ⟨2, rfl, fun _ => rfl, hd.bel, ⟨Nat.le_refl _, fun _ _ => rfl⟩⟩
  have HC := Lib.hid hcall
  have HD := Lib.hid h.size
  rw [hk] at e0 HC ⊢
  generalize o.B.length = x at *
  generalize o.K.length = y at *
  generalize o.torn = tn at *
  clear hcall hd
  subst e0 e1 e2 e3 e4
  subst hcs
  obtain ⟨s, hs⟩ : ∃ s, o.s = s := ⟨_, rfl⟩
  rw [hs] at HC hz hs1 hs2 ⊢
  clear hs h hk
  go_enter Try.func13, Try.ntmps13
  go_wp2_with fail
  refine HC.out.mono ?_
  rintro en w' ⟨e, rfl, he, hb, hkp⟩
  obtain ⟨zo, zr, zx⟩ := hz.keep hkp
  have r0 := zr.cell 0
  have r1 := zr.cell 1
  have r2 := zr.cell 2
  have rf := zr.frozen
  have x0 := zx.cell 0
  have x1 := zx.cell 1
  have x2 := zx.cell 2
  have xf := zx.frozen
  have HZ := Lib.hid (And.intro zr zx)
  have HF := Lib.hid (And.intro he hb)
  clear zo zr zx he hb hkp hz HC
  go_wp2_with fail
  have HB6 := (((HZ.out.1.far (p := ⟨w.heap.size + 1 + 1, 2, none⟩) (by show w.heap.size + 1 ≠ w.heap.size + 1 + 1; omega) (.int .i64 e)).set_ 0 (.slice none 0 0)).set_ 1 (.bool false)).set_ 2 (.int .i64 e)
  refine bodyPost_ret (results_cell_row rfl _ _ (w.heap.size + 1) 39 _ (0, 0) _ rfl HB6 Try.underlying39 rfl (by kernel_rfl)) rfl ?_
  exact DidN.fin HD.out HF.out.1 HF.out.2 (offS (offS (offS (offS (Off.refl _ _) _ _ _ (.inr rfl)) _ _ _ (.inl rfl)) _ _ _ (.inl rfl)) _ _ _ (.inl rfl))
set_option maxRecDepth 20000 in
set_option maxHeartbeats 1000000 in
theorem doesn_flush (h : Run w0 w X dg D) {v0 v1 v2 v3 v4 : Value} {o : Ov} (hv : OpV w v0 v1 v2 v3 v4 o) (hk : o.kind = 6) :
    Calls Try.prog 13 #[.pointer none, .pointer (some ⟨dg, 0, none⟩), .agg #[v0, v1, v2, v3, v4]] w (fun en w' => DidN w0 w' o.kind en) := by
  obtain ⟨cs, hcs⟩ : ∃ cs : Array Value, #[v0, v1, v2, v3, v4] = cs := ⟨_, rfl⟩
  have hd : Run w0 (wD w cs) (YD w X) dg D := h.add (wD_below w cs) (YD w X) (fun k hk => hk.imp id fun e => by rw [wD_size]; exact e)
  have hz := Dz.new w cs
  obtain ⟨⟨e0, _, _⟩, ⟨e1, hs1, hs2⟩, ⟨A, c, e2, _⟩, ⟨K, d, e3, _⟩, ⟨e4, _, _⟩⟩ := hv
  have hcall : Calls Try.prog 17 #[.pointer none] (wD w cs) fun en w' => ∃ e, en = .returned (.int .i64 e) ∧ (0 ≤ o.kind ∧ o.kind ≤ 6 → e = 2) ∧ Below w0.heap.size w0 w' ∧ Keep (YD w X) (wD w cs) w' := by
    refine (flush_cnil _).mono ?_
    rintro en w' ⟨rfl, rfl⟩
    exact ⟨2, rfl, fun _ => rfl, hd.bel, ⟨Nat.le_refl _, fun _ _ => rfl⟩⟩
  have HC := Lib.hid hcall
  have HD := Lib.hid h.size
  rw [hk] at e0 HC ⊢
  generalize o.B.length = x at *
  generalize o.K.length = y at *
  generalize o.torn = tn at *
  clear hcall hd
  subst e0 e1 e2 e3 e4
  subst hcs
  obtain ⟨s, hs⟩ : ∃ s, o.s = s := ⟨_, rfl⟩
  rw [hs] at HC hz hs1 hs2 ⊢
  clear hs h hk
  go_enter Try.func13, Try.ntmps13
  go_wp2_with fail
  refine HC.out.mono ?_
  rintro en w' ⟨e, rfl, he, hb, hkp⟩
  obtain ⟨zo, zr, zx⟩ := hz.keep hkp
  have r0 := zr.cell 0
  have r1 := zr.cell 1
  have r2 := zr.cell 2
  have rf := zr.frozen
  have x0 := zx.cell 0
  have x1 := zx.cell 1
  have x2 := zx.cell 2
  have xf := zx.frozen
  have HZ := Lib.hid (And.intro zr zx)
  have HF := Lib.hid (And.intro he hb)
  clear zo zr zx he hb hkp hz HC
  go_wp2_with fail
  have HB6 := (((HZ.out.1.far (p := ⟨w.heap.size + 1 + 1, 2, none⟩) (by show w.heap.size + 1 ≠ w.heap.size + 1 + 1; omega) (.int .i64 e)).set_ 0 (.slice none 0 0)).set_ 1 (.bool false)).set_ 2 (.int .i64 e)
  refine bodyPost_ret (results_cell_row rfl _ _ (w.heap.size + 1) 39 _ (0, 0) _ rfl HB6 Try.underlying39 rfl (by kernel_rfl)) rfl ?_
  exact DidN.fin HD.out HF.out.1 HF.out.2 (offS (offS (offS (offS (Off.refl _ _) _ _ _ (.inr rfl)) _ _ _ (.inl rfl)) _ _ _ (.inl rfl)) _ _ _ (.inl rfl))
set_option maxRecDepth 20000 in
set_option maxHeartbeats 1000000 in
theorem doesn_arm (h : Run w0 w X dg D) {v0 v1 v2 v3 v4 : Value} {o : Ov} (hv : OpV w v0 v1 v2 v3 v4 o) (hk : o.kind = 8) :
    Calls Try.prog 13 #[.pointer none, .pointer (some ⟨dg, 0, none⟩), .agg #[v0, v1, v2, v3, v4]] w (fun en w' => DidN w0 w' o.kind en) := by
  obtain ⟨cs, hcs⟩ : ∃ cs : Array Value, #[v0, v1, v2, v3, v4] = cs := ⟨_, rfl⟩
  have hd : Run w0 (wD w cs) (YD w X) dg D := h.add (wD_below w cs) (YD w X) (fun k hk => hk.imp id fun e => by rw [wD_size]; exact e)
  have hz := Dz.new w cs
  obtain ⟨⟨e0, _, _⟩, ⟨e1, hs1, hs2⟩, ⟨A, c, e2, _⟩, ⟨K, d, e3, _⟩, ⟨e4, _, _⟩⟩ := hv
  have hcall : Calls Try.prog 30 #[.pointer (some ⟨dg, 0, none⟩), .int .i64 o.s] (wD w cs) fun en w' => ∃ e, en = .returned (.int .i64 e) ∧ (0 ≤ o.kind ∧ o.kind ≤ 6 → e = 2) ∧ Below w0.heap.size w0 w' ∧ Keep (YD w X) (wD w cs) w' := by
    refine (hd.arm o.s hs2).mono ?_
    rintro en w' ⟨rfl, hr, hkp⟩
    exact ⟨_, rfl, fun h9 => by omega, hr.bel, hkp⟩
  have HC := Lib.hid hcall
  have HD := Lib.hid h.size
  rw [hk] at e0 HC ⊢
  generalize o.B.length = x at *
  generalize o.K.length = y at *
  generalize o.torn = tn at *
  clear hcall hd
  subst e0 e1 e2 e3 e4
  subst hcs
  obtain ⟨s, hs⟩ : ∃ s, o.s = s := ⟨_, rfl⟩
  rw [hs] at HC hz hs1 hs2 ⊢
  clear hs h hk
  go_enter Try.func13, Try.ntmps13
  go_wp2_with fail
  refine HC.out.mono ?_
  rintro en w' ⟨e, rfl, he, hb, hkp⟩
  obtain ⟨zo, zr, zx⟩ := hz.keep hkp
  have r0 := zr.cell 0
  have r1 := zr.cell 1
  have r2 := zr.cell 2
  have rf := zr.frozen
  have x0 := zx.cell 0
  have x1 := zx.cell 1
  have x2 := zx.cell 2
  have xf := zx.frozen
  have HZ := Lib.hid (And.intro zr zx)
  have HF := Lib.hid (And.intro he hb)
  clear zo zr zx he hb hkp hz HC
  go_wp2_with fail
  have HB6 := (((HZ.out.1.far (p := ⟨w.heap.size + 1 + 1, 2, none⟩) (by show w.heap.size + 1 ≠ w.heap.size + 1 + 1; omega) (.int .i64 e)).set_ 0 (.slice none 0 0)).set_ 1 (.bool false)).set_ 2 (.int .i64 e)
  refine bodyPost_ret (results_cell_row rfl _ _ (w.heap.size + 1) 39 _ (0, 0) _ rfl HB6 Try.underlying39 rfl (by kernel_rfl)) rfl ?_
  exact DidN.fin HD.out HF.out.1 HF.out.2 (offS (offS (offS (offS (Off.refl _ _) _ _ _ (.inr rfl)) _ _ _ (.inl rfl)) _ _ _ (.inl rfl)) _ _ _ (.inl rfl))
set_option maxRecDepth 20000 in
set_option maxHeartbeats 1000000 in
theorem doesn_other (h : Run w0 w X dg D) {v0 v1 v2 v3 v4 : Value} {o : Ov} (hv : OpV w v0 v1 v2 v3 v4 o) (hk : o.kind < 0 ∨ 8 < o.kind) :
    Calls Try.prog 13 #[.pointer none, .pointer (some ⟨dg, 0, none⟩), .agg #[v0, v1, v2, v3, v4]] w (fun en w' => DidN w0 w' o.kind en) := by
  obtain ⟨cs, hcs⟩ : ∃ cs : Array Value, #[v0, v1, v2, v3, v4] = cs := ⟨_, rfl⟩
  have hd : Run w0 (wD w cs) (YD w X) dg D := h.add (wD_below w cs) (YD w X) (fun k hk => hk.imp id fun e => by rw [wD_size]; exact e)
  have hz := Dz.new w cs
  obtain ⟨⟨e0, _, _⟩, ⟨e1, hs1, hs2⟩, ⟨A, c, e2, _⟩, ⟨K, d, e3, _⟩, ⟨e4, _, _⟩⟩ := hv
  have HD := Lib.hid (And.intro h.size hd.bel)
  obtain ⟨kk, hkk⟩ : ∃ kk, o.kind = kk := ⟨_, rfl⟩
  rw [hkk] at e0 hk ⊢
  generalize o.B.length = x at *
  generalize o.K.length = y at *
  generalize o.torn = tn at *
  clear hd
  subst e0 e1 e2 e3 e4
  subst hcs
  obtain ⟨s, hs⟩ : ∃ s, o.s = s := ⟨_, rfl⟩
  rw [hs] at hz hs1 hs2 HD ⊢
  clear hs h hkk
  have d0 : (kk == 0) = false := by simp; omega
  have d1 : (kk == 1) = false := by simp; omega
  have d2 : (kk == 2) = false := by simp; omega
  have d3 : (kk == 3) = false := by simp; omega
  have d4 : (kk == 4) = false := by simp; omega
  have d5 : (kk == 5) = false := by simp; omega
  have d6 : (kk == 6) = false := by simp; omega
  have d7 : (kk == 7) = false := by simp; omega
  have d8 : (kk == 8) = false := by simp; omega
  have HK := Lib.hid hk
  clear hk
  have HZ := Lib.hid (And.intro hz.r hz.x)
  clear hz
  go_enter Try.func13, Try.ntmps13
  go_wp2_with fail
  have HB6 := HZ.out.1
  refine bodyPost_ret (results_cell_row rfl _ _ (w.heap.size + 1) 39 _ (0, 0) _ rfl HB6 Try.underlying39 rfl (by kernel_rfl)) rfl ?_
  exact DidN.fin HD.out.1 (fun h9 => by have := HK.out; omega) HD.out.2 (Off.refl _ _)
end
/-- Between the rounds of the loops that turn what was handed out. -/
structure LpN (w0 w wr : World) (q len : Nat) (xs : Array Value) : Prop where
  r : Blk wr (w.heap.size + 1) 39 #[.slice none 0 0, .bool false, .int .i64 0]
  x : Blk wr (w.heap.size + 1 + 1) 39 xs
  mu : 0 < len → Mut wr q len
  bel : Below w0.heap.size w0 wr
theorem LpN.start {w0 w w2 w5 : World} {q len : Nat} {cs ys xs : Array Value} (h0 : w0.heap.size ≤ w.heap.size) (hz : Dz w w2 cs ys) (hb : Below w0.heap.size w0 w2) (hmu : 0 < len → Mut w2 q len) (hq : 0 < len → w.heap.size + 3 ≤ q)
    (ho : Off (fun k => k = w.heap.size + 1 + 1) w2 w5) (hx : Blk w5 (w.heap.size + 1 + 1) 39 xs) : LpN w0 w w5 q len xs :=
  ⟨hz.r.same (ho.block _ hz.r.lt (by show ¬ (w.heap.size + 1 = w.heap.size + 1 + 1); omega)), hx, fun hl => (hmu hl).same ho.size (ho.block _ (hmu hl).lt (fun e => by have e' : q = w.heap.size + 1 + 1 := e; have := hq hl; omega)),
    hb.trans (ho.below hb.size (fun k e => by have e' : k = w.heap.size + 1 + 1 := e; omega))⟩
theorem LpN.step {w0 w wr : World} {q len : Nat} {xs : Array Value} (h : LpN w0 w wr q len xs) (hw : w0.heap.size ≤ w.heap.size) (hq : w.heap.size + 3 ≤ q) (hl : 0 < len) (i : Nat) (c : UInt8) : LpN w0 w (wr.setCell ⟨q, i, none⟩ (bv c)) q len xs :=
  ⟨h.r.far (p := ⟨q, i, none⟩) (by show w.heap.size + 1 ≠ q; omega) _, h.x.far (p := ⟨q, i, none⟩) (by show w.heap.size + 1 + 1 ≠ q; omega) _, fun _ => (h.mu hl).set_ i c, h.bel.setCell (p := ⟨q, i, none⟩) (by show w0.heap.size ≤ q; omega) _⟩
theorem LpN.fin {w0 w wr wf : World} {q len c : Nat} {xs : Array Value} {A : Option Addr} {k e : Int} (h : LpN w0 w wr q len xs) (hw : w0.heap.size ≤ w.heap.size) (he : 0 ≤ k ∧ k ≤ 6 → e = 2) (ho : Off (fun k => k = w.heap.size + 1) wr wf) : DidN w0 wf k (.returned (.agg #[.slice A 0 c, .bool false, .int .i64 e])) :=
  ⟨A, c, e, rfl, he, h.bel.trans (ho.below h.bel.size (fun k e => by have e' : k = w.heap.size + 1 := e; omega))⟩
section
variable {w0 w : World} {X : Nat → Prop} {dg : Nat} {D : DS}
set_option maxRecDepth 20000 in
set_option maxHeartbeats 2000000 in
theorem doesn_read (h : Run w0 w X dg D) {v0 v1 v2 v3 v4 : Value} {o : Ov} (hv : OpV w v0 v1 v2 v3 v4 o) (hk : o.kind = 0) :
    Calls Try.prog 13 #[.pointer none, .pointer (some ⟨dg, 0, none⟩), .agg #[v0, v1, v2, v3, v4]] w (fun en w' => DidN w0 w' o.kind en) := by
  obtain ⟨cs, hcs⟩ : ∃ cs : Array Value, #[v0, v1, v2, v3, v4] = cs := ⟨_, rfl⟩
  have hd : Run w0 (wD w cs) (YD w X) dg D := h.add (wD_below w cs) (YD w X) (fun k hk => hk.imp id fun e => by rw [wD_size]; exact e)
  have hz := Dz.new w cs
  obtain ⟨⟨e0, _, _⟩, ⟨e1, hs1, hs2⟩, ⟨A, c, e2, _, _, hby⟩, ⟨K, d, e3, _, _, hin⟩, ⟨e4, _, _⟩⟩ := hv
  have HT := Lib.hid (twin_any none 0 0 [] (wD w cs) rfl (by omega) (Bytes.nil _ _))
  have HC := Lib.hid (read_cnil o.s (wD w cs))
  have HD := Lib.hid (And.intro h.size (And.intro hd.bel hz))
  rw [hk] at e0 ⊢
  generalize o.B.length = x at *
  generalize o.K.length = y at *
  generalize o.torn = tn at *
  clear hd hz hby hin h hk
  subst e0 e1 e2 e3 e4
  subst hcs
  obtain ⟨s, hs⟩ : ∃ s, o.s = s := ⟨_, rfl⟩
  rw [hs] at HC HD hs1 hs2 HT ⊢
  clear hs
  go_enter Try.func13, Try.ntmps13
  go_wp2_with fail
  refine HC.out.mono ?_
  rintro en w1 ⟨rfl, rfl⟩
  clear HC
  go_wp2_with fail
  refine HT.out.mono ?_
  rintro en w2 ⟨A2, c2, rfl, ho, hb2⟩
  have hz2 := HD.out.2.2.below hb2
  have x0 := hz2.x.cell 0
  have x1 := hz2.x.cell 1
  have x2 := hz2.x.cell 2
  have xf := hz2.x.frozen
  have HS : Hid (LpN w0 w (((w2.setCell ⟨w.heap.size + 1 + 1, 0, none⟩ (.slice A2 0 c2)).setCell ⟨w.heap.size + 1 + 1, 1, none⟩ (.bool false)).setCell ⟨w.heap.size + 1 + 1, 2, none⟩ (.int .i64 2)) 0 0 #[.slice A2 0 c2, .bool false, .int .i64 2]) := Lib.hid
    (LpN.start HD.out.1 hz2 (HD.out.2.1.trans (hb2.mono HD.out.2.1.size)) (fun h => absurd h (Nat.lt_irrefl 0)) (fun h => absurd h (Nat.lt_irrefl 0)) (off3 _ _ _ _ _ _ _ _) (((hz2.x.set_ 0 _).set_ 1 _).set_ 2 _))
  have HL := Lib.hid HD.out.1
  clear ho hb2 hz2 HT HD
  go_wp2_with fail
  go_loopw [10] (fun iv wr => iv = .int .i64 0 ∧ Hid (LpN w0 w wr 0 0 #[.slice A2 0 c2, .bool false, .int .i64 2])) (fun _ _ => 0)
  case atStart => exact ⟨rfl, HS⟩
  case round =>
    clear HS x0 x1 x2 xf
    obtain ⟨rfl, hI⟩ := hrel
    have r0 := hI.out.r.cell 0
    have r1 := hI.out.r.cell 1
    have r2 := hI.out.r.cell 2
    have rf := hI.out.r.frozen
    have y0 := hI.out.x.cell 0
    have y1 := hI.out.x.cell 1
    have y2 := hI.out.x.cell 2
    have HI := Lib.hid hI.out
    clear hI
    go_wp2_with fail
    have HB6 := ((HI.out.r.set_ 0 (.slice A2 0 c2)).set_ 1 (.bool false)).set_ 2 (.int .i64 2)
    refine bodyPost_ret (results_cell_row rfl _ _ (w.heap.size + 1) 39 _ (0, 0) _ rfl HB6 Try.underlying39 rfl (by kernel_rfl)) rfl ?_
    exact HI.out.fin HL.out (fun _ => rfl) (off3 _ _ _ _ _ _ _ _)
set_option maxRecDepth 20000 in
set_option maxHeartbeats 2000000 in
theorem doesn_write (h : Run w0 w X dg D) {v0 v1 v2 v3 v4 : Value} {o : Ov} (hv : OpV w v0 v1 v2 v3 v4 o) (hk : o.kind = 1) (hB : o.B.length ≤ 1024) :
    Calls Try.prog 13 #[.pointer none, .pointer (some ⟨dg, 0, none⟩), .agg #[v0, v1, v2, v3, v4]] w (fun en w' => DidN w0 w' o.kind en) := by
  obtain ⟨cs, hcs⟩ : ∃ cs : Array Value, #[v0, v1, v2, v3, v4] = cs := ⟨_, rfl⟩
  have hd : Run w0 (wD w cs) (YD w X) dg D := h.add (wD_below w cs) (YD w X) (fun k hk => hk.imp id fun e => by rw [wD_size]; exact e)
  have hz := Dz.new w cs
  obtain ⟨⟨e0, _, _⟩, ⟨e1, hs1, hs2⟩, ⟨A, c, e2, _, _, hby⟩, ⟨K, d, e3, _, _, hin⟩, ⟨e4, _, _⟩⟩ := hv
  have HT := Lib.hid (twin_any A o.B.length c o.B (wD w cs) rfl (by omega) (hby.below (wD_below w cs)))
  have HC := Lib.hid (fun (A2 : Option Addr) (l2 c2 : Nat) W => write_cnil o.s A2 l2 c2 W)
  have HD := Lib.hid (And.intro h.size (And.intro hd.bel hz))
  rw [hk] at e0 ⊢
  obtain ⟨len, hlen⟩ : ∃ len, o.B.length = len := ⟨_, rfl⟩
  rw [hlen] at HT e2 hB
  generalize o.K.length = y at *
  generalize o.torn = tn at *
  clear hd hz hby hin h hk hlen
  subst e0 e1 e2 e3 e4
  subst hcs
  obtain ⟨s, hs⟩ : ∃ s, o.s = s := ⟨_, rfl⟩
  rw [hs] at HC HD hs1 hs2 HT ⊢
  clear hs
  go_enter Try.func13, Try.ntmps13
  go_wp2_with fail
  refine HT.out.mono ?_
  rintro en w1 ⟨A2, c2, rfl, ho, hb⟩
  have hz1 := HD.out.2.2.below hb
  have s1 : w1.cell? ⟨w.heap.size, 1, none⟩ = some (.int .i64 s) := hz1.op.cell 1
  have hw1 : (wD w #[.int .i64 1, .int .i64 s, .slice A len c, .slice K y d, .int .i64 tn]).heap.size = w.heap.size + 3 := wD_size w _
  obtain ⟨q, hq⟩ : ∃ q, 0 < len → A2 = some ⟨q, 0, none⟩ ∧ w.heap.size + 3 ≤ q ∧ Mut w1 q len := by
    by_cases h0 : 0 < len
    · obtain ⟨q, e, hr⟩ := ho.may h0
      have h9 := (ho.blk _ e).1
      rw [hw1] at h9
      exact ⟨q, fun _ => ⟨e, h9, hr.mut⟩⟩
    · exact ⟨0, fun h => absurd h h0⟩
  have x0 := hz1.x.cell 0
  have x1 := hz1.x.cell 1
  have x2 := hz1.x.cell 2
  have xf := hz1.x.frozen
  have HS : Hid (LpN w0 w (w1.setCell ⟨w.heap.size + 1 + 1, 2, none⟩ (.int .i64 2)) q len #[.slice none 0 0, .bool false, .int .i64 2]) := Lib.hid
    (LpN.start HD.out.1 hz1 (HD.out.2.1.trans (hb.mono HD.out.2.1.size)) (fun h => (hq h).2.2) (fun h => (hq h).2.1) (Off.setc _ _ _ _) (hz1.x.set_ 2 _))
  have HG := Lib.hid (And.intro HD.out.1 hq)
  clear ho hb hz1 HT hq hw1 HD
  go_wp2_with fail
  refine (HC.out _ _ _ _).mono ?_
  rintro en w2 ⟨rfl, rfl⟩
  clear HC
  go_wp2_with fail
  go_loopw [12] (fun iv wr => ∃ i : Nat, i ≤ len ∧ iv = .int .i64 (i : Int) ∧ Hid (LpN w0 w wr q len #[.slice none 0 0, .bool false, .int .i64 2])) (fun iv _ => len - (intOf iv).toNat)
  case atStart => exact ⟨0, Nat.zero_le _, rfl, HS⟩
  case round =>
    clear HS x0 x1 x2 xf
    obtain ⟨i, hi, rfl, hI⟩ := hrel
    by_cases hlt : i < len
    · have hd : decide ((i : Int) < (len : Int)) = true := by simpa using hlt
      have hA := (HG.out.2 (by omega)).1
      subst hA
      have hmu := hI.out.mu (by omega)
      obtain ⟨b, hcb⟩ := hmu.cell i hlt
      have hfb := hmu.free i hlt
      have HI2 := Lib.hid (hI.out.step HG.out.1 (HG.out.2 (by omega)).2.1 (by omega) i 85)
      unfold bv at hcb
      clear hmu hI
      go_wp2_with fail
      go_roundw
      case rel => exact ⟨i + 1, by omega, by go_num, HI2⟩
      case measure => simp [intOf]; omega
    · obtain rfl : len = i := by omega
      have hd : decide ((len : Int) < (len : Int)) = false := by simp
      have r0 := hI.out.r.cell 0
      have r1 := hI.out.r.cell 1
      have r2 := hI.out.r.cell 2
      have rf := hI.out.r.frozen
      have y0 := hI.out.x.cell 0
      have y1 := hI.out.x.cell 1
      have y2 := hI.out.x.cell 2
      have HI := Lib.hid hI.out
      clear hI
      go_wp2_with fail
      have HB6 := ((HI.out.r.set_ 0 (.slice none 0 0)).set_ 1 (.bool false)).set_ 2 (.int .i64 2)
      refine bodyPost_ret (results_cell_row rfl _ _ (w.heap.size + 1) 39 _ (0, 0) _ rfl HB6 Try.underlying39 rfl (by kernel_rfl)) rfl ?_
      exact HI.out.fin HG.out.1 (fun _ => rfl) (off3 _ _ _ _ _ _ _ _)
end
end Go.Proofs.Ytiemfhncadcemaa
