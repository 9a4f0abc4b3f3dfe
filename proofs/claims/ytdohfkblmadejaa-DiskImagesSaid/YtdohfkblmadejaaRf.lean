/- meant. -/
import Derived.Test.YtdohfkblmadejaaRe
import Derived.Test.YtdohfkblmadejaaSettle
namespace Go.Proofs.Ytdohfkblmadejaa
open Go.RowKit Dsk

theorem Ref.wider {w : World} {F : Nat → Prop} {g : Nat} {D : DS} (h : Ref w F g D) (G : Nat → Prop) (h1 : ∀ k, F k → G k) (h2 : ∀ k, G k → k < w.heap.size) : Ref w G g D := by
  obtain ⟨E, gs, c, pv, hk, a, b, _⟩ := h
  exact ⟨E, gs, c, pv, hk, fun k hk => h1 k (a k hk), fun k hk => h1 k (b k hk), h2⟩

set_option maxHeartbeats 1000000 in
theorem Ref.meant_barrier {w0 w : World} {F : Nat → Prop} {g : Nat} {D : DS} (h : Ref w F g D) (_hF : ∀ k, F k → w0.heap.size ≤ k) (hb0 : Below w0.heap.size w0 w) (v0 v1 v2 v3 : Value) (st : St) (hv : StV w0 v0 v1 v2 v3 st) (hk : st.kind = 2) (hP : D.P.length < 1000000) (hS : D.steps < 1000000000) :
    Calls Try.prog 15 #[.pointer (some ⟨g, 0, none⟩), .agg #[v0, v1, v2, v3]] w fun e w' => e = .returned (.tuple #[.slice none 0 0, .int .i64 (barE D)]) ∧ Ref w' (grow F w w') g (barD D) ∧ Off F w w' := by
  obtain ⟨⟨rfl, _, _⟩, ⟨rfl, hs1, hs2⟩, ⟨A, c, rfl, _, _, hA0⟩, ⟨K, d, rfl, hd1, hd2, hK0⟩⟩ := hv
  rw [hk]
  have hA := hA0.below hb0
  have hK := hK0.below hb0
  have hb := (Below.refl w.heap.size w).alloc (Nat.le_refl _) (.cells #[.int .i64 2, .int .i64 st.s, .slice A st.B.length c, .slice K st.K.length d] 37)
  have H2 := Lib.hid (Ref.barrier_ g F D _ (h.below hb) hP hS)
  have HB := Lib.hid hb
  have HS0 : Hid ((w.alloc (.cells #[.int .i64 2, .int .i64 st.s, .slice A st.B.length c, .slice K st.K.length d] 37)).heap.size = w.heap.size + 1) := Lib.hid (by simp)
  generalize barE D = ee at *
  clear hb hk h hK hA hA0 hK0
  go_enter Try.func15, Try.ntmps15
  go_wp2_with fail
  refine H2.out.mono ?_
  rintro e w1 ⟨rfl, hR, ho⟩
  have HO := Lib.hid ((Off.of_new HB.out F).trans ho)
  have HR := Lib.hid (hR.wider (grow F w w1) (fun k hk => .inl hk) (fun k hk => hk.elim (fun hf => hR.lt k hf) fun e => e.2))
  clear hR ho
  go_wp2_with fail
  go_ret2
  exact ⟨rfl, HR.out, HO.out⟩

set_option maxHeartbeats 1000000 in
theorem Ref.meant_arm {w0 w : World} {F : Nat → Prop} {g : Nat} {D : DS} (h : Ref w F g D) (_hF : ∀ k, F k → w0.heap.size ≤ k) (hb0 : Below w0.heap.size w0 w) (v0 v1 v2 v3 : Value) (st : St) (hv : StV w0 v0 v1 v2 v3 st) (hk : st.kind = 3) :
    Calls Try.prog 15 #[.pointer (some ⟨g, 0, none⟩), .agg #[v0, v1, v2, v3]] w fun e w' => e = .returned (.tuple #[.slice none 0 0, .int .i64 (armE D st.s)]) ∧ Ref w' (grow F w w') g (armD D st.s) ∧ Off F w w' := by
  obtain ⟨⟨rfl, _, _⟩, ⟨rfl, hs1, hs2⟩, ⟨A, c, rfl, _, _, hA0⟩, ⟨K, d, rfl, hd1, hd2, hK0⟩⟩ := hv
  rw [hk]
  have hA := hA0.below hb0
  have hK := hK0.below hb0
  have hb := (Below.refl w.heap.size w).alloc (Nat.le_refl _) (.cells #[.int .i64 3, .int .i64 st.s, .slice A st.B.length c, .slice K st.K.length d] 37)
  have H2 := Lib.hid (Ref.arm_ g F D st.s _ (h.below hb) hs2)
  have HB := Lib.hid hb
  have HS0 : Hid ((w.alloc (.cells #[.int .i64 3, .int .i64 st.s, .slice A st.B.length c, .slice K st.K.length d] 37)).heap.size = w.heap.size + 1) := Lib.hid (by simp)
  generalize armE D st.s = ee at *
  clear hb hk h hK hA hA0 hK0
  go_enter Try.func15, Try.ntmps15
  go_wp2_with fail
  refine H2.out.mono ?_
  rintro e w1 ⟨rfl, hR, ho⟩
  have HO := Lib.hid ((Off.of_new HB.out F).trans ho)
  have HR := Lib.hid (hR.wider (grow F w w1) (fun k hk => .inl hk) (fun k hk => hk.elim (fun hf => hR.lt k hf) fun e => e.2))
  clear hR ho
  go_wp2_with fail
  go_ret2
  exact ⟨rfl, HR.out, HO.out⟩

set_option maxHeartbeats 1000000 in
theorem Ref.meant_off {w0 w : World} {F : Nat → Prop} {g : Nat} {D : DS} (h : Ref w F g D) (_hF : ∀ k, F k → w0.heap.size ≤ k) (hb0 : Below w0.heap.size w0 w) (v0 v1 v2 v3 : Value) (st : St) (hv : StV w0 v0 v1 v2 v3 st) (hk : st.kind = 4) :
    Calls Try.prog 15 #[.pointer (some ⟨g, 0, none⟩), .agg #[v0, v1, v2, v3]] w fun e w' => e = .returned (.tuple #[.slice none 0 0, .int .i64 (0)]) ∧ Ref w' (grow F w w') g (offD D) ∧ Off F w w' := by
  obtain ⟨⟨rfl, _, _⟩, ⟨rfl, hs1, hs2⟩, ⟨A, c, rfl, _, _, hA0⟩, ⟨K, d, rfl, hd1, hd2, hK0⟩⟩ := hv
  rw [hk]
  have hA := hA0.below hb0
  have hK := hK0.below hb0
  have hb := (Below.refl w.heap.size w).alloc (Nat.le_refl _) (.cells #[.int .i64 4, .int .i64 st.s, .slice A st.B.length c, .slice K st.K.length d] 37)
  have H2 := Lib.hid (Ref.off_ g F D _ (h.below hb))
  have HB := Lib.hid hb
  have HS0 : Hid ((w.alloc (.cells #[.int .i64 4, .int .i64 st.s, .slice A st.B.length c, .slice K st.K.length d] 37)).heap.size = w.heap.size + 1) := Lib.hid (by simp)
  clear hb hk h hK hA hA0 hK0
  go_enter Try.func15, Try.ntmps15
  go_wp2_with fail
  refine H2.out.mono ?_
  rintro e w1 ⟨rfl, hR, ho⟩
  have HO := Lib.hid ((Off.of_new HB.out F).trans ho)
  have HR := Lib.hid (hR.wider (grow F w w1) (fun k hk => .inl hk) (fun k hk => hk.elim (fun hf => hR.lt k hf) fun e => e.2))
  clear hR ho
  go_wp2_with fail
  go_ret2
  exact ⟨rfl, HR.out, HO.out⟩

set_option maxHeartbeats 1000000 in
theorem Ref.meant_on {w0 w : World} {F : Nat → Prop} {g : Nat} {D : DS} (h : Ref w F g D) (hF : ∀ k, F k → w0.heap.size ≤ k) (hb0 : Below w0.heap.size w0 w) (v0 v1 v2 v3 : Value) (st : St) (hv : StV w0 v0 v1 v2 v3 st) (hk : st.kind = 5) (hP : D.P.length < 1000000) (hK9 : st.K.length < 1000000) :
    Calls Try.prog 15 #[.pointer (some ⟨g, 0, none⟩), .agg #[v0, v1, v2, v3]] w fun e w' => e = .returned (.tuple #[.slice none 0 0, .int .i64 (onE D)]) ∧ Ref w' (grow F w w') g (onD D st.K st.s) ∧ Off F w w' := by
  obtain ⟨⟨rfl, _, _⟩, ⟨rfl, hs1, hs2⟩, ⟨A, c, rfl, _, _, hA0⟩, ⟨K, d, rfl, hd1, hd2, hK0⟩⟩ := hv
  rw [hk]
  have hA := hA0.below hb0
  have hK := hK0.below hb0
  have hb := (Below.refl w.heap.size w).alloc (Nat.le_refl _) (.cells #[.int .i64 5, .int .i64 st.s, .slice A st.B.length c, .slice K st.K.length d] 37)
  have H2 := Lib.hid (Ref.on_ g _ d K st.K st.s F D _ (h.below hb) hP (hK.below hb) rfl hK9 (fun p ep hne hf => by
    obtain ⟨z, hz⟩ : ∃ z, st.K[0]? = some z := ⟨_, List.getElem?_eq_getElem (List.length_pos_iff.2 hne)⟩
    obtain ⟨b, off, eb, hlt, _⟩ := hK0 0 z hz
    rw [ep] at eb; cases eb
    have := hF _ hf; simp only at this; omega))
  have HB := Lib.hid hb
  have HS0 : Hid ((w.alloc (.cells #[.int .i64 5, .int .i64 st.s, .slice A st.B.length c, .slice K st.K.length d] 37)).heap.size = w.heap.size + 1) := Lib.hid (by simp)
  generalize onE D = ee at *
  clear hb hk h hK hA hA0 hK0
  go_enter Try.func15, Try.ntmps15
  go_wp2_with fail
  refine H2.out.mono ?_
  rintro e w1 ⟨rfl, hR, ho⟩
  have HO := Lib.hid ((Off.of_new HB.out F).trans ho)
  have HR := Lib.hid (hR.wider (grow F w w1) (fun k hk => .inl hk) (fun k hk => hk.elim (fun hf => hR.lt k hf) fun e => e.2))
  clear hR ho
  go_wp2_with fail
  go_ret2
  exact ⟨rfl, HR.out, HO.out⟩

set_option maxHeartbeats 1000000 in
theorem Ref.meant_write {w0 w : World} {F : Nat → Prop} {g : Nat} {D : DS} (h : Ref w F g D) (_hF : ∀ k, F k → w0.heap.size ≤ k) (hb0 : Below w0.heap.size w0 w) (v0 v1 v2 v3 : Value) (st : St) (hv : StV w0 v0 v1 v2 v3 st) (hk : st.kind = 1) (hP : D.P.length < 1000000) (hS : D.steps < 1000000000) :
    Calls Try.prog 15 #[.pointer (some ⟨g, 0, none⟩), .agg #[v0, v1, v2, v3]] w fun e w' => e = .returned (.tuple #[.slice none 0 0, .int .i64 (writeE D st.s st.B)]) ∧ Ref w' (grow F w w') g (writeD D st.s st.B) ∧ Off F w w' := by
  obtain ⟨⟨rfl, _, _⟩, ⟨rfl, hs1, hs2⟩, ⟨A, c, rfl, _, _, hA0⟩, ⟨K, d, rfl, hd1, hd2, hK0⟩⟩ := hv
  rw [hk]
  have hA := hA0.below hb0
  have hK := hK0.below hb0
  have hb := (Below.refl w.heap.size w).alloc (Nat.le_refl _) (.cells #[.int .i64 1, .int .i64 st.s, .slice A st.B.length c, .slice K st.K.length d] 37)
  have H2 := Lib.hid (Ref.write_ g _ c A F D st.s st.B _ (h.below hb) rfl (hA.below hb) hP hS)
  have HB := Lib.hid hb
  have HS0 : Hid ((w.alloc (.cells #[.int .i64 1, .int .i64 st.s, .slice A st.B.length c, .slice K st.K.length d] 37)).heap.size = w.heap.size + 1) := Lib.hid (by simp)
  generalize writeE D st.s st.B = ee at *
  clear hb hk h hK hA hA0 hK0
  go_enter Try.func15, Try.ntmps15
  go_wp2_with fail
  refine H2.out.mono ?_
  rintro e w1 ⟨rfl, hR, ho⟩
  have HO := Lib.hid ((Off.of_new HB.out F).trans ho)
  have hs0 := HS0.out
  have HR := Lib.hid (hR.wider (grow F w w1) (fun k hk => hk.imp id fun e => ⟨by omega, e.2⟩) (fun k hk => hk.elim (fun hf => hR.lt k (.inl hf)) fun e => e.2))
  clear hR ho hs0
  go_wp2_with fail
  go_ret2
  exact ⟨rfl, HR.out, HO.out⟩

set_option maxHeartbeats 1000000 in
theorem Ref.meant_no {w0 w : World} {F : Nat → Prop} {g : Nat} {D : DS} (h : Ref w F g D) (_hF : ∀ k, F k → w0.heap.size ≤ k) (hb0 : Below w0.heap.size w0 w) (v0 v1 v2 v3 : Value) (st : St) (hv : StV w0 v0 v1 v2 v3 st) (hk : st.kind = 0) (hP : D.P.length < 1000000) (he : readE D st.s ≠ 0) :
    Calls Try.prog 15 #[.pointer (some ⟨g, 0, none⟩), .agg #[v0, v1, v2, v3]] w fun e w' => e = .returned (.tuple #[.slice none 0 0, .int .i64 (readE D st.s)]) ∧ Ref w' (grow F w w') g (D) ∧ Off F w w' := by
  obtain ⟨⟨rfl, _, _⟩, ⟨rfl, hs1, hs2⟩, ⟨A, c, rfl, _, _, hA0⟩, ⟨K, d, rfl, hd1, hd2, hK0⟩⟩ := hv
  rw [hk]
  have hA := hA0.below hb0
  have hK := hK0.below hb0
  have hb := (Below.refl w.heap.size w).alloc (Nat.le_refl _) (.cells #[.int .i64 0, .int .i64 st.s, .slice A st.B.length c, .slice K st.K.length d] 37)
  have H2 := Lib.hid (And.intro (h.below hb) (Ref.read_no g F D st.s _ (h.below hb) hP he))
  have HB := Lib.hid hb
  have HS0 : Hid ((w.alloc (.cells #[.int .i64 0, .int .i64 st.s, .slice A st.B.length c, .slice K st.K.length d] 37)).heap.size = w.heap.size + 1) := Lib.hid (by simp)
  generalize readE D st.s = ee at *
  clear hb hk h hK hA hA0 hK0 he
  go_enter Try.func15, Try.ntmps15
  go_wp2_with fail
  refine H2.out.2.mono ?_
  rintro e w1 ⟨rfl, rfl⟩
  have hR := H2.out.1
  have HO := Lib.hid (Off.of_new HB.out F)
  have HR := Lib.hid (hR.wider (grow F w _) (fun k hk => .inl hk) (fun k hk => hk.elim (fun hf => hR.lt k hf) fun e => e.2))
  clear hR
  go_wp2_with fail
  go_ret2
  exact ⟨rfl, HR.out, HO.out⟩

set_option maxHeartbeats 1000000 in
theorem Ref.meant_yes {w0 w : World} {F : Nat → Prop} {g : Nat} {D : DS} (h : Ref w F g D) (v0 v1 v2 v3 : Value) (st : St) (hv : StV w0 v0 v1 v2 v3 st) (hk : st.kind = 0) (hP : D.P.length < 1000000) (he : readE D st.s = 0) :
    Calls Try.prog 15 #[.pointer (some ⟨g, 0, none⟩), .agg #[v0, v1, v2, v3]] w fun e w' => ∃ b c, e = .returned (.tuple #[.slice (some ⟨b, 0, none⟩) 256 c, .int .i64 0]) ∧ w.heap.size ≤ b ∧ Rw w' b 256 c (readS D st.s.toNat) ∧ Below w.heap.size w w' := by
  obtain ⟨⟨rfl, _, _⟩, ⟨rfl, hs1, hs2⟩, ⟨A, c, rfl, _, _, _⟩, ⟨K, d, rfl, hd1, hd2, _⟩⟩ := hv
  rw [hk]
  have hb := (Below.refl w.heap.size w).alloc (Nat.le_refl _) (.cells #[.int .i64 0, .int .i64 st.s, .slice A st.B.length c, .slice K st.K.length d] 37)
  have H2 := Lib.hid (Ref.read_yes g F D st.s _ (h.below hb) hP he)
  have HB := Lib.hid hb
  generalize readS D st.s.toNat = bs at *
  clear hb hk h he
  go_enter Try.func15, Try.ntmps15
  go_wp2_with fail
  refine H2.out.mono ?_
  rintro e w1 ⟨c', rfl, hR, hb⟩
  have HB2 := Lib.hid (HB.out.trans (hb.mono HB.out.size))
  simp only [World.size_alloc] at hR
  have HR := Lib.hid hR
  clear hR hb
  go_wp2_with fail
  go_ret2
  exact ⟨_, c', rfl, by simp, HR.out, HB2.out⟩

set_option maxHeartbeats 400000 in
theorem meant_other (p v0 v1 v2 v3 : Value) (st : St) (w0 w : World) (h : StV w0 v0 v1 v2 v3 st) (hk : st.kind < 0 ∨ 5 < st.kind) :
    Calls Try.prog 15 #[p, .agg #[v0, v1, v2, v3]] w fun e w' => e = .returned (.tuple #[.slice none 0 0, .int .i64 0]) ∧ Below w.heap.size w w' := by
  obtain ⟨⟨rfl, _, _⟩, ⟨rfl, _, _⟩, ⟨A, c, rfl, _, _, _⟩, ⟨K, d, rfl, _, _, _⟩⟩ := h
  have hb := (Below.refl w.heap.size w).alloc (Nat.le_refl _) (.cells #[.int .i64 st.kind, .int .i64 st.s, .slice A st.B.length c, .slice K st.K.length d] 37)
  have HB := Lib.hid hb
  generalize st.K.length = y at *
  generalize st.B.length = x at *
  generalize st.kind = k at *
  have e0 : (k == 0) = false := by simp; omega
  have e1 : (k == 1) = false := by simp; omega
  have e2 : (k == 2) = false := by simp; omega
  have e3 : (k == 3) = false := by simp; omega
  have e4 : (k == 4) = false := by simp; omega
  have e5 : (k == 5) = false := by simp; omega
  clear hb hk
  go_enter Try.func15, Try.ntmps15
  go_wp2_with fail
  go_ret2
  exact ⟨rfl, HB.out⟩

theorem Ref.meant_none {w0 w : World} {F : Nat → Prop} {g : Nat} {D : DS} (h : Ref w F g D) (hF : ∀ k, F k → w0.heap.size ≤ k) (hb0 : Below w0.heap.size w0 w) (v0 v1 v2 v3 : Value) (st : St) (hv : StV w0 v0 v1 v2 v3 st) (hK : st.K.length ≤ 256) (hP : D.P.length < 1000000) (hS : D.steps < 1000000000) (hn : ¬ (st.kind = 0 ∧ readE D st.s = 0)) :
    Calls Try.prog 15 #[.pointer (some ⟨g, 0, none⟩), .agg #[v0, v1, v2, v3]] w fun e w' => e = .returned (.tuple #[.slice none 0 0, .int .i64 (doE D st)]) ∧ Ref w' (grow F w w') g (doD D st) ∧ Off F w w' := by
  by_cases h0 : st.kind = 0
  · have e1 : doE D st = readE D st.s := by unfold doE; rw [if_pos h0]
    have e2 : doD D st = D := by unfold doD; simp [h0]
    rw [e1, e2]
    exact h.meant_no hF hb0 v0 v1 v2 v3 st hv h0 hP fun e => hn ⟨h0, e⟩
  by_cases h1 : st.kind = 1
  · have e1 : doE D st = writeE D st.s st.B := by unfold doE; simp [h1]
    have e2 : doD D st = writeD D st.s st.B := by unfold doD; simp [h1]
    rw [e1, e2]
    exact h.meant_write hF hb0 v0 v1 v2 v3 st hv h1 hP hS
  by_cases h2 : st.kind = 2
  · have e1 : doE D st = barE D := by unfold doE; simp [h2]
    have e2 : doD D st = barD D := by unfold doD; simp [h2]
    rw [e1, e2]
    exact h.meant_barrier hF hb0 v0 v1 v2 v3 st hv h2 hP hS
  by_cases h3 : st.kind = 3
  · have e1 : doE D st = armE D st.s := by unfold doE; simp [h3]
    have e2 : doD D st = armD D st.s := by unfold doD; simp [h3]
    rw [e1, e2]
    exact h.meant_arm hF hb0 v0 v1 v2 v3 st hv h3
  by_cases h4 : st.kind = 4
  · have e1 : doE D st = 0 := by unfold doE; simp [h4]
    have e2 : doD D st = offD D := by unfold doD; simp [h4]
    rw [e1, e2]
    exact h.meant_off hF hb0 v0 v1 v2 v3 st hv h4
  by_cases h5 : st.kind = 5
  · have e1 : doE D st = onE D := by unfold doE; simp [h5]
    have e2 : doD D st = onD D st.K st.s := by unfold doD; simp [h5]
    rw [e1, e2]
    exact h.meant_on hF hb0 v0 v1 v2 v3 st hv h5 hP (by omega)
  · have e1 : doE D st = 0 := by unfold doE; simp [h0, h1, h2, h3, h5]
    have e2 : doD D st = D := by unfold doD; simp [h1, h2, h3, h4, h5]
    rw [e1, e2]
    refine (meant_other _ v0 v1 v2 v3 st w0 w hv (by omega)).mono ?_
    rintro e w' ⟨rfl, hb⟩
    have hR := h.below hb
    exact ⟨rfl, hR.wider _ (fun k hk => .inl hk) (fun k hk => hk.elim (fun hf => hR.lt k hf) fun e => e.2), Off.of_new hb _⟩

end Go.Proofs.Ytdohfkblmadejaa
