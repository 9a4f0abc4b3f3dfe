/- Do. -/
import Derived.Test.YtdohfkblmadejaaLive
namespace Go.Proofs.Ytdohfkblmadejaa
open Go.RowKit Dsk

set_option maxHeartbeats 1000000 in
theorem Run.do_barrier {w0 w : World} {X : Nat → Prop} {g : Nat} {D : DS} (h : Run w0 w X g D) (v0 v1 v2 v3 : Value) (st : St) (hv : StV w v0 v1 v2 v3 st) (hk : st.kind = 2) (hP : D.P.length < 1000000) (hS : D.steps < 1000000000) :
    Calls Try.prog 14 #[.pointer (some ⟨g, 0, none⟩), .agg #[v0, v1, v2, v3]] w fun e w' => e = .returned (.tuple #[.slice none 0 0, .int .i64 (barE D)]) ∧ Run w0 w' X g (barD D) ∧ Keep X w w' := by
  have hv2 := hv
  obtain ⟨⟨rfl, _, _⟩, ⟨rfl, hs1, hs2⟩, ⟨A, c, rfl, _, _, _⟩, ⟨K, d, rfl, hd1, hd2, hK⟩⟩ := hv
  rw [hk]
  have hb := (Below.refl w.heap.size w).alloc (Nat.le_refl _) (.cells #[.int .i64 2, .int .i64 st.s, .slice A st.B.length c, .slice K st.K.length d] 37)
  have H2 := Lib.hid ((h.below hb).barrier hP hS)
  have HKP := Lib.hid (Keep.of_below hb h.lt)
  generalize st.B.length = x at *
  generalize barE D = ee at *
  clear hb hk h hK
  go_enter Try.func14, Try.ntmps14
  go_wp2_with fail
  refine H2.out.mono ?_
  rintro e w1 ⟨rfl, hR, hkp⟩
  have HR := Lib.hid hR
  have HK2 := Lib.hid (HKP.out.trans hkp)
  clear hR hkp
  go_wp2_with fail
  go_ret2
  exact ⟨rfl, HR.out, HK2.out⟩

set_option maxHeartbeats 1000000 in
theorem Run.do_arm {w0 w : World} {X : Nat → Prop} {g : Nat} {D : DS} (h : Run w0 w X g D) (v0 v1 v2 v3 : Value) (st : St) (hv : StV w v0 v1 v2 v3 st) (hk : st.kind = 3) :
    Calls Try.prog 14 #[.pointer (some ⟨g, 0, none⟩), .agg #[v0, v1, v2, v3]] w fun e w' => e = .returned (.tuple #[.slice none 0 0, .int .i64 (armE D st.s)]) ∧ Run w0 w' X g (armD D st.s) ∧ Keep X w w' := by
  have hv2 := hv
  obtain ⟨⟨rfl, _, _⟩, ⟨rfl, hs1, hs2⟩, ⟨A, c, rfl, _, _, _⟩, ⟨K, d, rfl, hd1, hd2, hK⟩⟩ := hv
  rw [hk]
  have hb := (Below.refl w.heap.size w).alloc (Nat.le_refl _) (.cells #[.int .i64 3, .int .i64 st.s, .slice A st.B.length c, .slice K st.K.length d] 37)
  have H2 := Lib.hid ((h.below hb).arm st.s hs2)
  have HKP := Lib.hid (Keep.of_below hb h.lt)
  generalize st.B.length = x at *
  generalize armE D st.s = ee at *
  clear hb hk h hK
  go_enter Try.func14, Try.ntmps14
  go_wp2_with fail
  refine H2.out.mono ?_
  rintro e w1 ⟨rfl, hR, hkp⟩
  have HR := Lib.hid hR
  have HK2 := Lib.hid (HKP.out.trans hkp)
  clear hR hkp
  go_wp2_with fail
  go_ret2
  exact ⟨rfl, HR.out, HK2.out⟩

set_option maxHeartbeats 1000000 in
theorem Run.do_off {w0 w : World} {X : Nat → Prop} {g : Nat} {D : DS} (h : Run w0 w X g D) (v0 v1 v2 v3 : Value) (st : St) (hv : StV w v0 v1 v2 v3 st) (hk : st.kind = 4) :
    Calls Try.prog 14 #[.pointer (some ⟨g, 0, none⟩), .agg #[v0, v1, v2, v3]] w fun e w' => e = .returned (.tuple #[.slice none 0 0, .int .i64 (0)]) ∧ Run w0 w' X g (offD D) ∧ Keep X w w' := by
  have hv2 := hv
  obtain ⟨⟨rfl, _, _⟩, ⟨rfl, hs1, hs2⟩, ⟨A, c, rfl, _, _, _⟩, ⟨K, d, rfl, hd1, hd2, hK⟩⟩ := hv
  rw [hk]
  have hb := (Below.refl w.heap.size w).alloc (Nat.le_refl _) (.cells #[.int .i64 4, .int .i64 st.s, .slice A st.B.length c, .slice K st.K.length d] 37)
  have H2 := Lib.hid ((h.below hb).off)
  have HKP := Lib.hid (Keep.of_below hb h.lt)
  generalize st.B.length = x at *
  clear hb hk h hK
  go_enter Try.func14, Try.ntmps14
  go_wp2_with fail
  refine H2.out.mono ?_
  rintro e w1 ⟨rfl, hR, hkp⟩
  have HR := Lib.hid hR
  have HK2 := Lib.hid (HKP.out.trans hkp)
  clear hR hkp
  go_wp2_with fail
  go_ret2
  exact ⟨rfl, HR.out, HK2.out⟩

set_option maxHeartbeats 1000000 in
theorem Run.do_on {w0 w : World} {X : Nat → Prop} {g : Nat} {D : DS} (h : Run w0 w X g D) (v0 v1 v2 v3 : Value) (st : St) (hv : StV w v0 v1 v2 v3 st) (hk : st.kind = 5) (hP : D.P.length < 1000000) (hK9 : st.K.length < 1000000) :
    Calls Try.prog 14 #[.pointer (some ⟨g, 0, none⟩), .agg #[v0, v1, v2, v3]] w fun e w' => e = .returned (.tuple #[.slice none 0 0, .int .i64 (onE D)]) ∧ Run w0 w' X g (onD D st.K st.s) ∧ Keep X w w' := by
  have hv2 := hv
  obtain ⟨⟨rfl, _, _⟩, ⟨rfl, hs1, hs2⟩, ⟨A, c, rfl, _, _, _⟩, ⟨K, d, rfl, hd1, hd2, hK⟩⟩ := hv
  rw [hk]
  have hb := (Below.refl w.heap.size w).alloc (Nat.le_refl _) (.cells #[.int .i64 5, .int .i64 st.s, .slice A st.B.length c, .slice K st.K.length d] 37)
  have H2 := Lib.hid ((h.below hb).on _ d K st.K st.s hP (hK.below hb) rfl hK9)
  have HKP := Lib.hid (Keep.of_below hb h.lt)
  generalize st.B.length = x at *
  generalize onE D = ee at *
  clear hb hk h hK
  go_enter Try.func14, Try.ntmps14
  go_wp2_with fail
  refine H2.out.mono ?_
  rintro e w1 ⟨rfl, hR, hkp⟩
  have HR := Lib.hid hR
  have HK2 := Lib.hid (HKP.out.trans hkp)
  clear hR hkp
  go_wp2_with fail
  go_ret2
  exact ⟨rfl, HR.out, HK2.out⟩

set_option maxHeartbeats 1000000 in
theorem Run.do_no {w0 w : World} {X : Nat → Prop} {g : Nat} {D : DS} (h : Run w0 w X g D) (v0 v1 v2 v3 : Value) (st : St) (hv : StV w v0 v1 v2 v3 st) (hk : st.kind = 0) (he : readE D st.s ≠ 0) :
    Calls Try.prog 14 #[.pointer (some ⟨g, 0, none⟩), .agg #[v0, v1, v2, v3]] w fun e w' => e = .returned (.tuple #[.slice none 0 0, .int .i64 (readE D st.s)]) ∧ Run w0 w' X g D ∧ Keep X w w' := by
  obtain ⟨⟨rfl, _, _⟩, ⟨rfl, hs1, hs2⟩, ⟨A, c, rfl, _, _, _⟩, ⟨K, d, rfl, hd1, hd2, hK⟩⟩ := hv
  rw [hk]
  have hb := (Below.refl w.heap.size w).alloc (Nat.le_refl _) (.cells #[.int .i64 0, .int .i64 st.s, .slice A st.B.length c, .slice K st.K.length d] 37)
  have HRR := Lib.hid (h.below hb)
  have H2 := Lib.hid ((h.below hb).read_no st.s he)
  have HKP := Lib.hid (Keep.of_below hb h.lt)
  generalize st.B.length = x at *
  generalize readE D st.s = ee at *
  clear hb hk h hK he
  go_enter Try.func14, Try.ntmps14
  go_wp2_with fail
  refine H2.out.mono ?_
  rintro e w1 ⟨rfl, rfl⟩
  go_wp2_with fail
  go_ret2
  exact ⟨rfl, HRR.out, HKP.out⟩

set_option maxHeartbeats 1000000 in
theorem Run.do_yes {w0 w : World} {X : Nat → Prop} {g : Nat} {D : DS} (h : Run w0 w X g D) (v0 v1 v2 v3 : Value) (st : St) (hv : StV w v0 v1 v2 v3 st) (hk : st.kind = 0) (he : readE D st.s = 0) :
    Calls Try.prog 14 #[.pointer (some ⟨g, 0, none⟩), .agg #[v0, v1, v2, v3]] w fun e w' => ∃ b, e = .returned (.tuple #[.slice (some ⟨b, 0, none⟩) 256 256, .int .i64 0]) ∧ w.heap.size ≤ b ∧ Blk w' b 5 (row8 (readS D st.s.toNat)) ∧ (readS D st.s.toNat).length = 256 ∧ Run w0 w' (fun k => X k ∨ k = b) g D ∧ Keep X w w' := by
  obtain ⟨⟨rfl, _, _⟩, ⟨rfl, hs1, hs2⟩, ⟨A, c, rfl, _, _, _⟩, ⟨K, d, rfl, hd1, hd2, hK⟩⟩ := hv
  rw [hk]
  have hb := (Below.refl w.heap.size w).alloc (Nat.le_refl _) (.cells #[.int .i64 0, .int .i64 st.s, .slice A st.B.length c, .slice K st.K.length d] 37)
  have hR0 := h.below hb
  have H2 := Lib.hid ((h.below hb).read_yes st.s he)
  have HKP := Lib.hid (Keep.of_below hb h.lt)
  have HLT := Lib.hid hR0.lt
  generalize st.B.length = x at *
  generalize readS D st.s.toNat = bs at *
  clear hb hk h hK he hR0
  go_enter Try.func14, Try.ntmps14
  go_wp2_with fail
  refine H2.out.mono ?_
  rintro e w1 ⟨rfl, hbk, hl, hR, hw⟩
  simp only [World.size_alloc] at hbk hR
  have HR := Lib.hid hR
  have HBK := Lib.hid hbk
  have HL := Lib.hid hl
  have HK2 := Lib.hid (HKP.out.trans (Keep.of_below hw HLT.out))
  clear hR hbk hl hw
  go_wp2_with fail
  go_ret2
  exact ⟨_, rfl, by simp, HBK.out, HL.out, HR.out, HK2.out⟩

set_option maxHeartbeats 1000000 in
theorem Run.do_write {w0 w : World} {X : Nat → Prop} {g : Nat} {D : DS} (h : Run w0 w X g D) (v0 v1 v2 v3 : Value) (st : St) (hv : StV w v0 v1 v2 v3 st) (hk : st.kind = 1) (hB : st.B.length ≤ 1024) (hP : D.P.length < 1000000) (hS : D.steps < 1000000000) :
    Calls Try.prog 14 #[.pointer (some ⟨g, 0, none⟩), .agg #[v0, v1, v2, v3]] w fun e w' => e = .returned (.tuple #[.slice none 0 0, .int .i64 (writeE D st.s st.B)]) ∧ Run w0 w' X g (writeD D st.s st.B) ∧ Keep X w w' := by
  obtain ⟨⟨rfl, _, _⟩, ⟨rfl, hs1, hs2⟩, ⟨A, c, rfl, _, _, hA⟩, ⟨K, d, rfl, hd1, hd2, hK⟩⟩ := hv
  rw [hk]
  have hb := (Below.refl w.heap.size w).alloc (Nat.le_refl _) (.cells #[.int .i64 1, .int .i64 st.s, .slice A st.B.length c, .slice K st.K.length d] 37)
  have H1 := Lib.hid (copy_any A st.B.length c st.B _ rfl (hA.below hb) (by unfold maxLen; omega))
  have HR0 := Lib.hid (h.below hb)
  have HKP := Lib.hid (Keep.of_below hb h.lt)
  have HPS := Lib.hid (And.intro hP hS)
  have hsz0 := h.size
  generalize hbs : st.B = bs at *
  generalize st.K.length = y at *
  obtain ⟨x, hx⟩ : ∃ x, bs.length = x := ⟨_, rfl⟩
  rw [hx] at H1 HR0 HKP hB ⊢
  have HX := Lib.hid hx
  obtain ⟨ee, hee⟩ : ∃ ee, writeE D st.s bs = ee := ⟨_, rfl⟩
  rw [hee]
  have HEE := Lib.hid hee
  clear hee hA hK hb hk h hP hS hx hbs
  go_enter Try.func14, Try.ntmps14
  go_wp2_with fail
  refine H1.out.mono ?_
  rintro e w1 ⟨cc, rfl, hrw, hb1⟩
  have HKP1 := Lib.hid (HKP.out.trans (Keep.of_below hb1 HR0.out.lt))
  have HM : Hid (Mut w1 (w.heap.size + 1) x) := Lib.hid (by have := hrw.mut; simpa using this)
  have hR1 := HR0.out.add hb1 (fun k => X k ∨ k = w.heap.size + 1) (fun k hk => hk.imp id fun e => by have := HM.out.lt; simp; omega)
  have hc0 : w1.cell? ⟨w.heap.size, 1, none⟩ = some (.int .i64 st.s) := (hb1.cell (p := ⟨w.heap.size, 1, none⟩) (by simp)).trans (boxed w _ _ _ _ 1)
  have hby : Bytes w1 (some ⟨w.heap.size + 1, 0, none⟩) bs := by have := hrw.bytes; simpa using this
  have h2 := hR1.write x cc (some ⟨w.heap.size + 1, 0, none⟩) st.s bs HX.out hby HPS.out.1 HPS.out.2
  rw [HEE.out] at h2
  have H2 := Lib.hid h2
  clear hrw hb1 hR1 hby H1 HKP h2
  go_wp2_with fail
  refine H2.out.mono ?_
  rintro e w2 ⟨rfl, hR2, hk2⟩
  have HM2 := Lib.hid (HM.out.same hk2.size (hk2.at_ _ (.inr rfl)))
  have HR2 := Lib.hid hR2
  have HK2 := Lib.hid (HKP1.out.trans (hk2.less fun k hk => .inl hk))
  clear hR2 hk2 H2 HM HKP1
  have HXL : Hid (∀ k, X k → k < w.heap.size + 1) := Lib.hid fun k hk => by have := HR0.out.lt k hk; simpa using this
  go_wp2_with fail
  go_loopw [8] (fun i wr => ∃ k : Nat, k ≤ x ∧ i = .int .i64 (k : Int) ∧ Hid (Mut wr (w.heap.size + 1) x) ∧ Hid (Run w0 wr (fun k => X k ∨ k = w.heap.size + 1) g (writeD D st.s bs) ∧ Keep X w wr)) (fun i _ => x - (intOf i).toNat)
  case atStart => exact ⟨0, Nat.zero_le _, rfl, HM2, Lib.hid ⟨HR2.out, HK2.out⟩⟩
  case round =>
    obtain ⟨k, hk, rfl, hM, hb⟩ := hrel
    clear HM2 HR2 HK2
    by_cases hlt : k < x
    · have hd : decide ((k : Int) < (x : Int)) = true := by simpa using hlt
      obtain ⟨b, hcb⟩ := hM.out.cell k hlt
      have hfb := hM.out.free k hlt
      obtain ⟨c', hw⟩ := u8_succ b
      have hM2 := Lib.hid (hM.out.set_ k c')
      have hb2 : Hid (Run w0 (wr.setCell ⟨w.heap.size + 1, k, none⟩ (bv c')) (fun k => X k ∨ k = w.heap.size + 1) g (writeD D st.s bs) ∧ Keep X w (wr.setCell ⟨w.heap.size + 1, k, none⟩ (bv c'))) := Lib.hid
        ⟨hb.out.1.turn (Off.setc wr (w.heap.size + 1) k (bv c')) (fun j hj => ⟨.inr hj, by rw [show j = w.heap.size + 1 from hj]; omega⟩) _ (fun j hj => .inl hj),
          hb.out.2.trans ⟨by simp [World.setCell], fun j hj => Below.heap_setCell _ _ _ _ (fun e => by have := HXL.out j hj; rw [show j = w.heap.size + 1 from e] at this; omega)⟩⟩
      unfold bv at hcb
      go_wp2
      go_roundw
      case rel => exact ⟨k + 1, by omega, by go_num, hM2, hb2⟩
      case measure => simp [intOf]; omega
    · obtain rfl : x = k := by omega
      have hd : decide ((x : Int) < (x : Int)) = false := by simp
      go_wp2
      go_ret2
      exact ⟨rfl, hb.out.1.less fun k hk => .inl hk, hb.out.2⟩

/-! ### in one form -/
def doE (D : DS) (st : St) : Int := if st.kind = 0 then readE D st.s else if st.kind = 1 then writeE D st.s st.B else if st.kind = 2 then barE D else if st.kind = 3 then armE D st.s else if st.kind = 5 then onE D else 0
def doD (D : DS) (st : St) : DS := if st.kind = 1 then writeD D st.s st.B else if st.kind = 2 then barD D else if st.kind = 3 then armD D st.s else if st.kind = 4 then offD D else if st.kind = 5 then onD D st.K st.s else D
def doB (D : DS) (st : St) : List UInt8 := if st.kind = 0 ∧ readE D st.s = 0 then readS D st.s.toNat else []

/-- No bytes are answered. -/
theorem Run.do_none {w0 w : World} {X : Nat → Prop} {g : Nat} {D : DS} (h : Run w0 w X g D) (v0 v1 v2 v3 : Value) (st : St) (hv : StV w v0 v1 v2 v3 st) (hB : st.B.length ≤ 1024) (hK : st.K.length ≤ 256) (hP : D.P.length < 1000000) (hS : D.steps < 1000000000) (hn : ¬ (st.kind = 0 ∧ readE D st.s = 0)) :
    Calls Try.prog 14 #[.pointer (some ⟨g, 0, none⟩), .agg #[v0, v1, v2, v3]] w fun e w' => e = .returned (.tuple #[.slice none 0 0, .int .i64 (doE D st)]) ∧ Run w0 w' X g (doD D st) ∧ Keep X w w' := by
  by_cases h0 : st.kind = 0
  · have e1 : doE D st = readE D st.s := by unfold doE; rw [if_pos h0]
    have e2 : doD D st = D := by unfold doD; simp [h0]
    rw [e1, e2]
    exact h.do_no v0 v1 v2 v3 st hv h0 fun e => hn ⟨h0, e⟩
  by_cases h1 : st.kind = 1
  · have e1 : doE D st = writeE D st.s st.B := by unfold doE; simp [h1]
    have e2 : doD D st = writeD D st.s st.B := by unfold doD; simp [h1]
    rw [e1, e2]
    exact h.do_write v0 v1 v2 v3 st hv h1 hB hP hS
  by_cases h2 : st.kind = 2
  · have e1 : doE D st = barE D := by unfold doE; simp [h2]
    have e2 : doD D st = barD D := by unfold doD; simp [h2]
    rw [e1, e2]
    exact h.do_barrier v0 v1 v2 v3 st hv h2 hP hS
  by_cases h3 : st.kind = 3
  · have e1 : doE D st = armE D st.s := by unfold doE; simp [h3]
    have e2 : doD D st = armD D st.s := by unfold doD; simp [h3]
    rw [e1, e2]
    exact h.do_arm v0 v1 v2 v3 st hv h3
  by_cases h4 : st.kind = 4
  · have e1 : doE D st = 0 := by unfold doE; simp [h4]
    have e2 : doD D st = offD D := by unfold doD; simp [h4]
    rw [e1, e2]
    exact h.do_off v0 v1 v2 v3 st hv h4
  by_cases h5 : st.kind = 5
  · have e1 : doE D st = onE D := by unfold doE; simp [h5]
    have e2 : doD D st = onD D st.K st.s := by unfold doD; simp [h5]
    rw [e1, e2]
    exact h.do_on v0 v1 v2 v3 st hv h5 hP (by omega)
  · have e1 : doE D st = 0 := by unfold doE; simp [h0, h1, h2, h3, h5]
    have e2 : doD D st = D := by unfold doD; simp [h1, h2, h3, h4, h5]
    rw [e1, e2]
    refine (do_other _ v0 v1 v2 v3 st w hv (by omega)).mono ?_
    rintro e w' ⟨rfl, hb⟩
    exact ⟨rfl, h.below hb, Keep.of_below hb h.lt⟩

end Go.Proofs.Ytdohfkblmadejaa
