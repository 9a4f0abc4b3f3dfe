/- Do where there is no disk; DiskNil. -/
import Derived.Test.YtdohfkblmadejaaX
namespace Go.Proofs.Ytdohfkblmadejaa
open Go.RowKit Dsk

theorem boxed (w : World) (v0 v1 v2 v3 : Value) : (∀ i, (w.alloc (.cells #[v0, v1, v2, v3] 37)).cell? ⟨w.heap.size, i, none⟩ = #[v0, v1, v2, v3][i]?) := (Blk.new w 37 #[v0, v1, v2, v3]).cell

set_option maxHeartbeats 1000000 in
theorem donil_one (v0 v1 v2 v3 : Value) (st : St) (w : World) (h : StV w v0 v1 v2 v3 st) (hk : st.kind = 1) (hB : st.B.length ≤ 1024) :
    Calls Try.prog 14 #[.pointer none, .agg #[v0, v1, v2, v3]] w fun e w' => e = .returned (.tuple #[.slice none 0 0, .int .i64 2]) ∧ Below w.heap.size w w' := by
  obtain ⟨⟨rfl, _, _⟩, ⟨rfl, _, _⟩, ⟨A, c, rfl, hc1, hc2, hA⟩, ⟨K, d, rfl, hd1, hd2, hK⟩⟩ := h
  rw [hk]
  have hb := (Below.refl w.heap.size w).alloc (Nat.le_refl _) (.cells #[.int .i64 1, .int .i64 st.s, .slice A st.B.length c, .slice K st.K.length d] 37)
  have H1 := Lib.hid (copy_any A st.B.length c st.B _ rfl (hA.below hb) (by unfold maxLen; omega))
  have HB := Lib.hid hb
  generalize st.K.length = y at *
  generalize st.B = bs at *
  obtain ⟨x, hx⟩ : ∃ x, bs.length = x := ⟨_, rfl⟩
  rw [hx] at H1 hB HB ⊢
  clear hA hK hc1 hd1 hb hk hx
  go_enter Try.func14, Try.ntmps14
  go_wp2_with fail
  refine H1.out.mono ?_
  rintro e w1 ⟨cc, rfl, hR, hb1⟩
  have HB1 := Lib.hid (HB.out.trans (hb1.mono HB.out.size))
  have HM : Hid (Mut w1 (w.heap.size + 1) x) := Lib.hid (by have := hR.mut; simpa using this)
  have hsz : w.heap.size < w1.heap.size := by have := hb1.size; simp at this; omega
  have hc0 : w1.cell? ⟨w.heap.size, 1, none⟩ = some (.int .i64 st.s) := (hb1.cell (p := ⟨w.heap.size, 1, none⟩) (by simp)).trans (boxed w _ _ _ _ 1)
  have H2 := Lib.hid (write_nil st.s (.slice (some ⟨w.heap.size + 1, 0, none⟩) x cc) w1)
  clear hR hb1 H1 HB
  go_wp2_with fail
  refine H2.out.mono ?_
  rintro e w' ⟨rfl, rfl⟩
  go_wp2_with fail
  go_loopw [8] (fun i wr => ∃ k : Nat, k ≤ x ∧ i = .int .i64 (k : Int) ∧ Hid (Mut wr (w.heap.size + 1) x) ∧ Hid (Below w.heap.size w wr)) (fun i _ => x - (intOf i).toNat)
  case atStart => exact ⟨0, Nat.zero_le _, rfl, HM, HB1⟩
  case round =>
    obtain ⟨k, hk, rfl, hM, hb⟩ := hrel
    clear HM HB1
    by_cases hlt : k < x
    · have hd : decide ((k : Int) < (x : Int)) = true := by simpa using hlt
      obtain ⟨b, hcb⟩ := hM.out.cell k hlt
      have hfb := hM.out.free k hlt
      obtain ⟨c', hw⟩ := u8_succ b
      have hM2 := Lib.hid (hM.out.set_ k c')
      have hb2 := Lib.hid (hb.out.setCell (p := ⟨w.heap.size + 1, k, none⟩) (by show w.heap.size ≤ w.heap.size + 1; omega) (bv c'))
      unfold bv at hcb
      go_wp2
      go_roundw
      case rel => exact ⟨k + 1, by omega, by go_num, hM2, hb2⟩
      case measure => simp [intOf]; omega
    · obtain rfl : x = k := by omega
      have hd : decide ((x : Int) < (x : Int)) = false := by simp
      go_wp2
      go_ret2
      exact ⟨rfl, hb.out⟩

set_option maxHeartbeats 400000 in
theorem donil_read (v0 v1 v2 v3 : Value) (st : St) (w : World) (h : StV w v0 v1 v2 v3 st) (hk : st.kind = 0) :
    Calls Try.prog 14 #[.pointer none, .agg #[v0, v1, v2, v3]] w fun e w' => e = .returned (.tuple #[.slice none 0 0, .int .i64 2]) ∧ Below w.heap.size w w' := by
  obtain ⟨⟨rfl, _, _⟩, ⟨rfl, _, _⟩, ⟨A, c, rfl, _, _, _⟩, ⟨K, d, rfl, _, _, _⟩⟩ := h
  rw [hk]
  have hb := (Below.refl w.heap.size w).alloc (Nat.le_refl _) (.cells #[.int .i64 0, .int .i64 st.s, .slice A st.B.length c, .slice K st.K.length d] 37)
  have H2 := fun w1 => read_nil st.s w1
  have HB := Lib.hid hb
  have HH := Lib.hid H2
  generalize st.K.length = y at *
  generalize st.B.length = x at *
  clear hb hk H2
  go_enter Try.func14, Try.ntmps14
  go_wp2_with fail
  refine (HH.out _).mono ?_
  rintro e w1 ⟨rfl, rfl⟩
  go_wp2_with fail
  go_ret2
  exact ⟨rfl, HB.out⟩

set_option maxHeartbeats 400000 in
theorem donil_barrier (v0 v1 v2 v3 : Value) (st : St) (w : World) (h : StV w v0 v1 v2 v3 st) (hk : st.kind = 2) :
    Calls Try.prog 14 #[.pointer none, .agg #[v0, v1, v2, v3]] w fun e w' => e = .returned (.tuple #[.slice none 0 0, .int .i64 2]) ∧ Below w.heap.size w w' := by
  obtain ⟨⟨rfl, _, _⟩, ⟨rfl, _, _⟩, ⟨A, c, rfl, _, _, _⟩, ⟨K, d, rfl, _, _, _⟩⟩ := h
  rw [hk]
  have hb := (Below.refl w.heap.size w).alloc (Nat.le_refl _) (.cells #[.int .i64 2, .int .i64 st.s, .slice A st.B.length c, .slice K st.K.length d] 37)
  have H2 := fun w1 => barrier_nil w1
  have HB := Lib.hid hb
  have HH := Lib.hid H2
  generalize st.K.length = y at *
  generalize st.B.length = x at *
  clear hb hk H2
  go_enter Try.func14, Try.ntmps14
  go_wp2_with fail
  refine (HH.out _).mono ?_
  rintro e w1 ⟨rfl, hb1⟩
  have HB1 := Lib.hid (HB.out.trans (hb1.mono HB.out.size))
  clear hb1
  go_wp2_with fail
  go_ret2
  exact ⟨rfl, HB1.out⟩

set_option maxHeartbeats 400000 in
theorem donil_arm (v0 v1 v2 v3 : Value) (st : St) (w : World) (h : StV w v0 v1 v2 v3 st) (hk : st.kind = 3) :
    Calls Try.prog 14 #[.pointer none, .agg #[v0, v1, v2, v3]] w fun e w' => e = .returned (.tuple #[.slice none 0 0, .int .i64 2]) ∧ Below w.heap.size w w' := by
  obtain ⟨⟨rfl, _, _⟩, ⟨rfl, _, _⟩, ⟨A, c, rfl, _, _, _⟩, ⟨K, d, rfl, _, _, _⟩⟩ := h
  rw [hk]
  have hb := (Below.refl w.heap.size w).alloc (Nat.le_refl _) (.cells #[.int .i64 3, .int .i64 st.s, .slice A st.B.length c, .slice K st.K.length d] 37)
  have H2 := fun w1 => arm_nil st.s w1
  have HB := Lib.hid hb
  have HH := Lib.hid H2
  generalize st.K.length = y at *
  generalize st.B.length = x at *
  clear hb hk H2
  go_enter Try.func14, Try.ntmps14
  go_wp2_with fail
  refine (HH.out _).mono ?_
  rintro e w1 ⟨rfl, rfl⟩
  go_wp2_with fail
  go_ret2
  exact ⟨rfl, HB.out⟩

set_option maxHeartbeats 400000 in
theorem donil_off (v0 v1 v2 v3 : Value) (st : St) (w : World) (h : StV w v0 v1 v2 v3 st) (hk : st.kind = 4) :
    Calls Try.prog 14 #[.pointer none, .agg #[v0, v1, v2, v3]] w fun e w' => e = .returned (.tuple #[.slice none 0 0, .int .i64 0]) ∧ Below w.heap.size w w' := by
  obtain ⟨⟨rfl, _, _⟩, ⟨rfl, _, _⟩, ⟨A, c, rfl, _, _, _⟩, ⟨K, d, rfl, _, _, _⟩⟩ := h
  rw [hk]
  have hb := (Below.refl w.heap.size w).alloc (Nat.le_refl _) (.cells #[.int .i64 4, .int .i64 st.s, .slice A st.B.length c, .slice K st.K.length d] 37)
  have H2 := fun w1 => off_nil w1
  have HB := Lib.hid hb
  have HH := Lib.hid H2
  generalize st.K.length = y at *
  generalize st.B.length = x at *
  clear hb hk H2
  go_enter Try.func14, Try.ntmps14
  go_wp2_with fail
  refine (HH.out _).mono ?_
  rintro e w1 ⟨rfl, rfl⟩
  go_wp2_with fail
  go_ret2
  exact ⟨rfl, HB.out⟩

set_option maxHeartbeats 400000 in
theorem donil_on (v0 v1 v2 v3 : Value) (st : St) (w : World) (h : StV w v0 v1 v2 v3 st) (hk : st.kind = 5) :
    Calls Try.prog 14 #[.pointer none, .agg #[v0, v1, v2, v3]] w fun e w' => e = .returned (.tuple #[.slice none 0 0, .int .i64 2]) ∧ Below w.heap.size w w' := by
  obtain ⟨⟨rfl, _, _⟩, ⟨rfl, _, _⟩, ⟨A, c, rfl, _, _, _⟩, ⟨K, d, rfl, _, _, _⟩⟩ := h
  rw [hk]
  have hb := (Below.refl w.heap.size w).alloc (Nat.le_refl _) (.cells #[.int .i64 5, .int .i64 st.s, .slice A st.B.length c, .slice K st.K.length d] 37)
  have H2 := fun (w1 : World) (y : Nat) => on_nil K y d st.s w1
  have HB := Lib.hid hb
  have HH := Lib.hid H2
  generalize st.K.length = y at *
  generalize st.B.length = x at *
  clear hb hk H2
  go_enter Try.func14, Try.ntmps14
  go_wp2_with fail
  refine (HH.out _ _).mono ?_
  rintro e w1 ⟨rfl, hb1⟩
  have HB1 := Lib.hid (HB.out.trans (hb1.mono HB.out.size))
  clear hb1
  go_wp2_with fail
  go_ret2
  exact ⟨rfl, HB1.out⟩

set_option maxHeartbeats 400000 in
theorem do_other (p v0 v1 v2 v3 : Value) (st : St) (w : World) (h : StV w v0 v1 v2 v3 st) (hk : st.kind < 0 ∨ 5 < st.kind) :
    Calls Try.prog 14 #[p, .agg #[v0, v1, v2, v3]] w fun e w' => e = .returned (.tuple #[.slice none 0 0, .int .i64 0]) ∧ Below w.heap.size w w' := by
  obtain ⟨⟨rfl, _, _⟩, ⟨rfl, _, _⟩, ⟨A, c, rfl, _, _, _⟩, ⟨K, d, rfl, _, _, _⟩⟩ := h
  have hb := (Below.refl w.heap.size w).alloc (Nat.le_refl _) (.cells #[.int .i64 st.kind, .int .i64 st.s, .slice A st.B.length c, .slice K st.K.length d] 37)
  have HB := Lib.hid hb
  generalize st.K.length = y at *
  generalize st.B.length = x at *
  generalize st.kind = k at *
  have e0 : (k == 0) = false := by simp; omega
  have e1 : (k == 1) = false := by simp; omega
  have e2 : (k == 2) = false := by simp; omega
  have e3 : (k == 3) = false := by simp; omega
  have e4 : (k == 4) = false := by simp; omega
  have e5 : (k == 5) = false := by simp; omega
  clear hb hk
  go_enter Try.func14, Try.ntmps14
  go_wp2_with fail
  go_ret2
  exact ⟨rfl, HB.out⟩

theorem donil_any (v0 v1 v2 v3 : Value) (st : St) (w : World) (h : StV w v0 v1 v2 v3 st) (hB : st.B.length ≤ 1024) :
    Calls Try.prog 14 #[.pointer none, .agg #[v0, v1, v2, v3]] w fun e w' => e = .returned (.tuple #[.slice none 0 0, .int .i64 (nilE st.kind)]) ∧ Below w.heap.size w w' := by
  by_cases h0 : st.kind = 0
  · rw [show nilE st.kind = 2 by rw [h0]; rfl]; exact donil_read v0 v1 v2 v3 st w h h0
  by_cases h1 : st.kind = 1
  · rw [show nilE st.kind = 2 by rw [h1]; rfl]; exact donil_one v0 v1 v2 v3 st w h h1 hB
  by_cases h2 : st.kind = 2
  · rw [show nilE st.kind = 2 by rw [h2]; rfl]; exact donil_barrier v0 v1 v2 v3 st w h h2
  by_cases h3 : st.kind = 3
  · rw [show nilE st.kind = 2 by rw [h3]; rfl]; exact donil_arm v0 v1 v2 v3 st w h h3
  by_cases h4 : st.kind = 4
  · rw [show nilE st.kind = 0 by rw [h4]; rfl]; exact donil_off v0 v1 v2 v3 st w h h4
  by_cases h5 : st.kind = 5
  · rw [show nilE st.kind = 2 by rw [h5]; rfl]; exact donil_on v0 v1 v2 v3 st w h h5
  · have e : nilE st.kind = 0 := by unfold nilE asked; simp [h0, h1, h2, h3, h5]
    rw [e]
    exact do_other _ v0 v1 v2 v3 st w h (by omega)

end Go.Proofs.Ytdohfkblmadejaa
