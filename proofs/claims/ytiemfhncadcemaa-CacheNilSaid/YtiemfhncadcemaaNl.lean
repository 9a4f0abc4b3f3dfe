/- CacheNil. -/
import Derived.Test.YtiemfhncadcemaaDp
import Derived.Test.YtiemfhncadcemaaDa
namespace Go.Proofs.Ytiemfhncadcemaa
open Go.RowKit Dsk
/-- The zero Op, as a value. -/
abbrev zeroOv : Value := .agg #[.int .i64 0, .int .i64 0, .slice none 0 0, .slice none 0 0, .int .i64 0]
theorem doesn_any {w0 w : World} {X : Nat → Prop} {dg : Nat} {D : DS} (h : Run w0 w X dg D) {v0 v1 v2 v3 v4 : Value} {o : Ov} (hv0 : OpV w0 v0 v1 v2 v3 v4 o) (hB : o.B.length ≤ 1024) (hK : o.K.length ≤ 200) (hP : D.P.length < 1000000) :
    Calls Try.prog 13 #[.pointer none, .pointer (some ⟨dg, 0, none⟩), .agg #[v0, v1, v2, v3, v4]] w (fun en w' => DidN w0 w' o.kind en) := by
  have hv := hv0.below h.bel
  by_cases h0 : o.kind = 0
  · exact doesn_read h hv h0
  by_cases h1 : o.kind = 1
  · exact doesn_write h hv h1 hB
  by_cases h2 : o.kind = 2
  · exact doesn_pin h hv h2
  by_cases h3 : o.kind = 3
  · exact doesn_unpin h hv h3
  by_cases h4 : o.kind = 4
  · exact doesn_evict h hv h4
  by_cases h5 : o.kind = 5
  · exact doesn_drop h hv h5
  by_cases h6 : o.kind = 6
  · exact doesn_flush h hv h6
  by_cases h7 : o.kind = 7
  · exact doesn_power h hv0 h7 hK hP
  by_cases h8 : o.kind = 8
  · exact doesn_arm h hv h8
  · exact doesn_other h hv (by omega)
set_option maxRecDepth 20000 in
set_option maxHeartbeats 2000000 in
theorem nil_any (frames : Int) (w : World) {v0 v1 v2 v3 v4 : Value} {o : Ov} (hv : OpV w v0 v1 v2 v3 v4 o) :
    Calls Try.prog 7 #[.agg #[v0, v1, v2, v3, v4], .int .i64 frames] w fun e w' => e = .returned (.bool true) ∧ Below w.heap.size w w' := by
  have hV := hv
  obtain ⟨⟨e0, hk1, hk2⟩, ⟨e1, hs1, hs2⟩, ⟨AB, cB, e2, hB1, hB2, hB3⟩, ⟨AK, cK, e3, hK1, hK2, hK3⟩, ⟨e4, ht1, ht2⟩⟩ := hv
  subst e0 e1 e2 e3 e4
  obtain ⟨w1, hw1⟩ : ∃ w1, (w.alloc (.cells #[.int .i64 o.kind, .int .i64 o.s, .slice AB o.B.length cB, .slice AK o.K.length cK, .int .i64 o.torn] 37)).alloc (.cells #[.int .i64 o.kind, .int .i64 o.s, .slice AB o.B.length cB, .slice AK o.K.length cK, .int .i64 o.torn] 37) = w1 := ⟨_, rfl⟩
  have hb1 : Below w.heap.size w w1 := by rw [← hw1]; exact ((Below.refl _ _).alloc (Nat.le_refl _) _).alloc (by rw [World.size_alloc]; omega) _
  have hbx : Blk w1 w.heap.size 37 #[.int .i64 o.kind, .int .i64 o.s, .slice AB o.B.length cB, .slice AK o.K.length cK, .int .i64 o.torn] := by rw [← hw1]; exact (Blk.new _ _ _).alloc _
  have hby : Blk w1 (w.heap.size + 1) 37 #[.int .i64 o.kind, .int .i64 o.s, .slice AB o.B.length cB, .slice AK o.K.length cK, .int .i64 o.torn] := by
    have := Blk.new (w.alloc (.cells #[.int .i64 o.kind, .int .i64 o.s, .slice AB o.B.length cB, .slice AK o.K.length cK, .int .i64 o.torn] 37)) 37 #[.int .i64 o.kind, .int .i64 o.s, .slice AB o.B.length cB, .slice AK o.K.length cK, .int .i64 o.torn]
    rw [World.size_alloc] at this
    rw [← hw1]; exact this
  have hV1 := hV.below hb1
  have hA : OpsM w1 (some ⟨w.heap.size + 1, 0, none⟩) [o] := fun r st hr => by
    rcases r with _ | r
    · cases hr
      exact ⟨w.heap.size + 1, 0, _, _, _, _, _, rfl, hby.lt, hby.cell 0, hby.cell 1, hby.cell 2, hby.cell 3, hby.cell 4, hV1⟩
    · simp at hr
  have H1 := vast_any (some ⟨w.heap.size + 1, 0, none⟩) 1 1 [o] w1 rfl hA
  by_cases hvb : vastB [o] = true
  · rw [hvb] at H1
    have HV := Lib.hid H1
    have H2 := Lib.hid (works_any w1)
    have HB := Lib.hid hb1
    clear hV hV1 hA H1 hbx hby hb1 hvb
    go_enter Try.func7, Try.ntmps7
    go_wp2_with fail
    refine HV.out.mono ?_
    rintro e w' ⟨rfl, rfl⟩
    go_wp2_with fail
    refine H2.out.mono ?_
    rintro e w2 ⟨rfl, hb⟩
    have HB2 := Lib.hid (HB.out.trans (hb.mono HB.out.size))
    clear hb
    go_wp2_with fail
    go_ret
    exact ⟨rfl, HB2.out⟩
  · have hvf : vastB [o] = false := by simpa using hvb
    rw [hvf] at H1
    obtain ⟨_, hsm⟩ := vastB_no hvf
    obtain ⟨hB9, hK9⟩ := hsm o (by simp)
    have HV := Lib.hid H1
    have HR := Lib.hid (Run.new 16 w1 w1 (fun _ => False) (fun k h => h.elim) (Below.refl _ _) ⟨by omega, by omega⟩)
    have HB := Lib.hid (And.intro hb1 (And.intro hbx (And.intro hV1 (And.intro hB9 hK9))))
    have cx0 := hbx.cell 0
    have cx1 := hbx.cell 1
    have cx2 := hbx.cell 2
    have cx3 := hbx.cell 3
    have cx4 := hbx.cell 4
    simp only [List.getElem?_toArray, List.getElem?_cons_zero, List.getElem?_cons_succ] at cx0 cx1 cx2 cx3 cx4
    have HN1 := Lib.hid (fun W => held_nil W)
    have HN2 := Lib.hid (fun W => cnew_nil frames W)
    clear hV hV1 hA H1 hbx hby hb1 hvb hvf hsm hB9 hK9 hB3 hK3
    go_enter Try.func7, Try.ntmps7
    go_wp2_with fail
    refine HV.out.mono ?_
    rintro e w' ⟨rfl, rfl⟩
    clear HV
    go_wp2_with fail
    refine HR.out.mono ?_
    rintro e w2 ⟨dg, rfl, hr, hb2⟩
    have hD := doesn_any hr HB.out.2.2.1 HB.out.2.2.2.1 HB.out.2.2.2.2 (by show 0 < 1000000; omega)
    have hbx2 := HB.out.2.1.below hb2 HB.out.2.1.lt
    have bx0 := hbx2.cell 0
    have bx1 := hbx2.cell 1
    have bx2 := hbx2.cell 2
    have bx3 := hbx2.cell 3
    have bx4 := hbx2.cell 4
    simp only [List.getElem?_toArray, List.getElem?_cons_zero, List.getElem?_cons_succ] at bx0 bx1 bx2 bx3 bx4
    have HD := Lib.hid hD
    clear hr hb2 hD hbx2 cx0 cx1 cx2 cx3 cx4 HR
    go_wp2_with fail
    refine HD.out.mono ?_
    rintro en w3 ⟨A, c, e, rfl, he, hb3⟩
    obtain ⟨w4, hw4⟩ : ∃ w4, w3.alloc (.cells #[.slice A 0 c, .bool false, .int .i64 e] 39) = w4 := ⟨_, rfl⟩
    have hb4 : Below w3.heap.size w3 w4 := by rw [← hw4]; exact (Below.refl _ _).alloc (Nat.le_refl _) _
    have ht4 : Blk w4 w3.heap.size 39 #[.slice A 0 c, .bool false, .int .i64 e] := by rw [← hw4]; exact Blk.new _ _ _
    have t0 := ht4.cell 0
    have t1 := ht4.cell 1
    have t2 := ht4.cell 2
    simp only [List.getElem?_toArray, List.getElem?_cons_zero, List.getElem?_cons_succ] at t0 t1 t2
    have hb14 : Below w1.heap.size w1 w4 := hb3.trans (hb4.mono hb3.size)
    have bk : w4.cell? ⟨w.heap.size, 0, none⟩ = some (.int .i64 o.kind) := (HB.out.2.1.below hb14 HB.out.2.1.lt).cell 0
    have HB5 := Lib.hid (HB.out.1.trans (hb14.mono HB.out.1.size))
    have HE := Lib.hid he
    have HW := Lib.hid (works_any w4)
    clear he hb3 hb4 ht4 hb14 bx0 bx1 bx2 bx3 bx4 HD HB
    go_wp2_with fail
    refine (HN1.out _).mono ?_
    rintro en w5 ⟨rfl, rfl⟩
    go_wp2_with fail
    refine (HN2.out _).mono ?_
    rintro en w6 ⟨rfl, rfl⟩
    clear HN1 HN2 hw4
    by_cases hin : 0 ≤ o.kind ∧ o.kind ≤ 6
    · have d1 : decide (o.kind ≥ 0) = true := by simp; omega
      have d2 : decide (o.kind ≤ 6) = true := by simp; omega
      have he := HE.out hin
      subst he
      go_wp2_with (go_at_call 9; refine Calls.mono HW.out ?_; rintro e w7 ⟨rfl, hb7⟩; have HB7 := Lib.hid (HB5.out.trans (hb7.mono HB5.out.size)); clear hb7)
      go_ret
      exact ⟨rfl, HB7.out⟩
    · by_cases hlo : 0 ≤ o.kind
      · have d1 : decide (o.kind ≥ 0) = true := by simp; omega
        have d2 : decide (o.kind ≤ 6) = false := by simp; omega
        go_wp2_with (go_at_call 9; refine Calls.mono HW.out ?_; rintro e w7 ⟨rfl, hb7⟩; have HB7 := Lib.hid (HB5.out.trans (hb7.mono HB5.out.size)); clear hb7)
        go_ret
        exact ⟨rfl, HB7.out⟩
      · have d1 : decide (o.kind ≥ 0) = false := by simp; omega
        go_wp2_with (go_at_call 9; refine Calls.mono HW.out ?_; rintro e w7 ⟨rfl, hb7⟩; have HB7 := Lib.hid (HB5.out.trans (hb7.mono HB5.out.size)); clear hb7)
        go_ret
        exact ⟨rfl, HB7.out⟩
end Go.Proofs.Ytiemfhncadcemaa
