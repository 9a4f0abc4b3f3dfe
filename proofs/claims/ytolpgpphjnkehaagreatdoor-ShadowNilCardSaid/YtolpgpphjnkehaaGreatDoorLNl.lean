/- The law, walked. -/
import Derived.Test.YtolpgpphjnkehaaGreatDoorLNi
/- ShadowNil. -/
namespace Go.Proofs.YtolpgpphjnkehaaGreatDoor.Shd
set_option maxRecDepth 20000
open Go.RowKit Dsk Cac
/-- The zero Op, as a value. -/
abbrev zeroOv : Value := .agg #[.int .i64 0, .int .i64 0, .slice none 0 0, .slice none 0 0, .int .i64 0]
theorem doesn_any {w : World} {v0 v1 v2 v3 v4 : Value} {o : Ov} (hv : OpV w v0 v1 v2 v3 v4 o) (hB : o.B.length ≤ 1024) :
    Calls Tryz.prog 25 #[.pointer none, .agg #[v0, v1, v2, v3, v4]] w (fun en w' => DidN w w' o.kind en) := by
  by_cases h0 : o.kind = 0
  · exact doesn_read hv h0
  by_cases h1 : o.kind = 1
  · exact doesn_write hv h1 hB
  by_cases h2 : o.kind = 2
  · exact doesn_drop hv h2
  by_cases h3 : o.kind = 3
  · exact doesn_commit hv h3 hB
  by_cases h4 : o.kind = 4
  · exact doesn_abort hv h4
  by_cases h5 : o.kind = 5
  · exact doesn_evict hv h5
  · exact doesn_other hv (by omega)
set_option maxHeartbeats 2000000 in
theorem nil_any (w : World) (hT : Blo.Tab w) {v0 v1 v2 v3 v4 : Value} {o : Ov} (hv : OpV w v0 v1 v2 v3 v4 o) :
    Calls Tryz.prog 9 #[.agg #[v0, v1, v2, v3, v4]] w fun e w' => e = .returned (.bool true) ∧ Below w.heap.size w w' := by
  have hV := hv
  obtain ⟨⟨e0, hk1, hk2⟩, ⟨e1, hs1, hs2⟩, ⟨AB, cB, e2, hB1, hB2, hB3⟩, ⟨AK, cK, e3, hK1, hK2, hK3⟩, ⟨e4, ht1, ht2⟩⟩ := hv
  subst e0 e1 e2 e3 e4
  obtain ⟨w1, hw1⟩ : ∃ w1, (w.alloc (.cells #[.int .i64 o.kind, .int .i64 o.s, .slice AB o.B.length cB, .slice AK o.K.length cK, .int .i64 o.torn] 35)).alloc (.cells #[.int .i64 o.kind, .int .i64 o.s, .slice AB o.B.length cB, .slice AK o.K.length cK, .int .i64 o.torn] 35) = w1 := ⟨_, rfl⟩
  have hb1 : Below w.heap.size w w1 := by rw [← hw1]; exact ((Below.refl _ _).alloc (Nat.le_refl _) _).alloc (by rw [World.size_alloc]; omega) _
  have hbx : Blk w1 w.heap.size 35 #[.int .i64 o.kind, .int .i64 o.s, .slice AB o.B.length cB, .slice AK o.K.length cK, .int .i64 o.torn] := by rw [← hw1]; exact (Blk.new _ _ _).alloc _
  have hby : Blk w1 (w.heap.size + 1) 35 #[.int .i64 o.kind, .int .i64 o.s, .slice AB o.B.length cB, .slice AK o.K.length cK, .int .i64 o.torn] := by
    have := Blk.new (w.alloc (.cells #[.int .i64 o.kind, .int .i64 o.s, .slice AB o.B.length cB, .slice AK o.K.length cK, .int .i64 o.torn] 35)) 35 #[.int .i64 o.kind, .int .i64 o.s, .slice AB o.B.length cB, .slice AK o.K.length cK, .int .i64 o.torn]
    rw [World.size_alloc] at this
    rw [← hw1]; exact this
  have hV1 := hV.below hb1
  have hA : OpsM w1 (some ⟨w.heap.size + 1, 0, none⟩) [o] := fun r st hr => by
    rcases r with _ | r
    · cases hr
      exact ⟨w.heap.size + 1, 0, _, _, _, _, _, rfl, hby.lt, hby.cell 0, hby.cell 1, hby.cell 2, hby.cell 3, hby.cell 4, hV1⟩
    · simp at hr
  have H1 := vast_any (some ⟨w.heap.size + 1, 0, none⟩) 1 1 [o] w1 rfl hA
  have hT1 := tab_at hT hb1
  by_cases hvb : vastB [o] = true
  · rw [hvb] at H1
    have HV := Lib.hid H1
    have H2 := Lib.hid (works_any w1 hT1)
    have HB := Lib.hid hb1
    clear hV hV1 hA H1 hbx hby hb1 hvb hT hT1
    go_enter Tryz.func9, Tryz.ntmps9
    go_wp2_with fail
    refine HV.out.mono ?_
    rintro e w' ⟨rfl, rfl⟩
    go_wp2_with fail
    refine H2.out.mono ?_
    rintro e w2 ⟨rfl, hb⟩
    have HB2 := Lib.hid (HB.out.trans (hb.mono HB.out.size))
    clear hb
    go_wp2_with fail
    go_ret
    exact ⟨rfl, HB2.out⟩
  · have hvf : vastB [o] = false := by simpa using hvb
    rw [hvf] at H1
    obtain ⟨_, hsm⟩ := vastB_no hvf
    obtain ⟨hB9, hK9⟩ := hsm o (by simp)
    have HV := Lib.hid H1
    have HD := Lib.hid (doesn_any hV1 hB9)
    have HB := Lib.hid (And.intro hb1 (And.intro hbx hT))
    have cx0 := hbx.cell 0
    have cx1 := hbx.cell 1
    have cx2 := hbx.cell 2
    have cx3 := hbx.cell 3
    have cx4 := hbx.cell 4
    simp only [List.getElem?_toArray, List.getElem?_cons_zero, List.getElem?_cons_succ] at cx0 cx1 cx2 cx3 cx4
    clear hV hV1 hA H1 hbx hby hb1 hvb hvf hsm hB9 hK9 hB3 hK3 hT hT1
    go_enter Tryz.func9, Tryz.ntmps9
    go_wp2_with fail
    refine HV.out.mono ?_
    rintro e w' ⟨rfl, rfl⟩
    clear HV
    go_wp2_with fail
    refine HD.out.mono ?_
    rintro en w3 ⟨A, c, e, rfl, he, hb3⟩
    obtain ⟨w4, hw4⟩ : ∃ w4, w3.alloc (.cells #[.slice A 0 c, .bool false, .int .i64 e] 47) = w4 := ⟨_, rfl⟩
    have hb4 : Below w3.heap.size w3 w4 := by rw [← hw4]; exact (Below.refl _ _).alloc (Nat.le_refl _) _
    have ht4 : Blk w4 w3.heap.size 47 #[.slice A 0 c, .bool false, .int .i64 e] := by rw [← hw4]; exact Blk.new _ _ _
    have t0 := ht4.cell 0
    have t1 := ht4.cell 1
    have t2 := ht4.cell 2
    simp only [List.getElem?_toArray, List.getElem?_cons_zero, List.getElem?_cons_succ] at t0 t1 t2
    have hb14 : Below w1.heap.size w1 w4 := hb3.trans (hb4.mono hb3.size)
    have bk : w4.cell? ⟨w.heap.size, 0, none⟩ = some (.int .i64 o.kind) := (HB.out.2.1.below hb14 HB.out.2.1.lt).cell 0
    have HB5 := Lib.hid (HB.out.1.trans (hb14.mono HB.out.1.size))
    have HE := Lib.hid he
    have HW := Lib.hid (works_any w4 (tab_at HB.out.2.2 HB5.out))
    have HN2 := Lib.hid (sopen_nil 2 w4)
    have q1 := Lib.hid (spages_nil w4)
    have q2 := Lib.hid (smeta_nil w4)
    have q3 := Lib.hid (sepoch_nil w4)
    have q4 := Lib.hid (sroom_nil w4)
    have q5 := Lib.hid (sformat_nil w4)
    clear he hb3 hb4 ht4 hb14 HD HB cx0 cx1 cx2 cx3 cx4
    by_cases hin : 0 ≤ o.kind ∧ o.kind ≤ 5
    · have d1 : decide (o.kind ≥ 0) = true := by simp; omega
      have d2 : decide (o.kind ≤ 5) = true := by simp; omega
      have he := HE.out hin
      subst he
      go_wp2_with fail
      refine HN2.out.mono ?_
      rintro en w5 ⟨rfl, rfl⟩
      go_wp2_with (first
        | (go_at_call 29; refine q1.out.mono ?_; rintro e w' ⟨rfl, rfl⟩)
        | (go_at_call 31; refine q2.out.mono ?_; rintro e w' ⟨rfl, rfl⟩)
        | (go_at_call 33; refine q3.out.mono ?_; rintro e w' ⟨rfl, rfl⟩)
        | (go_at_call 35; refine q4.out.mono ?_; rintro e w' ⟨rfl, rfl⟩)
        | (go_at_call 50; refine q5.out.mono ?_; rintro e w' ⟨rfl, rfl⟩)
        | (go_at_call 11; refine Calls.mono HW.out ?_; rintro e w7 ⟨rfl, hb7⟩; have HB7 := Lib.hid (HB5.out.trans (hb7.mono HB5.out.size)); clear hb7)
        | fail)
      go_ret
      exact ⟨rfl, HB7.out⟩
    · by_cases hlo : 0 ≤ o.kind
      · have d1 : decide (o.kind ≥ 0) = true := by simp; omega
        have d2 : decide (o.kind ≤ 5) = false := by simp; omega
        go_wp2_with fail
        refine HN2.out.mono ?_
        rintro en w5 ⟨rfl, rfl⟩
        go_wp2_with (first
          | (go_at_call 29; refine q1.out.mono ?_; rintro e w' ⟨rfl, rfl⟩)
          | (go_at_call 31; refine q2.out.mono ?_; rintro e w' ⟨rfl, rfl⟩)
          | (go_at_call 33; refine q3.out.mono ?_; rintro e w' ⟨rfl, rfl⟩)
          | (go_at_call 35; refine q4.out.mono ?_; rintro e w' ⟨rfl, rfl⟩)
          | (go_at_call 50; refine q5.out.mono ?_; rintro e w' ⟨rfl, rfl⟩)
          | (go_at_call 11; refine Calls.mono HW.out ?_; rintro e w7 ⟨rfl, hb7⟩; have HB7 := Lib.hid (HB5.out.trans (hb7.mono HB5.out.size)); clear hb7)
          | fail)
        go_ret
        exact ⟨rfl, HB7.out⟩
      · have d1 : decide (o.kind ≥ 0) = false := by simp; omega
        go_wp2_with fail
        refine HN2.out.mono ?_
        rintro en w5 ⟨rfl, rfl⟩
        go_wp2_with (first
          | (go_at_call 29; refine q1.out.mono ?_; rintro e w' ⟨rfl, rfl⟩)
          | (go_at_call 31; refine q2.out.mono ?_; rintro e w' ⟨rfl, rfl⟩)
          | (go_at_call 33; refine q3.out.mono ?_; rintro e w' ⟨rfl, rfl⟩)
          | (go_at_call 35; refine q4.out.mono ?_; rintro e w' ⟨rfl, rfl⟩)
          | (go_at_call 50; refine q5.out.mono ?_; rintro e w' ⟨rfl, rfl⟩)
          | (go_at_call 11; refine Calls.mono HW.out ?_; rintro e w7 ⟨rfl, hb7⟩; have HB7 := Lib.hid (HB5.out.trans (hb7.mono HB5.out.size)); clear hb7)
          | fail)
        go_ret
        exact ⟨rfl, HB7.out⟩
end Go.Proofs.YtolpgpphjnkehaaGreatDoor.Shd
