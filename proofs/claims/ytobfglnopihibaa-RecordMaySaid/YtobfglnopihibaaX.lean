/- record: the anchor. -/
import Derived.Test.YtobfglnopihibaaV
import Derived.Test.YtobfglnopihibaaO
namespace Go.Proofs.Ytobfglnopihibaa
open Go.RowKit Rcd

abbrev wOb : Ob := ⟨3, 0, [⟨2, 3⟩], []⟩
theorem w_facts : (writeE wOb = 0 ∧ sizeO wOb = 14 ∧ (bytesO wOb)[0]? = some 3 ∧ (bytesO wOb).length = 14) ∧ readO (bytesO wOb) = some wOb ∧ readO [] = none ∧ oids [⟨2, 3⟩] = [3] := by
  have h1 : mayB wOb = true := by decide +kernel
  have h2 : sizeO wOb = 14 := by decide +kernel
  refine ⟨⟨(writeE_is h1 (by rw [h2]; decide)).1, h2, by decide +kernel, by rw [bytesO_len]; exact h2⟩, read_write h1 (by rw [h2]; decide), by decide +kernel, by decide +kernel⟩

set_option maxRecDepth 20000 in
set_option maxHeartbeats 4000000 in
theorem works_any (w : World) : Calls Try.prog 10 #[] w fun e W' => e = .returned (.bool true) ∧ Below w.heap.size w W' := by
  have F := Lib.hid w_facts
  obtain ⟨w0, hw0⟩ : ∃ w0, (w.alloc (.cells #[.int .u8 2, .int .i64 3] 44)).alloc (.cells #[.int .u8 3, .int .i64 0, .slice (some ⟨w.heap.size, 0, none⟩) 1 1, .string ⟨#[]⟩] 24) = w0 := ⟨_, rfl⟩
  have hB0 : Blk w0 w.heap.size 44 #[.int .u8 2, .int .i64 3] := by rw [← hw0]; exact (Blk.new _ _ _).alloc _
  have hB1 : Blk w0 (w.heap.size + 1) 24 #[.int .u8 3, .int .i64 0, .slice (some ⟨w.heap.size, 0, none⟩) 1 1, .string ⟨#[]⟩] := by
    have := Blk.new (w.alloc (.cells #[.int .u8 2, .int .i64 3] 44)) 24 #[.int .u8 3, .int .i64 0, .slice (some ⟨w.heap.size, 0, none⟩) 1 1, .string ⟨#[]⟩]
    rw [World.size_alloc] at this
    rw [← hw0]; exact this
  have hb0 : Below w.heap.size w w0 := by rw [← hw0]; exact ((Below.refl _ _).alloc (Nat.le_refl _) _).alloc (by rw [World.size_alloc]; omega) _
  have hws : Words w0 (some ⟨w.heap.size, 0, none⟩) [⟨2, 3⟩] := fun r x hr => by
    rcases r with _ | r
    · cases hr
      exact ⟨w.heap.size, 0, rfl, hB0.lt, hB0.cell 0, hB0.cell 1, by decide⟩
    · simp at hr
  have HQ : Hid (∀ W, Below w0.heap.size w0 W → Words W (some ⟨w.heap.size, 0, none⟩) [⟨2, 3⟩] ∧ W.cell? ⟨w.heap.size + 1, 0, none⟩ = some (.int .u8 3) ∧ W.cell? ⟨w.heap.size + 1, 1, none⟩ = some (.int .i64 0) ∧ W.cell? ⟨w.heap.size + 1, 2, none⟩ = some (.slice (some ⟨w.heap.size, 0, none⟩) 1 1) ∧ W.cell? ⟨w.heap.size + 1, 3, none⟩ = some (.string ⟨#[]⟩)) := Lib.hid (fun W hW =>
    ⟨hws.below hW, (hW.cell (p := ⟨w.heap.size + 1, 0, none⟩) hB1.lt).trans (hB1.cell 0), (hW.cell (p := ⟨w.heap.size + 1, 1, none⟩) hB1.lt).trans (hB1.cell 1), (hW.cell (p := ⟨w.heap.size + 1, 2, none⟩) hB1.lt).trans (hB1.cell 2), (hW.cell (p := ⟨w.heap.size + 1, 3, none⟩) hB1.lt).trans (hB1.cell 3)⟩)
  have H1 : Hid (Calls Try.prog 12 #[.agg #[.int .u8 3, .int .i64 0, .slice (some ⟨w.heap.size, 0, none⟩) 1 1, .string ⟨#[]⟩]] w0 (WrP wOb w0)) := Lib.hid (write_any 3 0 (some ⟨w.heap.size, 0, none⟩) 1 1 [] [⟨2, 3⟩] w0 rfl hws (by decide) (by decide) (by decide))
  have HB0 := Lib.hid hb0
  have HW0 := Lib.hid hw0
  clear hB0 hB1 hb0 hws hw0
  obtain ⟨_, c0, c1, c2, c3⟩ := HQ.out w0 (Below.refl _ _)
  go_enter Try.func10, Try.ntmps10
  go_upto_region 2 with fail
  rw [HW0.out]
  go_wp2_with fail
  refine H1.out.mono ?_
  rintro e w1 (⟨hE, _⟩ | ⟨g, c, _, rfl, hR1, hg1, hb1⟩)
  · exact absurd F.out.1.1 hE
  rw [F.out.1.2.1] at hR1 ⊢
  have HB1 := Lib.hid hb1
  have HR1 := Lib.hid hR1
  have H2 := Lib.hid (read_any (some ⟨g, 0, none⟩) 14 c (bytesO wOb) w1 F.out.1.2.2.2 hR1.bytes hR1.le hR1.max)
  clear hR1 hg1 hb1 H1 c0 c1 c2 c3
  go_wp2_with fail
  refine H2.out.mono ?_
  rintro e w2 (⟨h, _⟩ | ⟨o, v, h, rfl, ⟨A2, c2, rfl, _, _, hw2, _⟩, hb2⟩)
  · rw [F.out.2.1] at h; cases h
  obtain rfl : wOb = o := by rw [F.out.2.1] at h; exact Option.some.inj h
  clear h
  have HB2 : Hid (Below w0.heap.size w0 w2) := Lib.hid (HB1.out.trans (hb2.mono HB1.out.size))
  have HR2 := Lib.hid (HR1.out.below hb2)
  have HW2 := Lib.hid hw2
  have H3 := Lib.hid (read_any none 0 0 [] (w2.alloc (.cells #[.int .u8 3, .int .i64 0, .slice A2 1 c2, .string ⟨#[]⟩] 24)) rfl (Bytes.nil _ _) (Nat.le_refl _) (Nat.zero_le _))
  have hv2 : (Value.agg #[bv wOb.k, .int .i64 wOb.tag, .slice A2 wOb.ws.length c2, .string (str wOb.t)]) = .agg #[.int .u8 3, .int .i64 0, .slice A2 1 c2, .string ⟨#[]⟩] := rfl
  rw [hv2]
  clear hv2 hb2 hw2 H2 HR1
  go_wp2_with fail
  refine H3.out.mono ?_
  rintro e w3 (⟨_, rfl, hb3⟩ | ⟨o, v, h, _⟩)
  rotate_left
  · rw [F.out.2.2.1] at h; cases h
  have HB3 : Hid (Below w0.heap.size w0 (w3.alloc (.cells #[.int .u8 0, .int .i64 0, .slice none 0 0, .string ⟨#[]⟩] 24))) := Lib.hid (by
    have h1 := HB2.out.alloc HB2.out.size (.cells #[.int .u8 3, .int .i64 0, .slice A2 1 c2, .string ⟨#[]⟩] 24)
    have h2 := h1.trans (hb3.mono h1.size)
    exact h2.alloc h2.size _)
  have hb23 : Below w2.heap.size w2 w3 := ((Below.refl _ _).alloc (Nat.le_refl _) _).trans (hb3.mono (by rw [World.size_alloc]; omega))
  have hP3 : Blk w3 w2.heap.size 24 #[.int .u8 3, .int .i64 0, .slice A2 1 c2, .string ⟨#[]⟩] := (Blk.new w2 _ _).below hb3 (by rw [World.size_alloc]; omega)
  have hbz := hb23.alloc hb23.size (.cells #[.int .u8 0, .int .i64 0, .slice none 0 0, .string ⟨#[]⟩] 24)
  have HR3 := Lib.hid (HR2.out.below hbz)
  have HW3 := Lib.hid (HW2.out.below hbz)
  have HP3 := Lib.hid (hP3.alloc (.cells #[.int .u8 0, .int .i64 0, .slice none 0 0, .string ⟨#[]⟩] 24))
  have H4 : Hid (Calls Try.prog 21 #[.agg #[.int .u8 3, .int .i64 0, .slice (some ⟨w.heap.size, 0, none⟩) 1 1, .string ⟨#[]⟩]] (w3.alloc (.cells #[.int .u8 0, .int .i64 0, .slice none 0 0, .string ⟨#[]⟩] 24)) fun e w' => ∃ lv, e = .returned lv ∧ IntsZ w' lv (oids [⟨2, 3⟩]) ∧ (∀ j, lv.ownBlock = some j → (w3.alloc (.cells #[.int .u8 0, .int .i64 0, .slice none 0 0, .string ⟨#[]⟩] 24)).heap.size ≤ j) ∧ Below (w3.alloc (.cells #[.int .u8 0, .int .i64 0, .slice none 0 0, .string ⟨#[]⟩] 24)).heap.size (w3.alloc (.cells #[.int .u8 0, .int .i64 0, .slice none 0 0, .string ⟨#[]⟩] 24)) w') :=
    Lib.hid (oids_any 3 0 (some ⟨w.heap.size, 0, none⟩) 1 1 ⟨#[]⟩ [⟨2, 3⟩] _ rfl (HQ.out _ HB3.out).1 (by decide))
  obtain ⟨_, c0, c1, c2', c3⟩ := HQ.out _ HB3.out
  clear hb3 hb23 hP3 hbz H3 HR2 HW2
  go_wp2_with fail
  refine H4.out.mono ?_
  rintro e w4 ⟨lv, rfl, hiz, hlo, hb4⟩
  rw [F.out.2.2.2] at hiz
  have HB4 : Hid (Below w0.heap.size w0 w4) := Lib.hid (HB3.out.trans (hb4.mono HB3.out.size))
  obtain ⟨gl, cl, hlv, hgl, hcl⟩ := hiz.get 0 3 rfl
  rw [show ([3] : List Int).length = 1 from rfl] at hlv
  subst hlv
  have hR4 := HR3.out.below hb4
  have hP4 := HP3.out.below hb4 HP3.out.lt
  have hW4 := HW3.out.below hb4
  have hb0 : w4.cell? ⟨g, 0, none⟩ = some (.int .u8 3) := hR4.holds 0 3 F.out.1.2.2.1
  clear c0 c1 c2' c3
  obtain ⟨hwo, c0, c1, c2', c3⟩ := HQ.out w4 HB4.out
  have p0 : w4.cell? ⟨w2.heap.size, 0, none⟩ = some (.int .u8 3) := hP4.cell 0
  have p1 : w4.cell? ⟨w2.heap.size, 1, none⟩ = some (.int .i64 0) := hP4.cell 1
  have p2 : w4.cell? ⟨w2.heap.size, 2, none⟩ = some (.slice A2 1 c2) := hP4.cell 2
  have p3 : w4.cell? ⟨w2.heap.size, 3, none⟩ = some (.string ⟨#[]⟩) := hP4.cell 3
  have H5 : Hid (Calls Try.prog 15 #[.agg #[.int .u8 3, .int .i64 0, .slice (some ⟨w.heap.size, 0, none⟩) 1 1, .string ⟨#[]⟩], .agg #[.int .u8 3, .int .i64 0, .slice A2 1 c2, .string ⟨#[]⟩]] w4 fun e w' => e = .returned (.bool true) ∧ Below w4.heap.size w4 w') :=
    Lib.hid (same_ok 3 0 (some ⟨w.heap.size, 0, none⟩) A2 1 1 c2 [] [⟨2, 3⟩] w4 rfl hwo hW4 (by decide))
  have HCL := Lib.hid (fun W (hW : Below w4.heap.size w4 W) => (hW.cell (p := ⟨gl, 0, none⟩) hgl).trans hcl)
  have hcl0 : w4.cell? ⟨gl, 0, none⟩ = some (.int .i64 3) := hcl
  clear hiz hlo hb4 hR4 hP4 hW4 hwo hgl hcl H4 HR3 HW3 HP3
  go_wp2_with (go_at_call 15; refine Calls.mono H5.out ?_; rintro e w5 ⟨rfl, hb5⟩; have hcl5 := HCL.out w5 hb5)
  go_ret
  exact ⟨rfl, HB0.out.trans ((HB4.out.trans (hb5.mono HB4.out.size)).mono HB0.out.size)⟩
end Go.Proofs.Ytobfglnopihibaa
