/- DiskNil. -/
import Derived.Test.YtdohfkblmadejaaY
namespace Go.Proofs.Ytdohfkblmadejaa
open Go.RowKit Dsk

theorem steps_one (w : World) (b : Nat) (v0 v1 v2 v3 : Value) (st : St) (hb : Blk w b 37 #[v0, v1, v2, v3]) (hs : StV w v0 v1 v2 v3 st) : Steps w (some ⟨b, 0, none⟩) [st] := fun r st' hr => by
  rcases r with _ | r
  · cases hr
    exact ⟨b, 0, v0, v1, v2, v3, rfl, hb.lt, hb.cell 0, hb.cell 1, hb.cell 2, hb.cell 3, hs⟩
  · simp at hr

set_option maxRecDepth 20000 in
set_option maxHeartbeats 2000000 in
theorem nil_any (v0 v1 v2 v3 : Value) (st : St) (w : World) (h : StV w v0 v1 v2 v3 st) :
    Calls Try.prog 9 #[.agg #[v0, v1, v2, v3]] w fun e w' => e = .returned (.bool true) ∧ Below w.heap.size w w' := by
  have hb1 := (Below.refl w.heap.size w).alloc (Nat.le_refl _) (.cells #[v0, v1, v2, v3] 37)
  have hb2 := hb1.alloc (by simp) (.cells #[v0, v1, v2, v3] 37)
  have hblk := Blk.new (w.alloc (.cells #[v0, v1, v2, v3] 37)) 37 #[v0, v1, v2, v3]
  have h1 := vast_any (some ⟨w.heap.size + 1, 0, none⟩) 1 1 [st] _ rfl (steps_one _ _ v0 v1 v2 v3 st (by rw [World.size_alloc] at hblk; exact hblk) (h.below hb2))
  have hst := h.below hb2
  by_cases hv : vastB [st] = true
  · rw [hv] at h1
    have H1 := Lib.hid h1
    have HW := Lib.hid (works_any ((w.alloc (.cells #[v0, v1, v2, v3] 37)).alloc (.cells #[v0, v1, v2, v3] 37)))
    have HB := Lib.hid hb2
    obtain ⟨⟨rfl, _, _⟩, ⟨rfl, _, _⟩, ⟨A, c, rfl, _, _, _⟩, ⟨K, d, rfl, _, _, _⟩⟩ := h
    generalize st.kind = k at *
    generalize st.s = s at *
    generalize hx : st.B.length = x at *
    generalize hy : st.K.length = y at *
    clear h1 hb1 hb2 hblk hst hv
    go_enter Try.func9, Try.ntmps9
    go_wp2_with fail
    refine H1.out.mono ?_
    rintro e w' ⟨rfl, rfl⟩
    go_wp2_with fail
    refine HW.out.mono ?_
    rintro e w2 ⟨rfl, hb⟩
    have HB2 := Lib.hid (HB.out.trans (hb.mono HB.out.size))
    clear hb
    go_wp2_with fail
    go_ret
    exact ⟨rfl, HB2.out⟩
  · have hv' : vastB [st] = false := by simpa using hv
    rw [hv'] at h1
    have H1 := Lib.hid h1
    have hB := (vastB_no hv').2 st (by simp)
    have h2 := donil_any v0 v1 v2 v3 st _ hst hB.1
    have HB := Lib.hid hb2
    obtain ⟨⟨rfl, _, _⟩, ⟨rfl, _, _⟩, ⟨A, c, rfl, _, _, _⟩, ⟨K, d, rfl, _, _, _⟩⟩ := h
    generalize st.s = s at *
    generalize hx : st.B.length = x at *
    generalize hy : st.K.length = y at *
    have hkk : (st.kind = 0 ∨ st.kind = 1 ∨ st.kind = 2 ∨ st.kind = 3 ∨ st.kind = 5) ∨ st.kind = 4 ∨ ((st.kind < 0 ∨ 5 < st.kind) ∧ nilE st.kind = 0) := by
      by_cases h1 : st.kind < 0 ∨ 5 < st.kind
      · refine .inr (.inr ⟨h1, ?_⟩)
        unfold nilE asked
        have e0 : (st.kind == 0) = false := by simp; omega
        have e1 : (st.kind == 1) = false := by simp; omega
        have e2 : (st.kind == 2) = false := by simp; omega
        have e3 : (st.kind == 3) = false := by simp; omega
        have e5 : (st.kind == 5) = false := by simp; omega
        rw [e0, e1, e2, e3, e5]; rfl
      · omega
    clear h1 hb1 hb2 hblk hst hv hv' hB
    generalize st.kind = k at *
    rcases hkk with hk | rfl | ⟨hk, hn⟩
    · have hn : nilE k = 2 := by rcases hk with rfl | rfl | rfl | rfl | rfl <;> rfl
      rw [hn] at h2
      have H2 := Lib.hid h2
      clear h2 hn
      rcases hk with rfl | rfl | rfl | rfl | rfl
      all_goals
        go_enter Try.func9, Try.ntmps9
        go_wp2_with fail
        refine H1.out.mono ?_
        rintro e w' ⟨rfl, rfl⟩
        go_wp2_with fail
        refine H2.out.mono ?_
        rintro e w2 ⟨rfl, hb⟩
        have HB2 := Lib.hid (HB.out.trans (hb.mono HB.out.size))
        have hc : w2.cell? ⟨w.heap.size, 0, none⟩ = _ := (hb.cell (p := ⟨w.heap.size, 0, none⟩) (by simp; omega)).trans ((World.cell?_alloc_lt _ _ _ (by simp)).trans (boxed w _ _ _ _ 0))
        have HW := Lib.hid (works_any w2)
        have q1 := Lib.hid (sectors_nil w2)
        have q2 := Lib.hid (pending_nil w2)
        have q3 := Lib.hid (steps_nil w2)
        have q4 := Lib.hid (image_nil w2)
        have q5 := Lib.hid (dead_nil w2)
        have q6 := Lib.hid (copyd_nil w2)
        clear hb H1 H2 HB
        go_wp2_with (first
          | (go_at_call 36; refine q1.out.mono ?_; rintro e w' ⟨rfl, rfl⟩)
          | (go_at_call 29; refine q2.out.mono ?_; rintro e w' ⟨rfl, rfl⟩)
          | (go_at_call 34; refine q3.out.mono ?_; rintro e w' ⟨rfl, rfl⟩)
          | (go_at_call 19; refine q4.out.mono ?_; rintro e w' ⟨rfl, rfl⟩)
          | (go_at_call 33; refine q5.out.mono ?_; rintro e w' ⟨rfl, rfl⟩)
          | (go_at_call 23; refine q6.out.mono ?_; rintro e w' ⟨rfl, rfl⟩)
          | fail)
        refine HW.out.mono ?_
        rintro e w3 ⟨rfl, hb⟩
        have HB3 := Lib.hid (HB2.out.trans (hb.mono HB2.out.size))
        clear hb
        go_wp2_with fail
        go_ret
        exact ⟨rfl, HB3.out⟩
    · have hn : nilE 4 = 0 := rfl
      rw [hn] at h2
      have H2 := Lib.hid h2
      clear h2 hn
      go_enter Try.func9, Try.ntmps9
      go_wp2_with fail
      refine H1.out.mono ?_
      rintro e w' ⟨rfl, rfl⟩
      go_wp2_with fail
      refine H2.out.mono ?_
      rintro e w2 ⟨rfl, hb⟩
      have HB2 := Lib.hid (HB.out.trans (hb.mono HB.out.size))
      have hc : w2.cell? ⟨w.heap.size, 0, none⟩ = _ := (hb.cell (p := ⟨w.heap.size, 0, none⟩) (by simp; omega)).trans ((World.cell?_alloc_lt _ _ _ (by simp)).trans (boxed w _ _ _ _ 0))
      have HW := Lib.hid (works_any w2)
      have q1 := Lib.hid (sectors_nil w2)
      have q2 := Lib.hid (pending_nil w2)
      have q3 := Lib.hid (steps_nil w2)
      have q4 := Lib.hid (image_nil w2)
      have q5 := Lib.hid (dead_nil w2)
      have q6 := Lib.hid (copyd_nil w2)
      clear hb H1 H2 HB
      go_wp2_with (first
        | (go_at_call 36; refine q1.out.mono ?_; rintro e w' ⟨rfl, rfl⟩)
        | (go_at_call 29; refine q2.out.mono ?_; rintro e w' ⟨rfl, rfl⟩)
        | (go_at_call 34; refine q3.out.mono ?_; rintro e w' ⟨rfl, rfl⟩)
        | (go_at_call 19; refine q4.out.mono ?_; rintro e w' ⟨rfl, rfl⟩)
        | (go_at_call 33; refine q5.out.mono ?_; rintro e w' ⟨rfl, rfl⟩)
        | (go_at_call 23; refine q6.out.mono ?_; rintro e w' ⟨rfl, rfl⟩)
        | fail)
      refine HW.out.mono ?_
      rintro e w3 ⟨rfl, hb⟩
      have HB3 := Lib.hid (HB2.out.trans (hb.mono HB2.out.size))
      clear hb
      go_wp2_with fail
      go_ret
      exact ⟨rfl, HB3.out⟩
    · rw [hn] at h2
      have H2 := Lib.hid h2
      have e0 : (k == 0) = false := by simp; omega
      have e1 : (k == 1) = false := by simp; omega
      have e2 : (k == 2) = false := by simp; omega
      have e3 : (k == 3) = false := by simp; omega
      have e5 : (k == 5) = false := by simp; omega
      clear h2 hn hk
      go_enter Try.func9, Try.ntmps9
      go_wp2_with fail
      refine H1.out.mono ?_
      rintro e w' ⟨rfl, rfl⟩
      go_wp2_with fail
      refine H2.out.mono ?_
      rintro e w2 ⟨rfl, hb⟩
      have HB2 := Lib.hid (HB.out.trans (hb.mono HB.out.size))
      have hc : w2.cell? ⟨w.heap.size, 0, none⟩ = _ := (hb.cell (p := ⟨w.heap.size, 0, none⟩) (by simp; omega)).trans ((World.cell?_alloc_lt _ _ _ (by simp)).trans (boxed w _ _ _ _ 0))
      have HW := Lib.hid (works_any w2)
      have q1 := Lib.hid (sectors_nil w2)
      have q2 := Lib.hid (pending_nil w2)
      have q3 := Lib.hid (steps_nil w2)
      have q4 := Lib.hid (image_nil w2)
      have q5 := Lib.hid (dead_nil w2)
      have q6 := Lib.hid (copyd_nil w2)
      clear hb H1 H2 HB
      go_wp2_with (first
        | (go_at_call 36; refine q1.out.mono ?_; rintro e w' ⟨rfl, rfl⟩)
        | (go_at_call 29; refine q2.out.mono ?_; rintro e w' ⟨rfl, rfl⟩)
        | (go_at_call 34; refine q3.out.mono ?_; rintro e w' ⟨rfl, rfl⟩)
        | (go_at_call 19; refine q4.out.mono ?_; rintro e w' ⟨rfl, rfl⟩)
        | (go_at_call 33; refine q5.out.mono ?_; rintro e w' ⟨rfl, rfl⟩)
        | (go_at_call 23; refine q6.out.mono ?_; rintro e w' ⟨rfl, rfl⟩)
        | fail)
      refine HW.out.mono ?_
      rintro e w3 ⟨rfl, hb⟩
      have HB3 := Lib.hid (HB2.out.trans (hb.mono HB2.out.size))
      clear hb
      go_wp2_with fail
      go_ret
      exact ⟨rfl, HB3.out⟩

end Go.Proofs.Ytdohfkblmadejaa
