/- token: the reference's name. -/
import Derived.Test.YtdnmdccjecoojaaDoorR
import Derived.Deep.CutRange
import Derived.Deep.RegionHeld3
namespace Go.Proofs.YtdnmdccjecoojaaDoor
open Go.RowKit Tok
set_option maxHeartbeats 2000000 in
theorem rname_any (s : List UInt8) (c : UInt8) (w : World) (hc : s[0]? = some c) (hb : s.length < 4294967296) :
    Calls Tryd.prog 44 #[.string (str s)] w (OneP (nameN s) w) := by
  obtain ⟨n, hn⟩ : ∃ n, s.length = n := ⟨_, rfl⟩
  have h0 : 0 < n := by have := (List.getElem?_eq_some_iff.1 hc).1; omega
  have hsz := str_sizeN hn
  have hcc := str_at0 hc (by rw [hsz]; exact h0)
  obtain ⟨w0, hw0⟩ : ∃ w0, w.alloc (.cells #[.int .u8 0, .string ⟨#[]⟩, .int .i64 0, .int .i64 0] 34) = w0 := ⟨_, rfl⟩
  have hR0 : Blk w0 w.heap.size 34 #[.int .u8 0, .string ⟨#[]⟩, .int .i64 0, .int .i64 0] := by rw [← hw0]; exact Blk.new _ _ _
  have hb0 : Below w.heap.size w w0 := by rw [← hw0]; exact (Below.refl _ _).alloc (Nat.le_refl _) _
  have hrl := prt_le s
  rw [hn] at hrl
  have hX : nameN s = if 32 < prtN s then none else some (⟨if greatB c then 2 else if s.take (prtN s) ∈ wordsL then 6 else 1, s.take (prtN s), 0⟩, prtN s) := by unfold nameN; rw [head_at hc]
  have H4 := Lib.hid (show Calls Tryd.prog 48 #[.string (str s)] w0 fun e w' => e = .returned (.int .i64 (prtN s : Int)) ∧ w0 = w' from rrun_any s w0 hb)
  obtain ⟨r, hr⟩ : ∃ r, prtN s = r := ⟨_, rfl⟩
  rw [hr] at hX H4 hrl
  have hex := str_pre s r
  rw [hn] at hb
  obtain ⟨x, hx⟩ : ∃ x, s.take r = x := ⟨_, rfl⟩
  rw [hx] at hX hex
  have HX := Lib.hid hX
  have HR0 := Lib.hid hR0
  have HB0 := Lib.hid hb0
  obtain ⟨r0, r1, r2, r3, f0⟩ := hR0.told4
  clear hX hR0 hb0 hr hx hn
  by_cases hbig : 32 < r
  · have hd : decide ((r : Int) > 32) = true := by simp; omega
    have HX2 : Hid (nameN s = none) := Lib.hid (by rw [HX.out, if_pos hbig])
    clear HX hbig
    go_enter Tryd.func44, Tryd.ntmps44
    go_wp2_with fail
    refine H4.out.mono ?_
    rintro e w' ⟨rfl, rfl⟩
    go_wp2_with fail
    refine bodyPost_ret (results_cell_row2 rfl _ _ w.heap.size 34 _ (0, 0) _ rfl HR0.out.put4 Tryd.underlying34 rfl infoTk) rfl ?_
    exact ⟨below_put4 HB0.out (Nat.le_refl _), noTk, 0, rfl, .inl ⟨HX2.out, rfl⟩⟩
  · have hd : decide ((r : Int) > 32) = false := by simp; omega
    obtain ⟨p, hp⟩ : ∃ p, greatB c = p := ⟨_, rfl⟩
    obtain ⟨q, hq⟩ : ∃ q, decide (x ∈ wordsL) = q := ⟨_, rfl⟩
    obtain ⟨w1, hw1⟩ : ∃ w1, w0.alloc (.cells #[.int .u8 1, .string (str x), .int .i64 0, .int .i64 0] 34) = w1 := ⟨_, rfl⟩
    obtain ⟨g1, hg1⟩ : ∃ g1, w0.heap.size = g1 := ⟨_, rfl⟩
    have hR1 : Blk w1 w.heap.size 34 #[.int .u8 0, .string ⟨#[]⟩, .int .i64 0, .int .i64 0] := by rw [← hw1]; exact HR0.out.alloc _
    have hN1 : Blk w1 g1 34 #[.int .u8 1, .string (str x), .int .i64 0, .int .i64 0] := by rw [← hw1, ← hg1]; exact Blk.new _ _ _
    have hB1 : Below w.heap.size w w1 := by rw [← hw1]; exact HB0.out.alloc HB0.out.size _
    have hlt : w.heap.size < g1 := by rw [← hg1]; exact HR0.out.lt
    have HX2 : Hid (nameN s = some (⟨if p then 2 else if q then 6 else 1, x, 0⟩, r)) := Lib.hid (by
      rw [HX.out, if_neg hbig, hp]
      cases q with
      | true => rw [if_pos (of_decide_eq_true hq)]; rfl
      | false => rw [if_neg (of_decide_eq_false hq)]; rfl)
    have H1 := rgreat_any c w1
    rw [hp] at H1
    unfold bv at H1
    have H1 := Lib.hid H1
    have H2 := rword_any x w1
    rw [hq] at H2
    have H2 := Lib.hid H2
    have HR1 := Lib.hid hR1
    have HN1 := Lib.hid hN1
    have HB1 := Lib.hid hB1
    have HLT := Lib.hid hlt
    have HW1 := Lib.hid hw1
    obtain ⟨a0, a1, a2, a3, fa⟩ := hR1.told4
    obtain ⟨b0, b1, b2, b3, fb⟩ := hN1.told4
    clear HX hbig hp hq hR1 hN1 hB1 hw1
    go_enter Tryd.func44, Tryd.ntmps44
    go_wp2_with fail
    refine H4.out.mono ?_
    rintro e w' ⟨rfl, rfl⟩
    go_upto_region 5 with fail
    rw [HW1.out]
    cases p with
    | true =>
      obtain ⟨w2, hw2⟩ : ∃ w2, w1.setCell ⟨g1, 0, none⟩ (.int .u8 2) = w2 := ⟨_, rfl⟩
      have HR2 := Lib.hid (show Blk w2 w.heap.size 34 #[.int .u8 0, .string ⟨#[]⟩, .int .i64 0, .int .i64 0] by rw [← hw2]; exact HR1.out.far (p := ⟨g1, 0, none⟩) (by show w.heap.size ≠ g1; omega) _)
      have HN2 := Lib.hid (show Blk w2 g1 34 #[.int .u8 2, .string (str x), .int .i64 0, .int .i64 0] by rw [← hw2]; exact HN1.out.set_ 0 _)
      have HB2 := Lib.hid (show Below w.heap.size w w2 by rw [← hw2]; exact HB1.out.setCell (p := ⟨g1, 0, none⟩) (by show w.heap.size ≤ g1; omega) _)
      obtain ⟨c0, c1, c2, c3, fc⟩ := HR2.out.told4
      obtain ⟨d0, d1, d2, d3, fd⟩ := HN2.out.told4
      go_wp2_with fail
      refine H1.out.mono ?_
      rintro e w' ⟨rfl, rfl⟩
      go_wp2_with fail
      refine bodyPost_ret (results_cell_row2 rfl _ _ w.heap.size 34 _ (0, 0) _ rfl HR2.out.put4 Tryd.underlying34 rfl infoTk) rfl ?_
      exact ⟨below_put4 HB2.out (Nat.le_refl _), ⟨2, x, 0⟩, r, rfl, .inr HX2.out⟩
    | false =>
      go_wp2_with fail
      refine H1.out.mono ?_
      rintro e w' ⟨rfl, rfl⟩
      go_wp2_with fail
      refine H2.out.mono ?_
      rintro e w3 ⟨rfl, hb3⟩
      have HR3 := Lib.hid (HR1.out.below hb3 HR1.out.lt)
      have HN3 := Lib.hid (HN1.out.below hb3 HN1.out.lt)
      have HB3 := Lib.hid (HB1.out.trans (hb3.mono HB1.out.size))
      obtain ⟨c0, c1, c2, c3, fc⟩ := HR3.out.told4
      obtain ⟨d0, d1, d2, d3, fd⟩ := HN3.out.told4
      clear hb3
      cases q with
      | true =>
        obtain ⟨w4, hw4⟩ : ∃ w4, w3.setCell ⟨g1, 0, none⟩ (.int .u8 6) = w4 := ⟨_, rfl⟩
        have HR4 := Lib.hid (show Blk w4 w.heap.size 34 #[.int .u8 0, .string ⟨#[]⟩, .int .i64 0, .int .i64 0] by rw [← hw4]; exact HR3.out.far (p := ⟨g1, 0, none⟩) (by show w.heap.size ≠ g1; omega) _)
        have HN4 := Lib.hid (show Blk w4 g1 34 #[.int .u8 6, .string (str x), .int .i64 0, .int .i64 0] by rw [← hw4]; exact HN3.out.set_ 0 _)
        have HB4 := Lib.hid (show Below w.heap.size w w4 by rw [← hw4]; exact HB3.out.setCell (p := ⟨g1, 0, none⟩) (by show w.heap.size ≤ g1; omega) _)
        obtain ⟨i0, i1, i2, i3, fi⟩ := HR4.out.told4
        obtain ⟨j0, j1, j2, j3, fj⟩ := HN4.out.told4
        go_wp2_with fail
        refine bodyPost_ret (results_cell_row2 rfl _ _ w.heap.size 34 _ (0, 0) _ rfl HR4.out.put4 Tryd.underlying34 rfl infoTk) rfl ?_
        exact ⟨below_put4 HB4.out (Nat.le_refl _), ⟨6, x, 0⟩, r, rfl, .inr HX2.out⟩
      | false =>
        go_wp2_with fail
        refine bodyPost_ret (results_cell_row2 rfl _ _ w.heap.size 34 _ (0, 0) _ rfl HR3.out.put4 Tryd.underlying34 rfl infoTk) rfl ?_
        exact ⟨below_put4 HB3.out (Nat.le_refl _), ⟨1, x, 0⟩, r, rfl, .inr HX2.out⟩
end Go.Proofs.YtdnmdccjecoojaaDoor
