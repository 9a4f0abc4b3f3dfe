/- HeapFills. -/
import Derived.Test.YtclkkfffecmjnaaFm
import Derived.Test.YtclkkfffecmjnaaZ
import Derived.Test.YtclkkfffecmjnaaAd
namespace Go.Proofs.Ytclkkfffecmjnaa
open Go.RowKit
set_option linter.unusedVariables false
attribute [local go_sem] Oper.semAt_some
/-- The zero object, as a value. -/
abbrev zeroOb : Value := .agg #[.int .u8 0, .int .i64 0, .slice none 0 0, .string ⟨#[]⟩]
set_option maxRecDepth 20000 in
set_option maxHeartbeats 4000000 in
theorem fills_any (oi rm : Nat) (hoi : oi < 65536) (hrm : rm < 256) (o : Ob) (A : Option Addr) (c : Nat) (w : World) (hk : o.k < 256) (htag : rng o.tag) (hA : Words w A o.ws) (hl1 : o.ws.length ≤ 140737488351232) (hl2 : o.t.length ≤ 140737488351232) :
    Calls Try.prog 9 #[.int .u16 (oi : Int), .agg #[.int .u8 (o.k : Int), .int .i64 o.tag, .slice A o.ws.length c, .string (str o.t)], .int .u8 (rm : Int)] w fun e w' => e = .returned (.bool true) ∧ Below w.heap.size w w' := by
  obtain ⟨w0, hw0⟩ : ∃ w0, w.alloc (.cells #[.int .u8 (o.k : Int), .int .i64 o.tag, .slice A o.ws.length c, .string (str o.t)] 35) = w0 := ⟨_, rfl⟩
  have hB0 : Blk w0 w.heap.size 35 #[.int .u8 (o.k : Int), .int .i64 o.tag, .slice A o.ws.length c, .string (str o.t)] := by rw [← hw0]; exact Blk.new _ _ _
  have hb0 : Below w.heap.size w w0 := by rw [← hw0]; exact (Below.refl _ _).alloc (Nat.le_refl _) _
  have hsz : (str o.t).size = o.t.length := str_size _
  have HA := Lib.hid (And.intro hA (And.intro hb0 (And.intro hB0 htag)))
  obtain ⟨n, hn⟩ : ∃ n, o.ws.length = n := ⟨_, rfl⟩
  obtain ⟨tl, htl⟩ : ∃ n, o.t.length = n := ⟨_, rfl⟩
  have HN := Lib.hid (And.intro hn htl)
  rw [hn] at hl1 hw0 ⊢
  rw [htl] at hl2 hsz
  have d0 : w0.cell? ⟨w.heap.size, 0, none⟩ = some (.int .u8 (o.k : Int)) := hB0.cell 0
  have d1 : w0.cell? ⟨w.heap.size, 1, none⟩ = some (.int .i64 o.tag) := hB0.cell 1
  have d2 : w0.cell? ⟨w.heap.size, 2, none⟩ = some (.slice A n c) := by rw [← hn]; exact hB0.cell 2
  have d3 : w0.cell? ⟨w.heap.size, 3, none⟩ = some (.string (str o.t)) := hB0.cell 3
  clear hA hb0 hB0 hn htl htag
  by_cases hbig : 1024 < n + tl
  · have hd : decide ((n : Int) + (tl : Int) > 1024) = true := by simp; omega
    have HW := Lib.hid (works_any w0)
    go_enter Try.func9, Try.ntmps9
    go_wp2_with fail
    refine HW.out.mono ?_
    rintro e w1 ⟨rfl, hb⟩
    have HB := Lib.hid (HA.out.2.1.trans (hb.mono HA.out.2.1.size))
    clear hb
    go_wp2_with fail
    go_ret
    exact ⟨rfl, HB.out⟩
  · have hd : decide ((n : Int) + (tl : Int) > 1024) = false := by simp; omega
    go_enter Try.func9, Try.ntmps9
    go_wp2_with fail
    obtain ⟨x, hx⟩ : ∃ x : Nat, 1 + oi % 16384 = x := ⟨_, rfl⟩
    have hxi : 1 + (oi : Int) % 16384 = (x : Int) := by omega
    have hx1 : 1 ≤ x ∧ x ≤ 16384 := by omega
    have hX : ∀ k, k = w.heap.size → k < w0.heap.size := fun k e => by rw [e]; exact HA.out.2.2.1.lt
    have h1 := new_ok (1 + rm) w w0 (fun k => k = w.heap.size) hX HA.out.2.1 (by omega)
    rw [show ((1 + rm : Nat) : Int) = 1 + (rm : Int) by omega] at h1
    have H1 := Lib.hid h1
    have HX1 := Lib.hid hx1
    rw [hxi]
    have hno : n ≤ 100000 := by omega
    have HSM : Hid (Hp.small o) := Lib.hid ⟨by rw [HN.out.1]; exact hno, by rw [HN.out.2]; omega, hk⟩
    clear h1 hX hx1 hx hxi
    go_wp2_with fail
    refine H1.out.mono ?_
    rintro e w1 ⟨g, rfl, hr, hb01⟩
    have HX1B := Lib.hid (HA.out.2.2.1.below hb01 HA.out.2.2.1.lt)
    have h2 := alloc_hr hr (by omega) (Fl.stb x) none 0 ⟨Words.nil _ _, ⟨Nat.zero_le _, Nat.zero_le _, by show 8 < 256; omega⟩, by show (-9223372036854775808 : Int) ≤ x; have := HX1.out; omega, by show (x : Int) < 9223372036854775808; have := HX1.out; omega⟩ (fun p e => by cases e)
    rw [Fl.al1 (by omega) HX1.out] at h2
    have H2 : Hid (Calls Try.prog 36 #[.pointer (some ⟨g, 0, none⟩), .agg #[.int .u8 8, .int .i64 (x : Int), .slice none 0 0, .string ⟨#[]⟩]] w1 fun e w' => e = .returned (.tuple #[.int .i64 1, .int .i64 0]) ∧ HR w w' (fun k => k = w.heap.size) g 2 (Fl.s1 (1 + rm) x) ∧ Keep (fun k => k = w.heap.size) w1 w') := Lib.hid h2
    clear hr h2 H1 hb01
    go_wp2_with fail
    refine H2.out.mono ?_
    rintro e w2 ⟨rfl, hr, hk2⟩
    have hk2H := Lib.hid hk2
    have h3 := alloc_hr hr (by omega) (Fl.stb x) none 0 ⟨Words.nil _ _, ⟨Nat.zero_le _, Nat.zero_le _, by show 8 < 256; omega⟩, by show (-9223372036854775808 : Int) ≤ x; have := HX1.out; omega, by show (x : Int) < 9223372036854775808; have := HX1.out; omega⟩ (fun p e => by cases e)
    rw [Fl.al2 HX1.out] at h3
    have H3 : Hid (Calls Try.prog 36 #[.pointer (some ⟨g, 0, none⟩), .agg #[.int .u8 8, .int .i64 (x : Int), .slice none 0 0, .string ⟨#[]⟩]] w2 fun e w' => e = .returned (.tuple #[.int .i64 0, .int .i64 3]) ∧ HR w w' (fun k => k = w.heap.size) g 4 (Fl.s1 (1 + rm) x) ∧ Keep (fun k => k = w.heap.size) w2 w') := Lib.hid h3
    clear hr h3 H2 hk2 d0 d1 d2 d3
    go_wp2_with fail
    refine H3.out.mono ?_
    rintro e w3 ⟨rfl, hr, hk3⟩
    have hB := (HX1B.out.same (hk2H.out.at_ _ rfl)).same (hk3.at_ _ rfl)
    have d0 : w3.cell? ⟨w.heap.size, 0, none⟩ = some (.int .u8 (o.k : Int)) := hB.cell 0
    have d1 : w3.cell? ⟨w.heap.size, 1, none⟩ = some (.int .i64 o.tag) := hB.cell 1
    have d2 : w3.cell? ⟨w.heap.size, 2, none⟩ = some (.slice A n c) := by rw [← HN.out.1]; exact hB.cell 2
    have d3 : w3.cell? ⟨w.heap.size, 3, none⟩ = some (.string (str o.t)) := hB.cell 3
    have h4 := fill_hr_err hr 2 (WalkArith.wf_i64 (by omega)) o A c (.inl (Fl.ob2 _ _))
    rw [show (fillF (Fl.s1 (1 + rm) x) 2 o).2 = 7 by unfold fillF; rw [Fl.ob2]] at h4
    have H4 : Hid (Calls Try.prog 37 #[.pointer (some ⟨g, 0, none⟩), .int .i64 2, .agg #[.int .u8 (o.k : Int), .int .i64 o.tag, .slice A n c, .string (str o.t)]] w3 fun e w' => e = .returned (.int .i64 7) ∧ HR w w' (fun k => k = w.heap.size) g 4 (Fl.s1 (1 + rm) x) ∧ Keep (fun k => k = w.heap.size) w3 w') := Lib.hid (by rw [← HN.out.1]; exact h4)
    have HB3 := Lib.hid hB
    clear hr h4 H3 hk3 hB hk2H HX1B
    go_wp2_with fail
    refine H4.out.mono ?_
    rintro e w4 ⟨rfl, hr, hk4⟩
    have hB := HB3.out.same (hk4.at_ _ rfl)
    have d0 : w4.cell? ⟨w.heap.size, 0, none⟩ = some (.int .u8 (o.k : Int)) := hB.cell 0
    have d1 : w4.cell? ⟨w.heap.size, 1, none⟩ = some (.int .i64 o.tag) := hB.cell 1
    have d2 : w4.cell? ⟨w.heap.size, 2, none⟩ = some (.slice A n c) := by rw [← HN.out.1]; exact hB.cell 2
    have d3 : w4.cell? ⟨w.heap.size, 3, none⟩ = some (.string (str o.t)) := hB.cell 3
    have HCP := Lib.hid (copyobj_any o A c w4 (by rw [HN.out.1]; exact hno) (HA.out.1.below hr.bel))
    rw [HN.out.1] at HCP
    have HR4 := Lib.hid (And.intro hr hB)
    clear hr hB hk4 H4 HB3
    go_wp2_with fail
    refine HCP.out.mono ?_
    rintro e w5 ⟨v, A1, c1, rfl, hob, hb5⟩
    obtain ⟨rfl, hrow⟩ := hob
    rw [HN.out.1] at hrow
    rw [HN.out.1]
    have hr5 := HR4.out.1.more (Y := fun k => k = w.heap.size ∨ ∃ p : Addr, A1 = some p ∧ p.block = k) hb5 (fun k hk => by
      rcases hk with hk | ⟨p, hp, rfl⟩
      · exact .inl hk
      · have := hrow.blk p hp; exact .inr ⟨by omega, this.2.2.2⟩)
    have hB5 := HR4.out.2.below hb5 HR4.out.2.lt
    have h6 := fill_hr hr5 1 (WalkArith.wf_i64 (by omega)) o A1 c1 ⟨hrow.words, HSM.out, HA.out.2.2.2⟩ (fun p e => .inl (.inr ⟨p, e, rfl⟩))
    have HM : Hid (∀ W, Words W A o.ws → Calls Try.prog 39 #[.agg #[.int .u8 (o.k : Int), .int .i64 o.tag, .slice A n c, .string (str o.t)]] W fun e w' => e = .returned (.bool (Hp.mayO o)) ∧ Below W.heap.size W w') := Lib.hid fun W hW => by rw [← HN.out.1]; exact refmay_any o A c W ⟨hW, HSM.out, HA.out.2.2.2⟩
    have hfb : fillB o = (Hp.mayO o && !(decide (o.k = 6) || decide (o.k = 7) || decide (o.k = 8))) := rfl
    clear hb5 hrow HCP d0 d1 d2 d3
    by_cases hfill : fillB o = false
    · -- it may not be
      rw [Fl.fl1 hfill] at h6
      have H6 : Hid (Calls Try.prog 37 #[.pointer (some ⟨g, 0, none⟩), .int .i64 1, .agg #[.int .u8 (o.k : Int), .int .i64 o.tag, .slice A1 n c1, .string (str o.t)]] w5 fun e w' => e = .returned (.int .i64 1) ∧ HR w w' (fun k => k = w.heap.size ∨ ∃ p : Addr, A1 = some p ∧ p.block = k) g 6 (Fl.s1 (1 + rm) x) ∧ Keep (fun k => k = w.heap.size ∨ ∃ p : Addr, A1 = some p ∧ p.block = k) w5 w') := Lib.hid (by rw [← HN.out.1]; exact h6)
      have HB5 := Lib.hid hB5
      clear h6 hB5 hr5 HR4
      go_wp2_with fail
      refine H6.out.mono ?_
      rintro e w6 ⟨rfl, hr, hk6⟩
      have hB := HB5.out.same (hk6.at_ _ (.inl rfl))
      have d0 : w6.cell? ⟨w.heap.size, 0, none⟩ = some (.int .u8 (o.k : Int)) := hB.cell 0
      have d1 : w6.cell? ⟨w.heap.size, 1, none⟩ = some (.int .i64 o.tag) := hB.cell 1
      have d2 : w6.cell? ⟨w.heap.size, 2, none⟩ = some (.slice A n c) := by rw [← HN.out.1]; exact hB.cell 2
      have d3 : w6.cell? ⟨w.heap.size, 3, none⟩ = some (.string (str o.t)) := hB.cell 3
      have HM6 := Lib.hid (HM.out w6 (HA.out.1.below hr.bel))
      have HR6 := Lib.hid (And.intro hr hB)
      clear hr hB hk6 H6 HB5
      go_wp2_with fail
      refine HM6.out.mono ?_
      rintro e w7 ⟨rfl, hb7⟩
      have hB := HR6.out.2.below hb7 HR6.out.2.lt
      have d0 : w7.cell? ⟨w.heap.size, 0, none⟩ = some (.int .u8 (o.k : Int)) := hB.cell 0
      have HB7 := Lib.hid (HR6.out.1.bel.trans (hb7.mono HR6.out.1.bel.size))
      have HW := Lib.hid (works_any w7)
      obtain ⟨wm, hwm⟩ : ∃ wm, Hp.mayO o = wm := ⟨_, rfl⟩
      rw [hwm] at hfb ⊢
      rw [hfill] at hfb
      clear hB hb7 d1 d2 d3 HM6
      have hcase : wm = false ∨ (wm = true ∧ (o.k = 6 ∨ o.k = 7 ∨ o.k = 8)) := by
        cases wm with
        | false => exact .inl rfl
        | true => exact .inr ⟨rfl, by simp at hfb; omega⟩
      obtain ⟨kk, hkk⟩ : ∃ kk, o.k = kk := ⟨_, rfl⟩
      rw [hkk] at d0 hcase
      clear hfb hfill hwm
      rcases hcase with rfl | ⟨rfl, rfl | rfl | rfl⟩
      all_goals
        go_wp2_with fail
        refine HW.out.mono ?_
        rintro e w8 ⟨rfl, hb8⟩
        have HB8 := Lib.hid (HB7.out.trans (hb8.mono HB7.out.size))
        clear hb8
        go_wp2_with fail
        go_ret
        exact ⟨rfl, HB8.out⟩
    · have hfill : fillB o = true := by simpa using hfill
      rw [hfill] at hfb
      have hmk : Hp.mayO o = true ∧ o.k ≠ 6 ∧ o.k ≠ 7 ∧ o.k ≠ 8 := by
        have h := hfb.symm
        simp at h
        exact ⟨h.1, by omega, by omega, by omega⟩
      have HSZ : Hid (∀ W, Calls Try.prog 34 #[.agg #[.int .u8 (o.k : Int), .int .i64 o.tag, .slice A n c, .string (str o.t)]] W fun e w' => e = .returned (.int .i64 (Hp.sizeO o : Int)) ∧ Below W.heap.size W w') := Lib.hid fun W => by rw [← HN.out.1]; exact size_any o A c W HSM.out
      obtain ⟨sz, hsz2⟩ : ∃ sz, Hp.sizeO o = sz := ⟨_, rfl⟩
      by_cases hbigger : 1 + rm < Hp.sizeO o
      · -- there is no room
        rw [Fl.fl6 hfill hbigger] at h6
        have H6 : Hid (Calls Try.prog 37 #[.pointer (some ⟨g, 0, none⟩), .int .i64 1, .agg #[.int .u8 (o.k : Int), .int .i64 o.tag, .slice A1 n c1, .string (str o.t)]] w5 fun e w' => e = .returned (.int .i64 6) ∧ HR w w' (fun k => k = w.heap.size ∨ ∃ p : Addr, A1 = some p ∧ p.block = k) g 6 (Fl.s1 (1 + rm) x) ∧ Keep (fun k => k = w.heap.size ∨ ∃ p : Addr, A1 = some p ∧ p.block = k) w5 w') := Lib.hid (by rw [← HN.out.1]; exact h6)
        have HB5 := Lib.hid hB5
        have HMK := Lib.hid hmk
        have hdb : decide ((sz : Int) > 1 + (rm : Int)) = true := by simp; omega
        rw [hsz2] at HSZ
        have e6 : ((o.k : Int) != 6) = true := by simp; omega
        have e7 : ((o.k : Int) != 7) = true := by simp; omega
        have e8 : ((o.k : Int) != 8) = true := by simp; omega
        clear h6 hB5 hr5 HR4 hfb hfill hmk hbigger hsz2
        go_wp2_with fail
        refine H6.out.mono ?_
        rintro e w6 ⟨rfl, hr, hk6⟩
        have hB := HB5.out.same (hk6.at_ _ (.inl rfl))
        have d0 : w6.cell? ⟨w.heap.size, 0, none⟩ = some (.int .u8 (o.k : Int)) := hB.cell 0
        have d1 : w6.cell? ⟨w.heap.size, 1, none⟩ = some (.int .i64 o.tag) := hB.cell 1
        have d2 : w6.cell? ⟨w.heap.size, 2, none⟩ = some (.slice A n c) := by rw [← HN.out.1]; exact hB.cell 2
        have d3 : w6.cell? ⟨w.heap.size, 3, none⟩ = some (.string (str o.t)) := hB.cell 3
        have HM6 := Lib.hid (HM.out w6 (HA.out.1.below hr.bel))
        rw [HMK.out.1] at HM6
        have HR6 := Lib.hid (And.intro hr hB)
        clear hr hB hk6 H6 HB5
        go_wp2_with fail
        refine HM6.out.mono ?_
        rintro e w7 ⟨rfl, hb7⟩
        have hB := HR6.out.2.below hb7 HR6.out.2.lt
        have d0 : w7.cell? ⟨w.heap.size, 0, none⟩ = some (.int .u8 (o.k : Int)) := hB.cell 0
        have d1 : w7.cell? ⟨w.heap.size, 1, none⟩ = some (.int .i64 o.tag) := hB.cell 1
        have d2 : w7.cell? ⟨w.heap.size, 2, none⟩ = some (.slice A n c) := by rw [← HN.out.1]; exact hB.cell 2
        have d3 : w7.cell? ⟨w.heap.size, 3, none⟩ = some (.string (str o.t)) := hB.cell 3
        have HR7 := Lib.hid (HR6.out.1.below hb7).1
        have HS7 := Lib.hid (HSZ.out w7)
        clear hB hb7 HM6 HR6
        go_wp2_with fail
        refine HS7.out.mono ?_
        rintro e w8 ⟨rfl, hb8⟩
        have hr8 := (HR7.out.below hb8).1
        have HU : Hid (Calls Try.prog 18 #[.pointer (some ⟨g, 0, none⟩)] w8 fun e w' => e = .returned (.int .i64 1) ∧ w8 = w') := Lib.hid (used_hr hr8)
        have HB8 := Lib.hid hr8.bel
        have HW := Lib.hid (works_any w8)
        clear hb8 hr8 HS7 HR7
        go_wp2_with fail
        refine HU.out.mono ?_
        rintro e v1 ⟨rfl, rfl⟩
        go_wp2_with fail
        refine HW.out.mono ?_
        rintro e w9 ⟨rfl, hb9⟩
        have HB9 := Lib.hid (HB8.out.trans (hb9.mono HB8.out.size))
        clear hb9
        go_wp2_with fail
        go_ret
        exact ⟨rfl, HB9.out⟩
      · -- it is filled
        rw [Fl.fl0 hfill (by omega)] at h6
        have H6 : Hid (Calls Try.prog 37 #[.pointer (some ⟨g, 0, none⟩), .int .i64 1, .agg #[.int .u8 (o.k : Int), .int .i64 o.tag, .slice A1 n c1, .string (str o.t)]] w5 fun e w' => e = .returned (.int .i64 0) ∧ HR w w' (fun k => k = w.heap.size ∨ ∃ p : Addr, A1 = some p ∧ p.block = k) g 6 (Fl.s2 (1 + rm) x o) ∧ Keep (fun k => k = w.heap.size ∨ ∃ p : Addr, A1 = some p ∧ p.block = k) w5 w') := Lib.hid (by rw [← HN.out.1]; exact h6)
        have HB5 := Lib.hid hB5
        have HMK := Lib.hid hmk
        have hdb : decide ((sz : Int) > 1 + (rm : Int)) = false := by simp; omega
        rw [hsz2] at HSZ
        have e6 : ((o.k : Int) != 6) = true := by simp; omega
        have e7 : ((o.k : Int) != 7) = true := by simp; omega
        have e8 : ((o.k : Int) != 8) = true := by simp; omega
        clear h6 hB5 hr5 HR4 hfb hfill hmk hbigger hsz2
        go_wp2_with fail
        refine H6.out.mono ?_
        rintro e w6 ⟨rfl, hr, hk6⟩
        have hB := HB5.out.same (hk6.at_ _ (.inl rfl))
        have d0 : w6.cell? ⟨w.heap.size, 0, none⟩ = some (.int .u8 (o.k : Int)) := hB.cell 0
        have d1 : w6.cell? ⟨w.heap.size, 1, none⟩ = some (.int .i64 o.tag) := hB.cell 1
        have d2 : w6.cell? ⟨w.heap.size, 2, none⟩ = some (.slice A n c) := by rw [← HN.out.1]; exact hB.cell 2
        have d3 : w6.cell? ⟨w.heap.size, 3, none⟩ = some (.string (str o.t)) := hB.cell 3
        have HM6 := Lib.hid (HM.out w6 (HA.out.1.below hr.bel))
        rw [HMK.out.1] at HM6
        have HR6 := Lib.hid (And.intro (hr.less (Y := fun k => k = w.heap.size) (fun k hk => .inl hk)) hB)
        clear hr hB hk6 H6 HB5
        go_wp2_with fail
        refine HM6.out.mono ?_
        rintro e w7 ⟨rfl, hb7⟩
        have hB := HR6.out.2.below hb7 HR6.out.2.lt
        have d0 : w7.cell? ⟨w.heap.size, 0, none⟩ = some (.int .u8 (o.k : Int)) := hB.cell 0
        have d1 : w7.cell? ⟨w.heap.size, 1, none⟩ = some (.int .i64 o.tag) := hB.cell 1
        have d2 : w7.cell? ⟨w.heap.size, 2, none⟩ = some (.slice A n c) := by rw [← HN.out.1]; exact hB.cell 2
        have d3 : w7.cell? ⟨w.heap.size, 3, none⟩ = some (.string (str o.t)) := hB.cell 3
        have HR7 := Lib.hid (And.intro (HR6.out.1.below hb7).1 hB)
        have HS7 := Lib.hid (HSZ.out w7)
        clear hB hb7 HM6 HR6
        go_wp2_with fail
        refine HS7.out.mono ?_
        rintro e w8 ⟨rfl, hb8⟩
        have hB := HR7.out.2.below hb8 HR7.out.2.lt
        have hr8 := (HR7.out.1.below hb8).1
        have h9 := get_hr hr8 1 (WalkArith.wf_i64 (by omega))
        rw [Fl.get2, Fl.ob2'] at h9
        have H9 := Lib.hid h9
        have HR8 := Lib.hid (And.intro hr8 hB)
        clear hb8 hr8 hB h9 HS7 HR7 d0 d1 d2 d3
        go_wp2_with fail
        refine H9.out.mono ?_
        rintro e w9 ⟨v, G, gc, rfl, hob, hb9⟩
        obtain ⟨rfl, hrg⟩ := hob
        dsimp only [Option.isSome]
        rw [HN.out.1] at hrg
        rw [HN.out.1]
        obtain ⟨wa, hwa⟩ : ∃ wa, w9.alloc (.cells #[.int .u8 (o.k : Int), .int .i64 o.tag, .slice G n gc, .string (str o.t)] 35) = wa := ⟨_, rfl⟩
        have hba : Below w9.heap.size w9 wa := by rw [← hwa]; exact (Below.refl _ _).alloc (Nat.le_refl _) _
        have hBa : Blk wa w9.heap.size 35 #[.int .u8 (o.k : Int), .int .i64 o.tag, .slice G n gc, .string (str o.t)] := by rw [← hwa]; exact Blk.new _ _ _
        have hb8a := hb9.trans (hba.mono hb9.size)
        have hra := (HR8.out.1.below hb8a).1
        have hB := HR8.out.2.below hb8a HR8.out.2.lt
        have d0 : wa.cell? ⟨w.heap.size, 0, none⟩ = some (.int .u8 (o.k : Int)) := hB.cell 0
        have d1 : wa.cell? ⟨w.heap.size, 1, none⟩ = some (.int .i64 o.tag) := hB.cell 1
        have d2 : wa.cell? ⟨w.heap.size, 2, none⟩ = some (.slice A n c) := by rw [← HN.out.1]; exact hB.cell 2
        have d3 : wa.cell? ⟨w.heap.size, 3, none⟩ = some (.string (str o.t)) := hB.cell 3
        have y0 := hBa.cell 0
        have y1 := hBa.cell 1
        have y2 := hBa.cell 2
        have y3 := hBa.cell 3
        simp only [List.getElem?_toArray, List.getElem?_cons_zero, List.getElem?_cons_succ] at y0 y1 y2 y3
        have ho := oid_hr hra 1 (WalkArith.wf_i64 (by omega))
        rw [Fl.oid2] at ho
        have HO : Hid (Calls Try.prog 31 #[.pointer (some ⟨g, 0, none⟩), .int .i64 1] wa fun e w' => e = .returned (.tuple #[.int .i64 (x : Int), .bool true]) ∧ wa = w') := Lib.hid ho
        have HSA : Hid (Calls Try.prog 33 #[.agg #[.int .u8 (o.k : Int), .int .i64 o.tag, .slice G n gc, .string (str o.t)], .agg #[.int .u8 (o.k : Int), .int .i64 o.tag, .slice A n c, .string (str o.t)]] wa fun e w' => e = .returned (.bool true) ∧ Below wa.heap.size wa w') := Lib.hid (by
          have := same_ok o G A gc c wa (hrg.words.below hba) (HA.out.1.below hra.bel) (by rw [HN.out.1]; exact hno)
          rw [HN.out.1] at this
          exact this)
        have HRA := Lib.hid (And.intro hra hB)
        clear hba hBa hb8a hra hB hrg hb9 ho H9 HR8
        go_wp2_with fail
        refine HO.out.mono ?_
        rintro e v1 ⟨rfl, rfl⟩
        go_wp2_with fail
        refine HSA.out.mono ?_
        rintro e wb ⟨rfl, hbb⟩
        have hrb := (HRA.out.1.below hbb).1
        have hB := HRA.out.2.below hbb HRA.out.2.lt
        have hdr := dirty_hr hrb (by omega)
        rw [Fl.dr2] at hdr
        have HDR := Lib.hid hdr
        have HRB := Lib.hid (And.intro hrb hB)
        clear hbb hrb hB hdr HSA HRA d0 d1 d2 d3 y0 y1 y2 y3
        go_wp2_with fail
        refine HDR.out.mono ?_
        rintro e wc ⟨D, dc, rfl, _, _, hbc⟩
        dsimp only [List.length_nil]
        have hrc := (HRB.out.1.below hbc).1
        have hB := HRB.out.2.below hbc HRB.out.2.lt
        have d0 : wc.cell? ⟨w.heap.size, 0, none⟩ = some (.int .u8 (o.k : Int)) := hB.cell 0
        have d1 : wc.cell? ⟨w.heap.size, 1, none⟩ = some (.int .i64 o.tag) := hB.cell 1
        have d2 : wc.cell? ⟨w.heap.size, 2, none⟩ = some (.slice A n c) := by rw [← HN.out.1]; exact hB.cell 2
        have d3 : wc.cell? ⟨w.heap.size, 3, none⟩ = some (.string (str o.t)) := hB.cell 3
        have h10 := fill_hr_err hrc 1 (WalkArith.wf_i64 (by omega)) o A c (.inr ⟨_, Fl.ob2' _ _ _, HMK.out.2.2.2⟩)
        rw [show (fillF (Fl.s2 (1 + rm) x o) 1 o).2 = 3 by unfold fillF; rw [Fl.ob2']; dsimp only; rw [if_pos HMK.out.2.2.2]] at h10
        have H10 : Hid (Calls Try.prog 37 #[.pointer (some ⟨g, 0, none⟩), .int .i64 1, .agg #[.int .u8 (o.k : Int), .int .i64 o.tag, .slice A n c, .string (str o.t)]] wc fun e w' => e = .returned (.int .i64 3) ∧ HR w w' (fun k => k = w.heap.size) g 6 (Fl.s2 (1 + rm) x o) ∧ Keep (fun k => k = w.heap.size) wc w') := Lib.hid (by rw [← HN.out.1]; exact h10)
        have HBC := Lib.hid hB
        clear hbc hrc hB h10 HDR HRB
        go_wp2_with fail
        refine H10.out.mono ?_
        rintro e wd ⟨rfl, hrd, hkd⟩
        have hB := HBC.out.same (hkd.at_ _ rfl)
        have d0 : wd.cell? ⟨w.heap.size, 0, none⟩ = some (.int .u8 (o.k : Int)) := hB.cell 0
        have d2 : wd.cell? ⟨w.heap.size, 2, none⟩ = some (.slice A n c) := by rw [← HN.out.1]; exact hB.cell 2
        have HNU := Lib.hid (number_any 3 wd)
        have HRD := Lib.hid hrd
        have hset : (setsO o = true ∧ 0 < n) ∨ (setsO o = false ∨ n = 0) := by
          cases hs : setsO o
          · exact .inr (.inl rfl)
          · by_cases h0 : n = 0
            · exact .inr (.inr h0)
            · exact .inl ⟨rfl, by omega⟩
        have hso : setsO o = (decide (o.k = 3) || decide (o.k = 4)) := rfl
        clear hkd hB hrd H10 HBC d1 d3
        rcases hset with ⟨hs, h0⟩ | hs
        · have HSET : Hid (∀ W, Below wd.heap.size wd W → Calls Try.prog 40 #[.pointer (some ⟨g, 0, none⟩), .int .i64 1, .int .i64 0, .agg #[.int .u8 1, .int .i64 3]] W fun e w' => e = .returned (.bool true) ∧ HR w w' (fun k => k = w.heap.size) g 8 (Fl.s3 (1 + rm) x o) ∧ Keep (fun k => k = w.heap.size) W w') := Lib.hid fun W hW => by
            have := set_hr (HRD.out.below hW).1 1 0 ⟨1, 3⟩ ⟨by show 1 < 256; omega, by show (-9223372036854775808 : Int) ≤ 3; omega, by show (3 : Int) < 9223372036854775808; omega⟩ (WalkArith.wf_i64 (by omega))
            rw [Fl.set2 hs (by rw [HN.out.1]; exact h0)] at this
            exact this
          have hn0 : decide ((n : Int) > 0) = true := by simp; omega
          rw [hso] at hs
          obtain ⟨kk, hkk⟩ : ∃ kk, o.k = kk := ⟨_, rfl⟩
          rw [hkk] at d0 hs
          have hkc : kk = 3 ∨ kk = 4 := by simpa using hs
          clear hs hso hkk
          rcases hkc with rfl | rfl
          all_goals
            go_wp2_with fail
            refine HNU.out.mono ?_
            rintro e we ⟨rfl, hbe⟩
            have HSE := Lib.hid (HSET.out we hbe)
            clear hbe
            go_wp2_with fail
            refine HSE.out.mono ?_
            rintro e wf ⟨rfl, hrf, _⟩
            have hdr := dirty_hr hrf (by omega)
            rw [Fl.dr3] at hdr
            have HDR := Lib.hid hdr
            have HRF := Lib.hid hrf.bel
            clear hdr hrf HSE
            go_wp2_with fail
            refine HDR.out.mono ?_
            rintro e wg ⟨D, dc, rfl, _, _, hbg⟩
            dsimp only [List.length_cons, List.length_nil]
            have hbw := HRF.out.trans (hbg.mono HRF.out.size)
            have HW := Lib.hid (works_any wg)
            have HB := Lib.hid hbw
            clear hbg hbw HDR
            go_wp2_with fail
            refine HW.out.mono ?_
            rintro e wh ⟨rfl, hbh⟩
            have HB2 := Lib.hid (HB.out.trans (hbh.mono HB.out.size))
            clear hbh
            go_wp2_with fail
            go_ret
            exact ⟨rfl, HB2.out⟩
        · have HSET : Hid (∀ W, Below wd.heap.size wd W → Calls Try.prog 40 #[.pointer (some ⟨g, 0, none⟩), .int .i64 1, .int .i64 0, .agg #[.int .u8 1, .int .i64 3]] W fun e w' => e = .returned (.bool false) ∧ HR w w' (fun k => k = w.heap.size) g 8 (Fl.s2 (1 + rm) x o) ∧ Keep (fun k => k = w.heap.size) W w') := Lib.hid fun W hW => by
            have := set_hr (HRD.out.below hW).1 1 0 ⟨1, 3⟩ ⟨by show 1 < 256; omega, by show (-9223372036854775808 : Int) ≤ 3; omega, by show (3 : Int) < 9223372036854775808; omega⟩ (WalkArith.wf_i64 (by omega))
            rw [Fl.set2n (by rw [HN.out.1]; exact hs)] at this
            exact this
          have hkc : n = 0 ∨ (o.k ≠ 3 ∧ o.k ≠ 4) := by
            rcases hs with hs | hs
            · rw [hso] at hs
              exact .inr (by simpa using hs)
            · exact .inl hs
          obtain ⟨kk, hkk⟩ : ∃ kk, o.k = kk := ⟨_, rfl⟩
          rw [hkk] at d0 hkc
          clear hs hso hkk
          have hkd : ((kk = 3 ∨ kk = 4) ∧ n = 0) ∨ (kk ≠ 3 ∧ kk ≠ 4) := by omega
          clear hkc
          rcases hkd with ⟨rfl | rfl, h0⟩ | hk34
          · have hn0 : decide ((n : Int) > 0) = false := by simp; omega
            go_wp2_with fail
            refine HNU.out.mono ?_
            rintro e we ⟨rfl, hbe⟩
            have HSE := Lib.hid (HSET.out we hbe)
            clear hbe
            go_wp2_with fail
            refine HSE.out.mono ?_
            rintro e wf ⟨rfl, hrf, _⟩
            have hdr := dirty_hr hrf (by omega)
            rw [Fl.dr2] at hdr
            have HDR := Lib.hid hdr
            have HRF := Lib.hid hrf.bel
            clear hdr hrf HSE
            go_wp2_with fail
            refine HDR.out.mono ?_
            rintro e wg ⟨D, dc, rfl, _, _, hbg⟩
            dsimp only [List.length_nil]
            have hbw := HRF.out.trans (hbg.mono HRF.out.size)
            have HW := Lib.hid (works_any wg)
            have HB := Lib.hid hbw
            clear hbg hbw HDR
            go_wp2_with fail
            refine HW.out.mono ?_
            rintro e wh ⟨rfl, hbh⟩
            have HB2 := Lib.hid (HB.out.trans (hbh.mono HB.out.size))
            clear hbh
            go_wp2_with fail
            go_ret
            exact ⟨rfl, HB2.out⟩
          · have hn0 : decide ((n : Int) > 0) = false := by simp; omega
            go_wp2_with fail
            refine HNU.out.mono ?_
            rintro e we ⟨rfl, hbe⟩
            have HSE := Lib.hid (HSET.out we hbe)
            clear hbe
            go_wp2_with fail
            refine HSE.out.mono ?_
            rintro e wf ⟨rfl, hrf, _⟩
            have hdr := dirty_hr hrf (by omega)
            rw [Fl.dr2] at hdr
            have HDR := Lib.hid hdr
            have HRF := Lib.hid hrf.bel
            clear hdr hrf HSE
            go_wp2_with fail
            refine HDR.out.mono ?_
            rintro e wg ⟨D, dc, rfl, _, _, hbg⟩
            dsimp only [List.length_nil]
            have hbw := HRF.out.trans (hbg.mono HRF.out.size)
            have HW := Lib.hid (works_any wg)
            have HB := Lib.hid hbw
            clear hbg hbw HDR
            go_wp2_with fail
            refine HW.out.mono ?_
            rintro e wh ⟨rfl, hbh⟩
            have HB2 := Lib.hid (HB.out.trans (hbh.mono HB.out.size))
            clear hbh
            go_wp2_with fail
            go_ret
            exact ⟨rfl, HB2.out⟩
          · have e3 : ((kk : Int) == 3) = false := by simp; omega
            have e4 : ((kk : Int) == 4) = false := by simp; omega
            clear hk34
            go_wp2_with fail
            refine HNU.out.mono ?_
            rintro e we ⟨rfl, hbe⟩
            have HSE := Lib.hid (HSET.out we hbe)
            clear hbe
            go_wp2_with fail
            refine HSE.out.mono ?_
            rintro e wf ⟨rfl, hrf, _⟩
            have hdr := dirty_hr hrf (by omega)
            rw [Fl.dr2] at hdr
            have HDR := Lib.hid hdr
            have HRF := Lib.hid hrf.bel
            clear hdr hrf HSE
            go_wp2_with fail
            refine HDR.out.mono ?_
            rintro e wg ⟨D, dc, rfl, _, _, hbg⟩
            dsimp only [List.length_nil]
            have hbw := HRF.out.trans (hbg.mono HRF.out.size)
            have HW := Lib.hid (works_any wg)
            have HB := Lib.hid hbw
            clear hbg hbw HDR
            go_wp2_with fail
            refine HW.out.mono ?_
            rintro e wh ⟨rfl, hbh⟩
            have HB2 := Lib.hid (HB.out.trans (hbh.mono HB.out.size))
            clear hbh
            go_wp2_with fail
            go_ret
            exact ⟨rfl, HB2.out⟩
end Go.Proofs.Ytclkkfffecmjnaa
