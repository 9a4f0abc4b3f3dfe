/- token: first. -/
import Derived.Test.YtdnmdccjecoojaaDoorN
namespace Go.Proofs.YtdnmdccjecoojaaDoor
open Go.RowKit Tok
namespace Tok
theorem find_at {α : Type} {p : α → Bool} : ∀ {L : List α} {k : Nat} {x : α}, (∀ j y, j < k → L[j]? = some y → p y = false) → L[k]? = some x → p x = true → L.find? p = some x
  | [], k, x, _, h, _ => by simp at h
  | a :: l, 0, x, _, h, hp => by
    simp at h
    subst h
    simp [List.find?, hp]
  | a :: l, k + 1, x, hn, h, hp => by
    have ha := hn 0 a (by omega) rfl
    simp only [List.find?, ha]
    exact find_at (k := k) (fun j y hj hy => hn (j + 1) y (by omega) (by simpa using hy)) (by simpa using h) hp
theorem find_no {α : Type} {p : α → Bool} : ∀ {L : List α}, (∀ (j : Nat) y, L[j]? = some y → p y = false) → L.find? p = none
  | [], _ => rfl
  | a :: l, hn => by
    have ha := hn 0 a rfl
    simp only [List.find?, ha]
    exact find_no fun j y hy => hn (j + 1) y (by simpa using hy)
theorem take_tw (p : UInt8 → Bool) : ∀ s : List UInt8, s.take (s.takeWhile p).length = s.takeWhile p
  | [] => rfl
  | a :: l => by
    simp only [List.takeWhile]
    split
    · simp [take_tw p l]
    · rfl
theorem tw_all {p : UInt8 → Bool} : ∀ {s : List UInt8} {x : UInt8}, x ∈ s.takeWhile p → p x = true
  | [], _, h => by simp at h
  | a :: l, x, h => by
    simp only [List.takeWhile] at h
    split at h
    · rename_i ha
      rcases List.mem_cons.1 h with rfl | h
      · exact ha
      · exact tw_all h
    · simp at h
theorem prt_head {s : List UInt8} {c : UInt8} (h : s[0]? = some c) (hc : partB c = true) : 1 ≤ prtN s := by
  cases s with
  | nil => simp at h
  | cons a l =>
    simp at h
    subst h
    simp [prtN, List.takeWhile, hc]
theorem head_at {s : List UInt8} {c : UInt8} (h : s[0]? = some c) : s.headD 0 = c := by cases s with | nil => simp at h | cons a r => simpa using h
theorem prt_le (s : List UInt8) : prtN s ≤ s.length := tw_le _ _
theorem take_head {s : List UInt8} {c : UInt8} {n : Nat} (h : s[0]? = some c) (hn : 1 ≤ n) : (s.take n)[0]? = some c := by rw [List.getElem?_take_of_lt (by omega)]; exact h
end Tok
theorem nameN_X {s : List UInt8} {c : UInt8} (h : s[0]? = some c) (hc : partB c = true) : nameN s = nameX (s.take (prtN s)) := by
  have h1 := prt_head h hc
  have hl : (s.take (prtN s)).length = prtN s := by rw [List.length_take]; have := prt_le s; omega
  unfold nameN nameX
  rw [hl, head_at h, head_at (take_head h h1)]
theorem tickN_X {s : List UInt8} (h : 1 ≤ s.length) : tickN s = tickX (s.take (1 + prtN (s.drop 1))) := by
  have hr := prt_le (s.drop 1)
  rw [List.length_drop] at hr
  have hl : (s.take (1 + prtN (s.drop 1))).length = 1 + prtN (s.drop 1) := by rw [List.length_take]; omega
  unfold tickN tickX
  rw [hl]
  by_cases h0 : prtN (s.drop 1) = 0
  · rw [if_pos (.inl h0), if_pos (.inl (by omega))]
  · have hg : (s.take (1 + prtN (s.drop 1))).getD 1 0 = s.getD 1 0 := by
      rw [List.getD_eq_getElem?_getD, List.getD_eq_getElem?_getD, List.getElem?_take_of_lt (by omega)]
    rw [hg]
    by_cases hp : 32 < prtN (s.drop 1) ∨ smallB (s.getD 1 0) = false
    · rw [if_pos (.inr hp), if_pos (by rcases hp with hp | hp; exact .inr (.inl (by omega)); exact .inr (.inr hp))]
    · rw [if_neg (fun h => by rcases h with h | h; exact h0 h; exact hp h), if_neg (fun h => by rcases h with h | h | h; omega; exact hp (.inl (by omega)); exact hp (.inr h))]
theorem numN_X (s : List UInt8) : numN s = numX (s.take (s.takeWhile digitB).length) := by rw [take_tw]; rfl
theorem run_drop1 (s : List UInt8) (n : Nat) (h : s.length = n) : (str s).extract 1 n = str (s.drop 1) := str_suf h 1
set_option maxHeartbeats 2000000 in
theorem first_any (s : List UInt8) (c : UInt8) (w : World) (hc : s[0]? = some c) (hb : s.length < 4294967296) (hT : Tabs w) :
    Calls Tryd.prog 23 #[.string (str s)] w (OneP (oneN s) w) := by
  obtain ⟨n, hn⟩ : ∃ n, s.length = n := ⟨_, rfl⟩
  have h0 : 0 < n := by have := (List.getElem?_eq_some_iff.1 hc).1; omega
  have hsz := str_sizeN hn
  have hcc := str_at0 hc (by rw [hsz]; exact h0)
  obtain ⟨w0, hw0⟩ : ∃ w0, w.alloc (.cells #[.int .u8 0, .string ⟨#[]⟩, .int .i64 0, .int .i64 0] 34) = w0 := ⟨_, rfl⟩
  have hR0 : Blk w0 w.heap.size 34 #[.int .u8 0, .string ⟨#[]⟩, .int .i64 0, .int .i64 0] := by rw [← hw0]; exact Blk.new _ _ _
  have hb0 : Below w.heap.size w w0 := by rw [← hw0]; exact (Below.refl _ _).alloc (Nat.le_refl _) _
  have hT0 := hT.below hb0
  have HR0 := Lib.hid hR0
  have HB0 := Lib.hid hb0
  obtain ⟨r0, r1, r2, r3, f0⟩ := hR0.told4
  have hON : oneN s = if smallB c || greatB c then nameN s else if c = 39 then tickN s else if digitB c then numN s else if c = 34 then strN s else signN s := by unfold oneN; rw [head_at hc]
  have H1 := small_any c w0
  have H2 := great_any c w0
  have H3 := digit_any c w0
  obtain ⟨p1, hp1⟩ : ∃ p, smallB c = p := ⟨_, rfl⟩
  obtain ⟨p2, hp2⟩ : ∃ p, greatB c = p := ⟨_, rfl⟩
  obtain ⟨p3, hp3⟩ : ∃ p, digitB c = p := ⟨_, rfl⟩
  rw [hp1, hp2, hp3] at hON
  rw [hp1] at H1
  rw [hp2] at H2
  rw [hp3] at H3
  unfold bv at H1 H2 H3
  have H1 := Lib.hid H1
  have H2 := Lib.hid H2
  have H3 := Lib.hid H3
  have HN := Lib.hid hn
  have HC := Lib.hid hc
  have HON := Lib.hid hON
  have HT0 := Lib.hid hT0
  clear hR0 hb0 hT hT0 hc hON
  by_cases hsg : (p1 || p2) = true
  · have hpart : partB c = true := by
      unfold partB; rw [hp1, hp2]
      cases p1 <;> cases p2 <;> simp_all
    have HX : Hid (oneN s = nameX (s.take (prtN s))) := Lib.hid (by rw [HON.out, if_pos hsg, nameN_X HC.out hpart])
    have h1 := prt_head HC.out hpart
    have hrl := prt_le s
    rw [HN.out] at hrl
    have H4 := Lib.hid (show Calls Tryd.prog 35 #[.string (str s)] w0 fun e w' => e = .returned (.int .i64 (prtN s : Int)) ∧ w0 = w' from parts_any s w0 hb)
    obtain ⟨r, hr⟩ : ∃ r, prtN s = r := ⟨_, rfl⟩
    rw [hr] at HX H4 h1 hrl
    have H5 := Lib.hid (name_any (s.take r) c w0 (take_head HC.out h1) (by rw [List.length_take]; omega) HT0.out)
    have hex := str_pre s r
    clear hp1 hp2 hp3 hpart hr HON
    go_enter Tryd.func23, Tryd.ntmps23
    cases p1 <;> cases p2
    all_goals first
      | (exact absurd hsg (by decide))
      | (clear hsg
         go_wp2_with (first
           | (go_at_call 32; refine Calls.mono H1.out ?_; rintro e w' ⟨rfl, rfl⟩)
           | (go_at_call 33; refine Calls.mono H2.out ?_; rintro e w' ⟨rfl, rfl⟩)
           | (go_at_call 35; refine Calls.mono H4.out ?_; rintro e w' ⟨rfl, rfl⟩))
         refine H5.out.mono ?_
         rintro e w1 ⟨hb1, t, m, rfl, hor⟩
         have HR1 := Lib.hid (HR0.out.below hb1 HR0.out.lt)
         obtain ⟨g0, g1, g2, g3, fg⟩ := HR1.out.told4
         have HB1 := Lib.hid (HB0.out.trans (hb1.mono HB0.out.size))
         have HOR := Lib.hid hor
         simp only [tkV, tkC, bv]
         clear hb1 hor
         go_wp2_with fail
         refine bodyPost_ret (results_cell_row2 rfl _ _ w.heap.size 34 _ (0, 0) _ rfl HR1.out.put4 Tryd.underlying34 rfl infoTk) rfl ?_
         exact ⟨below_put4 HB1.out (Nat.le_refl _), t, m, rfl, by rw [HX.out]; exact HOR.out⟩)
  · obtain ⟨rfl, rfl⟩ : p1 = false ∧ p2 = false := by cases p1 <;> cases p2 <;> simp_all
    have hON := HON.out
    rw [if_neg (by decide)] at hON
    by_cases h39 : c.toNat = 39
    · have e39 : ((c.toNat : Int) == 39) = true := by simp; omega
      have hX : oneN s = tickX (s.take (1 + prtN (s.drop 1))) := by rw [hON, if_pos (u8_of 39 rfl h39), tickN_X (by rw [HN.out]; exact h0)]
      have hrl := prt_le (s.drop 1)
      rw [List.length_drop, HN.out] at hrl
      have H4 := Lib.hid (show Calls Tryd.prog 35 #[.string (str (s.drop 1))] w0 fun e w' => e = .returned (.int .i64 (prtN (s.drop 1) : Int)) ∧ w0 = w' from parts_any (s.drop 1) w0 (by rw [List.length_drop]; omega))
      obtain ⟨r, hr⟩ : ∃ r, prtN (s.drop 1) = r := ⟨_, rfl⟩
      rw [hr] at hX H4 hrl
      clear hr
      obtain ⟨r1', hr1⟩ : ∃ r1, 1 + r = r1 := ⟨_, rfl⟩
      have hri : (1 : Int) + (r : Int) = (r1' : Int) := by omega
      have hrb : r < 4294967296 := by omega
      have hri2 : (r : Int) + 1 = (r1' : Int) := by omega
      have hrn : r1' ≤ n := by omega
      rw [hr1] at hX
      have HX := Lib.hid hX
      have H5 := Lib.hid (tick_any (s.take r1') w0 (by rw [List.length_take]; omega))
      have hex := str_pre s r1'
      have hex1 := run_drop1 s n HN.out
      obtain ⟨s1, hs1⟩ : ∃ s1, s.drop 1 = s1 := ⟨_, rfl⟩
      rw [hs1] at hex1 H4
      clear hs1
      clear hp1 hp2 hp3 hX hON HON hsg h39 hr1
      go_enter Tryd.func23, Tryd.ntmps23
      go_wp2_with (first
           | (go_at_call 32; refine Calls.mono H1.out ?_; rintro e w' ⟨rfl, rfl⟩)
           | (go_at_call 33; refine Calls.mono H2.out ?_; rintro e w' ⟨rfl, rfl⟩)
           | (go_at_call 35; refine Calls.mono H4.out ?_; rintro e w' ⟨rfl, rfl⟩))
      refine H5.out.mono ?_
      rintro e w1 ⟨hb1, t, m, rfl, hor⟩
      have HR1 := Lib.hid (HR0.out.below hb1 HR0.out.lt)
      obtain ⟨g0, g1, g2, g3, fg⟩ := HR1.out.told4
      have HB1 := Lib.hid (HB0.out.trans (hb1.mono HB0.out.size))
      have HOR := Lib.hid hor
      simp only [tkV, tkC, bv]
      clear hb1 hor
      go_wp2_with fail
      refine bodyPost_ret (results_cell_row2 rfl _ _ w.heap.size 34 _ (0, 0) _ rfl HR1.out.put4 Tryd.underlying34 rfl infoTk) rfl ?_
      exact ⟨below_put4 HB1.out (Nat.le_refl _), t, m, rfl, by rw [HX.out]; exact HOR.out⟩
    · have e39 : ((c.toNat : Int) == 39) = false := by simp; omega
      rw [if_neg (u8_ne (n := 39) 39 rfl h39)] at hON
      cases p3 with
      | true =>
        rw [if_pos rfl, numN_X] at hON
        have hrl := tw_le digitB s
        rw [HN.out] at hrl
        have hdg : ∀ x ∈ s.take (s.takeWhile digitB).length, digitB x = true := fun x hx => by
          rw [take_tw] at hx
          exact tw_all hx
        have H4 := Lib.hid (digits_any s w0 hb)
        obtain ⟨r, hr⟩ : ∃ r, (s.takeWhile digitB).length = r := ⟨_, rfl⟩
        rw [hr] at hON H4 hrl hdg
        have HX := Lib.hid hON
        have H5 := Lib.hid (number_any (s.take r) w0 (by rw [List.length_take]; omega) hdg)
        have hex := str_pre s r
        clear hp1 hp2 hp3 hr hON HON hsg h39 hdg
        go_enter Tryd.func23, Tryd.ntmps23
        go_wp2_with (first
           | (go_at_call 32; refine Calls.mono H1.out ?_; rintro e w' ⟨rfl, rfl⟩)
           | (go_at_call 33; refine Calls.mono H2.out ?_; rintro e w' ⟨rfl, rfl⟩)
           | (go_at_call 37; refine Calls.mono H3.out ?_; rintro e w' ⟨rfl, rfl⟩)
           | (go_at_call 39; refine Calls.mono H4.out ?_; rintro e w' ⟨rfl, rfl⟩))
        refine H5.out.mono ?_
        rintro e w1 ⟨hb1, t, m, rfl, hor⟩
        have HR1 := Lib.hid (HR0.out.below hb1 HR0.out.lt)
        obtain ⟨g0, g1, g2, g3, fg⟩ := HR1.out.told4
        have HB1 := Lib.hid (HB0.out.trans (hb1.mono HB0.out.size))
        have HOR := Lib.hid hor
        simp only [tkV, tkC, bv]
        clear hb1 hor
        go_wp2_with fail
        refine bodyPost_ret (results_cell_row2 rfl _ _ w.heap.size 34 _ (0, 0) _ rfl HR1.out.put4 Tryd.underlying34 rfl infoTk) rfl ?_
        exact ⟨below_put4 HB1.out (Nat.le_refl _), t, m, rfl, by rw [HX.out]; exact HOR.out⟩
      | false =>
        rw [if_neg (by decide)] at hON
        by_cases h34 : c.toNat = 34
        · have e34 : ((c.toNat : Int) == 34) = true := by simp; omega
          rw [if_pos (u8_of 34 rfl h34)] at hON
          have HX := Lib.hid hON
          have H5 := Lib.hid (str_any s w0 (by rw [HN.out]; omega) (by rw [HN.out]; exact h0))
          clear hp1 hp2 hp3 hON HON hsg h39 h34
          go_enter Tryd.func23, Tryd.ntmps23
          go_wp2_with (first
           | (go_at_call 32; refine Calls.mono H1.out ?_; rintro e w' ⟨rfl, rfl⟩)
           | (go_at_call 33; refine Calls.mono H2.out ?_; rintro e w' ⟨rfl, rfl⟩)
           | (go_at_call 37; refine Calls.mono H3.out ?_; rintro e w' ⟨rfl, rfl⟩))
          refine H5.out.mono ?_
          rintro e w1 ⟨hb1, t, m, rfl, hor⟩
          have HR1 := Lib.hid (HR0.out.below hb1 HR0.out.lt)
          obtain ⟨g0, g1, g2, g3, fg⟩ := HR1.out.told4
          have HB1 := Lib.hid (HB0.out.trans (hb1.mono HB0.out.size))
          have HOR := Lib.hid hor
          simp only [tkV, tkC, bv]
          clear hb1 hor
          go_wp2_with fail
          refine bodyPost_ret (results_cell_row2 rfl _ _ w.heap.size 34 _ (0, 0) _ rfl HR1.out.put4 Tryd.underlying34 rfl infoTk) rfl ?_
          exact ⟨below_put4 HB1.out (Nat.le_refl _), t, m, rfl, by rw [HX.out]; exact HOR.out⟩
        · have e34 : ((c.toNat : Int) == 34) = false := by simp; omega
          rw [if_neg (u8_ne (n := 34) 34 rfl h34)] at hON
          have HX := Lib.hid hON
          obtain ⟨_, ⟨t, fr, hg⟩⟩ := HT0.out
          obtain ⟨Z, hZ⟩ : ∃ Z, rowS signsL = Z := ⟨_, rfl⟩
          have hzs : Z.size = 22 := by rw [← hZ, rowS_size]; rfl
          rw [hZ] at hg
          have HG := Lib.hid hg
          have HZ := Lib.hid hzs
          have HI : Hid (∀ (k : Nat) (x : List UInt8), signsL[k]? = some x → (Instr.index 45 (.agg Z) (.int .i64 (k : Int))).run Tryd.prog w0 = .ok (.string (str x)) w0) := Lib.hid (fun k x hx => run_idx rfl hx Z hZ w0)
          have HBG : Hid (∀ x : List UInt8, Calls Tryd.prog 30 #[.string (str s), .string (str x)] w0 fun e w' => e = .returned (.bool (s.take x.length == x)) ∧ w0 = w') := Lib.hid (fun x => begins_any s x w0)
          clear hp1 hp2 hp3 hON HON hsg h39 h34 hg hzs hZ
          go_enter Tryd.func23, Tryd.ntmps23
          go_wp2_with (first
           | (go_at_call 32; refine Calls.mono H1.out ?_; rintro e w' ⟨rfl, rfl⟩)
           | (go_at_call 33; refine Calls.mono H2.out ?_; rintro e w' ⟨rfl, rfl⟩)
           | (go_at_call 37; refine Calls.mono H3.out ?_; rintro e w' ⟨rfl, rfl⟩)
           | (refine wpList_load_row rfl 45 (.global 1) rfl 1 rfl _ Z _ _ HG.out Tryd.underlying45 rfl (by rw [HZ.out]; exact info22) ?_))
          go_loopw [6, 53] (fun _ iv wr => ∃ k : Nat, k ≤ 22 ∧ iv = .int .i64 (k : Int) ∧ wr = w0 ∧ Hid (∀ j x, j < k → signsL[j]? = some x → (s.take x.length == x) = false)) (fun _ iv _ => 22 - (intOf iv).toNat)
          case atStart => exact ⟨0, Nat.zero_le _, rfl, rfl, Lib.hid fun j x hj => by omega⟩
          case round =>
            obtain ⟨k, hk, rfl, hw, hI⟩ := hrel
            obtain rfl : w0 = _ := hw.symm
            by_cases hlt : k < 22
            · have hd : decide ((k : Int) < 22) = true := by simp; omega
              obtain ⟨x, hx⟩ : ∃ x, signsL[k]? = some x := ⟨_, List.getElem?_eq_getElem hlt⟩
              have hi := HI.out k x hx
              have H6 := HBG.out x
              obtain ⟨p, hp⟩ : ∃ p, (s.take x.length == x) = p := ⟨_, rfl⟩
              rw [hp] at H6
              have H6 := Lib.hid H6
              have hxs := str_size x
              cases p with
              | true =>
                have HY : Hid (oneN s = some (⟨7, x, 0⟩, x.length)) := Lib.hid (by
                  rw [HX.out]; unfold signN
                  rw [find_at (p := fun x => s.take x.length == x) (fun j y hj hy => hI.out j y hj hy) hx hp]; rfl)
                obtain ⟨xl, hxl⟩ : ∃ xl, x.length = xl := ⟨_, rfl⟩
                rw [hxl] at hxs HY
                clear hI hx hp hxl
                go_wp2_with (go_at_call 30; refine Calls.mono H6.out ?_; rintro e w' ⟨rfl, rfl⟩)
                refine bodyPost_ret (results_cell_row2 rfl _ _ w.heap.size 34 _ (0, 0) _ rfl HR0.out.put4 Tryd.underlying34 rfl infoTk) rfl ?_
                exact ⟨below_put4 HB0.out (Nat.le_refl _), ⟨7, x, 0⟩, xl, rfl, .inr HY.out⟩
              | false =>
                have hI2 : Hid (∀ j x, j < k + 1 → signsL[j]? = some x → (s.take x.length == x) = false) := Lib.hid fun j y hj hy => by
                  by_cases e : j = k
                  · subst e
                    rw [hx] at hy
                    cases hy
                    exact hp
                  · exact hI.out j y (by omega) hy
                clear hI hx hp
                go_wp2_with (go_at_call 30; refine Calls.mono H6.out ?_; rintro e w' ⟨rfl, rfl⟩)
                go_roundw
                case rel => exact ⟨k + 1, by omega, by go_num, by trivial, hI2⟩
                case measure => simp [intOf]; omega
            · obtain rfl : 22 = k := by omega
              have hd : decide (((22 : Nat) : Int) < 22) = false := by simp
              have HY : Hid (oneN s = none) := Lib.hid (by
                rw [HX.out]; unfold signN
                rw [find_no (L := signsL) (p := fun x => s.take x.length == x) (fun j y hy => hI.out j y (show j < 22 from (List.getElem?_eq_some_iff.1 hy).1) hy)]; rfl)
              clear hI
              go_wp2_with fail
              refine bodyPost_ret (results_cell_row2 rfl _ _ w.heap.size 34 _ (0, 0) _ rfl HR0.out.put4 Tryd.underlying34 rfl infoTk) rfl ?_
              exact ⟨below_put4 HB0.out (Nat.le_refl _), noTk, 0, rfl, .inl ⟨HY.out, rfl⟩⟩
end Go.Proofs.YtdnmdccjecoojaaDoor
