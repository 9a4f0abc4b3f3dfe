/- The reference's Read. -/
import Derived.Test.YtobfglnopihibaaU
namespace Go.Proofs.Ytobfglnopihibaa
open Go.RowKit Rcd

theorem field_drop (b : List UInt8) (a n : Nat) : fieldOf (b.drop 5) a n = fieldOf b (5 + a) n := by unfold fieldOf; rw [List.drop_drop]

set_option maxRecDepth 20000 in
set_option maxHeartbeats 4000000 in
theorem refread_any (A : Option Addr) (l cap : Nat) (b : List UInt8) (w : World) (hl : b.length = l) (hA : Bytes w A b) (hcap : l ≤ cap) (hcm : cap ≤ maxLen) :
    Calls Try.prog 19 #[.slice A l cap] w (RdP b w) := by
  unfold maxLen at hcm
  have HA := Lib.hid hA
  have HL := Lib.hid hl
  obtain ⟨w0, hw0⟩ : ∃ w0, w.alloc (.cells #[.int .u8 0, .int .i64 0, .slice none 0 0, .string ⟨#[]⟩] 24) = w0 := ⟨_, rfl⟩
  have hR0 : Blk w0 w.heap.size 24 #[.int .u8 0, .int .i64 0, .slice none 0 0, .string ⟨#[]⟩] := by rw [← hw0]; exact Blk.new _ _ _
  have hb0 : Below w.heap.size w w0 := by rw [← hw0]; exact (Below.refl _ _).alloc (Nat.le_refl _) _
  have HR0 := Lib.hid hR0
  have HB0 := Lib.hid hb0
  have r0 : w0.cell? ⟨w.heap.size, 0, none⟩ = some (.int .u8 0) := hR0.cell 0
  have r1 : w0.cell? ⟨w.heap.size, 1, none⟩ = some (.int .i64 0) := hR0.cell 1
  have r2 : w0.cell? ⟨w.heap.size, 2, none⟩ = some (.slice none 0 0) := hR0.cell 2
  have r3 : w0.cell? ⟨w.heap.size, 3, none⟩ = some (.string ⟨#[]⟩) := hR0.cell 3
  have f0 := hR0.frozen
  clear hA hl hR0 hb0
  go_enter Try.func19, Try.ntmps19
  by_cases h5 : l < 5
  · have hd : decide ((l : Int) < 5) = true := by simp; omega
    go_wp2_with fail
    have HB6 : Blk ((((w0.setCell ⟨w.heap.size, 0, none⟩ (.int .u8 0)).setCell ⟨w.heap.size, 1, none⟩ (.int .i64 0)).setCell ⟨w.heap.size, 2, none⟩ (.slice none 0 0)).setCell ⟨w.heap.size, 3, none⟩ (.string ⟨#[]⟩)) w.heap.size 24 #[.int .u8 0, .int .i64 0, .slice none 0 0, .string ⟨#[]⟩] :=
      (((HR0.out.set_ 0 _).set_ 1 _).set_ 2 _).set_ 3 _
    refine bodyPost_ret (results_cell_row2 rfl _ _ w.heap.size 24 _ (0, 0) _ rfl HB6 Try.underlying24 rfl (by kernel_rfl)) rfl ?_
    exact .inl ⟨by unfold readO fitsO; rw [HL.out]; simp; omega, rfl, (((HB0.out.setCell (p := ⟨w.heap.size, 0, none⟩) (Nat.le_refl _) _).setCell (p := ⟨w.heap.size, 1, none⟩) (Nat.le_refl _) _).setCell (p := ⟨w.heap.size, 2, none⟩) (Nat.le_refl _) _).setCell (p := ⟨w.heap.size, 3, none⟩) (Nat.le_refl _) _⟩
  have hd : decide ((l : Int) < 5) = false := by simp; omega
  by_cases h8 : 8192 < l
  · have hd8 : decide ((8192 : Int) < (l : Int)) = true := by simp; omega
    go_wp2_with fail
    have HB6 : Blk ((((w0.setCell ⟨w.heap.size, 0, none⟩ (.int .u8 0)).setCell ⟨w.heap.size, 1, none⟩ (.int .i64 0)).setCell ⟨w.heap.size, 2, none⟩ (.slice none 0 0)).setCell ⟨w.heap.size, 3, none⟩ (.string ⟨#[]⟩)) w.heap.size 24 #[.int .u8 0, .int .i64 0, .slice none 0 0, .string ⟨#[]⟩] :=
      (((HR0.out.set_ 0 _).set_ 1 _).set_ 2 _).set_ 3 _
    refine bodyPost_ret (results_cell_row2 rfl _ _ w.heap.size 24 _ (0, 0) _ rfl HB6 Try.underlying24 rfl (by kernel_rfl)) rfl ?_
    exact .inl ⟨by unfold readO fitsO; rw [HL.out]; simp; omega, rfl, (((HB0.out.setCell (p := ⟨w.heap.size, 0, none⟩) (Nat.le_refl _) _).setCell (p := ⟨w.heap.size, 1, none⟩) (Nat.le_refl _) _).setCell (p := ⟨w.heap.size, 2, none⟩) (Nat.le_refl _) _).setCell (p := ⟨w.heap.size, 3, none⟩) (Nat.le_refl _) _⟩
  have hd8 : decide ((8192 : Int) < (l : Int)) = false := by simp; omega
  have h1 := refget_ok A l cap 1 2 b w0 HL.out rfl (by omega) (by omega) (HA.out.below HB0.out)
  have H1 := Lib.hid h1
  clear h1
  obtain ⟨tg, htg⟩ : ∃ tg, leN (fieldOf b 1 2) = tg := ⟨_, rfl⟩
  rw [htg] at H1
  have HTG := Lib.hid htg
  have htb : tg < 65536 := by have := leN_lt (fieldOf b 1 2); rw [htg, show (fieldOf b 1 2).length = 2 by have := HL.out; unfold fieldOf; simp; omega] at this; omega
  obtain ⟨x0, br, hbr⟩ : ∃ x r, b = x :: r := by
    match hb' : b, HL.out with
    | [], h => simp at h; omega
    | x :: r, _ => exact ⟨x, r, rfl⟩
  obtain ⟨bb, off, rfl, hblt, hcb⟩ := HA.out.at_ (k := 0) (by rw [HL.out]; omega)
  obtain ⟨kn, hkn⟩ : ∃ kn, x0.toNat = kn := ⟨_, rfl⟩
  have HK := Lib.hid hkn
  have cb : w0.cell? ⟨bb, off, none⟩ = some (.int .u8 (kn : Int)) := by
    have := hcb 0 x0 (by rw [hbr]; rfl)
    rw [hkn] at this
    exact (HB0.out.cell (p := ⟨bb, off, none⟩) hblt).trans this
  have HBR := Lib.hid hbr
  have hwt : IntKind.i64.wrap (tg : Int) = tg := IntWalk.i64_in _ (by omega)
  have hc5 : (5 : Int) ≤ (l : Int) := by omega
  have hc6 : (l : Int) ≤ (cap : Int) := by omega
  clear htg hkn hcb hbr r0 r1 r2 r3 f0
  go_wp2_with fail
  refine H1.out.mono ?_
  rintro e w2 ⟨rfl, rfl⟩
  go_upto_if 34 with fail
  obtain ⟨w4, hw4⟩ : ∃ w4, w0.alloc (.cells #[.int .u8 (kn : Int), .int .i64 (tg : Int), .slice none 0 0, .string ⟨#[]⟩] 24) = w4 := ⟨_, rfl⟩
  rw [hw4]
  have hO4 : Blk w4 w0.heap.size 24 #[.int .u8 (kn : Int), .int .i64 (tg : Int), .slice none 0 0, .string ⟨#[]⟩] := by rw [← hw4]; exact Blk.new _ _ _
  have hb04 : Below w0.heap.size w0 w4 := by rw [← hw4]; exact (Below.refl _ _).alloc (Nat.le_refl _) _
  have hbw4 := HB0.out.trans (hb04.mono HB0.out.size)
  have hlo : w.heap.size < w0.heap.size := HR0.out.lt
  have HL4 : Hid (RdL w w4 w0.heap.size kn tg (.slice none 0 0) []) := Lib.hid ⟨WdsZ.nil _ _, fun j hj => (by cases hj), hO4, HR0.out.below hb04 HR0.out.lt, hbw4, hlo⟩
  obtain ⟨nn, hnn⟩ : ∃ nn, (l - 5) / 9 = nn := ⟨_, rfl⟩
  have hk5 : x0 = 5 ↔ kn = 5 := by rw [← HK.out]; exact ⟨fun e => by rw [e]; rfl, fun e => UInt8.toNat_inj.1 (by rw [e]; rfl)⟩
  have hg0 : b.getD 0 0 = x0 := by rw [HBR.out]; rfl
  have HLO : Hid (lenO b = if kn = 5 then ⟨x0, tg, [], b.drop 5⟩ else ⟨x0, tg, wordsOf (b.drop 5) nn, []⟩) := Lib.hid (by unfold lenO; rw [hg0, HTG.out, HL.out, hnn]; simp only [hk5])
  have HBX := Lib.hid (show bv x0 = .int .u8 (kn : Int) by rw [← HK.out]; rfl)
  have HNN : Hid (nn * 9 + 5 ≤ l ∧ l < (nn + 1) * 9 + 5) := Lib.hid (by omega)
  have g0 : w4.cell? ⟨w0.heap.size, 0, none⟩ = some (.int .u8 (kn : Int)) := hO4.cell 0
  have g2 : w4.cell? ⟨w0.heap.size, 2, none⟩ = some (.slice none 0 0) := hO4.cell 2
  have g3 : w4.cell? ⟨w0.heap.size, 3, none⟩ = some (.string ⟨#[]⟩) := hO4.cell 3
  have fO := hO4.frozen
  have hby4 := HA.out.below hbw4
  clear hk5 hg0 hnn hw4 hO4 hb04 H1 cb
  go_cut [7, 8, 9, 34] from 35 to 64 (fun p q r s wx => Hid (RdJ w wx w0.heap.size (lenO b)))
  case first =>
    by_cases hk : kn = 5
    · have hk5 : ((kn : Int) == 5) = true := by simp; omega
      have hlo5 : lenO b = ⟨x0, tg, [], b.drop 5⟩ := by rw [HLO.out, if_pos hk]
      have HLO5 := Lib.hid hlo5
      have HKK := Lib.hid hk
      clear hlo5 hk
      by_cases hcc : cap = 5
      · subst hcc
        obtain rfl : l = 5 := by omega
        have hdr : b.drop 5 = [] := List.drop_eq_nil_of_le (by rw [HL.out]; exact Nat.le_refl _)
        have hss := run_str8L w4 (some ⟨bb, off, none⟩) 0 0 [] rfl (Bytes.nil _ _)
        go_wp2_with fail
        go_meet
        rw [HLO5.out, hdr]
        exact Lib.hid (HL4.out.text HBX.out _)
      · have hby5 : Bytes w4 (some ⟨bb, off + 5, none⟩) (b.drop 5) := fun k c hk' => by
          rw [List.getElem?_drop] at hk'
          obtain ⟨b', off', e, h1, h2⟩ := hby4 _ _ hk'
          cases e
          exact ⟨bb, off + 5, rfl, h1, by rw [Nat.add_assoc]; exact h2⟩
        have hss := run_str8L w4 (some ⟨bb, off + 5, none⟩) (l - 5) (cap - 5) (b.drop 5) (by rw [List.length_drop, HL.out]) hby5
        clear hby5
        go_wp2_with fail
        go_meet
        rw [HLO5.out]
        exact Lib.hid (HL4.out.text HBX.out _)
    · have hk5 : ((kn : Int) == 5) = false := by simp; omega
      have hlon : lenO b = ⟨x0, tg, wordsOf (b.drop 5) nn, []⟩ := by rw [HLO.out, if_neg hk]
      have HLN := Lib.hid hlon
      rw [hk5]
      clear hlon hk g0 g2 g3 fO hbw4 hby4 hk5
      go_wp2_with fail
      go_loopw [7, 8, 9] (fun iv p q wr => ∃ (i : Nat) (sv : Value), i ≤ nn ∧ iv = .int .i64 (5 + (i : Int) * 9) ∧ Hid (RdL w wr w0.heap.size kn tg sv (wordsOf (b.drop 5) i))) (fun iv _ _ _ => 5 + nn * 9 - (intOf iv).toNat)
      case atStart => exact ⟨0, _, Nat.zero_le _, by simp, HL4⟩
      case round =>
        clear HL4
        obtain ⟨i, sv, hi, rfl, hI⟩ := hrel
        by_cases hlt : i < nn
        · have hil : 5 + i * 9 + 9 ≤ l := by have := HNN.out; omega
          have hd9 : (5 + (i : Int) * 9 + 9 ≤ (l : Int)) := by omega
          have h1 := refget_ok (some ⟨bb, off, none⟩) l cap (5 + i * 9 + 1) 8 b wr HL.out rfl (by omega) (by omega) (HA.out.below hI.out.bel)
          have e1 : ((5 + i * 9 + 1 : Nat) : Int) = 5 + (i : Int) * 9 + 1 := by omega
          rw [e1] at h1
          have hnum0 : fieldOf b (5 + i * 9 + 1) 8 = fieldOf (b.drop 5) (i * 9 + 1) 8 := by rw [field_drop, Nat.add_assoc]
          rw [hnum0] at h1
          obtain ⟨num, hnum⟩ : ∃ num, leN (fieldOf (b.drop 5) (i * 9 + 1) 8) = num := ⟨_, rfl⟩
          have hdl : (b.drop 5).length = l - 5 := by rw [List.length_drop, HL.out]
          have hnlt : num < 18446744073709551616 := by
            have h1 := leN_lt (fieldOf (b.drop 5) (i * 9 + 1) 8)
            rw [hnum, show (fieldOf (b.drop 5) (i * 9 + 1) 8).length = 8 by unfold fieldOf; rw [List.length_take, List.length_drop, hdl]; omega] at h1
            exact h1
          rw [hnum] at h1
          have H1 := Lib.hid h1
          obtain ⟨_, _, e5, hblt5, hcell5⟩ := (HA.out.below hI.out.bel).at_ (k := 5 + i * 9) (by rw [HL.out]; omega)
          cases e5
          obtain ⟨u, hu⟩ : ∃ u, (b.drop 5)[i * 9]? = some u := ⟨_, List.getElem?_eq_getElem (by rw [hdl]; omega)⟩
          obtain ⟨un, hun⟩ : ∃ un, u.toNat = un := ⟨_, rfl⟩
          have k5 : wr.cell? ⟨bb, off + (5 + i * 9), none⟩ = some (.int .u8 (un : Int)) := by
            rw [← hun]
            rw [List.getElem?_drop] at hu
            exact hcell5 _ u hu
          obtain ⟨z, hz⟩ : ∃ z, s64 num = z := ⟨_, rfl⟩
          have hwz : IntKind.i64.wrap (num : Int) = z := by rw [i64_wrap num hnlt, hz]
          have hzr := s64_in num hnlt
          rw [hz] at hzr
          have hx : wordAt (b.drop 5) i = ⟨u, z⟩ := by unfold wordAt; rw [hnum, hz]; simp [List.getD, hu]
          have hi5 := hI.out
          obtain ⟨As, cs, hsv, hs1, hs2, _, _⟩ := hi5.words.words
          rw [wordsOf_len] at hsv hs1
          subst hsv
          have hB6 : Below wr.heap.size wr (wr.alloc (.cells #[.int .u8 (un : Int), .int .i64 z] 44)).drew := ((Below.refl _ _).alloc (Nat.le_refl _) _).drew
          have hi6 := hi5.frame hB6
          have hsw : Words (wr.alloc (.cells #[.int .u8 (un : Int), .int .i64 z] 44)).drew (some ⟨wr.heap.size, 0, none⟩) [⟨u, z⟩] := fun r x hr => by
            rcases r with _ | r
            · cases hr
              have hB := Blk.new wr 44 #[.int .u8 (un : Int), .int .i64 z]
              refine ⟨wr.heap.size, 0, rfl, Nat.lt_of_lt_of_le (Nat.lt_succ_self _) (by show _ ≤ (wr.alloc _).heap.size; rw [World.size_alloc]; exact Nat.le_refl _), ?_, hB.cell 1, hzr⟩
              have h0 := hB.cell 0
              rw [← hun] at h0
              rw [← hun]
              exact h0
            · simp at hr
          obtain ⟨v', w7, hrun, hw7, hg7, ho7⟩ := hi6.words.push (some ⟨wr.heap.size, 0, none⟩) 1 1 [⟨u, z⟩] rfl hsw hi6.bel.size (by rw [wordsOf_len]; omega)
          rw [← hx, ← wordsOf_succ] at hw7
          have HI7 := Lib.hid (hi6.step hw7 hg7 ho7)
          have hO7 := hi6.obj.grown hg7 (fun e => (hi6.own _ e.symm).1 rfl)
          have k7 : w7.cell? ⟨w0.heap.size, 2, none⟩ = some (.slice As i cs) := hO7.cell 2
          have f7 := hO7.frozen 2
          have k6 : wr.cell? ⟨w0.heap.size, 2, none⟩ = some (.slice As i cs) := hi5.obj.cell 2
          have k62 : (wr.alloc (.cells #[.int .u8 (un : Int), .int .i64 z] 44)).cell? ⟨w0.heap.size, 2, none⟩ = some (.slice As i cs) := Lib.cell?_alloc_some _ k6
          obtain ⟨A7, c7, hv7, _, _⟩ := hw7.words
          rw [wordsOf_len] at hv7
          subst hv7
          have HRUN := Lib.hid hrun
          have q1 : (0 : Int) ≤ 5 + (i : Int) * 9 := by omega
          have q2 : (5 + (i : Int) * 9).toNat = 5 + i * 9 := by omega
          have q3 : 5 + (i : Int) * 9 < (l : Int) := by omega
          clear hi5 hB6 hi6 hsw hrun hw7 hg7 ho7 hO7 hx hz hzr hun hu hcell5 hnum hnum0 hI hnlt h1 e1 hdl
          go_wp2_with fail
          refine H1.out.mono ?_
          rintro e w5 ⟨rfl, rfl⟩
          clear H1
          go_wp2_with fail
          go_region_law (refine step_app rfl (.tmp 54) (.tmp 62) 22 rfl _ _ _ _ (by simp [Act.eval]) (by simp [Act.eval]) HRUN.out ?_)
          all_goals
            go_wp2_with fail
            go_roundw
            case rel => exact ⟨i + 1, _, by omega, by go_num, HI7⟩
            case measure => simp [intOf]; omega
        · obtain rfl : nn = i := by omega
          have hd9 : (l : Int) < 5 + (nn : Int) * 9 + 9 := by have := HNN.out; omega
          have hd8 : nn ≤ 1000 := by have := HNN.out; omega
          have HD := Lib.hid (hI.out.done HBX.out)
          go_wp2_with fail
          go_meet
          rw [HLN.out]
          exact HD
  case rest =>
    obtain ⟨w6, rfl⟩ : ∃ w6, w6 = wc := ⟨_, rfl⟩
    have hJ := hcut.out
    have hlw : (lenO b).ws.length ≤ 8187 := by
      rw [HLO.out]
      split
      · simp
      · simp [wordsOf_len]; have := HNN.out; omega
    have HRB : Hid (readO b = if writeE (lenO b) = 0 ∧ writeX (lenO b) = b then some (lenO b) else none) := Lib.hid (read_by b (by rw [HL.out]; omega) (by rw [HL.out]; omega))
    have htr : -9223372036854775808 ≤ (lenO b).tag ∧ (lenO b).tag < 9223372036854775808 := by
      rw [HLO.out]
      split <;> (dsimp only; omega)
    have htt : (lenO b).t.length ≤ 8192 := by
      rw [HLO.out]
      split
      · dsimp only; rw [List.length_drop, HL.out]; omega
      · simp
    clear g0 g2 g3 fO hbw4 hcut HL4 hby4
    obtain ⟨o, ho⟩ : ∃ o, lenO b = o := ⟨_, rfl⟩
    rw [ho] at hJ hlw HRB htr htt
    clear ho HLO
    obtain ⟨ko, tago, ws, t⟩ := o
    dsimp only at hlw htr htt
    obtain ⟨⟨Ao, co, hobj, hc1, hc2, hws, hAo⟩, hres, hbel, _⟩ := hJ
    dsimp only at hobj hc1 hws
    obtain ⟨n, hn⟩ : ∃ n, ws.length = n := ⟨_, rfl⟩
    rw [hn] at hobj hc1 hlw
    have hwr := refwrite_any ko tago Ao n co t ws w6 hn hws (by omega) htr (by omega)
    obtain ⟨q, hq⟩ : ∃ q, ko.toNat = q := ⟨_, rfl⟩
    have hbv : bv ko = .int .u8 (q : Int) := by rw [← hq]; rfl
    have HBV := Lib.hid hbv
    rw [hbv] at hobj hwr
    have HWR := Lib.hid hwr
    have g0 : w6.cell? ⟨w0.heap.size, 0, none⟩ = some (.int .u8 (q : Int)) := hobj.cell 0
    have g1 : w6.cell? ⟨w0.heap.size, 1, none⟩ = some (.int .i64 tago) := hobj.cell 1
    have g2 : w6.cell? ⟨w0.heap.size, 2, none⟩ = some (.slice Ao n co) := hobj.cell 2
    have g3 : w6.cell? ⟨w0.heap.size, 3, none⟩ = some (.string (str t)) := hobj.cell 3
    have HOBJ := Lib.hid hobj
    have HRES := Lib.hid hres
    have HBEL := Lib.hid hbel
    have HV : Hid (n ≤ co ∧ co ≤ maxLen ∧ Words w6 Ao ws ∧ (∀ p : Addr, Ao = some p → w.heap.size ≤ p.block ∧ p.block < w6.heap.size ∧ p.block ≠ w.heap.size) ∧ ws.length = n) := Lib.hid ⟨hc1, hc2, hws, hAo, hn⟩
    clear hobj hres hbel hws hAo hc1 hc2 hn hwr hbv htr htt
    go_wp2_with fail
    refine HWR.out.mono ?_
    rintro e w7 (⟨hE, rfl, hb7⟩ | ⟨gw, cw, hE, rfl, hRw, hgw, hb7⟩)
    · have hR7 := HRES.out.below hb7 HRES.out.lt
      have HB7 := Lib.hid (HBEL.out.trans (hb7.mono HBEL.out.size))
      have r0 : w7.cell? ⟨w.heap.size, 0, none⟩ = some (.int .u8 0) := hR7.cell 0
      have r1 : w7.cell? ⟨w.heap.size, 1, none⟩ = some (.int .i64 0) := hR7.cell 1
      have r2 : w7.cell? ⟨w.heap.size, 2, none⟩ = some (.slice none 0 0) := hR7.cell 2
      have r3 : w7.cell? ⟨w.heap.size, 3, none⟩ = some (.string ⟨#[]⟩) := hR7.cell 3
      have fR := hR7.frozen
      have HR7 := Lib.hid hR7
      have hNO : readO b = none := by rw [HRB.out, if_neg (fun h => hE h.1)]
      have HNO := Lib.hid hNO
      obtain ⟨ev, hev⟩ : ∃ ev, writeE ⟨ko, tago, ws, t⟩ = ev := ⟨_, rfl⟩
      rw [hev] at hE ⊢
      have hE2 : (ev != 0) = true := by simpa using hE
      clear g0 g1 g2 g3 hb7 hR7 hNO hE hev
      go_wp2_with fail
      have HB6 : Blk ((((w7.setCell ⟨w.heap.size, 0, none⟩ (.int .u8 0)).setCell ⟨w.heap.size, 1, none⟩ (.int .i64 0)).setCell ⟨w.heap.size, 2, none⟩ (.slice none 0 0)).setCell ⟨w.heap.size, 3, none⟩ (.string ⟨#[]⟩)) w.heap.size 24 #[.int .u8 0, .int .i64 0, .slice none 0 0, .string ⟨#[]⟩] :=
        (((HR7.out.set_ 0 _).set_ 1 _).set_ 2 _).set_ 3 _
      refine bodyPost_ret (results_cell_row2 rfl _ _ w.heap.size 24 _ (0, 0) _ rfl HB6 Try.underlying24 rfl (by kernel_rfl)) rfl ?_
      exact .inl ⟨HNO.out, rfl, (((HB7.out.setCell (p := ⟨w.heap.size, 0, none⟩) (Nat.le_refl _) _).setCell (p := ⟨w.heap.size, 1, none⟩) (Nat.le_refl _) _).setCell (p := ⟨w.heap.size, 2, none⟩) (Nat.le_refl _) _).setCell (p := ⟨w.heap.size, 3, none⟩) (Nat.le_refl _) _⟩
    · have hR7 := HRES.out.below hb7 HRES.out.lt
      have hO7 := HOBJ.out.below hb7 HOBJ.out.lt
      have hbw7 := HBEL.out.trans (hb7.mono HBEL.out.size)
      have HB7 := Lib.hid hbw7
      have HR7 := Lib.hid hR7
      have HO7 := Lib.hid hO7
      obtain ⟨hm0, hs0, hx0⟩ := writeE_ok hE
      obtain ⟨sz, hsz⟩ : ∃ sz, sizeO ⟨ko, tago, ws, t⟩ = sz := ⟨_, rfl⟩
      rw [hsz] at hRw hs0 ⊢
      have heq := eq_any (some ⟨gw, 0, none⟩) (some ⟨bb, off, none⟩) sz cw l cap (bytesO ⟨ko, tago, ws, t⟩) b w7 hRw.long HL.out hRw.bytes (HA.out.below hbw7) ⟨hRw.le, by have := hRw.max; unfold maxLen at this; omega, by omega⟩ ⟨hcap, by omega, by omega⟩
      obtain ⟨eb, heb⟩ : ∃ eb, decide (bytesO ⟨ko, tago, ws, t⟩ = b) = eb := ⟨_, rfl⟩
      rw [heb] at heq
      have HEQ := Lib.hid heq
      have HRB2 : Hid (readO b = if eb then some ⟨ko, tago, ws, t⟩ else none) := Lib.hid (by
        rw [HRB.out, hx0, ← heb]
        by_cases h : bytesO ⟨ko, tago, ws, t⟩ = b
        · rw [if_pos ⟨hE, h⟩, decide_eq_true h]; rfl
        · rw [if_neg (fun h' => h h'.2), decide_eq_false h]; rfl)
      have HV7 : Hid (Words w7 Ao ws ∧ w6.heap.size ≤ w7.heap.size) := Lib.hid ⟨HV.out.2.2.1.below hb7, hb7.size⟩
      clear g0 g1 g2 g3 hb7 hR7 hO7 hE hm0 hs0 hx0 hsz heq heb hRw hgw hbw7
      go_wp2_with fail
      refine HEQ.out.mono ?_
      rintro e w8 ⟨rfl, hb8⟩
      have hR8 := HR7.out.below hb8 HR7.out.lt
      have hO8 := HO7.out.below hb8 HO7.out.lt
      have HB8 := Lib.hid (HB7.out.trans (hb8.mono HB7.out.size))
      have r0 : w8.cell? ⟨w.heap.size, 0, none⟩ = some (.int .u8 0) := hR8.cell 0
      have r1 : w8.cell? ⟨w.heap.size, 1, none⟩ = some (.int .i64 0) := hR8.cell 1
      have r2 : w8.cell? ⟨w.heap.size, 2, none⟩ = some (.slice none 0 0) := hR8.cell 2
      have r3 : w8.cell? ⟨w.heap.size, 3, none⟩ = some (.string ⟨#[]⟩) := hR8.cell 3
      have fR := hR8.frozen
      have HR8 := Lib.hid hR8
      cases eb
      · clear hb8 hR8 hO8
        go_wp2_with fail
        have HB6 : Blk ((((w8.setCell ⟨w.heap.size, 0, none⟩ (.int .u8 0)).setCell ⟨w.heap.size, 1, none⟩ (.int .i64 0)).setCell ⟨w.heap.size, 2, none⟩ (.slice none 0 0)).setCell ⟨w.heap.size, 3, none⟩ (.string ⟨#[]⟩)) w.heap.size 24 #[.int .u8 0, .int .i64 0, .slice none 0 0, .string ⟨#[]⟩] :=
          (((HR8.out.set_ 0 _).set_ 1 _).set_ 2 _).set_ 3 _
        refine bodyPost_ret (results_cell_row2 rfl _ _ w.heap.size 24 _ (0, 0) _ rfl HB6 Try.underlying24 rfl (by kernel_rfl)) rfl ?_
        exact .inl ⟨by rw [HRB2.out]; rfl, rfl, (((HB8.out.setCell (p := ⟨w.heap.size, 0, none⟩) (Nat.le_refl _) _).setCell (p := ⟨w.heap.size, 1, none⟩) (Nat.le_refl _) _).setCell (p := ⟨w.heap.size, 2, none⟩) (Nat.le_refl _) _).setCell (p := ⟨w.heap.size, 3, none⟩) (Nat.le_refl _) _⟩
      · have k0 : w8.cell? ⟨w0.heap.size, 0, none⟩ = some (.int .u8 (q : Int)) := hO8.cell 0
        have k1 : w8.cell? ⟨w0.heap.size, 1, none⟩ = some (.int .i64 tago) := hO8.cell 1
        have k2 : w8.cell? ⟨w0.heap.size, 2, none⟩ = some (.slice Ao n co) := hO8.cell 2
        have k3 : w8.cell? ⟨w0.heap.size, 3, none⟩ = some (.string (str t)) := hO8.cell 3
        have HB88 := Lib.hid hb8
        clear hb8 hR8 hO8
        go_wp2_with fail
        have HB6 : Blk ((((w8.setCell ⟨w.heap.size, 0, none⟩ (.int .u8 (q : Int))).setCell ⟨w.heap.size, 1, none⟩ (.int .i64 tago)).setCell ⟨w.heap.size, 2, none⟩ (.slice Ao n co)).setCell ⟨w.heap.size, 3, none⟩ (.string (str t))) w.heap.size 24 #[.int .u8 (q : Int), .int .i64 tago, .slice Ao n co, .string (str t)] :=
          (((HR8.out.set_ 0 _).set_ 1 _).set_ 2 _).set_ 3 _
        refine bodyPost_ret (results_cell_row2 rfl _ _ w.heap.size 24 _ (0, 0) _ rfl HB6 Try.underlying24 rfl (by kernel_rfl)) rfl ?_
        obtain ⟨v1, v2, _, v4, v5⟩ := HV.out
        have hsz8 := HB88.out.size
        have hsz7 := HV7.out.2
        refine .inr ⟨⟨ko, tago, ws, t⟩, _, by rw [HRB2.out]; rfl, rfl, ⟨Ao, co, ?_, by rw [v5]; exact v1, v2, fun r x hx => ?_, fun p e => ?_⟩, (((HB8.out.setCell (p := ⟨w.heap.size, 0, none⟩) (Nat.le_refl _) _).setCell (p := ⟨w.heap.size, 1, none⟩) (Nat.le_refl _) _).setCell (p := ⟨w.heap.size, 2, none⟩) (Nat.le_refl _) _).setCell (p := ⟨w.heap.size, 3, none⟩) (Nat.le_refl _) _⟩
        · dsimp only; rw [HBV.out, v5]
        · obtain ⟨bq, oq, e, hlt, z0, z1, zr⟩ := HV7.out.1.below HB88.out r x hx
          have hne := (v4 _ e).2.2
          have hs : ((((w8.setCell ⟨w.heap.size, 0, none⟩ (.int .u8 (q : Int))).setCell ⟨w.heap.size, 1, none⟩ (.int .i64 tago)).setCell ⟨w.heap.size, 2, none⟩ (.slice Ao n co)).setCell ⟨w.heap.size, 3, none⟩ (.string (str t))).heap[bq]? = w8.heap[bq]? := by
            rw [Below.heap_setCell _ _ _ _ hne, Below.heap_setCell _ _ _ _ hne, Below.heap_setCell _ _ _ _ hne, Below.heap_setCell _ _ _ _ hne]
          exact ⟨bq, oq, e, by simp only [World.setCell, Array.size_modify]; exact hlt, (World.cell?_of_block (a := ⟨bq, oq + r * 2, none⟩) hs).trans z0, (World.cell?_of_block (a := ⟨bq, oq + r * 2 + 1, none⟩) hs).trans z1, zr⟩
        · have := v4 p e
          exact ⟨this.1, by simp only [World.setCell, Array.size_modify]; omega⟩
end Go.Proofs.Ytobfglnopihibaa
