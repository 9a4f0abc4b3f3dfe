/- BitsIn. -/
import Derived.Test.YtfkhgdhfelfegaaDoorP
namespace Go.Proofs.YtfkhgdhfelfegaaDoor
open Go.RowKit Bts

set_option maxRecDepth 40000 in
set_option maxHeartbeats 2000000 in
theorem in_any (a : Nat) (A : Option Addr) (len cap : Nat) (ls : List (Bool × Int)) (w : World) (_ha : a < 65536) (hlen : ls.length = len) (hls : Stps w A ls) (hT : Tab w) :
    Calls Tryd.prog 5 #[.int .u16 (a : Int), .slice A len cap] w fun e W' => e = .returned (.bool true) ∧ Below w.heap.size w W' := by
  by_cases hbig : 300 < len
  · have hW := Lib.hid (works_any w hT)
    clear hls hT
    go_enter Tryd.func5, Tryd.ntmps5
    go_wp2_with fail
    refine hW.out.mono ?_
    rintro e w' ⟨rfl, hb⟩
    have HB := Lib.hid hb
    clear hb hW
    go_wp2_with fail
    go_ret
    exact ⟨rfl, HB.out⟩
  · obtain ⟨m, hm⟩ : ∃ m, a % 3000 = m := ⟨_, rfl⟩
    have hm3 : m < 3000 := by omega
    have hmi : (a : Int) % 3000 = (m : Int) := by omega
    have hn := Lib.hid (new_some m w (by omega))
    have HT := Lib.hid hT
    have HS := Lib.hid hls
    have HL := Lib.hid hlen
    have hlen300 : len ≤ 300 := by omega
    clear hT hm hls hlen hbig
    go_enter Tryd.func5, Tryd.ntmps5
    go_wp2_with fail
    refine hn.out.mono ?_
    rintro e w1 ⟨p, q, rfl, hp, hq, hb, hbel⟩
    have hst := Lib.hid (St.start HT.out hb hq hbel)
    clear hb hbel hp hq hn HT
    go_wp2_with fail
    go_loopw [8] (fun i wr => ∃ (r : Nat), r ≤ len ∧ i = .int .i64 r ∧ Hid (St w.heap.size p q m (after m none_ (ls.take r)) w wr)) (fun i _ => len - (intOf i).toNat)
    case atStart => exact ⟨0, Nat.zero_le _, rfl, hst⟩
    case round =>
      clear hst
      obtain ⟨r, hr, rfl, hst⟩ := hrel
      by_cases hlr : r < len
      · obtain ⟨b, off, c, i, hA, hb, hget, hc1, hc2, _⟩ := HS.out.at_ (k := r) (by have := HL.out; omega)
        have g1 := (hst.out.bel.cell (p := ⟨b, off + r * 2, none⟩) hb).trans hc1
        have g2 := (hst.out.bel.cell (p := ⟨b, off + r * 2 + 1, none⟩) hb).trans hc2
        have hsn : after m none_ (ls.take (r + 1)) = app m (after m none_ (ls.take r)) (c, i) := by
          have hk := (List.getElem?_eq_some_iff.1 hget).1
          have he := (List.getElem?_eq_some_iff.1 hget).2
          rw [List.take_succ_eq_append_getElem hk, he, after_snoc]
        have HSN := Lib.hid hsn
        have H1 := Lib.hid (set_st' (i := i) hst.out)
        have H2 := Lib.hid (clear_st' (i := i) hst.out)
        subst hA
        clear hc1 hc2 hb hget hsn
        cases c
        · go_wp2_with fail
          refine H1.out.mono ?_
          rintro e w' ⟨rfl, h1⟩
          have hst' : Hid (St w.heap.size p q m (after m none_ (ls.take (r + 1))) w w') := by rw [HSN.out]; exact Lib.hid h1
          clear h1 H1 H2 g1 g2
          go_wp2_with fail
          go_roundw
          case rel => exact ⟨r + 1, by omega, by go_num, hst'⟩
          case measure => simp [intOf]; omega
        · go_wp2_with fail
          refine H2.out.mono ?_
          rintro e w' ⟨rfl, h1⟩
          have hst' : Hid (St w.heap.size p q m (after m none_ (ls.take (r + 1))) w w') := by rw [HSN.out]; exact Lib.hid h1
          clear h1 H1 H2 g1 g2
          go_wp2_with fail
          go_roundw
          case rel => exact ⟨r + 1, by omega, by go_num, hst'⟩
          case measure => simp [intOf]; omega
      · obtain rfl : r = len := by omega
        have hst2 : Hid (St w.heap.size p q m (after m none_ ls) w wr) := by
          have := hst.out
          rw [List.take_of_length_le (by have := HL.out; omega)] at this
          exact Lib.hid this
        clear hst
        have HMI := Lib.hid hmi
        clear hmi
        go_wp2_with fail
        go_loopw [9, 10, 11, 12, 13, 14] (fun c i _ _ _ _ wr => ∃ (k cc : Nat), k ≤ r ∧ i = .int .i64 k ∧ cc ≤ k ∧ c = .int .i64 cc ∧ Hid (cc + cIn m (ls.drop k) = cIn m ls) ∧ Hid (St w.heap.size p q m (after m none_ ls) w wr)) (fun _ i _ _ _ _ _ => r - (intOf i).toNat)
        case atStart => exact ⟨0, 0, Nat.zero_le _, rfl, Nat.le_refl _, rfl, Lib.hid (by simp), hst2⟩
        case round =>
          clear hst2
          obtain ⟨k, cc, hk, rfl, hcck, rfl, hcc, hst⟩ := hrel
          by_cases hlk : k < r
          · obtain ⟨b, off, c, i, hA, hb, hget, hc1, hc2, hi1, hi2⟩ := HS.out.at_ (k := k) (by have := HL.out; omega)
            have g1 := (hst.out.bel.cell (p := ⟨b, off + k * 2, none⟩) hb).trans hc1
            have g2 := (hst.out.bel.cell (p := ⟨b, off + k * 2 + 1, none⟩) hb).trans hc2
            subst hA
            clear hc1 hc2
            go_wp2_with fail
            obtain ⟨L, hL⟩ : ∃ L, wr.heap.size = L := ⟨_, rfl⟩
            obtain ⟨wa, hwa⟩ : ∃ wa, wr.alloc (.cells #[.bool c, .int .i64 i] 35) = wa := ⟨_, rfl⟩
            have hl0 : wa.cell? ⟨L, 0, none⟩ = some (.bool c) := by rw [← hwa, ← hL]; exact (Blk.new wr 35 #[.bool c, .int .i64 i]).cell 0
            have hl1 : wa.cell? ⟨L, 1, none⟩ = some (.int .i64 i) := by rw [← hwa, ← hL]; exact (Blk.new wr 35 #[.bool c, .int .i64 i]).cell 1
            have hsta : Hid (St w.heap.size p q m (after m none_ ls) w wa) := Lib.hid (hst.out.same (by rw [← hwa]; exact (Below.refl _ wr).alloc (Nat.le_refl _) _))
            have hLlt : L < wa.heap.size := by rw [← hwa, ← hL]; simp
            rw [hwa, hL]
            obtain ⟨tl, htl⟩ : ∃ tl, ls.drop (k + 1) = tl := ⟨_, rfl⟩
            have htll : tl.length = r - (k + 1) := by rw [← htl, List.length_drop, HL.out]
            have hdrop : ls.drop k = (c, i) :: tl := by
              have hkl := (List.getElem?_eq_some_iff.1 hget).1
              have he := (List.getElem?_eq_some_iff.1 hget).2
              rw [← htl, ← he]; exact List.drop_eq_getElem_cons hkl
            have hpre : ls = ls.take k ++ (c, i) :: tl := by rw [← hdrop, List.take_append_drop]
            have HTL := Lib.hid htl
            have HTLL := Lib.hid htll
            have HDROP := Lib.hid hdrop
            have HPRE := Lib.hid hpre
            have HLT := Lib.hid hLlt
            clear hwa hL hst g1 g2 hget hb htl htll hdrop hpre hLlt
            go_loopw [12, 13] (fun y z wb => ∃ (s : Nat), k + 1 + s ≤ r ∧ z = .int .i64 ((k + 1 + s : Nat) : Int) ∧ y = .bool (asks (tl.take s) i) ∧ wb.cell? ⟨L, 0, none⟩ = some (.bool c) ∧ wb.cell? ⟨L, 1, none⟩ = some (.int .i64 i) ∧ Hid (St w.heap.size p q m (after m none_ ls) w wb)) (fun _ z _ => r - (intOf z).toNat)
            case atStart => exact ⟨0, by omega, rfl, rfl, hl0, hl1, hsta⟩
            case round =>
              clear hl0 hl1 hsta HLT
              obtain ⟨s, hs, rfl, rfl, hl0, hl1, hst⟩ := hrel
              by_cases hsr : k + 1 + s < r
              · obtain ⟨b', off', c', i', hA', hb', hget', _, hc2', hi1', hi2'⟩ := HS.out.at_ (k := k + 1 + s) (by have := HL.out; omega)
                cases hA'
                have g2 := (hst.out.bel.cell (p := ⟨b, off + (k + 1 + s) * 2 + 1, none⟩) hb').trans hc2'
                have htk : asks (tl.take (s + 1)) i = (asks (tl.take s) i || (i' == i)) := asks_take_succ tl i s (c', i') (by rw [← HTL.out, List.getElem?_drop]; exact hget')
                have HTK := Lib.hid htk
                clear hc2' hget' htk hb'
                obtain ⟨z, hz⟩ : ∃ z, k + 1 + s = z := ⟨_, rfl⟩
                rw [hz] at g2 hsr hs ⊢
                have HZ := Lib.hid hz
                clear hz
                have hdr : ∀ n, Hid (St w.heap.size p q m (after m none_ ls) w (wr.drewN n)) := fun n => Lib.hid (hst.out.same ⟨rfl, rfl, rfl, Nat.le_refl _, fun _ _ => rfl⟩)
                have HDR := Lib.hid hdr
                clear hdr
                go_wp2_with fail
                by_cases heq : i' = i
                · subst heq
                  go_quiet (fail)
                  go_wp2_with fail
                  go_roundw
                  case rel => exact ⟨s + 1, by have := HZ.out; omega, by have := HZ.out; go_num, by rw [HTK.out]; simp, hl0, hl1, HDR.out _⟩
                  case measure => simp [intOf]; omega
                · have hne : (i' == i) = false := by simpa using heq
                  go_quiet (fail)
                  go_wp2_with fail
                  go_roundw
                  case rel => exact ⟨s + 1, by have := HZ.out; omega, by have := HZ.out; go_num, by rw [HTK.out, hne]; simp, hl0, hl1, HDR.out _⟩
                  case measure => simp [intOf]; omega
              · have htk : tl.take s = tl := List.take_of_length_le (by have := HTLL.out; omega)
                rw [htk]
                clear htk
                cases hlast : asks tl i
                · have hh := has_last m (ls.take k) tl (c, i) hlast
                  rw [← HPRE.out] at hh
                  have hc := cIn_cons_no (n := m) (x := (c, i)) hlast
                  rw [← HDROP.out] at hc
                  by_cases hct : c = true
                  · subst hct
                    have hv : isIn m (true, i) = false := by simp [isIn]
                    rw [hv] at hh hc
                    have H1 := Lib.hid (has_st false hst.out hh)
                    have HC := Lib.hid hc
                    clear hh hc hv hst
                    go_wp2_with fail
                    refine H1.out.mono ?_
                    rintro e w' ⟨rfl, h1⟩
                    have hst' := Lib.hid h1
                    clear h1 H1 hl0 hl1
                    go_wp2_with fail
                    go_roundw
                    case rel => exact ⟨k + 1, cc, by omega, by go_num, by omega, by go_num, Lib.hid (by have h1 := HC.out; have h2 := hcc.out; have h3 := HTL.out; rw [h3]; simp at h1; omega), hst'⟩
                    case measure => simp [intOf]; omega
                  · obtain rfl : c = false := by simpa using hct
                    by_cases h0 : 0 ≤ i
                    · by_cases hlt : i < (m : Int)
                      · have hv : isIn m (false, i) = true := by simp [isIn, h0, hlt]
                        rw [hv] at hh hc
                        have H1 := Lib.hid (has_st true hst.out hh)
                        have HC := Lib.hid hc
                        clear hh hc hv hst
                        go_wp2_with fail
                        refine H1.out.mono ?_
                        rintro e w' ⟨rfl, h1⟩
                        have hst' := Lib.hid h1
                        clear h1 H1 hl0 hl1
                        go_wp2_with fail
                        go_roundw
                        case rel => exact ⟨k + 1, cc + 1, by omega, by go_num, by omega, by go_num, Lib.hid (by have h1 := HC.out; have h2 := hcc.out; have h3 := HTL.out; rw [h3]; simp at h1; omega), hst'⟩
                        case measure => simp [intOf]; omega
                      · have hd : decide (i < (m : Int)) = false := by simpa using hlt
                        have hv : isIn m (false, i) = false := by simp [isIn, hlt]
                        rw [hv] at hh hc
                        have H1 := Lib.hid (has_st false hst.out hh)
                        have HC := Lib.hid hc
                        clear hh hc hv hst
                        go_wp2_with fail
                        refine H1.out.mono ?_
                        rintro e w' ⟨rfl, h1⟩
                        have hst' := Lib.hid h1
                        clear h1 H1 hl0 hl1
                        go_wp2_with fail
                        go_roundw
                        case rel => exact ⟨k + 1, cc, by omega, by go_num, by omega, by go_num, Lib.hid (by have h1 := HC.out; have h2 := hcc.out; have h3 := HTL.out; rw [h3]; simp at h1; omega), hst'⟩
                        case measure => simp [intOf]; omega
                    · have hv : isIn m (false, i) = false := by simp [isIn, h0]
                      rw [hv] at hh hc
                      have H1 := Lib.hid (has_st false hst.out hh)
                      have HC := Lib.hid hc
                      clear hh hc hv hst
                      go_wp2_with fail
                      refine H1.out.mono ?_
                      rintro e w' ⟨rfl, h1⟩
                      have hst' := Lib.hid h1
                      clear h1 H1 hl0 hl1
                      go_wp2_with fail
                      go_roundw
                      case rel => exact ⟨k + 1, cc, by omega, by go_num, by omega, by go_num, Lib.hid (by have h1 := HC.out; have h2 := hcc.out; have h3 := HTL.out; rw [h3]; simp at h1; omega), hst'⟩
                      case measure => simp [intOf]; omega
                · have hc := cIn_cons_yes (n := m) (x := (c, i)) hlast
                  rw [← HDROP.out] at hc
                  have HC := Lib.hid hc
                  clear hc hl0 hl1
                  go_wp2_with fail
                  go_roundw
                  case rel => exact ⟨k + 1, cc, by omega, by go_num, by omega, rfl, Lib.hid (by have h1 := HC.out; have h2 := hcc.out; have h3 := HTL.out; rw [h3]; omega), hst⟩
                  case measure => simp [intOf]; omega
          · obtain rfl : k = r := by omega
            have hfin : card (after m none_ ls) m = cc := by
              have h1 := hcc.out
              rw [List.drop_of_length_le (by have := HL.out; omega)] at h1
              rw [card_all, ← h1]; rfl
            have H2 := Lib.hid (count_is cc hst.out.bs hfin)
            have H3 := Lib.hid (works_st hst.out)
            clear hfin
            go_wp2_with (first
              | (go_at_call 21; refine H2.out.mono ?_; rintro e w' ⟨rfl, rfl⟩)
              | (go_at_call 9; refine H3.out.mono ?_; rintro e w' ⟨rfl, h3⟩; have HB := Lib.hid h3.bel; clear h3))
            go_ret
            exact ⟨rfl, HB.out⟩

end Go.Proofs.YtfkhgdhfelfegaaDoor
