/- TokenBack. -/
import Derived.Test.YtdnmdccjecoojaaDoorMt
namespace Go.Proofs.YtdnmdccjecoojaaDoor
open Go.RowKit Tok
theorem betw_le : ∀ b ∈ betwL, b.length ≤ 21 := by decide
set_option maxRecDepth 20000 in
set_option maxHeartbeats 4000000 in
theorem back_law (A : Option Addr) (len cap : Nat) (s : List UInt8) (rm : Nat) (w : World) (hrm : rm < 256) (hlen : s.length = len) (hA : Bytes w A s) (hT : Tabs w) :
    Calls Tryd.prog 5 #[.slice A len cap, .int .u8 (rm : Int)] w fun e W' => e = .returned (.bool true) ∧ Below w.heap.size w W' := by
  have HWK : Hid (∀ W, Below w.heap.size w W → Calls Tryd.prog 9 #[] W fun e w' => e = .returned (.bool true) ∧ Below W.heap.size W w') := Lib.hid (fun W hW => works_any W (hT.below hW))
  by_cases hbig : 2048 < len
  · have hd : decide ((len : Int) > 2048) = true := by simp; omega
    have H1 := Lib.hid (HWK.out w (Below.refl _ _))
    clear hA hlen hT
    go_enter Tryd.func5, Tryd.ntmps5
    go_wp2_with fail
    refine H1.out.mono ?_
    rintro e w' ⟨rfl, hb⟩
    go_wp2_with fail
    go_ret
    exact ⟨rfl, hb⟩
  · have hd : decide ((len : Int) > 2048) = false := by simp; omega
    have hl2 : len ≤ 2048 := by omega
    have H1 := Lib.hid (scan_any A len cap s w hlen hA (by unfold maxLen; omega) hT)
    have HL := Lib.hid hlen
    have HT := Lib.hid hT
    clear hA hlen hT hbig
    go_enter Tryd.func5, Tryd.ntmps5
    go_wp2_with fail
    refine H1.out.mono ?_
    rintro e w1 ⟨hb1, hor⟩
    have HW := Lib.hid hb1
    rcases hor with ⟨l, lv, hs, rfl, hz, hll⟩ | ⟨i, hs, rfl⟩
    case inr =>
      have H2 := Lib.hid (HWK.out w1 hb1)
      clear hs hb1
      go_wp2_with fail
      refine H2.out.mono ?_
      rintro e w' ⟨rfl, hb⟩
      go_wp2_with fail
      go_ret
      exact ⟨rfl, HW.out.trans (hb.mono HW.out.size)⟩
    case inl =>
      obtain ⟨A1, c1, rfl, hc1, hc1m, hk⟩ := hz.toks
      have HWR := Lib.hid (wr_all (by rw [HL.out]; omega) hs)
      obtain ⟨n, hn⟩ : ∃ n, l.length = n := ⟨_, rfl⟩
      have hnb : n ≤ 2048 := by rw [HL.out] at hll; omega
      rw [hn]
      rw [hn] at hc1
      have HN := Lib.hid hn
      obtain ⟨d, hdd⟩ : ∃ d, rm % 5 = d := ⟨_, rfl⟩
      have hd5 : d < 5 := by omega
      have hr1 : (rm : Int) % 5 = (d : Int) := by omega
      have hr2 : (rm : Int).tmod 5 = (d : Int) := by rw [Int.tmod_eq_emod_of_nonneg (by omega)]; exact hr1
      have hd5i : (d : Int) < 5 := by omega
      obtain ⟨b, hbd⟩ : ∃ b, betwL[d]? = some b := ⟨_, List.getElem?_eq_getElem hd5⟩
      have hbm : b ∈ betwL := List.mem_of_getElem? hbd
      have HBM := Lib.hid hbm
      have HBL := Lib.hid (betw_le b hbm)
      obtain ⟨g, hg⟩ : ∃ g, w1.heap.size = g := ⟨_, rfl⟩
      obtain ⟨w2, hw2⟩ : ∃ w2, w1.alloc (.cells #[.string ⟨#[32]⟩, .string ⟨#[10]⟩, .string ⟨#[9, 13]⟩, .string ⟨#[40, 42, 42, 41]⟩, .string ⟨#[32, 40, 42, 32, 97, 32, 40, 42, 32, 98, 32, 42, 41, 32, 34, 32, 39, 32, 42, 41, 32]⟩] 9) = w2 := ⟨_, rfl⟩
      have hbk : Blk w2 g 9 (rowS betwL) := by rw [← hw2, ← hg]; exact Blk.new w1 9 (rowS betwL)
      have hb2 : Below w1.heap.size w1 w2 := by rw [← hw2]; exact (Below.refl _ _).alloc (Nat.le_refl _) _
      have hkc : w2.cell? ⟨g, d, none⟩ = some (.string (str b)) := by rw [hbk.cell]; exact rowS_get hbd
      have HK := Lib.hid (hk.below hb2)
      have HW2 := Lib.hid (hb1.trans (hb2.mono hb1.size))
      have HBR : Hid (Below w2.heap.size w2 w2) := Lib.hid (Below.refl _ _)
      have HS := Lib.hid hs
      obtain ⟨bs, hbs⟩ : ∃ bs, str b = bs := ⟨_, rfl⟩
      have HBS := Lib.hid hbs
      rw [hbs] at hkc
      have HO0 : Hid (bs = str (outL b (l.take 0))) := Lib.hid (by rw [← hbs]; unfold outL; simp)
      clear hs hz hk hb1 hb2 hll hbk hdd hbd hbm hn H1 hbs
      go_wp2_with fail
      go_loopw [9, 10, 11] (fun sv iv _ wr => ∃ (k : Nat) (sx : ByteArray), k ≤ n ∧ iv = .int .i64 (k : Int) ∧ sv = .string sx ∧ Hid (sx = str (outL b (l.take k))) ∧ Hid (Below w2.heap.size w2 wr)) (fun _ iv _ _ => n - (intOf iv).toNat)
      case atStart => exact ⟨0, _, Nat.zero_le _, rfl, rfl, HO0, HBR⟩
      case round =>
        clear HO0 HBR
        obtain ⟨k, sx, hkn, rfl, rfl, hO, hI⟩ := hrel
        have HBW := Lib.hid (HW2.out.trans (hI.out.mono HW2.out.size))
        by_cases hlt : k < n
        · have hdk : decide ((k : Int) < (n : Int)) = true := by simpa using hlt
          obtain ⟨x, hx⟩ : ∃ x, l[k]? = some x := ⟨_, List.getElem?_eq_getElem (by rw [HN.out]; exact hlt)⟩
          obtain ⟨bx, off, rfl, hblt, e0, e1, e2, e3⟩ := (HK.out.below hI.out) k x hx
          have hwr := HWR.out x (List.mem_of_getElem? hx)
          have hOL := outL_len HBL.out (l.take k) (fun y hy => (HWR.out y (List.mem_of_mem_take hy)).len)
          rw [List.length_take, HN.out] at hOL
          have hts : outL b (l.take (k + 1)) = outL b (l.take k) ++ Tok.wr x.1 ++ b := by
            rw [← outL_snoc]
            congr 1
            obtain ⟨hk1, hk2⟩ := List.getElem?_eq_some_iff.1 hx
            rw [← hk2, List.take_succ_eq_append_getElem hk1]
          obtain ⟨⟨kx, tx, nx⟩, ax⟩ := x
          dsimp only at e0 e1 e2 e3 hwr hts
          have H2 := ltext_any kx tx nx (ax : Int) wr hwr.num hwr.says hwr.tl
          obtain ⟨W, hW⟩ : ∃ W, Tok.wr ⟨kx, tx, nx⟩ = W := ⟨_, rfl⟩
          have hWl := hwr.len
          have hWn := hwr.ne
          rw [hW] at H2 hts hWl hWn
          obtain ⟨un, hun⟩ : ∃ un, kx.toNat = un := ⟨_, rfl⟩
          have hbv : bv kx = .int .u8 (un : Int) := by rw [← hun]; rfl
          rw [hbv] at e0 H2
          obtain ⟨O, hOO⟩ : ∃ O, outL b (l.take k) = O := ⟨_, rfl⟩
          rw [hOO] at hOL hts hO
          have hsx := hO.out
          obtain ⟨ol, hol⟩ : ∃ ol, O.length = ol := ⟨_, rfl⟩
          obtain ⟨wl, hwl⟩ : ∃ wl, W.length = wl := ⟨_, rfl⟩
          obtain ⟨bl, hbl⟩ : ∃ bl, b.length = bl := ⟨_, rfl⟩
          have hols : sx.size = ol := by rw [hsx]; exact str_sizeN hol
          have hwls := str_sizeN hwl
          have hbls : bs.size = bl := by rw [← HBS.out]; exact str_sizeN hbl
          have hols2 := str_sizeN (s := O ++ W) (n := ol + wl) (by rw [List.length_append]; omega)
          have happ1 : sx ++ str W = str (O ++ W) := by rw [hsx]; exact str_app O W
          have happ2 : str (O ++ W) ++ bs = str (O ++ W ++ b) := by rw [← HBS.out]; exact str_app (O ++ W) b
          have hbl21 : bl ≤ 21 := by rw [← hbl]; exact HBL.out
          have hwl5 : wl ≤ 5000 := by omega
          have holb : ol ≤ 20000000 := by omega
          obtain ⟨sw, hsw⟩ : ∃ sw, str W = sw := ⟨_, rfl⟩
          obtain ⟨so, hso⟩ : ∃ so, str (O ++ W) = so := ⟨_, rfl⟩
          obtain ⟨sb, hsb⟩ : ∃ sb, str (O ++ W ++ b) = sb := ⟨_, rfl⟩
          have hne : (sw.toList == (⟨#[]⟩ : ByteArray).toList) = false := by
            rw [← hsw, str_toList]
            have : (⟨#[]⟩ : ByteArray).toList = [] := str_toList []
            rw [this]
            simpa using hWn
          have hne2 : (sw.toList == []) = false := by
            rw [← hsw, str_toList]
            simpa using hWn
          rw [hsw] at H2 hwls happ1
          rw [hso] at hols2 happ1 happ2
          rw [hsb] at happ2
          have HO2 : Hid (sb = str (outL b (l.take (k + 1)))) := Lib.hid (by rw [hts, hsb])
          have HI := Lib.hid hI.out
          have H2 := Lib.hid H2
          clear hx hwr hts hW hWl hWn hun hbv hOO hO hsx hol hwl hbl hOL hsw hso hsb hI hblt
          go_wp2_with fail
          refine H2.out.mono ?_
          rintro e w3 ⟨rfl, hb3⟩
          have HI := Lib.hid (HI.out.trans (hb3.mono HI.out.size))
          clear hb3
          go_wp2_with fail
          go_roundw
          case rel => exact ⟨k + 1, _, by omega, by go_num, rfl, HO2, HI⟩
          case measure => simp [intOf]; omega
        · obtain rfl : n = k := by omega
          have hdk : decide ((n : Int) < (n : Int)) = false := by simp
          have htl : l.take n = l := List.take_of_length_le (by rw [HN.out]; exact Nat.le_refl _)
          rw [htl] at hO
          have hOL := outL_len HBL.out l (fun y hy => (HWR.out y hy).len)
          rw [HN.out] at hOL
          obtain ⟨O, hOO⟩ : ∃ O, outL b l = O := ⟨_, rfl⟩
          have hback := back_scan HBM.out HWR.out
          rw [hOO] at hOL hO hback
          obtain ⟨ol, hol⟩ : ∃ ol, O.length = ol := ⟨_, rfl⟩
          rw [hol] at hback
          have hsx := hO.out
          subst hsx
          have hols := str_sizeN hol
          have holb : ol ≤ 20000000 := by omega
          by_cases hob : 16384 < ol
          · have hdo : decide ((ol : Int) > 16384) = true := by simp; omega
            have H2 := Lib.hid (HWK.out wr HBW.out)
            clear hI hO htl hback hOL hOO hob hol
            go_wp2_with fail
            refine H2.out.mono ?_
            rintro e w' ⟨rfl, hb⟩
            go_wp2_with fail
            go_ret
            exact ⟨rfl, HBW.out.trans (hb.mono HBW.out.size)⟩
          · have hdo : decide ((ol : Int) > 16384) = false := by simp; omega
            obtain ⟨m, hm1, hm2⟩ := hback (by omega)
            obtain ⟨c, w3, hcv, hR, hb3⟩ := run_bytes8 wr O (by rw [hol]; unfold maxLen; omega)
            rw [hol] at hcv hR
            have HB3 := Lib.hid (HBW.out.trans (hb3.mono HBW.out.size))
            have HI3 := Lib.hid (hI.out.trans (hb3.mono hI.out.size))
            have H2 := Lib.hid (scan_any (some ⟨wr.heap.size, 0, none⟩) ol c O w3 hol hR.bytes (by unfold maxLen; omega) (HT.out.below HB3.out))
            have HM1 := Lib.hid hm1
            have HM2 := Lib.hid hm2
            have holm : O.length ≤ 16384 := by omega
            clear hI hO htl hback hOL hOO hob hb3 hR hm1 hm2
            go_wp2_with fail
            clear hcv
            refine H2.out.mono ?_
            rintro e w4 ⟨hb4, hor⟩
            rcases hor with ⟨l', lv, hs, rfl, hz, hll⟩ | ⟨i', hs, _⟩
            case inr => rw [HM1.out] at hs; cases hs
            rw [HM1.out] at hs
            injection hs with hs
            subst hs
            obtain ⟨A2, c2, rfl, hc2, hc2m, hk2⟩ := hz.toks
            have hml : m.length = n := by have := congrArg List.length HM2.out; rw [List.length_map, List.length_map] at this; rw [this]; exact HN.out
            rw [hml]
            have HB4 := Lib.hid (HB3.out.trans (hb4.mono HB3.out.size))
            have HI4 := HI3.out.trans (hb4.mono HI3.out.size)
            have H3 := Lib.hid (alike_any A1 A2 n c1 c2 l m w4 HN.out HM2.out (HK.out.below HI4) hk2 (by omega))
            clear hz hk2 hb4 hll hc2 hc2m hml HI4 H2 hol
            go_wp2_with fail
            refine H3.out.mono ?_
            rintro e w5 ⟨rfl, hb5⟩
            have HB5 := Lib.hid (HB4.out.trans (hb5.mono HB4.out.size))
            have H4 := Lib.hid (HWK.out w5 HB5.out)
            clear hb5 H3
            go_wp2_with fail
            refine H4.out.mono ?_
            rintro e w6 ⟨rfl, hb6⟩
            go_wp2_with fail
            go_ret
            exact ⟨rfl, HB5.out.trans (hb6.mono HB5.out.size)⟩
end Go.Proofs.YtdnmdccjecoojaaDoor
