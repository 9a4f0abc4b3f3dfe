/- TokenSigns. -/
import Derived.Test.YtdnmdccjecoojaaDoorMs
namespace Go.Proofs.YtdnmdccjecoojaaDoor
open Go.RowKit Tok
theorem str_app (a b : List UInt8) : str a ++ str b = str (a ++ b) := by
  apply ByteArray.ext
  unfold str
  simp [ByteArray.data_append]
theorem Strs.pre {w : World} {A : Option Addr} {L : List (List UInt8)} (h : Strs w A L) (n : Nat) : Strs w A (L.take n) := fun k c hk => by
  have hkn : k < n := by
    have := (List.getElem?_eq_some_iff.1 hk).1
    rw [List.length_take] at this
    omega
  rw [List.getElem?_take_of_lt hkn] at hk
  exact h k c hk
theorem sat_lt {s : List UInt8} {k m : Nat} (h : k < m) : sat s k < sat s m := by
  induction m with
  | zero => omega
  | succ m ih =>
    have h1 : sat s m < sat s (m + 1) := by
      show sat s m < sat s m + sgN s (sat s m)
      have : 1 ≤ sgN s (sat s m) := by unfold sgN; split <;> omega
      omega
    rcases Nat.lt_or_ge k m with hlt | hge
    · exact Nat.lt_trans (ih hlt) h1
    · obtain rfl : k = m := by omega
      exact h1
theorem str_mid (s : List UInt8) (a b n : Nat) (h : b - a = n) : (str s).extract a b = str ((s.drop a).take n) := by rw [str_extract, h]
set_option maxRecDepth 20000 in
set_option maxHeartbeats 4000000 in
theorem signs_law (A : Option Addr) (len cap : Nat) (ps : List UInt8) (w : World) (hlen : ps.length = len) (hA : Bytes w A ps) (hcap : len ≤ cap) (hcm : cap ≤ maxLen) (hT : Tabs w) :
    Calls Tryd.prog 8 #[.slice A len cap] w fun e W' => e = .returned (.bool true) ∧ Below w.heap.size w W' := by
  unfold maxLen at hcm
  have HWK : Hid (∀ W, Below w.heap.size w W → Calls Tryd.prog 9 #[] W fun e w' => e = .returned (.bool true) ∧ Below W.heap.size W w') := Lib.hid (fun W hW => works_any W (hT.below hW))
  by_cases hbig : 200 < len
  · have hd : decide ((len : Int) > 200) = true := by simp; omega
    have H1 := Lib.hid (HWK.out w (Below.refl _ _))
    clear hA hlen hT
    go_enter Tryd.func8, Tryd.ntmps8
    go_wp2_with fail
    refine H1.out.mono ?_
    rintro e w' ⟨rfl, hb⟩
    go_wp2_with fail
    go_ret
    exact ⟨rfl, hb⟩
  · have hd : decide ((len : Int) > 200) = false := by simp; omega
    have hl200 : len ≤ 200 := by omega
    obtain ⟨w1, hw1⟩ : ∃ w1, w.alloc (.cells #[.string ⟨#[61, 62]⟩, .string ⟨#[45, 62]⟩, .string ⟨#[58, 61]⟩, .string ⟨#[60, 61]⟩, .string ⟨#[62, 61]⟩, .string ⟨#[60, 62]⟩, .string ⟨#[40]⟩, .string ⟨#[41]⟩, .string ⟨#[44]⟩, .string ⟨#[59]⟩, .string ⟨#[61]⟩, .string ⟨#[42]⟩, .string ⟨#[124]⟩, .string ⟨#[58]⟩, .string ⟨#[33]⟩, .string ⟨#[43]⟩, .string ⟨#[45]⟩, .string ⟨#[126]⟩, .string ⟨#[60]⟩, .string ⟨#[62]⟩, .string ⟨#[94]⟩, .string ⟨#[95]⟩] 9) = w1 := ⟨_, rfl⟩
    have hbk : Blk w1 w.heap.size 9 (rowS signsL) := by rw [← hw1]; exact Blk.new w 9 (rowS signsL)
    have hb1 : Below w.heap.size w w1 := by rw [← hw1]; exact (Below.refl _ _).alloc (Nat.le_refl _) _
    have HBK := Lib.hid hbk
    have HB1 := Lib.hid hb1
    have HA := Lib.hid (hA.below hb1)
    have HL := Lib.hid hlen
    have HT := Lib.hid hT
    obtain ⟨g, hg⟩ : ∃ g, w.heap.size = g := ⟨_, rfl⟩
    have HG := Lib.hid hg
    have HS0 : Hid (([] : List UInt8).length ≤ 2 * 0 ∧ ∀ c ∈ ([] : List UInt8), c ∈ signC) := Lib.hid ⟨Nat.le_refl _, fun c h => by simp at h⟩
    clear hA hlen hT hbig hbk hb1
    go_enter Tryd.func8, Tryd.ntmps8
    go_wp2_with fail
    go_loopw [4, 5] (fun sv iv wr => ∃ (i : Nat) (s : List UInt8), i ≤ len ∧ iv = .int .i64 (i : Int) ∧ sv = .string (str s) ∧ wr = w1 ∧ Hid (s.length ≤ 2 * i ∧ ∀ c ∈ s, c ∈ signC)) (fun _ iv _ => len - (intOf iv).toNat)
    case atStart => exact ⟨0, [], Nat.zero_le _, rfl, rfl, rfl, HS0⟩
    case round =>
      clear HS0
      obtain ⟨i, s, hi, rfl, rfl, hw, hI⟩ := hrel
      obtain rfl : w1 = _ := hw.symm
      by_cases hlt : i < len
      · have hd1 : decide ((i : Int) < (len : Int)) = true := by simpa using hlt
        obtain ⟨p, hp⟩ : ∃ p, ps[i]? = some p := ⟨_, List.getElem?_eq_getElem (by rw [HL.out]; exact hlt)⟩
        obtain ⟨b, off, rfl, hbl, hc⟩ := HA.out i p hp
        obtain ⟨pn, hpn⟩ : ∃ pn, p.toNat = pn := ⟨_, rfl⟩
        have hpb : pn < 256 := by rw [← hpn]; exact p.toNat_lt
        rw [hpn] at hc
        obtain ⟨d, hdd⟩ : ∃ d, pn % 22 = d := ⟨_, rfl⟩
        have hd22 : d < 22 := by omega
        have hr1 : (pn : Int) % 22 = (d : Int) := by omega
        have hr2 : (pn : Int).tmod 22 = (d : Int) := by rw [Int.tmod_eq_emod_of_nonneg (by omega)]; exact hr1
        obtain ⟨x, hx⟩ : ∃ x, signsL[d]? = some x := ⟨_, List.getElem?_eq_getElem hd22⟩
        have hkc : w1.cell? ⟨g, d, none⟩ = some (.string (str x)) := by rw [← HG.out, HBK.out.cell]; exact rowS_get hx
        have happ := str_app s x
        obtain ⟨sl, hsl⟩ : ∃ sl, s.length = sl := ⟨_, rfl⟩
        obtain ⟨xl, hxl0⟩ : ∃ xl, x.length = xl := ⟨_, rfl⟩
        have hss := str_sizeN hsl
        have hxs := str_sizeN hxl0
        have hslb : sl ≤ 400 := by have := hI.out.1; omega
        have hxl := signs_le x (List.mem_of_getElem? hx)
        have hxlb : xl ≤ 2 := by omega
        have HI : Hid ((s ++ x).length ≤ 2 * (i + 1) ∧ ∀ c ∈ s ++ x, c ∈ signC) := Lib.hid ⟨by rw [List.length_append]; have := hI.out.1; omega, fun c hc => by
          rcases List.mem_append.1 hc with hc | hc
          · exact hI.out.2 c hc
          · exact signsL_C x (List.mem_of_getElem? hx) c hc⟩
        have hd22i : (d : Int) < 22 := by omega
        clear hp hpn hx hI hxl hsl hxl0
        go_wp2_with fail
        go_roundw
        case rel => exact ⟨i + 1, s ++ x, by omega, by go_num, rfl, by trivial, HI⟩
        case measure => simp [intOf]; omega
      · obtain rfl : len = i := by omega
        have hd1 : decide ((len : Int) < (len : Int)) = false := by simp
        obtain ⟨n, hn⟩ : ∃ n, s.length = n := ⟨_, rfl⟩
        have hsz := str_sizeN hn
        have hn400 : n ≤ 400 := by have := hI.out.1; omega
        have HOF := Lib.hid hI.out.2
        have HN := Lib.hid hn
        have HNO : Hid (∀ j, j < 0 → (s.drop j).take 2 ≠ [40, 42]) := Lib.hid fun j h => by omega
        clear hI hn
        go_wp2_with fail
        go_loopw [6] (fun iv wr => ∃ i : Nat, i ≤ n ∧ iv = .int .i64 (i : Int) ∧ wr = w1 ∧ Hid (∀ j, j < i → (s.drop j).take 2 ≠ [40, 42])) (fun iv _ => n - (intOf iv).toNat)
        case atStart => exact ⟨0, Nat.zero_le _, rfl, rfl, HNO⟩
        case round =>
          clear HNO
          obtain ⟨i, hi, rfl, hw, hI⟩ := hrel
          obtain rfl : w1 = _ := hw.symm
          by_cases hlt : i + 1 < n
          · have hd2 : decide ((i : Int) + 1 < (n : Int)) = true := by simp; omega
            obtain ⟨c, hc⟩ : ∃ c, s[i]? = some c := ⟨_, List.getElem?_eq_getElem (by rw [HN.out]; omega)⟩
            obtain ⟨e, he⟩ : ∃ e, s[i + 1]? = some e := ⟨_, List.getElem?_eq_getElem (by rw [HN.out]; omega)⟩
            have hi1 : i < n := by omega
            have hks : i < (str s).size := by rw [hsz]; omega
            have hks1 : i + 1 < (str s).size := by rw [hsz]; omega
            have hcc := str_at hc hks
            have hce := str_at he hks1
            have htk : (s.drop i).take 2 = [c, e] := by rw [drop_cons hc, drop_cons he]; rfl
            obtain ⟨cn, hcn⟩ : ∃ cn, c.toNat = cn := ⟨_, rfl⟩
            obtain ⟨en, hen⟩ : ∃ en, e.toNat = en := ⟨_, rfl⟩
            have hext : (s.drop i).take 2 ≠ [40, 42] → Hid (∀ j, j < i + 1 → (s.drop j).take 2 ≠ [40, 42]) := fun h => Lib.hid fun j hj => by
              by_cases e : j = i
              · subst e; exact h
              · exact hI.out j (by omega)
            have hinn : (i : Int) + 1 < (n : Int) := by omega
            by_cases h40 : cn = 40
            · have f1 : ((cn : Int) == 40) = true := by simp; omega
              by_cases h42 : en = 42
              · have f2 : ((en : Int) == 42) = true := by simp; omega
                have H1 := Lib.hid (HWK.out w1 HB1.out)
                clear hext hI hc he htk h40 h42
                go_wp2_with fail
                refine H1.out.mono ?_
                rintro e' w' ⟨rfl, hb⟩
                go_wp2_with fail
                go_ret
                exact ⟨rfl, HB1.out.trans (hb.mono HB1.out.size)⟩
              · have f2 : ((en : Int) == 42) = false := by simp; omega
                have HI := hext (by rw [htk]; intro e2; injection e2 with _ e2; injection e2 with e2; rw [e2] at hen; exact h42 hen.symm)
                clear hext hI hc he htk h40 h42
                go_wp2_with fail
                go_roundw
                case rel => exact ⟨i + 1, by omega, by go_num, by trivial, HI⟩
                case measure => simp [intOf]; omega
            · have f1 : ((cn : Int) == 40) = false := by simp; omega
              have HI := hext (by rw [htk]; intro e2; injection e2 with e2 _; rw [e2] at hcn; exact h40 hcn.symm)
              clear hext hI hc he htk h40
              go_wp2_with fail
              go_roundw
              case rel => exact ⟨i + 1, by omega, by go_num, by trivial, HI⟩
              case measure => simp [intOf]; omega
          · have hd2 : decide ((i : Int) + 1 < (n : Int)) = false := by simp; omega
            have hST : SignT s := ⟨HOF.out, fun j e => by
              rcases Nat.lt_or_ge j i with hj | hj
              · exact hI.out j hj e
              · have := congrArg List.length e
                rw [List.length_take, List.length_drop, HN.out] at this
                simp at this
                omega⟩
            obtain ⟨l, hsl, hSg⟩ := sign_scan (by rw [HN.out]; omega) hST
            obtain ⟨c, w2, hcv, hR, hb2⟩ := run_bytes8 w1 s (by rw [HN.out]; unfold maxLen; omega)
            rw [HN.out] at hcv hR
            have HB2 := Lib.hid (HB1.out.trans (hb2.mono HB1.out.size))
            have HBK2 := Lib.hid (HBK.out.below hb2 HBK.out.lt)
            have H3 := Lib.hid (scan_any (some ⟨w1.heap.size, 0, none⟩) n c s w2 HN.out hR.bytes (by unfold maxLen; omega) (HT.out.below HB2.out))
            have HSG := Lib.hid hSg
            have HSL := Lib.hid hsl
            clear hb2 hR hI hST hSg hsl
            go_wp2_with fail
            clear hcv
            refine H3.out.mono ?_
            rintro e w3 ⟨hb3, hor⟩
            rcases hor with ⟨l', lv, hs, rfl, hz, hll⟩ | ⟨i', hs, _⟩
            case inr => rw [HSL.out] at hs; cases hs
            rw [HSL.out] at hs
            injection hs with hs
            subst hs
            obtain ⟨A1, c1, rfl, hc1, hc1m, hk⟩ := hz.toks
            obtain ⟨m, hm⟩ : ∃ m, l.length = m := ⟨_, rfl⟩
            rw [hm]
            rw [hm] at hc1
            have hmb : m ≤ 400 := by rw [← hm]; rw [HN.out] at hll; omega
            have HK := Lib.hid hk
            have HM := Lib.hid hm
            have HB3 := Lib.hid (HB2.out.trans (hb3.mono HB2.out.size))
            have HST3 : Hid (Strs w3 (some ⟨g, 0, none⟩) (signsL.take 6)) := Lib.hid (by rw [← HG.out]; exact (Strs.blk (HBK2.out.below hb3 HBK2.out.lt)).pre 6)
            have HBR : Hid (Below w3.heap.size w3 w3) := Lib.hid (Below.refl _ _)
            clear hz hk hb3 hll H3 hm
            go_wp2_with fail
            go_loopw [10, 11, 12, 13] (fun av iv _ _ wr => ∃ k : Nat, k ≤ m ∧ iv = .int .i64 (k : Int) ∧ av = .int .i64 (sat s k : Int) ∧ Hid (Below w3.heap.size w3 wr)) (fun _ iv _ _ _ => m - (intOf iv).toNat)
            case atStart => exact ⟨0, Nat.zero_le _, rfl, rfl, HBR⟩
            case round =>
              clear HBR
              obtain ⟨k, hkm, rfl, rfl, hI⟩ := hrel
              by_cases hlt3 : k < m
              · have hdk : decide ((k : Int) < (m : Int)) = true := by simpa using hlt3
                obtain ⟨x, hx⟩ : ∃ x, l[k]? = some x := ⟨_, List.getElem?_eq_getElem (by rw [HM.out]; exact hlt3)⟩
                obtain ⟨bx, off, rfl, hblt, e0, e1, e2, e3⟩ := HK.out k x hx
                have hxe := HSG.out.is k x hx
                have han : sat s k < n := by
                  have := sat_lt (s := s) (k := k) (m := l.length) (by rw [HM.out]; exact hlt3)
                  rw [← HSG.out.at_, HN.out] at this
                  exact this
                have hsn := sgN_le (s := s) (i := sat s k) (by rw [HN.out]; exact han)
                rw [HN.out] at hsn
                have hnext : sat s (k + 1) = sat s k + sgN s (sat s k) := rfl
                subst hxe
                dsimp only at e0 e1 e3
                obtain ⟨a, ha⟩ : ∃ a, sat s k = a := ⟨_, rfl⟩
                rw [ha] at e1 e3 han hsn hnext ⊢
                have hq : ∀ j, wr.cell? ⟨bx, j, none⟩ = w3.cell? ⟨bx, j, none⟩ := fun j => hI.out.cell (p := ⟨bx, j, none⟩) hblt
                rw [← hq] at e0 e1 e3
                have e0' : wr.cell? ⟨bx, off + k * 4, none⟩ = some (.int .u8 7) := e0
                have hsg : sgN s a = if a + 2 ≤ n ∧ (s.drop a).take 2 ∈ signsL.take 6 then 2 else 1 := by unfold sgN; rw [HN.out]
                have HIN : Hid (∀ W, Below w3.heap.size w3 W → Calls Tryd.prog 19 #[.slice (some ⟨g, 0, none⟩) 6 22, .string (str ((s.drop a).take 2))] W fun e w' => e = .returned (.bool (decide ((s.drop a).take 2 ∈ signsL.take 6))) ∧ w' = W) := Lib.hid (fun W hW => (in_any _ 6 22 (signsL.take 6) _ W rfl (by omega) (HST3.out.below hW)).mono fun e w' h => ⟨h.1, h.2.symm⟩)
                have HNX := Lib.hid hnext
                have HBN : Hid (∀ q, Below w3.heap.size w3 (wr.drewN q)) := Lib.hid (fun q => hI.out.trans ((drewN_below wr q).mono hI.out.size))
                obtain ⟨N, hN⟩ : ∃ N, sgN s a = N := ⟨_, rfl⟩
                rw [hN] at e1 hsn hsg HNX
                have hm2 := str_mid s a (a + 2) 2 (by omega)
                have hmN := str_mid s a (a + N) N (by omega)
                have hta := str_toList ((s.drop a).take N)
                have hab : a < 281474976710656 := by omega
                clear hx hnext hq hN ha e0 e2
                by_cases h2 : a + 2 ≤ n
                · have hd2' : decide ((a : Int) + 2 ≤ (n : Int)) = true := by simp; omega
                  have h2i : (a : Int) + 2 ≤ (n : Int) := by omega
                  obtain ⟨a2, ha2⟩ : ∃ a2, a + 2 = a2 := ⟨_, rfl⟩
                  have hwa : IntKind.i64.wrap ((a : Int) + 2) = (a2 : Int) := by rw [show (a : Int) + 2 = (a2 : Int) by omega]; exact IntWalk.i64_in _ (by omega)
                  have hdn : decide (a2 ≤ n) = true := by simp; omega
                  have hdni : decide ((a2 : Int) ≤ (n : Int)) = true := by simp; omega
                  have h2n : a2 ≤ n := by omega
                  have haa : a ≤ a2 := by omega
                  have h2ni : (a2 : Int) ≤ (n : Int) := by omega
                  have haai : (a : Int) ≤ (a2 : Int) := by omega
                  rw [ha2] at hm2
                  have h2o := h2
                  have HA2 := Lib.hid ha2
                  obtain ⟨q, hq⟩ : ∃ q, decide ((s.drop a).take 2 ∈ signsL.take 6) = q := ⟨_, rfl⟩
                  rw [hq] at HIN
                  obtain ⟨tk, htk⟩ : ∃ tk, (s.drop a).take 2 = tk := ⟨_, rfl⟩
                  rw [htk] at HIN hm2
                  go_wp2_with fail
                  go_quiet (first | (go_at_call 19; exact Calls.quiet_of_same (HIN.out _ (HBN.out _))))
                  cases q with
                  | true =>
                    obtain rfl : N = 2 := by rw [hsg, if_pos ⟨h2o, of_decide_eq_true hq⟩]
                    rw [htk] at e1 hta
                    have HNX2 : Hid (sat s (k + 1) = a2) := Lib.hid (by rw [HNX.out, HA2.out])
                    have htt : ((str tk).toList == (str tk).toList) = true := by simp
                    clear hsg htk hq
                    go_wp2_with fail
                    go_quiet (fail)
                    go_wp2_with fail
                    go_roundw
                    case rel => exact ⟨k + 1, by omega, by go_num, by rw [HNX2.out], by first | exact Lib.hid (HBN.out _) | exact Lib.hid ((HBN.out _).trans ((drewN_below _ _).mono (HBN.out _).size))⟩
                    case measure => simp [intOf]; omega
                  | false =>
                    obtain rfl : N = 1 := by rw [hsg, if_neg (fun h => absurd h.2 (of_decide_eq_false hq))]
                    obtain ⟨a1, ha1⟩ : ∃ a1, a + 1 = a1 := ⟨_, rfl⟩
                    have hw1a : IntKind.i64.wrap ((a : Int) + 1) = (a1 : Int) := by rw [show (a : Int) + 1 = (a1 : Int) by omega]; exact IntWalk.i64_in _ (by omega)
                    have hn1 : a1 ≤ n := by omega
                    have hn2 : a ≤ a1 := by omega
                    have hn1i : (a1 : Int) ≤ (n : Int) := by omega
                    have hn2i : (a : Int) ≤ (a1 : Int) := by omega
                    rw [ha1] at hmN
                    obtain ⟨t1, ht1⟩ : ∃ t1, (s.drop a).take 1 = t1 := ⟨_, rfl⟩
                    rw [ht1] at e1 hta hmN
                    have HNX2 : Hid (sat s (k + 1) = a1) := Lib.hid (by rw [HNX.out, ha1])
                    have h1i : (a : Int) + 1 = (a1 : Int) := by omega
                    have htt : ((str t1).toList == (str t1).toList) = true := by simp
                    clear hsg ha1 ht1 hq
                    go_wp2_with fail
                    go_quiet (fail)
                    go_wp2_with fail
                    go_roundw
                    case rel => exact ⟨k + 1, by omega, by go_num, by rw [HNX2.out], by first | exact Lib.hid (HBN.out _) | exact Lib.hid ((HBN.out _).trans ((drewN_below _ _).mono (HBN.out _).size))⟩
                    case measure => simp [intOf]; omega
                · have hd2' : decide ((a : Int) + 2 ≤ (n : Int)) = false := by simp; omega
                  obtain ⟨a2, ha2⟩ : ∃ a2, a + 2 = a2 := ⟨_, rfl⟩
                  have hwa : IntKind.i64.wrap ((a : Int) + 2) = (a2 : Int) := by rw [show (a : Int) + 2 = (a2 : Int) by omega]; exact IntWalk.i64_in _ (by omega)
                  have hdn : decide (a2 ≤ n) = false := by simp; omega
                  have hdni : decide ((a2 : Int) ≤ (n : Int)) = false := by simp; omega
                  go_wp2_with fail
                  go_quiet (fail)
                  obtain rfl : N = 1 := by rw [hsg, if_neg (fun h => h2 h.1)]
                  obtain ⟨a1, ha1⟩ : ∃ a1, a + 1 = a1 := ⟨_, rfl⟩
                  have hw1a : IntKind.i64.wrap ((a : Int) + 1) = (a1 : Int) := by rw [show (a : Int) + 1 = (a1 : Int) by omega]; exact IntWalk.i64_in _ (by omega)
                  have hn1 : a1 ≤ n := by omega
                  have hn2 : a ≤ a1 := by omega
                  have hn1i : (a1 : Int) ≤ (n : Int) := by omega
                  have hn2i : (a : Int) ≤ (a1 : Int) := by omega
                  rw [ha1] at hmN
                  obtain ⟨t1, ht1⟩ : ∃ t1, (s.drop a).take 1 = t1 := ⟨_, rfl⟩
                  rw [ht1] at e1 hta hmN
                  have HNX2 : Hid (sat s (k + 1) = a1) := Lib.hid (by rw [HNX.out, ha1])
                  have h1i : (a : Int) + 1 = (a1 : Int) := by omega
                  have htt : ((str t1).toList == (str t1).toList) = true := by simp
                  clear hsg ha1 ht1
                  go_wp2_with fail
                  go_quiet (fail)
                  go_wp2_with fail
                  go_roundw
                  case rel => exact ⟨k + 1, by omega, by go_num, by rw [HNX2.out], by first | exact Lib.hid (HBN.out _) | exact Lib.hid ((HBN.out _).trans ((drewN_below _ _).mono (HBN.out _).size))⟩
                  case measure => simp [intOf]; omega
              · obtain rfl : m = k := by omega
                have hdk : decide ((m : Int) < (m : Int)) = false := by simp
                have hend : sat s m = n := by rw [← HM.out, ← HSG.out.at_]; exact HN.out
                have hww := HB3.out.trans (hI.out.mono HB3.out.size)
                have H1 := Lib.hid (HWK.out wr hww)
                have HW2 := Lib.hid hww
                rw [hend]
                clear hI hww
                go_wp2_with fail
                refine H1.out.mono ?_
                rintro e w' ⟨rfl, hb⟩
                go_wp2_with fail
                go_ret
                exact ⟨rfl, HW2.out.trans (hb.mono HW2.out.size)⟩
end Go.Proofs.YtdnmdccjecoojaaDoor
