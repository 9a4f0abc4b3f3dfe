/- TokenWords. -/
import Derived.Test.YtdnmdccjecoojaaDoorMi
namespace Go.Proofs.YtdnmdccjecoojaaDoor
open Go.RowKit Tok
theorem str_of (b : ByteArray) : ∃ s, str s = b ∧ s.length = b.size := ⟨b.data.toList, by unfold str; cases b; simp, by cases b; simp [ByteArray.size]⟩
set_option maxRecDepth 20000 in
set_option maxHeartbeats 2000000 in
theorem words_law (s : List UInt8) (w : World) (hb : s.length ≤ maxLen) (hT : Tabs w) :
    Calls Tryd.prog 4 #[.string (str s)] w fun e W' => e = .returned (.bool true) ∧ Below w.heap.size w W' := by
  obtain ⟨n, hn⟩ : ∃ n, s.length = n := ⟨_, rfl⟩
  have hsz := str_sizeN hn
  rw [hn] at hb
  unfold maxLen at hb
  obtain ⟨p, hp⟩ : ∃ p, decide (s ∈ wordsL) = p := ⟨_, rfl⟩
  have HWd : Hid (∀ W, Below w.heap.size w W → Calls Tryd.prog 15 #[.string (str s)] W fun e w' => e = .returned (.bool p) ∧ W = w') := Lib.hid (fun W hW => by rw [← hp]; exact word_any s W (hT.below hW))
  have HRW : Hid (∀ W, Calls Tryd.prog 16 #[.string (str s)] W fun e w' => e = .returned (.bool p) ∧ Below W.heap.size W w') := Lib.hid (fun W => by rw [← hp]; exact rword_any s W)
  have HWK : Hid (∀ W, Below w.heap.size w W → Calls Tryd.prog 9 #[] W fun e w' => e = .returned (.bool true) ∧ Below W.heap.size W w') := Lib.hid (fun W hW => works_any W (hT.below hW))
  have HT := Lib.hid hT
  have HN := Lib.hid hn
  have HP := Lib.hid hp
  have hpp : (p != p) = false := by simp
  have hpe : (p == p) = true := by simp
  have H1 := Lib.hid (HWd.out w (Below.refl _ _))
  have H2 := Lib.hid (HRW.out w)
  clear hT hn hp
  by_cases hbig : 100 < n
  · have hd : decide ((n : Int) > 100) = true := by simp; omega
    go_enter Tryd.func4, Tryd.ntmps4
    go_wp2_with fail
    refine H1.out.mono ?_
    rintro e w' ⟨rfl, rfl⟩
    go_wp2_with fail
    refine H2.out.mono ?_
    rintro e w1 ⟨rfl, hb1⟩
    have H1 := Lib.hid (HWd.out w1 hb1)
    have H2 := Lib.hid (HRW.out w1)
    have HB := Lib.hid hb1
    clear hb1
    go_wp2_with fail
    refine H1.out.mono ?_
    rintro e w' ⟨rfl, rfl⟩
    go_wp2_with fail
    refine H2.out.mono ?_
    rintro e w2 ⟨rfl, hb2⟩
    have HB := Lib.hid (HB.out.trans (hb2.mono HB.out.size))
    have H3 := Lib.hid (HWK.out w2 HB.out)
    clear hb2
    go_wp2_with fail
    refine H3.out.mono ?_
    rintro e w3 ⟨rfl, hb3⟩
    have HB := Lib.hid (HB.out.trans (hb3.mono HB.out.size))
    clear hb3
    go_wp2_with fail
    go_ret
    exact ⟨rfl, HB.out⟩
  · have hd : decide ((n : Int) > 100) = false := by simp; omega
    have hlen : n ≤ 100 := by omega
    go_enter Tryd.func4, Tryd.ntmps4
    go_wp2_with fail
    refine H1.out.mono ?_
    rintro e w' ⟨rfl, rfl⟩
    go_wp2_with fail
    refine H2.out.mono ?_
    rintro e w1 ⟨rfl, hb1⟩
    obtain ⟨c, w2, hcv, hR, hb2⟩ := run_bytes8 w1 s (by rw [HN.out]; unfold maxLen; omega)
    rw [HN.out] at hcv hR
    have HB := Lib.hid (hb1.trans (hb2.mono hb1.size))
    have H3 := Lib.hid (scan_any (some ⟨w1.heap.size, 0, none⟩) n c s w2 HN.out hR.bytes (by unfold maxLen; omega) (HT.out.below HB.out))
    clear hb1 hb2 hR H1 H2
    go_wp2_with fail
    clear hcv
    refine H3.out.mono ?_
    rintro e w3 ⟨hb3, hor⟩
    have HB := Lib.hid (HB.out.trans (hb3.mono HB.out.size))
    have H1 := Lib.hid (HWd.out w3 HB.out)
    have hs16 : s.length ≤ 16384 := by rw [HN.out]; omega
    clear hb3
    cases p with
    | true =>
      have hin : s ∈ wordsL := of_decide_eq_true HP.out
      rw [scan_word hin] at hor
      rcases hor with ⟨l, lv, hs, rfl, hz, _⟩ | ⟨i, hs, _⟩
      case inr => cases hs
      injection hs with hs
      subst hs
      obtain ⟨g, c', rfl⟩ := tks_form hz (Nat.zero_lt_succ 0)
      obtain ⟨A, c2, e, _, _, hk⟩ := hz.toks
      injection e with e1 e2 e3
      subst e1
      obtain ⟨_, _, e, _, a0, a1, _, _⟩ := hk 0 _ rfl
      cases e
      have c0 : w3.cell? ⟨g, 0, none⟩ = some (.int .u8 6) := a0
      have c1 : w3.cell? ⟨g, 1, none⟩ = some (.string (str s)) := a1
      have H3 := Lib.hid (HWK.out w3 HB.out)
      have hss : ((str s).toList == (str s).toList) = true := by simp
      clear hz hk a0 a1 e2 e3 hin
      go_wp2_with fail
      refine H1.out.mono ?_
      rintro e w' ⟨rfl, rfl⟩
      go_wp2_with fail
      refine H3.out.mono ?_
      rintro e w4 ⟨rfl, hb4⟩
      have HB := Lib.hid (HB.out.trans (hb4.mono HB.out.size))
      clear hb4
      go_wp2_with fail
      go_ret
      exact ⟨rfl, HB.out⟩
    | false =>
      have hout : s ∉ wordsL := of_decide_eq_false HP.out
      obtain ⟨A, c1, m, l, e0, HK⟩ : ∃ A c1 m l, (∃ i e' : Nat, e = .returned (.tuple #[.slice A m c1, .int .i64 (i : Int), .int .i64 (e' : Int)])) ∧ Hid (l.length = m ∧ m ≤ 100 ∧ Toks w3 A l ∧ ∀ x ∈ l, x.1.k = 6 → x.1.t ≠ s) := by
        rcases hor with ⟨l, lv, hs, rfl, hz, hll⟩ | ⟨i, hs, rfl⟩
        · obtain ⟨A, c1, rfl, _, _, hk⟩ := hz.toks
          exact ⟨A, c1, l.length, l, ⟨0, 0, rfl⟩, Lib.hid ⟨rfl, by rw [HN.out] at hll; omega, hk, fun x hx h6 e => hout (by rw [← e]; exact scan_words hs16 hs x hx h6)⟩⟩
        · exact ⟨none, 0, 0, [], ⟨i, 10, rfl⟩, Lib.hid ⟨rfl, Nat.zero_le _, fun r x h => by simp at h, fun x hx => by simp at hx⟩⟩
      obtain ⟨i, e', rfl⟩ := e0
      have hm := HK.out.2.1
      clear hor hout
      go_wp2_with fail
      refine H1.out.mono ?_
      rintro e w' ⟨rfl, rfl⟩
      go_wp2_with fail
      go_loopw [6] (fun iv wr => ∃ k : Nat, k ≤ m ∧ iv = .int .i64 (k : Int) ∧ wr = w3) (fun iv _ => m - (intOf iv).toNat)
      case atStart => exact ⟨0, Nat.zero_le _, rfl, rfl⟩
      case round =>
        obtain ⟨k, hk, rfl, hw⟩ := hrel
        obtain rfl : w3 = _ := hw.symm
        by_cases hlt : k < m
        · have hd : decide ((k : Int) < (m : Int)) = true := by simpa using hlt
          obtain ⟨x, hx⟩ : ∃ x, l[k]? = some x := ⟨_, List.getElem?_eq_getElem (by rw [HK.out.1]; exact hlt)⟩
          obtain ⟨bx, off, rfl, hblt, e0, e1, _, _⟩ := HK.out.2.2.1 k x hx
          have h6 := HK.out.2.2.2 x (List.mem_of_getElem? hx)
          obtain ⟨⟨kx, tx, nx⟩, ax⟩ := x
          dsimp only at e0 e1 h6
          obtain ⟨un, hun⟩ : ∃ un, kx.toNat = un := ⟨_, rfl⟩
          have hbv : bv kx = .int .u8 (un : Int) := by rw [← hun]; rfl
          rw [hbv] at e0
          have ht := str_toList tx
          have hst := str_toList s
          by_cases hu : un = 6
          · have e6 : ((un : Int) == 6) = true := by simp; omega
            have hq : (tx == s) = false := by simpa using h6 (u8_of 6 rfl (hun.trans hu))
            clear hx hbv hun hu h6
            go_wp2_with fail
            go_roundw
            case rel => exact ⟨k + 1, by omega, by go_num, by trivial⟩
            case measure => simp [intOf]; omega
          · have e6 : ((un : Int) == 6) = false := by simp; omega
            clear hx hbv hun hu h6
            go_wp2_with fail
            go_roundw
            case rel => exact ⟨k + 1, by omega, by go_num, by trivial⟩
            case measure => simp [intOf]; omega
        · obtain rfl : m = k := by omega
          have hd : decide ((m : Int) < (m : Int)) = false := by simp
          have H3 := Lib.hid (HWK.out w3 HB.out)
          go_wp2_with fail
          refine H3.out.mono ?_
          rintro e w4 ⟨rfl, hb4⟩
          have HB := Lib.hid (HB.out.trans (hb4.mono HB.out.size))
          clear hb4
          go_wp2_with fail
          go_ret
          exact ⟨rfl, HB.out⟩
end Go.Proofs.YtdnmdccjecoojaaDoor
