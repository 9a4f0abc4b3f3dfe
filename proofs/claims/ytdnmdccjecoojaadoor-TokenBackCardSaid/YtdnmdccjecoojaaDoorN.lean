/- token: str. -/
import Derived.Test.YtdnmdccjecoojaaDoorK
namespace Go.Proofs.YtdnmdccjecoojaaDoor
open Go.RowKit Tok
namespace Tok
theorem u8_of {c : UInt8} {n : Nat} (d : UInt8) (hd : d.toNat = n) (h : c.toNat = n) : c = d := UInt8.toNat_inj.1 (h.trans hd.symm)
theorem u8_ne {c : UInt8} {n : Nat} (d : UInt8) (hd : d.toNat = n) (h : c.toNat ≠ n) : c ≠ d := fun e => h (by rw [e]; exact hd)
theorem strL_quote {s : List UInt8} {k : Nat} {c : UInt8} (h : s[k]? = some c) (hc : c.toNat = 34) : strL (s.drop k) = some ([], 1) := by
  rw [drop_cons h]; unfold strL; rw [if_pos (u8_of 34 rfl hc)]
theorem strL_bad {s : List UInt8} {k : Nat} {c : UInt8} (h : s[k]? = some c) (hq : c.toNat ≠ 34) (hc : c.toNat < 32 ∨ 126 < c.toNat) : strL (s.drop k) = none := by
  rw [drop_cons h]; unfold strL; rw [if_neg (u8_ne 34 rfl hq), if_pos (by
    rcases hc with hc | hc
    · exact .inl (UInt8.lt_iff_toNat_lt.2 hc)
    · exact .inr (UInt8.lt_iff_toNat_lt.2 hc))]
theorem strL_mid {s : List UInt8} {k : Nat} {c : UInt8} (h : s[k]? = some c) (hq : c.toNat ≠ 34) (h1 : 32 ≤ c.toNat) (h2 : c.toNat ≤ 126) : strL (s.drop k) = if c = 92 then
      match s.drop (k + 1) with
      | [] => none
      | e :: q => if e = 110 then (strL q).map fun x => (10 :: x.1, x.2 + 2) else if e = 92 ∨ e = 34 then (strL q).map fun x => (e :: x.1, x.2 + 2) else none
    else (strL (s.drop (k + 1))).map fun x => (c :: x.1, x.2 + 1) := by
  rw [drop_cons h]
  conv => lhs; unfold strL
  rw [if_neg (u8_ne 34 rfl hq), if_neg (by
    rintro (hc | hc)
    · have := UInt8.lt_iff_toNat_lt.1 hc; exact absurd this (by show ¬ c.toNat < 32; omega)
    · have := UInt8.lt_iff_toNat_lt.1 hc; exact absurd this (by show ¬ 126 < c.toNat; omega))]
  rfl
theorem strL_plain {s : List UInt8} {k : Nat} {c : UInt8} (h : s[k]? = some c) (hq : c.toNat ≠ 34) (h1 : 32 ≤ c.toNat) (h2 : c.toNat ≤ 126) (h3 : c.toNat ≠ 92) : strL (s.drop k) = (strL (s.drop (k + 1))).map fun x => (c :: x.1, x.2 + 1) := by
  rw [strL_mid h hq h1 h2, if_neg (u8_ne 92 rfl h3)]
theorem strL_cut {s : List UInt8} {k : Nat} {c : UInt8} (h : s[k]? = some c) (h3 : c.toNat = 92) (hn : s.length ≤ k + 1) : strL (s.drop k) = none := by
  rw [strL_mid h (by omega) (by omega) (by omega), if_pos (u8_of 92 rfl h3), List.drop_eq_nil_of_le hn]
theorem strL_n {s : List UInt8} {k : Nat} {c e : UInt8} (h : s[k]? = some c) (h3 : c.toNat = 92) (he : s[k + 1]? = some e) (h4 : e.toNat = 110) : strL (s.drop k) = (strL (s.drop (k + 2))).map fun x => (10 :: x.1, x.2 + 2) := by
  rw [strL_mid h (by omega) (by omega) (by omega), if_pos (u8_of 92 rfl h3), drop_cons he]
  simp only
  rw [if_pos (u8_of 110 rfl h4)]
theorem strL_q {s : List UInt8} {k : Nat} {c e : UInt8} (h : s[k]? = some c) (h3 : c.toNat = 92) (he : s[k + 1]? = some e) (h4 : e.toNat = 92 ∨ e.toNat = 34) : strL (s.drop k) = (strL (s.drop (k + 2))).map fun x => (e :: x.1, x.2 + 2) := by
  rw [strL_mid h (by omega) (by omega) (by omega), if_pos (u8_of 92 rfl h3), drop_cons he]
  simp only
  rw [if_neg (u8_ne (n := 110) 110 rfl (by omega)), if_pos (by
    rcases h4 with h4 | h4
    · exact .inl (u8_of 92 rfl h4)
    · exact .inr (u8_of 34 rfl h4))]
theorem strL_other {s : List UInt8} {k : Nat} {c e : UInt8} (h : s[k]? = some c) (h3 : c.toNat = 92) (he : s[k + 1]? = some e) (h4 : e.toNat ≠ 110) (h5 : e.toNat ≠ 92) (h6 : e.toNat ≠ 34) : strL (s.drop k) = none := by
  rw [strL_mid h (by omega) (by omega) (by omega), if_pos (u8_of 92 rfl h3), drop_cons he]
  simp only
  rw [if_neg (u8_ne 110 rfl h4), if_neg (by
    rintro (h | h)
    · exact u8_ne 92 rfl h5 h
    · exact u8_ne 34 rfl h6 h)]
end Tok
/-- Between the rounds of str. -/
structure StrI (w0 wr : World) (s pre : List UInt8) (k : Nat) : Prop where
  bel : Below w0.heap.size w0 wr
  bui : Lib.IsBuilder 55 5 w0.heap.size w0.heap.size (pre.map bv) wr
  len : pre.length + 1 ≤ k
  is : strL (s.drop 1) = (strL (s.drop k)).map fun y => (pre ++ y.1, k - 1 + y.2)
theorem StrI.none_ {w0 wr : World} {s pre : List UInt8} {k : Nat} (h : StrI w0 wr s pre k) (hs : strL (s.drop k) = none) : strN s = none := by
  unfold strN; rw [h.is, hs]; rfl
theorem StrI.done {w0 wr : World} {s pre : List UInt8} {k : Nat} (h : StrI w0 wr s pre k) (hs : strL (s.drop k) = some ([], 1)) : strN s = some (⟨5, pre, 0⟩, k + 1) := by
  have := h.len
  unfold strN; rw [h.is, hs]
  show some ((⟨5, pre ++ [], 0⟩ : Tk), k - 1 + 1 + 1) = _
  rw [List.append_nil, show k - 1 + 1 = k by omega]
theorem StrI.put {w0 wr w1 : World} {s pre : List UInt8} {k m : Nat} {c : UInt8} (h : StrI w0 wr s pre k) (hm : 1 ≤ m) (hs : strL (s.drop k) = (strL (s.drop (k + m))).map fun x => (c :: x.1, x.2 + m)) (hB : Below w0.heap.size wr w1)
    (hb : Lib.IsBuilder 55 5 w0.heap.size w0.heap.size ((pre ++ [c]).map bv) w1) : StrI w0 w1 s (pre ++ [c]) (k + m) :=
  ⟨h.bel.trans hB, hb, by rw [List.length_append]; have := h.len; simp; omega, by
    rw [h.is, hs, Option.map_map]
    congr 1
    funext x
    show (pre ++ c :: x.1, k - 1 + (x.2 + m)) = (pre ++ [c] ++ x.1, k + m - 1 + x.2)
    have := h.len
    rw [List.append_assoc]
    congr 1
    omega⟩
set_option maxHeartbeats 4000000 in
theorem str_any (s : List UInt8) (w : World) (hb : s.length < 4294967296) (h0 : 0 < s.length) :
    Calls Tryd.prog 40 #[.string (str s)] w (OneP (strN s) w) := by
  obtain ⟨n, hn⟩ : ∃ n, s.length = n := ⟨_, rfl⟩
  have hsz := str_sizeN hn
  rw [hn] at hb h0
  obtain ⟨wt, hwt⟩ : ∃ wt, w.alloc (.cells #[.int .u8 0, .string ⟨#[]⟩, .int .i64 0, .int .i64 0] 34) = wt := ⟨_, rfl⟩
  have hRt : Blk wt w.heap.size 34 #[.int .u8 0, .string ⟨#[]⟩, .int .i64 0, .int .i64 0] := by rw [← hwt]; exact Blk.new _ _ _
  have hbt : Below w.heap.size w wt := by rw [← hwt]; exact (Below.refl _ _).alloc (Nat.le_refl _) _
  have HBU := Lib.hid (Lib.fresh_isBuilder 55 5 wt)
  obtain ⟨w1, hw1⟩ : ∃ w1, wt.alloc (.cells #[.pointer none, .slice none 0 0] 55) = w1 := ⟨_, rfl⟩
  rw [hw1] at HBU
  have hI : StrI wt w1 s [] 1 := ⟨by rw [← hw1]; exact (Below.refl _ _).alloc (Nat.le_refl _) _, HBU.out, Nat.le_refl _, by simp⟩
  have HR : Hid (∀ W, Below wt.heap.size wt W → Blk W w.heap.size 34 #[.int .u8 0, .string ⟨#[]⟩, .int .i64 0, .int .i64 0]) := Lib.hid (fun W hW => hRt.below hW hRt.lt)
  have HB : Hid (∀ W, Below wt.heap.size wt W → Below w.heap.size w W) := Lib.hid (fun W hW => hbt.trans (hW.mono hbt.size))
  have HWT : Hid (w.heap.size < wt.heap.size) := Lib.hid hRt.lt
  have HN := Lib.hid hn
  have HI := Lib.hid hI
  obtain ⟨b, hbb⟩ : ∃ b, wt.heap.size = b := ⟨_, rfl⟩
  have HBB := Lib.hid hbb
  clear hRt hbt hI HBU hn
  go_enter Tryd.func40, Tryd.ntmps40
  go_wp2_with fail
  go_loopw [5, 6] (fun kv _ wr => ∃ (k : Nat) (pre : List UInt8), k ≤ n ∧ kv = .int .i64 (k : Int) ∧ Hid (StrI wt wr s pre k)) (fun kv _ _ => n - (intOf kv).toNat)
  case atStart => exact ⟨1, [], by omega, rfl, HI⟩
  case round =>
    clear HI
    obtain ⟨k, pre, hk, rfl, hI⟩ := hrel
    have HRB := Lib.hid (HR.out wr hI.out.bel)
    have HBB2 := Lib.hid (HB.out wr hI.out.bel)
    obtain ⟨r0, r1, r2, r3, f0⟩ := HRB.out.told4
    by_cases hlt : k < n
    · have hd : decide ((k : Int) < (n : Int)) = true := by simpa using hlt
      obtain ⟨c, hc⟩ : ∃ c, s[k]? = some c := ⟨_, List.getElem?_eq_getElem (by rw [HN.out]; exact hlt)⟩
      have hks : k < (str s).size := by rw [hsz]; exact hlt
      have hcc := str_at hc hks
      obtain ⟨cn, hcn⟩ : ∃ cn, c.toNat = cn := ⟨_, rfl⟩
      have hbui := hI.out.bui
      rw [HBB.out] at hbui
      have hbw : b ≤ wr.heap.size := by rw [← HBB.out]; exact hI.out.bel.size
      by_cases h34 : cn = 34
      · have e34 : ((cn : Int) == 34) = true := by simp; omega
        have HX := Lib.hid (hI.out.done (strL_quote hc (by omega)))
        have H1 := Lib.hid (bstring_any b b pre wr hbui hbw)
        have hkk : k + 1 < 4294967296 := by omega
        clear hI hc hbui h34
        go_wp2_with fail
        refine H1.out.mono ?_
        rintro e' w' ⟨rfl, h2⟩
        have HR2 := Lib.hid (HRB.out.same (h2.block w.heap.size (by rw [← HBB.out]; exact HWT.out)))
        have HB2 := Lib.hid (HBB2.out.trans (h2.mono (by rw [← HBB.out]; exact Nat.le_of_lt HWT.out)))
        obtain ⟨r0, r1, r2, r3, f0⟩ := HR2.out.told4
        clear h2
        go_wp2_with fail
        refine bodyPost_ret (results_cell_row2 rfl _ _ w.heap.size 34 _ (0, 0) _ rfl HR2.out.put4 Tryd.underlying34 rfl infoTk) rfl ?_
        exact ⟨below_put4 HB2.out (Nat.le_refl _), ⟨5, pre, 0⟩, k + 1, by simp [tkV, tkC, bv], .inr HX.out⟩
      · have e34 : ((cn : Int) == 34) = false := by simp; omega
        by_cases h32 : cn < 32
        · have e32 : decide ((cn : Int) < 32) = true := by simp; omega
          have HX := Lib.hid (hI.out.none_ (strL_bad hc (by omega) (by omega)))
          clear hI hc hbui h34 h32
          go_wp2_with fail
          refine bodyPost_ret (results_cell_row2 rfl _ _ w.heap.size 34 _ (0, 0) _ rfl HRB.out.put4 Tryd.underlying34 rfl infoTk) rfl ?_
          exact ⟨below_put4 HBB2.out (Nat.le_refl _), noTk, 0, rfl, .inl ⟨HX.out, rfl⟩⟩
        · have e32 : decide ((cn : Int) < 32) = false := by simp; omega
          by_cases h126 : 126 < cn
          · have e126 : decide ((cn : Int) > 126) = true := by simp; omega
            have HX := Lib.hid (hI.out.none_ (strL_bad hc (by omega) (by omega)))
            clear hI hc hbui h34 h32 h126
            go_wp2_with fail
            refine bodyPost_ret (results_cell_row2 rfl _ _ w.heap.size 34 _ (0, 0) _ rfl HRB.out.put4 Tryd.underlying34 rfl infoTk) rfl ?_
            exact ⟨below_put4 HBB2.out (Nat.le_refl _), noTk, 0, rfl, .inl ⟨HX.out, rfl⟩⟩
          · have e126 : decide ((cn : Int) > 126) = false := by simp; omega
            by_cases h92 : cn = 92
            · have e92 : ((cn : Int) == 92) = true := by simp; omega
              by_cases hk1 : k + 1 = n
              · have ek : ((k : Int) + 1 == (n : Int)) = true := by simp; omega
                have HX := Lib.hid (hI.out.none_ (strL_cut hc (by omega) (by rw [HN.out]; omega)))
                clear hI hc hbui h34 h32 h126 h92 hk1
                go_wp2_with fail
                refine bodyPost_ret (results_cell_row2 rfl _ _ w.heap.size 34 _ (0, 0) _ rfl HRB.out.put4 Tryd.underlying34 rfl infoTk) rfl ?_
                exact ⟨below_put4 HBB2.out (Nat.le_refl _), noTk, 0, rfl, .inl ⟨HX.out, rfl⟩⟩
              · have ek : ((k : Int) + 1 == (n : Int)) = false := by simp; omega
                obtain ⟨e, he⟩ : ∃ e, s[k + 1]? = some e := ⟨_, List.getElem?_eq_getElem (by rw [HN.out]; omega)⟩
                have hks1 : k + 1 < (str s).size := by rw [hsz]; omega
                have hce := str_at he hks1
                obtain ⟨en, hen⟩ : ∃ en, e.toNat = en := ⟨_, rfl⟩
                have hk1n : (k : Int) + 1 < (n : Int) := by omega
                have hk1m : k + 1 < n := by omega
                by_cases h110 : en = 110
                · have e110 : ((en : Int) == 110) = true := by simp; omega
                  have H1 := writeByte_any b b pre 10 wr hbui (by have := hI.out.len; omega) hbw
                  rw [show bv 10 = .int .u8 10 from rfl] at H1
                  have H1 := Lib.hid H1
                  have HST : Hid (∀ w', Lib.IsBuilder 55 5 b b ((pre ++ [10]).map bv) w' → Below b wr w' → StrI wt w' s (pre ++ [10]) (k + 2)) := Lib.hid (fun w' h1 h2 => hI.out.put (by omega) (strL_n hc (by omega) he (by omega)) (by rw [HBB.out]; exact h2) (by rw [HBB.out]; exact h1))
                  clear hI hbui hc he h34 h32 h126 h92 hk1 h110
                  go_wp2_with fail
                  refine H1.out.mono ?_
                  rintro e' w' ⟨rfl, h1, h2⟩
                  have HO := Lib.hid (HST.out _ h1 h2)
                  clear h1 h2
                  go_wp2_with fail
                  go_roundw
                  case rel => exact ⟨k + 2, pre ++ [10], by omega, by go_num, HO⟩
                  case measure => simp [intOf]; omega
                · have e110 : ((en : Int) == 110) = false := by simp; omega
                  by_cases h92e : en = 92
                  · have e92e : ((en : Int) != 92) = false := by simp; omega
                    have H1 := writeByte_any b b pre e wr hbui (by have := hI.out.len; omega) hbw
                    rw [show bv e = .int .u8 (en : Int) from by unfold bv; rw [hen]] at H1
                    have H1 := Lib.hid H1
                    have HST : Hid (∀ w', Lib.IsBuilder 55 5 b b ((pre ++ [e]).map bv) w' → Below b wr w' → StrI wt w' s (pre ++ [e]) (k + 2)) := Lib.hid (fun w' h1 h2 => hI.out.put (by omega) (strL_q hc (by omega) he (by omega)) (by rw [HBB.out]; exact h2) (by rw [HBB.out]; exact h1))
                    clear hI hbui hc he h34 h32 h126 h92 hk1 h110 h92e
                    go_wp2_with fail
                    refine H1.out.mono ?_
                    rintro e' w' ⟨rfl, h1, h2⟩
                    have HO := Lib.hid (HST.out _ h1 h2)
                    clear h1 h2
                    go_wp2_with fail
                    go_roundw
                    case rel => exact ⟨k + 2, pre ++ [e], by omega, by go_num, HO⟩
                    case measure => simp [intOf]; omega
                  · have e92e : ((en : Int) != 92) = true := by simp; omega
                    by_cases h34e : en = 34
                    · have e34e : ((en : Int) != 34) = false := by simp; omega
                      have H1 := writeByte_any b b pre e wr hbui (by have := hI.out.len; omega) hbw
                      rw [show bv e = .int .u8 (en : Int) from by unfold bv; rw [hen]] at H1
                      have H1 := Lib.hid H1
                      have HST : Hid (∀ w', Lib.IsBuilder 55 5 b b ((pre ++ [e]).map bv) w' → Below b wr w' → StrI wt w' s (pre ++ [e]) (k + 2)) := Lib.hid (fun w' h1 h2 => hI.out.put (by omega) (strL_q hc (by omega) he (by omega)) (by rw [HBB.out]; exact h2) (by rw [HBB.out]; exact h1))
                      clear hI hbui hc he h34 h32 h126 h92 hk1 h110 h92e h34e
                      go_wp2_with fail
                      refine H1.out.mono ?_
                      rintro e' w' ⟨rfl, h1, h2⟩
                      have HO := Lib.hid (HST.out _ h1 h2)
                      clear h1 h2
                      go_wp2_with fail
                      go_roundw
                      case rel => exact ⟨k + 2, pre ++ [e], by omega, by go_num, HO⟩
                      case measure => simp [intOf]; omega
                    · have e34e : ((en : Int) != 34) = true := by simp; omega
                      have HX := Lib.hid (hI.out.none_ (strL_other hc (by omega) he (by omega) (by omega) (by omega)))
                      clear hI hc he hbui h34 h32 h126 h92 hk1 h110 h92e h34e
                      go_wp2_with fail
                      refine bodyPost_ret (results_cell_row2 rfl _ _ w.heap.size 34 _ (0, 0) _ rfl HRB.out.put4 Tryd.underlying34 rfl infoTk) rfl ?_
                      exact ⟨below_put4 HBB2.out (Nat.le_refl _), noTk, 0, rfl, .inl ⟨HX.out, rfl⟩⟩
            · have e92 : ((cn : Int) == 92) = false := by simp; omega
              have H1 := writeByte_any b b pre c wr hbui (by have := hI.out.len; omega) hbw
              rw [show bv c = .int .u8 (cn : Int) from by unfold bv; rw [hcn]] at H1
              have H1 := Lib.hid H1
              have HST : Hid (∀ w', Lib.IsBuilder 55 5 b b ((pre ++ [c]).map bv) w' → Below b wr w' → StrI wt w' s (pre ++ [c]) (k + 1)) := Lib.hid (fun w' h1 h2 => hI.out.put (by omega) (strL_plain hc (by omega) (by omega) (by omega) (by omega)) (by rw [HBB.out]; exact h2) (by rw [HBB.out]; exact h1))
              clear hI hbui hc h34 h32 h126 h92
              go_wp2_with fail
              refine H1.out.mono ?_
              rintro e' w' ⟨rfl, h1, h2⟩
              have HO := Lib.hid (HST.out _ h1 h2)
              clear h1 h2
              go_wp2_with fail
              go_roundw
              case rel => exact ⟨k + 1, pre ++ [c], by omega, by go_num, HO⟩
              case measure => simp [intOf]; omega
    · obtain rfl : n = k := by omega
      have hd : decide ((n : Int) < (n : Int)) = false := by simp
      have HX := Lib.hid (hI.out.none_ (by rw [List.drop_eq_nil_of_le (by rw [HN.out]; omega)]; rfl))
      clear hI 
      go_wp2_with fail
      refine bodyPost_ret (results_cell_row2 rfl _ _ w.heap.size 34 _ (0, 0) _ rfl HRB.out.put4 Tryd.underlying34 rfl infoTk) rfl ?_
      exact ⟨below_put4 HBB2.out (Nat.le_refl _), noTk, 0, rfl, .inl ⟨HX.out, rfl⟩⟩
end Go.Proofs.YtdnmdccjecoojaaDoor
