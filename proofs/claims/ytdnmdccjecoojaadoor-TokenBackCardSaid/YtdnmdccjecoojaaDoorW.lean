/- token: the reference's Scan. -/
import Derived.Test.YtdnmdccjecoojaaDoorV
namespace Go.Proofs.YtdnmdccjecoojaaDoor
open Go.RowKit Tok
set_option maxHeartbeats 4000000 in
theorem rscan_any (A : Option Addr) (len cap : Nat) (s : List UInt8) (w : World) (hl : s.length = len) (hA : Bytes w A s) (hm : len ≤ maxLen) :
    Calls Tryd.prog 12 #[.slice A len cap] w (ScanP w.heap.size s w) := by
  unfold maxLen at hm
  have hsz := str_sizeN hl
  by_cases hbig : 16384 < len
  · have hd : decide ((len : Int) > 16384) = true := by simp; omega
    have HX : Hid (scanR s = .err 16384) := Lib.hid (by unfold scanR; rw [hl, if_pos hbig])
    clear hA hl hbig
    go_enter Tryd.func12, Tryd.ntmps12
    go_wp2_with fail
    go_ret3
    exact ⟨Below.refl _ _, .inr ⟨16384, HX.out, rfl⟩⟩
  · have hd : decide ((len : Int) > 16384) = false := by simp; omega
    have hcv := run_str8L w A len cap s hl hA
    have HX : Hid (scanR s = res s 0 []) := Lib.hid (by unfold scanR; rw [hl, if_neg hbig])
    have HN := Lib.hid hl
    have hlen : len ≤ 16384 := by omega
    have HI : Hid (ScI w w s len 0 (.slice none 0 0) []) := Lib.hid ⟨Below.refl _ _, TksZ.nil _ _, Nat.zero_le _, Nat.le_refl _, rfl⟩
    clear hA hl hbig
    go_enter Tryd.func12, Tryd.ntmps12
    go_wp2_with fail
    clear hcv
    go_loopw [6, 7, 8, 9] (fun lv iv _ _ wr => ∃ (i : Nat) (l : List (Tk × Nat)) (lx : Value), lv = lx ∧ iv = .int .i64 (i : Int) ∧ Hid (ScI w wr s len i lx l)) (fun _ iv _ _ _ => len - (intOf iv).toNat)
    case atStart => exact ⟨0, [], _, rfl, rfl, HI⟩
    case round =>
      clear HI
      obtain ⟨m, l, lv, rfl, rfl, hI⟩ := hrel
      have hm2 := hI.out.le
      by_cases hlt : m < len
      · have hme : decide ((m : Int) < (len : Int)) = true := by simpa using hlt
        obtain ⟨c, hc⟩ : ∃ c, s[m]? = some c := ⟨_, List.getElem?_eq_getElem (by rw [HN.out]; exact hlt)⟩
        have hdc := drop_cons hc
        have hex := str_suf HN.out m
        have H1 := rblank_any (s.drop m) c wr (by rw [drop_len HN.out]; omega) (by rw [hdc]; rfl)
        have HDC := Lib.hid hdc
        cases hbl : blankN (s.drop m) with
        | none =>
          have hbi : blankI (s.drop m) = -1 := by unfold blankI; rw [hbl]
          rw [hbi] at H1
          have H1 := Lib.hid H1
          have HE : Hid (scanR s = .err m) := Lib.hid (by rw [HX.out, hI.out.is, res_open (by rw [HN.out]; exact hlt) hbl])
          have HB := Lib.hid hI.out.bel
          clear hc hdc hbl hbi hI
          go_wp2_with fail
          refine H1.out.mono ?_
          rintro e w' ⟨rfl, rfl⟩
          go_wp2_with fail
          go_ret3
          exact ⟨HB.out, .inr ⟨m, HE.out, rfl⟩⟩
        | some bn =>
          have hbi : blankI (s.drop m) = (bn : Int) := by unfold blankI; rw [hbl]
          rw [hbi] at H1
          have hbl2 : bn ≤ len - m := by
            have h2 := hbl
            rw [blankN_at hc] at h2
            split at h2
            · cases h2; omega
            · split at h2
              · have := comS_le _ _ _ _ (Nat.le_refl _) h2
                rw [drop_len HN.out] at this
                omega
              · cases h2; omega
          have hmb : m + bn ≤ len := by omega
          have hn0 : decide ((bn : Int) < 0) = false := by simp
          by_cases hb0 : 0 < bn
          · have hbp : decide ((bn : Int) > 0) = true := by simp; omega
            have HI : Hid (∀ lx, TksZ w.heap.size wr lx l → ScI w wr s len (m + bn) lx l) := Lib.hid fun lx hx => ⟨hI.out.bel, hx, hmb, by have := hI.out.len; omega, by rw [hI.out.is, res_blank (by rw [HN.out]; exact hlt) hbl hb0]⟩
            have H1 := Lib.hid H1
            have HTK := Lib.hid hI.out.toks
            clear hc hdc hbl hbi hI hbl2
            go_wp2_with fail
            refine H1.out.mono ?_
            rintro e w' ⟨rfl, rfl⟩
            go_wp2_with fail
            go_roundw
            case rel => exact ⟨m + bn, l, _, rfl, by go_num, Lib.hid (HI.out _ HTK.out)⟩
            case measure => simp [intOf]; omega
          · obtain rfl : bn = 0 := by omega
            have H1 := Lib.hid H1
            have H2 := Lib.hid (rone_any (s.drop m) c wr (by rw [hdc]; rfl) (by rw [drop_len HN.out]; omega))
            have HB0 := Lib.hid hbl
            have HR : Hid (res s 0 [] = res s m l) := Lib.hid hI.out.is
            clear hc hdc hbl hbi hbl2 hb0 hmb
            go_wp2_with fail
            refine H1.out.mono ?_
            rintro e w' ⟨rfl, rfl⟩
            go_wp2_with fail
            refine H2.out.mono ?_
            rintro e w1 ⟨hb1, t, k, rfl, hor⟩
            have HI := Lib.hid (hI.out.below hb1)
            clear H2 hb1 hI H1
            simp only [tkV, tkC, bv]
            rcases hor with ⟨ho, rfl⟩ | ho
            · have HE : Hid (scanR s = .err m) := Lib.hid (by rw [HX.out, HR.out, res_none (by rw [HN.out]; exact hlt) HB0.out ho])
              have HB : Hid (∀ o, Below w.heap.size w (w1.alloc o)) := Lib.hid (fun o => HI.out.bel.alloc HI.out.bel.size o)
              clear ho HI
              go_wp2_with fail
              go_ret3
              exact ⟨HB.out _, .inr ⟨m, HE.out, rfl⟩⟩
            · have hk := oneN_size (by rw [← HDC.out]; exact ho)
              have hkl := congrArg List.length HDC.out
              rw [drop_len HN.out, List.length_cons] at hkl
              have hk0 : ((k : Int) == 0) = false := by simp; omega
              have hmk : m + k ≤ len := by omega
              have hk1 : 1 ≤ k := hk.1
              have HR2 : Hid (res s 0 [] = res s (m + k) (l ++ [(t, m)])) := Lib.hid (by rw [HR.out, res_one (by rw [HN.out]; exact hlt) HB0.out ho hk.1])
              have hsz0 := HI.out.bel.size
              have hbA : Below w.heap.size w ((w1.alloc (.cells #[.int .u8 (t.k.toNat : Int), .string (str t.t), .int .i64 (t.n : Int), .int .i64 (m : Int)] 34)).alloc (.cells #[.int .u8 (t.k.toNat : Int), .string (str t.t), .int .i64 (t.n : Int), .int .i64 (m : Int)] 34)) := (HI.out.bel.alloc hsz0 _).alloc (by simp; omega) _
              have hT2 := (HI.out.toks.below ((Below.refl _ _).alloc (Nat.le_refl _) (.cells #[.int .u8 (t.k.toNat : Int), .string (str t.t), .int .i64 (t.n : Int), .int .i64 (m : Int)] 34)))
              have hT3 := hT2.below ((Below.refl _ _).alloc (Nat.le_refl _) (.cells #[.int .u8 (t.k.toNat : Int), .string (str t.t), .int .i64 (t.n : Int), .int .i64 (m : Int)] 34))
              have hBk := Blk.new (w1.alloc (.cells #[.int .u8 (t.k.toNat : Int), .string (str t.t), .int .i64 (t.n : Int), .int .i64 (m : Int)] 34)) 34 #[.int .u8 (t.k.toNat : Int), .string (str t.t), .int .i64 (t.n : Int), .int .i64 (m : Int)]
              have hsA : (w1.alloc (.cells #[.int .u8 (t.k.toNat : Int), .string (str t.t), .int .i64 (t.n : Int), .int .i64 (m : Int)] 34)).heap.size = w1.heap.size + 1 := by simp
              rw [hsA] at hBk
              obtain ⟨lv2, w3, hrun, hT4, hg, _⟩ := hT3.push (w1.heap.size + 1) t m hBk (by simp; omega) (by have := HI.out.len; omega)
              have HRUN := Lib.hid hrun
              have HI2 : Hid (ScI w w3 s len (m + k) lv2 (l ++ [(t, m)])) := Lib.hid ⟨hbA.grown hg (by simp; omega) (fun j hj => (hT3.lt j hj).1), hT4, hmk, by have := HI.out.len; rw [List.length_append]; simp; omega, HR2.out⟩
              clear ho hk hkl hbA hT2 hT3 hBk hsA hrun hT4 hg HI hsz0
              go_wp2_with (at_builtin; refine wpList_app rfl _ _ 25 rfl _ _ _ _ rfl rfl HRUN.out ?_)
              go_roundw
              case rel => exact ⟨m + k, _, _, rfl, by go_num, HI2⟩
              case measure => simp [intOf]; omega
      · obtain rfl : m = len := by omega
        have hme : decide ((m : Int) < (m : Int)) = false := by simp
        have HE : Hid (scanR s = .ok l ∧ l.length ≤ s.length) := Lib.hid ⟨by rw [HX.out, hI.out.is, res_end (by rw [HN.out]; exact Nat.le_refl _)], by have := hI.out.len; have := HN.out; omega⟩
        have HB := Lib.hid hI.out
        clear hI
        go_wp2_with fail
        go_ret3
        exact ⟨HB.out.bel, .inl ⟨l, _, HE.out.1, rfl, HB.out.toks, HE.out.2⟩⟩
end Go.Proofs.YtdnmdccjecoojaaDoor
