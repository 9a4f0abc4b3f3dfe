/- token: Scan. -/
import Derived.Test.YtdnmdccjecoojaaDoorP
namespace Go.Proofs.YtdnmdccjecoojaaDoor
open Go.RowKit Tok
namespace Tok
def scanR (s : List UInt8) : Res := if 16384 < s.length then .err 16384 else res s 0 []
theorem strL_le (m : Nat) : ∀ (r x : List UInt8) (k : Nat), r.length ≤ m → strL r = some (x, k) → 1 ≤ k ∧ k ≤ r.length := by
  induction m with
  | zero =>
    intro r x k hm h
    obtain rfl : r = [] := List.eq_nil_of_length_eq_zero (by omega)
    cases h
  | succ m ih =>
    intro r x k hm h
    cases r with
    | nil => cases h
    | cons c r =>
      have hm2 : r.length ≤ m := by simpa using hm
      unfold strL at h
      split at h
      · cases h; simp
      · split at h
        · cases h
        · split at h
          · cases r with
            | nil => cases h
            | cons e q =>
              have hm3 : q.length ≤ m := by simp at hm2; omega
              simp only at h
              split at h
              · obtain ⟨⟨y, j⟩, hy, he⟩ := Option.map_eq_some_iff.1 h
                cases he
                have := ih q y j hm3 hy
                simp; omega
              · split at h
                · obtain ⟨⟨y, j⟩, hy, he⟩ := Option.map_eq_some_iff.1 h
                  cases he
                  have := ih q y j hm3 hy
                  simp; omega
                · cases h
          · obtain ⟨⟨y, j⟩, hy, he⟩ := Option.map_eq_some_iff.1 h
            cases he
            have := ih r y j hm2 hy
            simp; omega
theorem signs_pos : ∀ x ∈ signsL, 1 ≤ x.length := by decide
theorem oneN_size {c : UInt8} {r : List UInt8} {t : Tk} {n : Nat} (h : oneN (c :: r) = some (t, n)) : 1 ≤ n ∧ n ≤ r.length + 1 := by
  have hc : (c :: r)[0]? = some c := rfl
  have hON : oneN (c :: r) = if smallB c || greatB c then nameN (c :: r) else if c = 39 then tickN (c :: r) else if digitB c then numN (c :: r) else if c = 34 then strN (c :: r) else signN (c :: r) := rfl
  rw [hON] at h
  by_cases hsg : (smallB c || greatB c) = true
  · rw [if_pos hsg] at h
    have hp : partB c = true := by unfold partB; rw [hsg]; rfl
    unfold nameN at h
    by_cases h32 : 32 < prtN (c :: r)
    · rw [if_pos h32] at h; cases h
    · rw [if_neg h32] at h
      cases h
      have := prt_le (c :: r)
      exact ⟨prt_head hc hp, by simpa using this⟩
  · rw [if_neg hsg] at h
    by_cases h39 : c = 39
    · rw [if_pos h39] at h
      unfold tickN at h
      split at h
      · cases h
      · cases h
        have := prt_le ((c :: r).drop 1)
        simp at this ⊢
        omega
    · rw [if_neg h39] at h
      by_cases hd : digitB c = true
      · rw [if_pos hd] at h
        obtain ⟨v, hv, he⟩ := Option.map_eq_some_iff.1 h
        cases he
        have := tw_le digitB (c :: r)
        refine ⟨?_, by simpa using this⟩
        simp [List.takeWhile, hd]
      · rw [if_neg hd] at h
        by_cases h34 : c = 34
        · rw [if_pos h34] at h
          obtain ⟨⟨y, j⟩, hy, he⟩ := Option.map_eq_some_iff.1 h
          cases he
          have := strL_le _ _ _ _ (Nat.le_refl _) hy
          simp at this ⊢
          omega
        · rw [if_neg h34] at h
          obtain ⟨x, hx, he⟩ := Option.map_eq_some_iff.1 h
          cases he
          have h1 := signs_pos x (List.mem_of_find?_eq_some hx)
          have h2 := List.find?_some hx
          have h2 := congrArg List.length (beq_iff_eq.1 h2)
          rw [List.length_take] at h2
          simp at h2
          omega
end Tok
/-- What Scan answers. -/
def ScanP (B : Nat) (s : List UInt8) (w : World) : Ending → World → Prop := fun e w' => Below w.heap.size w w' ∧
  ((∃ l lv, scanR s = .ok l ∧ e = .returned (.tuple #[lv, .int .i64 0, .int .i64 0]) ∧ TksZ B w' lv l ∧ l.length ≤ s.length) ∨
   (∃ i : Nat, scanR s = .err i ∧ e = .returned (.tuple #[.slice none 0 0, .int .i64 (i : Int), .int .i64 10])))
/-- Between the rounds of Scan. -/
structure ScI (w wr : World) (s : List UInt8) (n i : Nat) (lv : Value) (l : List (Tk × Nat)) : Prop where
  bel : Below w.heap.size w wr
  toks : TksZ w.heap.size wr lv l
  le : i ≤ n
  len : l.length ≤ i
  is : res s 0 [] = res s i l
theorem ScI.below {w wr w' : World} {s : List UInt8} {n i : Nat} {lv : Value} {l : List (Tk × Nat)} (h : ScI w wr s n i lv l) (hb : Below wr.heap.size wr w') : ScI w w' s n i lv l :=
  ⟨h.bel.trans (hb.mono h.bel.size), h.toks.below hb, h.le, h.len, h.is⟩
set_option maxHeartbeats 4000000 in
theorem scan_any (A : Option Addr) (len cap : Nat) (s : List UInt8) (w : World) (hl : s.length = len) (hA : Bytes w A s) (hm : len ≤ maxLen) (hT : Tabs w) :
    Calls Tryd.prog 11 #[.slice A len cap] w (ScanP w.heap.size s w) := by
  unfold maxLen at hm
  have hsz := str_sizeN hl
  by_cases hbig : 16384 < len
  · have hd : decide ((len : Int) > 16384) = true := by simp; omega
    have HX : Hid (scanR s = .err 16384) := Lib.hid (by unfold scanR; rw [hl, if_pos hbig])
    clear hA hT hl hbig
    go_enter Tryd.func11, Tryd.ntmps11
    go_wp2_with fail
    go_ret3
    exact ⟨Below.refl _ _, .inr ⟨16384, HX.out, rfl⟩⟩
  · have hd : decide ((len : Int) > 16384) = false := by simp; omega
    have hcv := run_str8L w A len cap s hl hA
    have HX : Hid (scanR s = res s 0 []) := Lib.hid (by unfold scanR; rw [hl, if_neg hbig])
    have HT := Lib.hid hT
    have HN := Lib.hid hl
    have hlen : len ≤ 16384 := by omega
    have HI : Hid (ScI w w s len 0 (.slice none 0 0) []) := Lib.hid ⟨Below.refl _ _, TksZ.nil _ _, Nat.zero_le _, Nat.le_refl _, rfl⟩
    clear hA hT hl hbig
    go_enter Tryd.func11, Tryd.ntmps11
    go_wp2_with fail
    clear hcv
    go_loopw [2, 3, 4, 6, 7, 8, 9] (fun lv iv ev _ _ _ _ wr => ∃ (i : Nat) (l : List (Tk × Nat)) (lx : Value), lv = lx ∧ iv = .int .i64 (i : Int) ∧ ev = .int .i64 0 ∧ Hid (ScI w wr s len i lx l)) (fun _ iv _ _ _ _ _ _ => len - (intOf iv).toNat)
    case atStart => exact ⟨0, [], _, rfl, rfl, rfl, HI⟩
    case round =>
      clear HI
      obtain ⟨i, l, lv, rfl, rfl, rfl, hI⟩ := hrel
      have hi := hI.out.le
      have H1 := Lib.hid (skip_any s len i wr HN.out (by omega) hi)
      go_wp2_with fail
      refine H1.out.mono ?_
      rintro e w' ⟨rfl, m, ok, rfl, hS, hy, hn⟩
      have HR : Hid (res s 0 [] = res s m l) := Lib.hid (by rw [hI.out.is, hS.is])
      have hm1 := hS.le.1
      have hm2 := hS.le.2
      clear H1 hS
      cases ok with
      | false =>
        obtain ⟨h1, h2⟩ := hn rfl
        have HE : Hid (scanR s = .err m) := Lib.hid (by rw [HX.out, HR.out, res_open (by rw [HN.out]; exact h1) h2])
        have HB := Lib.hid hI.out.bel
        clear hy hn h1 h2 hI
        go_wp2_with fail
        go_ret3
        exact ⟨HB.out, .inr ⟨m, HE.out, rfl⟩⟩
      | true =>
        by_cases hlt : m < len
        · have hme : ((m : Int) == (len : Int)) = false := by simp; omega
          have hb0 := hy rfl hlt
          obtain ⟨c, hc⟩ : ∃ c, s[m]? = some c := ⟨_, List.getElem?_eq_getElem (by rw [HN.out]; exact hlt)⟩
          have hdc := drop_cons hc
          have hex := str_suf HN.out m
          have H2 := Lib.hid (first_any (s.drop m) c wr (by rw [hdc]; rfl) (by rw [drop_len HN.out]; omega) (HT.out.below hI.out.bel))
          have HDC := Lib.hid hdc
          have HB0 := Lib.hid hb0
          clear hy hn hc hdc hb0
          go_wp2_with fail
          refine H2.out.mono ?_
          rintro e w1 ⟨hb1, t, k, rfl, hor⟩
          have HI := Lib.hid (hI.out.below hb1)
          clear H2 hb1 hI
          simp only [tkV, tkC, bv]
          rcases hor with ⟨ho, rfl⟩ | ho
          · have HE : Hid (scanR s = .err m) := Lib.hid (by rw [HX.out, HR.out, res_none (by rw [HN.out]; exact hlt) HB0.out ho])
            have HB : Hid (∀ o, Below w.heap.size w (w1.alloc o)) := Lib.hid (fun o => HI.out.bel.alloc HI.out.bel.size o)
            clear ho HI
            go_wp2_with fail
            go_ret3
            exact ⟨HB.out _, .inr ⟨m, HE.out, rfl⟩⟩
          · have hk := oneN_size (by rw [← HDC.out]; exact ho)
            have hkl := congrArg List.length HDC.out
            rw [drop_len HN.out, List.length_cons] at hkl
            have hk0 : ((k : Int) == 0) = false := by simp; omega
            have hmk : m + k ≤ len := by omega
            have hk1 : 1 ≤ k := hk.1
            have HR2 : Hid (res s 0 [] = res s (m + k) (l ++ [(t, m)])) := Lib.hid (by rw [HR.out, res_one (by rw [HN.out]; exact hlt) HB0.out ho hk.1])
            have hsz0 := HI.out.bel.size
            have hbA : Below w.heap.size w ((w1.alloc (.cells #[.int .u8 (t.k.toNat : Int), .string (str t.t), .int .i64 (t.n : Int), .int .i64 (m : Int)] 34)).alloc (.cells #[.int .u8 (t.k.toNat : Int), .string (str t.t), .int .i64 (t.n : Int), .int .i64 (m : Int)] 34)) := (HI.out.bel.alloc hsz0 _).alloc (by simp; omega) _
            have hT2 := (HI.out.toks.below ((Below.refl _ _).alloc (Nat.le_refl _) (.cells #[.int .u8 (t.k.toNat : Int), .string (str t.t), .int .i64 (t.n : Int), .int .i64 (m : Int)] 34)))
            have hT3 := hT2.below ((Below.refl _ _).alloc (Nat.le_refl _) (.cells #[.int .u8 (t.k.toNat : Int), .string (str t.t), .int .i64 (t.n : Int), .int .i64 (m : Int)] 34))
            have hBk := Blk.new (w1.alloc (.cells #[.int .u8 (t.k.toNat : Int), .string (str t.t), .int .i64 (t.n : Int), .int .i64 (m : Int)] 34)) 34 #[.int .u8 (t.k.toNat : Int), .string (str t.t), .int .i64 (t.n : Int), .int .i64 (m : Int)]
            have hsA : (w1.alloc (.cells #[.int .u8 (t.k.toNat : Int), .string (str t.t), .int .i64 (t.n : Int), .int .i64 (m : Int)] 34)).heap.size = w1.heap.size + 1 := by simp
            rw [hsA] at hBk
            obtain ⟨lv2, w3, hrun, hT4, hg, _⟩ := hT3.push (w1.heap.size + 1) t m hBk (by simp; omega) (by have := HI.out.len; omega)
            have HRUN := Lib.hid hrun
            have HI2 : Hid (ScI w w3 s len (m + k) lv2 (l ++ [(t, m)])) := Lib.hid ⟨hbA.grown hg (by simp; omega) (fun j hj => (hT3.lt j hj).1), hT4, hmk, by have := HI.out.len; rw [List.length_append]; simp; omega, HR2.out⟩
            clear ho hk hkl hbA hT2 hT3 hBk hsA hrun hT4 hg HI hsz0
            go_wp2_with (at_builtin; refine wpList_app rfl _ _ 25 rfl _ _ _ _ rfl rfl HRUN.out ?_)
            go_roundw
            case rel => exact ⟨m + k, _, _, rfl, by go_num, rfl, HI2⟩
            case measure => simp [intOf]; omega
        · obtain rfl : m = len := by omega
          have hme : ((m : Int) == (m : Int)) = true := by simp
          have HE : Hid (scanR s = .ok l ∧ l.length ≤ s.length) := Lib.hid ⟨by rw [HX.out, HR.out, res_end (by rw [HN.out]; exact Nat.le_refl _)], by have := hI.out.len; have := HN.out; omega⟩
          have HB := Lib.hid hI.out
          clear hy hn hI
          go_wp2_with fail
          go_ret3
          exact ⟨HB.out.bel, .inl ⟨l, _, HE.out.1, rfl, HB.out.toks, HE.out.2⟩⟩
end Go.Proofs.YtdnmdccjecoojaaDoor
