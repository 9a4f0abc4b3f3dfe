/- record: objects as bytes, apart from memory. -/
import Derived.Test.YtobfglnopihibaaD
import Derived.Test.YtobfglnopihibaaOJ
namespace Go.Proofs.Ytobfglnopihibaa
open Go.RowKit Rcd

theorem leN_lePut (x n : Nat) : leN (lePut x n) = x % 256 ^ n := by
  induction n generalizing x with
  | zero => simp [lePut, leN, Nat.mod_one]
  | succ n ih =>
    simp only [lePut, leN, ih]
    rw [Nat.pow_succ, Nat.mul_comm (256 ^ n) 256, Nat.mod_mul]
    have : (UInt8.ofNat x).toNat = x % 256 := UInt8.toNat_ofNat'
    rw [this]
theorem lePut_leN (l : List UInt8) : lePut (leN l) l.length = l := by
  induction l with
  | nil => rfl
  | cons c r ih =>
    simp only [leN, List.length_cons, lePut]
    have hc := c.toNat_lt
    rw [show (c.toNat + 256 * leN r) / 256 = leN r by omega, ih]
    congr 1
    apply UInt8.toNat_inj.1
    rw [UInt8.toNat_ofNat']
    omega
theorem field_app (a b c : List UInt8) (n m : Nat) (ha : a.length = n) (hb : b.length = m) : fieldOf (a ++ (b ++ c)) n m = b := by
  unfold fieldOf
  rw [← ha, List.drop_left, ← hb, List.take_left]

/-- An object. -/
structure Ob where
  k : UInt8
  tag : Int
  ws : List Wd
  t : List UInt8

namespace Rcd
/-- May a kind have so many words? -/
def cntOk (k : UInt8) (n : Nat) : Bool := if k = 1 then decide (2 ≤ n) else if k = 2 then decide (n ≤ 1) else if k = 3 then decide (n = 1) else if k = 4 then true else if k = 5 then decide (n = 0) else false
def headOk (o : Ob) : Bool := cntOk o.k o.ws.length && (decide (o.k = 5) || o.t.isEmpty) && ((decide (0 ≤ o.tag) && decide (o.tag ≤ 65535)) && (decide (o.k = 2) || decide (o.tag = 0)))
/-- May an object be? -/
def mayB (o : Ob) : Bool := headOk o && o.ws.all wordB
def sizeO (o : Ob) : Nat := 5 + 9 * o.ws.length + o.t.length
/-- A number of 64 bits without a sign, and back. -/
def u64 (z : Int) : Nat := (z % 18446744073709551616).toNat
def s64 (n : Nat) : Int := if n < 9223372036854775808 then (n : Int) else (n : Int) - 18446744073709551616
theorem u64_lt (z : Int) : u64 z < 18446744073709551616 := by unfold u64; omega
theorem s64_u64 (z : Int) (h : -9223372036854775808 ≤ z ∧ z < 9223372036854775808) : s64 (u64 z) = z := by unfold s64 u64; split <;> omega
theorem u64_s64 (n : Nat) (h : n < 18446744073709551616) : u64 (s64 n) = n := by unfold s64 u64; split <;> omega
theorem s64_in (n : Nat) (h : n < 18446744073709551616) : -9223372036854775808 ≤ s64 n ∧ s64 n < 9223372036854775808 := by unfold s64; split <;> omega
def wdB (x : Wd) : List UInt8 := x.k :: lePut (u64 x.n) 8
theorem wdB_len (x : Wd) : (wdB x).length = 9 := by simp [wdB, lePut_length]
def wordsB (ws : List Wd) : List UInt8 := ws.flatMap wdB
theorem wordsB_len (ws : List Wd) : (wordsB ws).length = 9 * ws.length := by
  induction ws with
  | nil => rfl
  | cons x ws ih => unfold wordsB at ih ⊢; rw [List.flatMap_cons, List.length_append, ih, wdB_len, List.length_cons]; omega
theorem wordsB_succ {ws : List Wd} {k : Nat} {x : Wd} (h : ws[k]? = some x) : wordsB (ws.take (k + 1)) = wordsB (ws.take k) ++ wdB x := by
  obtain ⟨hk, rfl⟩ := List.getElem?_eq_some_iff.1 h
  unfold wordsB
  rw [List.take_succ_eq_append_getElem hk, List.flatMap_append]
  simp
/-- An object's bytes ahead of its words. -/
def frontB (o : Ob) : List UInt8 := ([o.k] ++ lePut (u64 o.tag) 2) ++ lePut (o.ws.length + o.t.length) 2
theorem frontB_len (o : Ob) : (frontB o).length = 5 := by simp [frontB, lePut_length]
def bytesO (o : Ob) : List UInt8 := (frontB o ++ wordsB o.ws) ++ o.t
theorem bytesO_len (o : Ob) : (bytesO o).length = sizeO o := by unfold bytesO sizeO; rw [List.length_append, List.length_append, frontB_len, wordsB_len]
def writeE (o : Ob) : Int := if mayB o then (if 8192 < sizeO o then 6 else 0) else 1
def writeX (o : Ob) : List UInt8 := if mayB o then (if 8192 < sizeO o then [] else bytesO o) else []
theorem writeX_len (o : Ob) : (writeX o).length ≤ 8192 := by
  unfold writeX
  split
  · split
    · exact Nat.zero_le _
    · rw [bytesO_len]; omega
  · exact Nat.zero_le _
theorem writeE_no {o : Ob} (h : writeE o ≠ 0) : writeX o = [] := by
  unfold writeE at h
  unfold writeX
  split
  · rename_i hm
    rw [if_pos hm] at h
    split
    · rfl
    · rename_i hs
      rw [if_neg hs] at h
      exact absurd rfl h
  · rfl
theorem writeE_ok {o : Ob} (h : writeE o = 0) : mayB o = true ∧ sizeO o ≤ 8192 ∧ writeX o = bytesO o := by
  unfold writeE at h
  unfold writeX
  cases hm : mayB o
  · rw [hm] at h; cases h
  · rw [hm] at h
    by_cases hs : 8192 < sizeO o
    · rw [if_pos rfl, if_pos hs] at h; cases h
    · exact ⟨rfl, by omega, by rw [if_pos rfl, if_neg hs]⟩
theorem writeE_is {o : Ob} (hm : mayB o = true) (hs : sizeO o ≤ 8192) : writeE o = 0 ∧ writeX o = bytesO o := by
  unfold writeE writeX
  rw [hm, if_pos rfl, if_pos rfl, if_neg (by omega), if_neg (by omega)]
  exact ⟨rfl, rfl⟩

/-- The words that bytes tell. -/
def wordAt (r : List UInt8) (i : Nat) : Wd := ⟨r.getD (i * 9) 0, s64 (leN (fieldOf r (i * 9 + 1) 8))⟩
def wordsOf (r : List UInt8) (n : Nat) : List Wd := (List.range n).map (wordAt r)
theorem wordsOf_len (r : List UInt8) (n : Nat) : (wordsOf r n).length = n := by simp [wordsOf]
theorem wordsOf_succ (r : List UInt8) (n : Nat) : wordsOf r (n + 1) = wordsOf r n ++ [wordAt r n] := by simp [wordsOf, List.range_succ]
theorem wordAt_bytes (r : List UInt8) (i : Nat) (h : i * 9 + 9 ≤ r.length) : wdB (wordAt r i) = (r.drop (i * 9)).take 9 := by
  have hl : (fieldOf r (i * 9 + 1) 8).length = 8 := by unfold fieldOf; simp; omega
  have hlt := leN_lt (fieldOf r (i * 9 + 1) 8)
  rw [hl] at hlt
  unfold wdB wordAt
  dsimp only
  rw [u64_s64 _ (Nat.lt_of_lt_of_le hlt (by decide))]
  have h2 := lePut_leN (fieldOf r (i * 9 + 1) 8)
  rw [hl] at h2
  rw [h2]
  unfold fieldOf
  rw [List.drop_eq_getElem_cons (by omega : i * 9 < r.length), List.take_succ_cons]
  congr 1
  simp [List.getD, show i * 9 < r.length by omega]
theorem wordsOf_bytes (r : List UInt8) (n : Nat) (h : n * 9 ≤ r.length) : wordsB (wordsOf r n) = r.take (n * 9) := by
  induction n with
  | zero => simp [wordsOf, wordsB]
  | succ n ih =>
    rw [wordsOf_succ]
    unfold wordsB at ih ⊢
    rw [List.flatMap_append, ih (by omega)]
    simp only [List.flatMap_cons, List.flatMap_nil, List.append_nil]
    rw [wordAt_bytes r n (by omega), show (n + 1) * 9 = n * 9 + 9 by omega, List.take_add]
theorem wordAt_of {a b : List UInt8} {x : Wd} {n : Nat} (ha : a.length = n * 9) (hx : -9223372036854775808 ≤ x.n ∧ x.n < 9223372036854775808) : wordAt (a ++ (wdB x ++ b)) n = x := by
  obtain ⟨k, z⟩ := x
  unfold wordAt
  have h1 : (a ++ (wdB ⟨k, z⟩ ++ b)).getD (n * 9) 0 = k := by rw [← ha]; simp [List.getD, wdB]
  have h2 : fieldOf (a ++ (wdB ⟨k, z⟩ ++ b)) (n * 9 + 1) 8 = lePut (u64 z) 8 := by
    have e : a ++ (wdB ⟨k, z⟩ ++ b) = (a ++ [k]) ++ (lePut (u64 z) 8 ++ b) := by simp [wdB]
    rw [e]
    exact field_app _ _ _ _ _ (by simp [ha]) (lePut_length _ _)
  rw [h1, h2, leN_lePut, Nat.mod_eq_of_lt (Nat.lt_of_lt_of_le (u64_lt z) (by decide)), s64_u64 z hx]
theorem wordsOf_of : ∀ (ws : List Wd) (b : List UInt8), (∀ x ∈ ws, -9223372036854775808 ≤ x.n ∧ x.n < 9223372036854775808) → ∀ n, n ≤ ws.length → wordsOf (wordsB ws ++ b) n = ws.take n := by
  intro ws b hx n
  induction n with
  | zero => intro _; simp [wordsOf]
  | succ n ih =>
    intro hn
    have hlt : n < ws.length := by omega
    rw [wordsOf_succ, ih (by omega), List.take_succ_eq_append_getElem hlt]
    congr 2
    have e : wordsB ws ++ b = wordsB (ws.take n) ++ (wdB ws[n] ++ (wordsB (ws.drop (n + 1)) ++ b)) := by
      conv => lhs; rw [← List.take_append_drop (n + 1) ws]
      unfold wordsB
      rw [List.flatMap_append, List.append_assoc]
      have := wordsB_succ (ws := ws) (k := n) (x := ws[n]) (List.getElem?_eq_getElem hlt)
      unfold wordsB at this
      rw [this, List.append_assoc]
    rw [e]
    exact wordAt_of (by rw [wordsB_len, List.length_take]; omega) (hx _ (List.getElem_mem hlt))

/-- What is read, leniently: by the bytes' length alone. -/
def lenO (b : List UInt8) : Ob := if b.getD 0 0 = 5 then ⟨b.getD 0 0, leN (fieldOf b 1 2), [], b.drop 5⟩ else ⟨b.getD 0 0, leN (fieldOf b 1 2), wordsOf (b.drop 5) ((b.length - 5) / 9), []⟩
/-- How long the part behind the first five bytes is, by them. -/
def needO (b : List UInt8) : Nat := if b.getD 0 0 = 5 then leN (fieldOf b 3 2) else leN (fieldOf b 3 2) * 9
def fitsO (b : List UInt8) : Bool := decide (5 ≤ b.length) && decide (b.length ≤ 8192) && decide (b.length - 5 = needO b) && mayB (lenO b)
/-- The object whose bytes they are. -/
def readO (b : List UInt8) : Option Ob := if fitsO b then some (lenO b) else none

theorem frontB_of (o : Ob) : (frontB o).getD 0 0 = o.k ∧ fieldOf (frontB o) 1 2 = lePut (u64 o.tag) 2 ∧ fieldOf (frontB o) 3 2 = lePut (o.ws.length + o.t.length) 2 := by
  refine ⟨by simp [frontB, List.getD], ?_, ?_⟩
  · unfold frontB
    rw [List.append_assoc]
    exact field_app _ _ _ _ _ rfl (lePut_length _ _)
  · have := field_app ([o.k] ++ lePut (u64 o.tag) 2) (lePut (o.ws.length + o.t.length) 2) [] 3 2 (by simp [lePut_length]) (lePut_length _ _)
    rw [List.append_nil] at this
    exact this
theorem field_front (f r : List UInt8) (a n : Nat) (h : a + n ≤ f.length) : fieldOf (f ++ r) a n = fieldOf f a n := by
  unfold fieldOf
  rw [List.drop_append_of_le_length (by omega), List.take_append_of_le_length (by simp; omega)]
theorem getD_front (f r : List UInt8) (h : 0 < f.length) : (f ++ r).getD 0 0 = f.getD 0 0 := by
  cases f with
  | nil => simp at h
  | cons x f => rfl
theorem wordB_in {x : Wd} (h : wordB x = true) : -9223372036854775808 ≤ x.n ∧ x.n < 9223372036854775808 := by
  unfold wordB at h
  split at h
  · simp at h; omega
  · split at h
    · simp at h; omega
    · cases h
theorem may_facts {o : Ob} (h : mayB o = true) : (0 ≤ o.tag ∧ o.tag ≤ 65535) ∧ (o.k ≠ 5 → o.t = []) ∧ (o.k = 5 → o.ws = []) ∧ ∀ x ∈ o.ws, -9223372036854775808 ≤ x.n ∧ x.n < 9223372036854775808 := by
  unfold mayB headOk at h
  simp only [Bool.and_eq_true, Bool.or_eq_true, decide_eq_true_eq, List.all_eq_true, List.isEmpty_iff] at h
  obtain ⟨⟨⟨h1, h2⟩, h3, h4⟩, h5⟩ := h
  refine ⟨h3, fun hk => h2.resolve_left hk, fun hk => ?_, fun x hx => wordB_in (h5 x hx)⟩
  rw [hk] at h1
  simp [cntOk] at h1
  exact h1
/-- What was written is read. -/
theorem read_write {o : Ob} (hm : mayB o = true) (hs : sizeO o ≤ 8192) : readO (bytesO o) = some o := by
  obtain ⟨⟨h1, h2⟩, h3, h4, h5⟩ := may_facts hm
  obtain ⟨f1, f2, f3⟩ := frontB_of o
  have fl := frontB_len o
  have e : bytesO o = frontB o ++ (wordsB o.ws ++ o.t) := by unfold bytesO; rw [List.append_assoc]
  have g0 : (bytesO o).getD 0 0 = o.k := by rw [e, getD_front _ _ (by omega), f1]
  have g1 : leN (fieldOf (bytesO o) 1 2) = o.tag := by
    rw [e, field_front _ _ _ _ (by omega), f2, leN_lePut]
    unfold u64
    omega
  have hsz : sizeO o = 5 + 9 * o.ws.length + o.t.length := rfl
  have g2 : leN (fieldOf (bytesO o) 3 2) = o.ws.length + o.t.length := by
    rw [e, field_front _ _ _ _ (by omega), f3, leN_lePut]
    omega
  have g3 : (bytesO o).drop 5 = wordsB o.ws ++ o.t := by rw [e, ← fl, List.drop_left]
  have gl := bytesO_len o
  have hl : lenO (bytesO o) = o := by
    obtain ⟨k, tag, ws, t⟩ := o
    unfold lenO
    rw [g0, g1, g3, gl]
    dsimp only at h1 h2 h3 h4 h5 ⊢
    by_cases hk : k = 5
    · rw [if_pos hk, h4 hk]; rfl
    · rw [if_neg hk]
      have ht := h3 hk
      subst ht
      have hn : (sizeO ⟨k, tag, ws, []⟩ - 5) / 9 = ws.length := by rw [hsz]; simp
      rw [hn, wordsOf_of ws [] h5 _ (Nat.le_refl _), List.take_length]
  have hf : fitsO (bytesO o) = true := by
    unfold fitsO
    rw [hl, hm, gl]
    simp only [Bool.and_eq_true, decide_eq_true_eq, and_true]
    refine ⟨⟨by rw [hsz]; omega, hs⟩, ?_⟩
    unfold needO
    rw [g0, g2]
    by_cases hk : o.k = 5
    · rw [if_pos hk, hsz, h4 hk]; simp
    · rw [if_neg hk, hsz, h3 hk]; simp; omega
  unfold readO
  rw [hf, hl]
  rfl
theorem take5 (b : List UInt8) (h : 5 ≤ b.length) : b.take 5 = ([b.getD 0 0] ++ fieldOf b 1 2) ++ fieldOf b 3 2 := by
  match b, h with
  | x0 :: x1 :: x2 :: x3 :: x4 :: r, _ => simp [fieldOf, List.getD]
/-- What is read is written. -/
theorem write_read {b : List UInt8} {o : Ob} (h : readO b = some o) : mayB o = true ∧ sizeO o ≤ 8192 ∧ bytesO o = b := by
  unfold readO at h
  split at h
  · rename_i hf
    cases h
    unfold fitsO at hf
    simp only [Bool.and_eq_true, decide_eq_true_eq] at hf
    obtain ⟨⟨⟨h1, h2⟩, h3⟩, h4⟩ := hf
    have hb : bytesO (lenO b) = b := by
      have l1 : (fieldOf b 1 2).length = 2 := by unfold fieldOf; simp; omega
      have l2 : (fieldOf b 3 2).length = 2 := by unfold fieldOf; simp; omega
      have p1 := lePut_leN (fieldOf b 1 2)
      have p2 := lePut_leN (fieldOf b 3 2)
      have q1 := leN_lt (fieldOf b 1 2)
      have q2 := leN_lt (fieldOf b 3 2)
      rw [l1] at p1 q1
      rw [l2] at p2 q2
      have pt : u64 ((leN (fieldOf b 1 2) : Nat) : Int) = leN (fieldOf b 1 2) := by unfold u64; omega
      unfold needO at h3
      unfold bytesO frontB lenO
      by_cases hk : b.getD 0 0 = 5
      · rw [if_pos hk] at h3 ⊢
        dsimp only
        rw [pt, p1, List.length_nil, Nat.zero_add, List.length_drop, h3, p2, ← take5 b h1]
        simp [wordsB]
      · rw [if_neg hk] at h3 ⊢
        dsimp only
        have hn : (b.length - 5) / 9 = leN (fieldOf b 3 2) := by omega
        rw [pt, p1, hn, wordsOf_len, List.length_nil, Nat.add_zero, p2, ← take5 b h1, wordsOf_bytes _ _ (by rw [List.length_drop]; omega), List.append_nil, List.take_of_length_le (l := b.drop 5) (by rw [List.length_drop]; omega), List.take_append_drop]
    exact ⟨h4, by rw [← bytesO_len, hb]; exact h2, hb⟩
  · cases h
/-- How the reference reads. -/
theorem read_by (b : List UInt8) (_h5 : 5 ≤ b.length) (_h8 : b.length ≤ 8192) : readO b = if writeE (lenO b) = 0 ∧ writeX (lenO b) = b then some (lenO b) else none := by
  by_cases h : writeE (lenO b) = 0 ∧ writeX (lenO b) = b
  · rw [if_pos h]
    obtain ⟨hm, hs, hx⟩ := writeE_ok h.1
    have := read_write hm hs
    rw [← hx, h.2] at this
    exact this
  · rw [if_neg h]
    cases hr : readO b with
    | none => rfl
    | some o =>
      exfalso
      have ho : lenO b = o := by
        unfold readO at hr
        split at hr
        · exact Option.some.inj hr
        · cases hr
      obtain ⟨hm, hs, hx⟩ := write_read hr
      rw [ho] at h
      have := writeE_is hm hs
      exact h ⟨this.1, this.2.trans hx⟩
theorem read_facts {b : List UInt8} {o : Ob} (h : readO b = some o) : 5 ≤ b.length ∧ b.length ≤ 8192 ∧ b.length = 5 + needO b ∧ o = lenO b := by
  unfold readO at h
  split at h
  · rename_i hf
    cases h
    unfold fitsO at hf
    simp only [Bool.and_eq_true, decide_eq_true_eq] at hf
    exact ⟨hf.1.1.1, hf.1.1.2, by omega, rfl⟩
  · cases h
theorem need_take {b c : List UInt8} (h : 5 ≤ b.length) : needO (b ++ c) = needO b := by
  unfold needO
  rw [getD_front _ _ (by omega), field_front _ _ _ _ (by omega)]
/-- Bytes of an object that are cut, or have more behind them. -/
theorem read_more {b c : List UInt8} {o : Ob} (h : readO b = some o) (hc : c ≠ []) : readO (b ++ c) = none := by
  cases hr : readO (b ++ c) with
  | none => rfl
  | some o' =>
    obtain ⟨h1, _, h2, _⟩ := read_facts h
    obtain ⟨_, _, h4, _⟩ := read_facts hr
    rw [need_take h1, List.length_append] at h4
    have : 0 < c.length := List.length_pos_iff.2 hc
    omega
theorem read_cut {b : List UInt8} {o : Ob} (h : readO b = some o) (j : Nat) (hj : j < b.length) : readO (b.take j) = none := by
  cases hr : readO (b.take j) with
  | none => rfl
  | some o' =>
    have := read_more hr (c := b.drop j) (by intro e; have := congrArg List.length e; simp at this; omega)
    rw [List.take_append_drop, h] at this
    cases this
end Rcd
end Go.Proofs.Ytobfglnopihibaa
