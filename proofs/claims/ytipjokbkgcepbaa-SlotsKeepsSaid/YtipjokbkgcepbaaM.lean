/- Pages of records, apart from memory. -/
namespace Slt

def sumL : List UInt8 → Nat
  | [] => 0
  | c :: r => c.toNat + sumL r
theorem sumL_append : ∀ (a b : List UInt8), sumL (a ++ b) = sumL a + sumL b
  | [], b => by simp [sumL]
  | c :: r, b => by simp [sumL, sumL_append r b]; omega
theorem sumL_snoc (a : List UInt8) (c : UInt8) : sumL (a ++ [c]) = sumL a + c.toNat := by rw [sumL_append]; simp [sumL]
theorem sumL_take_le (l : List UInt8) (k : Nat) : sumL (l.take k) ≤ sumL l := by
  have := sumL_append (l.take k) (l.drop k)
  rw [List.take_append_drop] at this
  omega
theorem sumL_succ {l : List UInt8} {k : Nat} {c : UInt8} (h : l[k]? = some c) : sumL (l.take (k + 1)) = sumL (l.take k) + c.toNat := by
  obtain ⟨hk, rfl⟩ := List.getElem?_eq_some_iff.1 h
  rw [List.take_succ_eq_append_getElem hk, sumL_snoc]

/-- The records that some lengths cut out of a text. -/
def recsOf : List UInt8 → List UInt8 → List (List UInt8)
  | [], _ => []
  | c :: r, b => b.take c.toNat :: recsOf r (b.drop c.toNat)
theorem recsOf_length : ∀ (l b : List UInt8), (recsOf l b).length = l.length
  | [], _ => rfl
  | c :: r, b => by simp [recsOf, recsOf_length r]
theorem recsOf_get : ∀ (l b : List UInt8) (k : Nat) (c : UInt8), l[k]? = some c → (recsOf l b)[k]? = some ((b.drop (sumL (l.take k))).take c.toNat)
  | [], _, _, _, h => by simp at h
  | d :: r, b, 0, c, h => by simp at h; subst h; simp [recsOf, sumL]
  | d :: r, b, k + 1, c, h => by
    have := recsOf_get r (b.drop d.toNat) k c (by simpa using h)
    simp only [recsOf, List.getElem?_cons_succ, List.take_succ_cons, sumL, this, List.drop_drop]

/-- How many slots a page says that it has. -/
def cnt (p : List UInt8) : Nat := (p.getD 0 0).toNat
def lens (p : List UInt8) : List UInt8 := (p.drop 1).take (cnt p)
def body (p : List UInt8) : List UInt8 := p.drop (1 + cnt p)
/-- Of a page: all is there, and no free slot at the end. -/
structure Ok (p : List UInt8) : Prop where
  ne : 0 < p.length
  room : p.length ≤ 248
  head : 1 + cnt p ≤ p.length
  last : 0 < cnt p → p.getD (cnt p) 0 ≠ 0
  all : 1 + cnt p + sumL (lens p) = p.length
instance (p : List UInt8) : Decidable (Ok p) :=
  decidable_of_iff (0 < p.length ∧ p.length ≤ 248 ∧ 1 + cnt p ≤ p.length ∧ (0 < cnt p → p.getD (cnt p) 0 ≠ 0) ∧ 1 + cnt p + sumL (lens p) = p.length)
    ⟨fun ⟨a, b, c, d, e⟩ => ⟨a, b, c, d, e⟩, fun h => ⟨h.ne, h.room, h.head, h.last, h.all⟩⟩
def okB (p : List UInt8) : Bool := decide (Ok p)
theorem okB_yes {p : List UInt8} (h : okB p = true) : Ok p := of_decide_eq_true h
theorem okB_no {p : List UInt8} (h : okB p = false) : ¬ Ok p := of_decide_eq_false h
theorem cnt_lt (p : List UInt8) : cnt p < 256 := (p.getD 0 0).toNat_lt
theorem lens_get (p : List UInt8) (k : Nat) (hk : k < cnt p) : (lens p)[k]? = p[1 + k]? := by
  unfold lens
  rw [List.getElem?_take_of_lt hk, List.getElem?_drop]
theorem lens_length {p : List UInt8} (h : 1 + cnt p ≤ p.length) : (lens p).length = cnt p := by simp [lens]; omega
theorem Ok.body {p : List UInt8} (h : Ok p) : (Slt.body p).length = sumL (Slt.lens p) := by have := h.all; simp [Slt.body]; omega
theorem Ok.lens {p : List UInt8} (h : Ok p) : (Slt.lens p).length = cnt p := lens_length h.head
theorem Ok.split {p : List UInt8} (h : Ok p) : p = UInt8.ofNat (cnt p) :: Slt.lens p ++ Slt.body p := by
  cases p with
  | nil => exact absurd h.ne (by simp)
  | cons c r =>
    have e : UInt8.ofNat (cnt (c :: r)) = c := by simp [cnt]
    rw [e]
    simp only [Slt.lens, Slt.body, List.drop_succ_cons, List.drop_zero, List.cons_append]
    rw [show 1 + cnt (c :: r) = cnt (c :: r) + 1 by omega, List.drop_succ_cons, List.take_append_drop]

/-- The records of a page, by their slots; of no page none. -/
def recs (p : List UInt8) : List (List UInt8) := if Ok p then recsOf (lens p) (body p) else []
theorem recs_ok {p : List UInt8} (h : Ok p) : recs p = recsOf (lens p) (body p) := if_pos h
theorem recs_no {p : List UInt8} (h : ¬ Ok p) : recs p = [] := if_neg h
theorem recs_length {p : List UInt8} (h : Ok p) : (recs p).length = cnt p := by rw [recs_ok h, recsOf_length, h.lens]
/-- Where the k-th record stands, and how long it is. -/
def atK (p : List UInt8) (k : Nat) : Nat := 1 + cnt p + sumL ((lens p).take k)
def lonK (p : List UInt8) (k : Nat) : Nat := ((lens p).getD k 0).toNat
theorem lonK_eq {p : List UInt8} {k : Nat} {c : UInt8} (h : (lens p)[k]? = some c) : lonK p k = c.toNat := by simp [lonK, List.getD, h]
theorem atK_zero (p : List UInt8) : atK p 0 = 1 + cnt p := by simp [atK, sumL]
theorem Ok.at_succ {p : List UInt8} (h : Ok p) {k : Nat} (hk : k < cnt p) : atK p (k + 1) = atK p k + lonK p k := by
  have e : (Slt.lens p)[k]? = some ((Slt.lens p)[k]'(by rw [h.lens]; exact hk)) := List.getElem?_eq_getElem _
  unfold atK
  rw [sumL_succ e, lonK_eq e]; omega
theorem Ok.at_le {p : List UInt8} (h : Ok p) {k : Nat} (hk : k < cnt p) : atK p k + lonK p k ≤ p.length := by
  rw [← h.at_succ hk]
  have := sumL_take_le (Slt.lens p) (k + 1)
  have := h.all
  unfold atK; omega
theorem Ok.rec_get {p : List UInt8} (h : Ok p) {k : Nat} (hk : k < cnt p) : (recs p)[k]? = some ((p.drop (atK p k)).take (lonK p k)) := by
  have e : (Slt.lens p)[k]? = some ((Slt.lens p)[k]'(by rw [h.lens]; exact hk)) := List.getElem?_eq_getElem _
  rw [recs_ok h, recsOf_get _ _ _ _ e, lonK_eq e]
  unfold Slt.body atK
  rw [List.drop_drop]
theorem Ok.rec_len {p : List UInt8} (h : Ok p) {k : Nat} (hk : k < cnt p) : ((p.drop (atK p k)).take (lonK p k)).length = lonK p k := by
  have := h.at_le hk
  simp; omega
theorem rec_byte (p : List UInt8) (k j : Nat) (hj : j < lonK p k) : ((p.drop (atK p k)).take (lonK p k))[j]? = p[atK p k + j]? := by
  rw [List.getElem?_take_of_lt hj, List.getElem?_drop]

/-- Free slots at the end are let go. -/
def trim : List (List UInt8) → List (List UInt8)
  | [] => []
  | r :: l => match trim l with
    | [] => if r.length = 0 then [] else [r]
    | s :: m => r :: s :: m
theorem trim_snoc_nil (l : List (List UInt8)) : trim (l ++ [[]]) = trim l := by
  induction l with
  | nil => rfl
  | cons r l ih => simp only [List.cons_append, trim, ih]
theorem trim_snoc (l : List (List UInt8)) (r : List UInt8) (hr : 0 < r.length) : trim (l ++ [r]) = l ++ [r] := by
  induction l with
  | nil => simp [trim]; intro h; rw [h] at hr; simp at hr
  | cons s l ih =>
    simp only [List.cons_append, trim, ih]
    cases l <;> rfl
/-- A page of some records. -/
def lenB (l : List (List UInt8)) : List UInt8 := l.map fun r => UInt8.ofNat r.length
def pack (l : List (List UInt8)) : List UInt8 := UInt8.ofNat l.length :: lenB l ++ l.flatten
def pageOf (l : List (List UInt8)) : List UInt8 := pack (trim l)
theorem pack_length (l : List (List UInt8)) : (pack l).length = 1 + l.length + l.flatten.length := by simp [pack, lenB]; omega

theorem lenB_recsOf : ∀ (l b : List UInt8), sumL l ≤ b.length → lenB (recsOf l b) = l
  | [], _, _ => rfl
  | c :: r, b, h => by
    simp only [sumL] at h
    have := lenB_recsOf r (b.drop c.toNat) (by simp; omega)
    simp only [lenB, recsOf, List.map_cons] at this ⊢
    rw [this]
    congr 1
    rw [List.length_take, Nat.min_eq_left (by omega)]
    simp
theorem flatten_recsOf : ∀ (l b : List UInt8), sumL l = b.length → (recsOf l b).flatten = b
  | [], b, h => by simp [sumL] at h; simp [recsOf]; exact List.eq_nil_of_length_eq_zero h.symm
  | c :: r, b, h => by
    simp only [sumL] at h
    have := flatten_recsOf r (b.drop c.toNat) (by simp; omega)
    simp only [recsOf, List.flatten_cons, this, List.take_append_drop]
theorem Ok.pack {p : List UInt8} (h : Ok p) : Slt.pack (recs p) = p := by
  conv => rhs; rw [h.split]
  rw [recs_ok h]
  unfold Slt.pack
  rw [recsOf_length, h.lens, lenB_recsOf _ _ (by rw [h.body]; exact Nat.le_refl _), flatten_recsOf _ _ h.body.symm]
theorem Ok.trim {p : List UInt8} (h : Ok p) : Slt.trim (recs p) = recs p := by
  rcases Nat.eq_zero_or_pos (cnt p) with h0 | h0
  · have : recs p = [] := List.eq_nil_of_length_eq_zero (by rw [recs_length h, h0])
    rw [this]; rfl
  · have hl := recs_length h
    have hg := h.rec_get (k := cnt p - 1) (by omega)
    have hlen := h.rec_len (k := cnt p - 1) (by omega)
    obtain ⟨m, x, hm⟩ : ∃ m x, recs p = m ++ [x] := by
      rcases List.eq_nil_or_concat (recs p) with e | ⟨m, x, e⟩
      · rw [e] at hl; simp at hl; omega
      · exact ⟨m, x, by simpa using e⟩
    rw [hm] at hl hg ⊢
    have hml : m.length = cnt p - 1 := by simp at hl; omega
    rw [← hml, List.getElem?_append_right (Nat.le_refl _)] at hg
    simp at hg
    refine trim_snoc m x ?_
    have hx : x.length = lonK p (cnt p - 1) := by rw [hml] at hg; rw [hg]; simpa using hlen
    rw [hx]
    have hlast := h.last h0
    have e : (Slt.lens p)[cnt p - 1]? = p[1 + (cnt p - 1)]? := lens_get p _ (by omega)
    rw [show 1 + (cnt p - 1) = cnt p by omega] at e
    have : lonK p (cnt p - 1) = (p.getD (cnt p) 0).toNat := by unfold lonK List.getD; rw [e]
    rw [this]
    rcases Nat.eq_zero_or_pos (p.getD (cnt p) 0).toNat with h2 | h2
    · exact absurd (UInt8.toNat_inj.1 (by simpa using h2)) hlast
    · exact h2
theorem Ok.page {p : List UInt8} (h : Ok p) : pageOf (recs p) = p := by unfold pageOf; rw [h.trim, h.pack]

end Slt
