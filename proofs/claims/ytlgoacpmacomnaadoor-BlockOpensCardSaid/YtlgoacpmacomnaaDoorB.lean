/- Open. -/
import Derived.Test.YtlgoacpmacomnaaDoorA
import Derived.Test.YtlgoacpmacomnaaDoorOK
import Derived.BigQuiet
import Derived.Deep.QuietTactic
import Derived.Deep.RegionHeld
namespace Go.Proofs.YtlgoacpmacomnaaDoor
open Go.RowKit Crc

section
variable {P : Program} {ops : Array Oper} {Q : Exit → Act → World → Prop} {md : Region.Mode} {S : World → Prop}
/-- An operation that is wanted is taken first. -/
theorem takeY (i : Nat) (d : Option Tmp) {oi : Oper} {v : Value} {fuel : Nat} {listed : Array Bool} {a : Act} {w : World} (hi : ops[i]? = some oi) (hd : oi.dst = d)
    (hs : Region.noSelect ops = true) (hf : Region.free md ops listed i = true) (hr : (Region.ready md ops listed).contains i = true)
    (hQ : ∀ c a w, Q (.panic c) (a.put d v) w → Q (.panic c) a w) (hw : Region.wanted oi (yielded ops a.tmps) = true)
    (hy : ∀ w, S w → (execOp a.eval oi).run P w = .ok (.value v) w) (hS : S w)
    (h : wpAnyH P md ops Q S fuel (listed.setIfInBounds i true) (a.put d v) w) : wpAnyH P md ops Q S (fuel + 1) listed a w := by
  subst hd
  exact wpAnyH_take hi hs hf hr hQ (Or.inl ⟨hw, hy⟩) hS h
/-- One that is not wanted. -/
theorem takeN (i : Nat) (d : Option Tmp) {oi : Oper} {fuel : Nat} {listed : Array Bool} {a : Act} {w : World} (hi : ops[i]? = some oi) (hd : oi.dst = d)
    (hs : Region.noSelect ops = true) (hf : Region.free md ops listed i = true) (hr : (Region.ready md ops listed).contains i = true)
    (hQ : ∀ c a w, Q (.panic c) (a.put d undef) w → Q (.panic c) a w) (hw : Region.wanted oi (yielded ops a.tmps) = false) (hS : S w)
    (h : wpAnyH P md ops Q S fuel (listed.setIfInBounds i true) (a.put d undef) w) : wpAnyH P md ops Q S (fuel + 1) listed a w := by
  subst hd
  exact wpAnyH_take hi hs hf hr hQ (Or.inr ⟨hw, rfl⟩) hS h
end

/-- Some bytes are the block of a kind and a body. -/
def IsBlk (bs : List UInt8) (k : Nat) (body : List UInt8) : Prop := 0 < k ∧ k < 256 ∧ body.length ≤ 248 ∧ bs = blockOf k body

theorem leN_two (a b : UInt8) : leN [a, b] = a.toNat + 256 * b.toNat := by simp [leN]
theorem fieldOf_two (bs : List UInt8) (h : 4 ≤ bs.length) : fieldOf bs 2 2 = [bs[2], bs[3]] := by
  apply List.ext_getElem
  · simp [fieldOf]; omega
  · intro i h1 h2
    simp at h2
    rcases (by omega : i = 0 ∨ i = 1) with rfl | rfl <;> simp [fieldOf]

theorem le4_put (s : Nat) (hs : s < 4294967296) : leN (lePut s 4) = s := by
  have : lePut s 4 = [UInt8.ofNat s, UInt8.ofNat (s / 256), UInt8.ofNat (s / 256 / 256), UInt8.ofNat (s / 256 / 256 / 256)] := by simp [lePut]
  rw [this]
  simp only [leN, UInt8.toNat_ofNat']
  omega
theorem leN_four {l : List UInt8} (h : l.length = 4) : lePut (leN l) 4 = l := by
  match l, h with
  | [a, b, c, d], _ =>
    have ha := a.toNat_lt; have hb := b.toNat_lt; have hc := c.toNat_lt; have hd := d.toNat_lt
    simp only [lePut, leN]
    have e1 : UInt8.ofNat (a.toNat + 256 * (b.toNat + 256 * (c.toNat + 256 * (d.toNat + 256 * 0)))) = a := UInt8.toNat_inj.1 (by rw [UInt8.toNat_ofNat']; omega)
    have e2 : UInt8.ofNat ((a.toNat + 256 * (b.toNat + 256 * (c.toNat + 256 * (d.toNat + 256 * 0)))) / 256) = b := UInt8.toNat_inj.1 (by rw [UInt8.toNat_ofNat']; omega)
    have e3 : UInt8.ofNat ((a.toNat + 256 * (b.toNat + 256 * (c.toNat + 256 * (d.toNat + 256 * 0)))) / 256 / 256) = c := UInt8.toNat_inj.1 (by rw [UInt8.toNat_ofNat']; omega)
    have e4 : UInt8.ofNat ((a.toNat + 256 * (b.toNat + 256 * (c.toNat + 256 * (d.toNat + 256 * 0)))) / 256 / 256 / 256) = d := UInt8.toNat_inj.1 (by rw [UInt8.toNat_ofNat']; omega)
    rw [e1, e2, e3, e4]

/-- What tells a block: its first byte, its second, its length, the noughts behind its body, its sum. -/
structure Fits (bs : List UInt8) (n : Nat) : Prop where
  len : bs.length = 256
  kind : bs.getD 0 0 ≠ 0
  zero : bs.getD 1 0 = 0
  n_eq : n = (bs.getD 2 0).toNat + 256 * (bs.getD 3 0).toNat
  le : n ≤ 248
  fill : ∀ i, 4 + n ≤ i → i < 252 → bs.getD i 0 = 0
  sum : leN (fieldOf bs 252 4) = sumFrom 0 (bs.take 252)

theorem getD_left {l r : List UInt8} {i : Nat} (h : i < l.length) : (l ++ r).getD i 0 = l.getD i 0 := by
  simp only [List.getD, List.getElem?_append_left h]
theorem getD_right {l r : List UInt8} {i : Nat} (h : l.length ≤ i) : (l ++ r).getD i 0 = r.getD (i - l.length) 0 := by
  simp only [List.getD, List.getElem?_append_right h]
theorem blockOf_get (k : Nat) (body : List UInt8) (i : Nat) (h : body.length ≤ 248) : (blockOf k body).getD i 0 =
    if i < 4 then (hd4 k body.length).getD i 0 else if i < 4 + body.length then body.getD (i - 4) 0 else if i < 252 then 0 else (lePut (sumFrom 0 (base k body)) 4).getD (i - 252) 0 := by
  have h4 : (hd4 k body.length).length = 4 := rfl
  unfold blockOf
  have hb : base k body = hd4 k body.length ++ (body ++ List.replicate (248 - body.length) 0) := by simp [base]
  by_cases h252 : i < 252
  · rw [getD_left (by rw [base_length k body h]; exact h252), hb]
    by_cases h1 : i < 4
    · rw [getD_left (by rw [h4]; exact h1), if_pos h1]
    · rw [getD_right (by rw [h4]; omega), h4, if_neg h1]
      by_cases h2 : i < 4 + body.length
      · rw [getD_left (by omega), if_pos h2]
      · rw [getD_right (by omega), if_neg h2, if_pos h252]
        simp only [List.getD, List.getElem?_replicate]; split <;> rfl
  · rw [getD_right (by rw [base_length k body h]; omega), base_length k body h, if_neg (by omega), if_neg (by omega), if_neg h252]

theorem isBlk_fits {bs : List UInt8} {k : Nat} {body : List UInt8} (h : IsBlk bs k body) : Fits bs body.length ∧ (bs.getD 0 0).toNat = k ∧ fieldOf bs 4 body.length = body := by
  obtain ⟨h0, hk, hb, rfl⟩ := h
  have g := fun i => blockOf_get k body i hb
  have e0 : (blockOf k body).getD 0 0 = UInt8.ofNat k := by rw [g]; rfl
  have e2 : (blockOf k body).getD 2 0 = UInt8.ofNat body.length := by rw [g]; rfl
  have e3 : (blockOf k body).getD 3 0 = UInt8.ofNat (body.length / 256) := by rw [g]; rfl
  refine ⟨⟨blockOf_length k body hb, ?_, by rw [g]; rfl, ?_, hb, fun i h1 h2 => ?_, ?_⟩, ?_, ?_⟩
  · rw [e0]
    intro e
    have := congrArg UInt8.toNat e
    rw [UInt8.toNat_ofNat'] at this
    simp at this
    omega
  · rw [e2, e3, UInt8.toNat_ofNat', UInt8.toNat_ofNat']; omega
  · rw [g, if_neg (by omega), if_neg (by omega), if_pos h2]
  · unfold blockOf fieldOf
    rw [List.drop_left' (base_length k body hb), List.take_left' (base_length k body hb), List.take_of_length_le (by rw [lePut_length]; exact Nat.le_refl _), le4_put _ (sumFrom_lt (x := 0) (by decide) _)]
  · rw [e0, UInt8.toNat_ofNat']; omega
  · unfold fieldOf blockOf base
    have h4 : (hd4 k body.length).length = 4 := rfl
    rw [List.append_assoc, List.append_assoc, List.drop_left' h4, List.take_left' rfl]

theorem fits_isBlk {bs : List UInt8} {n : Nat} (h : Fits bs n) : IsBlk bs (bs.getD 0 0).toNat (fieldOf bs 4 n) ∧ (fieldOf bs 4 n).length = n := by
  have hl := h.len
  have hle := h.le
  have hfl : (fieldOf bs 4 n).length = n := by simp [fieldOf]; omega
  have hk : 0 < (bs.getD 0 0).toNat := by
    rcases Nat.eq_zero_or_pos (bs.getD 0 0).toNat with e | e
    · exact absurd (UInt8.toNat_inj.1 (by rw [e]; rfl)) h.kind
    · exact e
  refine ⟨⟨hk, UInt8.toNat_lt _, by omega, ?_⟩, hfl⟩
  have hbase : base (bs.getD 0 0).toNat (fieldOf bs 4 n) = bs.take 252 := by
    apply List.ext_getElem
    · rw [base_length _ _ (by omega)]; simp; omega
    · intro i h1 h2
      rw [base_length _ _ (by omega)] at h1
      have g := blockOf_get (bs.getD 0 0).toNat (fieldOf bs 4 n) i (by omega)
      have e : (blockOf (bs.getD 0 0).toNat (fieldOf bs 4 n)).getD i 0 = (base (bs.getD 0 0).toNat (fieldOf bs 4 n))[i] := by
        unfold blockOf
        rw [getD_left (by rw [base_length _ _ (by omega)]; exact h1)]
        simp only [List.getD]
        rw [List.getElem?_eq_getElem (by rw [base_length _ _ (by omega)]; exact h1)]
        rfl
      have ei : ∀ j (hj : j < 256), bs.getD j 0 = bs[j]'(by omega) := fun j hj => by simp [List.getD, show j < bs.length by omega]
      rw [← e, g, List.getElem_take, hfl]
      by_cases h4 : i < 4
      · rw [if_pos h4]
        rcases (by omega : i = 0 ∨ i = 1 ∨ i = 2 ∨ i = 3) with rfl | rfl | rfl | rfl
        · show UInt8.ofNat _ = _
          rw [UInt8.ofNat_toNat, ei 0 (by decide)]
        · show (0 : UInt8) = _
          rw [← h.zero, ei 1 (by decide)]
        · show UInt8.ofNat n = _
          rw [← ei 2 (by decide)]
          have hb := (bs.getD 2 0).toNat_lt
          exact UInt8.toNat_inj.1 (by rw [UInt8.toNat_ofNat', h.n_eq]; omega)
        · show UInt8.ofNat (n / 256) = _
          rw [← ei 3 (by decide)]
          have hb := (bs.getD 2 0).toNat_lt
          have hb3 := (bs.getD 3 0).toNat_lt
          exact UInt8.toNat_inj.1 (by rw [UInt8.toNat_ofNat', h.n_eq]; omega)
      · rw [if_neg h4]
        by_cases h5 : i < 4 + n
        · rw [if_pos h5]
          simp only [List.getD, fieldOf]
          rw [List.getElem?_take_of_lt (by omega), List.getElem?_drop, show 4 + (i - 4) = i by omega]
          simp [show i < bs.length by omega]
        · rw [if_neg h5, if_pos h1, ← ei i (by omega)]
          exact (h.fill i (by omega) h1).symm
  unfold blockOf
  rw [hbase, ← h.sum, leN_four (by simp [fieldOf]; omega)]
  unfold fieldOf
  rw [List.take_of_length_le (l := List.drop 252 bs) (by simp; omega), List.take_append_drop]

theorem isBlk_one {bs : List UInt8} {k k' : Nat} {b b' : List UInt8} (h : IsBlk bs k b) (h' : IsBlk bs k' b') : k = k' ∧ b = b' := by
  obtain ⟨f, e1, e2⟩ := isBlk_fits h
  obtain ⟨f', e1', e2'⟩ := isBlk_fits h'
  have hn : b.length = b'.length := f.n_eq.trans f'.n_eq.symm
  exact ⟨e1.symm.trans e1', by rw [← e2, ← e2', hn]⟩

end Go.Proofs.YtlgoacpmacomnaaDoor
