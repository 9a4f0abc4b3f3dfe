/- pages: parts as bytes, there and back, apart from memory. -/
import Derived.Test.YtcmaehilgeonjaaAB
namespace Go.Proofs.Ytcmaehilgeonjaa
open Go.RowKit Pgs
namespace Pgs
theorem trim_le (l : List Nat) : (trim l).length ≤ l.length := by
  induction l with
  | nil => exact Nat.le_refl _
  | cons x r ih =>
    unfold trim
    split
    · exact Nat.zero_le _
    · simpa using ih
theorem trim_nil {l : List Nat} (h : trim l = []) : l = List.replicate l.length 0 := by
  induction l with
  | nil => rfl
  | cons x r ih =>
    unfold trim at h
    split at h
    · rename_i hx
      rw [List.length_cons, List.replicate_succ, ← ih hx.2, hx.1]
    · cases h
theorem trim_back (l : List Nat) : trim l ++ List.replicate (l.length - (trim l).length) 0 = l := by
  induction l with
  | nil => rfl
  | cons x r ih =>
    unfold trim
    split
    · rename_i h
      rw [List.nil_append, List.length_nil, Nat.sub_zero, List.length_cons, List.replicate_succ, ← trim_nil h.2, h.1]
    · rw [List.length_cons, List.length_cons, Nat.add_sub_add_right, List.cons_append, ih]
theorem trim_last (l : List Nat) : trim l = [] ∨ ∃ x, (trim l)[(trim l).length - 1]? = some x ∧ x ≠ 0 := by
  induction l with
  | nil => exact .inl rfl
  | cons x r ih =>
    unfold trim
    split
    · exact .inl rfl
    · rename_i h
      right
      rcases ih with e | ⟨y, hy, h0⟩
      · refine ⟨x, by rw [e]; rfl, fun hx => h ⟨hx, e⟩⟩
      · have hl : 0 < (trim r).length := by
          rcases Nat.eq_zero_or_pos (trim r).length with e | e
          · rw [List.eq_nil_of_length_eq_zero e] at hy; cases hy
          · exact e
        refine ⟨y, ?_, h0⟩
        rw [List.length_cons, Nat.add_sub_cancel]
        obtain ⟨m, hm⟩ : ∃ m, (trim r).length = m + 1 := ⟨(trim r).length - 1, by omega⟩
        rw [hm] at hy ⊢
        rw [List.getElem?_cons_succ]
        simpa using hy
theorem trim_mem {l : List Nat} {x : Nat} (h : x ∈ trim l) : x ∈ l := by
  have := trim_back l
  rw [← this]
  exact List.mem_append_left _ h
theorem bytes2_cons (x : Nat) (l : List Nat) : bytes2 (x :: l) = UInt8.ofNat x :: UInt8.ofNat (x / 256) :: bytes2 l := rfl
theorem bytes2_get (l : List Nat) (k : Nat) : (bytes2 l).getD (2 * k) 0 = UInt8.ofNat (l.getD k 0) ∧ (bytes2 l).getD (2 * k + 1) 0 = UInt8.ofNat (l.getD k 0 / 256) := by
  induction l generalizing k with
  | nil => exact ⟨by simp [bytes2], by simp [bytes2]⟩
  | cons x r ih =>
    rw [bytes2_cons]
    cases k with
    | zero => exact ⟨rfl, rfl⟩
    | succ k =>
      have := ih k
      rw [show 2 * (k + 1) = 2 * k + 1 + 1 by omega]
      simp only [List.getD_cons_succ]
      exact this
theorem said_bytes2 {l : List Nat} (h : ∀ x ∈ l, x < 65536) : said (bytes2 l) = l := by
  unfold said
  rw [bytes2_len, show 2 * l.length / 2 = l.length by omega]
  apply List.ext_getElem?
  intro k
  rw [List.getElem?_map]
  rcases Nat.lt_or_ge k l.length with hk | hk
  · rw [List.getElem?_range hk, Option.map_some, (bytes2_get l k).1, (bytes2_get l k).2, List.getElem?_eq_getElem hk]
    have hx := h l[k] (List.getElem_mem hk)
    rw [List.getD_eq_getElem?_getD, List.getElem?_eq_getElem hk, Option.getD_some]
    simp only [UInt8.toNat_ofNat']
    congr 1
    omega
  · rw [List.getElem?_eq_none (by simpa using hk), List.getElem?_eq_none hk]; rfl
theorem bytes2_said {bs : List UInt8} (h : bs.length % 2 = 0) : bytes2 (said bs) = bs := by
  apply List.ext_getElem?
  intro k
  have hl : (bytes2 (said bs)).length = bs.length := by rw [bytes2_len, said_len]; omega
  rcases Nat.lt_or_ge k bs.length with hk | hk
  · have hg := bytes2_get (said bs) (k / 2)
    have hs : (said bs).getD (k / 2) 0 = (bs.getD (2 * (k / 2)) 0).toNat + 256 * (bs.getD (2 * (k / 2) + 1) 0).toNat := by
      unfold said
      rw [List.getD_eq_getElem?_getD, List.getElem?_map, List.getElem?_range (by omega)]; rfl
    rw [hs] at hg
    have b1 := (bs.getD (2 * (k / 2)) 0).toNat_lt
    have b2 := (bs.getD (2 * (k / 2) + 1) 0).toNat_lt
    have e0 : ∀ (l : List UInt8) (h : k < l.length), l[k]? = some (l.getD k 0) := fun l h => by rw [List.getD_eq_getElem?_getD, List.getElem?_eq_getElem h]; rfl
    rw [e0 _ (by omega), e0 _ hk]
    congr 1
    rcases Nat.mod_two_eq_zero_or_one k with e | e
    · rw [show 2 * (k / 2) = k by omega] at hg b1
      rw [hg.1]
      apply UInt8.toNat_inj.1
      rw [UInt8.toNat_ofNat']; omega
    · rw [show 2 * (k / 2) + 1 = k by omega] at hg b2
      rw [hg.2]
      apply UInt8.toNat_inj.1
      rw [UInt8.toNat_ofNat']; omega
  · rw [List.getElem?_eq_none (by omega), List.getElem?_eq_none hk]
theorem partN_lt {L : List Nat} (h : Ok L) (i : Nat) : ∀ x ∈ partN L i, x < 65536 := fun x hx => by
  unfold partN at hx
  obtain ⟨k, hk⟩ := List.mem_iff_getElem?.1 (List.mem_of_mem_drop (List.mem_of_mem_take hx))
  exact h.lt k x hk
theorem said_partB {L : List Nat} (h : Ok L) (i : Nat) : said (partB L i) = trim (partN L i) := by
  unfold partB
  exact said_bytes2 fun x hx => partN_lt h i x (trim_mem hx)
theorem partB_eq {L K : List Nat} (h : Ok L) (h' : Ok K) {i : Nat} (hi : i < 9) : partB L i = partB K i ↔ partN L i = partN K i := by
  constructor
  · intro e
    have e1 : trim (partN L i) = trim (partN K i) := by rw [← said_partB h, ← said_partB h', e]
    rw [← trim_back (partN L i), ← trim_back (partN K i), partN_len h hi, partN_len h' hi, e1]
  · intro e; unfold partB; rw [e]
theorem partB_len {L : List Nat} (h : Ok L) {i : Nat} (hi : i < 9) : (partB L i).length = 2 * (trim (partN L i)).length ∧ (trim (partN L i)).length ≤ 124 := by
  have := trim_le (partN L i)
  rw [partN_len h hi] at this
  exact ⟨by unfold partB; rw [bytes2_len], this⟩
theorem layB_partB {L : List Nat} (h : Ok L) {i : Nat} (hi : i < 9) : layB (i : Int) (partB L i) = true := by
  obtain ⟨h1, h2⟩ := partB_len h hi
  refine layB_true hi h1 h2 (fun k x hk hx h0 => ?_) ?_
  · rw [said_partB h] at hx
    have hb := trim_back (partN L i)
    have hx2 : (partN L i)[k]? = some x := by rw [← hb, List.getElem?_append_left hk]; exact hx
    unfold partN at hx2
    rw [List.getElem?_take_of_lt (by omega), List.getElem?_drop] at hx2
    rcases Nat.lt_or_ge (i * 124 + k) 1024 with hp | hp
    · exact hp
    · have := h.end_ _ hp
      rw [List.getD_eq_getElem?_getD, hx2] at this
      exact absurd this h0
  · rw [said_partB h]
    rcases trim_last (partN L i) with e | e
    · left; rw [e]; rfl
    · exact .inr e
theorem layL_partB {L X : List Nat} (h : Ok L) {i : Nat} (hi : i < 9) : layL X (i : Int) (partB L i) = X.take (i * 124) ++ partN L i ++ X.drop (i * 124 + 124) := by
  unfold layL
  obtain ⟨h1, _⟩ := partB_len h hi
  rw [if_pos (layB_partB h hi), Int.toNat_natCast, said_partB h, h1, Nat.mul_div_cancel_left _ (by decide)]
  have := trim_back (partN L i)
  rw [partN_len h hi] at this
  rw [this]
/-- The parts from one on. -/
def backTo (L : List Nat) (k : Nat) : List Nat := none_.take (k * 124) ++ L.drop (k * 124)
theorem backTo_end {L : List Nat} (h : Ok L) : backTo L 9 = none_ := by
  unfold backTo
  rw [List.drop_of_length_le (by rw [h.len]; decide), List.append_nil, List.take_of_length_le (by unfold none_; rw [List.length_replicate]; decide)]
theorem backTo_zero (L : List Nat) : backTo L 0 = L := by unfold backTo; rw [Nat.zero_mul]; rfl
theorem backTo_step {L : List Nat} (h : Ok L) {k : Nat} (hk : k < 9) : layL (backTo L (k + 1)) (k : Int) (partB L k) = backTo L k := by
  rw [layL_partB h hk]
  unfold backTo partN
  have hn : (none_).length = 1116 := none_ok.len
  rw [show (k + 1) * 124 = k * 124 + 124 by omega]
  have h1 : ((none_).take (k * 124 + 124)).length = k * 124 + 124 := by rw [List.length_take, hn]; omega
  rw [List.take_append_of_le_length (by omega), List.take_take, Nat.min_eq_left (by omega), List.drop_left' h1, List.append_assoc]
  congr 1
  rw [← List.drop_drop, List.take_append_drop]
/-- What is laid is told. -/
theorem partB_layL {L : List Nat} (h : Ok L) {i : Nat} {bs : List UInt8} (hb : layB (i : Int) bs = true) : partB (layL L (i : Int) bs) i = bs := by
  have hb' := hb
  unfold layB at hb'
  simp only [Bool.and_eq_true, decide_eq_true_eq] at hb'
  obtain ⟨⟨⟨⟨hi, hl⟩, hm⟩, hp⟩, he⟩ := hb'
  have hs := said_len bs
  have h1 : (L.take (i * 124)).length = i * 124 := by rw [List.length_take, h.len]; omega
  unfold layL partB partN
  rw [if_pos hb, Int.toNat_natCast, List.append_assoc, List.drop_append, h1, List.drop_of_length_le (by omega), List.nil_append, Nat.sub_self, List.drop_zero, List.take_append_of_le_length (by rw [List.length_append, List.length_replicate, hs]; omega), List.take_of_length_le (by rw [List.length_append, List.length_replicate, hs]; omega), trim_rep0]
  have ht : trim (said bs) = said bs := by
    have := trim_take (said bs) (said bs).length (Nat.le_refl _) (fun j h1 h2 => by omega) (by
      rcases he with e | e
      · left; rw [hs]; omega
      · by_cases e0 : bs.length = 0
        · left; rw [hs]; omega
        · right
          rw [hs, List.getElem?_eq_getElem (by rw [hs]; omega)]
          refine ⟨_, rfl, ?_⟩
          rw [List.getD_eq_getElem?_getD, List.getElem?_eq_getElem (by rw [hs]; omega)] at e
          exact e)
    rw [this, List.take_length]
  rw [ht, bytes2_said hm]
/-- What is laid turns no other part. -/
theorem partN_layL {L : List Nat} (h : Ok L) {i j : Nat} {bs : List UInt8} (hij : i ≠ j) : partN (layL L (i : Int) bs) j = partN L j := by
  unfold layL
  split
  · rename_i hb
    unfold layB at hb
    simp only [Bool.and_eq_true, decide_eq_true_eq] at hb
    obtain ⟨⟨⟨⟨hi, hl⟩, hm⟩, hp⟩, he⟩ := hb
    have hs := said_len bs
    have hL := h.len
    rw [Int.toNat_natCast]
    have h1 : (L.take (i * 124)).length = i * 124 := by rw [List.length_take]; omega
    have h2 : (said bs ++ List.replicate (124 - bs.length / 2) 0).length = 124 := by rw [List.length_append, List.length_replicate, hs]; omega
    unfold partN
    apply List.ext_getElem?
    intro k
    rcases Nat.lt_or_ge k 124 with hk | hk
    · rw [List.getElem?_take_of_lt hk, List.getElem?_take_of_lt hk, List.getElem?_drop, List.getElem?_drop]
      rcases Nat.lt_or_ge j i with hji | hji
      · rw [List.getElem?_append_left (by rw [List.length_append]; omega), List.getElem?_append_left (by omega), List.getElem?_take_of_lt (by omega)]
      · rw [List.getElem?_append_right (by rw [List.length_append]; omega), List.length_append, h1, h2, List.getElem?_drop, show i * 124 + 124 + (j * 124 + k - (i * 124 + 124)) = j * 124 + k by omega]
    · rw [List.getElem?_eq_none (by rw [List.length_take]; omega), List.getElem?_eq_none (by rw [List.length_take]; omega)]
  · rfl
theorem turnedL_same (L : List Nat) : turnedL L L = [] := by unfold turnedL; simp
theorem turnedL_lay {L : List Nat} (h : Ok L) {i : Nat} {bs : List UInt8} (hi : i < 9) : turnedL L (layL L (i : Int) bs) = [] ∨ turnedL L (layL L (i : Int) bs) = [i] := by
  unfold turnedL
  have he : ∀ j, j ≠ i → decide (partN L j ≠ partN (layL L (i : Int) bs) j) = false := fun j hne => by
    rw [partN_layL h (fun e => hne e.symm)]; simp
  by_cases e : partN L i = partN (layL L (i : Int) bs) i
  · left
    rw [List.filter_eq_nil_iff]
    intro j _
    by_cases hne : j = i
    · subst hne; simp [e]
    · rw [he j hne]; simp
  · right
    have hr : List.filter (fun j => decide (partN L j ≠ partN (layL L (i : Int) bs) j)) (List.range 9) = List.filter (fun j => decide (j = i)) (List.range 9) := by
      apply List.filter_congr
      intro j _
      by_cases hne : j = i
      · subst hne; simp [e]
      · rw [he j hne]; simp [hne]
    rw [hr]
    have : ∀ i, i < 9 → List.filter (fun j => decide (j = i)) (List.range 9) = [i] := by decide
    exact this i hi
end Pgs
end Go.Proofs.Ytcmaehilgeonjaa
