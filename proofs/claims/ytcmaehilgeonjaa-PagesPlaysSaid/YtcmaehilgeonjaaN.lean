/- pages: what Lay lays, apart from memory. -/
import Derived.Test.YtcmaehilgeonjaaK
namespace Go.Proofs.Ytcmaehilgeonjaa
open Go.RowKit Pgs

namespace Pgs
/-- The numbers that were read when k of them were. -/
def sf (bs : List UInt8) (k : Nat) : List Nat := (said bs).take k ++ List.replicate (124 - k) 0
theorem said_len (bs : List UInt8) : (said bs).length = bs.length / 2 := by unfold said; rw [List.length_map, List.length_range]
theorem sf_zero (bs : List UInt8) : sf bs 0 = List.replicate 124 0 := by unfold sf; rw [List.take_zero, List.nil_append]
theorem sf_len (bs : List UInt8) (k : Nat) (hk : k ≤ bs.length / 2) (h : k ≤ 124) : (sf bs k).length = 124 := by
  unfold sf
  rw [List.length_append, List.length_take, said_len, List.length_replicate]; omega
theorem said_get (bs : List UInt8) {k n : Nat} (hn : bs.length = 2 * n) (hk : k < n) : (said bs)[k]? = some (leN (fieldOf bs (2 * k) 2)) := by
  have e : fieldOf bs (2 * k) 2 = [bs.getD (2 * k) 0, bs.getD (2 * k + 1) 0] := by
    unfold fieldOf
    apply List.ext_getElem?
    intro j
    rcases j with _ | _ | j
    · rw [List.getElem?_take_of_lt (by omega), List.getElem?_drop, Nat.add_zero, List.getD_eq_getElem?_getD, List.getElem?_eq_getElem (show 2 * k < bs.length by omega)]; rfl
    · rw [List.getElem?_take_of_lt (by omega), List.getElem?_drop, List.getD_eq_getElem?_getD, List.getD_eq_getElem?_getD, List.getElem?_eq_getElem (show 2 * k + (0 + 1) < bs.length by omega)]; rfl
    · rw [List.getElem?_eq_none (by rw [List.length_take]; omega), List.getElem?_eq_none (by simp)]
  unfold said
  rw [List.getElem?_map, List.getElem?_range (by omega), Option.map_some, e]
  simp [leN]
theorem said_lt (bs : List UInt8) {k x : Nat} (h : (said bs)[k]? = some x) : x < 65536 := by
  unfold said at h
  rw [List.getElem?_map] at h
  obtain ⟨j, _, e⟩ := Option.map_eq_some_iff.1 h
  have h1 := (bs.getD (2 * j) 0).toNat_lt
  have h2 := (bs.getD (2 * j + 1) 0).toNat_lt
  omega
theorem sf_set (bs : List UInt8) {k x : Nat} (hk : k < 124) (hx : (said bs)[k]? = some x) : (sf bs k).set k x = sf bs (k + 1) := by
  have hkl := (List.getElem?_eq_some_iff.1 hx).1
  have ht : (said bs).take (k + 1) = (said bs).take k ++ [x] := by
    rw [List.take_succ_eq_append_getElem hkl, (List.getElem?_eq_some_iff.1 hx).2]
  unfold sf
  rw [ht, show 124 - k = (124 - (k + 1)) + 1 by omega, List.replicate_succ, List.set_append_right _ _ (by rw [List.length_take]; omega), List.length_take, Nat.min_eq_left (by omega), Nat.sub_self, List.set_cons_zero, List.append_assoc]
  rfl
theorem sf_get (bs : List UInt8) {k n : Nat} (hl : bs.length = 2 * n) (hk : k < n) : (sf bs n)[k]? = (said bs)[k]? := by
  unfold sf
  rw [List.getElem?_append_left (by rw [List.length_take, said_len]; omega), List.getElem?_take_of_lt hk]
theorem sf_take (bs : List UInt8) {n : Nat} (hl : bs.length = 2 * n) : (sf bs n).take n = said bs := by
  unfold sf
  rw [List.take_append_of_le_length (by rw [List.length_take, said_len]; omega), List.take_of_length_le (by rw [List.length_take]; omega), List.take_of_length_le (by rw [said_len]; omega)]
theorem layB_page {bs : List UInt8} {i k n : Nat} (hl : bs.length = 2 * n) (hk : k < n) {x : Nat} (hx : (said bs)[k]? = some x) (h0 : x ≠ 0) (hp : ¬ i * 124 + k < 1024) : layB (i : Int) bs = false := by
  unfold layB
  have : decide (∀ k, k < bs.length / 2 → (said bs).getD k 0 ≠ 0 → (i : Int).toNat * 124 + k < 1024) = false := by
    apply decide_eq_false
    intro h
    exact hp (h k (by omega) (by rw [List.getD_eq_getElem?_getD, hx]; exact h0))
  rw [this, Bool.and_false, Bool.false_and]
theorem layB_end {bs : List UInt8} {i n : Nat} (hl : bs.length = 2 * n) (hn : 0 < n) (hx : (said bs)[n - 1]? = some 0) : layB (i : Int) bs = false := by
  unfold layB
  have : decide (bs.length = 0 ∨ (said bs).getD (bs.length / 2 - 1) 0 ≠ 0) = false := by
    apply decide_eq_false
    rintro (h | h)
    · omega
    · apply h
      rw [show bs.length / 2 - 1 = n - 1 by omega, List.getD_eq_getElem?_getD, hx]; rfl
  rw [this, Bool.and_false]
theorem layB_true {bs : List UInt8} {i n : Nat} (hi : i < 9) (hl : bs.length = 2 * n) (hn : n ≤ 124) (hp : ∀ k x, k < n → (said bs)[k]? = some x → x ≠ 0 → i * 124 + k < 1024) (he : n = 0 ∨ ∃ x, (said bs)[n - 1]? = some x ∧ x ≠ 0) : layB (i : Int) bs = true := by
  unfold layB
  simp only [Bool.and_eq_true, decide_eq_true_eq]
  refine ⟨⟨⟨⟨⟨by omega, by omega⟩, by omega⟩, by omega⟩, fun k hk h0 => ?_⟩, ?_⟩
  · have hkl : k < (said bs).length := by rw [said_len]; exact hk
    rw [List.getD_eq_getElem?_getD, List.getElem?_eq_getElem hkl] at h0
    exact hp k _ (by omega) (List.getElem?_eq_getElem hkl) h0
  · rcases he with e | ⟨x, e, h0⟩
    · left; omega
    · right
      rw [show bs.length / 2 - 1 = n - 1 by omega, List.getD_eq_getElem?_getD, e]; exact h0
theorem layL_eq {L : List Nat} {bs : List UInt8} {i n : Nat} (hL : L.length = 1116) (hi : i < 9) (hl : bs.length = 2 * n) (hn : n ≤ 124) (hb : layB (i : Int) bs = true) :
    (L.take (i * 124) ++ List.replicate 124 0 ++ L.drop (i * 124 + 124)).take (i * 124) ++ (sf bs n).take n ++ (L.take (i * 124) ++ List.replicate 124 0 ++ L.drop (i * 124 + 124)).drop (i * 124 + n) = layL L (i : Int) bs := by
  have h1 : (L.take (i * 124)).length = i * 124 := by rw [List.length_take]; omega
  unfold layL
  rw [if_pos hb, sf_take bs hl, Int.toNat_natCast, show bs.length / 2 = n by omega, List.append_assoc (L.take (i * 124)) (List.replicate 124 0)]
  rw [List.take_append_of_le_length (by omega), List.take_of_length_le (by omega), List.drop_append, h1, List.drop_of_length_le (by omega), List.nil_append, Nat.add_sub_cancel_left, List.drop_append_of_le_length (by rw [List.length_replicate]; exact hn), List.drop_replicate]
  simp only [List.append_assoc]
theorem layL_ok {L : List Nat} (h : Ok L) (i : Int) (bs : List UInt8) : Ok (layL L i bs) := by
  unfold layL
  split
  · rename_i hb
    unfold layB at hb
    simp only [Bool.and_eq_true, decide_eq_true_eq] at hb
    obtain ⟨⟨⟨⟨hi, hl⟩, hm⟩, hp⟩, he⟩ := hb
    obtain ⟨j, rfl⟩ : ∃ j : Nat, i = j := ⟨i.toNat, by omega⟩
    rw [Int.toNat_natCast] at *
    have hL := h.len
    have hs := said_len bs
    have h1 : (L.take (j * 124)).length = j * 124 := by rw [List.length_take]; omega
    have h2 : (said bs ++ List.replicate (124 - bs.length / 2) 0).length = 124 := by rw [List.length_append, List.length_replicate, hs]; omega
    have hg : ∀ k, (L.take (j * 124) ++ (said bs ++ List.replicate (124 - bs.length / 2) 0) ++ L.drop (j * 124 + 124))[k]? = if k < j * 124 then L[k]? else if k < j * 124 + 124 then (said bs ++ List.replicate (124 - bs.length / 2) 0)[k - j * 124]? else L[k]? := fun k => by
      by_cases e1 : k < j * 124
      · rw [if_pos e1, List.getElem?_append_left (by rw [List.length_append]; omega), List.getElem?_append_left (by omega), List.getElem?_take_of_lt e1]
      · rw [if_neg e1]
        by_cases e2 : k < j * 124 + 124
        · rw [if_pos e2, List.getElem?_append_left (by rw [List.length_append]; omega), List.getElem?_append_right (by omega), h1]
        · rw [if_neg e2, List.getElem?_append_right (by rw [List.length_append]; omega), List.length_append, h1, h2, List.getElem?_drop, show j * 124 + 124 + (k - (j * 124 + 124)) = k by omega]
    refine ⟨by rw [List.length_append, List.length_append, List.length_drop, h1, h2]; omega, fun k x hx => ?_, fun k hk => ?_⟩
    · rw [hg] at hx
      split at hx
      · exact h.lt k x hx
      · split at hx
        · by_cases e : k - j * 124 < (said bs).length
          · rw [List.getElem?_append_left e] at hx; exact said_lt bs hx
          · rw [List.getElem?_append_right (by omega)] at hx
            have := List.mem_of_getElem? hx
            rw [List.mem_replicate] at this; omega
        · exact h.lt k x hx
    · rw [List.getD_eq_getElem?_getD, hg]
      split
      · rw [← List.getD_eq_getElem?_getD]; exact h.end_ k hk
      · split
        · by_cases e : k - j * 124 < (said bs).length
          · rw [List.getElem?_append_left e, ← List.getD_eq_getElem?_getD]
            by_cases e0 : (said bs).getD (k - j * 124) 0 = 0
            · exact e0
            · have := hp (k - j * 124) (by omega) e0
              omega
          · rw [List.getElem?_append_right (by omega), List.getElem?_replicate]
            split <;> rfl
        · rw [← List.getD_eq_getElem?_getD]; exact h.end_ k hk
  · exact h
end Pgs
end Go.Proofs.Ytcmaehilgeonjaa
