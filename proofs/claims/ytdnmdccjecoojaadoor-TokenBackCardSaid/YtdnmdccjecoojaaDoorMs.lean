/- token, apart from memory: a text of signs. -/
import Derived.Test.YtdnmdccjecoojaaDoorMp
namespace Go.Proofs.YtdnmdccjecoojaaDoor
namespace Tok
def signC : List UInt8 := [40, 41, 44, 59, 61, 42, 124, 58, 33, 43, 45, 126, 60, 62, 94, 95]
structure SignT (s : List UInt8) : Prop where
  of : ∀ c ∈ s, c ∈ signC
  no : ∀ i, (s.drop i).take 2 ≠ [40, 42]
def sgN (s : List UInt8) (i : Nat) : Nat := if i + 2 ≤ s.length ∧ (s.drop i).take 2 ∈ signsL.take 6 then 2 else 1
def sat (s : List UInt8) : Nat → Nat
  | 0 => 0
  | k + 1 => sat s k + sgN s (sat s k)
theorem signC_plain : ∀ c ∈ signC, blankB c = false ∧ (smallB c || greatB c) = false ∧ c ≠ 39 ∧ digitB c = false ∧ c ≠ 34 ∧ [c] ∈ signsL.drop 6 := by decide
theorem signs_two : ∀ x ∈ signsL.take 6, x.length = 2 := by decide
theorem signs_one : ∀ x ∈ signsL.drop 6, x.length = 1 := by decide
theorem find_split {α : Type} (p : α → Bool) (a b : List α) : (a ++ b).find? p = (a.find? p).or (b.find? p) := List.find?_append
theorem find_uniq {L : List (List UInt8)} {m : Nat} (hm : ∀ x ∈ L, x.length = m) (r : List UInt8) : L.find? (fun x => r.take x.length == x) = if r.take m ∈ L then some (r.take m) else none := by
  induction L with
  | nil => rfl
  | cons a l ih =>
    have ha := hm a (List.mem_cons_self ..)
    simp only [List.find?, ha]
    by_cases he : r.take m = a
    · rw [show (r.take m == a) = true by simpa using he, if_pos (by rw [he]; exact List.mem_cons_self ..)]
      simp [he]
    · rw [show (r.take m == a) = false by simpa using he]
      simp only
      rw [ih (fun x hx => hm x (List.mem_cons_of_mem _ hx))]
      by_cases hl : r.take m ∈ l
      · rw [if_pos hl, if_pos (List.mem_cons_of_mem _ hl)]
      · rw [if_neg hl, if_neg (by
          intro h
          rcases List.mem_cons.1 h with h | h
          · exact he h
          · exact hl h)]
theorem one_sign {s : List UInt8} (h : SignT s) {i : Nat} (hi : i < s.length) : blankN (s.drop i) = some 0 ∧ oneN (s.drop i) = some (⟨7, (s.drop i).take (sgN s i), 0⟩, sgN s i) := by
  obtain ⟨c, hc⟩ : ∃ c, s[i]? = some c := ⟨_, List.getElem?_eq_getElem hi⟩
  have hd := drop_cons hc
  obtain ⟨p1, p2, p3, p4, p5, p6⟩ := signC_plain c (h.of c (List.mem_of_getElem? hc))
  have hno := h.no i
  have hlen : (s.drop i).length = s.length - i := List.length_drop ..
  refine ⟨?_, ?_⟩
  · rw [hd] at hno ⊢
    show (if blankB c then some 1 else if (c :: s.drop (i + 1)).take 2 = [40, 42] then comS (c :: s.drop (i + 1)) 0 else some 0) = some 0
    rw [if_neg (by rw [p1]; decide), if_neg hno]
  · have hON : oneN (s.drop i) = signN (s.drop i) := by
      rw [hd]
      show (if smallB c || greatB c then nameN _ else if c = 39 then tickN _ else if digitB c then numN _ else if c = 34 then strN _ else signN _) = _
      rw [if_neg (by rw [p2]; decide), if_neg p3, if_neg (by rw [p4]; decide), if_neg p5]
    rw [hON]
    unfold signN
    have hsp : signsL = signsL.take 6 ++ signsL.drop 6 := rfl
    have h1 := find_uniq signs_two (s.drop i)
    have h2 := find_uniq signs_one (s.drop i)
    have ht1 : (s.drop i).take 1 = [c] := by rw [hd]; rfl
    rw [ht1, if_pos p6] at h2
    rw [hsp, find_split, h1, h2]
    unfold sgN
    by_cases htwo : (s.drop i).take 2 ∈ signsL.take 6
    · have hl2 : i + 2 ≤ s.length := by
        have := signs_two _ htwo
        rw [List.length_take, hlen] at this
        omega
      rw [if_pos htwo, if_pos ⟨hl2, htwo⟩]
      show some ((⟨7, (s.drop i).take 2, 0⟩ : Tk), ((s.drop i).take 2).length) = _
      rw [signs_two _ htwo]
    · rw [if_neg htwo, if_neg (fun h => htwo h.2), ht1]; rfl
structure SgI (s : List UInt8) (i : Nat) (l : List (Tk × Nat)) : Prop where
  at_ : i = sat s l.length
  is : ∀ k x, l[k]? = some x → x = (⟨7, (s.drop (sat s k)).take (sgN s (sat s k)), 0⟩, sat s k)
theorem sign_scan {s : List UInt8} (hs : s.length ≤ 16384) (h : SignT s) : ∃ l, scanR s = .ok l ∧ SgI s s.length l := by
  have hi := scan_ind hs (SgI s) ⟨rfl, fun k x h => by simp at h⟩ (fun i l n hi hb hn _ => by
    rw [(one_sign h hi).1] at hb; cases hb; omega) (fun i l t n hi hb ho hI => by
    rw [(one_sign h hi).2] at ho
    cases ho
    refine ⟨?_, fun k x hk => ?_⟩
    · rw [List.length_append]
      show i + sgN s i = sat s l.length + sgN s (sat s l.length)
      rw [← hI.at_]
    · rcases Nat.lt_or_ge k l.length with hlt | hge
      · rw [List.getElem?_append_left hlt] at hk
        exact hI.is k x hk
      · obtain rfl : k = l.length := by
          have := (List.getElem?_eq_some_iff.1 hk).1
          rw [List.length_append] at this
          simp at this
          omega
        rw [List.getElem?_append_right (Nat.le_refl _), Nat.sub_self] at hk
        simp at hk
        rw [← hk, ← hI.at_])
  cases hr : scanR s with
  | ok l => exact ⟨l, rfl, hi.1 l hr⟩
  | err j =>
    obtain ⟨hj, _, _, _, hor⟩ := hi.2 j hr
    obtain ⟨g1, g2⟩ := one_sign h hj
    rcases hor with e | ⟨_, e⟩
    · rw [g1] at e; cases e
    · rw [g2] at e; cases e
theorem sgN_le {s : List UInt8} {i : Nat} (hi : i < s.length) : 1 ≤ sgN s i ∧ i + sgN s i ≤ s.length := by
  unfold sgN
  split
  · rename_i h; exact ⟨by omega, h.1⟩
  · exact ⟨Nat.le_refl _, by omega⟩
theorem signsL_C : ∀ x ∈ signsL, ∀ c ∈ x, c ∈ signC := by decide
theorem signs_le : ∀ x ∈ signsL, x.length ≤ 2 := by decide
end Tok
end Go.Proofs.YtdnmdccjecoojaaDoor
