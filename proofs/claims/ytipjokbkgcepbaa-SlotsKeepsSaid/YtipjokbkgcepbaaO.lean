/- What Put and Drop make. -/
import Derived.Test.YtipjokbkgcepbaaJ
namespace Go.Proofs.Ytipjokbkgcepbaa
open Go.RowKit Slt

theorem recs_full {p : List UInt8} (h : Ok p) : Full (recs p) := full_of_trim h.trim
theorem low_free {p : List UInt8} (h : Ok p) (hk : lowK (recs p) ≠ cnt p) : lowK (recs p) < cnt p ∧ (recs p)[lowK (recs p)]? = some [] := by
  have hle := lowK_le (recs p)
  rw [recs_length h] at hle
  have hlt : lowK (recs p) < (recs p).length := by rw [recs_length h]; omega
  refine ⟨by omega, ?_⟩
  rw [List.getElem?_eq_getElem hlt]
  have := @List.findIdx_getElem _ (fun r : List UInt8 => r.length == 0) (recs p) hlt
  simp at this
  simp only [Option.some.injEq]
  exact this
theorem Full.set {l : List (List UInt8)} (h : Full l) (k : Nat) {r : List UInt8} (hr : 0 < r.length) : Full (l.set k r) := by
  rcases h with rfl | ⟨m, s, rfl, hs⟩
  · exact .inl (by simp)
  · rcases Nat.lt_trichotomy k m.length with hk | hk | hk
    · exact .inr ⟨m.set k r, s, by rw [List.set_append, if_pos hk], hs⟩
    · exact .inr ⟨m, r, by rw [List.set_append, if_neg (by omega), hk, Nat.sub_self]; rfl, hr⟩
    · exact .inr ⟨m, s, by rw [List.set_eq_of_length_le (by simp; omega)], hs⟩
theorem putL_full {p rec : List UInt8} (h : Ok p) (hr : 0 < rec.length) : Full (putL p rec) := by
  unfold putL
  split
  · exact .inr ⟨_, _, rfl, hr⟩
  · exact Full.set (recs_full h) _ hr
theorem set_flat : ∀ (l : List (List UInt8)) (k : Nat) (r : List UInt8), l[k]? = some [] → (l.set k r).flatten.length = l.flatten.length + r.length
  | [], k, r, h => by simp at h
  | s :: l, 0, r, h => by simp at h; subst h; simp only [List.set_cons_zero, List.flatten_cons, List.length_append, List.length_nil]; omega
  | s :: l, k + 1, r, h => by have := set_flat l k r (by simpa using h); simp only [List.set_cons_succ, List.flatten_cons, List.length_append, this]; omega
theorem put_len {p rec : List UInt8} (h : Ok p) (hr : 0 < rec.length) : (pageOf (putL p rec)).length = p.length + rec.length + (if lowK (recs p) = cnt p then 1 else 0) := by
  rw [page_length, (putL_full h hr).trim, h.len]
  unfold putL
  by_cases hk : lowK (recs p) = cnt p
  · rw [if_pos hk, if_pos hk, List.length_append, List.flatten_append, List.length_append, recs_length h]
    simp; omega
  · rw [if_neg hk, if_neg hk, List.length_set, set_flat _ _ _ (low_free h hk).2, recs_length h]
    omega
theorem mayPut.made {p rec : List UInt8} (h : mayPut p rec) : Ok (pageOf (putL p rec)) ∧ recs (pageOf (putL p rec)) = putL p rec := by
  obtain ⟨hok, h0, hf⟩ := h.ok
  have hl := put_len hok h0
  have hr := hok.room
  unfold roomN at hf
  have := page_ok (l := putL p rec) (by omega)
  rw [(putL_full hok h0).trim] at this
  exact this
theorem mayPut_iff {p rec : List UInt8} : mayPut p rec ↔ 0 < rec.length ∧ (rec.length : Int) ≤ roomR p := by
  unfold mayPut
  rw [← List.length_pos_iff]
theorem drop_ok {p : List UInt8} (h : Ok p) (s : Int) : Ok (pageOf (dropL p s)) ∧ recs (pageOf (dropL p s)) = trim (dropL p s) := by
  refine page_ok ?_
  rw [page_length]
  have h1 := trim_length_le (dropL p s)
  have h2 : (dropL p s).flatten.length ≤ (recs p).flatten.length := set_nil_flat _ _
  have h3 : (dropL p s).length = cnt p := by unfold dropL; rw [List.length_set, recs_length h]
  have h4 := h.len
  have h5 := h.room
  omega
theorem roomR_bd (p : List UInt8) : roomR p = -1 ∨ 1 ≤ roomR p ∧ roomR p ≤ 246 := by
  unfold roomR
  by_cases h : Ok p ∧ 0 < roomN p
  · rw [if_pos h]
    refine .inr ⟨by omega, ?_⟩
    have h1 := h.1.head
    have h2 := h.1.ne
    have h3 := lowK_le (recs p)
    rw [recs_length h.1] at h3
    unfold roomN
    split
    · omega
    · have : cnt p ≠ 0 := by omega
      omega
  · rw [if_neg h]; exact .inl rfl
theorem room_full {p rec : List UInt8} (h : mayPut p rec) (he : (rec.length : Int) = roomR p) : (pageOf (putL p rec)).length = 248 ∧ roomR (pageOf (putL p rec)) = -1 := by
  obtain ⟨hok, h0, hf⟩ := h.ok
  have hl := put_len hok h0
  have hr := hok.room
  have hrr : roomR p = (roomN p : Int) := if_pos ⟨hok, by omega⟩
  rw [hrr] at he
  have he2 : rec.length = roomN p := by omega
  have hpos : 0 < roomN p := by omega
  have hlen : (pageOf (putL p rec)).length = 248 := by
    rw [hl, he2]
    unfold roomN at hpos ⊢
    by_cases hk : lowK (recs p) = cnt p
    · rw [if_pos hk] at hpos ⊢; omega
    · rw [if_neg hk] at hpos ⊢; omega
  refine ⟨hlen, ?_⟩
  unfold roomR
  rw [if_neg]
  intro hh
  have := hh.2
  unfold roomN at this
  rw [hlen] at this
  omega
end Go.Proofs.Ytipjokbkgcepbaa
