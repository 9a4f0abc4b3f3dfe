/- Records put anew: what there is between. -/
import Derived.Test.YtipjokbkgcepbaaO
namespace Go.Proofs.Ytipjokbkgcepbaa
open Go.RowKit Slt

/-- Has slot k a record? -/
def useB (R : List (List UInt8)) (k : Nat) : Bool := decide (0 < (R.getD k []).length)
def freeK (R : List (List UInt8)) (n : Nat) : List Nat := (List.range n).filter fun k => !useB R k
theorem usedK_eq (R : List (List UInt8)) : usedK R = (List.range R.length).filter (useB R) := rfl
/-- The records up to a slot, with a byte in each free one. -/
def fillA (R : List (List UInt8)) (n : Nat) : List (List UInt8) := (R.take n).map fun r => if r.length = 0 then [1] else r
theorem fillA_length (R : List (List UInt8)) (n : Nat) (h : n ≤ R.length) : (fillA R n).length = n := by simp [fillA]; omega
theorem fillA_ne (R : List (List UInt8)) (n : Nat) : ∀ r ∈ fillA R n, r.length ≠ 0 := fun r hr => by
  obtain ⟨s, _, rfl⟩ := List.mem_map.1 hr
  split
  · simp
  · assumption
theorem fillA_succ {R : List (List UInt8)} {n : Nat} {r : List UInt8} (h : R[n]? = some r) : fillA R (n + 1) = fillA R n ++ [if r.length = 0 then [1] else r] := by
  obtain ⟨hn, rfl⟩ := List.getElem?_eq_some_iff.1 h
  unfold fillA
  rw [List.take_succ_eq_append_getElem hn, List.map_append]; rfl
/-- So far has it come: the i-th used slot is next, or later. -/
structure Far (R : List (List UInt8)) (i n : Nat) : Prop where
  le : n ≤ R.length
  is : (usedK R).take i = (List.range n).filter (useB R)
theorem Far.zero (R : List (List UInt8)) : Far R 0 0 := ⟨Nat.zero_le _, rfl⟩
theorem range_split {n m : Nat} (h : n ≤ m) : List.range m = List.range n ++ (List.range (m - n)).map (n + ·) := by
  have := List.range_add (n := n) (m := m - n)
  rwa [show n + (m - n) = m by omega] at this
theorem Far.next {R : List (List UInt8)} {i n x : Nat} (h : Far R i n) (hx : (usedK R)[i]? = some x) : n ≤ x ∧ x < R.length ∧ useB R x = true ∧ ∀ k, n ≤ k → k < x → useB R k = false := by
  have hi := (List.getElem?_eq_some_iff.1 hx).1
  have hmem : x ∈ usedK R := List.mem_of_getElem? hx
  rw [usedK_eq, List.mem_filter, List.mem_range] at hmem
  have hsp : usedK R = (usedK R).take i ++ ((List.range (R.length - n)).map (n + ·)).filter (useB R) := by
    rw [h.is, ← List.filter_append, ← range_split h.le, usedK_eq]
  have hlt : ((usedK R).take i).length = i := by rw [List.length_take]; omega
  have hx2 := hx
  rw [hsp, List.getElem?_append_right (by omega), hlt, Nat.sub_self] at hx2
  have hm2 := List.mem_of_getElem? hx2
  rw [List.mem_filter, List.mem_map] at hm2
  obtain ⟨⟨d, hd, hde⟩, _⟩ := hm2
  refine ⟨by omega, hmem.1, hmem.2, fun k hk1 hk2 => ?_⟩
  by_cases hu : useB R k = true
  · exfalso
    -- k would stand ahead of x
    have hpw : ((List.range (R.length - n)).map (n + ·)).Pairwise (· < ·) := by
      rw [List.pairwise_map]
      exact List.pairwise_lt_range.imp fun h => by omega
    have hpf := hpw.filter (useB R)
    have hkm : k ∈ ((List.range (R.length - n)).map (n + ·)).filter (useB R) := by
      rw [List.mem_filter, List.mem_map]
      exact ⟨⟨k - n, by rw [List.mem_range] at hd ⊢; omega, by omega⟩, hu⟩
    obtain ⟨j, hj, hjk⟩ := List.getElem_of_mem hkm
    obtain ⟨h0, hx0⟩ := List.getElem?_eq_some_iff.1 hx2
    rcases Nat.eq_zero_or_pos j with hj0 | hj0
    · subst hj0; omega
    · have := List.pairwise_iff_getElem.1 hpf 0 j h0 hj hj0
      omega
  · simpa using hu
theorem filter_succ (f : Nat → Bool) (n : Nat) : (List.range (n + 1)).filter f = (List.range n).filter f ++ (if f n then [n] else []) := by
  rw [List.range_succ, List.filter_append]
  congr 1
  by_cases h : f n = true
  · simp [h]
  · simp [h]
theorem Far.skip {R : List (List UInt8)} {i n : Nat} (h : Far R i n) (hn : n < R.length) (hu : useB R n = false) : Far R i (n + 1) := by
  refine ⟨hn, ?_⟩
  rw [filter_succ, hu, h.is]; simp
theorem Far.take {R : List (List UInt8)} {i n : Nat} (h : Far R i n) (hx : (usedK R)[i]? = some n) : Far R (i + 1) (n + 1) := by
  obtain ⟨_, h2, h3, _⟩ := h.next hx
  refine ⟨h2, ?_⟩
  obtain ⟨hi, e⟩ := List.getElem?_eq_some_iff.1 hx
  rw [filter_succ, h3, ← h.is, List.take_succ_eq_append_getElem hi, e]; rfl
theorem Far.done {R : List (List UInt8)} {n : Nat} (hf : Full R) (h : Far R (usedK R).length n) : n = R.length := by
  have hle := h.le
  have his := h.is
  rw [List.take_length] at his
  rcases hf with rfl | ⟨m, r, rfl, hr⟩
  · simp at hle ⊢; exact hle
  · have hu : useB (m ++ [r]) m.length = true := by
      unfold useB List.getD
      rw [List.getElem?_append_right (Nat.le_refl _)]
      simpa using hr
    have : m.length ∈ usedK (m ++ [r]) := by
      rw [usedK_eq, List.mem_filter, List.mem_range]
      exact ⟨by simp, hu⟩
    rw [his, List.mem_filter, List.mem_range] at this
    have := this.1
    simp at hle ⊢
    omega

/-- All filled, but for some that were dropped. -/
def fillD (R : List (List UInt8)) (zs : List Nat) : List (List UInt8) := (List.range R.length).map fun k => if useB R k then R.getD k [] else if k ∈ zs then [] else [1]
theorem fillD_nil (R : List (List UInt8)) : fillD R [] = fillA R R.length := by
  unfold fillD fillA
  rw [List.take_length]
  apply List.ext_getElem?
  intro k
  rw [List.getElem?_map, List.getElem?_map]
  rcases Nat.lt_or_ge k R.length with hk | hk
  · rw [List.getElem?_range hk, List.getElem?_eq_getElem hk]
    simp only [Option.map_some, useB, List.getD, List.getElem?_eq_getElem hk, Option.getD_some, List.not_mem_nil, if_false]
    by_cases h : R[k].length = 0
    · rw [if_pos h, if_neg (by rw [decide_eq_true_eq]; omega)]
    · rw [if_neg h, if_pos (decide_eq_true (Nat.pos_of_ne_zero h))]
  · rw [List.getElem?_eq_none (by simpa using hk), List.getElem?_eq_none hk]; rfl
theorem fillD_all (R : List (List UInt8)) : fillD R (freeK R R.length) = R := by
  unfold fillD
  apply List.ext_getElem?
  intro k
  rw [List.getElem?_map]
  rcases Nat.lt_or_ge k R.length with hk | hk
  · rw [List.getElem?_range hk, List.getElem?_eq_getElem hk]
    simp only [Option.map_some, Option.some.injEq]
    have hg : R.getD k [] = R[k] := by simp [List.getD, hk]
    by_cases h : useB R k = true
    · rw [if_pos h, hg]
    · rw [if_neg h, if_pos (by unfold freeK; rw [List.mem_filter, List.mem_range]; exact ⟨hk, by simpa using h⟩)]
      unfold useB at h
      rw [hg] at h
      simp at h
      exact h.symm
  · rw [List.getElem?_eq_none (by simpa using hk), List.getElem?_eq_none hk]; rfl
theorem fillD_length (R : List (List UInt8)) (zs : List Nat) : (fillD R zs).length = R.length := by simp [fillD]
theorem fillD_get {R : List (List UInt8)} {zs : List Nat} {f : Nat} (hf : f < R.length) (hu : useB R f = false) (hz : f ∉ zs) : (fillD R zs)[f]? = some [1] := by
  unfold fillD
  rw [List.getElem?_map, List.getElem?_range hf]
  simp [hu, hz]
theorem fillD_set {R : List (List UInt8)} {zs : List Nat} {f : Nat} (hf : f < R.length) (hu : useB R f = false) : (fillD R zs).set f [] = fillD R (zs ++ [f]) := by
  apply List.ext_getElem?
  intro k
  by_cases e : k = f
  · subst e
    rw [List.getElem?_set_self (by rw [fillD_length]; exact hf)]
    unfold fillD
    rw [List.getElem?_map, List.getElem?_range hf]
    simp [hu]
  · rw [List.getElem?_set_ne (fun e' => e e'.symm)]
    unfold fillD
    rw [List.getElem?_map, List.getElem?_map]
    rcases Nat.lt_or_ge k R.length with hk | hk
    · rw [List.getElem?_range hk]
      simp [e]
    · rw [List.getElem?_eq_none (by simpa using hk)]; rfl
theorem fillD_full {R : List (List UInt8)} (hf : Full R) (zs : List Nat) : Full (fillD R zs) := by
  rcases hf with rfl | ⟨m, r, rfl, hr⟩
  · exact .inl rfl
  · refine .inr ⟨(List.range m.length).map fun k => if useB (m ++ [r]) k then (m ++ [r]).getD k [] else if k ∈ zs then [] else [1], r, ?_, hr⟩
    have hu : useB (m ++ [r]) m.length = true := by
      unfold useB List.getD
      rw [List.getElem?_append_right (Nat.le_refl _)]
      simpa using hr
    unfold fillD
    rw [List.length_append, List.length_singleton, List.range_succ, List.map_append]
    congr 1
    simp only [List.map_cons, List.map_nil, hu, if_true]
    simp [List.getD]

/-- A page whose records are known is these records' page. -/
theorem page_of {q : List UInt8} {l : List (List UInt8)} (h : Ok q) (he : recs q = l) : q = pageOf l := by rw [← he, h.page]
theorem put_more {q rec : List UInt8} {l : List (List UInt8)} (he : recs q = l) (hne : ∀ r ∈ l, r.length ≠ 0) (hm : mayPut q rec) : lowK (recs q) = l.length ∧ Ok (pageOf (putL q rec)) ∧ recs (pageOf (putL q rec)) = l ++ [rec] := by
  have hlk : lowK (recs q) = l.length := by rw [he]; exact lowK_none hne
  obtain ⟨h1, h2⟩ := hm.made
  refine ⟨hlk, h1, ?_⟩
  rw [h2]
  unfold putL
  rw [if_pos (by rw [hlk, ← he, recs_length hm.ok.1]), he]
theorem drop_more {q : List UInt8} {R : List (List UInt8)} {zs : List Nat} {f : Nat} (hq : Ok q) (hR : Full R) (he : recs q = fillD R zs) (hf : f < R.length) (hu : useB R f = false) (hz : f ∉ zs) :
    gotR q f = some [1] ∧ Ok (pageOf (dropL q f)) ∧ recs (pageOf (dropL q f)) = fillD R (zs ++ [f]) := by
  have hg : gotR q f = some [1] := gotR_some (by rw [he]; exact fillD_get hf hu hz) rfl (by decide)
  obtain ⟨h1, h2⟩ := drop_ok hq f
  refine ⟨hg, h1, ?_⟩
  rw [h2]
  unfold dropL
  rw [Int.toNat_natCast, he, fillD_set hf hu, (fillD_full hR _).trim]
end Go.Proofs.Ytipjokbkgcepbaa
