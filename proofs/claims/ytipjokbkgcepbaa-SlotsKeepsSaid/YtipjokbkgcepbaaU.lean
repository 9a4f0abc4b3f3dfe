/- SlotsKeeps: what stands between its rounds. -/
import Derived.Test.YtipjokbkgcepbaaRe
import Derived.Lib.MinMax
namespace Go.Proofs.Ytipjokbkgcepbaa
open Go.RowKit Slt

theorem SecsO.pop {w : World} {E : Nat → Prop} {A : Option Addr} {n c : Nat} {S : List (List UInt8)} {b : List UInt8} (h : SecsO w E (.slice A n c) (S ++ [b])) : SecsO w E (.slice A S.length c) S := by
  obtain ⟨vs, ho, hs⟩ := h.own
  have hl := ho.1
  rw [List.length_append, List.length_singleton] at hl
  rcases ho.2 with ⟨_, e0⟩ | ⟨g, cap, cur, e, q0, h1, h2, h3, h4, h5⟩
  · simp at e0
  · injection e with e1 e2 e3
    subst e1
    subst e3
    rw [List.length_append, List.length_singleton] at h2 h5
    refine ⟨vs.take S.length, ⟨by rw [List.length_take]; omega, .inr ⟨g, c, cur, rfl, q0, h1, by omega, h3, h4, ?_⟩⟩, fun k q hq => ?_⟩
    · rw [← h5, List.take_take]
      congr 1
      omega
    · have hk := (List.getElem?_eq_some_iff.1 hq).1
      obtain ⟨v, hv, hsec⟩ := hs k q (by rw [List.getElem?_append_left hk]; exact hq)
      exact ⟨v, by rw [List.getElem?_take_of_lt hk]; exact hv, hsec⟩
theorem SecsO.below {w w' : World} {E : Nat → Prop} {sv : Value} {S : List (List UInt8)} (h : SecsO w E sv S) (hb : Below w.heap.size w w') : SecsO w' E sv S :=
  h.same hb.size (fun k _ hk => hb.block k hk) fun k hk => hb.block k (h.lt k hk)

/-- The page, and the records there are. -/
structure Keep (w wr : World) (pg : List UInt8) (g c : Nat) (hv : Value) : Prop where
  rw_ : Rw wr g pg.length c pg
  ok : Ok pg
  sec : SecsO wr (fun j => j < w.heap.size) hv (recs pg)
  own : ∀ j, hv.ownBlock = some j → j ≠ g ∧ w.heap.size ≤ j
  bel : Below w.heap.size w wr
theorem Keep.below {w wr w2 : World} {pg : List UInt8} {g c : Nat} {hv : Value} (h : Keep w wr pg g c hv) (hb : Below wr.heap.size wr w2) : Keep w w2 pg g c hv :=
  ⟨h.rw_.below hb, h.ok, h.sec.below hb, h.own, h.bel.trans (hb.mono h.bel.size)⟩
def KeepI (w wr : World) (pv hv : Value) : Prop := ∃ pg g c, pv = .slice (some ⟨g, 0, none⟩) pg.length c ∧ Keep w wr pg g c hv
theorem KeepI.begin {w wr : World} {g : Nat} (h : Rw wr g 1 1 [0]) (hb : Below w.heap.size w wr) : KeepI w wr (.slice (some ⟨g, 0, none⟩) 1 1) (.slice none 0 0) := by
  have e : recs [0] = [] := by decide +kernel
  exact ⟨[0], g, 1, rfl, h, by decide +kernel, by rw [e]; exact SecsO.nil _ _, fun j hj => (by cases hj), hb⟩

theorem lowK_at {l : List (List UInt8)} {k : Nat} {r : List UInt8} (h : l[k]? = some r) (hk : k ≤ lowK l) : r.length = 0 ↔ k = lowK l := by
  obtain ⟨hkl, e⟩ := List.getElem?_eq_some_iff.1 h
  constructor
  · intro h0
    rcases Nat.lt_or_ge k (lowK l) with hlt | hge
    · have := List.not_of_lt_findIdx hlt
      simp [e, h0] at this
    · omega
  · intro h0
    have hlt : lowK l < l.length := by omega
    have := @List.findIdx_getElem _ (fun r : List UInt8 => r.length == 0) l hlt
    have e2 : l[lowK l]'hlt = r := by
      have e3 : l[lowK l]? = some r := by rw [← h0]; exact h
      exact (List.getElem?_eq_some_iff.1 e3).2
    change ((l[lowK l]'hlt).length == 0) = true at this
    rw [e2] at this
    simpa using this

/-- How long the page with one more is. -/
theorem keep_size {p rec : List UInt8} {n lk L F : Nat} (h : Ok p) (hn : (recs p).length = n) (hlk : lowK (recs p) = lk) (hL : rec.length = L) (hF : (recs p).flatten.length = F) (h0 : 0 < L) :
    (pageOf (putL p rec)).length = 1 + max n (lk + 1) + L + F ∧ (mayPut p rec ↔ 1 + max n (lk + 1) + L + F ≤ 248) ∧ n ≤ 255 ∧ F ≤ 248 ∧ lk ≤ n := by
  have h1 := put_len (rec := rec) h (by omega)
  have h2 := h.len
  have h3 := recs_length h
  have h4 := lowK_le (recs p)
  obtain ⟨h5, h6⟩ := recs_flat p
  have h7 := mayPut_len (rec := rec) h (by omega)
  rw [hlk] at h1 h4
  have hT : (pageOf (putL p rec)).length = 1 + max n (lk + 1) + L + F := by
    rw [h1]
    by_cases e : lk = cnt p
    · rw [if_pos e, Nat.max_def, if_pos (by omega)]; omega
    · rw [if_neg e, Nat.max_def]
      split <;> omega
  rw [hT] at h7
  exact ⟨hT, h7, by omega, by omega, by omega⟩
theorem flat_take_one {S : List (List UInt8)} {j : Nat} {r : List UInt8} (h : S[j]? = some r) : (S.take (j + 1)).flatten.length = (S.take j).flatten.length + r.length := by
  obtain ⟨hj, rfl⟩ := List.getElem?_eq_some_iff.1 h
  rw [List.take_succ_eq_append_getElem hj, List.flatten_append, List.length_append]
  simp
theorem flat_take_all (S : List (List UInt8)) (j : Nat) : (S.take j).flatten.length ≤ S.flatten.length := by
  conv => rhs; rw [← List.take_append_drop j S, List.flatten_append, List.length_append]
  omega
theorem gotR_cases (p : List UInt8) (slot : Int) (n : Nat) (hn : (recs p).length = n) :
    (gotR p slot = none ∧ (slot < 0 ∨ (n : Int) ≤ slot ∨ ∃ k : Nat, slot = k ∧ k < n ∧ (recs p)[k]? = some [])) ∨ ∃ (k : Nat) (r : List UInt8), slot = k ∧ k < n ∧ (recs p)[k]? = some r ∧ 0 < r.length ∧ gotR p slot = some r := by
  by_cases h0 : slot < 0
  · exact .inl ⟨if_neg (by omega), .inl h0⟩
  obtain ⟨k, rfl⟩ : ∃ k : Nat, slot = k := ⟨slot.toNat, by omega⟩
  by_cases h1 : n ≤ k
  · exact .inl ⟨gotR_none fun j s hj he => by
      obtain rfl : j = k := by omega
      have := (List.getElem?_eq_some_iff.1 hj).1; omega, .inr (.inl (by omega))⟩
  obtain ⟨r, hr⟩ : ∃ r, (recs p)[k]? = some r := ⟨_, List.getElem?_eq_getElem (by omega)⟩
  by_cases h2 : r.length = 0
  · have e : r = [] := List.eq_nil_of_length_eq_zero h2
    subst e
    exact .inl ⟨gotR_none fun j s hj he => by
      obtain rfl : j = k := by omega
      rw [hr] at hj; cases hj; rfl, .inr (.inr ⟨k, rfl, by omega, hr⟩)⟩
  · exact .inr ⟨k, r, rfl, by omega, hr, by omega, gotR_some hr rfl (by omega)⟩
theorem trim_last {S : List (List UInt8)} (h : S = [] ∨ ∃ m r, S = m ++ [r] ∧ 0 < r.length) : trim S = S := by
  rcases h with rfl | ⟨m, r, rfl, hr⟩
  · rfl
  · exact trim_snoc m r hr
end Go.Proofs.Ytipjokbkgcepbaa
