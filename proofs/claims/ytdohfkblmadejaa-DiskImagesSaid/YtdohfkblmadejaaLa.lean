/- DiskLasts: what is behind a loss of power. -/
import Derived.Test.YtdohfkblmadejaaCpb
namespace Go.Proofs.Ytdohfkblmadejaa
open Go.RowKit Dsk

def hasKind (ls : List St) (j : Nat) (k : Int) : Prop := ∃ st, ls[j]? = some st ∧ st.kind = k
/-- The last barrier of the first j steps. -/
def lastB (ls : List St) : Nat → Nat
  | 0 => 0
  | j + 1 => match ls[j]? with
    | none => lastB ls j
    | some st => if st.kind = 2 then j else lastB ls j
theorem lastB_le (ls : List St) : ∀ j, lastB ls j ≤ j
  | 0 => Nat.le_refl _
  | j + 1 => by
    have := lastB_le ls j
    unfold lastB
    split
    · omega
    · split <;> omega
theorem lastB_some {ls : List St} {j : Nat} {st : St} (h : ls[j]? = some st) : lastB ls (j + 1) = if st.kind = 2 then j else lastB ls j := by
  show (match ls[j]? with | none => lastB ls j | some st => if st.kind = 2 then j else lastB ls j) = _
  rw [h]

/-- A write of the i-th step to sector s, that fits. -/
def Hit (ls : List St) (i s : Nat) (b : List UInt8) : Prop := ∃ st, ls[i]? = some st ∧ st.kind = 1 ∧ st.s = (s : Int) ∧ st.B.length ≤ 256 ∧ b = filled st.B 256
def Since (ls : List St) (j : Nat) (P : List (Nat × List UInt8)) : Prop := ∀ p ∈ P, ∃ i, lastB ls j ≤ i ∧ i < j ∧ Hit ls i p.1 p.2

/-- The disk of the first j steps, of which only the writes and the barriers are done. -/
structure LInv (ls : List St) (j : Nat) (D : DS) : Prop where
  good : Good D
  since : Since ls j D.P
  steps : D.steps ≤ j ∧ D.P.length ≤ j
theorem LInv.zero (ls : List St) : LInv ls 0 (newD 16) := ⟨Good.new, fun p hp => (by cases hp), Nat.le_refl _, Nat.le_refl _⟩
theorem LInv.same {ls : List St} {j : Nat} {D : DS} {st : St} (h : LInv ls j D) (hj : ls[j]? = some st) (h2 : st.kind ≠ 2) : LInv ls (j + 1) D :=
  ⟨h.good, fun p hp => by
    obtain ⟨i, h1, h3, h4⟩ := h.since p hp
    exact ⟨i, by rw [lastB_some hj, if_neg h2]; exact h1, by omega, h4⟩, by have := h.steps; omega⟩
theorem LInv.write {ls : List St} {j : Nat} {D : DS} {st : St} (h : LInv ls j D) (hj : ls[j]? = some st) (h1 : st.kind = 1) : LInv ls (j + 1) (writeD D st.s st.B) := by
  have h2 : st.kind ≠ 2 := by omega
  have hs := write_steps D st.s st.B
  have hst := h.steps
  refine ⟨h.good.write st.s st.B, ?_, by omega, by omega⟩
  by_cases hf : (0 ≤ st.s ∧ st.s < 16) ∧ st.B.length ≤ 256
  · rw [h.good.writeD, if_pos hf]
    intro p hp
    rcases List.mem_append.1 hp with hp | hp
    · exact (h.same hj h2).since p hp
    · rw [List.mem_singleton.1 hp]
      exact ⟨j, by rw [lastB_some hj, if_neg h2]; exact lastB_le ls j, by omega, st, hj, h1, by show st.s = (st.s.toNat : Int); omega, hf.2, rfl⟩
  · rw [h.good.writeD, if_neg hf]
    exact (h.same hj h2).since
theorem LInv.bar {ls : List St} {j : Nat} {D : DS} (h : LInv ls j D) : LInv ls (j + 1) (barD D) := by
  have hs := bar_steps D
  have hst := h.steps
  refine ⟨h.good.bar, ?_, by omega, by omega⟩
  rw [h.good.barD]
  exact fun p hp => by cases hp

/-- Behind the loss. -/
def lostD (D : DS) (ks : List Int) (torn : Int) : DS := onD (offD D) ks torn
theorem Good.lost {D : DS} (h : Good D) (ks : List Int) (torn : Int) : lostD D ks torn = ⟨settleTo (onF (has ks) torn) D.P D.S D.P.length, [], false, 0, D.steps⟩ := by
  rw [h.eta]; rfl
theorem Good.off_read {D : DS} (h : Good D) (i : Int) : readE (offD D) i = 4 := by
  rw [h.eta]; rfl
theorem Good.lost_on {D : DS} (h : Good D) (ks ks' : List Int) (torn torn' : Int) : onD (lostD D ks torn) ks' torn' = lostD D ks torn ∧ onE (lostD D ks torn) = 3 ∧ onE (offD D) = 0 := by
  rw [h.lost, h.eta]; exact ⟨rfl, rfl, rfl⟩

theorem lost_three (S : List (List UInt8)) (P : List (Nat × List UInt8)) (f : Nat → List UInt8 → Option (List UInt8)) (t : Prop) (hf : ∀ k b c, f k b = some c → c = b ∨ (c = [] ∧ t)) (s : Nat) (hP : ∀ p ∈ P, p.1 < S.length) :
    ∀ k, (settleTo f P S k).getD s [] = S.getD s [] ∨ (∃ p ∈ P, p.1 = s ∧ (settleTo f P S k).getD s [] = p.2) ∨ ((settleTo f P S k).getD s [] = [] ∧ t ∧ ∃ p ∈ P, p.1 = s)
  | 0 => .inl rfl
  | k + 1 => by
    have ih := lost_three S P f t hf s hP k
    have hl := settleTo_length f P S k
    unfold settleTo
    split
    · exact ih
    · rename_i p hp
      split
      · exact ih
      · rename_i b hb
        have hm := List.mem_of_getElem? hp
        by_cases e : p.1 = s
        · have e1 : ((settleTo f P S k).set p.1 b).getD s [] = b := by
            rw [List.getD, e, List.getElem?_set_self (by rw [hl, ← e]; exact hP p hm)]; rfl
          rw [e1]
          rcases hf k p.2 b hb with e2 | ⟨e2, e3⟩
          · exact .inr (.inl ⟨p, hm, e, e2⟩)
          · exact .inr (.inr ⟨e2, e3, p, hm, e⟩)
        · have e1 : ((settleTo f P S k).set p.1 b).getD s [] = (settleTo f P S k).getD s [] := by
            rw [List.getD, List.getElem?_set_ne e]; rfl
          rw [e1]; exact ih

/-- What a sector reads behind the loss. -/
structure LostAt (ls : List St) (D : DS) (ks : List Int) (torn : Int) (s : Nat) (c : List UInt8) : Prop where
  read : readS (lostD D ks torn) s = c
  err : readE (lostD D ks torn) (s : Int) = if c = [] then 5 else 0
  len : c = [] ∨ c.length = 256
  three : c = D.S.getD s [] ∨ (∃ i, lastB ls ls.length ≤ i ∧ i < ls.length ∧ Hit ls i s c) ∨ (c = [] ∧ 0 ≤ torn ∧ ∃ i b, lastB ls ls.length ≤ i ∧ i < ls.length ∧ Hit ls i s b)

theorem LInv.lostAt {ls : List St} {D : DS} (h : LInv ls ls.length D) (ks : List Int) (torn : Int) (s : Nat) (hs : s < 16) : ∃ c, LostAt ls D ks torn s c := by
  have hsl : s < D.S.length := by rw [h.good.len]; exact hs
  have h0 := lost_three D.S D.P (onF (has ks) torn) (0 ≤ torn) (fun k b c e => by
    unfold onF at e
    split at e
    · cases e; exact .inr ⟨rfl, by omega⟩
    · split at e
      · cases e; exact .inl rfl
      · cases e) s (fun p hp => by rw [h.good.len]; exact (h.good.pend p hp).1) D.P.length
  have e1 : readS (lostD D ks torn) s = (settleTo (onF (has ks) torn) D.P D.S D.P.length).getD s [] := by rw [h.good.lost]; rfl
  have hfull : (D.S.getD s []).length = 256 := by
    simp only [List.getD, List.getElem?_eq_getElem hsl, Option.getD_some]
    exact h.good.full _ (List.getElem_mem hsl)
  refine ⟨_, e1, ?_, ?_, ?_⟩
  · have h3 := read_live (S := settleTo (onF (has ks) torn) D.P D.S D.P.length) (P := []) (t := D.steps) 0 s (by rw [settleTo_length]; exact hsl)
    rw [h.good.lost]; exact h3
  · rcases h0 with e | ⟨p, hp, _, e⟩ | ⟨e, _⟩
    · exact .inr (by rw [e]; exact hfull)
    · exact .inr (by rw [e]; exact (h.good.pend p hp).2)
    · exact .inl e
  · rcases h0 with e | ⟨p, hp, h1, e⟩ | ⟨e, ht, p, hp, h1⟩
    · exact .inl e
    · obtain ⟨i, h2, h3, h4⟩ := h.since p hp
      exact .inr (.inl ⟨i, h2, h3, by rw [e, ← h1]; exact h4⟩)
    · obtain ⟨i, h2, h3, h4⟩ := h.since p hp
      exact .inr (.inr ⟨e, ht, i, p.2, h2, h3, h1 ▸ h4⟩)

/-- With all kept, and none torn, all is as it read. -/
def ints (n : Nat) : List Int := (List.range n).map fun (i : Nat) => (i : Int)
theorem ints_length (n : Nat) : (ints n).length = n := by simp [ints]
theorem ints_succ (n : Nat) : ints (n + 1) = ints n ++ [(n : Int)] := by simp [ints, List.range_succ]
theorem has_ints (n k : Nat) (h : k < n) : has (ints n) (k : Int) = true := by
  unfold has ints
  simp
  exact ⟨k, h, rfl⟩
theorem settle_all (P : List (Nat × List UInt8)) (S : List (List UInt8)) : ∀ k, k ≤ P.length → settleTo (onF (has (ints P.length)) (-1)) P S k = settleTo (fun _ b => some b) P S k
  | 0, _ => rfl
  | k + 1, hk => by
    have ih := settle_all P S k (by omega)
    have e : P[k]? = some P[k] := List.getElem?_eq_getElem (by omega)
    have e2 : onF (has (ints P.length)) (-1) k P[k].2 = some P[k].2 := by
      unfold onF
      rw [if_neg (by omega), has_ints _ k (by omega), if_pos rfl]
    simp only [settleTo, e, e2, ih]
def readAll (D : DS) (n : Nat) : List (List UInt8) := (List.range n).map fun s => readS D s
theorem readAll_length (D : DS) (n : Nat) : (readAll D n).length = n := by simp [readAll]
theorem readAll_succ (D : DS) (n : Nat) : readAll D (n + 1) = readAll D n ++ [readS D n] := by simp [readAll, List.range_succ]
theorem Good.twin {D : DS} (h : Good D) : (onD (offD D) (ints D.P.length) (-1)).S = readAll D 16 ∧ onE (offD D) = 0 := by
  refine ⟨?_, by rw [h.eta]; rfl⟩
  have e : onD (offD D) (ints D.P.length) (-1) = lostD D (ints D.P.length) (-1) := rfl
  rw [e, h.lost]
  show settleTo _ D.P D.S D.P.length = _
  rw [settle_all D.P D.S _ (Nat.le_refl _)]
  apply List.ext_getElem?
  intro s
  by_cases hs : s < 16
  · have h1 := settle_get D.P D.S s (fun p hp => by have := (h.pend p hp).1; rw [h.len]; exact this) D.P.length (Nat.le_refl _)
    rw [List.take_length] at h1
    have hl : s < (settleTo (fun _ b => some b) D.P D.S D.P.length).length := by rw [settleTo_length, h.len]; exact hs
    rw [List.getElem?_eq_getElem (by rw [settleTo_length, h.len]; exact hs)]
    simp only [List.getD, List.getElem?_eq_getElem hl, Option.getD_some] at h1
    rw [h1]
    unfold readAll
    rw [List.getElem?_map, List.getElem?_range hs]; rfl
  · rw [List.getElem?_eq_none (by rw [settleTo_length, h.len]; omega), List.getElem?_eq_none (by rw [readAll_length]; omega)]

end Go.Proofs.Ytdohfkblmadejaa
