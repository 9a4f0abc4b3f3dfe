/- What a disk says, apart from memory. -/
namespace Dsk

/-- What a disk has: what lasts of each sector, what is pending, the power, the steps. -/
structure DS where
  S : List (List UInt8)
  P : List (Nat × List UInt8)
  dead : Bool
  armed : Nat
  steps : Nat

/-- The place of the last write to s, and one; 0: none. -/
def lastFrom (s : Nat) : Nat → Nat → List (Nat × List UInt8) → Nat
  | _, acc, [] => acc
  | k, acc, p :: r => lastFrom s (k + 1) (if p.1 = s then k + 1 else acc) r
def lastAt (P : List (Nat × List UInt8)) (s : Nat) : Nat := lastFrom s 0 0 P
theorem lastFrom_snoc (s : Nat) (p : Nat × List UInt8) : ∀ (l : List (Nat × List UInt8)) (k acc : Nat), lastFrom s k acc (l ++ [p]) = if p.1 = s then k + l.length + 1 else lastFrom s k acc l
  | [], k, acc => by simp [lastFrom]
  | q :: r, k, acc => by
    simp only [List.cons_append, lastFrom, List.length_cons]
    rw [lastFrom_snoc s p r]
    split <;> omega
theorem lastAt_snoc (P : List (Nat × List UInt8)) (p : Nat × List UInt8) (s : Nat) : lastAt (P ++ [p]) s = if p.1 = s then P.length + 1 else lastAt P s := by
  unfold lastAt; rw [lastFrom_snoc]; simp
theorem lastAt_nil (s : Nat) : lastAt [] s = 0 := rfl

/-- What a sector reads as. -/
def overlay (s : Nat) (P : List (Nat × List UInt8)) (b : List UInt8) : List UInt8 := P.foldl (fun b p => if p.1 = s then p.2 else b) b
theorem overlay_snoc (s : Nat) (P : List (Nat × List UInt8)) (p : Nat × List UInt8) (b : List UInt8) : overlay s (P ++ [p]) b = if p.1 = s then p.2 else overlay s P b := by
  simp [overlay]
def readS (D : DS) (s : Nat) : List UInt8 := overlay s D.P (D.S.getD s [])

theorem snoc_ind {α : Type} {p : List α → Prop} (h0 : p []) (h1 : ∀ l a, p l → p (l ++ [a])) (l : List α) : p l := by
  have : ∀ r : List α, p r.reverse := fun r => by
    induction r with
    | nil => exact h0
    | cons a r ih => rw [List.reverse_cons]; exact h1 _ _ ih
  have := this l.reverse
  rwa [List.reverse_reverse] at this

theorem overlay_last (s : Nat) (b : List UInt8) (P : List (Nat × List UInt8)) : (lastAt P s = 0 ∧ overlay s P b = b) ∨ ∃ k, lastAt P s = k + 1 ∧ k < P.length ∧ P[k]? = some (s, overlay s P b) := by
  induction P using snoc_ind with
  | h0 => exact .inl ⟨rfl, rfl⟩
  | h1 l p ih =>
    rw [lastAt_snoc, overlay_snoc]
    by_cases h : p.1 = s
    · rw [if_pos h, if_pos h]
      exact .inr ⟨l.length, rfl, by simp, by rw [List.getElem?_append_right (Nat.le_refl _)]; simp [← h]⟩
    · rw [if_neg h, if_neg h]
      rcases ih with h1 | ⟨k, h1, h2, h3⟩
      · exact .inl h1
      · exact .inr ⟨k, h1, by simp; omega, by rw [List.getElem?_append_left h2]; exact h3⟩

theorem lastAt_le (P : List (Nat × List UInt8)) (s : Nat) : lastAt P s ≤ P.length := by
  rcases overlay_last s [] P with ⟨h, _⟩ | ⟨k, h, hk, _⟩ <;> omega

/-- What becomes of the sectors, when of each pending write it is said what lasts of it. -/
def settleTo (f : Nat → List UInt8 → Option (List UInt8)) (P : List (Nat × List UInt8)) (S : List (List UInt8)) : Nat → List (List UInt8)
  | 0 => S
  | k + 1 => match P[k]? with
    | none => settleTo f P S k
    | some p => match f k p.2 with
      | none => settleTo f P S k
      | some b => (settleTo f P S k).set p.1 b
theorem settleTo_length (f : Nat → List UInt8 → Option (List UInt8)) (P : List (Nat × List UInt8)) (S : List (List UInt8)) : ∀ k, (settleTo f P S k).length = S.length
  | 0 => rfl
  | k + 1 => by
    unfold settleTo
    split
    · exact settleTo_length f P S k
    · split
      · exact settleTo_length f P S k
      · rw [List.length_set]; exact settleTo_length f P S k

/-- A sector of noughts. -/
def zeros : List UInt8 := List.replicate 256 0
theorem zeros_length : zeros.length = 256 := List.length_replicate

/-- A disk as it must be. -/
structure DS.Ok (D : DS) : Prop where
  lo : 16 ≤ D.S.length
  hi : D.S.length ≤ 4096
  sec : ∀ b ∈ D.S, b = [] ∨ b.length = 256
  pend : ∀ p ∈ D.P, p.1 < D.S.length ∧ p.2.length = 256
  armed : D.armed < 9223372036854775808

def barrierS (D : DS) : List (List UInt8) := settleTo (fun _ b => some b) D.P D.S D.P.length
def onF (keep : Int → Bool) (torn : Int) (k : Nat) (b : List UInt8) : Option (List UInt8) := if (k : Int) = torn then some [] else if keep k then some b else none
def onS (keep : Int → Bool) (torn : Int) (D : DS) : List (List UInt8) := settleTo (onF keep torn) D.P D.S D.P.length

theorem settleTo_sec (f : Nat → List UInt8 → Option (List UInt8)) (hf : ∀ k b c, f k b = some c → c = [] ∨ c = b) (D : DS) (h : D.Ok) : ∀ k, ∀ b ∈ settleTo f D.P D.S k, b = [] ∨ b.length = 256
  | 0 => h.sec
  | k + 1 => by
    unfold settleTo
    split
    · exact settleTo_sec f hf D h k
    · rename_i p hp
      split
      · exact settleTo_sec f hf D h k
      · rename_i c hc
        intro b hb
        rcases List.mem_or_eq_of_mem_set hb with hb | rfl
        · exact settleTo_sec f hf D h k b hb
        · rcases hf _ _ _ hc with h1 | h1
          · exact .inl h1
          · rw [h1]; exact .inr (h.pend p (List.mem_of_getElem? hp)).2

end Dsk
