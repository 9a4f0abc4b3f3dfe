/- What reads, with all settled. -/
import Derived.Test.YtiemfhncadcemaaLive
namespace Go.Proofs.Ytiemfhncadcemaa
open Go.RowKit Dsk

/-- A disk that is on, not armed, with sixteen sectors that all can be read. -/
structure Good (D : DS) : Prop where
  dead : D.dead = false
  armed : D.armed = 0
  len : D.S.length = 16
  full : ∀ b ∈ D.S, b.length = 256
  pend : ∀ p ∈ D.P, p.1 < 16 ∧ p.2.length = 256

theorem Good.new : Good (newD 16) := ⟨rfl, rfl, List.length_replicate, fun b hb => by rw [List.eq_of_mem_replicate hb]; exact zeros_length, fun p hp => by cases hp⟩
theorem Good.eta {D : DS} (h : Good D) : D = ⟨D.S, D.P, false, 0, D.steps⟩ := by
  obtain ⟨S, P, d, a, t⟩ := D
  have h1 := h.dead; have h2 := h.armed
  simp at h1 h2
  subst h1; subst h2; rfl
theorem Good.writeE {D : DS} (h : Good D) (i : Int) (b : List UInt8) : writeE D i b = if (0 ≤ i ∧ i < 16) ∧ b.length ≤ 256 then 0 else 1 := by
  rw [h.eta]
  have hl := h.len
  by_cases hi : 0 ≤ i ∧ i < 16
  · obtain ⟨s, rfl⟩ : ∃ s : Nat, i = s := ⟨i.toNat, by omega⟩
    by_cases hb : b.length ≤ 256
    · rw [write_liveE _ _ _ s b (by omega) hb, if_pos ⟨hi, hb⟩]
    · unfold Go.Proofs.Ytiemfhncadcemaa.writeE
      rw [show refuse (⟨D.S, D.P, false, 0, D.steps⟩ : DS).dead (⟨D.S, D.P, false, 0, D.steps⟩ : DS).S.length (s : Int) = 0 from refuse_in (by show s < D.S.length; omega), if_pos rfl, if_neg hb, if_neg (fun e => hb e.2)]
  · have hr : refuse (⟨D.S, D.P, false, 0, D.steps⟩ : DS).dead (⟨D.S, D.P, false, 0, D.steps⟩ : DS).S.length i = 1 := by
      show refuse false D.S.length i = 1
      unfold refuse
      rw [if_neg (by decide), if_pos (by rw [hl]; omega)]
    unfold Go.Proofs.Ytiemfhncadcemaa.writeE
    rw [hr, if_neg (by decide), if_neg (fun e => hi e.1)]
theorem Good.writeD {D : DS} (h : Good D) (i : Int) (b : List UInt8) : writeD D i b = if (0 ≤ i ∧ i < 16) ∧ b.length ≤ 256 then ⟨D.S, D.P ++ [(i.toNat, filled b 256)], false, 0, D.steps + 1⟩ else D := by
  have hl := h.len
  by_cases hi : (0 ≤ i ∧ i < 16) ∧ b.length ≤ 256
  · obtain ⟨s, rfl⟩ : ∃ s : Nat, i = s := ⟨i.toNat, by omega⟩
    rw [if_pos hi, h.eta, write_liveD _ _ _ s b (by omega) hi.2, Int.toNat_natCast]
  · rw [if_neg hi]
    refine writeD_no fun e => hi ?_
    obtain ⟨_, s, rfl, hs⟩ := refuse_zero e.1
    exact ⟨by omega, e.2⟩
theorem Good.barE {D : DS} (h : Good D) : barE D = 0 := by rw [h.eta]; rfl
theorem Good.barD {D : DS} (h : Good D) : barD D = ⟨settleTo (fun _ b => some b) D.P D.S D.P.length, [], false, 0, D.steps + 1⟩ := by rw [h.eta]; rfl

theorem settle_get (P : List (Nat × List UInt8)) (S : List (List UInt8)) (s : Nat) (hP : ∀ p ∈ P, p.1 < S.length) : ∀ k, k ≤ P.length → (settleTo (fun _ b => some b) P S k).getD s [] = overlay s (P.take k) (S.getD s [])
  | 0, _ => rfl
  | k + 1, hk => by
    have ih := settle_get P S s hP k (by omega)
    have hl := settleTo_length (fun _ b => some b) P S k
    have e : P[k]? = some P[k] := List.getElem?_eq_getElem (by omega)
    rw [List.take_succ_eq_append_getElem (by omega), overlay_snoc]
    unfold settleTo
    rw [e]
    simp only
    have hlt := hP P[k] (List.getElem_mem (by omega))
    by_cases h : P[k].1 = s
    · rw [if_pos h, List.getD, h, List.getElem?_set_self (by rw [hl]; omega)]; rfl
    · rw [if_neg h, List.getD, List.getElem?_set_ne h]; exact ih
theorem Good.barRead {D : DS} (h : Good D) (s : Nat) : readS (Go.Proofs.Ytiemfhncadcemaa.barD D) s = readS D s := by
  rw [h.barD]
  show (settleTo (fun _ b => some b) D.P D.S D.P.length).getD s [] = _
  rw [settle_get D.P D.S s (fun p hp => by have := (h.pend p hp).1; rw [h.len]; exact this) D.P.length (Nat.le_refl _), List.take_length]
  rfl
theorem Good.read {D : DS} (h : Good D) (s : Nat) (hs : s < 16) : (readS D s).length = 256 ∧ readE D s = 0 := by
  have h1 : (readS D s).length = 256 := by
    unfold readS
    rcases overlay_last s (D.S.getD s []) D.P with ⟨_, h2⟩ | ⟨k, _, h2, h3⟩
    · rw [h2]
      have hl : s < D.S.length := by rw [h.len]; exact hs
      simp only [List.getD, List.getElem?_eq_getElem hl, Option.getD_some]
      exact h.full _ (List.getElem_mem hl)
    · exact (h.pend _ (List.mem_of_getElem? h3)).2
  refine ⟨h1, ?_⟩
  have h2 : readE D s = if readS D s = [] then 5 else 0 := by
    have h3 := read_live D.S D.P D.steps 0 s (by rw [h.len]; exact hs)
    rw [← h.eta] at h3
    exact h3
  rw [h2, if_neg fun e => by rw [e] at h1; cases h1]
theorem Good.write {D : DS} (h : Good D) (i : Int) (b : List UInt8) : Good (Go.Proofs.Ytiemfhncadcemaa.writeD D i b) := by
  rw [h.writeD]
  split
  · rename_i hi
    exact ⟨rfl, rfl, h.len, h.full, fun p hp => (List.mem_append.1 hp).elim (h.pend p) fun hp => by rw [List.mem_singleton.1 hp]; exact ⟨by show i.toNat < 16; omega, filled_length b 256 hi.2⟩⟩
  · exact h
theorem settle_full (P : List (Nat × List UInt8)) (S : List (List UInt8)) (hS : ∀ b ∈ S, b.length = 256) (hP : ∀ p ∈ P, p.2.length = 256) : ∀ k, ∀ b ∈ settleTo (fun _ b => some b) P S k, b.length = 256
  | 0 => hS
  | k + 1 => by
    unfold settleTo
    split
    · exact settle_full P S hS hP k
    · rename_i p hp
      intro b hb
      rcases List.mem_or_eq_of_mem_set hb with hb | rfl
      · exact settle_full P S hS hP k b hb
      · exact hP p (List.mem_of_getElem? hp)
theorem Good.bar {D : DS} (h : Good D) : Good (Go.Proofs.Ytiemfhncadcemaa.barD D) := by
  rw [h.barD]
  exact ⟨rfl, rfl, by rw [settleTo_length]; exact h.len, settle_full D.P D.S h.full (fun p hp => (h.pend p hp).2) _, fun p hp => by cases hp⟩
theorem Good.writeRead {D : DS} (h : Good D) (i : Int) (b : List UInt8) (s : Nat) (hf : (0 ≤ i ∧ i < 16) ∧ b.length ≤ 256) : readS (Go.Proofs.Ytiemfhncadcemaa.writeD D i b) s = if i = s then filled b 256 else readS D s := by
  rw [h.writeD, if_pos hf]
  unfold readS
  show overlay s (D.P ++ [(i.toNat, filled b 256)]) (D.S.getD s []) = _
  rw [overlay_snoc]
  by_cases e : i = s
  · rw [if_pos e, if_pos (by omega)]
  · rw [if_neg e, if_neg (by show ¬ i.toNat = s; omega)]

theorem write_steps (D : DS) (i : Int) (b : List UInt8) : (Go.Proofs.Ytiemfhncadcemaa.writeD D i b).steps ≤ D.steps + 1 ∧ (Go.Proofs.Ytiemfhncadcemaa.writeD D i b).P.length ≤ D.P.length + 1 := by
  unfold Go.Proofs.Ytiemfhncadcemaa.writeD
  split
  · exact ⟨Nat.le_refl _, by show (D.P ++ [_]).length ≤ _; simp⟩
  · exact ⟨Nat.le_succ _, Nat.le_succ _⟩
theorem bar_steps (D : DS) : (Go.Proofs.Ytiemfhncadcemaa.barD D).steps ≤ D.steps + 1 ∧ (Go.Proofs.Ytiemfhncadcemaa.barD D).P.length ≤ D.P.length := by
  unfold Go.Proofs.Ytiemfhncadcemaa.barD
  split
  · exact ⟨Nat.le_succ _, Nat.le_refl _⟩
  · split
    · exact ⟨Nat.le_refl _, Nat.le_refl _⟩
    · exact ⟨Nat.le_refl _, Nat.zero_le _⟩

end Go.Proofs.Ytiemfhncadcemaa
