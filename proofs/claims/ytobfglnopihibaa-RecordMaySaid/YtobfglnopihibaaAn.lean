/- What Write and Read answer, in one form. -/
import Derived.Test.YtobfglnopihibaaY
import Derived.Test.YtobfglnopihibaaZKept
import Derived.Test.YtobfglnopihibaaZApart
namespace Go.Proofs.Ytobfglnopihibaa
open Go.RowKit Rcd

theorem ItOk.below {w w' : World} {B : Nat} {it : Itm} (h : ItOk w B it) (hb : Below w.heap.size w w') : ItOk w' B it := h.frame hb.size fun k hk _ => hb.block k hk
theorem ItOk.none_ (w : World) (B : Nat) : ItOk w B ⟨none, 0, 0, []⟩ := .inl ⟨rfl, rfl, rfl, rfl⟩
theorem ItOk.caps {w : World} {B : Nat} {it : Itm} (h : ItOk w B it) : it.len ≤ it.cap ∧ it.cap ≤ 9223372036854775807 := by
  rcases h with ⟨_, h2, h3, _⟩ | ⟨g, _, _, h3⟩
  · rw [h2, h3]; decide
  · have := h3.le
    have := h3.max
    unfold maxLen at this
    omega
theorem ItOk.low {w : World} {B B' : Nat} {it : Itm} (h : ItOk w B it) (hB : B' ≤ B) : ItOk w B' it := by
  rcases h with h | ⟨g, h1, h2, h3⟩
  · exact .inl h
  · exact .inr ⟨g, h1, Nat.le_trans hB h2, h3⟩

theorem WrP.ans {o : Ob} {w : World} {e : Ending} {w' : World} (h : WrP o w e w') :
    ∃ A c, e = .returned (.tuple #[.slice A (writeX o).length c, .int .i64 (writeE o)]) ∧ ItOk w' w.heap.size ⟨A, (writeX o).length, c, writeX o⟩ ∧ Below w.heap.size w w' := by
  rcases h with ⟨h1, rfl, hb⟩ | ⟨g, c, h1, rfl, h2, h3, hb⟩
  · have e1 := writeE_no h1
    refine ⟨none, 0, ?_, ?_, hb⟩
    · rw [e1]; rfl
    · rw [e1]; exact ItOk.none_ _ _
  · obtain ⟨_, _, e1⟩ := writeE_ok h1
    have e2 : (writeX o).length = sizeO o := by rw [e1, bytesO_len]
    refine ⟨some ⟨g, 0, none⟩, c, ?_, ?_, hb⟩
    · rw [e2, h1]
    · rw [e2, e1]; exact .inr ⟨g, rfl, h3, h2⟩

abbrev nilO : Ob := ⟨0, 0, [], []⟩
def readE (b : List UInt8) : Int := if (readO b).isSome then 0 else 8
def readX (b : List UInt8) : Ob := (readO b).getD nilO
theorem RdP.ans {b : List UInt8} {w : World} {e : Ending} {w' : World} (h : RdP b w e w') :
    ∃ v, e = .returned (.tuple #[v, .int .i64 (readE b)]) ∧ ObV w.heap.size w' v (readX b) ∧ Below w.heap.size w w' := by
  rcases h with ⟨h1, rfl, hb⟩ | ⟨o, v, h1, rfl, h2, hb⟩
  · refine ⟨zeroOb, ?_, ?_, hb⟩
    · unfold readE; rw [h1]; rfl
    · unfold readX
      rw [h1]
      exact ⟨none, 0, rfl, Nat.le_refl _, Nat.zero_le _, fun r x hx => by simp [nilO] at hx, fun p e => by cases e⟩
  · refine ⟨v, ?_, ?_, hb⟩
    · unfold readE; rw [h1]; rfl
    · unfold readX; rw [h1]; exact h2

/-- Apart of two answers. -/
theorem apartq (q r : Itm) (B : Nat) (w : World) (hq : ItOk w B q) (hr : ItOk w B r) (hql : q.len ≤ 8192) (hrl : r.len ≤ 8192) (hne : ∀ g, q.home = some g → r.home ≠ some g) (hB : B ≤ w.heap.size) :
    Calls Try.prog 16 #[.slice (some ⟨w.heap.size, 0, none⟩) 2 2] (w.alloc (.cells #[.slice q.A q.len q.cap, .slice r.A r.len r.cap] 28)) fun e w' => e = .returned (.bool true) ∧ Below B w w' := by
  obtain ⟨wz, hwz⟩ : ∃ wz, w.alloc (.cells #[.slice q.A q.len q.cap, .slice r.A r.len r.cap] 28) = wz := ⟨_, rfl⟩
  have hbz : Below w.heap.size w wz := by rw [← hwz]; exact (Below.refl _ _).alloc (Nat.le_refl _) _
  have hcz : Blk wz w.heap.size 28 #[.slice q.A q.len q.cap, .slice r.A r.len r.cap] := by rw [← hwz]; exact Blk.new _ _ _
  have hql2 := fun g (h : q.home = some g) => hq.home_lt h
  have hrl2 := fun g (h : r.home = some g) => hr.home_lt h
  rw [hwz]
  refine (apart_any w.heap.size 2 2 B [q, r] wz rfl (by decide) (by decide) ?_ (Nat.le_trans hB hbz.size) hcz.lt ?_ ?_).mono ?_
  · constructor
    · intro j k' it jt g hjk hj hk' hgg hg'
      rcases j with _ | _ | j <;> rcases k' with _ | _ | k' <;> first
        | omega
        | (simp at hj; done)
        | (simp at hk'; done)
        | (cases hj; cases hk'; exact hne g hgg hg')
        | (cases hj; cases hk'; exact hne g hg' hgg)
    · intro j it hj e
      rcases j with _ | _ | j
      · cases hj; have := (hql2 _ e).1; omega
      · cases hj; have := (hrl2 _ e).1; omega
      · simp at hj
    · intro j it hj
      rcases j with _ | _ | j
      · cases hj; omega
      · cases hj; omega
      · simp at hj
  · intro j it hj
    rw [hcz.cell j]
    rcases j with _ | _ | j
    · cases hj; rfl
    · cases hj; rfl
    · simp at hj
  · intro j it hj
    rcases j with _ | _ | j
    · cases hj; exact hq.below hbz
    · cases hj; exact hr.below hbz
    · simp at hj
  · rintro e w2 ⟨rfl, hb⟩
    exact ⟨rfl, (hbz.mono hB).trans hb⟩
end Go.Proofs.Ytobfglnopihibaa
