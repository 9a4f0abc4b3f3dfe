/- Rows of bytes: read, and appended to. -/
import Derived.Test.YtipjokbkgcepbaaW
namespace Go.Proofs.Ytipjokbkgcepbaa
open Go.RowKit

/-- What a value of type [][]byte reads as. -/
def Img (w : World) (A : Option Addr) (rows : List (List UInt8)) : Prop :=
  ∀ (r : Nat) (bs : List UInt8), rows[r]? = some bs → ∃ b off v, A = some ⟨b, off, none⟩ ∧ b < w.heap.size ∧ w.cell? ⟨b, off + r, none⟩ = some v ∧ Sec w (fun _ => True) v bs
theorem Img.below {w w' : World} {A : Option Addr} {rows : List (List UInt8)} (h : Img w A rows) (hb : Below w.heap.size w w') : Img w' A rows := fun r bs hr => by
  obtain ⟨b, off, v, e, hlt, hc, A', c, h1, h2, h3, h4, h5⟩ := h r bs hr
  exact ⟨b, off, v, e, Nat.lt_of_lt_of_le hlt hb.size, (hb.cell (p := ⟨b, off + r, none⟩) hlt).trans hc, A', c, h1, h2, h3, h4.below hb, h5⟩

/-- Rows that are appended to. -/
structure SecsO (w : World) (E : Nat → Prop) (sv : Value) (S : List (List UInt8)) : Prop where
  own : ∃ vs : List Value, w.ownsRow 0 22 1 sv S.length vs ∧ ∀ (k : Nat) (b : List UInt8), S[k]? = some b → ∃ v, vs[k]? = some v ∧ Sec w E v b
theorem SecsO.nil (w : World) (E : Nat → Prop) : SecsO w E (.slice none 0 0) [] := ⟨[], World.ownsRow_nil _ _ _ _, fun k p h => by simp at h⟩
theorem SecsO.shape {w : World} {E : Nat → Prop} {sv : Value} {S : List (List UInt8)} (h : SecsO w E sv S) : ∃ A c, sv = .slice A S.length c ∧ S.length ≤ c ∧ c ≤ maxLen := by
  obtain ⟨vs, ho, _⟩ := h.own
  rcases ho.2 with ⟨rfl, h0⟩ | ⟨g, cap, cur, rfl, _, _, h1, h2, _⟩
  · exact ⟨none, 0, by rw [h0], by omega, Nat.zero_le _⟩
  · exact ⟨_, _, rfl, h1, h2⟩
theorem SecsO.lt {w : World} {E : Nat → Prop} {sv : Value} {S : List (List UInt8)} (h : SecsO w E sv S) (k : Nat) (hk : sv.ownBlock = some k) : k < w.heap.size := by
  obtain ⟨vs, ho, _⟩ := h.own
  exact (ho.lt k hk).2
theorem SecsO.same {w w' : World} {E : Nat → Prop} {sv : Value} {S : List (List UInt8)} (h : SecsO w E sv S) (hs : w.heap.size ≤ w'.heap.size)
    (hE : ∀ k, E k → k < w.heap.size → w'.heap[k]? = w.heap[k]?) (hr : ∀ k, sv.ownBlock = some k → w'.heap[k]? = w.heap[k]?) : SecsO w' E sv S := by
  obtain ⟨vs, ho, hv⟩ := h.own
  refine ⟨vs, ⟨ho.1, ?_⟩, fun k p hp => ?_⟩
  · rcases ho.2 with h0 | ⟨g, cap, cur, rfl, h1, h2, h3⟩
    · exact .inl h0
    · exact .inr ⟨g, cap, cur, rfl, h1, (hr g rfl).trans h2, h3⟩
  · obtain ⟨v, e, hs'⟩ := hv k p hp
    exact ⟨v, e, hs'.same hs hE⟩
theorem SecsO.mono {w : World} {E E' : Nat → Prop} {sv : Value} {S : List (List UInt8)} (h : SecsO w E sv S) (hE : ∀ k, E k → E' k) : SecsO w E' sv S := by
  obtain ⟨vs, ho, hv⟩ := h.own
  exact ⟨vs, ho, fun k p hp => by obtain ⟨v, e, hs⟩ := hv k p hp; exact ⟨v, e, hs.mono hE⟩⟩
theorem SecsO.push {w : World} {E : Nat → Prop} {sv : Value} {S : List (List UInt8)} (h : SecsO w E sv S) (bs : List UInt8) (v : Value) (hv : Sec w E v bs) (b : Nat) (h0 : w.cell? ⟨b, 0, none⟩ = some v) (hE : ∀ k, sv.ownBlock = some k → ¬ E k) (hr : S.length < 5864062014700) :
    ∃ v' w', (Builtin.append_ #[34, 34] 34 #[sv, .slice (some ⟨b, 0, none⟩) 1 1]).run Try.prog w = .ok v' w' ∧ SecsO w' E v' (S ++ [bs]) ∧ w.grownBy w' sv.ownBlock ∧ (v'.ownBlock = sv.ownBlock ∨ v'.ownBlock = some w.heap.size) := by
  obtain ⟨vs, ho, hs⟩ := h.own
  have hI : (Try.prog.info? 22).map (fun i => (i.zero, i.size, i.bytes)) = some (some (.slice none 0 0), 1, 24) := by kernel_rfl
  obtain ⟨i0, hi, hz0, hz1, hz2⟩ := info_parts hI
  obtain ⟨A, c, rfl, hsec⟩ := hv
  have hl : vs.length = S.length := by have := ho.1; omega
  have hcell : ∀ (j : Nat) (u : Value), [Value.slice A bs.length c][j]? = some u → w.cell? ((⟨b, 0, none⟩ : Addr).add j) = some u := fun j u hj => by
    have e2 : (⟨b, 0, none⟩ : Addr).add j = ⟨b, 0 + j, none⟩ := by unfold Addr.add; split <;> simp_all
    rw [e2, Nat.zero_add]
    rcases j with _ | j
    · cases hj; exact h0
    · simp at hj
  obtain ⟨v', w', hrun, h2, h3, _, h5⟩ := run_append_own_at (P := Try.prog) w 0 34 34 22 i0 (.slice none 0 0) 1 24 Try.underlying34 hi hz0 hz1 hz2 rfl (by decide) sv S.length _ ho ⟨b, 0, none⟩ 1 1 [.slice A bs.length c] (by simp) hcell
    (fun u hu => by rw [List.mem_singleton.1 hu]; rfl) (by unfold maxLen; omega) (by omega) (Nat.zero_le _)
  have hsame : ∀ k, E k → k < w.heap.size → w'.heap[k]? = w.heap[k]? := fun k hk hlt => h3.block k hlt (fun e => hE k e.symm hk)
  refine ⟨v', w', hrun, ⟨vs ++ [.slice A bs.length c], by rw [List.length_append, List.length_singleton]; exact h2, fun k q hq => ?_⟩, h3, h5⟩
  by_cases hk : k < S.length
  · rw [List.getElem?_append_left hk] at hq
    obtain ⟨u, e, hu⟩ := hs k q hq
    exact ⟨u, by rw [List.getElem?_append_left (by omega)]; exact e, hu.same h3.size hsame⟩
  · rw [List.getElem?_append_right (by omega)] at hq
    have hk0 : k - S.length = 0 := by
      have := (List.getElem?_eq_some_iff.1 hq).1
      simp at this; omega
    rw [hk0] at hq
    cases hq
    exact ⟨.slice A bs.length c, by rw [List.getElem?_append_right (by omega), hl, hk0]; rfl, Sec.same ⟨A, c, rfl, hsec⟩ h3.size hsame⟩
theorem SecsO.get {w : World} {E : Nat → Prop} {sv : Value} {S : List (List UInt8)} (h : SecsO w E sv S) (k : Nat) (b : List UInt8) (hb : S[k]? = some b) :
    ∃ g c v, sv = .slice (some ⟨g, 0, none⟩) S.length c ∧ g < w.heap.size ∧ w.cell? ⟨g, k, none⟩ = some v ∧ w.frozen? ⟨g, k, none⟩ = false ∧ Sec w E v b := by
  obtain ⟨vs, ho, hv⟩ := h.own
  obtain ⟨v, e, hs⟩ := hv k b hb
  have hk := (List.getElem?_eq_some_iff.1 hb).1
  rcases ho.2 with ⟨rfl, e0⟩ | ⟨g, cap, cur, rfl, q0, h1, h2, h3, h4, h5⟩
  · omega
  · refine ⟨g, cap, v, rfl, (ho.lt g rfl).2, ?_, ?_, hs⟩
    · rw [cell_of_row w g k cur _ (0, 0) h1, ← Array.getElem?_toList]
      rw [← h5, List.getElem?_take_of_lt (by omega)] at e
      exact e
    · simp [World.frozen?, h1]
theorem SecsO.img {w : World} {E : Nat → Prop} {sv : Value} {S : List (List UInt8)} (h : SecsO w E sv S) : ∃ A c, sv = .slice A S.length c ∧ S.length ≤ c ∧ c ≤ maxLen ∧ Img w A S := by
  obtain ⟨A, c, e, h1, h2⟩ := h.shape
  refine ⟨A, c, e, h1, h2, fun r bs hr => ?_⟩
  obtain ⟨g, c', v, e', hg, hc, _, hs⟩ := h.get r bs hr
  rw [e] at e'
  injection e' with e1 _ _
  exact ⟨g, 0, v, e1, hg, by rw [Nat.zero_add]; exact hc, hs.mono fun _ _ => trivial⟩
/-- A row put in another one's place. -/
theorem SecsO.set_ {w : World} {E : Nat → Prop} {sv : Value} {S : List (List UInt8)} (h : SecsO w E sv S) (k g n c : Nat) (hsv : sv = .slice (some ⟨g, 0, none⟩) n c) (hg : ¬ E g) (v : Value) (b : List UInt8) (hv : Sec w E v b) :
    SecsO (w.setCell ⟨g, k, none⟩ v) E sv (S.set k b) := by
  obtain ⟨vs, ho, hs⟩ := h.own
  have hlen : (S.set k b).length = S.length := List.length_set
  have hsz : w.heap.size ≤ (w.setCell ⟨g, k, none⟩ v).heap.size := by simp [World.setCell]
  have hE : ∀ j, E j → j < w.heap.size → (w.setCell ⟨g, k, none⟩ v).heap[j]? = w.heap[j]? := fun j hj _ => Below.heap_setCell _ _ _ _ (fun e => hg (by rw [show j = g from e] at hj; exact hj))
  refine ⟨vs.set k v, ?_, fun j q hq => ?_⟩
  · rcases ho.2 with ⟨rfl, e0⟩ | ⟨g', cap, cur, e, q0, h1, h2, h3, h4, h5⟩
    · cases hsv
    · rw [e] at hsv
      injection hsv with e1 e2 e3
      injection e1 with e1
      injection e1 with e1 _ _
      subst e1
      rw [hlen]
      refine ⟨by rw [List.length_set]; exact ho.1, .inr ⟨g', cap, cur.setIfInBounds k v, e, q0, ?_, h2, h3, by rw [Array.size_setIfInBounds]; exact h4, ?_⟩⟩
      · simp [World.setCell, Array.getElem?_modify, h1]
      · rw [← h5, Array.toList_setIfInBounds, List.take_set]
  · by_cases e : j = k
    · subst e
      have hj : j < S.length := by rw [← hlen]; exact (List.getElem?_eq_some_iff.1 hq).1
      rw [List.getElem?_set_self hj] at hq
      cases hq
      refine ⟨v, ?_, hv.same hsz hE⟩
      rw [List.getElem?_set_self (by have := ho.1; omega)]
    · rw [List.getElem?_set_ne (fun e' => e e'.symm)] at hq
      obtain ⟨u, e1, hu⟩ := hs j q hq
      exact ⟨u, by rw [List.getElem?_set_ne (fun e' => e e'.symm)]; exact e1, hu.same hsz hE⟩
end Go.Proofs.Ytipjokbkgcepbaa
