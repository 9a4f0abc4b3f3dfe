/- What Apart needs of memory: a slice that is appended to, from nothing or from an answer's own room. -/
import Derived.Test.YtobfglnopihibaaZStand
import Derived.Test.YtobfglnopihibaaOJ
namespace Go.Proofs.Ytobfglnopihibaa
open Go.RowKit

theorem Rw.take {w : World} {g n c : Nat} {xs : List UInt8} (h : Rw w g n c xs) (m : Nat) (hm : m ≤ n) : Rw w g m c (xs.take m) :=
  ⟨h.lt, by rw [List.length_take, h.long]; omega, Nat.le_trans hm h.le, h.max, fun j d hj => by
    have hjm : j < m := by have := (List.getElem?_eq_some_iff.1 hj).1; simp at this; omega
    rw [List.getElem?_take_of_lt hjm] at hj
    exact h.holds j d hj, h.there⟩

theorem Rw.set {w : World} {g n c : Nat} {xs : List UInt8} (h : Rw w g n c xs) (k : Nat) (hk : k < n) (d : UInt8) : Rw (w.setCell ⟨g, k, none⟩ (bv d)) g n c (xs.set k d) := by
  have hold := (h.there k (Nat.lt_of_lt_of_le hk h.le)).1
  obtain ⟨u, hu⟩ := Option.isSome_iff_exists.1 hold
  have hne : ∀ j, j ≠ k → (w.setCell ⟨g, k, none⟩ (bv d)).cell? ⟨g, j, none⟩ = w.cell? ⟨g, j, none⟩ := fun j hj => World.cell?_setCell_other w ⟨g, k, none⟩ ⟨g, j, none⟩ _ (by intro e; injection e with _ e; exact hj e.symm)
  have hsame := World.cell?_setCell_same w ⟨g, k, none⟩ (bv d) hu
  refine ⟨by simp [World.setCell]; exact h.lt, by rw [List.length_set]; exact h.long, h.le, h.max, fun j e hj => ?_, fun j hj => ⟨?_, (World.frozen?_setCell _ _ _ _).trans (h.there j hj).2⟩⟩
  · by_cases hjk : j = k
    · subst hjk
      rw [List.getElem?_set_self (by rw [h.long]; exact hk)] at hj
      injection hj with hj
      subst hj
      exact hsame
    · rw [hne j hjk]
      rw [List.getElem?_set_ne (fun e => hjk e.symm)] at hj
      exact h.holds j e hj
  · by_cases hjk : j = k
    · subst hjk; rw [hsame]; rfl
    · rw [hne j hjk]; exact (h.there j hj).1

/-- Nothing yet, or a slice that may be appended to. -/
def Mv (w : World) (v : Value) (n : Nat) (xs : List UInt8) : Prop := (v = .slice none 0 0 ∧ n = 0 ∧ xs = []) ∨ ∃ g c, v = .slice (some ⟨g, 0, none⟩) n c ∧ Rw w g n c xs

theorem Mv.shape {w : World} {v : Value} {n : Nat} {xs : List UInt8} (h : Mv w v n xs) : ∃ A c, v = .slice A n c := by
  rcases h with ⟨rfl, rfl, _⟩ | ⟨g, c, rfl, _⟩
  · exact ⟨_, _, rfl⟩
  · exact ⟨_, _, rfl⟩

/-- A byte more. -/
theorem mv_app {w : World} {v : Value} {n : Nat} {xs : List UInt8} (h : Mv w v n xs) (x : UInt8) (hn : n ≤ 70368744177665) :
    ∃ g c w', (Builtin.append_ #[28, 28] 28 #[v, .slice (some ⟨w.heap.size, 0, none⟩) 1 1]).run Try.prog (w.alloc (.cells #[bv x] 5)) = .ok (.slice (some ⟨g, 0, none⟩) (n + 1) c) w' ∧
      Rw w' g (n + 1) c (xs ++ [x]) ∧ (v = .slice (some ⟨g, 0, none⟩) n c ∨ w.heap.size ≤ g) ∧ (∀ k, k < w.heap.size → v.ownBlock ≠ some k → w'.heap[k]? = w.heap[k]?) ∧
      (∀ g0 c0, v = .slice (some ⟨g0, 0, none⟩) n c0 → Rw w' g0 n c0 xs) ∧ (∀ B, B ≤ w.heap.size → (∀ g0, v.ownBlock = some g0 → B ≤ g0) → Below B w w') := by
  have hal : ∀ k, k < w.heap.size → (w.alloc (.cells #[bv x] 5)).heap[k]? = w.heap[k]? := fun k hk => Below.heap_alloc w _ k hk
  rcases h with ⟨rfl, rfl, rfl⟩ | ⟨g, c, rfl, hR⟩
  · have hown : w.ownsRow w.heap.size 5 1 (.slice none 0 0) 0 (([] : List UInt8).map bv) := ⟨by simp, .inl ⟨rfl, rfl⟩⟩
    obtain ⟨v2, w2, hrun2, hown2, hgr2⟩ := run_app1 w w.heap.size _ 0 [] x hown (by omega) (Nat.le_refl _)
    obtain ⟨g2, c2, rfl⟩ := Joins.ownsRow_form hown2 (by omega)
    have hge : w.heap.size ≤ g2 := by
      rcases hown2.2 with ⟨e, _⟩ | ⟨g', _, _, e, hb, _⟩
      · cases e
      · injection e with e _ _; injection e with e; injection e with e; omega
    refine ⟨g2, c2, w2, hrun2, Rw.of_own hown2, .inr hge, fun k hk _ => ?_, (fun g0 c0 e => by cases e), fun B hB _ => ?_⟩
    · exact (hgr2.block k (by simp; omega) (by simp [Value.ownBlock])).trans (hal k hk)
    · exact ((Below.refl B w).alloc hB _).grown hgr2 (by simp; omega) (fun k e => by simp [Value.ownBlock] at e)
  · have hR1 : Rw (w.alloc (.cells #[bv x] 5)) g n c xs := hR.frame (by simp) (hal g hR.lt)
    have hx : ∀ (j : Nat) (u : UInt8), ([x] : List UInt8)[j]? = some u → (w.alloc (.cells #[bv x] 5)).cell? ⟨w.heap.size, 0 + j, none⟩ = some (bv u) := fun j u hu => by
      have := (Blk.new w 5 (row8 [x])).cell j
      rw [Nat.zero_add]
      exact this.trans (row8_get j u hu)
    obtain ⟨g', c', w', hrun, hR2, hR3, hor, hfr, hbel⟩ := run_rwapp hR1 w.heap.size 0 1 1 (xs := [x]) rfl hx (by omega)
    refine ⟨g', c', w', hrun, hR2, ?_, fun k hk hne => ?_, fun g0 c0 e => ?_, fun B hB hg => ?_⟩
    · rcases hor with ⟨rfl, rfl⟩ | e
      · exact .inl rfl
      · exact .inr (by rw [e]; simp)
    · exact (hfr k (by simp; omega) (fun e => hne (by rw [e]; rfl))).trans (hal k hk)
    · injection e with e _ e2
      injection e with e
      injection e with e
      subst e; subst e2
      exact hR3
    · exact ((Below.refl B w).alloc hB _).trans (hbel B (hg g rfl))

end Go.Proofs.Ytobfglnopihibaa
