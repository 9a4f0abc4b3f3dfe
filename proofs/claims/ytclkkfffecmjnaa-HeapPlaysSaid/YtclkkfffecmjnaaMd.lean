/- heap: what does does to the counts. -/
import Derived.Test.YtclkkfffecmjnaaAh
import Derived.Test.YtclkkfffecmjnaaAi
import Derived.Test.YtclkkfffecmjnaaNil
namespace Go.Proofs.Ytclkkfffecmjnaa
open Go.RowKit
set_option linter.unusedVariables false
theorem ops_cells {w : World} {b off k : Nat} {o : Ov} {B R : Option Addr} {c d : Nat} (hc : ∀ (j : Nat) (v : Value), (opC o B c R d)[j]? = some v → w.cell? ⟨b, off + k * 10 + j, none⟩ = some v) :
    w.cell? ⟨b, off + k * 10, none⟩ = some (.int .i64 o.kind) ∧ w.cell? ⟨b, off + k * 10 + 1, none⟩ = some (.int .i64 o.k) ∧ w.cell? ⟨b, off + k * 10 + 2, none⟩ = some (.int .i64 o.i) ∧ w.cell? ⟨b, off + k * 10 + 3, none⟩ = some (.int .u8 (o.o.k : Int)) ∧ w.cell? ⟨b, off + k * 10 + 4, none⟩ = some (.int .i64 o.o.tag) ∧
      w.cell? ⟨b, off + k * 10 + 5, none⟩ = some (.slice B o.o.ws.length c) ∧ w.cell? ⟨b, off + k * 10 + 6, none⟩ = some (.string (str o.o.t)) ∧ w.cell? ⟨b, off + k * 10 + 7, none⟩ = some (.int .u8 (o.w.k : Int)) ∧ w.cell? ⟨b, off + k * 10 + 8, none⟩ = some (.int .i64 o.w.n) ∧ w.cell? ⟨b, off + k * 10 + 9, none⟩ = some (.slice R o.roots.length d) :=
  ⟨hc 0 _ rfl, hc 1 _ rfl, hc 2 _ rfl, hc 3 _ rfl, hc 4 _ rfl, hc 5 _ rfl, hc 6 _ rfl, hc 7 _ rfl, hc 8 _ rfl, hc 9 _ rfl⟩
theorem setF_same (H : HS) (k i : Int) (z : Wd) : (setF H k i z).1.count = H.count ∧ (setF H k i z).1.limit = H.limit ∧ (setF H k i z).1.L.length = H.L.length := by
  unfold setF
  cases H.obj k with
  | none => exact ⟨rfl, rfl, rfl⟩
  | some x => dsimp only; split <;> simp [setH, updL]
theorem tieF_same (H : HS) (k o : Int) : (tieF H k o).1.count = H.count ∧ (tieF H k o).1.limit = H.limit ∧ (tieF H k o).1.L.length = H.L.length := by
  unfold tieF
  cases H.obj k with
  | none => exact ⟨rfl, rfl, rfl⟩
  | some x =>
    dsimp only
    split
    · exact ⟨rfl, rfl, rfl⟩
    · split <;> exact ⟨rfl, rfl, rfl⟩
theorem untieF_same (H : HS) (k : Int) : (untieF H k).1.count = H.count ∧ (untieF H k).1.limit = H.limit ∧ (untieF H k).1.L.length = H.L.length := by
  unfold untieF
  cases H.obj k with
  | none => exact ⟨rfl, rfl, rfl⟩
  | some x => dsimp only; split <;> simp [untieH, updL]
theorem cleanF_same (H : HS) (k : Int) : (cleanF H k).1.count = H.count ∧ (cleanF H k).1.limit = H.limit ∧ (cleanF H k).1.L.length = H.L.length := by
  unfold cleanF
  cases H.obj k with
  | none => exact ⟨rfl, rfl, rfl⟩
  | some x => dsimp only; split <;> simp [cleanH, updL]
theorem fillF_same (H : HS) (k : Int) (o : Ob) : (fillF H k o).1.count = H.count ∧ (fillF H k o).1.limit = H.limit ∧ (fillF H k o).1.L.length = H.L.length := by
  unfold fillF
  cases H.obj k with
  | none => exact ⟨rfl, rfl, rfl⟩
  | some x =>
    dsimp only
    split
    · exact ⟨rfl, rfl, rfl⟩
    · split
      · exact ⟨rfl, rfl, rfl⟩
      · split <;> simp [fillH, updL]
theorem allocF_cases (H : HS) (o : Ob) : (allocF H o = (allocH H o, H.count + 1, 0) ∧ Hp.mayO o = true ∧ H.used + Hp.sizeO o ≤ H.limit ∨ (allocF H o).1 = H ∧ (allocF H o).2.1 = 0 ∧ ((allocF H o).2.2 = 1 ∨ (allocF H o).2.2 = 3 ∨ (allocF H o).2.2 = 6 ∧ H.limit < H.used + Hp.sizeO o)) := by
  unfold allocF
  split
  · exact .inr ⟨rfl, rfl, .inl rfl⟩
  · rename_i h1
    split
    · exact .inr ⟨rfl, rfl, .inr (.inl rfl)⟩
    · split
      · rename_i h3
        exact .inr ⟨rfl, rfl, .inr (.inr ⟨rfl, by omega⟩)⟩
      · rename_i h3
        refine .inl ⟨rfl, by simpa using h1, ?_⟩
        have := Hp.sizeO_pos o
        omega
/-- The counts behind what is done. -/
theorem doF_counts (H : HS) (o : Ov) : (doF H o).1.limit = H.limit ∧ (doF H o).1.L.length ≤ H.L.length + 1 ∧
    ((o.kind = 0 ∧ (doF H o).2.e = 0 ∧ (doF H o).2.n = H.count + 1 ∧ (doF H o).1 = allocH H o.o) ∨ ((o.kind ≠ 0 ∨ (doF H o).2.e ≠ 0) ∧ (o.kind = 0 → (doF H o).2.n = 0 ∧ (doF H o).1 = H) ∧ (doF H o).1.count = H.count)) := by
  unfold doF
  by_cases k0 : o.kind = 0
  · rw [if_pos k0]
    rcases allocF_cases H o.o with ⟨e, _, _⟩ | ⟨e, e1, e2⟩
    · rw [e]
      refine ⟨rfl, ?_, .inl ⟨k0, rfl, rfl, rfl⟩⟩
      simp [allocH]
    · dsimp only
      rw [e]
      refine ⟨rfl, Nat.le_succ _, .inr ⟨.inr ?_, fun _ => ⟨e1, rfl⟩, rfl⟩⟩
      rcases e2 with e2 | e2 | ⟨e2, _⟩ <;> rw [e2] <;> omega
  rw [if_neg k0]
  have fin : ∀ p : HS × Tv, (p.1.count = H.count ∧ p.1.limit = H.limit ∧ p.1.L.length ≤ H.L.length) → (p.1.limit = H.limit ∧ p.1.L.length ≤ H.L.length + 1 ∧
      ((o.kind = 0 ∧ p.2.e = 0 ∧ p.2.n = H.count + 1 ∧ p.1 = allocH H o.o) ∨ ((o.kind ≠ 0 ∨ p.2.e ≠ 0) ∧ (o.kind = 0 → p.2.n = 0 ∧ p.1 = H) ∧ p.1.count = H.count))) := fun p h =>
    ⟨h.2.1, by omega, .inr ⟨.inl k0, fun e => absurd e k0, h.1⟩⟩
  have le : ∀ {H' : HS}, (H'.count = H.count ∧ H'.limit = H.limit ∧ H'.L.length = H.L.length) → (H'.count = H.count ∧ H'.limit = H.limit ∧ H'.L.length ≤ H.L.length) := fun h => ⟨h.1, h.2.1, Nat.le_of_eq h.2.2⟩
  split
  · exact fin _ ⟨rfl, rfl, Nat.le_refl _⟩
  split
  · exact fin _ ⟨rfl, rfl, Nat.le_refl _⟩
  split
  · exact fin _ (le (setF_same ..))
  split
  · exact fin _ (le (tieF_same ..))
  split
  · exact fin _ (le (untieF_same ..))
  split
  · exact fin _ ⟨rfl, rfl, Nat.le_refl _⟩
  split
  · exact fin _ ⟨rfl, rfl, Nat.le_refl _⟩
  split
  · exact fin _ (le (fillF_same ..))
  split
  · exact fin _ (le (cleanF_same ..))
  split
  · exact fin _ ⟨rfl, rfl, List.length_filter_le _ _⟩
  · exact fin _ ⟨rfl, rfl, Nat.le_refl _⟩
theorem obj_above {H : HS} {t : Nat} (hok : H.Ok t) {k : Int} (h : (H.count : Int) < k ∨ k < 1) : H.obj k = none := by
  unfold HS.obj
  rw [List.find?_eq_none]
  intro x hx
  have := hok.inn x hx
  simp
  omega
theorem alloc_obj {H : HS} {t : Nat} (hok : H.Ok t) (o : Ob) : (allocH H o).obj ((H.count + 1 : Nat) : Int) = some ⟨H.count + 1, o, false⟩ := by
  have h := obj_above hok (k := ((H.count + 1 : Nat) : Int)) (.inl (by omega))
  unfold HS.obj at h ⊢
  unfold allocH
  dsimp only
  rw [List.find?_append, h]
  simp
end Go.Proofs.Ytclkkfffecmjnaa
