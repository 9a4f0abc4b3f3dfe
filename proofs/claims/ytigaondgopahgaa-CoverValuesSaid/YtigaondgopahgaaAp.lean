/- cover: appending what came in; Check's numbers. -/
import Derived.Test.YtigaondgopahgaaCn
import Derived.Laws.AppendOwnNone
namespace Go.Proofs.Ytigaondgopahgaa
open Go.RowKit Ty
set_option linter.unusedVariables false
set_option linter.unusedSimpArgs false
/-- All of a row appended. -/
theorem PtO.appA {F G : Nat → Prop} {B : Nat} {w : World} {v : Value} {es : List Te} (h : PtO F B w v es) (hB : B ≤ w.heap.size) {A : Option Addr} {m c : Nat} {ts : List Ty} (hA : PAt G w A m c ts) (hn : A = none → c = 0) (hG : ∀ b, G b → F b ∧ v.ownBlock ≠ some b) (hl : es.length + m < 1000000) :
    ∃ v' w' fs, (Builtin.append_ #[22, 22] 22 #[v, .slice A m c]).run Try.prog w = .ok v' w' ∧ PtO F B w' v' (es ++ fs) ∧ fs.map Te.t = ts ∧ fs.length = m ∧ w.grownBy w' v.ownBlock := by
  cases A with
  | none =>
    have hc := hn rfl
    subst hc
    have hm : m = 0 := by have := hA.le; omega
    subst hm
    have hts : ts = [] := List.eq_nil_of_length_eq_zero hA.len
    subst hts
    obtain ⟨i0, hi, hz0, hz1, hz2⟩ := info_parts infoPat
    exact ⟨v, w, [], run_append_owned_none (P := Try.prog) (w := w) B 22 22 40 i0 4 Try.underlying22 hi v es.length (flatE es) h.own, by rw [List.append_nil]; exact h, rfl, rfl, ⟨rfl, rfl, rfl, Nat.le_refl _, fun k _ _ => rfl⟩⟩
  | some a =>
    obtain ⟨fs, h1, h2, h3, h4⟩ := hA.at_.tes
    have hfm : fs.length = m := by rw [h2, hA.len]
    have hcell : ∀ (j : Nat) (u : Value), (flatE fs)[j]? = some u → w.cell? (a.add j) = some u := fun j u hj => by
      have hne : ts ≠ [] := fun e => by
        rw [e] at h2
        have := List.eq_nil_of_length_eq_zero h2
        subst this
        simp [flatE] at hj
      obtain ⟨b, off, e, _, _, h5⟩ := h4 hne
      cases e
      rw [add_off]
      exact h5 j u hj
    obtain ⟨v', w', hr, hO, hg⟩ := h.app hB fs a m c hfm hcell (fun e he => (h3 e he).mono hG) hl
    exact ⟨v', w', fs, hr, hO, h1, hfm, hg⟩
theorem told_le (l : List Inf) (ps : List Ty) (b : Bool) : told l ps b ≤ 4 := by
  unfold told
  split
  · decide
  · split
    · decide
    · split
      · decide
      · split
        · decide
        · split <;> decide
theorem errOf_pos {k : Nat} (h : k ≠ 0) (h4 : k ≤ 4) : errOf k ≠ 0 := by
  have : k = 1 ∨ k = 2 ∨ k = 3 ∨ k = 4 := by omega
  rcases this with rfl | rfl | rfl | rfl <;> decide
theorem told_parts {l : List Inf} {ps : List Ty} {b : Bool} (h : told l ps b = 0) : partss ps ≤ 200 := (told_zero h).1
end Go.Proofs.Ytigaondgopahgaa
