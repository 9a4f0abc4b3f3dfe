/- pages: what was played. -/
import Derived.Test.YtcmaehilgeonjaaAL
namespace Go.Proofs.Ytcmaehilgeonjaa
open Go.RowKit Pgs
theorem Ops.at_ {w : World} {A : Option Addr} {ls : List Ou} (h : Ops w A ls) {r : Nat} {o : Ou} (hr : ls[r]? = some o) :
    ∃ (b off : Nat) (A2 : Option Addr) (n c : Nat), A = some ⟨b, off, none⟩ ∧ b < w.heap.size ∧ (∀ W, Below w.heap.size w W → W.cell? ⟨b, off + r * 4, none⟩ = some (.int .i64 o.k) ∧ W.cell? ⟨b, off + r * 4 + 1, none⟩ = some (.int .i64 o.p) ∧ W.cell? ⟨b, off + r * 4 + 2, none⟩ = some (.int .i64 o.s) ∧ W.cell? ⟨b, off + r * 4 + 3, none⟩ = some (.slice A2 n c)) ∧ o.B.length = n ∧ n ≤ c ∧ c ≤ maxLen ∧ Bytes w A2 o.B := by
  obtain ⟨b, off, v0, v1, v2, v3, e, hb, c0, c1, c2, c3, rfl, rfl, rfl, A2, c, rfl, h1, h2, h3⟩ := h r o hr
  refine ⟨b, off, A2, _, c, e, hb, fun W hW => ?_, rfl, h1, h2, h3⟩
  have hk : ∀ j, W.cell? ⟨b, j, none⟩ = w.cell? ⟨b, j, none⟩ := fun j => hW.cell (p := ⟨b, j, none⟩) hb
  rw [← Nat.add_assoc] at c1 c2 c3
  exact ⟨(hk _).trans c0, (hk _).trans c1, (hk _).trans c2, (hk _).trans c3⟩
namespace Pgs
/-- A map behind k things done. -/
def playL (ls : List Ou) (k : Nat) : List Nat := (ls.take k).foldl doesL none_
theorem playL_zero (ls : List Ou) : playL ls 0 = none_ := rfl
theorem playL_succ {ls : List Ou} {k : Nat} {o : Ou} (h : ls[k]? = some o) : playL ls (k + 1) = doesL (playL ls k) o := by
  unfold playL
  obtain ⟨h1, h2⟩ := List.getElem?_eq_some_iff.1 h
  rw [List.take_succ_eq_append_getElem h1, h2, List.foldl_append]; rfl
end Pgs
/-- A map in memory of the call's own, behind k things done. -/
structure Pl (w W : World) (g : Nat) (L : List Nat) : Prop where
  m : PM W g L
  bel : Below w.heap.size w W
theorem Pl.step {w W W' : World} {g : Nat} {L L' : List Nat} (h : Pl w W g L) (hg : w.heap.size ≤ g) (hs : Stp W W' g L') : Pl w W' g L' :=
  ⟨hs.1, h.bel.trans (hs.2.below h.bel.size (fun k hk => by omega))⟩
theorem got_set {L : List Nat} (h : Ok L) {p s : Int} (hb : setB p s = true) : ((got (setL L p s) p : Nat) : Int) = s ∧ got (setL L p s) p ≠ 0 := by
  unfold setL
  rw [hb, if_pos rfl]
  unfold setB at hb
  simp only [Bool.and_eq_true, decide_eq_true_eq] at hb
  unfold got
  rw [if_pos hb.1, List.getD_eq_getElem?_getD, List.getElem?_set_self (by rw [h.len]; omega), Option.getD_some]
  omega
theorem got_set_ne (L : List Nat) {p q s : Int} (hq : q ≠ p) : got (setL L p s) q = got L q := by
  unfold setL
  split
  · rename_i hb
    unfold setB at hb
    simp only [Bool.and_eq_true, decide_eq_true_eq] at hb
    unfold got
    split
    · rw [List.getD_eq_getElem?_getD, List.getD_eq_getElem?_getD, List.getElem?_set_ne (by omega)]
    · rfl
  · rfl
theorem got_clear_ne (L : List Nat) {p q : Int} (hq : q ≠ p) : got (clearL L p) q = got L q := by
  unfold clearL
  split
  · rename_i hb
    unfold clearB at hb
    simp only [decide_eq_true_eq] at hb
    have hp := got_in hb
    unfold got
    split
    · rw [List.getD_eq_getElem?_getD, List.getD_eq_getElem?_getD, List.getElem?_set_ne (by omega)]
    · rfl
  · rfl
theorem clear_clear {L : List Nat} (h : Ok L) (p : Int) : clearB (clearL L p) p = false := by
  unfold clearL
  split
  · rename_i hb
    unfold clearB at hb
    simp only [decide_eq_true_eq] at hb
    have hp := got_in hb
    unfold clearB got
    rw [if_pos hp, List.getD_eq_getElem?_getD, List.getElem?_set_self (by rw [h.len]; omega)]; rfl
  · rename_i hb
    simpa using hb
end Go.Proofs.Ytcmaehilgeonjaa
