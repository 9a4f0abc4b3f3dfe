/- heap: append of numbers. -/
import Derived.Test.YtclkkfffecmjnaaIn
import Derived.Test.YtclkkfffecmjnaaD
namespace Go.Proofs.Ytclkkfffecmjnaa
open Go.RowKit
theorem run_appI (w : World) (base : Nat) (v : Value) (n : Nat) (xs : List Int) (hown : w.ownsRow base 3 1 v n (xs.map (Value.int .i64))) (A : Option Addr) (len c : Nat) (ks : List Int) (hlen : ks.length = len) (hA : Ints w A ks)
    (hb : n + len ≤ 140737488355) (hbase : base ≤ w.heap.size) :
    ∃ v' w', (Builtin.append_ #[41, 41] 41 #[v, .slice A len c]).run Try.prog w = .ok v' w' ∧ w'.ownsRow base 3 1 v' (n + len) ((xs ++ ks).map (Value.int .i64)) ∧ w.grownBy w' v.ownBlock := by
  obtain ⟨i0, hi, hz0, hz1, hz2⟩ := info_parts (show (Try.prog.info? 3).map (fun i => (i.zero, i.size, i.bytes)) = some (some (.int .i64 0), 1, 8) by kernel_rfl)
  have hcells : ∀ (a : Addr), A = some a → ∀ (j : Nat) (u : Value), (ks.map (Value.int .i64))[j]? = some u → w.cell? (a.add j) = some u := fun a e j u hu => by
    rw [List.getElem?_map] at hu
    cases hj : ks[j]? with
    | none => rw [hj] at hu; cases hu
    | some d =>
      rw [hj] at hu
      simp only [Option.map_some, Option.some.injEq] at hu
      subst hu
      obtain ⟨b, off, e', _, hc, _⟩ := hA j d hj
      rw [e] at e'; cases e'
      have e2 : (⟨b, off, none⟩ : Addr).add j = ⟨b, off + j, none⟩ := by unfold Addr.add; split <;> simp_all
      rw [e2]; exact hc
  have h1 : ∀ u ∈ ks.map (Value.int .i64), u.oneCell' = true := fun u hu => by obtain ⟨d, _, rfl⟩ := List.mem_map.1 hu; rfl
  cases A with
  | some a =>
    obtain ⟨v', w', hrun, h2, h3, _, _⟩ := run_append_own_at (P := Try.prog) w base 41 41 3 i0 (.int .i64 0) 1 8 Try.underlying41 hi hz0 hz1 hz2 rfl (by decide) v n (xs.map (Value.int .i64)) hown a len c (ks.map (Value.int .i64)) (by simp; omega) (hcells a rfl) h1 (by unfold maxLen; omega) (by omega) hbase
    exact ⟨v', w', hrun, by rw [List.map_append]; exact h2, h3⟩
  | none =>
    have h0 : ks = [] := by
      cases ks with
      | nil => rfl
      | cons d r =>
        obtain ⟨b, off, e, _⟩ := hA 0 d rfl
        cases e
    subst h0
    obtain rfl : 0 = len := hlen
    refine ⟨v, w, ?_, by simpa using hown, World.grownBy.refl w _⟩
    rcases hown.2 with ⟨rfl, rfl⟩ | ⟨g, cap, cur, rfl, _, _, hnc, _⟩
    · simp [Builtin.append_, run_underlying Try.underlying41, sizeOf, typeInfo, hi, Builtin.lenOf, Builtin.firstCells]
    · simp [Builtin.append_, run_underlying Try.underlying41, sizeOf, typeInfo, hi, Builtin.lenOf, Builtin.firstCells, hnc, storeCells]
theorem Ints.of_own {w : World} {base n : Nat} {t : TypeId} {A : Option Addr} {c : Nat} {ks : List Int} (h : w.ownsRow base t 1 (.slice A n c) n (ks.map (Value.int .i64))) (hr : ∀ z ∈ ks, -9223372036854775808 ≤ z ∧ z < 9223372036854775808) : Ints w A ks := fun k d hk => by
  rcases h.2 with ⟨e, rfl⟩ | ⟨g, cap, cur, e, hb, hg, hn, hm, hs, ht⟩
  · have := h.1; simp at this; subst this; simp at hk
  · injection e with e1 e2 e3
    have hlt : g < w.heap.size := (Array.getElem?_eq_some_iff.1 hg).1
    refine ⟨g, 0, e1, hlt, ?_, hr d (List.mem_of_getElem? hk)⟩
    have hkl : k < n := by have := h.1; simp at this; have := (List.getElem?_eq_some_iff.1 hk).1; omega
    rw [Nat.zero_add, cell_of_row w g k cur t (0, 0) hg]
    have h2 : (cur.toList.take (n * 1))[k]? = some (.int .i64 d) := by rw [ht]; simp [hk]
    rw [List.getElem?_take_of_lt (by omega)] at h2
    simpa using h2
theorem Ints.rng {w : World} {A : Option Addr} {ks : List Int} (h : Ints w A ks) : ∀ z ∈ ks, -9223372036854775808 ≤ z ∧ z < 9223372036854775808 := fun z hz => by
  obtain ⟨k, hk⟩ := List.getElem?_of_mem hz
  obtain ⟨_, _, _, _, _, h9⟩ := h k z hk
  exact h9
end Go.Proofs.Ytclkkfffecmjnaa
