/- A slice of steps that came in; what steps make of a set. -/
import Derived.Test.YtfkhgdhfelfegaaDoorFull
import Derived.OpenShut
import Derived.Deep.SlicePairs
namespace Go.Proofs.YtfkhgdhfelfegaaDoor
open Go.RowKit Go.ChangeShapes Go.WideShapes Bts

/-- What a value of type []Step reads as. -/
def Stps (w : World) (A : Option Addr) (ls : List (Bool × Int)) : Prop :=
  ∀ (r : Nat) (f : Bool × Int), ls[r]? = some f → ∃ b off, A = some ⟨b, off, none⟩ ∧ b < w.heap.size ∧ w.cell? ⟨b, off + r * 2, none⟩ = some (.bool f.1) ∧ w.cell? ⟨b, off + r * 2 + 1, none⟩ = some (.int .i64 f.2) ∧ (-9223372036854775808 ≤ f.2 ∧ f.2 < 9223372036854775808)
theorem Stps.below {w w' : World} {A : Option Addr} {ls : List (Bool × Int)} (h : Stps w A ls) (hb : Below w.heap.size w w') : Stps w' A ls := fun r f hr => by
  obtain ⟨b, off, e, hlt, h1, h2, h3⟩ := h r f hr
  exact ⟨b, off, e, Nat.lt_of_lt_of_le hlt hb.size, (hb.cell (p := ⟨b, off + r * 2, none⟩) hlt).trans h1, (hb.cell (p := ⟨b, off + r * 2 + 1, none⟩) hlt).trans h2, h3⟩
def OpenedS (w : World) (v : Value) : Prop := ∃ A len cap ls, v = .slice A len cap ∧ ls.length = len ∧ len ≤ cap ∧ cap ≤ maxLen ∧ Stps w A ls

theorem add_none {b off : Nat} (i : Nat) : (⟨b, off, none⟩ : Addr).add i = ⟨b, off + i, none⟩ := by unfold Addr.add; split <;> simp_all

theorem wf_i64 {n : Int} (h : (Lit.int .i64 n).wf = true) : -9223372036854775808 ≤ n ∧ n < 9223372036854775808 := by
  have h' := h
  simp [Lit.wf, IntKind.min, IntKind.max, IntKind.bits, IntKind.signed] at h'
  omega

theorem openedS {H : Type} {enc : TypeId × Value → H} {W : World} {v : Value} {d : DataW H} {p : List MemPlace} (hok : Value.okWide Tryd.prog W .any 0 22 v)
    (h : DataW.Trod enc Tryd.prog W 0 (fun _ => true) true 22 v d p) : OpenedS W v := by
  obtain ⟨a0, len0, cap0, rfl⟩ := okWide_slice Tryd.underlying22 hok
  obtain ⟨fuel, hf⟩ := h
  rcases Deep.open_slice_pairs Tryd.underlying22 Tryd.underlying35 (by kernel_rfl) rfl rfl (by kernel_rfl) (by kernel_rfl) hf with ⟨hcs, _⟩ | ⟨x, l, c, m, n, V0, V1, D0, D1, P0, P1, hcs, _, hl, hm, hmm, _, hr⟩
  · simp [Value.cells] at hcs
    obtain ⟨rfl, rfl, rfl⟩ := hcs
    exact ⟨none, 0, 0, [], rfl, rfl, Nat.le_refl _, Nat.zero_le _, fun r bs h => by simp at h⟩
  · simp [Value.cells] at hcs
    obtain ⟨rfl, rfl, rfl⟩ := hcs
    simp only [if_true] at hmm
    subst hmm
    have each : ∀ r, r < m → ∃ f : Bool × Int, V0 r = .bool f.1 ∧ V1 r = .int .i64 f.2 ∧ (-9223372036854775808 ≤ f.2 ∧ f.2 < 9223372036854775808) := by
      intro r hrm
      obtain ⟨_, _, t0, t1⟩ := hr r hrm
      obtain ⟨n0, e0, _⟩ := DataW.trod_bool Tryd.underlying4 t0
      obtain ⟨n1, e1, _, f1⟩ := DataW.trod_int Tryd.underlying3 t1
      exact ⟨(n0, n1), by simpa using e0, by simpa using e1, wf_i64 f1⟩
    obtain ⟨F, hF⟩ := Deep.choose_lt each
    refine ⟨some x, len0, m, (List.range len0).map F, rfl, by simp, hl, hm, fun r f hfr => ?_⟩
    rw [List.getElem?_map] at hfr
    have hrl : r < len0 := by
      rcases Nat.lt_or_ge r len0 with h | h
      · exact h
      · rw [List.getElem?_eq_none (by simp; omega)] at hfr; cases hfr
    rw [List.getElem?_range hrl] at hfr
    simp only [Option.map_some, Option.some.injEq] at hfr
    obtain ⟨h0, h1, _, _⟩ := hr r (by omega)
    obtain ⟨k0, _, _, _⟩ := hr 0 (by omega)
    obtain ⟨g0, g1, g2⟩ := hF r (by omega)
    obtain ⟨b, off, spot⟩ := x
    have hspot : spot = none := by simpa [Addr.add] using World.cell?_spot k0
    subst hspot
    rw [add_none, g0, hfr] at h0
    rw [add_none, g1, hfr] at h1
    rw [hfr] at g2
    exact ⟨b, off, rfl, World.block_lt_of_cell? W _ h0, h0, h1, g2⟩

theorem Stps.at_ {w : World} {A : Option Addr} {ls : List (Bool × Int)} (h : Stps w A ls) {k : Nat} (hk : k < ls.length) : ∃ b off c i, A = some ⟨b, off, none⟩ ∧ b < w.heap.size ∧ ls[k]? = some (c, i) ∧ w.cell? ⟨b, off + k * 2, none⟩ = some (.bool c) ∧ w.cell? ⟨b, off + k * 2 + 1, none⟩ = some (.int .i64 i) ∧ (-9223372036854775808 ≤ i ∧ i < 9223372036854775808) := by
  obtain ⟨b, off, e, hlt, h1, h2, h3⟩ := h k ls[k] (List.getElem?_eq_getElem hk)
  exact ⟨b, off, ls[k].1, ls[k].2, e, hlt, List.getElem?_eq_getElem hk, h1, h2, h3⟩

theorem card_full {S : Nat → Bool} : ∀ n, (∀ j, j < n → S j = true) → card S n = n
  | 0, _ => rfl
  | n + 1, h => by simp only [card]; rw [card_full n fun j hj => h j (by omega), h n (by omega)]; rfl

theorem set_st' {B p q n : Nat} {i : Int} {S : Nat → Bool} {w wr : World} (h : St B p q n S w wr) :
    Calls Tryd.prog 18 #[.pointer (some ⟨p, 0, none⟩), .int .i64 i] wr fun e w' => e = .returned (.bool (setB S n i)) ∧ St B p q n (ins S n i) w w' := set_st _ h rfl
theorem clear_st' {B p q n : Nat} {i : Int} {S : Nat → Bool} {w wr : World} (h : St B p q n S w wr) :
    Calls Tryd.prog 16 #[.pointer (some ⟨p, 0, none⟩), .int .i64 i] wr fun e w' => e = .returned (.bool (hasB S n i)) ∧ St B p q n (del S i) w w' := clear_st _ h rfl

end Go.Proofs.YtfkhgdhfelfegaaDoor
