/- heap: numbers in memory. -/
import Derived.Test.YtclkkfffecmjnaaM
namespace Go.Proofs.Ytclkkfffecmjnaa
open Go.RowKit
def Ints (w : World) (A : Option Addr) (zs : List Int) : Prop :=
  ∀ (k : Nat) (z : Int), zs[k]? = some z → ∃ b off, A = some ⟨b, off, none⟩ ∧ b < w.heap.size ∧ w.cell? ⟨b, off + k, none⟩ = some (.int .i64 z) ∧ (-9223372036854775808 ≤ z ∧ z < 9223372036854775808)
theorem Ints.nil (w : World) (A : Option Addr) : Ints w A [] := fun k z h => by simp at h
theorem Ints.below {w w' : World} {A : Option Addr} {zs : List Int} (h : Ints w A zs) (hb : Below w.heap.size w w') : Ints w' A zs := fun k z hk => by
  obtain ⟨b, off, e, hlt, h1, h2⟩ := h k z hk
  exact ⟨b, off, e, Nat.lt_of_lt_of_le hlt hb.size, (hb.cell (p := ⟨b, off + k, none⟩) hlt).trans h1, h2⟩
theorem Ints.off {w w' : World} {F : Nat → Prop} {A : Option Addr} {zs : List Int} (h : Ints w A zs) (ho : Off F w w') (hF : ∀ p : Addr, A = some p → zs ≠ [] → ¬ F p.block) : Ints w' A zs := fun k z hk => by
  obtain ⟨b, off, e, hlt, h1, h2⟩ := h k z hk
  exact ⟨b, off, e, Nat.lt_of_lt_of_le hlt ho.size, (World.cell?_of_block (a := ⟨b, off + k, none⟩) (ho.block b hlt (hF ⟨b, off, none⟩ e (fun h => by rw [h] at hk; cases hk)))).trans h1, h2⟩

end Go.Proofs.Ytclkkfffecmjnaa
