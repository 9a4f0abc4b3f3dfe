/- What is done with a disk that is on, and not armed. -/
import Derived.Test.YtiemfhncadcemaaW
namespace Go.Proofs.Ytiemfhncadcemaa
open Go.RowKit Dsk

theorem refuse_in {n s : Nat} (h : s < n) : refuse false n (s : Int) = 0 := by unfold refuse; rw [if_neg (by decide), if_neg (by omega)]

section
variable (S : List (List UInt8)) (P : List (Nat × List UInt8)) (t : Nat)
theorem write_liveE (s : Nat) (b : List UInt8) (hs : s < S.length) (hb : b.length ≤ 256) : writeE ⟨S, P, false, 0, t⟩ (s : Int) b = 0 := by
  unfold writeE
  rw [show refuse (⟨S, P, false, 0, t⟩ : DS).dead (⟨S, P, false, 0, t⟩ : DS).S.length (s : Int) = 0 from refuse_in hs, if_pos rfl, if_pos hb]
  rfl
theorem write_liveD (s : Nat) (b : List UInt8) (hs : s < S.length) (hb : b.length ≤ 256) : writeD ⟨S, P, false, 0, t⟩ (s : Int) b = ⟨S, P ++ [(s, filled b 256)], false, 0, t + 1⟩ := by
  unfold writeD
  rw [show refuse (⟨S, P, false, 0, t⟩ : DS).dead (⟨S, P, false, 0, t⟩ : DS).S.length (s : Int) = 0 from refuse_in hs, if_pos ⟨rfl, hb⟩]
  rfl
theorem bar_liveE : barE ⟨S, P, false, 0, t⟩ = 0 := rfl
theorem bar_liveD : barD ⟨S, P, false, 0, t⟩ = ⟨settleTo (fun _ b => some b) P S P.length, [], false, 0, t + 1⟩ := rfl
theorem off_live : offD ⟨S, P, false, 0, t⟩ = ⟨S, P, true, 0, t⟩ := rfl
theorem on_liveE (a : Nat) : onE ⟨S, P, true, a, t⟩ = 0 := rfl
theorem on_liveD (a : Nat) (ks : List Int) (torn : Int) : onD ⟨S, P, true, a, t⟩ ks torn = ⟨settleTo (onF (has ks) torn) P S P.length, [], false, 0, t⟩ := rfl
theorem read_live (d : Nat) (s : Nat) (hs : s < S.length) : readE ⟨S, P, false, d, t⟩ (s : Int) = if readS ⟨S, P, false, d, t⟩ s = [] then 5 else 0 := by
  unfold readE
  rw [show refuse (⟨S, P, false, d, t⟩ : DS).dead (⟨S, P, false, d, t⟩ : DS).S.length (s : Int) = 0 from refuse_in hs, if_pos rfl, Int.toNat_natCast]
end

theorem filled_ne {b : List UInt8} (h : b.length ≤ 256) : filled b 256 ≠ [] := fun e => by
  have := filled_length b 256 h
  rw [e] at this
  cases this
theorem zeros_ne : zeros ≠ [] := fun e => by have := zeros_length; rw [e] at this; cases this

end Go.Proofs.Ytiemfhncadcemaa
