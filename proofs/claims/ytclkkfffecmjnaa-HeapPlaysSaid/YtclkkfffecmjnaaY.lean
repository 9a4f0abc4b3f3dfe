/- heap: works. -/
import Derived.Test.YtclkkfffecmjnaaX
import Derived.Test.YtclkkfffecmjnaaYa
namespace Go.Proofs.Ytclkkfffecmjnaa
open Go.RowKit
attribute [local go_sem] Oper.semAt_some
namespace Wk
def oA : Ob := ⟨5, 0, [], [97, 98]⟩
def oB : Ob := ⟨3, 0, [⟨2, 1⟩], []⟩
def oC : Ob := ⟨8, 5, [], []⟩
def oD : Ob := ⟨3, 0, [⟨1, 7⟩], []⟩
def k1 : HS := ⟨10, 2, 1, [⟨1, oA, false⟩], []⟩
def k2 : HS := ⟨10, 4, 2, [⟨1, oA, false⟩, ⟨2, oB, false⟩], []⟩
def k3 : HS := ⟨10, 5, 3, [⟨1, oA, false⟩, ⟨2, oB, false⟩, ⟨3, oC, false⟩], [(3, 5)]⟩
def k4 : HS := ⟨10, 5, 3, [⟨1, oA, false⟩, ⟨2, oB, false⟩, ⟨3, oC, false⟩], [(3, 5), (2, 6)]⟩
def k5 : HS := ⟨10, 5, 3, [⟨1, oA, false⟩, ⟨2, oD, true⟩, ⟨3, oC, false⟩], [(3, 5), (2, 6)]⟩
def k6 : HS := ⟨10, 2, 3, [⟨2, oD, true⟩], [(2, 6)]⟩
theorem a1 : allocF (newH 10) oA = (k1, 1, 0) := rfl
theorem a2 : allocF k1 oB = (k2, 2, 0) := rfl
theorem a3 : allocF k2 oC = (k3, 3, 0) := rfl
theorem t1 : tieF k3 2 5 = (k3, 3) := rfl
theorem t2 : tieF k3 2 6 = (k4, 0) := rfl
theorem s1 : setF k4 2 0 ⟨1, 7⟩ = (k5, true) := rfl
theorem d1 : dirtyL k5 = [2] := rfl
theorem w1 : wordF k6 2 0 = (⟨1, 7⟩, true) := rfl
theorem c1 {t : Nat} (hok : k5.Ok t) : collectH k5 [] = k6 := by
  have h : ∀ n, Reach k5 (rootC k5 []) n → n = 2 := fun n hr => by
    induction hr with
    | root hx h0 =>
      rcases h0 with h0 | h0
      · cases h0
      · rw [d1] at h0
        obtain ⟨v, hv, e⟩ := nums_mem.1 h0
        rw [List.mem_singleton.1 hv] at e
        omega
    | step hx hr hz hk hy e ih =>
      exfalso
      simp [k5] at hx
      rcases hx with rfl | rfl | rfl
      · cases ih
      · simp [oD] at hz
        rw [hz] at hk
        cases hk
      · cases ih
  have h2 : Reach k5 (rootC k5 []) 2 := .root (x := ⟨2, oD, true⟩) (by simp [k5]) (.inr (by rw [d1]; simp [nums]))
  rw [← collectH_eq hok (K := fun j => j == 2) fun x hx => ?_]
  · rfl
  · constructor
    · intro e
      have e : x.h = 2 := by simpa using e
      rw [e]; exact h2
    · intro hr
      rw [h _ hr]; rfl
end Wk
end Go.Proofs.Ytclkkfffecmjnaa
