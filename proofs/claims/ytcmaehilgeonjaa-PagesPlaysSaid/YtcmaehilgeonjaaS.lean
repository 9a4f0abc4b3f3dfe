/- pages: Lay, whole. -/
import Derived.Test.YtcmaehilgeonjaaP
namespace Go.Proofs.Ytcmaehilgeonjaa
open Go.RowKit Pgs
theorem lay_some (g len c : Nat) (i : Int) (A : Option Addr) (L : List Nat) (bs : List UInt8) (w : World) (h : PM w g L) (hl : bs.length = len) (hA : Bytes w A bs) :
    Calls Try.prog 28 #[.pointer (some ⟨g, 0, none⟩), .int .i64 i, .slice A len c] w fun e w' => e = .returned (.bool (layB i bs)) ∧ Stp w w' g (layL L i bs) := by
  have no : layB i bs = false → Stp w w g (layL L i bs) := fun hb => by
    have : layL L i bs = L := by unfold layL; rw [hb]; rfl
    rw [this]; exact ⟨h, Off.refl _ _⟩
  by_cases hi : 0 ≤ i ∧ i < 9
  · obtain ⟨j, rfl⟩ : ∃ j : Nat, i = j := ⟨i.toNat, by omega⟩
    by_cases h1 : len ≤ 248
    · by_cases h2 : len % 2 = 0
      · obtain ⟨n, rfl⟩ : ∃ n, len = 2 * n := ⟨len / 2, by omega⟩
        exact lay_even g j n c A L bs w h (by omega) (by omega) hl hA
      · have hb : layB (j : Int) bs = false := by
          unfold layB
          rw [decide_eq_false (p := bs.length % 2 = 0) (by omega), Bool.and_false, Bool.false_and, Bool.false_and]
        refine (lay_odd g j A len c w (by omega) h1 h2).mono ?_
        rintro e w' ⟨rfl, rfl⟩
        exact ⟨by rw [hb], no hb⟩
    · have hb : layB (j : Int) bs = false := by
        unfold layB
        rw [decide_eq_false (p := bs.length ≤ 248) (by omega), Bool.and_false, Bool.false_and, Bool.false_and, Bool.false_and]
      refine (lay_long g j A len c w (by omega) (by omega)).mono ?_
      rintro e w' ⟨rfl, rfl⟩
      exact ⟨by rw [hb], no hb⟩
  · have hb : layB i bs = false := by
      unfold layB
      rw [decide_eq_false hi, Bool.false_and, Bool.false_and, Bool.false_and, Bool.false_and]
    refine (lay_no g i A len c w hi).mono ?_
    rintro e w' ⟨rfl, rfl⟩
    exact ⟨by rw [hb], no hb⟩
end Go.Proofs.Ytcmaehilgeonjaa
