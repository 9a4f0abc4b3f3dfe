/- pages: four maps; a part, or none. -/
import Derived.Test.YtcmaehilgeonjaaAS
namespace Go.Proofs.Ytcmaehilgeonjaa
open Go.RowKit Pgs
/-- A map and the reference's, and what they were. -/
structure P4 (w W : World) (g1 g2 g3 : Nat) (L K H : List Nat) : Prop where
  m : PM W w.heap.size L
  x : PR W g1 K
  h : PM W g2 H
  s : PR W g3 H
  bel : Below w.heap.size w W
  n1 : w.heap.size < g1
  n2 : w.heap.size < g2 ∧ g1 ≠ g2
  n3 : w.heap.size < g3 ∧ g1 ≠ g3
section
variable {w W W' : World} {g1 g2 g3 : Nat} {L K H : List Nat}
theorem P4.below (p : P4 w W g1 g2 g3 L K H) (hb : Below W.heap.size W W') : P4 w W' g1 g2 g3 L K H :=
  ⟨p.m.below hb, p.x.below hb, p.h.below hb, p.s.below hb, p.bel.trans (hb.mono p.bel.size), p.n1, p.n2, p.n3⟩
theorem P4.drew (p : P4 w W g1 g2 g3 L K H) : P4 w W.drew g1 g2 g3 L K H :=
  ⟨⟨p.m.blk, p.m.ok⟩, ⟨p.x.blk, p.x.ok⟩, ⟨p.h.blk, p.h.ok⟩, ⟨p.s.blk, p.s.ok⟩, p.bel.drew, p.n1, p.n2, p.n3⟩
theorem P4.stepm {L' : List Nat} (p : P4 w W g1 g2 g3 L K H) (hs : Stp W W' w.heap.size L') : P4 w W' g1 g2 g3 L' K H :=
  ⟨hs.1, ⟨p.x.blk.off hs.2 (by have := p.n1; omega), p.x.ok⟩, ⟨p.h.blk.off hs.2 (by have := p.n2; omega), p.h.ok⟩, ⟨p.s.blk.off hs.2 (by have := p.n3; omega), p.s.ok⟩, p.bel.trans (hs.2.below p.bel.size (fun k hk => by omega)), p.n1, p.n2, p.n3⟩
theorem P4.stepx {K' : List Nat} (p : P4 w W g1 g2 g3 L K H) (hs : StR W W' g1 K') : P4 w W' g1 g2 g3 L K' H :=
  ⟨⟨p.m.blk.off hs.2 (by have := p.n1; omega), p.m.ok⟩, hs.1, ⟨p.h.blk.off hs.2 (by have := p.n2; omega), p.h.ok⟩, ⟨p.s.blk.off hs.2 (by have := p.n3; omega), p.s.ok⟩, p.bel.trans (hs.2.below p.bel.size (fun k hk => by have := p.n1; omega)), p.n1, p.n2, p.n3⟩
end
namespace Pgs
/-- A part, of whatever number. -/
def partI (L : List Nat) (i : Int) : List UInt8 := if 0 ≤ i ∧ i < 9 then partB L i.toNat else []
end Pgs
theorem part_any (g : Nat) (i : Int) (L : List Nat) (w : World) (h : PM w g L) :
    Calls Try.prog 26 #[.pointer (some ⟨g, 0, none⟩), .int .i64 i] w fun e w' => ∃ A n c, e = .returned (.slice A n c) ∧ (partI L i).length = n ∧ Bytes w' A (partI L i) ∧ Below w.heap.size w w' := by
  unfold partI
  by_cases hi : 0 ≤ i ∧ i < 9
  · rw [if_pos hi]
    obtain ⟨k, rfl⟩ : ∃ k : Nat, i = k := ⟨i.toNat, by omega⟩
    rw [Int.toNat_natCast]
    refine (part_some g k L w h (by omega)).mono ?_
    rintro e w' ⟨A, n, c, rfl, _, _, hl, hB, hb⟩
    exact ⟨A, n, c, rfl, hl, hB, hb⟩
  · rw [if_neg hi]
    refine (part_no g i w hi).mono ?_
    rintro e w' ⟨rfl, rfl⟩
    exact ⟨none, 0, 0, rfl, rfl, Bytes.nil _ _, Below.refl _ _⟩
theorem rpart_any (g : Nat) (i : Int) (L : List Nat) (w : World) (h : PR w g L) :
    Calls Try.prog 27 #[.pointer (some ⟨g, 0, none⟩), .int .i64 i] w fun e w' => ∃ A n c, e = .returned (.slice A n c) ∧ (partI L i).length = n ∧ Bytes w' A (partI L i) ∧ Below w.heap.size w w' := by
  unfold partI
  by_cases hi : 0 ≤ i ∧ i < 9
  · rw [if_pos hi]
    obtain ⟨k, rfl⟩ : ∃ k : Nat, i = k := ⟨i.toNat, by omega⟩
    rw [Int.toNat_natCast]
    refine (rpart_some g k L w h (by omega)).mono ?_
    rintro e w' ⟨A, n, c, rfl, _, _, hl, hB, hb⟩
    exact ⟨A, n, c, rfl, hl, hB, hb⟩
  · rw [if_neg hi]
    by_cases h0 : i < 0
    · refine (rpart_low g i w h0).mono ?_
      rintro e w' ⟨rfl, rfl⟩
      exact ⟨none, 0, 0, rfl, rfl, Bytes.nil _ _, Below.refl _ _⟩
    · refine (rpart_high g i w (by omega)).mono ?_
      rintro e w' ⟨rfl, rfl⟩
      exact ⟨none, 0, 0, rfl, rfl, Bytes.nil _ _, Below.refl _ _⟩
end Go.Proofs.Ytcmaehilgeonjaa
