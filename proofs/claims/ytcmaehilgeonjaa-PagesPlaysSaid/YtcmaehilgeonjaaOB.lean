/- The iterator of octet: what field's closure tells of the bytes of a field. -/
import Derived.Test.YtcmaehilgeonjaaOA
import Derived.Test.YtcmaehilgeonjaaL
import Derived.RangeFuncNested
import Derived.RangeFuncBound
import Derived.RangeFuncCalls
import Derived.RangeFuncLeaves
import Derived.RangeFuncBox
import Derived.Shelf.Abstract
import Derived.Shelf.RegionOpen
import Derived.WalkKit
import Derived.OwnWalkIn
import Derived.TacticsInMore
import Derived.LoopNIn
import Derived.LoopIn
namespace Go.Proofs.Ytcmaehilgeonjaa
open Go.RowKit Go.Shelf
attribute [local go_sem] Oper.semAt_some

/-- What the iterator reads: its three boxes, and the field's bytes, of each of which G holds. -/
structure FInv (Bn Bb Ba : Nat) (A : Option Addr) (len cap at_ n : Nat) (G : Nat → UInt8 → Prop) (W : World) : Prop where
  bn : W.cell? ⟨Bn, 0, none⟩ = some (.int .i64 (n : Int))
  bb : W.cell? ⟨Bb, 0, none⟩ = some (.slice A len cap)
  ba : W.cell? ⟨Ba, 0, none⟩ = some (.int .i64 (at_ : Int))
  by_ : ∀ k, k < n → ∃ b off c, A = some ⟨b, off, none⟩ ∧ G k c ∧ W.cell? ⟨b, off + (at_ + k), none⟩ = some (.int .u8 (c.toNat : Int))

theorem FInv.kept {Bn Bb Ba : Nat} {A : Option Addr} {len cap at_ n : Nat} {G : Nat → UInt8 → Prop} {W W' : World} (h : FInv Bn Bb Ba A len cap at_ n G W)
    (hk : ∀ (p : Addr) v, W.cell? p = some v → W'.cell? p = W.cell? p) : FInv Bn Bb Ba A len cap at_ n G W' :=
  ⟨(hk _ _ h.bn).trans h.bn, (hk _ _ h.bb).trans h.bb, (hk _ _ h.ba).trans h.ba, fun k hlt => by
    obtain ⟨b, off, c, e, g, hc⟩ := h.by_ k hlt
    exact ⟨b, off, c, e, g, (hk _ _ hc).trans hc⟩⟩

theorem FInv.far {Bn Bb Ba X : Nat} {A : Option Addr} {len cap at_ n : Nat} {G : Nat → UInt8 → Prop} {W W' : World} (h : FInv Bn Bb Ba A len cap at_ n G W)
    (h1 : Bn ≠ X) (h2 : Bb ≠ X) (h3 : Ba ≠ X) (h4 : 0 < n → ∀ ad, A = some ad → ad.block ≠ X) (hk : ∀ p : Addr, p.block ≠ X → W'.cell? p = W.cell? p) : FInv Bn Bb Ba A len cap at_ n G W' :=
  ⟨(hk _ h1).trans h.bn, (hk _ h2).trans h.bb, (hk _ h3).trans h.ba, fun k hlt => by
    obtain ⟨b, off, c, e, g, hc⟩ := h.by_ k hlt
    exact ⟨b, off, c, e, g, (hk ⟨b, off + (at_ + k), none⟩ (show b ≠ X from h4 (by omega) _ e)).trans hc⟩⟩

/-- The pairs that have come. -/
abbrev BPair (n : Nat) := { x : Nat × UInt8 // x.1 < n }
def bpair {n : Nat} (x : BPair n) : Array Value := #[Value.int .i64 (x.1.1 : Int), Value.int .u8 (x.1.2.toNat : Int)]

/-- So have the first k come. -/
def Came {n : Nat} (G : Nat → UInt8 → Prop) (k : Nat) (pre : List (BPair n)) : Prop := pre.map (fun x => x.1.1) = List.range k ∧ ∀ x ∈ pre, G x.1.1 x.1.2

theorem Came.nil {n : Nat} (G : Nat → UInt8 → Prop) : Came G 0 ([] : List (BPair n)) := ⟨rfl, by simp⟩
theorem Came.snoc {n : Nat} {G : Nat → UInt8 → Prop} {k : Nat} {pre : List (BPair n)} (h : Came G k pre) (hk : k < n) {c : UInt8} (hc : G k c) : Came G (k + 1) (pre ++ [⟨(k, c), hk⟩]) := by
  refine ⟨by rw [List.map_append, h.1, List.range_succ]; rfl, fun x hx => ?_⟩
  rcases List.mem_append.1 hx with hx | hx
  · exact h.2 x hx
  · simp at hx; subst hx; exact hc
theorem Came.length {n : Nat} {G : Nat → UInt8 → Prop} {k : Nat} {pre : List (BPair n)} (h : Came G k pre) : pre.length = k := by
  have := congrArg List.length h.1
  simpa using this

set_option maxRecDepth 100000 in
set_option maxHeartbeats 1000000 in
theorem field1_in (F : Fence) (m : Nat) (h8 : F.fn 45) (hro : F.round = none) (hm : 1 ≤ m) (l Bn Bb Ba : Nat) (A : Option Addr) (len cap at_ n : Nat) (G : Nat → UInt8 → Prop)
    (hle : at_ + n ≤ len) (hlm : len ≤ 9223372036854775807) (J Jx : List (BPair n) → World → Prop)
    (hY : ∀ pre x W, J pre W → pre.length < n → YieldAt F (m - 1) Try.prog l (bpair x) W fun e W' =>
      (e = .returned (.bool true) ∧ J (pre ++ [x]) W' ∧ (FInv Bn Bb Ba A len cap at_ n G W → FInv Bn Bb Ba A len cap at_ n G W')) ∨ (e = .returned (.bool false) ∧ Jx (pre ++ [x]) W'))
    (W : World) (hI : FInv Bn Bb Ba A len cap at_ n G W) (h0 : J [] W) :
    CallsIn F m Try.prog 45 #[.func (.yield l) #[] #[], .pointer (some ⟨Bn, 0, none⟩), .pointer (some ⟨Bb, 0, none⟩), .pointer (some ⟨Ba, 0, none⟩)] W fun e W' => (∃ v, e = .returned v) ∧
      ((∃ ys, Came G n ys ∧ J ys W') ∨ (∃ pre, True ∧ Jx pre W')) := by
  refine callsIn_of_wp Try.func45 rfl h8 ?_ hro
  simp only [Try.ntmps45, List.size_toArray, List.length_cons, List.length_nil, Nat.reduceAdd, Nat.reduceSub, Array.replicate_succ, Array.replicate_zero, List.push_toArray, List.append_toArray, List.nil_append, List.cons_append]
  gi_wp2
  gi_loopw [5] (fun i wr => ∃ (k : Nat) (pre : List (BPair n)), k ≤ n ∧ i = .int .i64 k ∧ Came G k pre ∧ J pre wr ∧ FInv Bn Bb Ba A len cap at_ n G wr)
    (fun i _ => n - (intOf i).toNat)
  case atStart => exact ⟨0, [], Nat.zero_le _, rfl, Came.nil G, h0, hI⟩
  case round =>
    obtain ⟨k, pre, hk, rfl, hC, hJs, hF⟩ := hrel
    have hbn := hF.bn
    by_cases hlt : k < n
    · obtain ⟨b, off, c, rfl, hG, hc⟩ := hF.by_ k hlt
      have hbb := hF.bb
      have hba := hF.ba
      obtain ⟨fn, tmps, assign, body, hy, hR⟩ := hY pre ⟨(k, c), hlt⟩ wr hJs (by rw [hC.length]; exact hlt)
      dsimp only [bpair] at hy
      gi_wp2
      refine hR.mono ?_
      rintro e W3 (⟨rfl, hJ3, hk3⟩ | ⟨rfl, hJx3⟩)
      · gi_wp2
        go_roundw
        case rel => exact ⟨k + 1, _, by omega, by go_num, hC.snoc hlt hG, hJ3, hk3 hF⟩
        case measure => simp [intOf]; omega
      · gi_wp2
        refine bodyPost_ret (results_none rfl _ _ _) rfl ?_
        exact ⟨⟨_, rfl⟩, .inr ⟨_, trivial, hJx3⟩⟩
    · obtain rfl : k = n := by omega
      gi_wp2
      go_end0
      exact ⟨⟨_, rfl⟩, .inl ⟨_, hC, hJs⟩⟩

end Go.Proofs.Ytcmaehilgeonjaa
