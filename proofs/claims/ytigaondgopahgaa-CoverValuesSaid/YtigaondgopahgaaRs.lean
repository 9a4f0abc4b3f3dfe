/- cover: rest. -/
import Derived.Test.YtigaondgopahgaaHs
namespace Go.Proofs.Ytigaondgopahgaa
open Go.RowKit
set_option linter.unusedVariables false
set_option linter.unusedSimpArgs false
attribute [local go_sem] Oper.semAt_some
/-- Any block. -/
abbrev Everywhere : Nat → Prop := fun _ => True
/-- A row of patterns in memory, as a slice's address, length and room. -/
structure PAt (F : Nat → Prop) (w : World) (A : Option Addr) (n c : Nat) (ps : List Ty) : Prop where
  len : ps.length = n
  le : n ≤ c
  cap : c ≤ maxLen
  at_ : Ty.At F w A ps
theorem PAt.bel {F : Nat → Prop} {w w' : World} {A : Option Addr} {n c : Nat} {ps : List Ty} (h : PAt F w A n c ps) (hb : Below w.heap.size w w') : PAt F w' A n c ps := ⟨h.len, h.le, h.cap, h.at_.bel hb⟩
/-- All but the first. -/
theorem PAt.mono {F G : Nat → Prop} {w : World} {A : Option Addr} {n c : Nat} {ps : List Ty} (h : PAt F w A n c ps) (hF : ∀ b, F b → G b) : PAt G w A n c ps := ⟨h.len, h.le, h.cap, h.at_.mono hF⟩
/-- All but the first. -/
theorem PAt.tail {F : Nat → Prop} {w : World} {b off n c : Nat} {p : Ty} {ps : List Ty} (h : PAt F w (some ⟨b, off, none⟩) n c (p :: ps)) (hc : c ≠ 1) : PAt F w (some ⟨b, off + 4, none⟩) (n - 1) (c - 1) ps := by
  refine ⟨by have := h.len; simp at this; omega, by have := h.le; omega, by have := h.cap; omega, ?_⟩
  cases h.at_ with
  | mk b off ts Af cf hF hlt hc hk =>
    refine .mk b (off + 4) ps (fun r => Af (r + 1)) (fun r => cf (r + 1)) hF hlt (fun r t ht => ?_) fun r t ht => hk (r + 1) t (by simpa using ht)
    obtain ⟨h1, h2⟩ := hc (r + 1) t (by simpa using ht)
    refine ⟨fun j v hj => ?_, h2⟩
    rw [show off + 4 + r * 4 + j = off + (r + 1) * 4 + j by omega]
    exact h1 j v hj
set_option maxRecDepth 20000 in
set_option maxHeartbeats 8000000 in
theorem rest_any {F : Nat → Prop} (p : Ty) (ps : List Ty) (A : Option Addr) (n c : Nat) (w : World) (hA : PAt F w A n c (p :: ps)) :
    Calls Try.prog 32 #[.slice A n c] w fun e w' => ∃ A' c', e = .returned (.tuple #[.slice A' (n - 1) c', .bool p.wild]) ∧ PAt F w' A' (n - 1) c' ps ∧ Below w.heap.size w w' := by
  obtain ⟨b, off, A', c', rfl, _, hbl, z0, z1, z2, z3, hok, hlc, hcm, hAt⟩ := hA.at_.get (r := 0) (t := p) rfl
  simp only [Nat.zero_mul, Nat.add_zero] at z0 z1 z2 z3
  obtain ⟨tl, htl⟩ : ∃ tl, p.ks.length = tl := ⟨_, rfl⟩
  rw [htl] at z3
  have hc1 := hA.le
  have hn1 : 1 ≤ n := by have := hA.len; simp at this; omega
  have hc2 := hA.cap
  unfold maxLen at hc2
  have HX : Hid (∀ W, Below w.heap.size w W → W.cell? ⟨b, off, none⟩ = some (.int .u8 (p.k : Int)) ∧ W.cell? ⟨b, off + 1, none⟩ = some (.string (str p.nm)) ∧ W.cell? ⟨b, off + 2, none⟩ = some (.int .i64 p.n) ∧ W.cell? ⟨b, off + 3, none⟩ = some (.slice A' tl c')) := Lib.hid fun W hW => ⟨(hW.cell (p := ⟨b, _, none⟩) hbl).trans z0, (hW.cell (p := ⟨b, _, none⟩) hbl).trans z1, (hW.cell (p := ⟨b, _, none⟩) hbl).trans z2, (hW.cell (p := ⟨b, _, none⟩) hbl).trans z3⟩
  have HC := isWild_any p A' c' w.drew
  unfold Ty.val at HC
  rw [htl] at HC
  replace HC := Lib.hid HC
  clear hok hlc hcm hAt htl hbl z0 z1 z2 z3
  by_cases hc : c = 1
  · obtain rfl : n = 1 := by omega
    have hnil : ps = [] := List.eq_nil_of_length_eq_zero (by have := hA.len; simpa using this)
    subst hc
    have HT : Hid (∀ W (B : Option Addr), PAt F W B 0 0 ps) := Lib.hid fun W B => by
      subst hnil
      exact ⟨rfl, Nat.le_refl _, Nat.zero_le _, .nil _⟩
    clear hA hnil hc1 hc2 hn1
    go_enter Try.func32, Try.ntmps32
    go_wp2_with fail
    go_region_held3 (fun W => W.cell? ⟨b, off, none⟩ = some (.int .u8 (p.k : Int)) ∧ W.cell? ⟨b, off + 1, none⟩ = some (.string (str p.nm)) ∧ W.cell? ⟨b, off + 2, none⟩ = some (.int .i64 p.n) ∧ W.cell? ⟨b, off + 3, none⟩ = some (.slice A' tl c'))
      (first | exact HX.out _ (Below.refl _ w).drew | exact HX.out _ hw7)
      (first | (go_at_call 25; refine Calls.mono HC.out ?_; rintro e w7 ⟨rfl, hb7⟩; have hw7 : Below w.heap.size w w7 := (Below.refl _ w).drew.trans hb7))
    all_goals
      have HW := Lib.hid hw7
      clear hb7 hw7
      go_wp2_with fail
      go_ret2
      exact ⟨_, _, rfl, HT.out _ _, HW.out⟩
  · have HT := Lib.hid (hA.tail hc)
    have hd1 : (1 : Int) ≤ (n : Int) := by omega
    have hd2 : (n : Int) ≤ (c : Int) := by omega
    have hd3 : 0 < n := by omega
    clear hA
    go_enter Try.func32, Try.ntmps32
    go_wp2_with fail
    go_region_held3 (fun W => W.cell? ⟨b, off, none⟩ = some (.int .u8 (p.k : Int)) ∧ W.cell? ⟨b, off + 1, none⟩ = some (.string (str p.nm)) ∧ W.cell? ⟨b, off + 2, none⟩ = some (.int .i64 p.n) ∧ W.cell? ⟨b, off + 3, none⟩ = some (.slice A' tl c'))
      (first | exact HX.out _ (Below.refl _ w).drew | exact HX.out _ hw7)
      (first | (go_at_call 25; refine Calls.mono HC.out ?_; rintro e w7 ⟨rfl, hb7⟩; have hw7 : Below w.heap.size w w7 := (Below.refl _ w).drew.trans hb7))
    all_goals
      have HW := Lib.hid hw7
      clear hb7 hw7
      go_wp2_with fail
      go_ret2
      exact ⟨_, _, rfl, HT.out.bel HW.out, HW.out⟩
end Go.Proofs.Ytigaondgopahgaa
