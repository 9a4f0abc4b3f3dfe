/- Objects that came in; large. -/
import Derived.Test.YtobfglnopihibaaX
import Derived.OpenShut
import Derived.Deep.Slices
import Derived.Deep.Fields
import Derived.Lib.SmallJoins
import Derived.ChangeSlices
import Derived.ShutString
namespace Go.Proofs.Ytobfglnopihibaa
open Go.RowKit Go.ChangeShapes Go.WideShapes Rcd

instance : Inhabited Wd := ⟨⟨0, 0⟩⟩
theorem add_none {b off : Nat} (i : Nat) : (⟨b, off, none⟩ : Addr).add i = ⟨b, off + i, none⟩ := by unfold Addr.add; split <;> simp_all

section
variable {H : Type} {enc : TypeId × Value → H} {W : World} {n : Nat}
theorem word_in {v0 v1 : Value} {y0 y1 : DataW H × List MemPlace} (h0 : DataW.trod enc Try.prog W 0 (fun _ => true) true n 5 [v0] = some y0) (h1 : DataW.trod enc Try.prog W 0 (fun _ => true) true n 2 [v1] = some y1) :
    ∃ z : Wd, v0 = bv z.k ∧ v1 = .int .i64 z.n ∧ -9223372036854775808 ≤ z.n ∧ z.n < 9223372036854775808 := by
  obtain ⟨s0, e0, _, f0⟩ := DataW.trod_int Try.underlying5 h0
  obtain ⟨s1, e1, _, f1⟩ := DataW.trod_int Try.underlying2 h1
  simp at e0 e1
  obtain ⟨u, rfl, hu⟩ := wf_u8n f0
  have hb : bv (UInt8.ofNat u) = .int .u8 (u : Int) := by unfold bv; rw [UInt8.toNat_ofNat', Nat.mod_eq_of_lt (by omega)]
  exact ⟨⟨UInt8.ofNat u, s1⟩, by rw [hb, e0], e1, wf_i64 f1⟩
/-- A slice of words among what came in. -/
theorem words_in {v : Value} {y : DataW H × List MemPlace} (h : DataW.trod enc Try.prog W 0 (fun _ => true) true n 22 [v] = some y) : ∃ A len cap ws, v = .slice A len cap ∧ ws.length = len ∧ len ≤ cap ∧ cap ≤ maxLen ∧ Words W A ws := by
  rcases Deep.open_slice Try.underlying22 h with ⟨hcs, _⟩ | ⟨x, l, c, m, n, D, Pl, hcs, _, hl, hm, hmm, _, hr⟩
  · simp at hcs
    exact ⟨none, 0, 0, [], hcs, rfl, Nat.le_refl _, Nat.zero_le _, fun r bs h => by simp at h⟩
  · simp at hcs
    subst hcs
    simp only [if_true] at hmm
    subst hmm
    have hC : Try.prog.cellsOf 44 = 2 := by kernel_rfl
    have each : ∀ r, r < m → ∃ z : Wd, W.cell? (x.add (r * 2)) = some (bv z.k) ∧ W.cell? (x.add (r * 2 + 1)) = some (.int .i64 z.n) ∧ -9223372036854775808 ≤ z.n ∧ z.n < 9223372036854775808 := by
      intro r hrm
      obtain ⟨cs', hc, ht⟩ := hr r hrm
      rw [hC] at hc
      obtain ⟨_, hlen, hat⟩ := World.cells?_some hc
      obtain ⟨c0, c1, rfl⟩ : ∃ c0 c1, cs' = [c0, c1] := by
        match cs', hlen with
        | [c0, c1], _ => exact ⟨c0, c1, rfl⟩
      obtain ⟨ys, n', _, _, _, hyl, hfl⟩ := DataW.trod_struct Try.underlying44 ht
      have ya : ∀ j, j < 2 → ∃ y, ys[j]? = some y := fun j hj => ⟨_, List.getElem?_eq_getElem (by rw [hyl]; exact hj)⟩
      obtain ⟨y0, hy0⟩ := ya 0 (by decide)
      obtain ⟨y1, hy1⟩ := ya 1 (by decide)
      obtain ⟨z, e0, e1, hz⟩ := word_in ((hfl 0 _ rfl).trans hy0) ((hfl 1 _ rfl).trans hy1)
      have q : ∀ j, j < 2 → W.cell? (x.add (r * 2 + j)) = [c0, c1][j]? := fun j hj => by
        have := hat j hj
        rw [Deep.add_add] at this
        exact this
      exact ⟨z, by rw [← e0]; exact q 0 (by decide), by rw [← e1]; exact q 1 (by decide), hz⟩
    obtain ⟨F, hF⟩ := Deep.choose_lt each
    refine ⟨some x, l, m, (List.range l).map F, rfl, by simp, hl, hm, fun r z hz => ?_⟩
    rw [List.getElem?_map] at hz
    have hrl : r < l := by
      rcases Nat.lt_or_ge r l with h | h
      · exact h
      · rw [List.getElem?_eq_none (by simp; omega)] at hz; cases hz
    rw [List.getElem?_range hrl] at hz
    simp only [Option.map_some, Option.some.injEq] at hz
    obtain ⟨k0, k1, hs⟩ := hF r (by omega)
    obtain ⟨z0, _⟩ := hF 0 (by omega)
    obtain ⟨b, off, spot⟩ := x
    have hspot : spot = none := by simpa [Addr.add] using World.cell?_spot z0
    subst hspot
    rw [add_none] at k0 k1
    rw [hz] at k0 k1 hs
    exact ⟨b, off, rfl, World.block_lt_of_cell? W _ k0, k0, by rw [Nat.add_assoc]; exact k1, hs⟩
end

/-- An object that came in. -/
structure OArg (w : World) (k : UInt8) (tag : Int) (A : Option Addr) (n c : Nat) (t : List UInt8) (ws : List Wd) : Prop where
  len : ws.length = n
  cap : n ≤ c
  max : c ≤ maxLen
  words : Words w A ws
  tag_ : -9223372036854775808 ≤ tag ∧ tag < 9223372036854775808
def OpenedO (w : World) (v : Value) : Prop := ∃ k tag A n c t ws, v = .agg #[bv k, .int .i64 tag, .slice A n c, .string (str t)] ∧ OArg w k tag A n c t ws

/-- The zero object, as a value. -/
abbrev zeroOb : Value := .agg #[.int .u8 0, .int .i64 0, .slice none 0 0, .string ⟨#[]⟩]
theorem str_of (s : ByteArray) : str s.data.toList = s := by
  unfold str
  simp
theorem openedO {H : Type} {enc : TypeId × Value → H} {W : World} {v : Value} {d : DataW H} {p : List MemPlace} (hok : Value.okWide Try.prog W .any 0 24 v)
    (h : DataW.Trod enc Try.prog W 0 (fun _ => true) true 24 v d p) : OpenedO W v := by
  obtain ⟨v0, v1, v2, v3, y0, y1, y2, y3, n, rfl, _, _, h0, h1, h2, h3⟩ := Joins.open_agg4 Try.underlying24 (by kernel_rfl) (by kernel_rfl) hok h
  obtain ⟨s0, e0, _, f0⟩ := DataW.trod_int Try.underlying5 h0
  obtain ⟨s1, e1, _, f1⟩ := DataW.trod_int Try.underlying3 h1
  obtain ⟨A, l, c, ws, rfl, q1, q2, q3, q4⟩ := words_in h2
  obtain ⟨s, e3, _⟩ := DataW.trod_string Try.underlying9 h3
  simp at e0 e1 e3
  obtain ⟨u, rfl, hu⟩ := wf_u8n f0
  have hb : bv (UInt8.ofNat u) = .int .u8 (u : Int) := by unfold bv; rw [UInt8.toNat_ofNat', Nat.mod_eq_of_lt (by omega)]
  exact ⟨UInt8.ofNat u, s1, A, l, c, s.data.toList, ws, by rw [hb, str_of, e0, e1, e3], q1, q2, q3, q4, wf_i64 f1⟩

set_option maxHeartbeats 1000000 in
theorem large_any (k : UInt8) (tag : Int) (A : Option Addr) (n c : Nat) (t : List UInt8) (w : World) (tl : Nat) (htl : t.length = tl) :
    Calls Try.prog 9 #[.agg #[bv k, .int .i64 tag, .slice A n c, .string (str t)]] w fun e w' => e = .returned (.bool (decide (2048 < n) || decide (32768 < tl))) ∧ Below w.heap.size w w' := by
  have hts : (str t).size = tl := by rw [str_size]; exact htl
  obtain ⟨w0, hw0⟩ : ∃ w0, w.alloc (.cells #[bv k, .int .i64 tag, .slice A n c, .string (str t)] 24) = w0 := ⟨_, rfl⟩
  have hB0 : Blk w0 w.heap.size 24 #[bv k, .int .i64 tag, .slice A n c, .string (str t)] := by rw [← hw0]; exact Blk.new _ _ _
  have HB : Hid (Below w.heap.size w w0) := Lib.hid (by rw [← hw0]; exact (Below.refl _ _).alloc (Nat.le_refl _) _)
  have c2 : w0.cell? ⟨w.heap.size, 2, none⟩ = some (.slice A n c) := hB0.cell 2
  have c3 : w0.cell? ⟨w.heap.size, 3, none⟩ = some (.string (str t)) := hB0.cell 3
  obtain ⟨b1, hb1⟩ : ∃ b, decide ((2048 : Int) < (n : Int)) = b := ⟨_, rfl⟩
  obtain ⟨b2, hb2⟩ : ∃ b, decide ((32768 : Int) < (tl : Int)) = b := ⟨_, rfl⟩
  have hr : (decide (2048 < n) || decide (32768 < tl)) = (b1 || b2) := by
    rw [← hb1, ← hb2, Bool.eq_iff_iff]
    simp
    omega
  rw [hr]
  clear hB0 htl hr
  cases b1 <;> cases b2
  all_goals
    go_enter Try.func9, Try.ntmps9
    go_wp2_with fail
    go_ret
    exact ⟨rfl, HB.out⟩
end Go.Proofs.Ytobfglnopihibaa
