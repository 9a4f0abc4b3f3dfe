/- stamp, numbers too: works. -/
import Derived.Test.YtadogebhkldeiaaGreatDoorZH
namespace Go.Proofs.YtadogebhkldeiaaGreatDoor
open Go.RowKit Ty
set_option linter.unusedVariables false
set_option linter.unusedSimpArgs false
attribute [local go_sem] Oper.semAt_some
def tyInt : Ty := .node 2 [105, 110, 116] 0 []
def tyLI : Ty := .node 2 [108, 105, 115, 116] 0 [tyInt]
def tyExn : Ty := .node 2 [101, 120, 110] 0 []
theorem ok_Int : tyInt.ok := ⟨by decide, by decide, by decide⟩
def dsL (vA cA : Option Addr) : List Dc := [listDc vA cA]
def txL : List UInt8 := [105, 110, 116, 32, 108, 105, 115, 116, 59, 32, 100, 97, 116, 97, 116, 121, 112, 101, 32, 39, 97, 32, 108, 105, 115, 116, 32, 61, 32, 78, 105, 108, 32, 124, 32, 67, 111, 110, 115, 32, 111, 102, 32, 39, 97, 32, 42, 32, 39, 97, 32, 108, 105, 115, 116]
theorem res_LI (vA cA : Option Addr) : resT (bookD (dsL vA cA)) 1 tyLI = some txL := by rfl
theorem res_exn : resT (bookD []) 0 tyExn = none := by rfl
theorem dec_L (vA cA : Option Addr) : (decT (listDc vA cA)).length < 4294967295 := by
  show (decT (listDc none none)).length < 4294967295
  decide +kernel
theorem dok_L (vA cA : Option Addr) (D : List UInt8 → Option Dc) : Dok D (listDc vA cA) where
  k1 := rfl
  vs := by show 1 ≤ 2000000; decide
  cs := by show 2 ≤ 1000000; decide
  ty := fun c hc hh => by
    have hc : c ∈ ([⟨[78, 105, 108], false, tyN⟩, ⟨[67, 111, 110, 115], true, tyC⟩] : List Cn) := hc
    rcases List.mem_cons.1 hc with rfl | hc
    · cases hh
    · rw [List.mem_singleton.1 hc]
      exact ⟨by decide +kernel, by decide +kernel⟩
  pr := fun c hc hh _ => by
    have hc : c ∈ ([⟨[78, 105, 108], false, tyN⟩, ⟨[67, 111, 110, 115], true, tyC⟩] : List Cn) := hc
    rcases List.mem_cons.1 hc with rfl | hc
    · cases hh
    · rw [List.mem_singleton.1 hc]
      show pr tyC = true
      decide +kernel
  tx := dec_L vA cA
theorem DsAt.one {w : World} {g : Nat} {d : Dc} {cs : Array Value} (h : Blk w g 42 cs) (hcs : cs = d.cells.toArray) (hK : d.K (fun k => k < w.heap.size) w) (hn : d.nm.length ≤ maxLen) : DsAt (fun k => k < w.heap.size) w (some ⟨g, 0, none⟩) [d] := fun r e he => by
  match r, he with
  | 0, he =>
    cases he
    refine ⟨g, 0, rfl, h.lt, h.lt, fun j v hj => ?_, hK, hn⟩
    have e1 : 0 + 0 * 16 + j = j := by omega
    rw [e1, h.cell, hcs, List.getElem?_toArray]
    exact hj
theorem textL (vA cA : Option Addr) (g gt : Nat) (c dc : Nat) (e0 : Addr) (w : World) (herr : w.cell? ⟨0, 0, none⟩ = some (errv e0)) (hnm : NumK w.heap.size w) (hK : DsAt (fun k => k < w.heap.size) w (some ⟨g, 0, none⟩) (dsL vA cA)) (hT : Blk w gt 24 #[.int .u8 2, .string ⟨#[105, 110, 116]⟩, .int .i64 0, .slice none 0 0]) :
    Calls Tryz.prog 6 #[.agg #[.int .u8 2, .string ⟨#[108, 105, 115, 116]⟩, .int .i64 0, .slice (some ⟨gt, 0, none⟩) 1 c], .slice (some ⟨g, 0, none⟩) 1 dc] w fun e w' => e = .returned (.tuple #[.string (str txL), .int .i64 0]) ∧ Below w.heap.size w w' := by
  have hA : Ty.At (fun k => k < w.heap.size) w (some ⟨gt, 0, none⟩) [tyInt] := At_blk (es := [⟨tyInt, none, 0⟩]) hT (fun i v hv => by rw [List.getElem?_toArray]; exact hv) (fun e he => by rw [List.mem_singleton.1 he]; exact ⟨.nil _, ok_Int, Nat.le_refl _, Nat.zero_le _⟩) hT.lt
  have h := Text_any (dsL vA cA) (some ⟨g, 0, none⟩) 1 dc rfl (by decide) (fun d hd _ => by rw [List.mem_singleton.1 hd]; exact dok_L vA cA _) tyLI (some ⟨gt, 0, none⟩) c (by decide) (by decide +kernel) (by decide +kernel) (fun _ => by decide +kernel) (by decide +kernel) e0 w herr hnm hK hA
  rw [res_LI] at h
  exact h
theorem textE (e0 : Addr) (w : World) (herr : w.cell? ⟨0, 0, none⟩ = some (errv e0)) (hnm : NumK w.heap.size w) :
    Calls Tryz.prog 6 #[.agg #[.int .u8 2, .string ⟨#[101, 120, 110]⟩, .int .i64 0, .slice none 0 0], .slice none 0 0] w fun e w' => e = .returned (.tuple #[.string ⟨#[]⟩, .int .i64 13]) ∧ Below w.heap.size w w' := by
  have h := Text_any [] none 0 0 rfl (by decide) (fun d hd => by cases hd) tyExn none 0 (by decide) (by decide +kernel) (by decide +kernel) (fun h => by cases h) (by decide +kernel) e0 w herr hnm (fun r d hd => by simp at hd) (.nil _)
  rw [res_exn] at h
  exact h
set_option maxRecDepth 100000 in
set_option maxHeartbeats 8000000 in
theorem works_any (e0 : Addr) (w : World) (herr : w.cell? ⟨0, 0, none⟩ = some (errv e0)) (hnm : NumK w.heap.size w) : Calls Tryz.prog 5 #[] w fun e w' => e = .returned (.bool true) ∧ Below w.heap.size w w' := by
  obtain ⟨tx, htx⟩ : ∃ tx, txL = tx := ⟨_, rfl⟩
  have hq : ((str tx).toList == [105, 110, 116, 32, 108, 105, 115, 116, 59, 32, 100, 97, 116, 97, 116, 121, 112, 101, 32, 39, 97, 32, 108, 105, 115, 116, 32, 61, 32, 78, 105, 108, 32, 124, 32, 67, 111, 110, 115, 32, 111, 102, 32, 39, 97, 32, 42, 32, 39, 97, 32, 108, 105, 115, 116]) = true := by rw [str_toList, ← htx]; decide +kernel
  have HTX := Lib.hid htx
  have HE := Lib.hid herr
  have HNM := Lib.hid hnm
  have HC := Lib.hid (named_any ⟨#[105, 110, 116]⟩ none 0 0 w)
  clear herr hnm htx
  go_enter Tryz.func5, Tryz.ntmps5
  go_wp2_with fail
  refine HC.out.mono ?_
  rintro e w1 ⟨rfl, hb1⟩
  obtain ⟨w2, hw2⟩ : ∃ W, w1.alloc (.cells #[.int .u8 2, .string ⟨#[105, 110, 116]⟩, .int .i64 0, .slice none 0 0] 24) = W := ⟨_, rfl⟩
  have hb2 : Below w1.heap.size w1 w2 := by rw [← hw2]; exact (Below.refl _ _).alloc (Nat.le_refl _) _
  have hB2 : Blk w2 w1.heap.size 24 #[.int .u8 2, .string ⟨#[105, 110, 116]⟩, .int .i64 0, .slice none 0 0] := by rw [← hw2]; exact Blk.new _ _ _
  obtain ⟨g1, hg1⟩ : ∃ g, w1.heap.size = g := ⟨_, rfl⟩
  rw [hg1] at hB2
  have HC2 := Lib.hid (named_any ⟨#[108, 105, 115, 116]⟩ (some ⟨g1, 0, none⟩) 1 1 w2)
  have h02 : Below w.heap.size w w2 := hb1.trans (hb2.mono hb1.size)
  have H2 := Lib.hid (And.intro hw2 (And.intro hg1 (And.intro hB2 h02)))
  clear HC hb1 hw2 hb2 hB2 hg1 h02
  go_wp2_with fail
  (try rw [H2.out.1])
  (try rw [H2.out.2.1])
  refine HC2.out.mono ?_
  rintro e w3 ⟨rfl, hb3⟩
  have HC3 := Lib.hid (list_any w3)
  have h03 : Below w.heap.size w w3 := H2.out.2.2.2.trans (hb3.mono H2.out.2.2.2.size)
  have hB3 := H2.out.2.2.1.below hb3 H2.out.2.2.1.lt
  have H3 := Lib.hid (And.intro hB3 h03)
  clear HC2 H2 hb3 h03 hB3
  go_wp2_with fail
  refine HC3.out.mono ?_
  rintro e w4 ⟨⟨vA, cA, rfl, hK⟩, hb4⟩
  have ev : (listDc vA cA).val = .agg #[.int .u8 1, .string ⟨#[108, 105, 115, 116]⟩, .slice vA 1 1, .slice cA 2 2, .slice none 0 0, .int .u8 0, .string ⟨#[]⟩, .int .i64 0, .slice none 0 0, .int .u8 0, .string ⟨#[]⟩, .int .i64 0, .string ⟨#[]⟩, .slice none 0 0, .slice none 0 0, .slice none 0 0] := rfl
  rw [ev]
  obtain ⟨w5, hw5⟩ : ∃ W, w4.alloc (.cells #[.int .u8 1, .string ⟨#[108, 105, 115, 116]⟩, .slice vA 1 1, .slice cA 2 2, .slice none 0 0, .int .u8 0, .string ⟨#[]⟩, .int .i64 0, .slice none 0 0, .int .u8 0, .string ⟨#[]⟩, .int .i64 0, .string ⟨#[]⟩, .slice none 0 0, .slice none 0 0, .slice none 0 0] 42) = W := ⟨_, rfl⟩
  have hb5 : Below w4.heap.size w4 w5 := by rw [← hw5]; exact (Below.refl _ _).alloc (Nat.le_refl _) _
  have hB5 : Blk w5 w4.heap.size 42 #[.int .u8 1, .string ⟨#[108, 105, 115, 116]⟩, .slice vA 1 1, .slice cA 2 2, .slice none 0 0, .int .u8 0, .string ⟨#[]⟩, .int .i64 0, .slice none 0 0, .int .u8 0, .string ⟨#[]⟩, .int .i64 0, .string ⟨#[]⟩, .slice none 0 0, .slice none 0 0, .slice none 0 0] := by rw [← hw5]; exact Blk.new _ _ _
  obtain ⟨g5, hg5⟩ : ∃ g, w4.heap.size = g := ⟨_, rfl⟩
  rw [hg5] at hB5
  have h35 : Below w3.heap.size w3 w5 := hb4.trans (hb5.mono hb4.size)
  have h05 : Below w.heap.size w w5 := H3.out.2.trans (h35.mono H3.out.2.size)
  have hDs : DsAt (fun k => k < w5.heap.size) w5 (some ⟨g5, 0, none⟩) (dsL vA cA) := DsAt.one hB5 rfl ((hK.off (Off.of_new hb5 (fun k => ¬ (k < w4.heap.size))) fun b h1 h2 => h2 h1).mono fun k h => Nat.lt_of_lt_of_le h hb5.size) (show 4 ≤ maxLen by decide)
  have herr5 := (h05.cell (World.block_lt_of_cell? _ _ HE.out)).trans HE.out
  have hTx := textL vA cA g5 g1 1 1 e0 w5 herr5 ((HNM.out.bel h05).up h05.size) hDs (H3.out.1.below h35 H3.out.1.lt)
  rw [HTX.out] at hTx
  have HT := Lib.hid hTx
  have H5 := Lib.hid (And.intro hw5 (And.intro hg5 h05))
  clear HC3 H3 hK hb4 hw5 hb5 hB5 hg5 h35 h05 hDs herr5 hTx ev
  go_wp2_with fail
  (try rw [H5.out.1])
  (try rw [H5.out.2.1])
  refine HT.out.mono ?_
  rintro e w6 ⟨rfl, hb6⟩
  have h06 : Below w.heap.size w w6 := H5.out.2.2.trans (hb6.mono H5.out.2.2.size)
  have HC6 := Lib.hid (named_any ⟨#[101, 120, 110]⟩ none 0 0 w6)
  have H6 := Lib.hid h06
  clear HT H5 hb6 h06
  go_wp2_with fail
  refine HC6.out.mono ?_
  rintro e w7 ⟨rfl, hb7⟩
  have h07 : Below w.heap.size w w7 := H6.out.trans (hb7.mono H6.out.size)
  have HT7 := Lib.hid (textE e0 w7 ((h07.cell (World.block_lt_of_cell? _ _ HE.out)).trans HE.out) ((HNM.out.bel h07).up h07.size))
  have H7 := Lib.hid h07
  clear HC6 H6 hb7 h07
  go_wp2_with fail
  refine HT7.out.mono ?_
  rintro e w8 ⟨rfl, hb8⟩
  have H8 : Hid (Below w.heap.size w w8) := Lib.hid (H7.out.trans (hb8.mono H7.out.size))
  clear HT7 H7 hb8
  go_wp2_with fail
  go_ret
  exact ⟨rfl, H8.out⟩
end Go.Proofs.YtadogebhkldeiaaGreatDoor
