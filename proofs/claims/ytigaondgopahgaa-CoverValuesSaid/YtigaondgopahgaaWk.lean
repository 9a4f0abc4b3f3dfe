/- cover: the laws' helpers: wild, Con, Infos. -/
import Derived.Test.YtigaondgopahgaaCl
namespace Go.Proofs.Ytigaondgopahgaa
open Go.RowKit Ty
set_option linter.unusedVariables false
set_option linter.unusedSimpArgs false
attribute [local go_sem] Oper.semAt_some
theorem At_blk {F : Nat → Prop} {w : World} {g : Nat} {cs : Array Value} {es : List Te} (h : Blk w g 40 cs) (hcs : ∀ (i : Nat) (v : Value), (flatE es)[i]? = some v → cs[i]? = some v) (hk : ∀ e ∈ es, e.in_ F w) (hF : F g) : Ty.At F w (some ⟨g, 0, none⟩) (es.map Te.t) := by
  refine .mk g 0 _ (fun r => (es[r]?.map Te.A).getD none) (fun r => (es[r]?.map Te.c).getD 0) hF h.lt (fun r t ht => ?_) fun r t ht => ?_
  · rw [List.getElem?_map] at ht
    cases he : es[r]? with
    | none => rw [he] at ht; cases ht
    | some e =>
      rw [he] at ht
      cases ht
      obtain ⟨_, k2, k3, k4⟩ := hk e (List.mem_of_getElem? he)
      refine ⟨fun j u hj => ?_, k2, k3, k4⟩
      rw [Nat.zero_add, h.cell]
      exact hcs _ _ (flatE_get he hj)
  · rw [List.getElem?_map] at ht
    cases he : es[r]? with
    | none => rw [he] at ht; cases ht
    | some e =>
      rw [he] at ht
      cases ht
      exact (hk e (List.mem_of_getElem? he)).1
set_option maxRecDepth 20000 in
set_option maxHeartbeats 2000000 in
theorem wild_any (w : World) : Calls Try.prog 18 #[] w fun e w' => e = .returned (.agg #[.int .u8 1, .string ⟨#[]⟩, .int .i64 0, .slice none 0 0]) ∧ Below w.heap.size w w' := by
  obtain ⟨w0, hw0⟩ : ∃ w0, w.alloc (.cells #[.int .u8 0, .string ⟨#[]⟩, .int .i64 0, .slice none 0 0] 40) = w0 := ⟨_, rfl⟩
  have hb0 : Below w.heap.size w w0 := by rw [← hw0]; exact (Below.refl _ _).alloc (Nat.le_refl _) _
  have hB0 : Blk w0 w.heap.size 40 #[.int .u8 0, .string ⟨#[]⟩, .int .i64 0, .slice none 0 0] := by rw [← hw0]; exact Blk.new _ _ _
  have r0 := hB0.cell 0
  have r1 := hB0.cell 1
  have r2 := hB0.cell 2
  have r3 := hB0.cell 3
  have rf := hB0.frozen
  simp only [List.getElem?_toArray, List.getElem?_cons_zero, List.getElem?_cons_succ] at r0 r1 r2 r3
  have HB := Lib.hid (And.intro hB0 hb0)
  have HW := Lib.hid hw0
  clear hb0 hB0 hw0
  go_enter Try.func18, Try.ntmps18
  go_upto_region 1 with fail
  (try rw [HW.out])
  clear HW
  go_wp2_with fail
  refine bodyPost_ret (results_cell_row rfl _ _ w.heap.size 40 _ (0, 0) _ rfl (HB.out.1.set4 (.int .u8 1) (.string ⟨#[]⟩) (.int .i64 0) (.slice none 0 0)) Try.underlying40 rfl (by kernel_rfl)) rfl ?_
  exact ⟨rfl, HB.out.2.trans (Off.below (off4 _ w.heap.size (.int .u8 1) (.string ⟨#[]⟩) (.int .i64 0) (.slice none 0 0)) HB.out.2.size (fun g e => by omega))⟩
set_option maxRecDepth 20000 in
set_option maxHeartbeats 2000000 in
theorem con_any (s : ByteArray) (A : Option Addr) (n c : Nat) (w : World) : Calls Try.prog 19 #[.string s, .slice A n c] w fun e w' => e = .returned (.agg #[.int .u8 6, .string s, .int .i64 0, .slice A n c]) ∧ Below w.heap.size w w' := by
  obtain ⟨w0, hw0⟩ : ∃ w0, w.alloc (.cells #[.int .u8 0, .string ⟨#[]⟩, .int .i64 0, .slice none 0 0] 40) = w0 := ⟨_, rfl⟩
  have hb0 : Below w.heap.size w w0 := by rw [← hw0]; exact (Below.refl _ _).alloc (Nat.le_refl _) _
  have hB0 : Blk w0 w.heap.size 40 #[.int .u8 0, .string ⟨#[]⟩, .int .i64 0, .slice none 0 0] := by rw [← hw0]; exact Blk.new _ _ _
  have r0 := hB0.cell 0
  have r1 := hB0.cell 1
  have r2 := hB0.cell 2
  have r3 := hB0.cell 3
  have rf := hB0.frozen
  simp only [List.getElem?_toArray, List.getElem?_cons_zero, List.getElem?_cons_succ] at r0 r1 r2 r3
  have HB := Lib.hid (And.intro hB0 hb0)
  have HW := Lib.hid hw0
  clear hb0 hB0 hw0
  go_enter Try.func19, Try.ntmps19
  go_upto_region 1 with fail
  (try rw [HW.out])
  clear HW
  go_wp2_with fail
  refine bodyPost_ret (results_cell_row rfl _ _ w.heap.size 40 _ (0, 0) _ rfl (HB.out.1.set4 (.int .u8 6) (.string s) (.int .i64 0) (.slice A n c)) Try.underlying40 rfl (by kernel_rfl)) rfl ?_
  exact ⟨rfl, HB.out.2.trans (Off.below (off4 _ w.heap.size (.int .u8 6) (.string s) (.int .i64 0) (.slice A n c)) HB.out.2.size (fun g e => by omega))⟩
/-- The infos that the laws speak of. -/
def infosX : List InfX := [
  ⟨⟨[102, 97, 108, 115, 101], [98, 111, 111, 108], false⟩, 0, 2⟩, ⟨⟨[116, 114, 117, 101], [98, 111, 111, 108], false⟩, 1, 2⟩,
  ⟨⟨[78, 111, 110, 101], [111, 112, 116, 105, 111, 110], false⟩, 0, 2⟩, ⟨⟨[83, 111, 109, 101], [111, 112, 116, 105, 111, 110], true⟩, 1, 2⟩,
  ⟨⟨[78, 105, 108], [108, 105, 115, 116], false⟩, 0, 2⟩, ⟨⟨[67, 111, 110, 115], [108, 105, 115, 116], true⟩, 1, 2⟩,
  ⟨⟨[69], [101, 120, 110], false⟩, 3, 5⟩, ⟨⟨[70], [101, 120, 110], false⟩, 4, 5⟩]
def infosL : List Inf := infosX.map InfX.i
def flatI (xs : List InfX) : List Value := xs.flatMap InfX.cells
theorem IAt_blk {w : World} {g : Nat} {xs : List InfX} (h : Blk w g 30 (flatI xs).toArray) (hl : ∀ x ∈ xs, x.i.nm.length ≤ maxLen ∧ x.i.of.length ≤ maxLen) (hm : xs.length ≤ maxLen) {n : Nat} (hn : xs.length = n) : IAt Everywhere w (some ⟨g, 0, none⟩) n n xs := by
  refine ⟨hn, Nat.le_refl _, by omega, fun r x hx => ⟨g, 0, rfl, trivial, h.lt, fun j v hj => ?_, hl x (List.mem_of_getElem? hx)⟩⟩
  have key : ∀ (ys : List InfX) (r : Nat), ys[r]? = some x → (flatI ys)[r * 5 + j]? = some v := by
    have hj5 : j < 5 := (List.getElem?_eq_some_iff.1 hj).1
    intro ys
    induction ys with
    | nil => intro r hr; simp at hr
    | cons y ys ih =>
      intro r hr
      have e : flatI (y :: ys) = y.cells ++ flatI ys := rfl
      have hl : y.cells.length = 5 := rfl
      cases r with
      | zero =>
        simp at hr
        subst hr
        rw [e, Nat.zero_mul, Nat.zero_add, List.getElem?_append_left (by rw [hl]; exact hj5)]
        exact hj
      | succ r =>
        rw [e, List.getElem?_append_right (by rw [hl]; omega), hl, show (r + 1) * 5 + j - 5 = r * 5 + j by omega]
        exact ih r (by simpa using hr)
  rw [Nat.zero_add, h.cell, List.getElem?_toArray]
  exact key xs r hx
set_option maxRecDepth 20000 in
set_option maxHeartbeats 4000000 in
theorem infos_any (w : World) : Calls Try.prog 16 #[] w fun e w' => e = .returned (.slice (some ⟨w.heap.size, 0, none⟩) 8 8) ∧ IAt Everywhere w' (some ⟨w.heap.size, 0, none⟩) 8 8 infosX ∧ Below w.heap.size w w' := by
  obtain ⟨w0, hw0⟩ : ∃ w0, w.alloc (.cells (flatI infosX).toArray 30) = w0 := ⟨_, rfl⟩
  have hb0 : Below w.heap.size w w0 := by rw [← hw0]; exact (Below.refl _ _).alloc (Nat.le_refl _) _
  have hB0 : Blk w0 w.heap.size 30 (flatI infosX).toArray := by rw [← hw0]; exact Blk.new _ _ _
  have HB : Hid (IAt Everywhere w0 (some ⟨w.heap.size, 0, none⟩) 8 8 infosX ∧ Below w.heap.size w w0) := Lib.hid ⟨IAt_blk hB0 (by decide) (by decide) rfl, hb0⟩
  have HW := Lib.hid hw0
  clear hb0 hB0 hw0
  go_enter Try.func16, Try.ntmps16
  go_wp2_with fail
  go_ret
  refine ⟨rfl, ?_, ?_⟩
  · change IAt Everywhere (w.alloc (.cells (flatI infosX).toArray 30)) _ _ _ _
    rw [HW.out]; exact HB.out.1
  · change Below w.heap.size w (w.alloc (.cells (flatI infosX).toArray 30))
    rw [HW.out]; exact HB.out.2
def pT : Ty := .node 6 [116, 114, 117, 101] 0 []
def pF : Ty := .node 6 [102, 97, 108, 115, 101] 0 []
theorem told_w1 : told infosL [pT, pF] true = 0 := by decide +kernel
theorem told_w2 : told infosL [pT] true = 4 := by decide +kernel
theorem told_w3 : told infosL [any, pT] false = 4 := by decide +kernel
def tE (t : Ty) : Te := ⟨t, none, 0⟩
theorem tE_in {F : Nat → Prop} {w : World} {t : Ty} (hk : t.ks = []) (hok : t.ok) : (tE t).in_ F w := ⟨by show Ty.At F w none t.ks; rw [hk]; exact .nil _, hok, by show t.ks.length ≤ 0; rw [hk]; exact Nat.le_refl _, Nat.zero_le _⟩
theorem ok_T : pT.ok := ⟨by decide, by decide, by decide⟩
theorem ok_F : pF.ok := ⟨by decide, by decide, by decide⟩
theorem ok_any : any.ok := ⟨by decide, by decide, by decide⟩
/-- The two patterns of the anchor. -/
structure Wk2 (w : World) (g : Nat) : Prop where
  blk : Blk w g 40 #[.int .u8 6, .string ⟨#[116, 114, 117, 101]⟩, .int .i64 0, .slice none 0 0, .int .u8 6, .string ⟨#[102, 97, 108, 115, 101]⟩, .int .i64 0, .slice none 0 0]
theorem Wk2.two {w : World} {g : Nat} (h : Wk2 w g) : PAt Everywhere w (some ⟨g, 0, none⟩) 2 2 [pT, pF] := ⟨rfl, Nat.le_refl _, by decide, At_blk (es := [tE pT, tE pF]) h.blk (fun i v hv => by rw [List.getElem?_toArray]; exact hv) (fun e he => by
  rcases List.mem_cons.1 he with rfl | he
  · exact tE_in rfl ok_T
  · rw [List.mem_singleton.1 he]; exact tE_in rfl ok_F) trivial⟩
theorem Wk2.one {w : World} {g : Nat} (h : Wk2 w g) : PAt Everywhere w (some ⟨g, 0, none⟩) 1 2 [pT] := ⟨rfl, by decide, by decide, At_blk (es := [tE pT]) h.blk (fun i v hv => by
  have h4 : i < 4 := (List.getElem?_eq_some_iff.1 hv).1
  match i, h4 with
  | 0, _ => exact hv
  | 1, _ => exact hv
  | 2, _ => exact hv
  | 3, _ => exact hv) (fun e he => by rw [List.mem_singleton.1 he]; exact tE_in rfl ok_T) trivial⟩
theorem wk3 {w : World} {g : Nat} (h : Blk w g 40 #[.int .u8 1, .string ⟨#[]⟩, .int .i64 0, .slice none 0 0, .int .u8 6, .string ⟨#[116, 114, 117, 101]⟩, .int .i64 0, .slice none 0 0]) : PAt Everywhere w (some ⟨g, 0, none⟩) 2 2 [any, pT] := ⟨rfl, Nat.le_refl _, by decide, At_blk (es := [tE any, tE pT]) h (fun i v hv => by rw [List.getElem?_toArray]; exact hv) (fun e he => by
  rcases List.mem_cons.1 he with rfl | he
  · exact tE_in rfl ok_any
  · rw [List.mem_singleton.1 he]; exact tE_in rfl ok_T) trivial⟩
/-- Check, with the laws' infos. -/
theorem checkI (ps : List Ty) (A : Option Addr) (n c : Nat) (B : Option Addr) (whole : Bool) (k : Nat) (e0 : Int) (w : World) (hP : PAt Everywhere w A n c ps) (hI : IAt Everywhere w B 8 8 infosX) (ht : told infosL ps whole = k) (he : errOf k = e0) :
    Calls Try.prog 11 #[.slice A n c, .slice B 8 8, .bool whole] w fun e w' => e = .returned (.int .i64 e0) ∧ Below w.heap.size w w' :=
  (check_any (F := Everywhere) ps A n c infosX B 8 8 whole w hP hI (by decide)).mono fun e w' h => ⟨by rw [h.1, ← he, ← ht]; rfl, h.2⟩
end Go.Proofs.Ytigaondgopahgaa
