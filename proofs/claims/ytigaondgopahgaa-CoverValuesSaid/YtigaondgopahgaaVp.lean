/- cover: patterns. -/
import Derived.Test.YtigaondgopahgaaVl
import Derived.Test.YtigaondgopahgaaMx
namespace Go.Proofs.Ytigaondgopahgaa
open Go.RowKit Ty
set_option linter.unusedVariables false
set_option linter.unusedSimpArgs false
attribute [local go_sem] Oper.semAt_some
theorem PAt_blk {F : Nat → Prop} {w : World} {g : Nat} {cs : Array Value} {es : List Te} {vs : List Ty} {n : Nat} (h : Blk w g 40 cs) (hcs : flatE es = cs.toList) (hk : ∀ e ∈ es, e.in_ F w) (hF : F g) (hv : es.map Te.t = vs) (hn : vs.length = n) (hm : n ≤ 100) : PAt F w (some ⟨g, 0, none⟩) n n vs := by
  refine ⟨hn, Nat.le_refl _, by unfold maxLen; omega, ?_⟩
  rw [← hv]
  exact At_blk h (fun i v hi => by rw [hcs] at hi; simpa using hi) hk hF
theorem ok_X : pX.ok := ⟨by decide, by decide, by decide⟩
theorem ok_N : pNone.ok := ⟨by decide, by decide, by decide⟩
theorem ok_E : pE.ok := ⟨by decide, by decide, by decide⟩
theorem ok_Fx : pFx.ok := ⟨by decide, by decide, by decide⟩
theorem ok_n (i : Int) (h : 0 ≤ i) (h2 : i ≤ 100) : (num i).ok := ⟨(show 3 < 256 by decide), ⟨by show (-9223372036854775808 : Int) ≤ i; omega, by show i < (9223372036854775808 : Int); omega⟩, (show 0 ≤ maxLen by decide)⟩
theorem pat_one {F : Nat → Prop} {w : World} {g : Nat} {p : Ty} (h : Blk w g 40 (tE p).cells.toArray) (hk : p.ks = []) (ho : p.ok) (hF : F g) : Te.in_ F w ⟨someT p, some ⟨g, 0, none⟩, 1⟩ :=
  ⟨(PAt_blk (F := F) (es := [tE p]) (vs := [p]) (n := 1) h (by unfold flatE; simp) (fun e he => by rw [List.mem_singleton.1 he]; exact tE_in hk ho) hF rfl rfl (by decide)).at_, ok_some p, Nat.le_refl _, (show 1 ≤ maxLen by decide)⟩
set_option maxRecDepth 100000 in
set_option maxHeartbeats 8000000 in
theorem patterns_bool (k : Nat) (hk : k < 256) (h4 : k % 4 = 0) (w : World) :
    Calls Try.prog 14 #[.int .u8 (k : Int)] w fun e w' => ∃ A, e = .returned (.slice A 5 5) ∧ PAt (fun b => w.heap.size ≤ b) w' A 5 5 (pats (soOf k)) ∧ Below w.heap.size w w' := by
  have hs : soOf k = .bool := by unfold soOf; rw [if_pos h4]
  rw [hs]
  have hr : ((k : Int) % 4) = ((0 : Nat) : Int) := by omega
  obtain ⟨w1, hw1⟩ : ∃ W, w.alloc (.cells #[.int .u8 2, .string ⟨#[120]⟩, .int .i64 0, .slice none 0 0] 40) = W := ⟨_, rfl⟩
  have hb1 : Below w.heap.size w w1 := by rw [← hw1]; exact (Below.refl _ _).alloc (Nat.le_refl _) _
  have hB1 : Blk w1 w.heap.size 40 #[.int .u8 2, .string ⟨#[120]⟩, .int .i64 0, .slice none 0 0] := by rw [← hw1]; exact Blk.new _ _ _
  obtain ⟨q, hq⟩ : ∃ q, w.heap.size = q := ⟨_, rfl⟩
  rw [hq] at hB1
  have HX : Hid (∀ W, Below w1.heap.size w1 W → W.cell? ⟨q, 0, none⟩ = some (.int .u8 2) ∧ W.cell? ⟨q, 1, none⟩ = some (.string ⟨#[120]⟩) ∧ W.cell? ⟨q, 2, none⟩ = some (.int .i64 0) ∧ W.cell? ⟨q, 3, none⟩ = some (.slice none 0 0)) := Lib.hid fun W hW => by
    have := hB1.below hW hB1.lt
    exact ⟨this.cell 0, this.cell 1, this.cell 2, this.cell 3⟩
  have HB := Lib.hid hb1
  have HW := Lib.hid (And.intro hw1 hq)
  clear hb1 hB1 hw1 hq h4 hs
  go_enter Try.func14, Try.ntmps14
  go_upto_region 2 with fail
  (try rw [HW.out.1])
  (try rw [HW.out.2])
  go_upto_region 4 with fail
  go_region_held3 (fun W => W.cell? ⟨q, 0, none⟩ = some (.int .u8 2) ∧ W.cell? ⟨q, 1, none⟩ = some (.string ⟨#[120]⟩) ∧ W.cell? ⟨q, 2, none⟩ = some (.int .i64 0) ∧ W.cell? ⟨q, 3, none⟩ = some (.slice none 0 0))
    (first | exact HX.out _ (Below.refl _ w1).drew | exact HX.out _ (hc4.alloc hc4.size _) | exact HX.out _ hc4 | exact HX.out _ hc3 | exact HX.out _ hc2 | exact HX.out _ hc1)
    (first
      | (go_at_call 18; (fail_if_success (have _z := hc1)); refine Calls.mono (wild_any w1.drew) ?_; rintro e u1 ⟨rfl, hb1⟩; have hc1 : Below w1.heap.size w1 u1 := (Below.refl _ w1).drew.trans hb1)
      | (go_at_call 19; (fail_if_success (have _z := hc2)); (fail_if_success (fail_if_success (have _z := hc1))); refine Calls.mono (con_any ⟨#[102, 97, 108, 115, 101]⟩ none 0 0 u1) ?_; rintro e u2 ⟨rfl, hb2⟩; have hc2 : Below w1.heap.size w1 u2 := hc1.trans (hb2.mono hc1.size))
      | (go_at_call 19; (fail_if_success (have _z := hc3)); (fail_if_success (fail_if_success (have _z := hc2))); refine Calls.mono (con_any ⟨#[116, 114, 117, 101]⟩ none 0 0 u2) ?_; rintro e u3 ⟨rfl, hb3⟩; have hc3 : Below w1.heap.size w1 u3 := hc2.trans (hb3.mono hc2.size))
      | (go_at_call 19; (fail_if_success (have _z := hc4)); (fail_if_success (fail_if_success (have _z := hc3))); refine Calls.mono (con_any ⟨#[116, 114, 117, 101]⟩ none 0 0 u3) ?_; rintro e u4 ⟨rfl, hb4⟩; have hc4 : Below w1.heap.size w1 u4 := hc3.trans (hb4.mono hc3.size)))
  all_goals
    have hwn : Below w1.heap.size w1 (u4.alloc (.cells #[.int .u8 1, .string ⟨#[]⟩, .int .i64 0, .slice none 0 0, .int .u8 2, .string ⟨#[120]⟩, .int .i64 0, .slice none 0 0, .int .u8 6, .string ⟨#[102, 97, 108, 115, 101]⟩, .int .i64 0, .slice none 0 0, .int .u8 6, .string ⟨#[116, 114, 117, 101]⟩, .int .i64 0, .slice none 0 0, .int .u8 6, .string ⟨#[116, 114, 117, 101]⟩, .int .i64 0, .slice none 0 0] 40)) := hc4.alloc hc4.size _
    have HV : Hid (PAt (fun b => w.heap.size ≤ b) (u4.alloc (.cells #[.int .u8 1, .string ⟨#[]⟩, .int .i64 0, .slice none 0 0, .int .u8 2, .string ⟨#[120]⟩, .int .i64 0, .slice none 0 0, .int .u8 6, .string ⟨#[102, 97, 108, 115, 101]⟩, .int .i64 0, .slice none 0 0, .int .u8 6, .string ⟨#[116, 114, 117, 101]⟩, .int .i64 0, .slice none 0 0, .int .u8 6, .string ⟨#[116, 114, 117, 101]⟩, .int .i64 0, .slice none 0 0] 40)) (some ⟨u4.heap.size, 0, none⟩) 5 5 (pats .bool) ∧ Below w.heap.size w (u4.alloc (.cells #[.int .u8 1, .string ⟨#[]⟩, .int .i64 0, .slice none 0 0, .int .u8 2, .string ⟨#[120]⟩, .int .i64 0, .slice none 0 0, .int .u8 6, .string ⟨#[102, 97, 108, 115, 101]⟩, .int .i64 0, .slice none 0 0, .int .u8 6, .string ⟨#[116, 114, 117, 101]⟩, .int .i64 0, .slice none 0 0, .int .u8 6, .string ⟨#[116, 114, 117, 101]⟩, .int .i64 0, .slice none 0 0] 40))) := Lib.hid ⟨PAt_blk (es := [tE any, tE pX, tE pF, tE pT, tE pT]) (Blk.new _ _ _) rfl (fun e he => by
      simp only [List.mem_cons, List.not_mem_nil, or_false] at he
      rcases he with rfl | rfl | rfl | rfl | rfl
      · exact tE_in rfl ok_any
      · exact tE_in rfl ok_X
      · exact tE_in rfl ok_F
      · exact tE_in rfl ok_T
      · exact tE_in rfl ok_T) (Nat.le_trans HB.out.size hc4.size) rfl rfl (by decide), HB.out.trans (hwn.mono HB.out.size)⟩
    clear hwn
    go_wp2_with fail
    go_ret
    exact ⟨_, rfl, HV.out⟩
set_option maxRecDepth 100000 in
set_option maxHeartbeats 8000000 in
theorem patterns_num (k : Nat) (hk : k < 256) (h4 : k % 4 = 1) (w : World) :
    Calls Try.prog 14 #[.int .u8 (k : Int)] w fun e w' => ∃ A, e = .returned (.slice A 5 5) ∧ PAt (fun b => w.heap.size ≤ b) w' A 5 5 (pats (soOf k)) ∧ Below w.heap.size w w' := by
  have hs : soOf k = .num := by unfold soOf; rw [if_neg (by omega), if_pos h4]
  rw [hs]
  have hr : ((k : Int) % 4) = ((1 : Nat) : Int) := by omega
  obtain ⟨w1, hw1⟩ : ∃ W, w.alloc (.cells #[.int .u8 2, .string ⟨#[120]⟩, .int .i64 0, .slice none 0 0] 40) = W := ⟨_, rfl⟩
  have hb1 : Below w.heap.size w w1 := by rw [← hw1]; exact (Below.refl _ _).alloc (Nat.le_refl _) _
  have hB1 : Blk w1 w.heap.size 40 #[.int .u8 2, .string ⟨#[120]⟩, .int .i64 0, .slice none 0 0] := by rw [← hw1]; exact Blk.new _ _ _
  obtain ⟨q, hq⟩ : ∃ q, w.heap.size = q := ⟨_, rfl⟩
  rw [hq] at hB1
  have HX : Hid (∀ W, Below w1.heap.size w1 W → W.cell? ⟨q, 0, none⟩ = some (.int .u8 2) ∧ W.cell? ⟨q, 1, none⟩ = some (.string ⟨#[120]⟩) ∧ W.cell? ⟨q, 2, none⟩ = some (.int .i64 0) ∧ W.cell? ⟨q, 3, none⟩ = some (.slice none 0 0)) := Lib.hid fun W hW => by
    have := hB1.below hW hB1.lt
    exact ⟨this.cell 0, this.cell 1, this.cell 2, this.cell 3⟩
  have HB := Lib.hid hb1
  have HW := Lib.hid (And.intro hw1 hq)
  clear hb1 hB1 hw1 hq h4 hs
  go_enter Try.func14, Try.ntmps14
  go_upto_region 2 with fail
  (try rw [HW.out.1])
  (try rw [HW.out.2])
  go_upto_region 6 with fail
  go_region_held3 (fun W => W.cell? ⟨q, 0, none⟩ = some (.int .u8 2) ∧ W.cell? ⟨q, 1, none⟩ = some (.string ⟨#[120]⟩) ∧ W.cell? ⟨q, 2, none⟩ = some (.int .i64 0) ∧ W.cell? ⟨q, 3, none⟩ = some (.slice none 0 0))
    (first | exact HX.out _ (Below.refl _ w1).drew | exact HX.out _ (hc1.alloc hc1.size _) | exact HX.out _ hc1)
    (first
      | (go_at_call 18; (fail_if_success (have _z := hc1)); refine Calls.mono (wild_any w1.drew) ?_; rintro e u1 ⟨rfl, hb1⟩; have hc1 : Below w1.heap.size w1 u1 := (Below.refl _ w1).drew.trans hb1))
  all_goals
    have hwn : Below w1.heap.size w1 (u1.alloc (.cells #[.int .u8 1, .string ⟨#[]⟩, .int .i64 0, .slice none 0 0, .int .u8 2, .string ⟨#[120]⟩, .int .i64 0, .slice none 0 0, .int .u8 3, .string ⟨#[]⟩, .int .i64 0, .slice none 0 0, .int .u8 3, .string ⟨#[]⟩, .int .i64 1, .slice none 0 0, .int .u8 3, .string ⟨#[]⟩, .int .i64 2, .slice none 0 0] 40)) := hc1.alloc hc1.size _
    have HV : Hid (PAt (fun b => w.heap.size ≤ b) (u1.alloc (.cells #[.int .u8 1, .string ⟨#[]⟩, .int .i64 0, .slice none 0 0, .int .u8 2, .string ⟨#[120]⟩, .int .i64 0, .slice none 0 0, .int .u8 3, .string ⟨#[]⟩, .int .i64 0, .slice none 0 0, .int .u8 3, .string ⟨#[]⟩, .int .i64 1, .slice none 0 0, .int .u8 3, .string ⟨#[]⟩, .int .i64 2, .slice none 0 0] 40)) (some ⟨u1.heap.size, 0, none⟩) 5 5 (pats .num) ∧ Below w.heap.size w (u1.alloc (.cells #[.int .u8 1, .string ⟨#[]⟩, .int .i64 0, .slice none 0 0, .int .u8 2, .string ⟨#[120]⟩, .int .i64 0, .slice none 0 0, .int .u8 3, .string ⟨#[]⟩, .int .i64 0, .slice none 0 0, .int .u8 3, .string ⟨#[]⟩, .int .i64 1, .slice none 0 0, .int .u8 3, .string ⟨#[]⟩, .int .i64 2, .slice none 0 0] 40))) := Lib.hid ⟨PAt_blk (es := [tE any, tE pX, tE (num 0), tE (num 1), tE (num 2)]) (Blk.new _ _ _) rfl (fun e he => by
      simp only [List.mem_cons, List.not_mem_nil, or_false] at he
      rcases he with rfl | rfl | rfl | rfl | rfl
      · exact tE_in rfl ok_any
      · exact tE_in rfl ok_X
      · exact tE_in rfl (ok_n _ (by decide) (by decide))
      · exact tE_in rfl (ok_n _ (by decide) (by decide))
      · exact tE_in rfl (ok_n _ (by decide) (by decide))) (Nat.le_trans HB.out.size hc1.size) rfl rfl (by decide), HB.out.trans (hwn.mono HB.out.size)⟩
    clear hwn
    go_wp2_with fail
    go_ret
    exact ⟨_, rfl, HV.out⟩
set_option maxRecDepth 100000 in
set_option maxHeartbeats 8000000 in
theorem patterns_exn (k : Nat) (hk : k < 256) (h4 : k % 4 = 3) (w : World) :
    Calls Try.prog 14 #[.int .u8 (k : Int)] w fun e w' => ∃ A, e = .returned (.slice A 5 5) ∧ PAt (fun b => w.heap.size ≤ b) w' A 5 5 (pats (soOf k)) ∧ Below w.heap.size w w' := by
  have hs : soOf k = .exn := by unfold soOf; rw [if_neg (by omega), if_neg (by omega), if_neg (by omega)]
  rw [hs]
  have hr : ((k : Int) % 4) = ((3 : Nat) : Int) := by omega
  obtain ⟨w1, hw1⟩ : ∃ W, w.alloc (.cells #[.int .u8 2, .string ⟨#[120]⟩, .int .i64 0, .slice none 0 0] 40) = W := ⟨_, rfl⟩
  have hb1 : Below w.heap.size w w1 := by rw [← hw1]; exact (Below.refl _ _).alloc (Nat.le_refl _) _
  have hB1 : Blk w1 w.heap.size 40 #[.int .u8 2, .string ⟨#[120]⟩, .int .i64 0, .slice none 0 0] := by rw [← hw1]; exact Blk.new _ _ _
  obtain ⟨q, hq⟩ : ∃ q, w.heap.size = q := ⟨_, rfl⟩
  rw [hq] at hB1
  have HX : Hid (∀ W, Below w1.heap.size w1 W → W.cell? ⟨q, 0, none⟩ = some (.int .u8 2) ∧ W.cell? ⟨q, 1, none⟩ = some (.string ⟨#[120]⟩) ∧ W.cell? ⟨q, 2, none⟩ = some (.int .i64 0) ∧ W.cell? ⟨q, 3, none⟩ = some (.slice none 0 0)) := Lib.hid fun W hW => by
    have := hB1.below hW hB1.lt
    exact ⟨this.cell 0, this.cell 1, this.cell 2, this.cell 3⟩
  have HB := Lib.hid hb1
  have HW := Lib.hid (And.intro hw1 hq)
  clear hb1 hB1 hw1 hq h4 hs
  go_enter Try.func14, Try.ntmps14
  go_upto_region 2 with fail
  (try rw [HW.out.1])
  (try rw [HW.out.2])
  go_upto_region 9 with fail
  go_region_held3 (fun W => W.cell? ⟨q, 0, none⟩ = some (.int .u8 2) ∧ W.cell? ⟨q, 1, none⟩ = some (.string ⟨#[120]⟩) ∧ W.cell? ⟨q, 2, none⟩ = some (.int .i64 0) ∧ W.cell? ⟨q, 3, none⟩ = some (.slice none 0 0))
    (first | exact HX.out _ (Below.refl _ w1).drew | exact HX.out _ (hc4.alloc hc4.size _) | exact HX.out _ hc4 | exact HX.out _ hc3 | exact HX.out _ hc2 | exact HX.out _ hc1)
    (first
      | (go_at_call 18; (fail_if_success (have _z := hc1)); refine Calls.mono (wild_any w1.drew) ?_; rintro e u1 ⟨rfl, hb1⟩; have hc1 : Below w1.heap.size w1 u1 := (Below.refl _ w1).drew.trans hb1)
      | (go_at_call 19; (fail_if_success (have _z := hc2)); (fail_if_success (fail_if_success (have _z := hc1))); refine Calls.mono (con_any ⟨#[69]⟩ none 0 0 u1) ?_; rintro e u2 ⟨rfl, hb2⟩; have hc2 : Below w1.heap.size w1 u2 := hc1.trans (hb2.mono hc1.size))
      | (go_at_call 19; (fail_if_success (have _z := hc3)); (fail_if_success (fail_if_success (have _z := hc2))); refine Calls.mono (con_any ⟨#[70]⟩ none 0 0 u2) ?_; rintro e u3 ⟨rfl, hb3⟩; have hc3 : Below w1.heap.size w1 u3 := hc2.trans (hb3.mono hc2.size))
      | (go_at_call 19; (fail_if_success (have _z := hc4)); (fail_if_success (fail_if_success (have _z := hc3))); refine Calls.mono (con_any ⟨#[70]⟩ none 0 0 u3) ?_; rintro e u4 ⟨rfl, hb4⟩; have hc4 : Below w1.heap.size w1 u4 := hc3.trans (hb4.mono hc3.size)))
  all_goals
    have hwn : Below w1.heap.size w1 (u4.alloc (.cells #[.int .u8 1, .string ⟨#[]⟩, .int .i64 0, .slice none 0 0, .int .u8 2, .string ⟨#[120]⟩, .int .i64 0, .slice none 0 0, .int .u8 6, .string ⟨#[69]⟩, .int .i64 0, .slice none 0 0, .int .u8 6, .string ⟨#[70]⟩, .int .i64 0, .slice none 0 0, .int .u8 6, .string ⟨#[70]⟩, .int .i64 0, .slice none 0 0] 40)) := hc4.alloc hc4.size _
    have HV : Hid (PAt (fun b => w.heap.size ≤ b) (u4.alloc (.cells #[.int .u8 1, .string ⟨#[]⟩, .int .i64 0, .slice none 0 0, .int .u8 2, .string ⟨#[120]⟩, .int .i64 0, .slice none 0 0, .int .u8 6, .string ⟨#[69]⟩, .int .i64 0, .slice none 0 0, .int .u8 6, .string ⟨#[70]⟩, .int .i64 0, .slice none 0 0, .int .u8 6, .string ⟨#[70]⟩, .int .i64 0, .slice none 0 0] 40)) (some ⟨u4.heap.size, 0, none⟩) 5 5 (pats .exn) ∧ Below w.heap.size w (u4.alloc (.cells #[.int .u8 1, .string ⟨#[]⟩, .int .i64 0, .slice none 0 0, .int .u8 2, .string ⟨#[120]⟩, .int .i64 0, .slice none 0 0, .int .u8 6, .string ⟨#[69]⟩, .int .i64 0, .slice none 0 0, .int .u8 6, .string ⟨#[70]⟩, .int .i64 0, .slice none 0 0, .int .u8 6, .string ⟨#[70]⟩, .int .i64 0, .slice none 0 0] 40))) := Lib.hid ⟨PAt_blk (es := [tE any, tE pX, tE pE, tE pFx, tE pFx]) (Blk.new _ _ _) rfl (fun e he => by
      simp only [List.mem_cons, List.not_mem_nil, or_false] at he
      rcases he with rfl | rfl | rfl | rfl | rfl
      · exact tE_in rfl ok_any
      · exact tE_in rfl ok_X
      · exact tE_in rfl ok_E
      · exact tE_in rfl ok_Fx
      · exact tE_in rfl ok_Fx) (Nat.le_trans HB.out.size hc4.size) rfl rfl (by decide), HB.out.trans (hwn.mono HB.out.size)⟩
    clear hwn
    go_wp2_with fail
    go_ret
    exact ⟨_, rfl, HV.out⟩
set_option maxRecDepth 100000 in
set_option maxHeartbeats 8000000 in
theorem patterns_opt (k : Nat) (hk : k < 256) (h4 : k % 4 = 2) (w : World) :
    Calls Try.prog 14 #[.int .u8 (k : Int)] w fun e w' => ∃ A, e = .returned (.slice A 5 5) ∧ PAt (fun b => w.heap.size ≤ b) w' A 5 5 (pats (soOf k)) ∧ Below w.heap.size w w' := by
  have hs : soOf k = .opt := by unfold soOf; rw [if_neg (by omega), if_neg (by omega), if_pos h4]
  rw [hs]
  have hr : ((k : Int) % 4) = ((2 : Nat) : Int) := by omega
  obtain ⟨w1, hw1⟩ : ∃ W, w.alloc (.cells #[.int .u8 2, .string ⟨#[120]⟩, .int .i64 0, .slice none 0 0] 40) = W := ⟨_, rfl⟩
  have hb1 : Below w.heap.size w w1 := by rw [← hw1]; exact (Below.refl _ _).alloc (Nat.le_refl _) _
  have hB1 : Blk w1 w.heap.size 40 #[.int .u8 2, .string ⟨#[120]⟩, .int .i64 0, .slice none 0 0] := by rw [← hw1]; exact Blk.new _ _ _
  obtain ⟨q, hq⟩ : ∃ q, w.heap.size = q := ⟨_, rfl⟩
  rw [hq] at hB1
  have HX : Hid (∀ W, Below w1.heap.size w1 W → W.cell? ⟨q, 0, none⟩ = some (.int .u8 2) ∧ W.cell? ⟨q, 1, none⟩ = some (.string ⟨#[120]⟩) ∧ W.cell? ⟨q, 2, none⟩ = some (.int .i64 0) ∧ W.cell? ⟨q, 3, none⟩ = some (.slice none 0 0)) := Lib.hid fun W hW => by
    have := hB1.below hW hB1.lt
    exact ⟨this.cell 0, this.cell 1, this.cell 2, this.cell 3⟩
  have HB := Lib.hid hb1
  have HW := Lib.hid (And.intro hw1 hq)
  clear hb1 hB1 hw1 hq h4 hs
  go_enter Try.func14, Try.ntmps14
  go_upto_region 2 with fail
  (try rw [HW.out.1])
  (try rw [HW.out.2])
  go_upto_region 8 with fail
  go_region_held3 (fun W => W.cell? ⟨q, 0, none⟩ = some (.int .u8 2) ∧ W.cell? ⟨q, 1, none⟩ = some (.string ⟨#[120]⟩) ∧ W.cell? ⟨q, 2, none⟩ = some (.int .i64 0) ∧ W.cell? ⟨q, 3, none⟩ = some (.slice none 0 0))
    (first | exact HX.out _ (Below.refl _ w1).drew | exact HX.out _ ((Below.refl _ w1).drew.alloc (Nat.le_refl _) _) | exact HX.out _ hc7 | exact HX.out _ (hc7.alloc hc7.size _) | exact HX.out _ hc6 | exact HX.out _ (hc6.alloc hc6.size _) | exact HX.out _ hc5 | exact HX.out _ (hc5.alloc hc5.size _) | exact HX.out _ hc4 | exact HX.out _ (hc4.alloc hc4.size _) | exact HX.out _ hc3 | exact HX.out _ (hc3.alloc hc3.size _) | exact HX.out _ hc2 | exact HX.out _ (hc2.alloc hc2.size _) | exact HX.out _ hc1 | exact HX.out _ (hc1.alloc hc1.size _))
    (first
      | (go_at_call 18; (fail_if_success (have _z := hc1)); refine Calls.mono (wild_any (w1.drew.alloc (.cells #[.int .u8 2, .string ⟨#[120]⟩, .int .i64 0, .slice none 0 0] 40))) ?_; rintro e u1 ⟨rfl, hb1⟩; have hd1 : Below w1.heap.size w1 (w1.drew.alloc (.cells #[.int .u8 2, .string ⟨#[120]⟩, .int .i64 0, .slice none 0 0] 40)) := (Below.refl _ w1).drew.alloc (Nat.le_refl _) _; have hc1 : Below w1.heap.size w1 u1 := hd1.trans (hb1.mono hd1.size); have hka : Blk u1 w1.heap.size 40 #[.int .u8 2, .string ⟨#[120]⟩, .int .i64 0, .slice none 0 0] := (Blk.new w1.drew _ _).below hb1 (Blk.new w1.drew _ _).lt)
      | (go_at_call 18; (fail_if_success (have _z := hc1)); refine Calls.mono (wild_any w1.drew) ?_; rintro e u1 ⟨rfl, hb1⟩; have hc1 : Below w1.heap.size w1 u1 := (Below.refl _ w1).drew.trans hb1)
      | (go_at_call 19; (fail_if_success (have _z := hc2)); (fail_if_success (fail_if_success (have _z := hc1))); refine Calls.mono (con_any ⟨#[78, 111, 110, 101]⟩ none 0 0 (u1.alloc (.cells #[.int .u8 2, .string ⟨#[120]⟩, .int .i64 0, .slice none 0 0] 40))) ?_; rintro e u2 ⟨rfl, hb2⟩; have hd2 : Below w1.heap.size w1 (u1.alloc (.cells #[.int .u8 2, .string ⟨#[120]⟩, .int .i64 0, .slice none 0 0] 40)) := hc1.alloc hc1.size _; have hc2 : Below w1.heap.size w1 u2 := hd2.trans (hb2.mono hd2.size); have hkb : Blk u2 u1.heap.size 40 #[.int .u8 2, .string ⟨#[120]⟩, .int .i64 0, .slice none 0 0] := (Blk.new u1 _ _).below hb2 (Blk.new u1 _ _).lt)
      | (go_at_call 19; (fail_if_success (have _z := hc2)); (fail_if_success (fail_if_success (have _z := hc1))); refine Calls.mono (con_any ⟨#[78, 111, 110, 101]⟩ none 0 0 u1) ?_; rintro e u2 ⟨rfl, hb2⟩; have hc2 : Below w1.heap.size w1 u2 := hc1.trans (hb2.mono hc1.size))
      | (go_at_call 19; (fail_if_success (have _z := hc3)); (fail_if_success (fail_if_success (have _z := hc2))); refine Calls.mono (con_any ⟨#[83, 111, 109, 101]⟩ (some ⟨u2.heap.size, 0, none⟩) 1 1 (u2.alloc (.cells #[.int .u8 2, .string ⟨#[120]⟩, .int .i64 0, .slice none 0 0] 40))) ?_; rintro e u3 ⟨rfl, hb3⟩; have hd3 : Below w1.heap.size w1 (u2.alloc (.cells #[.int .u8 2, .string ⟨#[120]⟩, .int .i64 0, .slice none 0 0] 40)) := hc2.alloc hc2.size _; have hc3 : Below w1.heap.size w1 u3 := hd3.trans (hb3.mono hd3.size); have hK : ∃ G, u2.heap.size = G ∧ w1.heap.size ≤ G ∧ Blk u3 G 40 #[.int .u8 2, .string ⟨#[120]⟩, .int .i64 0, .slice none 0 0] := ⟨_, rfl, hc2.size, (Blk.new u2 _ _).below hb3 (Blk.new u2 _ _).lt⟩)
      | (go_at_call 19; (fail_if_success (have _z := hc3)); (fail_if_success (fail_if_success (have _z := hc2))); refine Calls.mono (con_any ⟨#[83, 111, 109, 101]⟩ (some ⟨u1.heap.size, 0, none⟩) 1 1 u2) ?_; rintro e u3 ⟨rfl, hb3⟩; have hc3 : Below w1.heap.size w1 u3 := hc2.trans (hb3.mono hc2.size); have hK : ∃ G, u1.heap.size = G ∧ w1.heap.size ≤ G ∧ Blk u3 G 40 #[.int .u8 2, .string ⟨#[120]⟩, .int .i64 0, .slice none 0 0] := ⟨_, rfl, hc1.size, hkb.below hb3 hkb.lt⟩)
      | (go_at_call 19; (fail_if_success (have _z := hc3)); (fail_if_success (fail_if_success (have _z := hc2))); refine Calls.mono (con_any ⟨#[83, 111, 109, 101]⟩ (some ⟨w1.heap.size, 0, none⟩) 1 1 u2) ?_; rintro e u3 ⟨rfl, hb3⟩; have hc3 : Below w1.heap.size w1 u3 := hc2.trans (hb3.mono hc2.size); have hK : ∃ G, w1.heap.size = G ∧ w1.heap.size ≤ G ∧ Blk u3 G 40 #[.int .u8 2, .string ⟨#[120]⟩, .int .i64 0, .slice none 0 0] := ⟨_, rfl, Nat.le_refl _, (hka.below hb2 hka.lt).below hb3 (hka.below hb2 hka.lt).lt⟩)
      | (go_at_call 19; (fail_if_success (have _z := hc4)); (fail_if_success (fail_if_success (have _z := hc3))); refine Calls.mono (con_any ⟨#[116, 114, 117, 101]⟩ none 0 0 u3) ?_; rintro e u4 ⟨rfl, hb4⟩; have hc4 : Below w1.heap.size w1 u4 := hc3.trans (hb4.mono hc3.size))
      | (go_at_call 19; (fail_if_success (have _z := hc5)); (fail_if_success (fail_if_success (have _z := hc4))); refine Calls.mono (con_any ⟨#[83, 111, 109, 101]⟩ (some ⟨u4.heap.size, 0, none⟩) 1 1 (u4.alloc (.cells #[.int .u8 6, .string ⟨#[116, 114, 117, 101]⟩, .int .i64 0, .slice none 0 0] 40))) ?_; rintro e u5 ⟨rfl, hb5⟩; have hd5 : Below w1.heap.size w1 (u4.alloc (.cells #[.int .u8 6, .string ⟨#[116, 114, 117, 101]⟩, .int .i64 0, .slice none 0 0] 40)) := hc4.alloc hc4.size _; have hc5 : Below w1.heap.size w1 u5 := hd5.trans (hb5.mono hd5.size))
      | (go_at_call 19; (fail_if_success (have _z := hc6)); (fail_if_success (fail_if_success (have _z := hc5))); refine Calls.mono (con_any ⟨#[102, 97, 108, 115, 101]⟩ none 0 0 u5) ?_; rintro e u6 ⟨rfl, hb6⟩; have hc6 : Below w1.heap.size w1 u6 := hc5.trans (hb6.mono hc5.size))
      | (go_at_call 19; (fail_if_success (have _z := hc7)); (fail_if_success (fail_if_success (have _z := hc6))); refine Calls.mono (con_any ⟨#[83, 111, 109, 101]⟩ (some ⟨u6.heap.size, 0, none⟩) 1 1 (u6.alloc (.cells #[.int .u8 6, .string ⟨#[102, 97, 108, 115, 101]⟩, .int .i64 0, .slice none 0 0] 40))) ?_; rintro e u7 ⟨rfl, hb7⟩; have hd7 : Below w1.heap.size w1 (u6.alloc (.cells #[.int .u8 6, .string ⟨#[102, 97, 108, 115, 101]⟩, .int .i64 0, .slice none 0 0] 40)) := hc6.alloc hc6.size _; have hc7 : Below w1.heap.size w1 u7 := hd7.trans (hb7.mono hd7.size)))
  all_goals
    obtain ⟨G, hG, hKG, hkG⟩ := hK
    rw [hG]
    have h7 : Below u7.heap.size u7 (u7.alloc (.cells #[.int .u8 1, .string ⟨#[]⟩, .int .i64 0, .slice none 0 0, .int .u8 6, .string ⟨#[78, 111, 110, 101]⟩, .int .i64 0, .slice none 0 0, .int .u8 6, .string ⟨#[83, 111, 109, 101]⟩, .int .i64 0, .slice (some ⟨G, 0, none⟩) 1 1, .int .u8 6, .string ⟨#[83, 111, 109, 101]⟩, .int .i64 0, .slice (some ⟨u4.heap.size, 0, none⟩) 1 1, .int .u8 6, .string ⟨#[83, 111, 109, 101]⟩, .int .i64 0, .slice (some ⟨u6.heap.size, 0, none⟩) 1 1] 40)) := (Below.refl _ _).alloc (Nat.le_refl _) _
    have h5 : Below u5.heap.size u5 (u7.alloc (.cells #[.int .u8 1, .string ⟨#[]⟩, .int .i64 0, .slice none 0 0, .int .u8 6, .string ⟨#[78, 111, 110, 101]⟩, .int .i64 0, .slice none 0 0, .int .u8 6, .string ⟨#[83, 111, 109, 101]⟩, .int .i64 0, .slice (some ⟨G, 0, none⟩) 1 1, .int .u8 6, .string ⟨#[83, 111, 109, 101]⟩, .int .i64 0, .slice (some ⟨u4.heap.size, 0, none⟩) 1 1, .int .u8 6, .string ⟨#[83, 111, 109, 101]⟩, .int .i64 0, .slice (some ⟨u6.heap.size, 0, none⟩) 1 1] 40)) := hb6.trans ((((Below.refl _ u6).alloc (Nat.le_refl _) (.cells #[.int .u8 6, .string ⟨#[102, 97, 108, 115, 101]⟩, .int .i64 0, .slice none 0 0] 40)).trans ((hb7.trans (h7.mono hb7.size)).mono (by simp))).mono hb6.size)
    have h3 : Below u3.heap.size u3 (u7.alloc (.cells #[.int .u8 1, .string ⟨#[]⟩, .int .i64 0, .slice none 0 0, .int .u8 6, .string ⟨#[78, 111, 110, 101]⟩, .int .i64 0, .slice none 0 0, .int .u8 6, .string ⟨#[83, 111, 109, 101]⟩, .int .i64 0, .slice (some ⟨G, 0, none⟩) 1 1, .int .u8 6, .string ⟨#[83, 111, 109, 101]⟩, .int .i64 0, .slice (some ⟨u4.heap.size, 0, none⟩) 1 1, .int .u8 6, .string ⟨#[83, 111, 109, 101]⟩, .int .i64 0, .slice (some ⟨u6.heap.size, 0, none⟩) 1 1] 40)) := hb4.trans ((((Below.refl _ u4).alloc (Nat.le_refl _) (.cells #[.int .u8 6, .string ⟨#[116, 114, 117, 101]⟩, .int .i64 0, .slice none 0 0] 40)).trans ((hb5.trans (h5.mono hb5.size)).mono (by simp))).mono hb4.size)
    have k1 := hkG.below h3 hkG.lt
    have k2a := (Blk.new u4 40 #[.int .u8 6, .string ⟨#[116, 114, 117, 101]⟩, .int .i64 0, .slice none 0 0]).below hb5 (Blk.new u4 _ _).lt
    have k2 := k2a.below h5 k2a.lt
    have k3a := (Blk.new u6 40 #[.int .u8 6, .string ⟨#[102, 97, 108, 115, 101]⟩, .int .i64 0, .slice none 0 0]).below hb7 (Blk.new u6 _ _).lt
    have k3 := k3a.below h7 k3a.lt
    have hwn : Below w1.heap.size w1 (u7.alloc (.cells #[.int .u8 1, .string ⟨#[]⟩, .int .i64 0, .slice none 0 0, .int .u8 6, .string ⟨#[78, 111, 110, 101]⟩, .int .i64 0, .slice none 0 0, .int .u8 6, .string ⟨#[83, 111, 109, 101]⟩, .int .i64 0, .slice (some ⟨G, 0, none⟩) 1 1, .int .u8 6, .string ⟨#[83, 111, 109, 101]⟩, .int .i64 0, .slice (some ⟨u4.heap.size, 0, none⟩) 1 1, .int .u8 6, .string ⟨#[83, 111, 109, 101]⟩, .int .i64 0, .slice (some ⟨u6.heap.size, 0, none⟩) 1 1] 40)) := hc7.alloc hc7.size _
    have HV : Hid (PAt (fun b => w.heap.size ≤ b) (u7.alloc (.cells #[.int .u8 1, .string ⟨#[]⟩, .int .i64 0, .slice none 0 0, .int .u8 6, .string ⟨#[78, 111, 110, 101]⟩, .int .i64 0, .slice none 0 0, .int .u8 6, .string ⟨#[83, 111, 109, 101]⟩, .int .i64 0, .slice (some ⟨G, 0, none⟩) 1 1, .int .u8 6, .string ⟨#[83, 111, 109, 101]⟩, .int .i64 0, .slice (some ⟨u4.heap.size, 0, none⟩) 1 1, .int .u8 6, .string ⟨#[83, 111, 109, 101]⟩, .int .i64 0, .slice (some ⟨u6.heap.size, 0, none⟩) 1 1] 40)) (some ⟨u7.heap.size, 0, none⟩) 5 5 (pats .opt) ∧ Below w.heap.size w (u7.alloc (.cells #[.int .u8 1, .string ⟨#[]⟩, .int .i64 0, .slice none 0 0, .int .u8 6, .string ⟨#[78, 111, 110, 101]⟩, .int .i64 0, .slice none 0 0, .int .u8 6, .string ⟨#[83, 111, 109, 101]⟩, .int .i64 0, .slice (some ⟨G, 0, none⟩) 1 1, .int .u8 6, .string ⟨#[83, 111, 109, 101]⟩, .int .i64 0, .slice (some ⟨u4.heap.size, 0, none⟩) 1 1, .int .u8 6, .string ⟨#[83, 111, 109, 101]⟩, .int .i64 0, .slice (some ⟨u6.heap.size, 0, none⟩) 1 1] 40))) := Lib.hid ⟨PAt_blk (es := [tE any, tE pNone, ⟨someT pX, some ⟨G, 0, none⟩, 1⟩, ⟨someT pT, some ⟨u4.heap.size, 0, none⟩, 1⟩, ⟨someT pF, some ⟨u6.heap.size, 0, none⟩, 1⟩]) (Blk.new _ _ _) rfl (fun e he => by
      simp only [List.mem_cons, List.not_mem_nil, or_false] at he
      rcases he with rfl | rfl | rfl | rfl | rfl
      · exact tE_in rfl ok_any
      · exact tE_in rfl ok_N
      · exact pat_one k1 rfl ok_X (Nat.le_trans HB.out.size hKG)
      · exact pat_one k2 rfl ok_T (Nat.le_trans HB.out.size hc4.size)
      · exact pat_one k3 rfl ok_F (Nat.le_trans HB.out.size hc6.size)) (Nat.le_trans HB.out.size hc7.size) rfl rfl (by decide), HB.out.trans (hwn.mono HB.out.size)⟩
    clear hwn h7 h5 h3 k1 k2a k2 k3a k3 hkG hG hKG
    go_wp2_with fail
    go_ret
    exact ⟨_, rfl, HV.out⟩
theorem patterns_any (k : Nat) (hk : k < 256) (w : World) :
    Calls Try.prog 14 #[.int .u8 (k : Int)] w fun e w' => ∃ A, e = .returned (.slice A 5 5) ∧ PAt (fun b => w.heap.size ≤ b) w' A 5 5 (pats (soOf k)) ∧ Below w.heap.size w w' := by
  have h4 : k % 4 = 0 ∨ k % 4 = 1 ∨ k % 4 = 2 ∨ k % 4 = 3 := by omega
  rcases h4 with h4 | h4 | h4 | h4
  · exact patterns_bool k hk h4 w
  · exact patterns_num k hk h4 w
  · exact patterns_opt k hk h4 w
  · exact patterns_exn k hk h4 w
end Go.Proofs.Ytigaondgopahgaa
