/- cover: opened, walked. -/
import Derived.Test.YtigaondgopahgaaOp
namespace Go.Proofs.Ytigaondgopahgaa
open Go.RowKit
set_option linter.unusedVariables false
set_option linter.unusedSimpArgs false
attribute [local go_sem] Oper.semAt_some
set_option maxRecDepth 20000 in
set_option maxHeartbeats 8000000 in
theorem opened_wild2 {F : Nat → Prop} (k : Nat) (nm : List UInt8) (m : Int) (mn : Nat) (p : Ty) (ps : List Ty) (A : Option Addr) (n c q : Nat) (w : World) (hA : PAt F w A n c (p :: ps)) (hQ : Blk w q 65 #[.int .u8 (k : Int), .string (str nm), .int .i64 m, .int .i64 (mn : Int)]) (hn : n ≤ 100000) (hmn : mn ≤ 100000) (hw : p.wild = true) (hc : c ≠ 1) :
    Calls Try.prog 33 #[.slice A n c, .pointer (some ⟨q, 0, none⟩)] w (OpenedP F ⟨k, nm, m, mn⟩ (p :: ps) w) := by
  have hcap := hA.cap
  have hn1 : 1 ≤ n := by have := hA.len; simp at this; omega
  have hle := hA.le
  unfold maxLen at hcap
  obtain ⟨b, off, A', c', rfl, _, hbl, z0, z1, z2, z3, hok, hlc, hcm, hAt⟩ := hA.at_.get (r := 0) (t := p) rfl
  simp only [Nat.zero_mul, Nat.add_zero] at z0 z1 z2 z3
  obtain ⟨tl, htl⟩ : ∃ tl, p.ks.length = tl := ⟨_, rfl⟩
  rw [htl] at z3
  obtain ⟨w6, hw6⟩ : ∃ w6, w.alloc (.cells #[.int .u8 (p.k : Int), .string (str p.nm), .int .i64 p.n, .slice A' tl c'] 40) = w6 := ⟨_, rfl⟩
  have hb6 : Below w.heap.size w w6 := by rw [← hw6]; exact (Below.refl _ _).alloc (Nat.le_refl _) _
  have hs6 : w6.heap.size = w.heap.size + 1 := by rw [← hw6]; simp
  have hB6 : Blk w6 w.heap.size 40 #[.int .u8 (p.k : Int), .string (str p.nm), .int .i64 p.n, .slice A' tl c'] := by rw [← hw6]; exact Blk.new _ _ _
  obtain ⟨w7, hw7⟩ : ∃ w7, w6.alloc (.cells (madeCells #[.int .u8 0, .string ⟨#[]⟩, .int .i64 0, .slice none 0 0] ((mn + n) * 4)) 40) = w7 := ⟨_, rfl⟩
  have hmk := run_mkP mn (mn + n) (by omega) (by omega) w6
  rw [hw7, hs6] at hmk
  rw [show (((mn + n : Nat)) : Int) = (mn : Int) + (n : Int) by push_cast; rfl] at hmk
  have hb7 : Below w6.heap.size w6 w7 := by rw [← hw7]; exact (Below.refl _ _).alloc (Nat.le_refl _) _
  have hR7 : KRow F w7 (w.heap.size + 1) (mn + n) [] := by
    refine ⟨⟨_, by rw [← hs6, ← hw7]; exact Blk.new _ _ _, size_madeCells _ _, fun r j e v hr => by simp at hr⟩, fun e he => by cases he⟩
  have hw7b : Below w.heap.size w w7 := hb6.trans (hb7.mono hb6.size)
  have hB7 := hB6.below hb7 hB6.lt
  have hQ6 := hQ.below hb6 hQ.lt
  have hQ7 := hQ.below hw7b hQ.lt
  have q0 := hQ6.cell 3
  have y0 := hB7.cell 0
  have y1 := hB7.cell 1
  have y2 := hB7.cell 2
  have y3 := hB7.cell 3
  simp only [List.getElem?_toArray, List.getElem?_cons_zero, List.getElem?_cons_succ] at q0 y0 y1 y2 y3
  have HC := isWild_any p A' c' w7
  unfold Ty.val at HC
  rw [htl, hw] at HC
  replace HC := Lib.hid HC
  have hd3 : 0 < n := by omega
  have hmm : mn ≤ 9223372036854775807 := by omega
  have hd1 : (1 : Int) ≤ (n : Int) := by omega
  have hd2 : (n : Int) ≤ (c : Int) := by omega
  have HAP : Hid (∀ (w8 : World) (es : List Te) (g cap : Nat), w.heap.size ≤ g → Below w.heap.size w w8 → KRow F w8 g cap es → es.length ≤ cap → cap ≤ 500000 → ∃ A' c' w', (Builtin.append_ #[22, 22] 22 #[.slice (some ⟨g, 0, none⟩) es.length cap, .slice (some ⟨b, off + 4, none⟩) (n - 1) (c - 1)]).run Try.prog w8 = .ok (.slice A' (es.length + (n - 1)) c') w' ∧ PAt (fun b => F b ∨ w.heap.size ≤ b) w' A' (es.length + (n - 1)) c' (es.map Te.t ++ ps) ∧ Below w.heap.size w w') := Lib.hid fun w8 es g cap hg hb hK hl hcap2 => opened_app hA hg hb hK hl hcap2 hn ⟨b, off + 4, none⟩ (fun _ => rfl) (c - 1)
  have HQ7 := Lib.hid (And.intro hQ7 (And.intro hB7 (And.intro hw7b hR7)))
  have HLN : Hid (ps.length = n - 1) := Lib.hid (by have := hA.len; simp at this; omega)
  have hat : Ty.At (fun b => F b ∧ b ≠ w.heap.size + 1) w A' p.ks := hAt.bnd.mono fun k hk => ⟨hk.1, by have := hk.2; omega⟩
  have HHD := Lib.hid (And.intro hw (And.intro htl (And.intro (hAt.bel hw7b) (And.intro hlc hcm))))
  clear hb6 hB6 hb7 hR7 hw7b hB7 hQ hQ6 hQ7 hA hw htl hok hlc hcm hAt hcap hle hbl
  have HW7 := Lib.hid hw7
  clear hw7
  go_enter Try.func33, Try.ntmps33
  go_upto_region 2 with fail
  (try rw [hw6])
  clear hw6 z0 z1 z2 z3
  go_upto_region 4 with fail
  clear hmk q0
  go_wp2_with fail
  refine HC.out.mono ?_
  rintro e w8 ⟨rfl, hb8⟩
  have HX8 : Hid (Below w7.heap.size w7 w8) := Lib.hid hb8
  clear hb8 HC y0 y1 y2 y3
  clear hat
  go_wp2_with fail
  go_loopw [24] (fun jv wr => ∃ j : Nat, j ≤ mn ∧ jv = .int .i64 (j : Int) ∧ Hid (Below w.heap.size w wr ∧ KRow F wr (w.heap.size + 1) (mn + n) (List.replicate j anyE))) (fun jv _ => mn - (intOf jv).toNat)
  case atStart => exact ⟨0, Nat.zero_le _, rfl, Lib.hid ⟨HQ7.out.2.2.1.trans (HX8.out.mono HQ7.out.2.2.1.size), HQ7.out.2.2.2.bel HX8.out⟩⟩
  case round =>
    obtain ⟨j, hj, rfl, hY⟩ := hrel
    by_cases hlj : j < mn
    · have hdj : decide ((j : Int) < (mn : Int)) = true := by simpa using hlj
      obtain ⟨cur, k1, k2, _⟩ := hY.out.2.blk
      have hcl : ∀ i, i < (mn + n) * 4 → ∃ p, wr.cell? ⟨w.heap.size + 1, i, none⟩ = some p := fun i hi => ⟨_, (k1.cell i).trans (Array.getElem?_eq_getElem (by rw [k2]; exact hi))⟩
      obtain ⟨p0, x0⟩ := hcl (j * 4) (by omega)
      obtain ⟨p1, x1⟩ := hcl (j * 4 + 1) (by omega)
      obtain ⟨p2, x2⟩ := hcl (j * 4 + 2) (by omega)
      obtain ⟨p3, x3⟩ := hcl (j * 4 + 3) (by omega)
      have xf := k1.frozen
      have HN : Hid (Below w.heap.size w ((((wr.setCell ⟨w.heap.size + 1, j * 4, none⟩ (.int .u8 1)).setCell ⟨w.heap.size + 1, j * 4 + 1, none⟩ (.string ⟨#[]⟩)).setCell ⟨w.heap.size + 1, j * 4 + 2, none⟩ (.int .i64 0)).setCell ⟨w.heap.size + 1, j * 4 + 3, none⟩ (.slice none 0 0)) ∧ KRow F ((((wr.setCell ⟨w.heap.size + 1, j * 4, none⟩ (.int .u8 1)).setCell ⟨w.heap.size + 1, j * 4 + 1, none⟩ (.string ⟨#[]⟩)).setCell ⟨w.heap.size + 1, j * 4 + 2, none⟩ (.int .i64 0)).setCell ⟨w.heap.size + 1, j * 4 + 3, none⟩ (.slice none 0 0)) (w.heap.size + 1) (mn + n) (List.replicate (j + 1) anyE)) := Lib.hid ⟨hY.out.1.trans ((Off.below (offR wr (w.heap.size + 1) j _ _ _ _) hY.out.1.size (fun g e => by omega))), by
        rw [List.replicate_succ']
        exact hY.out.2.set (List.length_replicate ..) (by omega) anyE (anyE_in _ _) rfl⟩
      clear hY hcl k1 k2
      go_wp2_with fail
      go_roundw
      case rel => exact ⟨j + 1, by omega, by go_num, HN⟩
      case measure => simp [intOf]; omega
    · obtain rfl : j = mn := by omega
      have hdj : decide ((j : Int) < (j : Int)) = false := by simp
      obtain ⟨A2, c2, w9, hrun, hP, hb9⟩ := HAP.out wr _ (w.heap.size + 1) (j + n) (Nat.le_succ _) hY.out.1 hY.out.2 (by rw [List.length_replicate]; omega) (by omega)
      rw [List.length_replicate] at hrun hP
      rw [anys_map] at hP
      have HF : Hid (Below w.heap.size w w9 ∧ opened ⟨k, nm, m, j⟩ (p :: ps) = some (List.replicate j Ty.any ++ ps) ∧ PAt (fun b => F b ∨ w.heap.size ≤ b) w9 A2 (j + (n - 1)) c2 (List.replicate j Ty.any ++ ps) ∧ (List.replicate j Ty.any ++ ps).length = j + (n - 1)) := Lib.hid ⟨hb9, by rw [opened_cons, HHD.out.1]; rfl, hP, by rw [List.length_append, List.length_replicate, HLN.out]⟩
      have HR := Lib.hid hrun
      clear hY hrun hP hb9
      go_upto_region 12 with fail
      have hrun := HR.out
      go_wp2_with (at_builtin; refine wpList_app rfl _ _ 22 rfl _ _ _ _ rfl rfl hrun ?_)
      go_ret2
      exact ⟨HF.out.1, .inl ⟨_, A2, c2, HF.out.2.1, by rw [HF.out.2.2.2] <;> rfl, by rw [HF.out.2.2.2]; exact HF.out.2.2.1⟩⟩
set_option maxRecDepth 20000 in
set_option maxHeartbeats 8000000 in
theorem opened_wild1 {F : Nat → Prop} (k : Nat) (nm : List UInt8) (m : Int) (mn : Nat) (p : Ty) (ps : List Ty) (A : Option Addr) (q : Nat) (w : World) (hA : PAt F w A 1 1 (p :: ps)) (hQ : Blk w q 65 #[.int .u8 (k : Int), .string (str nm), .int .i64 m, .int .i64 (mn : Int)]) (hmn : mn ≤ 100000) (hw : p.wild = true) :
    Calls Try.prog 33 #[.slice A 1 1, .pointer (some ⟨q, 0, none⟩)] w (OpenedP F ⟨k, nm, m, mn⟩ (p :: ps) w) := by
  have hcap := hA.cap
  have hle := hA.le
  unfold maxLen at hcap
  obtain ⟨b, off, A', c', rfl, _, hbl, z0, z1, z2, z3, hok, hlc, hcm, hAt⟩ := hA.at_.get (r := 0) (t := p) rfl
  simp only [Nat.zero_mul, Nat.add_zero] at z0 z1 z2 z3
  obtain ⟨tl, htl⟩ : ∃ tl, p.ks.length = tl := ⟨_, rfl⟩
  rw [htl] at z3
  obtain ⟨w6, hw6⟩ : ∃ w6, w.alloc (.cells #[.int .u8 (p.k : Int), .string (str p.nm), .int .i64 p.n, .slice A' tl c'] 40) = w6 := ⟨_, rfl⟩
  have hb6 : Below w.heap.size w w6 := by rw [← hw6]; exact (Below.refl _ _).alloc (Nat.le_refl _) _
  have hs6 : w6.heap.size = w.heap.size + 1 := by rw [← hw6]; simp
  have hB6 : Blk w6 w.heap.size 40 #[.int .u8 (p.k : Int), .string (str p.nm), .int .i64 p.n, .slice A' tl c'] := by rw [← hw6]; exact Blk.new _ _ _
  obtain ⟨w7, hw7⟩ : ∃ w7, w6.alloc (.cells (madeCells #[.int .u8 0, .string ⟨#[]⟩, .int .i64 0, .slice none 0 0] ((mn + 1) * 4)) 40) = w7 := ⟨_, rfl⟩
  have hmk := run_mkP mn (mn + 1) (by omega) (by omega) w6
  rw [hw7, hs6] at hmk
  rw [show (((mn + 1 : Nat)) : Int) = (mn : Int) + 1 by push_cast; rfl] at hmk
  have hb7 : Below w6.heap.size w6 w7 := by rw [← hw7]; exact (Below.refl _ _).alloc (Nat.le_refl _) _
  have hR7 : KRow F w7 (w.heap.size + 1) (mn + 1) [] := by
    refine ⟨⟨_, by rw [← hs6, ← hw7]; exact Blk.new _ _ _, size_madeCells _ _, fun r j e v hr => by simp at hr⟩, fun e he => by cases he⟩
  have hw7b : Below w.heap.size w w7 := hb6.trans (hb7.mono hb6.size)
  have hB7 := hB6.below hb7 hB6.lt
  have hQ6 := hQ.below hb6 hQ.lt
  have hQ7 := hQ.below hw7b hQ.lt
  have q0 := hQ6.cell 3
  have y0 := hB7.cell 0
  have y1 := hB7.cell 1
  have y2 := hB7.cell 2
  have y3 := hB7.cell 3
  simp only [List.getElem?_toArray, List.getElem?_cons_zero, List.getElem?_cons_succ] at q0 y0 y1 y2 y3
  have HC := isWild_any p A' c' w7
  unfold Ty.val at HC
  rw [htl, hw] at HC
  replace HC := Lib.hid HC
  have hmm : mn ≤ 9223372036854775807 := by omega
  have HAP : Hid (∀ (w8 : World) (es : List Te) (g cap : Nat), w.heap.size ≤ g → Below w.heap.size w w8 → KRow F w8 g cap es → es.length ≤ cap → cap ≤ 500000 → ∃ A' c' w', (Builtin.append_ #[22, 22] 22 #[.slice (some ⟨g, 0, none⟩) es.length cap, .slice (some ⟨b, off, none⟩) 0 0]).run Try.prog w8 = .ok (.slice A' (es.length + 0) c') w' ∧ PAt (fun b => F b ∨ w.heap.size ≤ b) w' A' (es.length + 0) c' (es.map Te.t ++ ps) ∧ Below w.heap.size w w') := Lib.hid fun w8 es g cap hg hb hK hl hcap2 => opened_app hA hg hb hK hl hcap2 (by omega) ⟨b, off, none⟩ (fun h => absurd rfl h) 0
  have HQ7 := Lib.hid (And.intro hQ7 (And.intro hB7 (And.intro hw7b hR7)))
  have HLN : Hid (ps.length = 0) := Lib.hid (by have := hA.len; simpa using this)
  have hat : Ty.At (fun b => F b ∧ b ≠ w.heap.size + 1) w A' p.ks := hAt.bnd.mono fun k hk => ⟨hk.1, by have := hk.2; omega⟩
  have HHD := Lib.hid (And.intro hw (And.intro htl (And.intro (hAt.bel hw7b) (And.intro hlc hcm))))
  clear hb6 hB6 hb7 hR7 hw7b hB7 hQ hQ6 hQ7 hA hw htl hok hlc hcm hAt hcap hle hbl
  have HW7 := Lib.hid hw7
  clear hw7
  go_enter Try.func33, Try.ntmps33
  go_upto_region 2 with fail
  (try rw [hw6])
  clear hw6 z0 z1 z2 z3
  go_upto_region 4 with fail
  clear hmk q0
  go_wp2_with fail
  refine HC.out.mono ?_
  rintro e w8 ⟨rfl, hb8⟩
  have HX8 : Hid (Below w7.heap.size w7 w8) := Lib.hid hb8
  clear hb8 HC y0 y1 y2 y3
  clear hat
  go_wp2_with fail
  go_loopw [24] (fun jv wr => ∃ j : Nat, j ≤ mn ∧ jv = .int .i64 (j : Int) ∧ Hid (Below w.heap.size w wr ∧ KRow F wr (w.heap.size + 1) (mn + 1) (List.replicate j anyE))) (fun jv _ => mn - (intOf jv).toNat)
  case atStart => exact ⟨0, Nat.zero_le _, rfl, Lib.hid ⟨HQ7.out.2.2.1.trans (HX8.out.mono HQ7.out.2.2.1.size), HQ7.out.2.2.2.bel HX8.out⟩⟩
  case round =>
    obtain ⟨j, hj, rfl, hY⟩ := hrel
    by_cases hlj : j < mn
    · have hdj : decide ((j : Int) < (mn : Int)) = true := by simpa using hlj
      obtain ⟨cur, k1, k2, _⟩ := hY.out.2.blk
      have hcl : ∀ i, i < (mn + 1) * 4 → ∃ p, wr.cell? ⟨w.heap.size + 1, i, none⟩ = some p := fun i hi => ⟨_, (k1.cell i).trans (Array.getElem?_eq_getElem (by rw [k2]; exact hi))⟩
      obtain ⟨p0, x0⟩ := hcl (j * 4) (by omega)
      obtain ⟨p1, x1⟩ := hcl (j * 4 + 1) (by omega)
      obtain ⟨p2, x2⟩ := hcl (j * 4 + 2) (by omega)
      obtain ⟨p3, x3⟩ := hcl (j * 4 + 3) (by omega)
      have xf := k1.frozen
      have HN : Hid (Below w.heap.size w ((((wr.setCell ⟨w.heap.size + 1, j * 4, none⟩ (.int .u8 1)).setCell ⟨w.heap.size + 1, j * 4 + 1, none⟩ (.string ⟨#[]⟩)).setCell ⟨w.heap.size + 1, j * 4 + 2, none⟩ (.int .i64 0)).setCell ⟨w.heap.size + 1, j * 4 + 3, none⟩ (.slice none 0 0)) ∧ KRow F ((((wr.setCell ⟨w.heap.size + 1, j * 4, none⟩ (.int .u8 1)).setCell ⟨w.heap.size + 1, j * 4 + 1, none⟩ (.string ⟨#[]⟩)).setCell ⟨w.heap.size + 1, j * 4 + 2, none⟩ (.int .i64 0)).setCell ⟨w.heap.size + 1, j * 4 + 3, none⟩ (.slice none 0 0)) (w.heap.size + 1) (mn + 1) (List.replicate (j + 1) anyE)) := Lib.hid ⟨hY.out.1.trans ((Off.below (offR wr (w.heap.size + 1) j _ _ _ _) hY.out.1.size (fun g e => by omega))), by
        rw [List.replicate_succ']
        exact hY.out.2.set (List.length_replicate ..) (by omega) anyE (anyE_in _ _) rfl⟩
      clear hY hcl k1 k2
      go_wp2_with fail
      go_roundw
      case rel => exact ⟨j + 1, by omega, by go_num, HN⟩
      case measure => simp [intOf]; omega
    · obtain rfl : j = mn := by omega
      have hdj : decide ((j : Int) < (j : Int)) = false := by simp
      obtain ⟨A2, c2, w9, hrun, hP, hb9⟩ := HAP.out wr _ (w.heap.size + 1) (j + 1) (Nat.le_succ _) hY.out.1 hY.out.2 (by rw [List.length_replicate]; omega) (by omega)
      rw [List.length_replicate] at hrun hP
      rw [anys_map] at hP
      have HF : Hid (Below w.heap.size w w9 ∧ opened ⟨k, nm, m, j⟩ (p :: ps) = some (List.replicate j Ty.any ++ ps) ∧ PAt (fun b => F b ∨ w.heap.size ≤ b) w9 A2 (j + 0) c2 (List.replicate j Ty.any ++ ps) ∧ (List.replicate j Ty.any ++ ps).length = j + 0) := Lib.hid ⟨hb9, by rw [opened_cons, HHD.out.1]; rfl, hP, by rw [List.length_append, List.length_replicate, HLN.out]⟩
      have HR := Lib.hid hrun
      clear hY hrun hP hb9
      go_upto_region 12 with fail
      have hrun := HR.out
      go_wp2_with (at_builtin; refine wpList_app rfl _ _ 22 rfl _ _ _ _ rfl rfl hrun ?_)
      go_ret2
      exact ⟨HF.out.1, .inl ⟨_, A2, c2, HF.out.2.1, by rw [HF.out.2.2.2] <;> rfl, by rw [HF.out.2.2.2]; exact HF.out.2.2.1⟩⟩
set_option maxRecDepth 20000 in
set_option maxHeartbeats 8000000 in
theorem opened_tame2 {F : Nat → Prop} (k : Nat) (nm : List UInt8) (m : Int) (mn : Nat) (p : Ty) (ps : List Ty) (A : Option Addr) (n c q : Nat) (w : World) (hA : PAt F w A n c (p :: ps)) (hQ : Blk w q 65 #[.int .u8 (k : Int), .string (str nm), .int .i64 m, .int .i64 (mn : Int)]) (hn : n ≤ 100000) (hmn : mn ≤ 100000) (hw : p.wild = false) (hc : c ≠ 1) :
    Calls Try.prog 33 #[.slice A n c, .pointer (some ⟨q, 0, none⟩)] w (OpenedP F ⟨k, nm, m, mn⟩ (p :: ps) w) := by
  have hcap := hA.cap
  have hn1 : 1 ≤ n := by have := hA.len; simp at this; omega
  have hle := hA.le
  unfold maxLen at hcap
  obtain ⟨b, off, A', c', rfl, _, hbl, z0, z1, z2, z3, hok, hlc, hcm, hAt⟩ := hA.at_.get (r := 0) (t := p) rfl
  simp only [Nat.zero_mul, Nat.add_zero] at z0 z1 z2 z3
  obtain ⟨tl, htl⟩ : ∃ tl, p.ks.length = tl := ⟨_, rfl⟩
  rw [htl] at z3
  obtain ⟨w6, hw6⟩ : ∃ w6, w.alloc (.cells #[.int .u8 (p.k : Int), .string (str p.nm), .int .i64 p.n, .slice A' tl c'] 40) = w6 := ⟨_, rfl⟩
  have hb6 : Below w.heap.size w w6 := by rw [← hw6]; exact (Below.refl _ _).alloc (Nat.le_refl _) _
  have hs6 : w6.heap.size = w.heap.size + 1 := by rw [← hw6]; simp
  have hB6 : Blk w6 w.heap.size 40 #[.int .u8 (p.k : Int), .string (str p.nm), .int .i64 p.n, .slice A' tl c'] := by rw [← hw6]; exact Blk.new _ _ _
  obtain ⟨w7, hw7⟩ : ∃ w7, w6.alloc (.cells (madeCells #[.int .u8 0, .string ⟨#[]⟩, .int .i64 0, .slice none 0 0] ((mn + n) * 4)) 40) = w7 := ⟨_, rfl⟩
  have hmk := run_mkP mn (mn + n) (by omega) (by omega) w6
  rw [hw7, hs6] at hmk
  rw [show (((mn + n : Nat)) : Int) = (mn : Int) + (n : Int) by push_cast; rfl] at hmk
  have hb7 : Below w6.heap.size w6 w7 := by rw [← hw7]; exact (Below.refl _ _).alloc (Nat.le_refl _) _
  have hR7 : KRow F w7 (w.heap.size + 1) (mn + n) [] := by
    refine ⟨⟨_, by rw [← hs6, ← hw7]; exact Blk.new _ _ _, size_madeCells _ _, fun r j e v hr => by simp at hr⟩, fun e he => by cases he⟩
  have hw7b : Below w.heap.size w w7 := hb6.trans (hb7.mono hb6.size)
  have hB7 := hB6.below hb7 hB6.lt
  have hQ6 := hQ.below hb6 hQ.lt
  have hQ7 := hQ.below hw7b hQ.lt
  have q0 := hQ6.cell 3
  have y0 := hB7.cell 0
  have y1 := hB7.cell 1
  have y2 := hB7.cell 2
  have y3 := hB7.cell 3
  simp only [List.getElem?_toArray, List.getElem?_cons_zero, List.getElem?_cons_succ] at q0 y0 y1 y2 y3
  have HC := isWild_any p A' c' w7
  unfold Ty.val at HC
  rw [htl, hw] at HC
  replace HC := Lib.hid HC
  have hd3 : 0 < n := by omega
  have hmm : mn ≤ 9223372036854775807 := by omega
  have hd1 : (1 : Int) ≤ (n : Int) := by omega
  have hd2 : (n : Int) ≤ (c : Int) := by omega
  have HAP : Hid (∀ (w8 : World) (es : List Te) (g cap : Nat), w.heap.size ≤ g → Below w.heap.size w w8 → KRow F w8 g cap es → es.length ≤ cap → cap ≤ 500000 → ∃ A' c' w', (Builtin.append_ #[22, 22] 22 #[.slice (some ⟨g, 0, none⟩) es.length cap, .slice (some ⟨b, off + 4, none⟩) (n - 1) (c - 1)]).run Try.prog w8 = .ok (.slice A' (es.length + (n - 1)) c') w' ∧ PAt (fun b => F b ∨ w.heap.size ≤ b) w' A' (es.length + (n - 1)) c' (es.map Te.t ++ ps) ∧ Below w.heap.size w w') := Lib.hid fun w8 es g cap hg hb hK hl hcap2 => opened_app hA hg hb hK hl hcap2 hn ⟨b, off + 4, none⟩ (fun _ => rfl) (c - 1)
  have HQ7 := Lib.hid (And.intro hQ7 (And.intro hB7 (And.intro hw7b hR7)))
  have HLN : Hid (ps.length = n - 1) := Lib.hid (by have := hA.len; simp at this; omega)
  have hat : Ty.At (fun b => F b ∧ b ≠ w.heap.size + 1) w A' p.ks := hAt.bnd.mono fun k hk => ⟨hk.1, by have := hk.2; omega⟩
  have HHD := Lib.hid (And.intro hw (And.intro htl (And.intro (hAt.bel hw7b) (And.intro hlc hcm))))
  clear hb6 hB6 hb7 hR7 hw7b hB7 hQ hQ6 hQ7 hA hw htl hok hlc hcm hAt hcap hle hbl
  have HW7 := Lib.hid hw7
  clear hw7
  go_enter Try.func33, Try.ntmps33
  go_upto_region 2 with fail
  (try rw [hw6])
  clear hw6 z0 z1 z2 z3
  go_upto_region 4 with fail
  clear hmk q0
  go_wp2_with fail
  refine HC.out.mono ?_
  rintro e w8 ⟨rfl, hb8⟩
  have HX8 : Hid (Below w7.heap.size w7 w8) := Lib.hid hb8
  clear hb8 HC y0 y1 y2 y3
  have HAt := Lib.hid hat
  clear hat
  have z := HQ7.out.1.below HX8.out HQ7.out.1.lt
  have y := HQ7.out.2.1.below HX8.out HQ7.out.2.1.lt
  have HX : Hid (∀ W, Below w8.heap.size w8 W → (W.cell? ⟨w.heap.size, 0, none⟩ = some (.int .u8 (p.k : Int)) ∧ W.cell? ⟨w.heap.size, 1, none⟩ = some (.string (str p.nm)) ∧ W.cell? ⟨w.heap.size, 2, none⟩ = some (.int .i64 p.n) ∧ W.cell? ⟨w.heap.size, 3, none⟩ = some (.slice A' tl c')) ∧ W.cell? ⟨q, 0, none⟩ = some (.int .u8 (k : Int)) ∧ W.cell? ⟨q, 1, none⟩ = some (.string (str nm)) ∧ W.cell? ⟨q, 2, none⟩ = some (.int .i64 m) ∧ W.cell? ⟨q, 3, none⟩ = some (.int .i64 (mn : Int))) := Lib.hid fun W hW => ⟨⟨(y.below hW y.lt).cell 0, (y.below hW y.lt).cell 1, (y.below hW y.lt).cell 2, (y.below hW y.lt).cell 3⟩, (z.below hW z.lt).cell 0, (z.below hW z.lt).cell 1, (z.below hW z.lt).cell 2, (z.below hW z.lt).cell 3⟩
  clear y z
  obtain ⟨⟨k2, nm2, m2, mn2⟩, hph⟩ : ∃ h2, p.head = h2 := ⟨_, rfl⟩
  have HD := headOf_any p A' c' w8.drew
  unfold Ty.val at HD
  rw [HHD.out.2.1, hph] at HD
  unfold Head.val at HD
  dsimp only at HD
  replace HD := Lib.hid HD
  have HPH := Lib.hid hph
  clear hph
  rcases five k2 k nm2 nm m2 m mn2 mn with ⟨rfl, rfl, rfl, rfl⟩ | hne | ⟨rfl, hne⟩ | ⟨rfl, rfl, hne⟩ | ⟨rfl, rfl, rfl, hne⟩
  · have hmk2 : p.ks.length = mn2 := by have := congrArg Head.many HPH.out; exact this
    have htm : tl = mn2 := by rw [← HHD.out.2.1]; exact hmk2
    subst htm
    go_upto_region 10 with fail
    go_region_held3 (fun W => (W.cell? ⟨w.heap.size, 0, none⟩ = some (.int .u8 (p.k : Int)) ∧ W.cell? ⟨w.heap.size, 1, none⟩ = some (.string (str p.nm)) ∧ W.cell? ⟨w.heap.size, 2, none⟩ = some (.int .i64 p.n) ∧ W.cell? ⟨w.heap.size, 3, none⟩ = some (.slice A' tl c')) ∧ W.cell? ⟨q, 0, none⟩ = some (.int .u8 (k2 : Int)) ∧ W.cell? ⟨q, 1, none⟩ = some (.string (str nm2)) ∧ W.cell? ⟨q, 2, none⟩ = some (.int .i64 m2) ∧ W.cell? ⟨q, 3, none⟩ = some (.int .i64 (tl : Int)))
      (first | exact HX.out _ (Below.refl _ w8).drew | exact HX.out _ hw9)
      (first | (go_at_call 28; refine Calls.mono HD.out ?_; rintro e w9 ⟨rfl, hb9⟩; have hw9 : Below w8.heap.size w8 w9 := (Below.refl _ w8).drew.trans hb9))
    all_goals
      obtain ⟨w10, es, hcp, hK10, hE1, hE2, ho10⟩ := copy_kids (c' := c') (HQ7.out.2.2.2.bel (HX8.out.trans (hw9.mono HX8.out.size))) (HAt.out.bel (HQ7.out.2.2.1.trans ((HX8.out.trans (hw9.mono HX8.out.size)).mono HQ7.out.2.2.1.size))) HHD.out.2.1 (by omega)
      have hb10 : Below w.heap.size w w10 := (HQ7.out.2.2.1.trans ((HX8.out.trans (hw9.mono HX8.out.size)).mono HQ7.out.2.2.1.size)).trans (ho10.below (B := w.heap.size) (HQ7.out.2.2.1.trans ((HX8.out.trans (hw9.mono HX8.out.size)).mono HQ7.out.2.2.1.size)).size (fun g e => by omega))
      obtain ⟨A2, c2, w11, hrun, hP, hb11⟩ := HAP.out w10 es (w.heap.size + 1) _ (Nat.le_succ _) hb10 hK10 (by omega) (by omega)
      rw [hE2] at hrun hP
      rw [hE1] at hP
      have HF : Hid (Below w.heap.size w w11 ∧ opened ⟨k2, nm2, m2, tl⟩ (p :: ps) = some (p.ks ++ ps) ∧ PAt (fun b => F b ∨ w.heap.size ≤ b) w11 A2 (tl + (n - 1)) c2 (p.ks ++ ps) ∧ (p.ks ++ ps).length = tl + (n - 1)) := Lib.hid ⟨hb11, by rw [opened_cons, HHD.out.1, HPH.out]; simp, hP, by rw [List.length_append, HHD.out.2.1, HLN.out]⟩
      have HR := Lib.hid hrun
      have HCPX := Lib.hid hcp
      have y3 := (HX.out _ hw9).1.2.2.2
      clear hrun hP hb11 hb10 hK10 hE1 hE2 ho10 hcp
      go_upto_region 11 with fail
      clear hw9 hb9
      have hcp := HCPX.out
      go_upto_region 12 with fail
      clear hcp y3
      have hrun := HR.out
      go_wp2_with (at_builtin; refine wpList_app rfl _ _ 22 rfl _ _ _ _ rfl rfl hrun ?_)
      go_ret2
      exact ⟨HF.out.1, .inl ⟨_, A2, c2, HF.out.2.1, by rw [HF.out.2.2.2] <;> rfl, by rw [HF.out.2.2.2]; exact HF.out.2.2.1⟩⟩
  · have HQN : Hid (¬ (⟨k2, nm2, m2, mn2⟩ : Head) = ⟨k, nm, m, mn⟩) := Lib.hid (fun e => hne (by injection e))
    have hne2 : ¬ ((k2 : Int) = (k : Int)) := by omega
    clear hne
    go_upto_region 10 with fail
    go_region_held3 (fun W => (W.cell? ⟨w.heap.size, 0, none⟩ = some (.int .u8 (p.k : Int)) ∧ W.cell? ⟨w.heap.size, 1, none⟩ = some (.string (str p.nm)) ∧ W.cell? ⟨w.heap.size, 2, none⟩ = some (.int .i64 p.n) ∧ W.cell? ⟨w.heap.size, 3, none⟩ = some (.slice A' tl c')) ∧ W.cell? ⟨q, 0, none⟩ = some (.int .u8 (k : Int)) ∧ W.cell? ⟨q, 1, none⟩ = some (.string (str nm)) ∧ W.cell? ⟨q, 2, none⟩ = some (.int .i64 m) ∧ W.cell? ⟨q, 3, none⟩ = some (.int .i64 (mn : Int)))
      (first | exact HX.out _ (Below.refl _ w8).drew | exact HX.out _ hw9)
      (first | (go_at_call 28; refine Calls.mono HD.out ?_; rintro e w9 ⟨rfl, hb9⟩; have hw9 : Below w8.heap.size w8 w9 := (Below.refl _ w8).drew.trans hb9))
    all_goals
      have HF : Hid (Below w.heap.size w w9 ∧ opened ⟨k, nm, m, mn⟩ (p :: ps) = none) := Lib.hid ⟨HQ7.out.2.2.1.trans ((HX8.out.trans (hw9.mono HX8.out.size)).mono HQ7.out.2.2.1.size), by
        rw [opened_cons, HHD.out.1, HPH.out]
        simp only [Bool.false_eq_true, if_false]
        rw [if_neg HQN.out]⟩
      clear hw9 hb9
      go_wp2_with fail
      go_ret2
      exact ⟨HF.out.1, .inr ⟨HF.out.2, rfl⟩⟩
  · have HQN : Hid (¬ (⟨k2, nm2, m2, mn2⟩ : Head) = ⟨k2, nm, m, mn⟩) := Lib.hid (fun e => hne (by injection e))
    have hne2 : ¬ ((str nm2).toList = (str nm).toList) := by rw [str_toList, str_toList]; exact hne
    clear hne
    go_upto_region 10 with fail
    go_region_held3 (fun W => (W.cell? ⟨w.heap.size, 0, none⟩ = some (.int .u8 (p.k : Int)) ∧ W.cell? ⟨w.heap.size, 1, none⟩ = some (.string (str p.nm)) ∧ W.cell? ⟨w.heap.size, 2, none⟩ = some (.int .i64 p.n) ∧ W.cell? ⟨w.heap.size, 3, none⟩ = some (.slice A' tl c')) ∧ W.cell? ⟨q, 0, none⟩ = some (.int .u8 (k2 : Int)) ∧ W.cell? ⟨q, 1, none⟩ = some (.string (str nm)) ∧ W.cell? ⟨q, 2, none⟩ = some (.int .i64 m) ∧ W.cell? ⟨q, 3, none⟩ = some (.int .i64 (mn : Int)))
      (first | exact HX.out _ (Below.refl _ w8).drew | exact HX.out _ hw9)
      (first | (go_at_call 28; refine Calls.mono HD.out ?_; rintro e w9 ⟨rfl, hb9⟩; have hw9 : Below w8.heap.size w8 w9 := (Below.refl _ w8).drew.trans hb9))
    all_goals
      have HF : Hid (Below w.heap.size w w9 ∧ opened ⟨k2, nm, m, mn⟩ (p :: ps) = none) := Lib.hid ⟨HQ7.out.2.2.1.trans ((HX8.out.trans (hw9.mono HX8.out.size)).mono HQ7.out.2.2.1.size), by
        rw [opened_cons, HHD.out.1, HPH.out]
        simp only [Bool.false_eq_true, if_false]
        rw [if_neg HQN.out]⟩
      clear hw9 hb9
      go_wp2_with fail
      go_ret2
      exact ⟨HF.out.1, .inr ⟨HF.out.2, rfl⟩⟩
  · have HQN : Hid (¬ (⟨k2, nm2, m2, mn2⟩ : Head) = ⟨k2, nm2, m, mn⟩) := Lib.hid (fun e => hne (by injection e))
    have hne2 : ¬ (m2 = m) := hne
    clear hne
    go_upto_region 10 with fail
    go_region_held3 (fun W => (W.cell? ⟨w.heap.size, 0, none⟩ = some (.int .u8 (p.k : Int)) ∧ W.cell? ⟨w.heap.size, 1, none⟩ = some (.string (str p.nm)) ∧ W.cell? ⟨w.heap.size, 2, none⟩ = some (.int .i64 p.n) ∧ W.cell? ⟨w.heap.size, 3, none⟩ = some (.slice A' tl c')) ∧ W.cell? ⟨q, 0, none⟩ = some (.int .u8 (k2 : Int)) ∧ W.cell? ⟨q, 1, none⟩ = some (.string (str nm2)) ∧ W.cell? ⟨q, 2, none⟩ = some (.int .i64 m) ∧ W.cell? ⟨q, 3, none⟩ = some (.int .i64 (mn : Int)))
      (first | exact HX.out _ (Below.refl _ w8).drew | exact HX.out _ hw9)
      (first | (go_at_call 28; refine Calls.mono HD.out ?_; rintro e w9 ⟨rfl, hb9⟩; have hw9 : Below w8.heap.size w8 w9 := (Below.refl _ w8).drew.trans hb9))
    all_goals
      have HF : Hid (Below w.heap.size w w9 ∧ opened ⟨k2, nm2, m, mn⟩ (p :: ps) = none) := Lib.hid ⟨HQ7.out.2.2.1.trans ((HX8.out.trans (hw9.mono HX8.out.size)).mono HQ7.out.2.2.1.size), by
        rw [opened_cons, HHD.out.1, HPH.out]
        simp only [Bool.false_eq_true, if_false]
        rw [if_neg HQN.out]⟩
      clear hw9 hb9
      go_wp2_with fail
      go_ret2
      exact ⟨HF.out.1, .inr ⟨HF.out.2, rfl⟩⟩
  · have HQN : Hid (¬ (⟨k2, nm2, m2, mn2⟩ : Head) = ⟨k2, nm2, m2, mn⟩) := Lib.hid (fun e => hne (by injection e))
    have hne2 : ¬ ((mn2 : Int) = (mn : Int)) := by omega
    clear hne
    go_upto_region 10 with fail
    go_region_held3 (fun W => (W.cell? ⟨w.heap.size, 0, none⟩ = some (.int .u8 (p.k : Int)) ∧ W.cell? ⟨w.heap.size, 1, none⟩ = some (.string (str p.nm)) ∧ W.cell? ⟨w.heap.size, 2, none⟩ = some (.int .i64 p.n) ∧ W.cell? ⟨w.heap.size, 3, none⟩ = some (.slice A' tl c')) ∧ W.cell? ⟨q, 0, none⟩ = some (.int .u8 (k2 : Int)) ∧ W.cell? ⟨q, 1, none⟩ = some (.string (str nm2)) ∧ W.cell? ⟨q, 2, none⟩ = some (.int .i64 m2) ∧ W.cell? ⟨q, 3, none⟩ = some (.int .i64 (mn : Int)))
      (first | exact HX.out _ (Below.refl _ w8).drew | exact HX.out _ hw9)
      (first | (go_at_call 28; refine Calls.mono HD.out ?_; rintro e w9 ⟨rfl, hb9⟩; have hw9 : Below w8.heap.size w8 w9 := (Below.refl _ w8).drew.trans hb9))
    all_goals
      have HF : Hid (Below w.heap.size w w9 ∧ opened ⟨k2, nm2, m2, mn⟩ (p :: ps) = none) := Lib.hid ⟨HQ7.out.2.2.1.trans ((HX8.out.trans (hw9.mono HX8.out.size)).mono HQ7.out.2.2.1.size), by
        rw [opened_cons, HHD.out.1, HPH.out]
        simp only [Bool.false_eq_true, if_false]
        rw [if_neg HQN.out]⟩
      clear hw9 hb9
      go_wp2_with fail
      go_ret2
      exact ⟨HF.out.1, .inr ⟨HF.out.2, rfl⟩⟩
set_option maxRecDepth 20000 in
set_option maxHeartbeats 8000000 in
theorem opened_tame1 {F : Nat → Prop} (k : Nat) (nm : List UInt8) (m : Int) (mn : Nat) (p : Ty) (ps : List Ty) (A : Option Addr) (q : Nat) (w : World) (hA : PAt F w A 1 1 (p :: ps)) (hQ : Blk w q 65 #[.int .u8 (k : Int), .string (str nm), .int .i64 m, .int .i64 (mn : Int)]) (hmn : mn ≤ 100000) (hw : p.wild = false) :
    Calls Try.prog 33 #[.slice A 1 1, .pointer (some ⟨q, 0, none⟩)] w (OpenedP F ⟨k, nm, m, mn⟩ (p :: ps) w) := by
  have hcap := hA.cap
  have hle := hA.le
  unfold maxLen at hcap
  obtain ⟨b, off, A', c', rfl, _, hbl, z0, z1, z2, z3, hok, hlc, hcm, hAt⟩ := hA.at_.get (r := 0) (t := p) rfl
  simp only [Nat.zero_mul, Nat.add_zero] at z0 z1 z2 z3
  obtain ⟨tl, htl⟩ : ∃ tl, p.ks.length = tl := ⟨_, rfl⟩
  rw [htl] at z3
  obtain ⟨w6, hw6⟩ : ∃ w6, w.alloc (.cells #[.int .u8 (p.k : Int), .string (str p.nm), .int .i64 p.n, .slice A' tl c'] 40) = w6 := ⟨_, rfl⟩
  have hb6 : Below w.heap.size w w6 := by rw [← hw6]; exact (Below.refl _ _).alloc (Nat.le_refl _) _
  have hs6 : w6.heap.size = w.heap.size + 1 := by rw [← hw6]; simp
  have hB6 : Blk w6 w.heap.size 40 #[.int .u8 (p.k : Int), .string (str p.nm), .int .i64 p.n, .slice A' tl c'] := by rw [← hw6]; exact Blk.new _ _ _
  obtain ⟨w7, hw7⟩ : ∃ w7, w6.alloc (.cells (madeCells #[.int .u8 0, .string ⟨#[]⟩, .int .i64 0, .slice none 0 0] ((mn + 1) * 4)) 40) = w7 := ⟨_, rfl⟩
  have hmk := run_mkP mn (mn + 1) (by omega) (by omega) w6
  rw [hw7, hs6] at hmk
  rw [show (((mn + 1 : Nat)) : Int) = (mn : Int) + 1 by push_cast; rfl] at hmk
  have hb7 : Below w6.heap.size w6 w7 := by rw [← hw7]; exact (Below.refl _ _).alloc (Nat.le_refl _) _
  have hR7 : KRow F w7 (w.heap.size + 1) (mn + 1) [] := by
    refine ⟨⟨_, by rw [← hs6, ← hw7]; exact Blk.new _ _ _, size_madeCells _ _, fun r j e v hr => by simp at hr⟩, fun e he => by cases he⟩
  have hw7b : Below w.heap.size w w7 := hb6.trans (hb7.mono hb6.size)
  have hB7 := hB6.below hb7 hB6.lt
  have hQ6 := hQ.below hb6 hQ.lt
  have hQ7 := hQ.below hw7b hQ.lt
  have q0 := hQ6.cell 3
  have y0 := hB7.cell 0
  have y1 := hB7.cell 1
  have y2 := hB7.cell 2
  have y3 := hB7.cell 3
  simp only [List.getElem?_toArray, List.getElem?_cons_zero, List.getElem?_cons_succ] at q0 y0 y1 y2 y3
  have HC := isWild_any p A' c' w7
  unfold Ty.val at HC
  rw [htl, hw] at HC
  replace HC := Lib.hid HC
  have hmm : mn ≤ 9223372036854775807 := by omega
  have HAP : Hid (∀ (w8 : World) (es : List Te) (g cap : Nat), w.heap.size ≤ g → Below w.heap.size w w8 → KRow F w8 g cap es → es.length ≤ cap → cap ≤ 500000 → ∃ A' c' w', (Builtin.append_ #[22, 22] 22 #[.slice (some ⟨g, 0, none⟩) es.length cap, .slice (some ⟨b, off, none⟩) 0 0]).run Try.prog w8 = .ok (.slice A' (es.length + 0) c') w' ∧ PAt (fun b => F b ∨ w.heap.size ≤ b) w' A' (es.length + 0) c' (es.map Te.t ++ ps) ∧ Below w.heap.size w w') := Lib.hid fun w8 es g cap hg hb hK hl hcap2 => opened_app hA hg hb hK hl hcap2 (by omega) ⟨b, off, none⟩ (fun h => absurd rfl h) 0
  have HQ7 := Lib.hid (And.intro hQ7 (And.intro hB7 (And.intro hw7b hR7)))
  have HLN : Hid (ps.length = 0) := Lib.hid (by have := hA.len; simpa using this)
  have hat : Ty.At (fun b => F b ∧ b ≠ w.heap.size + 1) w A' p.ks := hAt.bnd.mono fun k hk => ⟨hk.1, by have := hk.2; omega⟩
  have HHD := Lib.hid (And.intro hw (And.intro htl (And.intro (hAt.bel hw7b) (And.intro hlc hcm))))
  clear hb6 hB6 hb7 hR7 hw7b hB7 hQ hQ6 hQ7 hA hw htl hok hlc hcm hAt hcap hle hbl
  have HW7 := Lib.hid hw7
  clear hw7
  go_enter Try.func33, Try.ntmps33
  go_upto_region 2 with fail
  (try rw [hw6])
  clear hw6 z0 z1 z2 z3
  go_upto_region 4 with fail
  clear hmk q0
  go_wp2_with fail
  refine HC.out.mono ?_
  rintro e w8 ⟨rfl, hb8⟩
  have HX8 : Hid (Below w7.heap.size w7 w8) := Lib.hid hb8
  clear hb8 HC y0 y1 y2 y3
  have HAt := Lib.hid hat
  clear hat
  have z := HQ7.out.1.below HX8.out HQ7.out.1.lt
  have y := HQ7.out.2.1.below HX8.out HQ7.out.2.1.lt
  have HX : Hid (∀ W, Below w8.heap.size w8 W → (W.cell? ⟨w.heap.size, 0, none⟩ = some (.int .u8 (p.k : Int)) ∧ W.cell? ⟨w.heap.size, 1, none⟩ = some (.string (str p.nm)) ∧ W.cell? ⟨w.heap.size, 2, none⟩ = some (.int .i64 p.n) ∧ W.cell? ⟨w.heap.size, 3, none⟩ = some (.slice A' tl c')) ∧ W.cell? ⟨q, 0, none⟩ = some (.int .u8 (k : Int)) ∧ W.cell? ⟨q, 1, none⟩ = some (.string (str nm)) ∧ W.cell? ⟨q, 2, none⟩ = some (.int .i64 m) ∧ W.cell? ⟨q, 3, none⟩ = some (.int .i64 (mn : Int))) := Lib.hid fun W hW => ⟨⟨(y.below hW y.lt).cell 0, (y.below hW y.lt).cell 1, (y.below hW y.lt).cell 2, (y.below hW y.lt).cell 3⟩, (z.below hW z.lt).cell 0, (z.below hW z.lt).cell 1, (z.below hW z.lt).cell 2, (z.below hW z.lt).cell 3⟩
  clear y z
  obtain ⟨⟨k2, nm2, m2, mn2⟩, hph⟩ : ∃ h2, p.head = h2 := ⟨_, rfl⟩
  have HD := headOf_any p A' c' w8.drew
  unfold Ty.val at HD
  rw [HHD.out.2.1, hph] at HD
  unfold Head.val at HD
  dsimp only at HD
  replace HD := Lib.hid HD
  have HPH := Lib.hid hph
  clear hph
  rcases five k2 k nm2 nm m2 m mn2 mn with ⟨rfl, rfl, rfl, rfl⟩ | hne | ⟨rfl, hne⟩ | ⟨rfl, rfl, hne⟩ | ⟨rfl, rfl, rfl, hne⟩
  · have hmk2 : p.ks.length = mn2 := by have := congrArg Head.many HPH.out; exact this
    have htm : tl = mn2 := by rw [← HHD.out.2.1]; exact hmk2
    subst htm
    go_upto_region 10 with fail
    go_region_held3 (fun W => (W.cell? ⟨w.heap.size, 0, none⟩ = some (.int .u8 (p.k : Int)) ∧ W.cell? ⟨w.heap.size, 1, none⟩ = some (.string (str p.nm)) ∧ W.cell? ⟨w.heap.size, 2, none⟩ = some (.int .i64 p.n) ∧ W.cell? ⟨w.heap.size, 3, none⟩ = some (.slice A' tl c')) ∧ W.cell? ⟨q, 0, none⟩ = some (.int .u8 (k2 : Int)) ∧ W.cell? ⟨q, 1, none⟩ = some (.string (str nm2)) ∧ W.cell? ⟨q, 2, none⟩ = some (.int .i64 m2) ∧ W.cell? ⟨q, 3, none⟩ = some (.int .i64 (tl : Int)))
      (first | exact HX.out _ (Below.refl _ w8).drew | exact HX.out _ hw9)
      (first | (go_at_call 28; refine Calls.mono HD.out ?_; rintro e w9 ⟨rfl, hb9⟩; have hw9 : Below w8.heap.size w8 w9 := (Below.refl _ w8).drew.trans hb9))
    all_goals
      obtain ⟨w10, es, hcp, hK10, hE1, hE2, ho10⟩ := copy_kids (c' := c') (HQ7.out.2.2.2.bel (HX8.out.trans (hw9.mono HX8.out.size))) (HAt.out.bel (HQ7.out.2.2.1.trans ((HX8.out.trans (hw9.mono HX8.out.size)).mono HQ7.out.2.2.1.size))) HHD.out.2.1 (by omega)
      have hb10 : Below w.heap.size w w10 := (HQ7.out.2.2.1.trans ((HX8.out.trans (hw9.mono HX8.out.size)).mono HQ7.out.2.2.1.size)).trans (ho10.below (B := w.heap.size) (HQ7.out.2.2.1.trans ((HX8.out.trans (hw9.mono HX8.out.size)).mono HQ7.out.2.2.1.size)).size (fun g e => by omega))
      obtain ⟨A2, c2, w11, hrun, hP, hb11⟩ := HAP.out w10 es (w.heap.size + 1) _ (Nat.le_succ _) hb10 hK10 (by omega) (by omega)
      rw [hE2] at hrun hP
      rw [hE1] at hP
      have HF : Hid (Below w.heap.size w w11 ∧ opened ⟨k2, nm2, m2, tl⟩ (p :: ps) = some (p.ks ++ ps) ∧ PAt (fun b => F b ∨ w.heap.size ≤ b) w11 A2 (tl + 0) c2 (p.ks ++ ps) ∧ (p.ks ++ ps).length = tl + 0) := Lib.hid ⟨hb11, by rw [opened_cons, HHD.out.1, HPH.out]; simp, hP, by rw [List.length_append, HHD.out.2.1, HLN.out]⟩
      have HR := Lib.hid hrun
      have HCPX := Lib.hid hcp
      have y3 := (HX.out _ hw9).1.2.2.2
      clear hrun hP hb11 hb10 hK10 hE1 hE2 ho10 hcp
      go_upto_region 11 with fail
      clear hw9 hb9
      have hcp := HCPX.out
      go_upto_region 12 with fail
      clear hcp y3
      have hrun := HR.out
      go_wp2_with (at_builtin; refine wpList_app rfl _ _ 22 rfl _ _ _ _ rfl rfl hrun ?_)
      go_ret2
      exact ⟨HF.out.1, .inl ⟨_, A2, c2, HF.out.2.1, by rw [HF.out.2.2.2] <;> rfl, by rw [HF.out.2.2.2]; exact HF.out.2.2.1⟩⟩
  · have HQN : Hid (¬ (⟨k2, nm2, m2, mn2⟩ : Head) = ⟨k, nm, m, mn⟩) := Lib.hid (fun e => hne (by injection e))
    have hne2 : ¬ ((k2 : Int) = (k : Int)) := by omega
    clear hne
    go_upto_region 10 with fail
    go_region_held3 (fun W => (W.cell? ⟨w.heap.size, 0, none⟩ = some (.int .u8 (p.k : Int)) ∧ W.cell? ⟨w.heap.size, 1, none⟩ = some (.string (str p.nm)) ∧ W.cell? ⟨w.heap.size, 2, none⟩ = some (.int .i64 p.n) ∧ W.cell? ⟨w.heap.size, 3, none⟩ = some (.slice A' tl c')) ∧ W.cell? ⟨q, 0, none⟩ = some (.int .u8 (k : Int)) ∧ W.cell? ⟨q, 1, none⟩ = some (.string (str nm)) ∧ W.cell? ⟨q, 2, none⟩ = some (.int .i64 m) ∧ W.cell? ⟨q, 3, none⟩ = some (.int .i64 (mn : Int)))
      (first | exact HX.out _ (Below.refl _ w8).drew | exact HX.out _ hw9)
      (first | (go_at_call 28; refine Calls.mono HD.out ?_; rintro e w9 ⟨rfl, hb9⟩; have hw9 : Below w8.heap.size w8 w9 := (Below.refl _ w8).drew.trans hb9))
    all_goals
      have HF : Hid (Below w.heap.size w w9 ∧ opened ⟨k, nm, m, mn⟩ (p :: ps) = none) := Lib.hid ⟨HQ7.out.2.2.1.trans ((HX8.out.trans (hw9.mono HX8.out.size)).mono HQ7.out.2.2.1.size), by
        rw [opened_cons, HHD.out.1, HPH.out]
        simp only [Bool.false_eq_true, if_false]
        rw [if_neg HQN.out]⟩
      clear hw9 hb9
      go_wp2_with fail
      go_ret2
      exact ⟨HF.out.1, .inr ⟨HF.out.2, rfl⟩⟩
  · have HQN : Hid (¬ (⟨k2, nm2, m2, mn2⟩ : Head) = ⟨k2, nm, m, mn⟩) := Lib.hid (fun e => hne (by injection e))
    have hne2 : ¬ ((str nm2).toList = (str nm).toList) := by rw [str_toList, str_toList]; exact hne
    clear hne
    go_upto_region 10 with fail
    go_region_held3 (fun W => (W.cell? ⟨w.heap.size, 0, none⟩ = some (.int .u8 (p.k : Int)) ∧ W.cell? ⟨w.heap.size, 1, none⟩ = some (.string (str p.nm)) ∧ W.cell? ⟨w.heap.size, 2, none⟩ = some (.int .i64 p.n) ∧ W.cell? ⟨w.heap.size, 3, none⟩ = some (.slice A' tl c')) ∧ W.cell? ⟨q, 0, none⟩ = some (.int .u8 (k2 : Int)) ∧ W.cell? ⟨q, 1, none⟩ = some (.string (str nm)) ∧ W.cell? ⟨q, 2, none⟩ = some (.int .i64 m) ∧ W.cell? ⟨q, 3, none⟩ = some (.int .i64 (mn : Int)))
      (first | exact HX.out _ (Below.refl _ w8).drew | exact HX.out _ hw9)
      (first | (go_at_call 28; refine Calls.mono HD.out ?_; rintro e w9 ⟨rfl, hb9⟩; have hw9 : Below w8.heap.size w8 w9 := (Below.refl _ w8).drew.trans hb9))
    all_goals
      have HF : Hid (Below w.heap.size w w9 ∧ opened ⟨k2, nm, m, mn⟩ (p :: ps) = none) := Lib.hid ⟨HQ7.out.2.2.1.trans ((HX8.out.trans (hw9.mono HX8.out.size)).mono HQ7.out.2.2.1.size), by
        rw [opened_cons, HHD.out.1, HPH.out]
        simp only [Bool.false_eq_true, if_false]
        rw [if_neg HQN.out]⟩
      clear hw9 hb9
      go_wp2_with fail
      go_ret2
      exact ⟨HF.out.1, .inr ⟨HF.out.2, rfl⟩⟩
  · have HQN : Hid (¬ (⟨k2, nm2, m2, mn2⟩ : Head) = ⟨k2, nm2, m, mn⟩) := Lib.hid (fun e => hne (by injection e))
    have hne2 : ¬ (m2 = m) := hne
    clear hne
    go_upto_region 10 with fail
    go_region_held3 (fun W => (W.cell? ⟨w.heap.size, 0, none⟩ = some (.int .u8 (p.k : Int)) ∧ W.cell? ⟨w.heap.size, 1, none⟩ = some (.string (str p.nm)) ∧ W.cell? ⟨w.heap.size, 2, none⟩ = some (.int .i64 p.n) ∧ W.cell? ⟨w.heap.size, 3, none⟩ = some (.slice A' tl c')) ∧ W.cell? ⟨q, 0, none⟩ = some (.int .u8 (k2 : Int)) ∧ W.cell? ⟨q, 1, none⟩ = some (.string (str nm2)) ∧ W.cell? ⟨q, 2, none⟩ = some (.int .i64 m) ∧ W.cell? ⟨q, 3, none⟩ = some (.int .i64 (mn : Int)))
      (first | exact HX.out _ (Below.refl _ w8).drew | exact HX.out _ hw9)
      (first | (go_at_call 28; refine Calls.mono HD.out ?_; rintro e w9 ⟨rfl, hb9⟩; have hw9 : Below w8.heap.size w8 w9 := (Below.refl _ w8).drew.trans hb9))
    all_goals
      have HF : Hid (Below w.heap.size w w9 ∧ opened ⟨k2, nm2, m, mn⟩ (p :: ps) = none) := Lib.hid ⟨HQ7.out.2.2.1.trans ((HX8.out.trans (hw9.mono HX8.out.size)).mono HQ7.out.2.2.1.size), by
        rw [opened_cons, HHD.out.1, HPH.out]
        simp only [Bool.false_eq_true, if_false]
        rw [if_neg HQN.out]⟩
      clear hw9 hb9
      go_wp2_with fail
      go_ret2
      exact ⟨HF.out.1, .inr ⟨HF.out.2, rfl⟩⟩
  · have HQN : Hid (¬ (⟨k2, nm2, m2, mn2⟩ : Head) = ⟨k2, nm2, m2, mn⟩) := Lib.hid (fun e => hne (by injection e))
    have hne2 : ¬ ((mn2 : Int) = (mn : Int)) := by omega
    clear hne
    go_upto_region 10 with fail
    go_region_held3 (fun W => (W.cell? ⟨w.heap.size, 0, none⟩ = some (.int .u8 (p.k : Int)) ∧ W.cell? ⟨w.heap.size, 1, none⟩ = some (.string (str p.nm)) ∧ W.cell? ⟨w.heap.size, 2, none⟩ = some (.int .i64 p.n) ∧ W.cell? ⟨w.heap.size, 3, none⟩ = some (.slice A' tl c')) ∧ W.cell? ⟨q, 0, none⟩ = some (.int .u8 (k2 : Int)) ∧ W.cell? ⟨q, 1, none⟩ = some (.string (str nm2)) ∧ W.cell? ⟨q, 2, none⟩ = some (.int .i64 m2) ∧ W.cell? ⟨q, 3, none⟩ = some (.int .i64 (mn : Int)))
      (first | exact HX.out _ (Below.refl _ w8).drew | exact HX.out _ hw9)
      (first | (go_at_call 28; refine Calls.mono HD.out ?_; rintro e w9 ⟨rfl, hb9⟩; have hw9 : Below w8.heap.size w8 w9 := (Below.refl _ w8).drew.trans hb9))
    all_goals
      have HF : Hid (Below w.heap.size w w9 ∧ opened ⟨k2, nm2, m2, mn⟩ (p :: ps) = none) := Lib.hid ⟨HQ7.out.2.2.1.trans ((HX8.out.trans (hw9.mono HX8.out.size)).mono HQ7.out.2.2.1.size), by
        rw [opened_cons, HHD.out.1, HPH.out]
        simp only [Bool.false_eq_true, if_false]
        rw [if_neg HQN.out]⟩
      clear hw9 hb9
      go_wp2_with fail
      go_ret2
      exact ⟨HF.out.1, .inr ⟨HF.out.2, rfl⟩⟩
end Go.Proofs.Ytigaondgopahgaa
