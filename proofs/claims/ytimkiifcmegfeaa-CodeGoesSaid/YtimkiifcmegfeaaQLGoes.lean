/- The law, walked. -/
import Derived.Test.YtimkiifcmegfeaaBQ
/- code: CodeGoes. -/
namespace Go.Proofs.Ytimkiifcmegfeaa
open Go.RowKit
set_option linter.unusedVariables false
set_option linter.unusedSimpArgs false
attribute [local go_sem] Oper.semAt_some
theorem sum_le {l : List Nat} {x : Nat} (h : x ∈ l) : x ≤ l.sum := by
  induction l with
  | nil => simp at h
  | cons y l ih =>
    rw [List.sum_cons]
    rcases List.mem_cons.1 h with rfl | h
    · omega
    · have := ih h; omega
theorem meas_bounds {cl : Cl} (h : meas cl.cd ≤ 3000) : cl.fs.length ≤ 3000 ∧ cl.rs.length ≤ 3000 ∧ (∀ f ∈ cl.fs, f.is.length ≤ 3000) ∧ (cl.fs.map fun f => f.is.length).sum ≤ 3000 := by
  have h : (cl.fs.map Fe.is).length + cl.rs.length + mF (cl.fs.map Fe.is) + mR cl.rs ≤ 3000 := h
  rw [List.length_map] at h
  have hs : (cl.fs.map fun f => f.is.length).sum ≤ mF (cl.fs.map Fe.is) := by
    unfold mF
    rw [List.map_map]
    generalize cl.fs = l
    induction l with
    | nil => simp
    | cons x l ih =>
      rw [List.map_cons, List.map_cons, List.sum_cons, List.sum_cons]
      show _ ≤ x.is.length + mI x.is + _
      omega
  refine ⟨by omega, by omega, fun f hf => ?_, by omega⟩
  have := sum_le (List.mem_map.2 ⟨f, hf, rfl⟩ : f.is.length ∈ cl.fs.map fun f => f.is.length)
  omega
theorem checkB_pos {cl : Cl} (h : checkB cl.cd = true) : 0 < cl.fs.length := by
  have h : checkB ⟨cl.fs.map Fe.is, cl.rs⟩ = true := h
  unfold checkB at h
  rw [Bool.and_eq_true] at h
  simpa using h.1
/-- The machine as it begins. -/
theorem MM.new {cl : Cl} {fi : Nat} {fst : Int} {A : Option Addr} {wl cw : Nat} {ws : List UInt8} {w : World} (hC : cl.At (fun b => b < w.heap.size) w) (hB : Bytes w A ws) (hA : ∀ p : Addr, A = some p → p.block < w.heap.size) :
    MM ⟨cl, fi, 0, A, wl, cw, ws, w.heap.size⟩ ⟨0, 0, .slice none 0 0, [], 0, false⟩ w ((w.alloc (.cells #[.slice cl.fA cl.fs.length cl.fc, .slice cl.rA cl.rs.length cl.rc, .int .i64 (fi : Int), .int .i64 0, .int .i64 0, .int .i64 0, .slice none 0 0, .slice A wl cw, .int .i64 0, .bool false, .bool false] 53)).drew) := by
  have hb : Below w.heap.size w ((w.alloc (.cells #[.slice cl.fA cl.fs.length cl.fc, .slice cl.rA cl.rs.length cl.rc, .int .i64 (fi : Int), .int .i64 0, .int .i64 0, .int .i64 0, .slice none 0 0, .slice A wl cw, .int .i64 0, .bool false, .bool false] 53)).drew) := ((Below.refl _ _).alloc (Nat.le_refl _) _).drew
  exact ⟨(Blk.new _ _ _).drew, ⟨rfl, .inl ⟨rfl, rfl⟩⟩, hC.bel hb, hB.below hb, hA, Nat.le_refl _, hb⟩
theorem MM.first {c : Mc} {s : Ms} {w wx : World} (h : MM c s w wx) (x : Int) : MM { c with fst := x } s w (wx.setCell ⟨c.g, 3, none⟩ (.int .i64 x)) := by
  have ho := Off.setc wx c.g 3 (.int .i64 x)
  exact ⟨by simpa [mcells] using Blk.set_ h.blk 3 (.int .i64 x), own_same h.own fun k hk => ho.block k (h.own.lt k hk).2 (by have := (h.own.lt k hk).1; omega), h.cl.off ho fun b hlt e => by have := h.lt; have hlt : b < w.heap.size := hlt; omega, h.by_.same ho.size (fun p e hlt => ho.block _ hlt (by have := h.wA p e; have := h.lt; omega)), h.wA, h.lt, h.bel.trans (ho.below h.bel.size fun k e => by have := h.lt; omega)⟩
set_option maxRecDepth 20000 in
set_option maxHeartbeats 8000000 in
theorem goes_law (cl : Cl) (F : Nat) (hF : F < 256) (A1 : Option Addr) (wl cw : Nat) (ws : List UInt8) (w : World) (hC : cl.At (fun b => b < w.heap.size) w) (hL : cl.Light) (hbl : ws.length = wl) (hbA : Bytes w A1 ws) (hbc : wl ≤ cw ∧ cw ≤ maxLen) (hA1 : ∀ p : Addr, A1 = some p → p.block < w.heap.size) :
    Calls Try.prog 7 #[.agg #[.slice cl.fA cl.fs.length cl.fc, .slice cl.rA cl.rs.length cl.rc], .int .u8 (F : Int), .slice A1 wl cw] w fun e w' => e = .returned (.bool true) ∧ Below w.heap.size w w' := by
  obtain ⟨m, hm⟩ : ∃ z, cl.fs.length = z := ⟨_, rfl⟩
  obtain ⟨rk, hrk⟩ : ∃ z, cl.rs.length = z := ⟨_, rfl⟩
  obtain ⟨w0, hw0⟩ : ∃ V, w.alloc (.cells #[.slice cl.fA m cl.fc, .slice cl.rA rk cl.rc] 25) = V := ⟨_, rfl⟩
  have hb0 : Below w.heap.size w w0 := by rw [← hw0]; exact (Below.refl _ _).alloc (Nat.le_refl _) _
  have K0 : Blk w0 w.heap.size 25 #[.slice cl.fA m cl.fc, .slice cl.rA rk cl.rc] := by rw [← hw0]; exact Blk.new _ _ _
  have hC0 := (hC.bel hb0).mono (Y := fun b => b < w0.heap.size) fun b hlt _ => hlt
  have hlg := large_any cl w0 hC0 hL
  rw [hm, hrk]
  rw [hm, hrk] at hlg
  have HW0 := Lib.hid hw0
  have HLG := Lib.hid hlg
  have HI := Lib.hid (And.intro hm (And.intro hrk (And.intro hC (And.intro hb0 (And.intro hbl (And.intro hbA (And.intro hA1 hbc)))))))
  have HK0 := Lib.hid K0
  have HWK := Lib.hid (fun V => works_any V)
  have c0 : w0.cell? ⟨w.heap.size, 0, none⟩ = some (.slice cl.fA m cl.fc) := K0.cell 0
  have c1' : w0.cell? ⟨w.heap.size, 1, none⟩ = some (.slice cl.rA rk cl.rc) := K0.cell 1
  clear hm hrk hw0 hb0 K0 hC0 hlg hC hbl hbA hA1 hbc hL
  go_enter Try.func7, Try.ntmps7
  go_upto_region 1 with fail
  rw [HW0.out]
  go_wp2_with fail
  refine HLG.out.mono ?_
  rintro e w1 ⟨lb, rfl, hlb, hb1⟩
  have HB1 := Lib.hid (HI.out.2.2.2.1.trans (hb1.mono HI.out.2.2.2.1.size))
  have HK1 := Lib.hid (HK0.out.below hb1 HK0.out.lt)
  have HLB := Lib.hid hlb
  clear hb1 hlb HLG HK0 c0 c1'
  cases lb with
  | true =>
    go_wp2_with fail
    refine (HWK.out _).mono ?_
    rintro e w90 ⟨rfl, hb90⟩
    have HB90 := Lib.hid (HB1.out.trans (hb90.mono HB1.out.size))
    clear hb90
    go_wp2_with fail
    go_ret
    exact ⟨rfl, HB90.out⟩
  | false =>
    have hms := meas_bounds (HLB.out rfl)
    have hC1 := ((HI.out.2.2.1.bel HB1.out).mono (Y := fun b => b < w1.heap.size) fun b hlt _ => hlt)
    have hCk := check_any cl w1 hC1 (by omega) (by omega) (by omega)
    rw [HI.out.1, HI.out.2.1] at hCk
    have HCK := Lib.hid hCk
    have HMS := Lib.hid hms
    have c0 : w1.cell? ⟨w.heap.size, 0, none⟩ = some (.slice cl.fA m cl.fc) := HK1.out.cell 0
    have c1' : w1.cell? ⟨w.heap.size, 1, none⟩ = some (.slice cl.rA rk cl.rc) := HK1.out.cell 1
    clear hCk hms hC1 HLB
    go_wp2_with fail
    refine HCK.out.mono ?_
    rintro e w2 ⟨rfl, hb2⟩
    have HB2 := Lib.hid (HB1.out.trans (hb2.mono HB1.out.size))
    have HK2 := Lib.hid (HK1.out.below hb2 HK1.out.lt)
    clear hb2 c0 c1' HCK
    by_cases hk : checkB cl.cd = true
    case neg =>
      rw [if_neg hk]
      clear hk
      go_wp2_with fail
      refine (HWK.out _).mono ?_
      rintro e w90 ⟨rfl, hb90⟩
      have HB90 := Lib.hid (HB2.out.trans (hb90.mono HB2.out.size))
      clear hb90
      go_wp2_with fail
      go_ret
      exact ⟨rfl, HB90.out⟩
    rw [if_pos hk]
    by_cases hl : wl ≤ 1024
    case neg =>
      have d1 : decide ((wl : Int) > 1024) = true := decide_eq_true (by omega)
      clear hk
      go_wp2_with fail
      refine (HWK.out _).mono ?_
      rintro e w90 ⟨rfl, hb90⟩
      have HB90 := Lib.hid (HB2.out.trans (hb90.mono HB2.out.size))
      clear hb90
      go_wp2_with fail
      go_ret
      exact ⟨rfl, HB90.out⟩
    have d1 : decide ((wl : Int) > 1024) = false := decide_eq_false (by omega)
    have hm0 : 0 < m := by rw [← HI.out.1]; exact checkB_pos hk
    have d2 : ((m : Int) == 0) = false := by rw [beq_eq_false_iff_ne]; omega
    obtain ⟨fi, hfi⟩ : ∃ z, F % m = z := ⟨_, rfl⟩
    have hfm : fi < m := by rw [← hfi]; exact Nat.mod_lt _ hm0
    have hmod : (F : Int) % (m : Int) = (fi : Int) := by rw [← hfi]; rfl
    have hmod2 : (F : Int).tmod (m : Int) = (fi : Int) := by rw [← hfi]; rfl
    have hnz : (m : Int) ≠ 0 := by omega
    have hm3 : m ≤ 3000 := by rw [← HI.out.1]; exact HMS.out.1
    obtain ⟨fe, hfe⟩ : ∃ fe, cl.fs[fi]? = some fe := ⟨_, List.getElem?_eq_getElem (by rw [HI.out.1]; exact hfm)⟩
    obtain ⟨fst, hfst⟩ : ∃ z : Int, (if fi = 0 then 0 else 1) = z := ⟨_, rfl⟩
    obtain ⟨g, hg⟩ : ∃ z, w2.heap.size = z := ⟨_, rfl⟩
    obtain ⟨c, hc⟩ : ∃ z : Mc, (⟨cl, fi, fst, A1, wl, cw, ws, g⟩ : Mc) = z := ⟨_, rfl⟩
    obtain ⟨V, gg, hG, hat⟩ : ∃ V gg, Good c V fe.is gg ∧ V.at_[0]? = some (some (fst, 0)) := by
      rw [← hfst, ← hc]
      exact good_of _ fst hk (by rw [HI.out.1]; exact hm3) HMS.out.2.1 HMS.out.2.2.1 hfe hfst.symm
    have hfb : 0 ≤ fst ∧ fst ≤ 1 := by rw [← hfst]; split <;> omega
    have hMb0 : Mb c ⟨0, fst, .slice none 0 0, [], 0, false⟩ := by
      rw [← hc]
      exact ⟨⟨HI.out.2.2.2.2.1, hl⟩, ⟨by show fi ≤ 3000; omega, hfb⟩, by show (0 : Nat) ≤ 200000; decide, by show (0 : Nat) ≤ 401; decide, ⟨hfb.1, by show fst ≤ 4000 * ((0 : Nat) + 1 : Int); omega⟩, Nat.le_refl _, fun x hx => by simp at hx⟩
    have hI0 : Inv V fe.is ⟨0, fst, .slice none 0 0, [], 0, false⟩ := ⟨0, hat, rfl⟩
    have hC2 := ((HI.out.2.2.1.bel HB2.out).mono (Y := fun b => b < w2.heap.size) fun b hlt _ => hlt)
    have hM0 := MM.new (fi := fi) (fst := fst) (wl := wl) (cw := cw) hC2 (HI.out.2.2.2.2.2.1.below HB2.out) (fun p e => Nat.lt_of_lt_of_le (HI.out.2.2.2.2.2.2.1 p e) HB2.out.size)
    rw [HI.out.1, HI.out.2.1] at hM0
    obtain ⟨w3, hw3⟩ : ∃ V, (w2.alloc (.cells #[.slice cl.fA m cl.fc, .slice cl.rA rk cl.rc, .int .i64 (fi : Int), .int .i64 0, .int .i64 0, .int .i64 0, .slice none 0 0, .slice A1 wl cw, .int .i64 0, .bool false, .bool false] 53)).drew = V := ⟨_, rfl⟩
    rw [hw3, hg] at hM0
    have HG := Lib.hid (And.intro hG (And.intro hMb0 hI0))
    have HM0 := Lib.hid hM0
    have HW3 := Lib.hid (And.intro hg hw3)
    have HC := Lib.hid (And.intro hc hfst)
    have c0 : w2.cell? ⟨w.heap.size, 0, none⟩ = some (.slice cl.fA m cl.fc) := HK2.out.cell 0
    have c1' : w2.cell? ⟨w.heap.size, 1, none⟩ = some (.slice cl.rA rk cl.rc) := HK2.out.cell 1
    have t3 := hM0.told
    have k2 : w3.cell? ⟨g, 2, none⟩ = some (.int .i64 (fi : Int)) := t3.2.2.1
    have k3 : w3.cell? ⟨g, 3, none⟩ = some (.int .i64 0) := t3.2.2.2.1
    have k5 : w3.cell? ⟨g, 5, none⟩ = some (.int .i64 0) := t3.2.2.2.2.2.1
    have f3 : w3.frozen? ⟨g, 3, none⟩ = false := hM0.blk.frozen 3
    have f5 : w3.frozen? ⟨g, 5, none⟩ = false := hM0.blk.frozen 5
    have q0 : IntKind.i64.wrap (F : Int) = (F : Int) := IntWalk.i64_in _ ⟨by omega, by omega⟩
    have q1 : IntKind.i64.wrap (fi : Int) = (fi : Int) := IntWalk.i64_in _ ⟨by omega, by omega⟩
    have hgc : c.g = g := by rw [← hc]
    have HGC := Lib.hid hgc
    clear hk hfe hG hat hMb0 hI0 hC2 hM0 hg hw3 hc t3 hfi hgc
    go_upto_region 5 with fail
    go_region
    rw [HW3.out.1, HW3.out.2]
    clear c0 c1'
    obtain ⟨w4, hM4, hP4⟩ : ∃ w4, MM c ⟨0, fst, .slice none 0 0, [], 0, false⟩ w2 w4 ∧ (if fi = 0 then w4 = w3 else w4 = (w3.setCell ⟨g, 3, none⟩ (.int .i64 1)).setCell ⟨g, 5, none⟩ (.int .i64 1)) := by
      have hh := HM0.out
      have hfst := HC.out.2
      by_cases h0 : fi = 0
      · rw [if_pos h0] at hfst
        rw [← HC.out.1, ← hfst]
        exact ⟨w3, hh, by rw [if_pos h0]⟩
      · rw [if_neg h0] at hfst
        rw [← HC.out.1, ← hfst]
        exact ⟨_, (hh.first 1).seth 1, by rw [if_neg h0]⟩
    have HM4 := Lib.hid hM4
    clear hM4
    by_cases h0 : fi = 0
    · rw [if_pos h0] at hP4
      have d3 : decide ((fi : Int) > 0) = false := decide_eq_false (by omega)
      have d3' : decide (0 < fi) = false := decide_eq_false (by omega)
      subst hP4
      clear h0
      go_upto_region 9 with fail
      clear d3 d3' k2 k3 k5 f3 f5
      go_wp2_with fail
      go_loopw [6, 8] (fun rv iv wr => ∃ (i : Nat), rv = .bool false ∧ i ≤ 400 ∧ iv = .int .i64 (i : Int) ∧ Hid (∃ s, MM c s w2 wr ∧ Mb c s ∧ s.st = i ∧ (s.dn = true ∨ Inv V fe.is s))) (fun _ iv _ => 400 - (intOf iv).toNat)
      case atStart => exact ⟨0, rfl, Nat.zero_le _, rfl, Lib.hid ⟨_, HM4.out, HG.out.2.1, rfl, .inr HG.out.2.2⟩⟩
      case round =>
        obtain ⟨i, rfl, hi, rfl, HJ⟩ := hrel
        obtain ⟨w5, rfl⟩ : ∃ v, v = wr := ⟨_, rfl⟩
        obtain ⟨s, hm5, hb5, hst5, hI5⟩ := HJ.out
        have k10 : w5.cell? ⟨g, 10, none⟩ = some (.bool s.dn) := by rw [← HGC.out]; exact hm5.told.2.2.2.2.2.2.2.2.2.2
        obtain ⟨dn, hdn⟩ : ∃ z, s.dn = z := ⟨_, rfl⟩
        rw [hdn] at k10
        have HBL := Lib.hid (HB2.out.trans (hm5.bel.mono HB2.out.size))
        by_cases hlt : i < 400
        case neg =>
          have d4 : decide ((i : Int) < 400) = false := decide_eq_false (by omega)
          clear HJ hm5 hb5 hst5 hI5 hdn
          go_wp2_with fail
          refine (HWK.out _).mono ?_
          rintro e w90 ⟨rfl, hb90⟩
          have HB90 := Lib.hid (HBL.out.trans (hb90.mono HBL.out.size))
          clear hb90
          go_wp2_with fail
          go_ret
          exact ⟨rfl, HB90.out⟩
        have d4 : decide ((i : Int) < 400) = true := decide_eq_true (by omega)
        cases dn with
        | true =>
          clear HJ hm5 hb5 hst5 hI5 hdn
          go_wp2_with fail
          refine (HWK.out _).mono ?_
          rintro e w90 ⟨rfl, hb90⟩
          have HB90 := Lib.hid (HBL.out.trans (hb90.mono HBL.out.size))
          clear hb90
          go_wp2_with fail
          go_ret
          exact ⟨rfl, HB90.out⟩
        | false =>
          have hI6 : Inv V fe.is s := by
            rcases hI5 with e | e
            · rw [hdn] at e; cases e
            · exact e
          have hN := next_any c s w2 w5 V fe.is gg hm5 hb5 (by omega) HG.out.1 hI6
          rw [HGC.out] at hN
          have HN := Lib.hid hN
          have HST := Lib.hid hst5
          clear HJ hm5 hb5 hst5 hI5 hdn hI6 hN
          go_wp2_with fail
          refine HN.out.mono ?_
          rintro e w6 ⟨rfl, s6, h6, hb6, hst6, hI6⟩
          have k9 : w6.cell? ⟨g, 9, none⟩ = some (.bool false) := by rw [← HGC.out]; exact h6.told.2.2.2.2.2.2.2.2.2.1
          have HNX : Hid (∃ s, MM c s w2 w6 ∧ Mb c s ∧ s.st = i + 1 ∧ (s.dn = true ∨ Inv V fe.is s)) := Lib.hid ⟨s6, h6, hb6, by rw [hst6, HST.out], hI6⟩
          clear k10 h6 hb6 hst6 hI6
          go_wp2_with fail
          go_roundw
          case rel => exact ⟨i + 1, rfl, by omega, by go_num, HNX⟩
          case measure => simp [intOf]; omega
    · rw [if_neg h0] at hP4
      have d3 : decide ((fi : Int) > 0) = true := decide_eq_true (by omega)
      have d3' : decide (0 < fi) = true := decide_eq_true (by omega)
      have HP4 := Lib.hid hP4.symm
      clear h0 hP4
      go_upto_region 9 with fail
      clear d3 d3'
      rw [HP4.out]
      clear k2 k3 k5 f3 f5
      go_wp2_with fail
      go_loopw [6, 8] (fun rv iv wr => ∃ (i : Nat), rv = .bool false ∧ i ≤ 400 ∧ iv = .int .i64 (i : Int) ∧ Hid (∃ s, MM c s w2 wr ∧ Mb c s ∧ s.st = i ∧ (s.dn = true ∨ Inv V fe.is s))) (fun _ iv _ => 400 - (intOf iv).toNat)
      case atStart => exact ⟨0, rfl, Nat.zero_le _, rfl, Lib.hid ⟨_, HM4.out, HG.out.2.1, rfl, .inr HG.out.2.2⟩⟩
      case round =>
        obtain ⟨i, rfl, hi, rfl, HJ⟩ := hrel
        obtain ⟨w5, rfl⟩ : ∃ v, v = wr := ⟨_, rfl⟩
        obtain ⟨s, hm5, hb5, hst5, hI5⟩ := HJ.out
        have k10 : w5.cell? ⟨g, 10, none⟩ = some (.bool s.dn) := by rw [← HGC.out]; exact hm5.told.2.2.2.2.2.2.2.2.2.2
        obtain ⟨dn, hdn⟩ : ∃ z, s.dn = z := ⟨_, rfl⟩
        rw [hdn] at k10
        have HBL := Lib.hid (HB2.out.trans (hm5.bel.mono HB2.out.size))
        by_cases hlt : i < 400
        case neg =>
          have d4 : decide ((i : Int) < 400) = false := decide_eq_false (by omega)
          clear HJ hm5 hb5 hst5 hI5 hdn
          go_wp2_with fail
          refine (HWK.out _).mono ?_
          rintro e w90 ⟨rfl, hb90⟩
          have HB90 := Lib.hid (HBL.out.trans (hb90.mono HBL.out.size))
          clear hb90
          go_wp2_with fail
          go_ret
          exact ⟨rfl, HB90.out⟩
        have d4 : decide ((i : Int) < 400) = true := decide_eq_true (by omega)
        cases dn with
        | true =>
          clear HJ hm5 hb5 hst5 hI5 hdn
          go_wp2_with fail
          refine (HWK.out _).mono ?_
          rintro e w90 ⟨rfl, hb90⟩
          have HB90 := Lib.hid (HBL.out.trans (hb90.mono HBL.out.size))
          clear hb90
          go_wp2_with fail
          go_ret
          exact ⟨rfl, HB90.out⟩
        | false =>
          have hI6 : Inv V fe.is s := by
            rcases hI5 with e | e
            · rw [hdn] at e; cases e
            · exact e
          have hN := next_any c s w2 w5 V fe.is gg hm5 hb5 (by omega) HG.out.1 hI6
          rw [HGC.out] at hN
          have HN := Lib.hid hN
          have HST := Lib.hid hst5
          clear HJ hm5 hb5 hst5 hI5 hdn hI6 hN
          go_wp2_with fail
          refine HN.out.mono ?_
          rintro e w6 ⟨rfl, s6, h6, hb6, hst6, hI6⟩
          have k9 : w6.cell? ⟨g, 9, none⟩ = some (.bool false) := by rw [← HGC.out]; exact h6.told.2.2.2.2.2.2.2.2.2.1
          have HNX : Hid (∃ s, MM c s w2 w6 ∧ Mb c s ∧ s.st = i + 1 ∧ (s.dn = true ∨ Inv V fe.is s)) := Lib.hid ⟨s6, h6, hb6, by rw [hst6, HST.out], hI6⟩
          clear k10 h6 hb6 hst6 hI6
          go_wp2_with fail
          go_roundw
          case rel => exact ⟨i + 1, rfl, by omega, by go_num, HNX⟩
          case measure => simp [intOf]; omega
end Go.Proofs.Ytimkiifcmegfeaa
