/- Contracts, part BK. -/
import Derived.Test.YtimkiifcmegfeaaBI
import Derived.Test.YtimkiifcmegfeaaBJ
/- code: operands, of any instruction. -/
namespace Go.Proofs.Ytimkiifcmegfeaa
open Go.RowKit
set_option linter.unusedVariables false
set_option linter.unusedSimpArgs false
set_option maxRecDepth 20000 in
theorem operands_any (i : Ins) (hi : i.ok) (gk pm N : Nat) (cl : Cl) (gv : Value) (m rk n : Nat) (hm : cl.fs.length = m) (hrk : cl.rs.length = rk) (hm2 : m ≤ 1000000) (hrk2 : rk ≤ 1000000) (hn2 : n ≤ 1000000) (w : World) (hk : CkB w gk cl gv pm) (hpm : PrMap w pm N) (hN : N < 1000000) :
    Calls Try.prog 41 #[.pointer (some ⟨gk, 0, none⟩), i.val, .int .i64 (n : Int)] w fun e w' => e = askE (opnd (m : Int) (rk : Int) (n : Int) i) ∧ PrMap w' pm (N + 1) ∧ Off (fun k => k = pm) w w' := by
  obtain ⟨k, a, b, c, tx⟩ := i
  obtain ⟨ho, ha, hb, hc, ht⟩ := hi
  have hc9 : c ≤ 9223372036854775807 := by have : c < 9223372036854775808 := hc.2; omega
  have ht9 : tx.length ≤ maxLen := ht
  show Calls Try.prog 41 #[.pointer (some ⟨gk, 0, none⟩), .agg #[.int .u8 (k : Int), .int .i64 a, .int .i64 b, .int .i64 c, .string (str tx)], .int .i64 (n : Int)] w fun e w' => e = (if opnd (m : Int) (rk : Int) (n : Int) ⟨k, a, b, c, tx⟩ = true then .returned (.tuple #[]) else .panicked [wr]) ∧ PrMap w' pm (N + 1) ∧ Off (fun k => k = pm) w w'
  by_cases e1 : k = 1
  · subst e1
    exact opnd_1 a b c tx gk pm N cl gv m rk n hm hrk hm2 hrk2 hn2 hc9 ht9 w hk hpm hN _ (by first | rfl | simp [opnd])
  by_cases e2 : k = 2
  · subst e2
    exact opnd_2 a b c tx gk pm N cl gv m rk n hm hrk hm2 hrk2 hn2 hc9 ht9 w hk hpm hN _ (by first | rfl | simp [opnd])
  by_cases e16 : k = 16
  · subst e16
    exact opnd_16 a b c tx gk pm N cl gv m rk n hm hrk hm2 hrk2 hn2 hc9 ht9 w hk hpm hN _ (by first | rfl | simp [opnd])
  by_cases e6 : k = 6
  · subst e6
    exact opnd_6 a b c tx gk pm N cl gv m rk n hm hrk hm2 hrk2 hn2 hc9 ht9 w hk hpm hN _ (by first | rfl | simp [opnd])
  by_cases e23 : k = 23
  · subst e23
    exact opnd_23 a b c tx gk pm N cl gv m rk n hm hrk hm2 hrk2 hn2 hc9 ht9 w hk hpm hN _ (by first | rfl | simp [opnd])
  by_cases e24 : k = 24
  · subst e24
    exact opnd_24 a b c tx gk pm N cl gv m rk n hm hrk hm2 hrk2 hn2 hc9 ht9 w hk hpm hN _ (by first | rfl | simp [opnd])
  by_cases e11 : k = 11
  · subst e11
    exact opnd_11 a b c tx gk pm N cl gv m rk n hm hrk hm2 hrk2 hn2 hc9 ht9 w hk hpm hN _ (by first | rfl | simp [opnd])
  by_cases e9 : k = 9
  · subst e9
    exact opnd_9 a b c tx gk pm N cl gv m rk n hm hrk hm2 hrk2 hn2 hc9 ht9 w hk hpm hN _ (by first | rfl | simp [opnd])
  by_cases e10 : k = 10
  · subst e10
    exact opnd_10 a b c tx gk pm N cl gv m rk n hm hrk hm2 hrk2 hn2 hc9 ht9 w hk hpm hN _ (by first | rfl | simp [opnd])
  by_cases e18 : k = 18
  · subst e18
    exact opnd_18 a b c tx gk pm N cl gv m rk n hm hrk hm2 hrk2 hn2 hc9 ht9 w hk hpm hN _ (by first | rfl | simp [opnd])
  by_cases e13 : k = 13
  · subst e13
    exact opnd_13 a b c tx gk pm N cl gv m rk n hm hrk hm2 hrk2 hn2 hc9 ht9 w hk hpm hN _ (by first | rfl | simp [opnd])
  by_cases e22 : k = 22
  · subst e22
    exact opnd_22 a b c tx gk pm N cl gv m rk n hm hrk hm2 hrk2 hn2 hc9 ht9 w hk hpm hN _ (by first | rfl | simp [opnd])
  by_cases e3 : k = 3
  · subst e3
    exact opnd_3 a b c tx gk pm N cl gv m rk n hm hrk hm2 hrk2 hn2 hc9 ht9 w hk hpm hN _ (by first | rfl | simp [opnd])
  by_cases e4 : k = 4
  · subst e4
    exact opnd_4 a b c tx gk pm N cl gv m rk n hm hrk hm2 hrk2 hn2 hc9 ht9 w hk hpm hN _ (by first | rfl | simp [opnd])
  by_cases e5 : k = 5
  · subst e5
    exact opnd_5 a b c tx gk pm N cl gv m rk n hm hrk hm2 hrk2 hn2 hc9 ht9 w hk hpm hN _ (by first | rfl | simp [opnd])
  by_cases e12 : k = 12
  · subst e12
    exact opnd_12 a b c tx gk pm N cl gv m rk n hm hrk hm2 hrk2 hn2 hc9 ht9 w hk hpm hN _ (by first | rfl | simp [opnd])
  by_cases e14 : k = 14
  · subst e14
    exact opnd_14 a b c tx gk pm N cl gv m rk n hm hrk hm2 hrk2 hn2 hc9 ht9 w hk hpm hN _ (by first | rfl | simp [opnd])
  by_cases e20 : k = 20
  · subst e20
    exact opnd_20 a b c tx gk pm N cl gv m rk n hm hrk hm2 hrk2 hn2 hc9 ht9 w hk hpm hN _ (by first | rfl | simp [opnd])
  by_cases e7 : k = 7
  · subst e7
    exact opnd_7 a b c tx gk pm N cl gv m rk n hm hrk hm2 hrk2 hn2 hc9 ht9 w hk hpm hN _ (by first | rfl | simp [opnd])
  by_cases e8 : k = 8
  · subst e8
    exact opnd_8 a b c tx gk pm N cl gv m rk n hm hrk hm2 hrk2 hn2 hc9 ht9 w hk hpm hN _ (by first | rfl | simp [opnd])
  by_cases e15 : k = 15
  · subst e15
    exact opnd_15 a b c tx gk pm N cl gv m rk n hm hrk hm2 hrk2 hn2 hc9 ht9 w hk hpm hN _ (by first | rfl | simp [opnd])
  by_cases e17 : k = 17
  · subst e17
    exact opnd_17 a b c tx gk pm N cl gv m rk n hm hrk hm2 hrk2 hn2 hc9 ht9 w hk hpm hN _ (by first | rfl | simp [opnd])
  by_cases e19 : k = 19
  · subst e19
    exact opnd_19 a b c tx gk pm N cl gv m rk n hm hrk hm2 hrk2 hn2 hc9 ht9 w hk hpm hN _ (by first | rfl | simp [opnd])
  by_cases e21 : k = 21
  · subst e21
    exact opnd_21 a b c tx gk pm N cl gv m rk n hm hrk hm2 hrk2 hn2 hc9 ht9 w hk hpm hN _ (by first | rfl | simp [opnd])
  by_cases e25 : k = 25
  · subst e25
    exact opnd_25 a b c tx gk pm N cl gv m rk n hm hrk hm2 hrk2 hn2 hc9 ht9 w hk hpm hN _ (by first | rfl | simp [opnd])
  refine opnd_0 k (fun j h1 h2 e => ?_) a b c tx gk pm N cl gv m rk n hm hrk hm2 hrk2 hn2 hc9 ht9 w hk hpm hN _ ?_
  · omega
  · simp [opnd, e1, e2, e16, e6, e23, e24, e11, e9, e10, e18, e13, e22, e3, e4, e5, e12, e14, e20, e7, e8, e15, e17, e19, e21, e25]
end Go.Proofs.Ytimkiifcmegfeaa
/- code: roots. -/
namespace Go.Proofs.Ytimkiifcmegfeaa
open Go.RowKit
set_option linter.unusedVariables false
set_option linter.unusedSimpArgs false
attribute [local go_sem] Oper.semAt_some
def boolS (L : List (List UInt8)) : List UInt8 → Option Value := fun s => if s ∈ L then some (.bool true) else none
theorem look_bool {w : World} {b n : Nat} {L : List (List UInt8)} (h : HMap sK w b n (boolS L)) (s : List UInt8) (hs : s.length ≤ maxLen) : (Instr.lookup 120 (.map (some b)) (.string (str s)) false).run Try.prog w = .ok (.bool (decide (s ∈ L))) w := by
  have hz : (zeroValue 4).run Try.prog w = .ok (.bool false) w := by kernel_rfl
  have h1 := h.look (t := 120) (e := 4) Try.underlying120 hz false s hs
  refine h1.trans ?_
  unfold boolS
  by_cases e : s ∈ L
  · rw [if_pos e, decide_eq_true e]; rfl
  · rw [if_neg e, decide_eq_false e]; rfl
set_option maxRecDepth 20000 in
set_option maxHeartbeats 4000000 in
theorem roots_any (gk pm : Nat) (cl : Cl) (gv : Value) (X : Nat → Prop) (w : World) (hk : CkB w gk cl gv pm) (hR : RsAt X w cl.rA cl.rs) (hl : cl.rs.length ≤ 1000000) :
    Calls Try.prog 40 #[.pointer (some ⟨gk, 0, none⟩)] w fun e w' => e = askE (rootsOK cl.rs) ∧ Below w.heap.size w w' := by
  obtain ⟨fs, fA, fc, rs, rA, rc⟩ := cl
  obtain ⟨rk, hrk⟩ : ∃ k, rs.length = k := ⟨_, rfl⟩
  replace hl : rs.length ≤ 1000000 := hl
  replace hR : RsAt X w rA rs := hR
  rw [hrk] at hl
  have c1 : w.cell? ⟨gk, 1, none⟩ = some (.slice rA rk rc) := by rw [← hrk]; exact Blk.cell hk 1
  obtain ⟨rr, hrr⟩ : ∃ b, rootsOK rs = b := ⟨_, rfl⟩
  show Calls Try.prog 40 #[.pointer (some ⟨gk, 0, none⟩)] w fun e w' => e = askE (rootsOK rs) ∧ Below w.heap.size w w'
  rw [hrr]
  have HRR := Lib.hid hrr
  have HB := Lib.hid (And.intro hk (And.intro hR hrk))
  have HAN := Lib.hid (fun W => ask_no (.pointer (some ⟨gk, 0, none⟩)) W)
  have HAY := Lib.hid (fun W => ask_yes (.pointer (some ⟨gk, 0, none⟩)) W)
  clear hk hR hrk hrr
  cases h24 : decide (rk ≤ 24) with
  | false =>
    have a0 : decide ((rk : Int) ≤ 24) = false := by have := h24; simp at this ⊢; omega
    have hz : rr = false := by rw [← HRR.out, rootsOK, HB.out.2.2, h24]; rfl
    subst hz
    go_enter Try.func40, Try.ntmps40
    go_wp2_with fail
    refine (HAN.out _).mono ?_
    rintro e w' ⟨rfl, rfl⟩
    exact ⟨rfl, rfl, Below.refl _ _⟩
  | true =>
    have a0 : decide ((rk : Int) ≤ 24) = true := by have := h24; simp at this ⊢; omega
    have HRF : Hid (rootsF (rs.drop 0) [] = rr) := Lib.hid (by rw [← HRR.out, rootsOK, HB.out.2.2, h24]; rfl)
    clear h24
    have hmm := @run_makeMap Try.prog
    obtain ⟨bm, hbm⟩ : ∃ b, w.heap.size = b := ⟨_, rfl⟩
    obtain ⟨w0, hw0⟩ : ∃ W, w.alloc (.map #[] 0) = W := ⟨_, rfl⟩
    have hb0 : Below w.heap.size w w0 := by rw [← hw0]; exact (Below.refl _ _).alloc (Nat.le_refl _) _
    have hm0 : HMap sK w0 bm 0 (boolS []) := by rw [← hw0, ← hbm]; exact HMap.made sK w
    have c10 : w0.cell? ⟨gk, 1, none⟩ = some (.slice rA rk rc) := (hb0.cell (World.block_lt_of_cell? w _ c1)).trans c1
    have HB0 := Lib.hid (And.intro hb0 hm0)
    have HW := Lib.hid (And.intro hw0 hbm)
    clear hb0 hm0 hw0 hbm
    go_enter Try.func40, Try.ntmps40
    go_wp2_with fail
    refine (HAY.out _).mono ?_
    rintro e w' ⟨rfl, rfl⟩
    go_upto_region 2 with fail
    (try rw [HW.out.1])
    (try rw [HW.out.2])
    go_wp2_with fail
    go_loopw [21] (fun v21 wr => ∃ (i : Nat) (L : List (List UInt8)), i ≤ rk ∧ v21 = .int .i64 (i : Int) ∧ Hid (HMap sK wr bm i (boolS L)) ∧ Hid (rootsF (rs.drop i) L = rr) ∧ Hid (Below w.heap.size w wr)) (fun v21 _ => rk - (intOf v21).toNat)
    case atStart => exact ⟨0, [], Nat.zero_le _, rfl, Lib.hid HB0.out.2, HRF, Lib.hid HB0.out.1⟩
    case round =>
      obtain ⟨i, L, hi, rfl, HM, HF, HBW⟩ := hrel
      obtain ⟨w4, rfl⟩ : ∃ v, v = wr := ⟨_, rfl⟩
      by_cases hli : i < rk
      · have hd : decide ((i : Int) < (rk : Int)) = true := by simpa using hli
        obtain ⟨x, hx⟩ : ∃ x, rs[i]? = some x := ⟨_, List.getElem?_eq_getElem (by rw [HB.out.2.2]; exact hli)⟩
        obtain ⟨ba, oa, eA, _, _, z0, z1, hok⟩ := (HB.out.2.1.bel HBW.out).get hx
        subst eA
        have hdr : rs.drop i = x :: rs.drop (i + 1) := by
          have hil : i < rs.length := (List.getElem?_eq_some_iff.1 hx).1
          rw [List.drop_eq_getElem_cons hil]
          rw [List.getElem?_eq_getElem hil] at hx
          injection hx with hx
          rw [hx]
        have hf := HF.out
        rw [hdr, rootsF] at hf
        obtain ⟨x1, x2⟩ := x
        replace hok : x1.length ≤ maxLen ∧ x2.length ≤ maxLen := hok
        replace z0 : w4.cell? ⟨ba, oa + i * 2, none⟩ = some (.string (str x1)) := z0
        replace z1 : w4.cell? ⟨ba, oa + i * 2 + 1, none⟩ = some (.string (str x2)) := z1
        obtain ⟨w3, hw3⟩ : ∃ W, w4.alloc (.cells #[.string (str x1), .string (str x2)] 48) = W := ⟨_, rfl⟩
        have hb3 : Below w4.heap.size w4 w3 := by rw [← hw3]; exact (Below.refl _ _).alloc (Nat.le_refl _) _
        have B3 : Blk w3 w4.heap.size 48 #[.string (str x1), .string (str x2)] := by rw [← hw3]; exact Blk.new _ _ _
        obtain ⟨q3, hq3⟩ : ∃ q, w4.heap.size = q := ⟨_, rfl⟩
        have hm3 := HM.out.bel hb3
        have hb03 : Below w.heap.size w w3 := HBW.out.trans (hb3.mono HBW.out.size)
        have hlk := look_bool hm3 x1 hok.1
        have y0 := B3.cell 0
        have y1 := B3.cell 1
        rw [hq3] at y0 y1
        obtain ⟨σ, hσ⟩ : ∃ b, decide (x1 ∈ L) = b := ⟨_, rfl⟩
        obtain ⟨b1, h1⟩ : ∃ b, decide (((str x1).size : Int) ≥ 1) = b := ⟨_, rfl⟩
        obtain ⟨b2, h2⟩ : ∃ b, decide (((str x1).size : Int) ≤ 32) = b := ⟨_, rfl⟩
        obtain ⟨b3, h3⟩ : ∃ b, decide (((str x2).size : Int) ≥ 1) = b := ⟨_, rfl⟩
        obtain ⟨b4, h4⟩ : ∃ b, decide (((str x2).size : Int) ≤ 200) = b := ⟨_, rfl⟩
        have HV : Hid (rr = (!σ && (b1 && b2 && (b3 && b4)) && rootsF (rs.drop (i + 1)) (x1 :: L))) := Lib.hid (by
          rw [← hf, ← hσ, ← h1, ← h2, ← h3, ← h4, str_size, str_size]
          unfold rootOK
          by_cases e : x1 ∈ L
          · rw [if_pos e, decide_eq_true e]; rfl
          · rw [if_neg e, decide_eq_false e]
            simp only [Bool.not_false, Bool.true_and]
            congr 1
            have e1 : ((x1.length : Int) ≥ 1) ↔ (1 ≤ x1.length) := by omega
            have e2 : ((x1.length : Int) ≤ 32) ↔ (x1.length ≤ 32) := by omega
            have e3 : ((x2.length : Int) ≥ 1) ↔ (1 ≤ x2.length) := by omega
            have e4 : ((x2.length : Int) ≤ 200) ↔ (x2.length ≤ 200) := by omega
            rw [decide_eq_decide.2 e1, decide_eq_decide.2 e2, decide_eq_decide.2 e3, decide_eq_decide.2 e4])
        rw [hσ] at hlk
        obtain ⟨w5, hup, hm5, ho5, _⟩ := hm3.put (T := boolS (x1 :: L)) (t := 120) (e := 4) Try.underlying120 x1 hok.1 (.bool true) (by omega) (fun x => ⟨fun e => by unfold boolS; rw [if_pos (by rw [e]; exact List.mem_cons_self ..)], fun e => by
          unfold boolS
          by_cases e2 : x ∈ L
          · rw [if_pos e2, if_pos (List.mem_cons_of_mem _ e2)]
          · rw [if_neg e2, if_neg (fun h => by rcases List.mem_cons.1 h with h | h; exact e h; exact e2 h)]⟩)
        replace hup : (Instr.mapUpdate 120 (.map (some bm)) (.string (str x1)) (.bool true)).run Try.prog w3 = .ok () w5 := hup
        have HN : Hid (HMap sK w5 bm (i + 1) (boolS (x1 :: L)) ∧ Below w.heap.size w w5) := Lib.hid ⟨hm5, hb03.trans (ho5.below hb03.size fun k e => by have e' : k = bm := e; rw [e', ← HW.out.2]; exact Nat.le_refl _)⟩
        have HO3 := Lib.hid (And.intro hw3 (And.intro hq3 hb03))
        clear hx hdr hf hok hw3 hb3 B3 hm3 hb03 hσ hm5 ho5 hq3 hmm
        go_upto_region 5 with fail
        rw [HO3.out.1, HO3.out.2.1]
        have HLI := Lib.hid hli
        clear z0 z1 hli
        cases σ with
        | true =>
          have HZ : Hid (rr = false) := Lib.hid (by rw [HV.out]; simp)
          go_wp2_with fail
          refine (HAN.out _).mono ?_
          rintro e w' ⟨rfl, rfl⟩
          exact ⟨rfl, by rw [HZ.out]; rfl, HO3.out.2.2⟩
        | false =>
          cases b1 with
          | false =>
            have HZ : Hid (rr = false) := Lib.hid (by rw [HV.out]; simp)
            go_wp2_with fail
            refine (HAN.out _).mono ?_
            rintro e w' ⟨rfl, rfl⟩
            exact ⟨rfl, by rw [HZ.out]; rfl, HO3.out.2.2⟩
          | true =>
            cases b2 with
            | false =>
              have HZ : Hid (rr = false) := Lib.hid (by rw [HV.out]; simp)
              go_wp2_with fail
              refine (HAN.out _).mono ?_
              rintro e w' ⟨rfl, rfl⟩
              exact ⟨rfl, by rw [HZ.out]; rfl, HO3.out.2.2⟩
            | true =>
              cases b3 with
              | false =>
                have HZ : Hid (rr = false) := Lib.hid (by rw [HV.out]; simp)
                go_wp2_with fail
                refine (HAN.out _).mono ?_
                rintro e w' ⟨rfl, rfl⟩
                exact ⟨rfl, by rw [HZ.out]; rfl, HO3.out.2.2⟩
              | true =>
                cases b4 with
                | false =>
                  have HZ : Hid (rr = false) := Lib.hid (by rw [HV.out]; simp)
                  go_wp2_with fail
                  refine (HAN.out _).mono ?_
                  rintro e w' ⟨rfl, rfl⟩
                  exact ⟨rfl, by rw [HZ.out]; rfl, HO3.out.2.2⟩
                | true =>
                  have HG : Hid (rootsF (rs.drop (i + 1)) (x1 :: L) = rr) := Lib.hid (by rw [HV.out]; simp)
                  go_wp2_with fail
                  refine (HAY.out _).mono ?_
                  rintro e w' ⟨rfl, rfl⟩
                  go_wp2_with fail
                  go_roundw
                  case rel => exact ⟨i + 1, x1 :: L, by have := HLI.out; omega, by go_num, Lib.hid HN.out.1, HG, Lib.hid HN.out.2⟩
                  case measure => have := HLI.out; simp [intOf]; omega
      · obtain rfl : rk = i := by omega
        have hd : decide ((rk : Int) < (rk : Int)) = false := by simp
        have HZ : Hid (rr = true) := Lib.hid (by
          have := HF.out
          rw [List.drop_of_length_le (by rw [HB.out.2.2]; exact Nat.le_refl _), rootsF] at this
          exact this.symm)
        go_wp2_with fail
        go_end0
        exact ⟨by rw [HZ.out]; rfl, HBW.out⟩
end Go.Proofs.Ytimkiifcmegfeaa
/- code: made. -/
namespace Go.Proofs.Ytimkiifcmegfeaa
open Go.RowKit
set_option linter.unusedVariables false
set_option linter.unusedSimpArgs false
attribute [local go_sem] Oper.semAt_some
def gl : List (Int × Int) → List Value
  | [] => []
  | x :: g => .int .i64 x.1 :: .int .i64 x.2 :: gl g
def gcells (g : List (Int × Int)) : Array Value := (gl g).toArray
theorem gl_len : ∀ g : List (Int × Int), (gl g).length = g.length * 2
  | [] => rfl
  | x :: g => by rw [gl, List.length_cons, List.length_cons, gl_len g, List.length_cons]; omega
theorem gl_get : ∀ (g : List (Int × Int)) (n : Nat) (x : Int × Int), g[n]? = some x → (gl g)[n * 2]? = some (.int .i64 x.1) ∧ (gl g)[n * 2 + 1]? = some (.int .i64 x.2)
  | [], n, x, h => by simp at h
  | y :: g, 0, x, h => by
    simp at h
    subst h
    exact ⟨rfl, rfl⟩
  | y :: g, n + 1, x, h => by
    have := gl_get g n x (by simpa using h)
    rw [gl, show (n + 1) * 2 = n * 2 + 1 + 1 by omega]
    exact this
theorem gl_set : ∀ (g : List (Int × Int)) (n : Nat) (x : Int × Int), ((gl g).set (n * 2) (.int .i64 x.1)).set (n * 2 + 1) (.int .i64 x.2) = gl (g.set n x)
  | [], n, x => by simp [gl]
  | y :: g, 0, x => by simp [gl]
  | y :: g, n + 1, x => by
    rw [gl, show (n + 1) * 2 = n * 2 + 1 + 1 by omega, List.set_cons_succ, List.set_cons_succ, List.set_cons_succ, List.set_cons_succ, gl_set g n x, List.set_cons_succ, gl]
/-- The groups in memory. -/
def GBlk (w : World) (gg : Nat) (g : List (Int × Int)) : Prop := Blk w gg 124 (gcells g)
theorem GBlk.get {w : World} {gg : Nat} {g : List (Int × Int)} (h : GBlk w gg g) {n : Nat} {x : Int × Int} (hx : g[n]? = some x) : w.cell? ⟨gg, n * 2, none⟩ = some (.int .i64 x.1) ∧ w.cell? ⟨gg, n * 2 + 1, none⟩ = some (.int .i64 x.2) := by
  have h1 := gl_get g n x hx
  rw [Blk.cell h, Blk.cell h]
  simpa [gcells] using h1
theorem GBlk.set {w : World} {gg : Nat} {g : List (Int × Int)} (h : GBlk w gg g) (n : Nat) (x : Int × Int) : GBlk ((w.setCell ⟨gg, n * 2, none⟩ (.int .i64 x.1)).setCell ⟨gg, n * 2 + 1, none⟩ (.int .i64 x.2)) gg (g.set n x) := by
  have h2 := (Blk.set_ h (n * 2) (.int .i64 x.1)).set_ (n * 2 + 1) (.int .i64 x.2)
  unfold GBlk
  have e : (((gcells g).setIfInBounds (n * 2) (.int .i64 x.1)).setIfInBounds (n * 2 + 1) (.int .i64 x.2)) = gcells (g.set n x) := by
    unfold gcells
    rw [← gl_set g n x]
    simp
  rwa [e] at h2
theorem markN_len {c f : Int} : ∀ {j n : Nat} {g g' : List (Int × Int)}, markN c f j n g = some g' → g'.length = g.length
  | 0, n, g, g', h => by rw [markN] at h; injection h with h; rw [h]
  | j + 1, n, g, g', h => by
    rw [markN] at h
    split at h
    · rw [markN_len h, List.length_set]
    · cases h
def madeAns : Option (List (Int × Int)) → Bool
  | none => false
  | some gs => madeOK gs
set_option maxRecDepth 20000 in
set_option maxHeartbeats 8000000 in
theorem made_any (gk pm gg : Nat) (cl : Cl) (m : Nat) (hm : cl.fs.length = m) (hm2 : m ≤ 1000000) (X : Nat → Prop) (w : World) (hk : CkB w gk cl (.slice (some ⟨gg, 0, none⟩) m m) pm) (hF : FsAt X w cl.fA cl.fs) (hX : ¬ X gg) (hgk : gk ≠ gg)
    (hg : GBlk w gg (List.replicate m (0, 0))) (hop : ∀ f ∈ cl.fs, ∀ i ∈ f.is, i.op = 6 → (1 ≤ i.a ∧ 1 ≤ i.b ∧ i.a + i.b ≤ (m : Int))) (hil : ∀ f ∈ cl.fs, f.is.length ≤ 1000000)
    (ans : Bool) (R : Option (List (Int × Int))) (hR : R = madeFs (cl.fs.map Fe.is) (List.replicate m (0, 0))) (hans : ans = madeAns R) :
    Calls Try.prog 42 #[.pointer (some ⟨gk, 0, none⟩)] w fun e w' => e = askE ans ∧ (∀ gs, R = some gs → ans = true → GBlk w' gg gs) ∧ Off (fun k => k = gg) w w' := by
  obtain ⟨fs, fA, fc, rs, rA, rc⟩ := cl
  replace hm : fs.length = m := hm
  replace hF : FsAt X w fA fs := hF
  replace hop : ∀ f ∈ fs, ∀ i ∈ f.is, i.op = 6 → (1 ≤ i.a ∧ 1 ≤ i.b ∧ i.a + i.b ≤ (m : Int)) := hop
  replace hil : ∀ f ∈ fs, f.is.length ≤ 1000000 := hil
  replace hR : R = madeFs (fs.map Fe.is) (List.replicate m (0, 0)) := hR
  have HK : Hid (∀ W, Off (fun k => k = gg) w W → W.cell? ⟨gk, 0, none⟩ = some (.slice fA m fc) ∧ W.cell? ⟨gk, 2, none⟩ = some (.slice (some ⟨gg, 0, none⟩) m m) ∧ FsAt X W fA fs) := Lib.hid fun W hW => by
    have h := Blk.off hk hW (by show ¬ (gk = gg); exact hgk)
    refine ⟨by rw [← hm]; exact h.cell 0, h.cell 2, hF.off hW (fun b h1 h2 => hX (by have h3 : b = gg := h2; rw [← h3]; exact h1))⟩
  have HC := Lib.hid (And.intro hm (And.intro hop (And.intro hil (And.intro hR hans))))
  have HG := Lib.hid hg
  have HAN := Lib.hid (fun W => ask_no (.pointer (some ⟨gk, 0, none⟩)) W)
  have HAY := Lib.hid (fun W => ask_yes (.pointer (some ⟨gk, 0, none⟩)) W)
  obtain ⟨c0, c2, _⟩ := HK.out w (Off.refl _ _)
  clear hk hF hX hgk hg hop hil hR hans hm
  go_enter Try.func42, Try.ntmps42
  go_wp2_with fail
  go_loopw [14] (fun v14 wr => ∃ (i : Nat) (g : List (Int × Int)), i ≤ m ∧ v14 = .int .i64 (i : Int) ∧ Hid (GBlk wr gg g ∧ g.length = m) ∧ Hid (madeFs ((fs.drop i).map Fe.is) g = R) ∧ Hid (Off (fun k => k = gg) w wr)) (fun v14 _ => m - (intOf v14).toNat)
  case atStart => exact ⟨0, _, Nat.zero_le _, rfl, Lib.hid ⟨HG.out, by simp⟩, Lib.hid HC.out.2.2.2.1.symm, Lib.hid (Off.refl _ _)⟩
  case round =>
    obtain ⟨i, g, hi, rfl, HM, HF, HO⟩ := hrel
    obtain ⟨w4, rfl⟩ : ∃ v, v = wr := ⟨_, rfl⟩
    clear c0 c2
    by_cases hli : i < m
    · have hd : decide ((i : Int) < (m : Int)) = true := by simpa using hli
      obtain ⟨f, hf⟩ : ∃ x, fs[i]? = some x := ⟨_, List.getElem?_eq_getElem (by rw [HC.out.1]; exact hli)⟩
      obtain ⟨d0, d2, hFs⟩ := HK.out w4 HO.out
      obtain ⟨ba, oa, eA, _, _, z0, hfe⟩ := hFs.get hf
      subst eA
      have hdr : fs.drop i = f :: fs.drop (i + 1) := by
        have hil : i < fs.length := (List.getElem?_eq_some_iff.1 hf).1
        rw [List.drop_eq_getElem_cons hil]
        rw [List.getElem?_eq_getElem hil] at hf
        injection hf with hf
        rw [hf]
      have hfm := HF.out
      rw [hdr, List.map_cons, madeFs] at hfm
      obtain ⟨l, hl⟩ : ∃ l, f.is.length = l := ⟨_, rfl⟩
      rw [hl] at z0
      have HFI := Lib.hid (And.intro hl (And.intro hfm (And.intro (List.mem_of_getElem? hf) hli)))
      have hlx : l ≤ 1000000 := by rw [← hl]; exact HC.out.2.2.1 f (List.mem_of_getElem? hf)
      obtain ⟨A', hA'⟩ : ∃ A, f.A = A := ⟨_, rfl⟩
      rw [hA'] at z0
      have HA' := Lib.hid hA'
      clear hfe hFs hf hdr hfm hl hA'
      go_wp2_with fail
      go_loopw [20] (fun v20 wr => ∃ (j : Nat) (g : List (Int × Int)), j ≤ l ∧ v20 = .int .i64 (j : Int) ∧ Hid (GBlk wr gg g ∧ g.length = m) ∧ Hid ((madeL (f.is.drop j) g).bind (madeFs ((fs.drop (i + 1)).map Fe.is)) = R) ∧ Hid (Off (fun k => k = gg) w wr)) (fun v20 _ => l - (intOf v20).toNat)
      case atStart => exact ⟨0, g, Nat.zero_le _, rfl, HM, Lib.hid HFI.out.2.1, HO⟩
      case round =>
        clear HM HO HF
        obtain ⟨j, g, hj, rfl, HM, HF, HO⟩ := hrel
        obtain ⟨w5, rfl⟩ : ∃ v, v = wr := ⟨_, rfl⟩
        clear d0 d2 z0
        by_cases hlj : j < l
        · have hd : decide ((j : Int) < (l : Int)) = true := by simpa using hlj
          obtain ⟨x, hx⟩ : ∃ x, f.is[j]? = some x := ⟨_, List.getElem?_eq_getElem (by rw [HFI.out.1]; exact hlj)⟩
          obtain ⟨d0, d2, hFs⟩ := HK.out w5 HO.out
          obtain ⟨bi, oi, eA, _, _, z0, z1, z2, z3, z4, hok⟩ := (hFs.fs f HFI.out.2.2.1).ins.get hx
          rw [HA'.out] at eA
          subst eA
          have hdr : f.is.drop j = x :: f.is.drop (j + 1) := by
            have hil : j < f.is.length := (List.getElem?_eq_some_iff.1 hx).1
            rw [List.drop_eq_getElem_cons hil]
            rw [List.getElem?_eq_getElem hil] at hx
            injection hx with hx
            rw [hx]
          have hfm := HF.out
          rw [hdr, madeL] at hfm
          have hin : x ∈ f.is := List.mem_of_getElem? hx
          have ho6 := HC.out.2.1 f HFI.out.2.2.1 x hin
          obtain ⟨k, a, b, c, tx⟩ := x
          replace z0 : w5.cell? ⟨bi, oi + j * 5, none⟩ = some (.int .u8 (k : Int)) := z0
          replace z1 : w5.cell? ⟨bi, oi + j * 5 + 1, none⟩ = some (.int .i64 a) := z1
          replace z2 : w5.cell? ⟨bi, oi + j * 5 + 2, none⟩ = some (.int .i64 b) := z2
          replace z3 : w5.cell? ⟨bi, oi + j * 5 + 3, none⟩ = some (.int .i64 c) := z3
          replace z4 : w5.cell? ⟨bi, oi + j * 5 + 4, none⟩ = some (.string (str tx)) := z4
          replace hfm : (if k = 6 then (markN c b b.toNat a.toNat g).bind (madeL (f.is.drop (j + 1))) else madeL (f.is.drop (j + 1)) g).bind (madeFs ((fs.drop (i + 1)).map Fe.is)) = R := hfm
          replace ho6 : k = 6 → (1 ≤ a ∧ 1 ≤ b ∧ a + b ≤ (m : Int)) := ho6
          obtain ⟨w3, hw3⟩ : ∃ W, w5.alloc (.cells #[.int .u8 (k : Int), .int .i64 a, .int .i64 b, .int .i64 c, .string (str tx)] 46) = W := ⟨_, rfl⟩
          have hb3 : Below w5.heap.size w5 w3 := by rw [← hw3]; exact (Below.refl _ _).alloc (Nat.le_refl _) _
          have B3 : Blk w3 w5.heap.size 46 #[.int .u8 (k : Int), .int .i64 a, .int .i64 b, .int .i64 c, .string (str tx)] := by rw [← hw3]; exact Blk.new _ _ _
          obtain ⟨q3, hq3⟩ : ∃ q, w5.heap.size = q := ⟨_, rfl⟩
          have hO3 : Off (fun k => k = gg) w w3 := HO.out.trans (Off.of_new hb3 _)
          have hM3 : GBlk w3 gg g := Blk.below HM.out.1 hb3 (Blk.lt HM.out.1)
          have hgq : gg < q3 := by rw [← hq3]; exact Blk.lt HM.out.1
          rw [hq3] at B3
          have y0 := B3.cell 0
          have HO3 := Lib.hid (And.intro hw3 (And.intro hq3 (And.intro hO3 (And.intro hM3 (And.intro B3 (And.intro hgq hlj))))))
          by_cases h6 : k = 6
          · have e6 : ((k : Int) != 6) = false := by rw [h6]; rfl
            rw [if_pos h6] at hfm
            obtain ⟨g1, g2, g3⟩ := ho6 h6
            obtain ⟨an, rfl⟩ : ∃ n : Nat, a = (n : Int) := ⟨a.toNat, by omega⟩
            obtain ⟨bn, rfl⟩ : ∃ n : Nat, b = (n : Int) := ⟨b.toNat, by omega⟩
            rw [Int.toNat_natCast, Int.toNat_natCast] at hfm
            have g4 : an + bn ≤ m := by omega
            have HFM := Lib.hid (And.intro hfm (And.intro g1 g2))
            have y1 := B3.cell 1
            have y2 := B3.cell 2
            clear hfm g1 g2 g3 hFs hx hdr hin ho6 hok hw3 hb3 B3 hq3 hO3 hM3 hgq h6
            go_upto_region 6 with fail
            rw [HO3.out.1, HO3.out.2.1]
            clear z0 z1 z2 z3 z4 d0 d2 hlj
            go_wp2_with fail
            go_loopw [6] (fun v6 wr => ∃ (n r : Nat) (g : List (Int × Int)), n + r = an + bn ∧ v6 = .int .i64 (n : Int) ∧ Hid (GBlk wr gg g ∧ g.length = m) ∧ Hid (((markN c (bn : Int) r n g).bind (madeL (f.is.drop (j + 1)))).bind (madeFs ((fs.drop (i + 1)).map Fe.is)) = R) ∧ Hid (Off (fun k => k = gg) w3 wr)) (fun v6 _ => m - (intOf v6).toNat)
            case atStart => exact ⟨an, bn, g, rfl, rfl, Lib.hid ⟨HO3.out.2.2.2.1, HM.out.2⟩, Lib.hid HFM.out.1, Lib.hid (Off.refl _ _)⟩
            case round =>
              clear HM HF
              obtain ⟨n, r, g, hnr, rfl, HM, HF, HO2⟩ := hrel
              obtain ⟨w6, rfl⟩ : ∃ v, v = wr := ⟨_, rfl⟩
              clear y0 y1 y2
              have Bq := HO3.out.2.2.2.2.1.off HO2.out (by have := HO3.out.2.2.2.2.2.1; omega)
              have y1 := Bq.cell 1
              have y2 := Bq.cell 2
              have y3 := Bq.cell 3
              have hO6 : Off (fun k => k = gg) w w6 := HO3.out.2.2.1.trans HO2.out
              obtain ⟨_, d2, _⟩ := HK.out w6 hO6
              cases r with
              | zero =>
                obtain rfl : n = an + bn := by omega
                have hd : decide ((((an + bn : Nat) : Int)) < ((an + bn : Nat) : Int)) = false := by simp
                have hd2 : decide (((an : Int) + (bn : Int)) < ((an : Int) + (bn : Int))) = false := by simp
                have HN : Hid ((madeL (f.is.drop (j + 1)) g).bind (madeFs ((fs.drop (i + 1)).map Fe.is)) = R) := Lib.hid HF.out
                have HO6 := Lib.hid hO6
                clear hO6 Bq
                go_wp2_with fail
                go_roundw
                case rel => exact ⟨j + 1, g, by have := HO3.out.2.2.2.2.2.2; omega, by go_num, HM, HN, HO6⟩
                case measure => have := HO3.out.2.2.2.2.2.2; simp [intOf]; omega
              | succ r =>
                have hlt : n < an + bn := by omega
                have hnm : n < m := by omega
                have hd : decide ((n : Int) < ((an : Int) + (bn : Int))) = true := by rw [decide_eq_true_eq]; omega
                obtain ⟨x, hx⟩ : ∃ x, g[n]? = some x := ⟨_, List.getElem?_eq_getElem (by rw [HM.out.2]; exact hnm)⟩
                obtain ⟨p0, p1⟩ := HM.out.1.get hx
                obtain ⟨x1, x2⟩ := x
                replace p0 : w6.cell? ⟨gg, n * 2, none⟩ = some (.int .i64 x1) := p0
                replace p1 : w6.cell? ⟨gg, n * 2 + 1, none⟩ = some (.int .i64 x2) := p1
                have hf := HF.out
                rw [markN, hx, Option.getD_some] at hf
                replace hf : ((if x2 = 0 then markN c (bn : Int) r (n + 1) (g.set n (c, (bn : Int))) else none).bind (madeL (f.is.drop (j + 1)))).bind (madeFs ((fs.drop (i + 1)).map Fe.is)) = R := hf
                have HO6 := Lib.hid hO6
                clear hx
                by_cases hx2 : x2 = 0
                · have e2 : (x2 == 0) = true := by rw [hx2]; rfl
                  rw [if_pos hx2] at hf
                  have HN := Lib.hid hf
                  have z0 := Blk.frozen HM.out.1 (n * 2)
                  have z1 := Blk.frozen HM.out.1 (n * 2 + 1)
                  have HS : Hid (GBlk ((w6.setCell ⟨gg, n * 2, none⟩ (.int .i64 c)).setCell ⟨gg, n * 2 + 1, none⟩ (.int .i64 (bn : Int))) gg (g.set n (c, (bn : Int))) ∧ Off (fun k => k = gg) w3 ((w6.setCell ⟨gg, n * 2, none⟩ (.int .i64 c)).setCell ⟨gg, n * 2 + 1, none⟩ (.int .i64 (bn : Int)))) := Lib.hid ⟨HM.out.1.set n (c, (bn : Int)), HO2.out.trans ((Off.setc _ _ _ _).trans (Off.setc _ _ _ _))⟩
                  clear hf hO6 Bq hx2
                  go_upto_region 11 with (first | (refine (HAY.out _).mono ?_; rintro e w' ⟨rfl, rfl⟩))
                  go_region
                  go_wp2_with fail
                  go_roundw
                  case rel => exact ⟨n + 1, r, g.set n (c, (bn : Int)), by omega, by go_num, Lib.hid ⟨HS.out.1.drew, by rw [List.length_set]; exact HM.out.2⟩, HN, Lib.hid (HS.out.2.trans (Off.drew _ _))⟩
                  case measure => simp [intOf]; omega
                · have e2 : (x2 == 0) = false := by rw [beq_eq_false_iff_ne]; exact hx2
                  rw [if_neg hx2] at hf
                  have HZ : Hid (ans = false) := Lib.hid (by rw [HC.out.2.2.2.2, ← hf]; rfl)
                  have HZ2 : Hid (R = none) := Lib.hid (by rw [← hf]; rfl)
                  clear hf hO6 Bq
                  go_wp2_with fail
                  refine (HAN.out _).mono ?_
                  rintro e w' ⟨rfl, rfl⟩
                  exact ⟨rfl, by rw [HZ.out]; rfl, (fun gs h => by rw [HZ2.out] at h; cases h), HO6.out⟩
          · have e6 : ((k : Int) != 6) = true := by rw [bne_iff_ne]; omega
            rw [if_neg h6] at hfm
            have HFM := Lib.hid hfm
            clear hfm hFs hx hdr hin ho6 hok hw3 hb3 B3 hq3 hO3 hM3 hgq h6
            go_upto_region 6 with fail
            rw [HO3.out.1, HO3.out.2.1]
            clear z0 z1 z2 z3 z4 d0 d2 hlj
            go_wp2_with fail
            go_roundw
            case rel => exact ⟨j + 1, g, by have := HO3.out.2.2.2.2.2.2; omega, by go_num, Lib.hid ⟨HO3.out.2.2.2.1, HM.out.2⟩, HFM, Lib.hid HO3.out.2.2.1⟩
            case measure => have := HO3.out.2.2.2.2.2.2; simp [intOf]; omega
        · obtain rfl : l = j := by omega
          have hd : decide ((l : Int) < (l : Int)) = false := by simp
          have HN : Hid (madeFs ((fs.drop (i + 1)).map Fe.is) g = R) := Lib.hid (by
            have := HF.out
            rw [List.drop_of_length_le (by rw [HFI.out.1]; exact Nat.le_refl _), madeL] at this
            exact this)
          go_wp2_with fail
          go_roundw
          case rel => exact ⟨i + 1, g, by have := HFI.out.2.2.2; omega, by go_num, HM, HN, HO⟩
          case measure => have := HFI.out.2.2.2; simp [intOf]; omega
    · obtain rfl : m = i := by omega
      have hd : decide ((m : Int) < (m : Int)) = false := by simp
      have HRg : Hid (R = some g) := Lib.hid (by
        have := HF.out
        rw [List.drop_of_length_le (by rw [HC.out.1]; exact Nat.le_refl _), List.map_nil, madeFs] at this
        exact this.symm)
      obtain ⟨_, d2, _⟩ := HK.out w4 HO.out
      clear HF
      go_wp2_with fail
      go_loopw [67] (fun v67 wr => ∃ (n : Nat), n ≤ m ∧ v67 = .int .i64 (n : Int) ∧ w4 = wr ∧ Hid (∀ j x, 0 < j → j < n → g[j]? = some x → 0 < x.2)) (fun v67 _ => m - (intOf v67).toNat)
      case atStart => exact ⟨0, Nat.zero_le _, rfl, rfl, Lib.hid fun j x h1 h2 => by omega⟩
      case round =>
        obtain ⟨n, hn, rfl, rfl, HI⟩ := hrel
        by_cases hln : n < m
        · have hd : decide ((n : Int) < (m : Int)) = true := by simpa using hln
          obtain ⟨x, hx⟩ : ∃ x, g[n]? = some x := ⟨_, List.getElem?_eq_getElem (by rw [HM.out.2]; exact hln)⟩
          obtain ⟨p0, p1⟩ := HM.out.1.get hx
          obtain ⟨x1, x2⟩ := x
          replace p1 : w4.cell? ⟨gg, n * 2 + 1, none⟩ = some (.int .i64 x2) := p1
          have HX := Lib.hid hx
          clear p0 hx
          by_cases hn0 : n = 0
          · have HN : Hid (∀ j x, 0 < j → j < n + 1 → g[j]? = some x → 0 < x.2) := Lib.hid fun j x h1 h2 => by omega
            have e0 : ((n : Int) == 0) = true := by rw [hn0]; rfl
            clear hn0
            go_wp2_with fail
            refine (HAY.out _).mono ?_
            rintro e w' ⟨rfl, rfl⟩
            go_wp2_with fail
            go_roundw
            case rel => exact ⟨n + 1, by omega, by go_num, trivial, HN⟩
            case measure => simp [intOf]; omega
          · have e0 : ((n : Int) == 0) = false := by rw [beq_eq_false_iff_ne]; omega
            by_cases hp : 0 < x2
            · have ep : decide (x2 > 0) = true := by simpa using hp
              have HN : Hid (∀ j x, 0 < j → j < n + 1 → g[j]? = some x → 0 < x.2) := Lib.hid fun j x h1 h2 h3 => by
                rcases Nat.lt_or_ge j n with h | h
                · exact HI.out j x h1 h h3
                · obtain rfl : j = n := by omega
                  rw [HX.out] at h3
                  cases h3
                  exact hp
              clear hn0 hp
              go_wp2_with fail
              refine (HAY.out _).mono ?_
              rintro e w' ⟨rfl, rfl⟩
              go_wp2_with fail
              go_roundw
              case rel => exact ⟨n + 1, by omega, by go_num, trivial, HN⟩
              case measure => simp [intOf]; omega
            · have ep : decide (x2 > 0) = false := by simpa using hp
              have HZ : Hid (ans = false) := Lib.hid (by
                rw [HC.out.2.2.2.2, HRg.out]
                show madeOK g = false
                unfold madeOK
                rw [List.all_eq_false]
                refine ⟨(x1, x2), ?_, by simpa using hp⟩
                refine List.mem_of_getElem? (i := n - 1) ?_
                rw [List.getElem?_drop, show 1 + (n - 1) = n by omega, HX.out])
              clear hn0 hp
              go_wp2_with fail
              refine (HAN.out _).mono ?_
              rintro e w' ⟨rfl, rfl⟩
              exact ⟨rfl, by rw [HZ.out]; rfl, (fun gs h h2 => by rw [HZ.out] at h2; cases h2), HO.out⟩
        · obtain rfl : m = n := by omega
          have hd : decide ((m : Int) < (m : Int)) = false := by simp
          have HZ : Hid (ans = true) := Lib.hid (by
            rw [HC.out.2.2.2.2, HRg.out]
            show madeOK g = true
            unfold madeOK
            rw [List.all_eq_true]
            intro x hx
            obtain ⟨j, hj⟩ := List.getElem?_of_mem hx
            rw [List.getElem?_drop] at hj
            have := HI.out (1 + j) x (by omega) (by have := (List.getElem?_eq_some_iff.1 hj).1; rw [HM.out.2] at this; exact this) hj
            simpa using this)
          go_wp2_with fail
          go_end0
          exact ⟨by rw [HZ.out]; rfl, (fun gs h _ => by rw [HRg.out] at h; cases h; exact HM.out.1), HO.out⟩
end Go.Proofs.Ytimkiifcmegfeaa
