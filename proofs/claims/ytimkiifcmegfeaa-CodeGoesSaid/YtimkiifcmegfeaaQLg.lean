/- Contracts. -/
import Derived.Test.YtimkiifcmegfeaaBG
import Derived.Test.YtimkiifcmegfeaaQOq
/- code: is a code large? -/
namespace Go.Proofs.Ytimkiifcmegfeaa
open Go.RowKit
set_option linter.unusedVariables false
set_option linter.unusedSimpArgs false
attribute [local go_sem] Oper.semAt_some
/-- How much a code holds. -/
def mI (is : List Ins) : Nat := (is.map fun i => i.tx.length / 16).sum
def mF (fs : List (List Ins)) : Nat := (fs.map fun f => f.length + mI f).sum
def mR (rs : List (List UInt8 × List UInt8)) : Nat := (rs.map fun r => (r.1.length + r.2.length) / 16).sum
def meas (c : Cd) : Nat := c.fs.length + c.rs.length + mF c.fs + mR c.rs
theorem mI_take {is : List Ins} {k : Nat} {i : Ins} (h : is[k]? = some i) : mI (is.take (k + 1)) = mI (is.take k) + i.tx.length / 16 := by
  unfold mI
  rw [List.take_add_one, h]
  simp
theorem mF_take {fs : List (List Ins)} {k : Nat} {f : List Ins} (h : fs[k]? = some f) : mF (fs.take (k + 1)) = mF (fs.take k) + (f.length + mI f) := by
  unfold mF
  rw [List.take_add_one, h]
  simp
theorem mR_take {rs : List (List UInt8 × List UInt8)} {k : Nat} {r : List UInt8 × List UInt8} (h : rs[k]? = some r) : mR (rs.take (k + 1)) = mR (rs.take k) + (r.1.length + r.2.length) / 16 := by
  unfold mR
  rw [List.take_add_one, h]
  simp
set_option maxRecDepth 20000 in
set_option maxHeartbeats 4000000 in
theorem large_any (cl : Cl) (w : World) (hC : cl.At (fun b => b < w.heap.size) w) (hL : cl.Light) : Calls Try.prog 10 #[.agg #[.slice cl.fA cl.fs.length cl.fc, .slice cl.rA cl.rs.length cl.rc]] w fun e w' => ∃ b, e = .returned (.bool b) ∧ (b = false → meas cl.cd ≤ 3000) ∧ Below w.heap.size w w' := by
  obtain ⟨m, hm⟩ : ∃ z, cl.fs.length = z := ⟨_, rfl⟩
  obtain ⟨rk, hrk⟩ : ∃ z, cl.rs.length = z := ⟨_, rfl⟩
  have hml : m ≤ 140737488355328 := by have := hL.fl; omega
  have hrl : rk ≤ 140737488355328 := by have := hL.rl; omega
  rw [hm, hrk]
  obtain ⟨w0, hw0⟩ : ∃ V, w.alloc (.cells #[.slice cl.fA m cl.fc, .slice cl.rA rk cl.rc] 25) = V := ⟨_, rfl⟩
  have hb0 : Below w.heap.size w w0 := by rw [← hw0]; exact (Below.refl _ _).alloc (Nat.le_refl _) _
  have C0 : Blk w0 w.heap.size 25 #[.slice cl.fA m cl.fc, .slice cl.rA rk cl.rc] := by rw [← hw0]; exact Blk.new _ _ _
  have hC0 := hC.bel hb0
  have c0 : w0.cell? ⟨w.heap.size, 0, none⟩ = some (.slice cl.fA m cl.fc) := C0.cell 0
  have c1 : w0.cell? ⟨w.heap.size, 1, none⟩ = some (.slice cl.rA rk cl.rc) := C0.cell 1
  have HW0 := Lib.hid hw0
  have HI := Lib.hid (And.intro hm (And.intro hrk (And.intro hC0 (And.intro hb0 hL))))
  clear hm hrk hC hC0 hb0 C0 hw0 hL
  go_enter Try.func10, Try.ntmps10
  go_upto_region 1 with fail
  rw [HW0.out]
  go_wp2_with fail
  go_loopw [3, 4] (fun nv iv wr => ∃ (n i : Nat), w0 = wr ∧ i ≤ m ∧ nv = .int .i64 (n : Int) ∧ iv = .int .i64 (i : Int) ∧ n ≤ 562949953421312 ∧ Hid (n ≤ 3000 → n = m + rk + mF ((cl.fs.map Fe.is).take i))) (fun _ iv _ => m - (intOf iv).toNat)
  case atStart => exact ⟨m + rk, 0, rfl, Nat.zero_le _, by go_num, rfl, by omega, Lib.hid fun _ => rfl⟩
  case round =>
    obtain ⟨n, i, rfl, hi, rfl, rfl, hn, HN⟩ := hrel
    by_cases hgo : i < m ∧ n ≤ 3000
    · have hd : decide ((i : Int) < (m : Int)) = true := decide_eq_true (by omega)
      have hd2 : decide ((n : Int) ≤ 3000) = true := decide_eq_true (by omega)
      obtain ⟨f, hf⟩ : ∃ f, cl.fs[i]? = some f := ⟨_, List.getElem?_eq_getElem (by rw [HI.out.1]; exact hgo.1)⟩
      obtain ⟨fb, fo, eA, hX, hlt, f0, hin⟩ := HI.out.2.2.1.fs.get hf
      obtain ⟨q, hq⟩ : ∃ z, f.is.length = z := ⟨_, rfl⟩
      rw [eA] at c0
      rw [hq] at f0
      have hql : q ≤ 140737488355328 := by have h1 := (HI.out.2.2.2.2.f f (List.mem_of_getElem? hf)).1; omega
      have him : i < m := hgo.1
      have HF := Lib.hid (And.intro hf (And.intro hin (And.intro hq (HN.out hgo.2))))
      clear hf hin hq hX hlt HN
      go_wp2_with fail
      go_loopw [3, 5] (fun nv kv wr => ∃ (n2 k : Nat), w0 = wr ∧ k ≤ q ∧ nv = .int .i64 (n2 : Int) ∧ kv = .int .i64 (k : Int) ∧ n2 ≤ 562949953421312 ∧ Hid (n2 ≤ 3000 → n2 = n + q + mI (f.is.take k))) (fun _ kv _ => q - (intOf kv).toNat)
      case atStart => exact ⟨n + q, 0, rfl, Nat.zero_le _, by go_num, rfl, by omega, Lib.hid fun _ => rfl⟩
      case round =>
        obtain ⟨n2, k, rfl, hk, rfl, rfl, hn2, HN⟩ := hrel
        by_cases hgo2 : k < q ∧ n2 ≤ 3000
        · have hd3 : decide ((k : Int) < (q : Int)) = true := decide_eq_true (by omega)
          have hd4 : decide ((n2 : Int) ≤ 3000) = true := decide_eq_true (by omega)
          obtain ⟨x, hx⟩ : ∃ x, f.is[k]? = some x := ⟨_, List.getElem?_eq_getElem (by rw [HF.out.2.2.1]; exact hgo2.1)⟩
          obtain ⟨ib, io, eI, _, _, _, _, _, _, t4, hok⟩ := HF.out.2.1.ins.get hx
          obtain ⟨tl, htl⟩ : ∃ z, x.tx.length = z := ⟨_, rfl⟩
          have hts : (str x.tx).size = tl := by rw [← htl]; exact str_size _
          have htb : tl ≤ 140737488355328 := by have h1 := (HI.out.2.2.2.2.f f (List.mem_of_getElem? HF.out.1)).2 x (List.mem_of_getElem? hx); unfold Ins.light at h1; omega
          rw [eI] at f0
          have hkq : k < q := hgo2.1
          have HX : Hid (n2 + tl / 16 ≤ 3000 → n2 + tl / 16 = n + q + mI (f.is.take (k + 1))) := Lib.hid fun h => by
            rw [mI_take hx, htl]
            have := HN.out hgo2.2
            omega
          have hdv : (tl : Int) / 16 = ((tl / 16 : Nat) : Int) := by omega
          have hdv2 : (tl : Int).tdiv 16 = ((tl / 16 : Nat) : Int) := rfl
          have HD := Lib.hid (And.intro hdv hdv2)
          clear hx hok HN htl hdv hdv2
          go_wp2_with fail
          go_roundw
          case rel => exact ⟨n2 + tl / 16, k + 1, trivial, by omega, congrArg (Value.int .i64) (by omega), by go_num, by omega, HX⟩
          case measure => simp [intOf]; omega
        · have HNX : Hid (n2 ≤ 3000 → n2 = m + rk + mF ((cl.fs.map Fe.is).take (i + 1))) := Lib.hid fun h => by
            have hkq : k = q := by omega
            have h2 := HN.out h
            rw [hkq, ← HF.out.2.2.1, List.take_length] at h2
            rw [mF_take (f := f.is) (by rw [List.getElem?_map, HF.out.1]; rfl)]
            have h3 := HF.out.2.2.2
            omega
          have HGO := Lib.hid hgo2
          clear HN hgo2
          by_cases hkq : k < q
          · have hd3 : decide ((k : Int) < (q : Int)) = true := decide_eq_true (by omega)
            have hd4 : decide ((n2 : Int) ≤ 3000) = false := decide_eq_false (by have := HGO.out; omega)
            go_wp2_with fail
            go_roundw
            case rel => exact ⟨n2, i + 1, trivial, by omega, rfl, by go_num, hn2, HNX⟩
            case measure => simp [intOf]; omega
          · have hd3 : decide ((k : Int) < (q : Int)) = false := decide_eq_false (by omega)
            go_wp2_with fail
            go_roundw
            case rel => exact ⟨n2, i + 1, trivial, by omega, rfl, by go_num, hn2, HNX⟩
            case measure => simp [intOf]; omega
    · have HNX : Hid (n ≤ 3000 → n = m + rk + mF (cl.fs.map Fe.is)) := Lib.hid fun h => by
        have him : i = m := by omega
        have h2 := HN.out h
        rw [him, ← HI.out.1, ← List.length_map (f := Fe.is), List.take_length] at h2
        rw [← HI.out.1]
        simpa using h2
      have HGO := Lib.hid hgo
      clear HN hgo
      by_cases him : i < m
      · have hd : decide ((i : Int) < (m : Int)) = true := decide_eq_true (by omega)
        have hd2 : decide ((n : Int) ≤ 3000) = false := decide_eq_false (by have := HGO.out; omega)
        go_upto_region 10 with fail
        go_wp2_with fail
        go_loopw [3, 6] (fun nv iv wr => ∃ (n2 j z : Nat), wr = w0.drewN z ∧ j ≤ rk ∧ nv = .int .i64 (n2 : Int) ∧ iv = .int .i64 (j : Int) ∧ n2 ≤ 562949953421312 ∧ Hid (n2 ≤ 3000 → n2 = m + rk + mF (cl.fs.map Fe.is) + mR (cl.rs.take j))) (fun _ iv _ => rk - (intOf iv).toNat)
        case atStart => exact ⟨n, 0, 0, rfl, Nat.zero_le _, rfl, rfl, hn, Lib.hid fun h => by rw [HNX.out h]; rfl⟩
        case round =>
          obtain ⟨n2, j, z, ew, hj, rfl, rfl, hn2, HN⟩ := hrel
          obtain ⟨w5, hw5⟩ : ∃ v, v = wr := ⟨_, rfl⟩
          rw [← hw5]
          have e5 : w5 = w0.drewN z := hw5.trans ew
          clear ew
          subst hw5
          have x0 : w5.cell? ⟨w.heap.size, 0, none⟩ = some (.slice cl.fA m cl.fc) := by rw [e5]; exact c0
          have x1 : w5.cell? ⟨w.heap.size, 1, none⟩ = some (.slice cl.rA rk cl.rc) := by rw [e5]; exact c1
          have HE := Lib.hid e5
          clear e5
          by_cases hgo : j < rk ∧ n2 ≤ 3000
          · have hd3 : decide ((j : Int) < (rk : Int)) = true := decide_eq_true (by omega)
            have hd4 : decide ((n2 : Int) ≤ 3000) = true := decide_eq_true (by omega)
            obtain ⟨r, hr⟩ : ∃ r, cl.rs[j]? = some r := ⟨_, List.getElem?_eq_getElem (by rw [HI.out.2.1]; exact hgo.1)⟩
            obtain ⟨rb, ro, eR, _, _, t0, t1, hok⟩ := HI.out.2.2.1.rs.get hr
            have hlr := HI.out.2.2.2.2.r r (List.mem_of_getElem? hr)
            obtain ⟨l1, hl1⟩ : ∃ z, r.1.length = z := ⟨_, rfl⟩
            obtain ⟨l2, hl2⟩ : ∃ z, r.2.length = z := ⟨_, rfl⟩
            have hb1 : l1 ≤ 140737488355328 := by have := hlr.1; omega
            have hb2 : l2 ≤ 140737488355328 := by have := hlr.2; omega
            have hs1 : (str r.1).size = l1 := by rw [← hl1]; exact str_size _
            have hs2 : (str r.2).size = l2 := by rw [← hl2]; exact str_size _
            rw [eR] at x1
            have t0 : w5.cell? ⟨rb, ro + j * 2, none⟩ = some (.string (str r.1)) := by rw [HE.out]; exact t0
            have t1 : w5.cell? ⟨rb, ro + j * 2 + 1, none⟩ = some (.string (str r.2)) := by rw [HE.out]; exact t1
            have hjr : (j : Int) < (rk : Int) := by omega
            have hjr2 : j < rk := by omega
            have HX : Hid (n2 + (l1 + l2) / 16 ≤ 3000 → n2 + (l1 + l2) / 16 = m + rk + mF (cl.fs.map Fe.is) + mR (cl.rs.take (j + 1))) := Lib.hid fun h => by
              rw [mR_take hr, hl1, hl2]
              have := HN.out hgo.2
              omega
            have q0 : IntKind.i64.wrap ((l1 : Int) + (l2 : Int)) = (l1 : Int) + (l2 : Int) := IntWalk.i64_in _ ⟨by omega, by omega⟩
            have q1 : ((l1 : Int) + (l2 : Int)).tdiv 16 = (((l1 + l2) / 16 : Nat) : Int) := rfl
            have q2 : IntKind.i64.wrap (((l1 + l2) / 16 : Nat) : Int) = (((l1 + l2) / 16 : Nat) : Int) := IntWalk.i64_in _ ⟨by omega, by omega⟩
            clear hr hok hlr HN hl1 hl2 x0
            go_upto_region 13 with fail
            go_quiet (fail)
            go_wp2_with fail
            go_roundw
            case rel => exact ⟨n2 + (l1 + l2) / 16, j + 1, z + nq, by rw [HE.out]; simp [World.drewN, Nat.add_assoc], by omega, congrArg (Value.int .i64) (by omega), by go_num, by omega, HX⟩
            case measure => simp [intOf]; omega
          · have HNY : Hid (n2 ≤ 3000 → meas cl.cd ≤ 3000) := Lib.hid fun h => by
              have hjk : j = rk := by omega
              have h2 := HN.out h
              rw [hjk, ← HI.out.2.1, List.take_length] at h2
              unfold meas
              show (cl.fs.map Fe.is).length + cl.rs.length + _ + _ ≤ 3000
              rw [List.length_map]
              have h3 := HI.out.1
              have h4 := HI.out.2.1
              show cl.fs.length + cl.rs.length + mF (cl.fs.map Fe.is) + mR cl.rs ≤ 3000
              omega
            have HB5 : Hid (Below w.heap.size w w5) := Lib.hid (by rw [HE.out]; exact HI.out.2.2.2.1.trans ((Off.drewN (fun _ => False) _ _).below HI.out.2.2.2.1.size (fun k h => h.elim)))
            have HGO := Lib.hid hgo
            obtain ⟨bb, hbb⟩ : ∃ z, decide ((n2 : Int) > 3000) = z := ⟨_, rfl⟩
            have HBB := Lib.hid hbb
            clear HN hgo
            by_cases hjr : j < rk
            · have hd3 : decide ((j : Int) < (rk : Int)) = true := decide_eq_true (by omega)
              have hd4 : decide ((n2 : Int) ≤ 3000) = false := decide_eq_false (by have := HGO.out; omega)
              go_wp2_with fail
              go_ret
              exact ⟨_, rfl, fun h => HNY.out (by have h9 := HBB.out; rw [h] at h9; have := of_decide_eq_false h9; omega), HB5.out⟩
            · have hd3 : decide ((j : Int) < (rk : Int)) = false := decide_eq_false (by omega)
              go_wp2_with fail
              go_ret
              exact ⟨_, rfl, fun h => HNY.out (by have h9 := HBB.out; rw [h] at h9; have := of_decide_eq_false h9; omega), HB5.out⟩
      · have hd : decide ((i : Int) < (m : Int)) = false := decide_eq_false (by omega)
        go_upto_region 10 with fail
        go_wp2_with fail
        go_loopw [3, 6] (fun nv iv wr => ∃ (n2 j z : Nat), wr = w0.drewN z ∧ j ≤ rk ∧ nv = .int .i64 (n2 : Int) ∧ iv = .int .i64 (j : Int) ∧ n2 ≤ 562949953421312 ∧ Hid (n2 ≤ 3000 → n2 = m + rk + mF (cl.fs.map Fe.is) + mR (cl.rs.take j))) (fun _ iv _ => rk - (intOf iv).toNat)
        case atStart => exact ⟨n, 0, 0, rfl, Nat.zero_le _, rfl, rfl, hn, Lib.hid fun h => by rw [HNX.out h]; rfl⟩
        case round =>
          obtain ⟨n2, j, z, ew, hj, rfl, rfl, hn2, HN⟩ := hrel
          obtain ⟨w5, hw5⟩ : ∃ v, v = wr := ⟨_, rfl⟩
          rw [← hw5]
          have e5 : w5 = w0.drewN z := hw5.trans ew
          clear ew
          subst hw5
          have x0 : w5.cell? ⟨w.heap.size, 0, none⟩ = some (.slice cl.fA m cl.fc) := by rw [e5]; exact c0
          have x1 : w5.cell? ⟨w.heap.size, 1, none⟩ = some (.slice cl.rA rk cl.rc) := by rw [e5]; exact c1
          have HE := Lib.hid e5
          clear e5
          by_cases hgo : j < rk ∧ n2 ≤ 3000
          · have hd3 : decide ((j : Int) < (rk : Int)) = true := decide_eq_true (by omega)
            have hd4 : decide ((n2 : Int) ≤ 3000) = true := decide_eq_true (by omega)
            obtain ⟨r, hr⟩ : ∃ r, cl.rs[j]? = some r := ⟨_, List.getElem?_eq_getElem (by rw [HI.out.2.1]; exact hgo.1)⟩
            obtain ⟨rb, ro, eR, _, _, t0, t1, hok⟩ := HI.out.2.2.1.rs.get hr
            have hlr := HI.out.2.2.2.2.r r (List.mem_of_getElem? hr)
            obtain ⟨l1, hl1⟩ : ∃ z, r.1.length = z := ⟨_, rfl⟩
            obtain ⟨l2, hl2⟩ : ∃ z, r.2.length = z := ⟨_, rfl⟩
            have hb1 : l1 ≤ 140737488355328 := by have := hlr.1; omega
            have hb2 : l2 ≤ 140737488355328 := by have := hlr.2; omega
            have hs1 : (str r.1).size = l1 := by rw [← hl1]; exact str_size _
            have hs2 : (str r.2).size = l2 := by rw [← hl2]; exact str_size _
            rw [eR] at x1
            have t0 : w5.cell? ⟨rb, ro + j * 2, none⟩ = some (.string (str r.1)) := by rw [HE.out]; exact t0
            have t1 : w5.cell? ⟨rb, ro + j * 2 + 1, none⟩ = some (.string (str r.2)) := by rw [HE.out]; exact t1
            have hjr : (j : Int) < (rk : Int) := by omega
            have hjr2 : j < rk := by omega
            have HX : Hid (n2 + (l1 + l2) / 16 ≤ 3000 → n2 + (l1 + l2) / 16 = m + rk + mF (cl.fs.map Fe.is) + mR (cl.rs.take (j + 1))) := Lib.hid fun h => by
              rw [mR_take hr, hl1, hl2]
              have := HN.out hgo.2
              omega
            have q0 : IntKind.i64.wrap ((l1 : Int) + (l2 : Int)) = (l1 : Int) + (l2 : Int) := IntWalk.i64_in _ ⟨by omega, by omega⟩
            have q1 : ((l1 : Int) + (l2 : Int)).tdiv 16 = (((l1 + l2) / 16 : Nat) : Int) := rfl
            have q2 : IntKind.i64.wrap (((l1 + l2) / 16 : Nat) : Int) = (((l1 + l2) / 16 : Nat) : Int) := IntWalk.i64_in _ ⟨by omega, by omega⟩
            clear hr hok hlr HN hl1 hl2 x0
            go_upto_region 13 with fail
            go_quiet (fail)
            go_wp2_with fail
            go_roundw
            case rel => exact ⟨n2 + (l1 + l2) / 16, j + 1, z + nq, by rw [HE.out]; simp [World.drewN, Nat.add_assoc], by omega, congrArg (Value.int .i64) (by omega), by go_num, by omega, HX⟩
            case measure => simp [intOf]; omega
          · have HNY : Hid (n2 ≤ 3000 → meas cl.cd ≤ 3000) := Lib.hid fun h => by
              have hjk : j = rk := by omega
              have h2 := HN.out h
              rw [hjk, ← HI.out.2.1, List.take_length] at h2
              unfold meas
              show (cl.fs.map Fe.is).length + cl.rs.length + _ + _ ≤ 3000
              rw [List.length_map]
              have h3 := HI.out.1
              have h4 := HI.out.2.1
              show cl.fs.length + cl.rs.length + mF (cl.fs.map Fe.is) + mR cl.rs ≤ 3000
              omega
            have HB5 : Hid (Below w.heap.size w w5) := Lib.hid (by rw [HE.out]; exact HI.out.2.2.2.1.trans ((Off.drewN (fun _ => False) _ _).below HI.out.2.2.2.1.size (fun k h => h.elim)))
            have HGO := Lib.hid hgo
            obtain ⟨bb, hbb⟩ : ∃ z, decide ((n2 : Int) > 3000) = z := ⟨_, rfl⟩
            have HBB := Lib.hid hbb
            clear HN hgo
            by_cases hjr : j < rk
            · have hd3 : decide ((j : Int) < (rk : Int)) = true := decide_eq_true (by omega)
              have hd4 : decide ((n2 : Int) ≤ 3000) = false := decide_eq_false (by have := HGO.out; omega)
              go_wp2_with fail
              go_ret
              exact ⟨_, rfl, fun h => HNY.out (by have h9 := HBB.out; rw [h] at h9; have := of_decide_eq_false h9; omega), HB5.out⟩
            · have hd3 : decide ((j : Int) < (rk : Int)) = false := decide_eq_false (by omega)
              go_wp2_with fail
              go_ret
              exact ⟨_, rfl, fun h => HNY.out (by have h9 := HBB.out; rw [h] at h9; have := of_decide_eq_false h9; omega), HB5.out⟩
end Go.Proofs.Ytimkiifcmegfeaa
