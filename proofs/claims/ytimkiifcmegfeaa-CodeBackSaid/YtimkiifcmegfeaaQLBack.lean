/- The law, walked. -/
import Derived.Test.YtimkiifcmegfeaaQBm
/- code: CodeBack (written by cdback.py). -/
namespace Go.Proofs.Ytimkiifcmegfeaa
open Go.RowKit
set_option linter.unusedVariables false
set_option linter.unusedSimpArgs false
attribute [local go_sem] Oper.semAt_some
set_option maxRecDepth 20000 in
set_option maxHeartbeats 8000000 in
theorem back_law (cl : Cl) (A1 : Option Addr) (bl c1 : Nat) (bs : List UInt8) (k mo : Nat) (w : World) (hC : cl.At (fun b => b < w.heap.size) w) (hL : cl.Light) (hbl : bs.length = bl) (hbA : Bytes w A1 bs) (hbc : bl ≤ c1 ∧ c1 ≤ maxLen) (hA1 : ∀ p : Addr, A1 = some p → p.block < w.heap.size) (hk : k < 65536) (hmo : mo < 256) :
    Calls Try.prog 6 #[.agg #[.slice cl.fA cl.fs.length cl.fc, .slice cl.rA cl.rs.length cl.rc], .slice A1 bl c1, .agg #[.int .u16 (k : Int), .int .u8 (mo : Int)]] w fun e w' => e = .returned (.bool true) ∧ Below w.heap.size w w' := by
  obtain ⟨m, hm⟩ : ∃ z, cl.fs.length = z := ⟨_, rfl⟩
  obtain ⟨rk, hrk⟩ : ∃ z, cl.rs.length = z := ⟨_, rfl⟩
  obtain ⟨w0, hw0⟩ : ∃ V, (w.alloc (.cells #[.slice cl.fA m cl.fc, .slice cl.rA rk cl.rc] 25)).alloc (.cells #[.int .u16 (k : Int), .int .u8 (mo : Int)] 43) = V := ⟨_, rfl⟩
  have hb0 : Below w.heap.size w w0 := by rw [← hw0]; exact ((Below.refl _ _).alloc (Nat.le_refl _) _).alloc (by simp) _
  have K0 : Blk w0 w.heap.size 25 #[.slice cl.fA m cl.fc, .slice cl.rA rk cl.rc] := by rw [← hw0]; exact (Blk.new _ _ _).alloc _
  have X0 : Blk w0 (w.heap.size + 1) 43 #[.int .u16 (k : Int), .int .u8 (mo : Int)] := by
    rw [← hw0]
    have h9 := Blk.new (w.alloc (.cells #[.slice cl.fA m cl.fc, .slice cl.rA rk cl.rc] 25)) 43 #[.int .u16 (k : Int), .int .u8 (mo : Int)]
    rw [World.size_alloc] at h9
    exact h9
  have hC0 := (hC.bel hb0).mono (Y := fun b => b < w0.heap.size) fun b hlt _ => hlt
  have hlg := large_any cl w0 hC0 hL
  rw [hm, hrk]
  rw [hm, hrk] at hlg
  have HW0 := Lib.hid hw0
  have HLG := Lib.hid hlg
  have HI := Lib.hid (And.intro hm (And.intro hrk (And.intro hC (And.intro hb0 (And.intro hbl (And.intro hbA (And.intro hA1 hbc)))))))
  have HK0 := Lib.hid (And.intro K0 X0)
  have HWK := Lib.hid (fun V => works_any V)
  have c0 : w0.cell? ⟨w.heap.size, 0, none⟩ = some (.slice cl.fA m cl.fc) := K0.cell 0
  have c1' : w0.cell? ⟨w.heap.size, 1, none⟩ = some (.slice cl.rA rk cl.rc) := K0.cell 1
  have x0 : w0.cell? ⟨w.heap.size + 1, 0, none⟩ = some (.int .u16 (k : Int)) := X0.cell 0
  have x1 : w0.cell? ⟨w.heap.size + 1, 1, none⟩ = some (.int .u8 (mo : Int)) := X0.cell 1
  clear hm hrk hw0 hb0 K0 X0 hC0 hlg hC hbl hbA hA1 hbc hL
  go_enter Try.func6, Try.ntmps6
  go_upto_region 1 with fail
  rw [HW0.out]
  go_wp2_with fail
  refine HLG.out.mono ?_
  rintro e w1 ⟨lb, rfl, hlb, hb1⟩
  have HB1 := Lib.hid (HI.out.2.2.2.1.trans (hb1.mono HI.out.2.2.2.1.size))
  have HK1 := Lib.hid (And.intro (HK0.out.1.below hb1 HK0.out.1.lt) (HK0.out.2.below hb1 HK0.out.2.lt))
  have HLB := Lib.hid hlb
  clear hb1 hlb HLG HK0 c0 c1' x0 x1
  by_cases hsmall : lb = false ∧ bl ≤ 32768
  case neg =>
    cases lb with
    | true =>
      go_wp2_with fail
      refine (HWK.out _).mono ?_
      rintro e w90 ⟨rfl, hb90⟩
      have HB90 := Lib.hid (HB1.out.trans (hb90.mono HB1.out.size))
      clear hb90
      go_wp2_with fail
      go_ret
      exact ⟨rfl, HB90.out⟩
    | false =>
      have d1 : decide ((bl : Int) > 32768) = true := decide_eq_true (by have := hsmall; simp at this; omega)
      go_wp2_with fail
      refine (HWK.out _).mono ?_
      rintro e w90 ⟨rfl, hb90⟩
      have HB90 := Lib.hid (HB1.out.trans (hb90.mono HB1.out.size))
      clear hb90
      go_wp2_with fail
      go_ret
      exact ⟨rfl, HB90.out⟩
  obtain ⟨rfl, hb15⟩ := hsmall
  have d1 : decide ((bl : Int) > 32768) = false := decide_eq_false (by omega)
  have hms := HLB.out rfl
  have hm3 : m ≤ 3000 := by rw [← HI.out.1]; exact (Cl.bounds hms).1
  have hrk3 : rk ≤ 3000 := by rw [← HI.out.2.1]; exact (Cl.bounds hms).2.1
  have hC1 := ((HI.out.2.2.1.bel HB1.out).mono (Y := fun b => b < w1.heap.size) fun b hlt _ => hlt)
  have hWr := write_any cl w1 hC1 (by have := meas_len hms; omega)
  rw [HI.out.1, HI.out.2.1] at hWr
  obtain ⟨xs, hxs⟩ : ∃ z, cbytes cl.cd = z := ⟨_, rfl⟩
  obtain ⟨n, hn⟩ : ∃ z, xs.length = z := ⟨_, rfl⟩
  have hn3 : n ≤ 300000 := by rw [← hn, ← hxs]; exact meas_len hms
  have hn8 : 8 ≤ n := by rw [← hn, ← hxs]; exact len_min _
  have hrd : readB xs = some cl.cd := by rw [← hxs]; exact read_write _ (Cl.fine HI.out.2.2.1 hms)
  rw [hxs, hn] at hWr
  have HWR := Lib.hid hWr
  have HX := Lib.hid (And.intro hxs (And.intro hn (And.intro hrd hms)))
  have c0 : w1.cell? ⟨w.heap.size, 0, none⟩ = some (.slice cl.fA m cl.fc) := HK1.out.1.cell 0
  have c1' : w1.cell? ⟨w.heap.size, 1, none⟩ = some (.slice cl.rA rk cl.rc) := HK1.out.1.cell 1
  clear hWr hxs hn hrd hms hC1 HLB
  go_wp2_with fail
  obtain ⟨Q, hQ⟩ : ∃ Q : Ending → World → Prop, (fun (e : Ending) (w' : World) => ∃ v, e = .returned v ∧ w'.ownsRow w1.heap.size 5 1 v n (xs.map bv) ∧ Below w1.heap.size w1 w') = Q := ⟨_, rfl⟩
  have h9 := HWR.out
  rw [hQ] at h9
  refine h9.mono ?_
  intro e w2 hq
  rw [← hQ] at hq
  obtain ⟨v, rfl, hown, hb2⟩ := hq
  obtain ⟨Aw, cw, rfl⟩ := own_shape hown
  have hAw : ∀ p : Addr, Aw = some p → p.block < w2.heap.size := fun p hp => (hown.lt p.block (by rw [hp]; rfl)).2
  have HR := Lib.hid (read_any Aw n cw xs w2 HX.out.2.1 (by omega) (Bytes.of_own hown) hAw)
  have HB2 := Lib.hid (And.intro hb2 (HB1.out.trans (hb2.mono HB1.out.size)))
  have HOW := Lib.hid (And.intro hown hAw)
  have HK2 := Lib.hid (And.intro (HK1.out.1.below hb2 HK1.out.1.lt) (HK1.out.2.below hb2 HK1.out.2.lt))
  clear h9 hQ hown hb2 HWR hAw c0 c1'
  go_wp2_with fail
  refine HR.out.mono ?_
  intro e w3 hq
  rw [HX.out.2.2.1] at hq
  obtain ⟨hb3, cl2, hcd, rfl, hat, _⟩ := hq
  obtain ⟨w4, hw4⟩ : ∃ V, w3.alloc (.cells #[.slice cl2.fA cl2.fs.length cl2.fc, .slice cl2.rA cl2.rs.length cl2.rc] 25) = V := ⟨_, rfl⟩
  have hlen2 : cl2.fs.length = m ∧ cl2.rs.length = rk := by
    have h1 := congrArg (fun c : Cd => c.fs.length) hcd
    have h2 := congrArg (fun c : Cd => c.rs.length) hcd
    have h1 : (cl2.fs.map Fe.is).length = (cl.fs.map Fe.is).length := h1
    rw [List.length_map, List.length_map] at h1
    exact ⟨h1.trans HI.out.1, h2.trans HI.out.2.1⟩
  rw [hlen2.1, hlen2.2] at hw4 ⊢
  have hb4 : Below w3.heap.size w3 w4 := by rw [← hw4]; exact (Below.refl _ _).alloc (Nat.le_refl _) _
  have D4 : Blk w4 w3.heap.size 25 #[.slice cl2.fA m cl2.fc, .slice cl2.rA rk cl2.rc] := by rw [← hw4]; exact Blk.new _ _ _
  have hb24 := hb3.trans (hb4.mono hb3.size)
  have hat4 := (hat.bel hb4).mono (Y := fun b => b < w4.heap.size) fun b hlt _ => hlt
  have HB4 := Lib.hid (And.intro hb24 (HB2.out.2.trans (hb24.mono HB2.out.2.size)))
  have HK4 := Lib.hid (And.intro (HK2.out.1.below hb24 HK2.out.1.lt) (And.intro (HK2.out.2.below hb24 HK2.out.2.lt) D4))
  have hWr2 := write_any cl2 w4 hat4 (by rw [hcd, HX.out.1, HX.out.2.1]; omega)
  rw [hlen2.1, hlen2.2, hcd, HX.out.1, HX.out.2.1] at hWr2
  have HWR2 := Lib.hid hWr2
  have H2 := Lib.hid (And.intro hcd (And.intro hat4 hlen2))
  have HW4 := Lib.hid hw4
  have c0 : w4.cell? ⟨w.heap.size, 0, none⟩ = some (.slice cl.fA m cl.fc) := HK4.out.1.cell 0
  have c1' : w4.cell? ⟨w.heap.size, 1, none⟩ = some (.slice cl.rA rk cl.rc) := HK4.out.1.cell 1
  have d0 : w4.cell? ⟨w3.heap.size, 0, none⟩ = some (.slice cl2.fA m cl2.fc) := D4.cell 0
  have d1' : w4.cell? ⟨w3.heap.size, 1, none⟩ = some (.slice cl2.rA rk cl2.rc) := D4.cell 1
  clear hb3 hat hb4 hb24 D4 hat4 hWr2 hcd hw4 hlen2 HR HK2
  go_upto_region 7 with fail
  rw [HW4.out]
  have dn : decide ((n : Int) < 8) = false := decide_eq_false (by omega)
  go_wp2_with fail
  obtain ⟨Q, hQ⟩ : ∃ Q : Ending → World → Prop, (fun (e : Ending) (w' : World) => ∃ v, e = .returned v ∧ w'.ownsRow w4.heap.size 5 1 v n (xs.map bv) ∧ Below w4.heap.size w4 w') = Q := ⟨_, rfl⟩
  have h9 := HWR2.out
  rw [hQ] at h9
  refine h9.mono ?_
  intro e w5 hq
  rw [← hQ] at hq
  obtain ⟨v, rfl, hown, hb5⟩ := hq
  obtain ⟨Ax, cx, rfl⟩ := own_shape hown
  have hB5w := (Bytes.of_own HOW.out.1).below (HB4.out.1.trans (hb5.mono HB4.out.1.size))
  have hcw := own_cap HOW.out.1
  have hcx := own_cap hown
  have hE := eq_any Ax Aw n cx n cw xs xs w5 HX.out.2.1 HX.out.2.1 (Bytes.of_own hown) hB5w ⟨hcx.1, hcx.2, by omega⟩ ⟨hcw.1, hcw.2, by omega⟩
  rw [decide_eq_true rfl] at hE
  have HE := Lib.hid hE
  have HB5 := Lib.hid (And.intro (HB4.out.1.trans (hb5.mono HB4.out.1.size)) (HB4.out.2.trans (hb5.mono HB4.out.2.size)))
  have HB45 := Lib.hid hb5
  clear h9 hQ hown hb5 hB5w hcw hcx hE HWR2 c0 c1' d0 d1'
  go_wp2_with fail
  refine HE.out.mono ?_
  rintro e w6 ⟨rfl, hb6⟩
  have hb46 := HB45.out.trans (hb6.mono HB45.out.size)
  have HB6 := Lib.hid (And.intro (HB5.out.1.trans (hb6.mono HB5.out.1.size)) (HB5.out.2.trans (hb6.mono HB5.out.2.size)))
  have HK6 := Lib.hid (And.intro (HK4.out.1.below hb46 HK4.out.1.lt) (And.intro (HK4.out.2.1.below hb46 HK4.out.2.1.lt) (HK4.out.2.2.below hb46 HK4.out.2.2.lt)))
  have hat6 := (H2.out.2.1.bel hb46)
  have hC6 := HI.out.2.2.1.bel HB6.out.2
  have H6 := Lib.hid (And.intro hat6 hC6)
  have c0 : w6.cell? ⟨w.heap.size, 0, none⟩ = some (.slice cl.fA m cl.fc) := HK6.out.1.cell 0
  have c1' : w6.cell? ⟨w.heap.size, 1, none⟩ = some (.slice cl.rA rk cl.rc) := HK6.out.1.cell 1
  have d0 : w6.cell? ⟨w3.heap.size, 0, none⟩ = some (.slice cl2.fA m cl2.fc) := HK6.out.2.2.cell 0
  have d1' : w6.cell? ⟨w3.heap.size, 1, none⟩ = some (.slice cl2.rA rk cl2.rc) := HK6.out.2.2.cell 1
  clear hb6 hb46 hat6 hC6 HE HB5 HB45 HK4 dn
  go_wp2_with fail
  go_loopw [12] (fun iv wr => ∃ (i z : Nat), wr = w6.drewN z ∧ i ≤ m ∧ iv = .int .i64 (i : Int)) (fun iv _ => m - (intOf iv).toNat)
  case atStart => exact ⟨0, 0, rfl, Nat.zero_le _, rfl⟩
  case round =>
    obtain ⟨i, z, ew, hi, rfl⟩ := hrel
    obtain ⟨w7, hw7⟩ : ∃ v, v = wr := ⟨_, rfl⟩
    rw [← hw7]
    have e7 : w7 = w6.drewN z := hw7.trans ew
    clear ew
    subst hw7
    clear c0 c1' d0 d1'
    have c0 : w7.cell? ⟨w.heap.size, 0, none⟩ = some (.slice cl.fA m cl.fc) := by rw [e7]; exact HK6.out.1.cell 0
    have d0 : w7.cell? ⟨w3.heap.size, 0, none⟩ = some (.slice cl2.fA m cl2.fc) := by rw [e7]; exact HK6.out.2.2.cell 0
    have c1' : w7.cell? ⟨w.heap.size, 1, none⟩ = some (.slice cl.rA rk cl.rc) := by rw [e7]; exact HK6.out.1.cell 1
    have d1' : w7.cell? ⟨w3.heap.size, 1, none⟩ = some (.slice cl2.rA rk cl2.rc) := by rw [e7]; exact HK6.out.2.2.cell 1
    have HE7 := Lib.hid e7
    clear e7
    by_cases hlt : i < m
    · have hd : decide ((i : Int) < (m : Int)) = true := decide_eq_true (by omega)
      have him : (i : Int) < (m : Int) := by omega
      obtain ⟨f, hf⟩ : ∃ f, cl.fs[i]? = some f := ⟨_, List.getElem?_eq_getElem (by rw [HI.out.1]; exact hlt)⟩
      obtain ⟨f2, hf2⟩ : ∃ f, cl2.fs[i]? = some f := ⟨_, List.getElem?_eq_getElem (by rw [H2.out.2.2.1]; exact hlt)⟩
      have hff : f2.is = f.is := by
        have h1 : (cl2.fs.map Fe.is)[i]? = (cl.fs.map Fe.is)[i]? := congrArg (fun c : Cd => c.fs[i]?) H2.out.1
        rw [List.getElem?_map, List.getElem?_map, hf, hf2] at h1
        simpa using h1
      obtain ⟨fb, fo, eA, _, _, f0, hin⟩ := H6.out.2.fs.get hf
      obtain ⟨gb, go, eB, _, _, g0, hin2⟩ := H6.out.1.fs.get hf2
      rw [hff] at g0
      obtain ⟨q, hq⟩ : ∃ z, f.is.length = z := ⟨_, rfl⟩
      have hq3 : q ≤ 3000 := by
        have h1 := HX.out.2.2.2
        have h2 : f.is.length + mI f.is ≤ mF (cl.fs.map Fe.is) := mF_mem (List.mem_map.2 ⟨f, List.mem_of_getElem? hf, rfl⟩)
        have h3 : (cl.fs.map Fe.is).length + cl.rs.length + mF (cl.fs.map Fe.is) + mR cl.rs ≤ 3000 := h1
        omega
      rw [hq] at f0 g0
      rw [eA] at c0
      rw [eB] at d0
      have f0 : w7.cell? ⟨fb, fo + i, none⟩ = some (.slice f.A q f.c) := by rw [HE7.out]; exact f0
      have g0 : w7.cell? ⟨gb, go + i, none⟩ = some (.slice f2.A q f2.c) := by rw [HE7.out]; exact g0
      have HF := Lib.hid (And.intro hin (And.intro hin2 (And.intro hff hq)))
      clear hf hf2 hff hin hin2 hq
      go_upto_region 12 with fail
      go_quiet (fail)
      have e8 : w7.drewN nq = w6.drewN (z + nq) := by rw [HE7.out]; simp [World.drewN, Nat.add_assoc]
      rw [e8]
      clear e8
      go_wp2_with fail
      go_loopw [13] (fun jv wr => ∃ (j z : Nat), wr = w6.drewN z ∧ j ≤ q ∧ jv = .int .i64 (j : Int)) (fun jv _ => q - (intOf jv).toNat)
      case atStart => exact ⟨0, z + nq, rfl, Nat.zero_le _, rfl⟩
      case round =>
        obtain ⟨j, z2, ew, hj, rfl⟩ := hrel
        obtain ⟨w8, hw8⟩ : ∃ v, v = wr := ⟨_, rfl⟩
        rw [← hw8]
        have e8 : w8 = w6.drewN z2 := hw8.trans ew
        clear ew
        subst hw8
        have y0 : w8.cell? ⟨w.heap.size, 0, none⟩ = some (.slice (some ⟨fb, fo, none⟩) m cl.fc) := by rw [← c0, HE7.out, e8]; rfl
        have z0 : w8.cell? ⟨w3.heap.size, 0, none⟩ = some (.slice (some ⟨gb, go, none⟩) m cl2.fc) := by rw [← d0, HE7.out, e8]; rfl
        have f8 : w8.cell? ⟨fb, fo + i, none⟩ = some (.slice f.A q f.c) := by rw [← f0, HE7.out, e8]; rfl
        have g8 : w8.cell? ⟨gb, go + i, none⟩ = some (.slice f2.A q f2.c) := by rw [← g0, HE7.out, e8]; rfl
        have HE8 := Lib.hid e8
        clear e8
        by_cases hlq : j < q
        · have hd3 : decide ((j : Int) < (q : Int)) = true := decide_eq_true (by omega)
          have hjq : (j : Int) < (q : Int) := by omega
          obtain ⟨⟨xo, xa, xb, xc, xt⟩, hx⟩ : ∃ x, f.is[j]? = some x := ⟨_, List.getElem?_eq_getElem (by rw [HF.out.2.2.2]; exact hlq)⟩
          obtain ⟨ib', io, eI, _, _, a0, a1, a2, a3, a4, _⟩ := HF.out.1.ins.get hx
          obtain ⟨jb, jo, eJ, _, _, b0, b1, b2, b3, b4, _⟩ := HF.out.2.1.ins.get (by rw [HF.out.2.2.1]; exact hx)
          rw [eI] at f8
          rw [eJ] at g8
          have a0 : w8.cell? ⟨ib', io + j * 5, none⟩ = some (.int .u8 (xo : Int)) := by rw [HE8.out]; exact a0
          have a1 : w8.cell? ⟨ib', io + j * 5 + 1, none⟩ = some (.int .i64 xa) := by rw [HE8.out]; exact a1
          have a2 : w8.cell? ⟨ib', io + j * 5 + 2, none⟩ = some (.int .i64 xb) := by rw [HE8.out]; exact a2
          have a3 : w8.cell? ⟨ib', io + j * 5 + 3, none⟩ = some (.int .i64 xc) := by rw [HE8.out]; exact a3
          have a4 : w8.cell? ⟨ib', io + j * 5 + 4, none⟩ = some (.string (str xt)) := by rw [HE8.out]; exact a4
          have b0 : w8.cell? ⟨jb, jo + j * 5, none⟩ = some (.int .u8 (xo : Int)) := by rw [HE8.out]; exact b0
          have b1 : w8.cell? ⟨jb, jo + j * 5 + 1, none⟩ = some (.int .i64 xa) := by rw [HE8.out]; exact b1
          have b2 : w8.cell? ⟨jb, jo + j * 5 + 2, none⟩ = some (.int .i64 xb) := by rw [HE8.out]; exact b2
          have b3 : w8.cell? ⟨jb, jo + j * 5 + 3, none⟩ = some (.int .i64 xc) := by rw [HE8.out]; exact b3
          have b4 : w8.cell? ⟨jb, jo + j * 5 + 4, none⟩ = some (.string (str xt)) := by rw [HE8.out]; exact b4
          clear hx c0 c1' d0 d1' f0 g0
          go_upto_region 17 with fail
          go_quiet (fail)
          have e9 : w8.drewN nq = w6.drewN (z2 + nq) := by rw [HE8.out]; simp [World.drewN, Nat.add_assoc]
          rw [e9]
          clear e9
          go_wp2_with fail
          go_roundw
          case rel => exact ⟨j + 1, z2 + nq, rfl, by omega, by go_num⟩
          case measure => simp [intOf]; omega
        · have hd3 : decide ((j : Int) < (q : Int)) = false := decide_eq_false (by omega)
          rw [HE8.out]
          rw [HE8.out] at y0 z0 f8 g8
          clear c0 c1' d0 d1' f0 g0
          go_wp2_with fail
          go_roundw
          case rel => exact ⟨i + 1, z2, rfl, by omega, by go_num⟩
          case measure => simp [intOf]; omega
    · have hd : decide ((i : Int) < (m : Int)) = false := decide_eq_false (by omega)
      rw [HE7.out] at c0 c1' d0 d1' ⊢
      go_wp2_with fail
      go_loopw [14] (fun iv wr => ∃ (j z : Nat), wr = w6.drewN z ∧ j ≤ rk ∧ iv = .int .i64 (j : Int)) (fun iv _ => rk - (intOf iv).toNat)
      case atStart => exact ⟨0, z, rfl, Nat.zero_le _, rfl⟩
      case round =>
        obtain ⟨j, z2, ew, hj, rfl⟩ := hrel
        obtain ⟨w8, hw8⟩ : ∃ v, v = wr := ⟨_, rfl⟩
        rw [← hw8]
        have e8 : w8 = w6.drewN z2 := hw8.trans ew
        clear ew c0 c1' d0 d1'
        subst hw8
        have c1' : w8.cell? ⟨w.heap.size, 1, none⟩ = some (.slice cl.rA rk cl.rc) := by rw [e8]; exact HK6.out.1.cell 1
        have d1' : w8.cell? ⟨w3.heap.size, 1, none⟩ = some (.slice cl2.rA rk cl2.rc) := by rw [e8]; exact HK6.out.2.2.cell 1
        have HE8 := Lib.hid e8
        clear e8
        by_cases hlt2 : j < rk
        · have hd3 : decide ((j : Int) < (rk : Int)) = true := decide_eq_true (by omega)
          have hjr : (j : Int) < (rk : Int) := by omega
          obtain ⟨⟨r1, r2⟩, hr⟩ : ∃ r, cl.rs[j]? = some r := ⟨_, List.getElem?_eq_getElem (by rw [HI.out.2.1]; exact hlt2)⟩
          have hr2 : cl2.rs[j]? = some (r1, r2) := by
            have h1 : cl2.rs[j]? = cl.rs[j]? := congrArg (fun c : Cd => c.rs[j]?) H2.out.1
            rw [h1]; exact hr
          obtain ⟨ib', io, eI, _, _, a0, a1, _⟩ := H6.out.2.rs.get hr
          obtain ⟨jb, jo, eJ, _, _, b0, b1, _⟩ := H6.out.1.rs.get hr2
          rw [eI] at c1'
          rw [eJ] at d1'
          have a0 : w8.cell? ⟨ib', io + j * 2, none⟩ = some (.string (str r1)) := by rw [HE8.out]; exact a0
          have a1 : w8.cell? ⟨ib', io + j * 2 + 1, none⟩ = some (.string (str r2)) := by rw [HE8.out]; exact a1
          have b0 : w8.cell? ⟨jb, jo + j * 2, none⟩ = some (.string (str r1)) := by rw [HE8.out]; exact b0
          have b1 : w8.cell? ⟨jb, jo + j * 2 + 1, none⟩ = some (.string (str r2)) := by rw [HE8.out]; exact b1
          clear hr hr2
          go_upto_region 22 with fail
          go_quiet (fail)
          have e9 : w8.drewN nq = w6.drewN (z2 + nq) := by rw [HE8.out]; simp [World.drewN, Nat.add_assoc]
          rw [e9]
          clear e9
          go_wp2_with fail
          go_roundw
          case rel => exact ⟨j + 1, z2 + nq, rfl, by omega, by go_num⟩
          case measure => simp [intOf]; omega
        · have hd3 : decide ((j : Int) < (rk : Int)) = false := decide_eq_false (by omega)
          have hb8 : Below w6.heap.size w6 w8 := by rw [HE8.out]; exact (Off.drewN (fun _ => False) _ _).below (Nat.le_refl _) (fun k h => h.elim)
          have hb28 := HB6.out.1.trans (hb8.mono HB6.out.1.size)
          have hbw8 := HB6.out.2.trans (hb8.mono HB6.out.2.size)
          obtain ⟨kk, hkk⟩ : ∃ z, k % n = z := ⟨_, rfl⟩
          have hkn : kk < n := by rw [← hkk]; exact Nat.mod_lt _ (by omega)
          have hcw := own_cap HOW.out.1
          have hbx : Bytes w8 Aw (xs.take kk) := fun j c hc => by
            have h1 : xs[j]? = some c := by
              rw [List.getElem?_take] at hc
              split at hc
              · exact hc
              · cases hc
            exact (Bytes.of_own HOW.out.1).below hb28 j c h1
          have hR8 := read_any Aw kk cw (xs.take kk) w8 (by rw [List.length_take, HX.out.2.1]; omega) (by omega) hbx (fun p hp => Nat.lt_of_lt_of_le (HOW.out.2 p hp) hb28.size)
          rw [read_cut HX.out.2.2.1 (by rw [HX.out.2.1]; exact hkn)] at hR8
          have km1 : ((k : Int) % (n : Int)).toNat = kk := by rw [← hkk]; rfl
          have km2 : (0 : Int) ≤ (k : Int) % (n : Int) := Int.emod_nonneg _ (by omega)
          have km3 : (k : Int) % (n : Int) ≤ (cw : Int) := by
            have h1 := Int.emod_lt_of_pos (k : Int) (show (0 : Int) < (n : Int) by omega)
            have h2 := hcw.1
            omega
          have km4 : kk ≤ cw := by have := hcw.1; omega
          have km5 : (n : Int) ≠ 0 := by omega
          have HR8 := Lib.hid hR8
          have HB8 := Lib.hid (And.intro hb28 hbw8)
          clear hb8 hb28 hbw8 hkk hcw hbx hR8 HE8 HK6 H6
          go_wp2_with fail
          refine HR8.out.mono ?_
          intro e w9 hq
          obtain ⟨hb9, rfl⟩ := hq
          obtain ⟨w10, hw10⟩ : ∃ V, w9.alloc (.cells #[.slice none 0 0, .slice none 0 0] 25) = V := ⟨_, rfl⟩
          have hb10 : Below w9.heap.size w9 w10 := by rw [← hw10]; exact (Below.refl _ _).alloc (Nat.le_refl _) _
          have hb810 := hb9.trans (hb10.mono hb9.size)
          have hb210 := HB8.out.1.trans (hb810.mono HB8.out.1.size)
          have hbw10 := HB8.out.2.trans (hb810.mono HB8.out.2.size)
          have ho10 := own_below HOW.out.1 hb210
          obtain ⟨mb, hmb⟩ : ∃ z, UInt8.ofNat mo = z := ⟨_, rfl⟩
          have hmt : mb.toNat = mo := by rw [← hmb, UInt8.toNat_ofNat', Nat.mod_eq_of_lt (by omega)]
          obtain ⟨v', w11, hrun, hown, hgr⟩ := run_app1 w10 w1.heap.size (.slice Aw n cw) n xs mb ho10 (by omega) (Nat.le_trans HB2.out.1.size hb210.size)
          rw [hmt] at hrun hgr
          obtain ⟨Aq, cq, rfl⟩ := own_shape hown
          have hbw11 : Below w.heap.size w w11 := (hbw10.alloc hbw10.size _).grown hgr (by have := hbw10.size; simp; omega) (fun j e => by have h1 := (HOW.out.1.lt j e).1; have h2 := HB1.out.size; omega)
          have hR11 := read_any Aq (n + 1) cq (xs ++ [mb]) w11 (by rw [List.length_append, HX.out.2.1]; rfl) (by omega) (Bytes.of_own hown) (fun p hp => (hown.lt p.block (by rw [hp]; rfl)).2)
          rw [read_more HX.out.2.2.1 (by simp)] at hR11
          have HR11 := Lib.hid hR11
          have HRUN := Lib.hid hrun
          have HB11 := Lib.hid hbw11
          have HW10 := Lib.hid hw10
          clear hb9 hb10 hb810 hb210 hbw10 ho10 hmb hmt hrun hown hgr hbw11 hR11 hw10 HR8 HB8 c1' d1' km1 km2 km3 km4
          go_upto_region 25 with fail
          rw [HW10.out]
          have hrun := HRUN.out
          go_wp2_with (at_builtin; refine wpList_app rfl _ _ 26 rfl _ _ _ _ rfl rfl hrun ?_)
          clear hrun HRUN
          refine HR11.out.mono ?_
          intro e w12 hq
          obtain ⟨hb12, rfl⟩ := hq
          obtain ⟨w13, hw13⟩ : ∃ V, w12.alloc (.cells #[.slice none 0 0, .slice none 0 0] 25) = V := ⟨_, rfl⟩
          have hb13 : Below w12.heap.size w12 w13 := by rw [← hw13]; exact (Below.refl _ _).alloc (Nat.le_refl _) _
          have hbw13 := HB11.out.trans ((hb12.trans (hb13.mono hb12.size)).mono HB11.out.size)
          have hbs := HI.out.2.2.2.2.2.1.below hbw13
          have hR13 := read_any A1 bl c1 bs w13 HI.out.2.2.2.2.1 (by omega) hbs (fun p hp => Nat.lt_of_lt_of_le (HI.out.2.2.2.2.2.2.1 p hp) hbw13.size)
          have HR13 := Lib.hid hR13
          have HB13 := Lib.hid hbw13
          have HW13 := Lib.hid hw13
          clear hb12 hb13 hbw13 hbs hR13 hw13 HR11
          go_upto_region 29 with fail
          rw [HW13.out]
          go_wp2_with fail
          refine HR13.out.mono ?_
          intro e w14 hq
          cases hrb : readB bs with
          | none =>
            rw [hrb] at hq
            obtain ⟨hb14, rfl⟩ := hq
            have HB14 := Lib.hid (HB13.out.trans (hb14.mono HB13.out.size))
            clear hb14 hrb
            go_wp2_with fail
            refine (HWK.out _).mono ?_
            rintro e w90 ⟨rfl, hb90⟩
            have hb99 : Below w14.heap.size w14 (w14.alloc (.cells #[.slice none 0 0, .slice none 0 0] 25)) := (Below.refl _ _).alloc (Nat.le_refl _) _
            have HB90 := Lib.hid (HB14.out.trans ((hb99.trans (hb90.mono hb99.size)).mono HB14.out.size))
            clear hb90 hb99
            go_wp2_with fail
            go_ret
            exact ⟨rfl, HB90.out⟩
          | some cd3 =>
            rw [hrb] at hq
            obtain ⟨hb14, cl3, hcd3, rfl, hat3, _⟩ := hq
            obtain ⟨w15, hw15⟩ : ∃ V, w14.alloc (.cells #[.slice cl3.fA cl3.fs.length cl3.fc, .slice cl3.rA cl3.rs.length cl3.rc] 25) = V := ⟨_, rfl⟩
            have hb15' : Below w14.heap.size w14 w15 := by rw [← hw15]; exact (Below.refl _ _).alloc (Nat.le_refl _) _
            have D15 : Blk w15 w14.heap.size 25 #[.slice cl3.fA cl3.fs.length cl3.fc, .slice cl3.rA cl3.rs.length cl3.rc] := by rw [← hw15]; exact Blk.new _ _ _
            have hbw15 := HB13.out.trans ((hb14.trans (hb15'.mono hb14.size)).mono HB13.out.size)
            have hat15 := (hat3.bel hb15').mono (Y := fun b => b < w15.heap.size) fun b hlt _ => hlt
            have hcb : cbytes cl3.cd = bs := by rw [hcd3]; exact write_read bs cd3 hrb
            have hW15 := write_any cl3 w15 hat15 (by rw [hcb, HI.out.2.2.2.2.1]; omega)
            rw [hcb, HI.out.2.2.2.2.1] at hW15
            have HWR3 := Lib.hid hW15
            have HB15 := Lib.hid hbw15
            have HW15 := Lib.hid hw15
            have d0 : w15.cell? ⟨w14.heap.size, 0, none⟩ = some (.slice cl3.fA cl3.fs.length cl3.fc) := D15.cell 0
            have d1' : w15.cell? ⟨w14.heap.size, 1, none⟩ = some (.slice cl3.rA cl3.rs.length cl3.rc) := D15.cell 1
            clear hb14 hat3 hb15' D15 hbw15 hat15 hcb hW15 hw15 hrb hcd3
            go_upto_region 30 with fail
            rw [HW15.out]
            go_wp2_with fail
            obtain ⟨Q, hQ⟩ : ∃ Q : Ending → World → Prop, (fun (e : Ending) (w' : World) => ∃ v, e = .returned v ∧ w'.ownsRow w15.heap.size 5 1 v bl (bs.map bv) ∧ Below w15.heap.size w15 w') = Q := ⟨_, rfl⟩
            have h9 := HWR3.out
            rw [hQ] at h9
            refine h9.mono ?_
            intro e w16 hq
            rw [← hQ] at hq
            obtain ⟨v, rfl, hown, hb16⟩ := hq
            obtain ⟨Ax, cx, rfl⟩ := own_shape hown
            have hcx := own_cap hown
            have hbw16 := HB15.out.trans (hb16.mono HB15.out.size)
            have hcc := HI.out.2.2.2.2.2.2.2
            have hE := eq_any Ax A1 bl cx bl c1 bs bs w16 HI.out.2.2.2.2.1 HI.out.2.2.2.2.1 (Bytes.of_own hown) (HI.out.2.2.2.2.2.1.below hbw16) ⟨hcx.1, hcx.2, by omega⟩ ⟨hcc.1, hcc.2, by omega⟩
            rw [decide_eq_true rfl] at hE
            have HE := Lib.hid hE
            have HB16 := Lib.hid hbw16
            clear h9 hQ hown hb16 hcx hcc hE hbw16 HWR3 d0 d1'
            go_wp2_with fail
            refine HE.out.mono ?_
            rintro e w17 ⟨rfl, hb17⟩
            have HB17 := Lib.hid (HB16.out.trans (hb17.mono HB16.out.size))
            clear hb17 HE
            go_wp2_with fail
            refine (HWK.out _).mono ?_
            rintro e w90 ⟨rfl, hb90⟩
            have HB90 := Lib.hid (HB17.out.trans (hb90.mono HB17.out.size))
            clear hb90
            go_wp2_with fail
            go_ret
            exact ⟨rfl, HB90.out⟩
end Go.Proofs.Ytimkiifcmegfeaa
