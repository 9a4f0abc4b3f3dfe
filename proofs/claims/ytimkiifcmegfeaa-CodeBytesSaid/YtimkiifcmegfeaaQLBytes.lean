/- The law, walked. -/
import Derived.Test.YtimkiifcmegfeaaQBm
import Derived.Test.YtimkiifcmegfeaaQRc
import Derived.Test.YtimkiifcmegfeaaBU
/- code: CodeBytes (written by cdbytes.py). -/
namespace Go.Proofs.Ytimkiifcmegfeaa
open Go.RowKit
set_option linter.unusedVariables false
set_option linter.unusedSimpArgs false
attribute [local go_sem] Oper.semAt_some
def resE (R : Option Cd) : Int := if R.isSome = true then 0 else 8
def cdOf (R : Option Cd) : Cd := R.getD ⟨[], []⟩
theorem nil_at (X : Nat → Prop) (w : World) : Cl.At X w ⟨[], none, 0, [], none, 0⟩ := ⟨⟨RowAt.nil _ _ _ _ _, fun f h => by simp at h⟩, ⟨RowAt.nil _ _ _ _ _, fun f h => by simp at h⟩, ⟨Nat.le_refl _, Nat.zero_le _⟩, ⟨Nat.le_refl _, Nat.zero_le _⟩⟩
theorem RdPost.uni {R : Option Cd} {w w' : World} {e : Ending} (h : RdPost R w e w') : Below w.heap.size w w' ∧ ∃ cl : Cl, e = .returned (.tuple #[.agg #[.slice cl.fA cl.fs.length cl.fc, .slice cl.rA cl.rs.length cl.rc], .int .i64 (resE R)]) ∧ cl.cd = cdOf R ∧ cl.At (fun b => w.heap.size ≤ b) w' := by
  refine ⟨h.1, ?_⟩
  cases R with
  | none => exact ⟨⟨[], none, 0, [], none, 0⟩, h.2, rfl, nil_at _ _⟩
  | some cd =>
    obtain ⟨cl, h1, h2, h3, _⟩ := h.2
    exact ⟨cl, h2, h1, h3⟩
theorem RdP.uni {R : Option Cd} {w w' : World} {e : Ending} (h : RdP R w e w') : Below w.heap.size w w' ∧ ∃ cl : Cl, e = .returned (.tuple #[.agg #[.slice cl.fA cl.fs.length cl.fc, .slice cl.rA cl.rs.length cl.rc], .int .i64 (resE R)]) ∧ cl.cd = cdOf R ∧ cl.At (fun b => w.heap.size ≤ b) w' := by
  refine ⟨h.1, ?_⟩
  cases R with
  | none => exact ⟨⟨[], none, 0, [], none, 0⟩, h.2, rfl, nil_at _ _⟩
  | some cd =>
    obtain ⟨cl, h1, h2, h3⟩ := h.2
    exact ⟨cl, h2, h1, h3⟩
theorem cdOf_len (bs : List UInt8) : (cbytes (cdOf (readB bs))).length ≤ bs.length + 8 := by
  cases h : readB bs with
  | none => exact Nat.le_trans (show (cbytes ⟨[], []⟩).length ≤ 8 by decide) (by omega)
  | some cd =>
    show (cbytes cd).length ≤ _
    rw [write_read bs cd h]
    omega
set_option maxRecDepth 20000 in
set_option maxHeartbeats 8000000 in
theorem bytes_law (cl : Cl) (A1 : Option Addr) (bl c1 : Nat) (bs : List UInt8) (w : World) (hC : cl.At (fun b => b < w.heap.size) w) (hL : cl.Light) (hbl : bs.length = bl) (hbA : Bytes w A1 bs) (hbc : bl ≤ c1 ∧ c1 ≤ maxLen) (hA1 : ∀ p : Addr, A1 = some p → p.block < w.heap.size) :
    Calls Try.prog 3 #[.agg #[.slice cl.fA cl.fs.length cl.fc, .slice cl.rA cl.rs.length cl.rc], .slice A1 bl c1] w fun e w' => e = .returned (.bool true) ∧ Below w.heap.size w w' := by
  obtain ⟨m, hm⟩ : ∃ z, cl.fs.length = z := ⟨_, rfl⟩
  obtain ⟨rk, hrk⟩ : ∃ z, cl.rs.length = z := ⟨_, rfl⟩
  obtain ⟨w0, hw0⟩ : ∃ V, w.alloc (.cells #[.slice cl.fA m cl.fc, .slice cl.rA rk cl.rc] 25) = V := ⟨_, rfl⟩
  have hb0 : Below w.heap.size w w0 := by rw [← hw0]; exact (Below.refl _ _).alloc (Nat.le_refl _) _
  have K0 : Blk w0 w.heap.size 25 #[.slice cl.fA m cl.fc, .slice cl.rA rk cl.rc] := by rw [← hw0]; exact Blk.new _ _ _
  have hC0 := (hC.bel hb0).mono (Y := fun b => b < w0.heap.size) fun b hlt _ => hlt
  have hlg := large_any cl w0 hC0 hL
  rw [hm, hrk]
  rw [hm, hrk] at hlg
  have HW0 := Lib.hid hw0
  have HLG := Lib.hid hlg
  have HI := Lib.hid (And.intro hm (And.intro hrk (And.intro hC (And.intro hb0 (And.intro hbl (And.intro hbA (And.intro hA1 hbc)))))))
  have HK0 := Lib.hid K0
  have HWK := Lib.hid (fun V => works_any V)
  have c0 : w0.cell? ⟨w.heap.size, 0, none⟩ = some (.slice cl.fA m cl.fc) := K0.cell 0
  have c1' : w0.cell? ⟨w.heap.size, 1, none⟩ = some (.slice cl.rA rk cl.rc) := K0.cell 1
  clear hm hrk hw0 hb0 K0 hC0 hlg hC hbl hbA hA1 hbc hL
  go_enter Try.func3, Try.ntmps3
  go_upto_region 1 with fail
  rw [HW0.out]
  go_wp2_with fail
  refine HLG.out.mono ?_
  rintro e w1 ⟨lb, rfl, hlb, hb1⟩
  have HB1 := Lib.hid (HI.out.2.2.2.1.trans (hb1.mono HI.out.2.2.2.1.size))
  have HK1 := Lib.hid (HK0.out.below hb1 HK0.out.lt)
  have HLB := Lib.hid hlb
  clear hb1 hlb HLG HK0 c0 c1'
  by_cases hsmall : lb = false ∧ bl ≤ 32768
  case neg =>
    cases lb with
    | true =>
      go_wp2_with fail
      refine (HWK.out _).mono ?_
      rintro e w90 ⟨rfl, hb90⟩
      have HB90 := Lib.hid (HB1.out.trans (hb90.mono HB1.out.size))
      clear hb90
      go_wp2_with fail
      go_ret
      exact ⟨rfl, HB90.out⟩
    | false =>
      have d1 : decide ((bl : Int) > 32768) = true := decide_eq_true (by have := hsmall; simp at this; omega)
      go_wp2_with fail
      refine (HWK.out _).mono ?_
      rintro e w90 ⟨rfl, hb90⟩
      have HB90 := Lib.hid (HB1.out.trans (hb90.mono HB1.out.size))
      clear hb90
      go_wp2_with fail
      go_ret
      exact ⟨rfl, HB90.out⟩
  obtain ⟨rfl, hb15⟩ := hsmall
  have d1 : decide ((bl : Int) > 32768) = false := decide_eq_false (by omega)
  have hms := HLB.out rfl
  have hC1 := ((HI.out.2.2.1.bel HB1.out).mono (Y := fun b => b < w1.heap.size) fun b hlt _ => hlt)
  have hWr := write_any cl w1 hC1 (by have := meas_len hms; omega)
  rw [HI.out.1, HI.out.2.1] at hWr
  obtain ⟨xs, hxs⟩ : ∃ z, cbytes cl.cd = z := ⟨_, rfl⟩
  obtain ⟨n, hn⟩ : ∃ z, xs.length = z := ⟨_, rfl⟩
  have hn3 : n ≤ 300000 := by rw [← hn, ← hxs]; exact meas_len hms
  rw [hxs, hn] at hWr
  have HWR := Lib.hid hWr
  have HX := Lib.hid (And.intro hxs (And.intro hn hms))
  have c0 : w1.cell? ⟨w.heap.size, 0, none⟩ = some (.slice cl.fA m cl.fc) := HK1.out.cell 0
  have c1' : w1.cell? ⟨w.heap.size, 1, none⟩ = some (.slice cl.rA rk cl.rc) := HK1.out.cell 1
  clear hWr hxs hn hms hC1 HLB
  go_wp2_with fail
  obtain ⟨Q, hQ⟩ : ∃ Q : Ending → World → Prop, (fun (e : Ending) (w' : World) => ∃ v, e = .returned v ∧ w'.ownsRow w1.heap.size 5 1 v n (xs.map bv) ∧ Below w1.heap.size w1 w') = Q := ⟨_, rfl⟩
  have h9 := HWR.out
  rw [hQ] at h9
  refine h9.mono ?_
  intro e w2 hq
  rw [← hQ] at hq
  obtain ⟨v, rfl, hown, hb2⟩ := hq
  obtain ⟨Aw, cw, rfl⟩ := own_shape hown
  have hbw2 := HB1.out.trans (hb2.mono HB1.out.size)
  have HRO := Lib.hid (roomy_any A1 bl c1 bs w2 HI.out.2.2.2.2.1 (HI.out.2.2.2.2.2.1.below hbw2) (by omega))
  have HB2 := Lib.hid hbw2
  have HOW := Lib.hid hown
  have HK2 := Lib.hid (HK1.out.below hb2 HK1.out.lt)
  clear h9 hQ hown hb2 hbw2 HWR c0 c1'
  go_wp2_with fail
  refine HRO.out.mono ?_
  rintro e w3 ⟨g, rfl, hg, hrw, hb3⟩
  have hbw3 := HB2.out.trans (hb3.mono HB2.out.size)
  have hbg : Bytes w3 (some ⟨g, 0, none⟩) bs := fun k c hk => hrw.bytes k c (by rw [List.getElem?_append_left (List.getElem?_eq_some_iff.1 hk).1]; exact hk)
  have HRD := Lib.hid (read_any (some ⟨g, 0, none⟩) bl (bl + 6) bs w3 HI.out.2.2.2.2.1 (by omega) hbg (fun p hp => by injection hp with hp; subst hp; exact hrw.lt))
  have HB3 := Lib.hid hbw3
  have HB23 := Lib.hid hb3
  have HRW := Lib.hid hrw
  have HK3 := Lib.hid (HK2.out.below hb3 HK2.out.lt)
  clear hb3 hbw3 hbg hrw HRO HK2
  go_wp2_with fail
  refine HRD.out.mono ?_
  intro e w4 hq
  obtain ⟨hb4, cl4, rfl, hcd4, hat4⟩ := hq.uni
  clear hq
  obtain ⟨w5, hw5⟩ : ∃ V, w4.alloc (.cells #[.slice cl4.fA cl4.fs.length cl4.fc, .slice cl4.rA cl4.rs.length cl4.rc] 25) = V := ⟨_, rfl⟩
  obtain ⟨g4, hg4⟩ : ∃ z, w4.heap.size = z := ⟨_, rfl⟩
  have hb45 : Below w4.heap.size w4 w5 := by rw [← hw5]; exact (Below.refl _ _).alloc (Nat.le_refl _) _
  have D5 : Blk w5 g4 25 #[.slice cl4.fA cl4.fs.length cl4.fc, .slice cl4.rA cl4.rs.length cl4.rc] := by rw [← hw5, ← hg4]; exact Blk.new _ _ _
  have hb35 := hb4.trans (hb45.mono hb4.size)
  have hbw5 := HB3.out.trans (hb35.mono HB3.out.size)
  have hat5 := (hat4.bel hb45).mono (Y := fun b => b < w5.heap.size) fun b hlt _ => hlt
  have HRF := Lib.hid (rread_any A1 bl c1 bs w5 HI.out.2.2.2.2.1 (by omega) (HI.out.2.2.2.2.2.1.below hbw5) (fun p hp => Nat.lt_of_lt_of_le (HI.out.2.2.2.2.2.2.1 p hp) hbw5.size))
  have HB5 := Lib.hid hbw5
  have HB35 := Lib.hid hb35
  have H5 := Lib.hid (And.intro hat5 (And.intro D5 hcd4))
  have HK5 := Lib.hid (HK3.out.below hb35 HK3.out.lt)
  have HW5 := Lib.hid (And.intro hg4 hw5)
  clear hb4 hb45 D5 hb35 hbw5 hat5 hat4 hcd4 hw5 hg4 HRD HK3
  go_upto_region 6 with fail
  rw [HW5.out.1, HW5.out.2]
  go_wp2_with fail
  refine HRF.out.mono ?_
  intro e w6 hq
  obtain ⟨hb6, cl6, rfl, hcd6, hat6⟩ := hq.uni
  clear hq
  obtain ⟨w7, hw7⟩ : ∃ V, w6.alloc (.cells #[.slice cl6.fA cl6.fs.length cl6.fc, .slice cl6.rA cl6.rs.length cl6.rc] 25) = V := ⟨_, rfl⟩
  obtain ⟨g6, hg6⟩ : ∃ z, w6.heap.size = z := ⟨_, rfl⟩
  have hb67 : Below w6.heap.size w6 w7 := by rw [← hw7]; exact (Below.refl _ _).alloc (Nat.le_refl _) _
  have D7 : Blk w7 g6 25 #[.slice cl6.fA cl6.fs.length cl6.fc, .slice cl6.rA cl6.rs.length cl6.rc] := by rw [← hw7, ← hg6]; exact Blk.new _ _ _
  have hb57 := hb6.trans (hb67.mono hb6.size)
  have hbw7 := HB5.out.trans (hb57.mono HB5.out.size)
  have hat7 := (hat6.bel hb67).mono (Y := fun b => b < w7.heap.size) fun b hlt _ => hlt
  have hC7 := (HI.out.2.2.1.bel hbw7).mono (Y := fun b => b < w7.heap.size) fun b hlt _ => Nat.lt_of_lt_of_le hlt (Nat.le_refl _)
  have hRW7 := rwrite_any cl w7 hC7 (by have := meas_len HX.out.2.2; omega)
  rw [HI.out.1, HI.out.2.1, HX.out.1] at hRW7
  obtain ⟨ze, hze⟩ : ∃ z, resE (readB bs) = z := ⟨_, rfl⟩
  rw [hze]
  have hzz : (ze == ze) = true := by simp
  have HRWW := Lib.hid hRW7
  have HB7 := Lib.hid hbw7
  have HB37 := Lib.hid (HB35.out.trans (hb57.mono HB35.out.size))
  have H7 := Lib.hid (And.intro hat7 (And.intro D7 (And.intro hcd6 (And.intro (H5.out.1.bel hb57) (And.intro (H5.out.2.1.below hb57 H5.out.2.1.lt) H5.out.2.2)))))
  have HK7 := Lib.hid (HK5.out.below hb57 HK5.out.lt)
  have HW7 := Lib.hid (And.intro hg6 hw7)
  have c0 : w7.cell? ⟨w.heap.size, 0, none⟩ = some (.slice cl.fA m cl.fc) := HK7.out.cell 0
  have c1' : w7.cell? ⟨w.heap.size, 1, none⟩ = some (.slice cl.rA rk cl.rc) := HK7.out.cell 1
  clear hb6 hb67 D7 hb57 hbw7 hat7 hat6 hC7 hRW7 hcd6 hw7 hg6 hze HRF HK5 H5
  go_upto_region 7 with fail
  rw [HW7.out.1, HW7.out.2]
  go_wp2_with fail
  obtain ⟨Q, hQ⟩ : ∃ Q : Ending → World → Prop, (fun (e : Ending) (w' : World) => RN xs w7 e w') = Q := ⟨_, rfl⟩
  have h9 := HRWW.out
  rw [hQ] at h9
  refine h9.mono ?_
  intro e w8 hq
  rw [← hQ] at hq
  obtain ⟨v, rfl, hown, hb8⟩ := hq
  rw [HX.out.2.1] at hown
  obtain ⟨Ax, cx, rfl⟩ := own_shape hown
  have hb28 := HB23.out.trans ((HB37.out.trans (hb8.mono HB37.out.size)).mono HB23.out.size)
  have hbw8 := HB7.out.trans (hb8.mono HB7.out.size)
  have hcw := own_cap HOW.out
  have hcx := own_cap hown
  have hE := eq_any Aw Ax n cw n cx xs xs w8 HX.out.2.1 HX.out.2.1 ((Bytes.of_own HOW.out).below hb28) (Bytes.of_own hown) ⟨hcw.1, hcw.2, by omega⟩ ⟨hcx.1, hcx.2, by omega⟩
  rw [decide_eq_true rfl] at hE
  have HE := Lib.hid hE
  have HB8 := Lib.hid hbw8
  have HB78 := Lib.hid hb8
  clear h9 hQ hown hb8 hb28 hbw8 hcw hcx hE HRWW c0 c1'
  go_wp2_with fail
  refine HE.out.mono ?_
  rintro e w9 ⟨rfl, hb9⟩
  have hb79 := HB78.out.trans (hb9.mono HB78.out.size)
  have hbw9 := HB8.out.trans (hb9.mono HB8.out.size)
  have hcl4 : (cbytes cl4.cd).length ≤ 1000000 := by rw [H7.out.2.2.2.2.2]; have := cdOf_len bs; have := HI.out.2.2.2.2.1; omega
  have hcl6 : (cbytes cl6.cd).length ≤ 1000000 := by rw [H7.out.2.2.1]; have := cdOf_len bs; have := HI.out.2.2.2.2.1; omega
  have hS := same_any cl4 cl6 w9 ((H7.out.2.2.2.1.bel hb79).mono fun b hlt _ => hlt) ((H7.out.1.bel hb79).mono fun b hlt _ => hlt) hcl4 hcl6
  rw [H7.out.2.2.2.2.2, H7.out.2.2.1, decide_eq_true rfl] at hS
  have D9 := H7.out.2.1.below hb79 H7.out.2.1.lt
  have E9 := H7.out.2.2.2.2.1.below hb79 H7.out.2.2.2.2.1.lt
  have d0 : w9.cell? ⟨g4, 0, none⟩ = some (.slice cl4.fA cl4.fs.length cl4.fc) := E9.cell 0
  have d1' : w9.cell? ⟨g4, 1, none⟩ = some (.slice cl4.rA cl4.rs.length cl4.rc) := E9.cell 1
  have d2 : w9.cell? ⟨g6, 0, none⟩ = some (.slice cl6.fA cl6.fs.length cl6.fc) := D9.cell 0
  have d3 : w9.cell? ⟨g6, 1, none⟩ = some (.slice cl6.rA cl6.rs.length cl6.rc) := D9.cell 1
  have HS := Lib.hid hS
  have HB9 := Lib.hid (And.intro hbw9 (HB37.out.trans (hb79.mono HB37.out.size)))
  clear hb9 hb79 hbw9 hcl4 hcl6 hS D9 E9 HE HB8 HB78
  go_wp2_with fail
  refine HS.out.mono ?_
  rintro e w10 ⟨rfl, hb10⟩
  have hbw10 := HB9.out.1.trans (hb10.mono HB9.out.1.size)
  have hb310 := HB9.out.2.trans (hb10.mono HB9.out.2.size)
  have hcc := HI.out.2.2.2.2.2.2.2
  have hK := kept_any g bl A1 c1 bs w10 HI.out.2.2.2.2.1 (HRW.out.below hb310) (HI.out.2.2.2.2.2.1.below hbw10) ⟨hcc.1, hcc.2⟩ (by omega)
  have HKE := Lib.hid hK
  have HB10 := Lib.hid hbw10
  clear hb10 hbw10 hb310 hcc hK HS d0 d1' d2 d3
  go_wp2_with fail
  refine HKE.out.mono ?_
  rintro e w11 ⟨rfl, hb11⟩
  have HB11 := Lib.hid (HB10.out.trans (hb11.mono HB10.out.size))
  clear hb11 HKE
  go_wp2_with fail
  refine (HWK.out _).mono ?_
  rintro e w90 ⟨rfl, hb90⟩
  have HB90 := Lib.hid (HB11.out.trans (hb90.mono HB11.out.size))
  clear hb90
  go_wp2_with fail
  go_ret
  exact ⟨rfl, HB90.out⟩
end Go.Proofs.Ytimkiifcmegfeaa
