/- HeapCollects. -/
import Derived.Test.YtclkkfffecmjnaaPy
import Derived.Test.YtclkkfffecmjnaaCm
import Derived.Test.YtclkkfffecmjnaaCw
namespace Go.Proofs.Ytclkkfffecmjnaa
open Go.RowKit
set_option linter.unusedVariables false
set_option linter.unusedSimpArgs false
attribute [local go_sem] Oper.semAt_some
set_option maxRecDepth 20000 in
set_option maxHeartbeats 8000000 in
theorem collects_law (A : Option Addr) (len cap : Nat) (ls : List Ov) (A1 : Option Addr) (rl rc : Nat) (zs : List Int) (w : World) (hl : ls.length = len) (hcap : len ≤ maxLen) (hM : OpsM w A ls) (hlt : ∀ o ∈ ls, LtO o) (hzl : zs.length = rl) (hrl : rl ≤ maxLen) (hzs : Ints w A1 zs) :
    Calls Try.prog 4 #[.slice A len cap, .slice A1 rl rc] w fun e w' => e = .returned (.bool true) ∧ Below w.heap.size w w' := by
  have HV := Lib.hid (vast_any A len cap ls w hl hcap hM hlt)
  have HM := Lib.hid (And.intro hM (And.intro hl hlt))
  have HZ := Lib.hid (And.intro hzs hzl)
  clear hM hl hlt hcap hzs hzl
  go_enter Try.func4, Try.ntmps4
  go_wp2_with fail
  refine HV.out.mono ?_
  rintro e w1 ⟨b, rfl, hbf, hb1⟩
  cases b with
  | true =>
    have HW := Lib.hid (works_any w1)
    have HB := Lib.hid hb1
    clear hb1 hbf HV HM
    go_wp2_with fail
    refine HW.out.mono ?_
    rintro e w3 ⟨rfl, hb3⟩
    have HB3 := Lib.hid (HB.out.trans (hb3.mono HB.out.size))
    clear hb3 HW
    go_wp2_with fail
    go_ret
    exact ⟨rfl, HB3.out⟩
  | false =>
    by_cases hr0 : 1024 < rl
    · have d0 : decide ((rl : Int) > 1024) = true := by simp; omega
      have HW := Lib.hid (works_any w1)
      have HB := Lib.hid hb1
      clear hb1 hbf HV HM
      go_wp2_with fail
      refine HW.out.mono ?_
      rintro e w3 ⟨rfl, hb3⟩
      have HB3 := Lib.hid (HB.out.trans (hb3.mono HB.out.size))
      clear hb3 HW
      go_wp2_with fail
      go_ret
      exact ⟨rfl, HB3.out⟩
    have d0 : decide ((rl : Int) > 1024) = false := by simp; omega
    obtain ⟨hlen, hfit⟩ := hbf rfl
    have hlen : len ≤ 100 := by rw [← HM.out.2.1]; exact hlen
    have HP := Lib.hid (played_any A len cap ls w w1 hb1 HM.out.2.1 hlen HM.out.1 hfit)
    clear hfit hbf hb1 HV
    go_wp2_with fail
    refine HP.out.mono ?_
    rintro e w2 ⟨g, H, rfl, hr, hcl, hll⟩
    obtain ⟨cs, hcs⟩ : ∃ cs, H.count = cs := ⟨_, rfl⟩
    rw [hcs] at hcl ⊢
    have hcsn : ((cs : Int) + 1) = ((cs + 1 : Nat) : Int) := rfl
    have hmk := run_mkb (cs + 1) ((cs : Int) + 1) hcsn (by omega) w2
    obtain ⟨w3, hw3⟩ : ∃ w3, w2.alloc (.cells (rowb (List.replicate (cs + 1) false)) 4) = w3 := ⟨_, rfl⟩
    have hb3 : Below w2.heap.size w2 w3 := by rw [← hw3]; exact (Below.refl _ _).alloc (Nat.le_refl _) _
    have hB3 : Blk w3 w2.heap.size 4 (rowb (List.replicate (cs + 1) false)) := by rw [← hw3]; exact Blk.new _ _ _
    rw [hw3] at hmk
    have hr3 := hr.more (Y := fun k => k = w2.heap.size) hb3 (fun k hk => .inr (by rw [hk]; exact ⟨Nat.le_refl _, hB3.lt⟩))
    obtain ⟨q, hq⟩ : ∃ q, w2.heap.size = q := ⟨_, rfl⟩
    rw [hq] at hmk hB3 hr3
    have hqw : w.heap.size ≤ q := by rw [← hq]; exact hr.bel.size
    have hok := hr3.ok
    have HRE : Hid (∀ (X : Nat → Prop) (hX : X q) (k : Int) (wx : World) (B : List Bool), (Lit.int .i64 k).wf = true → HR w wx X g (2 * len) H → Blk wx q 4 (rowb B) → B.length = cs + 1 → (∀ j : Nat, B[j]? = some true → Reach H (rootC H zs) j) → (∀ x, H.obj k = some x → Reach H (rootC H zs) x.h) →
        Calls Try.prog 29 #[.pointer (some ⟨g, 0, none⟩), .int .i64 k, .slice (some ⟨q, 0, none⟩) (cs + 1) (cs + 1)] wx fun e w' => e = .returned (.tuple #[]) ∧ ∃ B', Reached H (Reach H (rootC H zs)) k B B' ∧ HR w w' X g (2 * len) H ∧ Blk w' q 4 (rowb B') ∧ Off (fun b => b = q) wx w') := Lib.hid fun X hX k wx B hk h1 h2 h3 h4 h5 =>
      reachlaw_any (X := X) hcs (by omega) hX hqw (fun x hx hp z hz hk y hy => .step hx hp hz hk (HS.obj_some hy).1 (HS.obj_some hy).2) _ k wx B hk h1 h2 h3 (Nat.lt_succ_self _) h4 h5
    obtain ⟨c1, hc1⟩ : ∃ c1, cs + 1 = c1 := ⟨_, rfl⟩
    rw [hc1] at hmk hB3 HRE
    have HR2 := Lib.hid (And.intro hr3 (And.intro hB3 (And.intro hll (And.intro hcs (And.intro hc1 (HZ.out.1.below (hr.bel.trans (hb3.mono hr.bel.size))))))))
    clear hr hr3 hB3 hll hcs HP HM hb3 hw3 hq hcsn hc1
    have HZA : Hid (∀ p : Addr, A1 = some p → zs ≠ [] → p.block ≠ q) := Lib.hid fun p e hne => by
      obtain ⟨z, hz⟩ : ∃ z, zs[0]? = some z := ⟨_, List.getElem?_eq_getElem (List.length_pos_iff.2 hne)⟩
      obtain ⟨b, off, e2, hlt, _⟩ := HZ.out.1 0 z hz
      rw [e] at e2
      have : p.block = b := by rw [Option.some.inj e2]
      omega
    have HZL := Lib.hid HZ.out.2
    have HZW := Lib.hid HZ.out.1
    have HZA2 : Hid (∀ p : Addr, A1 = some p → zs ≠ [] → p.block < q) := Lib.hid fun p e hne => by
      obtain ⟨z, hz⟩ : ∃ z, zs[0]? = some z := ⟨_, List.getElem?_eq_getElem (List.length_pos_iff.2 hne)⟩
      obtain ⟨b, off, e2, hlt, _⟩ := HZ.out.1 0 z hz
      rw [e] at e2
      have : p.block = b := by rw [Option.some.inj e2]
      omega
    clear HZ
    go_wp2_with fail
    go_loopw [8] (fun iv wr => ∃ (i : Nat) (B : List Bool), i ≤ rl ∧ iv = .int .i64 (i : Int) ∧ Hid (Ext H (List.replicate c1 false) B ∧ (∀ j : Nat, B[j]? = some true → Reach H (rootC H zs) j) ∧ (∀ r : Nat, r < i → ∀ z, zs[r]? = some z → ∀ x, H.obj z = some x → B[x.h]? = some true) ∧ HR w wr (fun k => k = q) g (2 * len) H ∧ Blk wr q 4 (rowb B) ∧ Ints wr A1 zs)) (fun iv _ => rl - (intOf iv).toNat)
    case atStart => exact ⟨0, List.replicate c1 false, Nat.zero_le _, rfl, Lib.hid ⟨Ext.refl _ _, (fun j hj => by rw [List.getElem?_replicate] at hj; split at hj <;> simp at hj), (fun r hr => absurd hr (Nat.not_lt_zero r)), HR2.out.1, HR2.out.2.1, HR2.out.2.2.2.2.2⟩⟩
    case round =>
      obtain ⟨i, B, hi, rfl, hJ⟩ := hrel
      by_cases hli : i < rl
      · have hd : decide ((i : Int) < (rl : Int)) = true := by simpa using hli
        obtain ⟨z, hz⟩ : ∃ z, zs[i]? = some z := ⟨_, List.getElem?_eq_getElem (by rw [HZL.out]; exact hli)⟩
        obtain ⟨bA, offA, rfl, hbA, hcz, hzr⟩ := hJ.out.2.2.2.2.2 i z hz
        have HC := Lib.hid (HRE.out (fun k => k = q) rfl z wr B (WalkArith.wf_i64 (by omega)) hJ.out.2.2.2.1 hJ.out.2.2.2.2.1 (by rw [hJ.out.1.len, List.length_replicate]) hJ.out.2.1 (fun x hx => by
          obtain ⟨hx1, hx2⟩ := HS.obj_some hx
          exact .root hx1 (.inl (by rw [hx2]; exact List.mem_of_getElem? hz))))
        have HZI := Lib.hid hz
        clear hz hzr
        go_wp2_with fail
        refine HC.out.mono ?_
        rintro e w8 ⟨rfl, B2, hre, hr8, hb8, ho8⟩
        have HN : Hid (∃ (i2 : Nat) (B2 : List Bool), i2 ≤ rl ∧ Value.int .i64 ((i : Int) + 1) = .int .i64 (i2 : Int) ∧ Hid (Ext H (List.replicate c1 false) B2 ∧ (∀ j : Nat, B2[j]? = some true → Reach H (rootC H zs) j) ∧ (∀ r : Nat, r < i2 → ∀ z, zs[r]? = some z → ∀ x, H.obj z = some x → B2[x.h]? = some true) ∧ HR w w8 (fun k => k = q) g (2 * len) H ∧ Blk w8 q 4 (rowb B2) ∧ Ints w8 (some ⟨bA, offA, none⟩) zs)) := Lib.hid
          ⟨i + 1, B2, by omega, by go_num, Lib.hid ⟨hJ.out.1.trans hre.ext, hre.sound, fun r hr z' hz' x hx => by
            by_cases e : r = i
            · rw [e, HZI.out] at hz'
              have e2 : z = z' := Option.some.inj hz'
              rw [← e2] at hx
              exact hre.done x hx
            · exact hre.ext.mono _ (hJ.out.2.2.1 r (by omega) z' hz' x hx), hr8, hb8, hJ.out.2.2.2.2.2.off ho8 HZA.out⟩⟩
        clear hre hr8 hb8 ho8 hJ HC hcz
        go_wp2_with fail
        go_roundw
        case rel => exact HN.out
        case measure => simp [intOf]; omega
      · obtain rfl : rl = i := by omega
        have hd : decide ((rl : Int) < (rl : Int)) = false := by simp
        have HD := Lib.hid (dirty_hr hJ.out.2.2.2.1 (by omega))
        have HRT : Hid (∀ z ∈ zs, ∀ x, H.obj z = some x → B[x.h]? = some true) := Lib.hid fun z hz x hx => by
          obtain ⟨r, hr, e⟩ := List.getElem_of_mem hz
          exact hJ.out.2.2.1 r (by rw [← HZL.out]; exact hr) z (List.getElem?_eq_some_iff.2 ⟨hr, e⟩) x hx
        obtain ⟨dn, hdn⟩ : ∃ dn, (dirtyL H).length = dn := ⟨_, rfl⟩
        rw [hdn] at HD
        have hdl : dn ≤ 100 := by
          rw [← hdn]
          unfold dirtyL
          rw [List.length_map]
          exact Nat.le_trans (List.length_filter_le _ _) (by have := HR2.out.2.2.1; omega)
        have HDN := Lib.hid hdn
        have HJ := Lib.hid hJ.out
        clear hdn hJ
        go_wp2_with fail
        refine HD.out.mono ?_
        rintro e w4 ⟨A5, c5, rfl, hi5, hf5, hb5⟩
        have HJ5 : Hid (HR w w4 (fun k => k = q ∨ ∃ p : Addr, A5 = some p ∧ p.block = k) g (2 * len) H ∧ Blk w4 q 4 (rowb B) ∧ Ints w4 A1 zs ∧ Ints w4 A5 (nums (dirtyL H)) ∧ (∀ p : Addr, A5 = some p → p.block ≠ q)) := Lib.hid ⟨HJ.out.2.2.2.1.more hb5 (fun k hk => by
          rcases hk with hk | ⟨p, e, hk⟩
          · exact .inl hk
          · exact .inr (by rw [← hk]; exact hf5 p e)), HJ.out.2.2.2.2.1.below hb5 HJ.out.2.2.2.2.1.lt, HJ.out.2.2.2.2.2.below hb5, hi5, fun p e => by have := (hf5 p e).1; have := HJ.out.2.2.2.2.1.lt; omega⟩
        clear hi5 hf5 hb5 HD
        go_wp2_with fail
        go_loopw [10] (fun iv wr => ∃ (i : Nat) (B2 : List Bool), i ≤ dn ∧ iv = .int .i64 (i : Int) ∧ Hid (Ext H B B2 ∧ (∀ j : Nat, B2[j]? = some true → Reach H (rootC H zs) j) ∧ (∀ r : Nat, r < i → ∀ z, (nums (dirtyL H))[r]? = some z → ∀ x, H.obj z = some x → B2[x.h]? = some true) ∧ HR w wr (fun k => k = q ∨ ∃ p : Addr, A5 = some p ∧ p.block = k) g (2 * len) H ∧ Blk wr q 4 (rowb B2) ∧ Ints wr A1 zs ∧ Ints wr A5 (nums (dirtyL H)))) (fun iv _ => dn - (intOf iv).toNat)
        case atStart => exact ⟨0, B, Nat.zero_le _, rfl, Lib.hid ⟨Ext.refl _ _, HJ.out.2.1, (fun r hr => absurd hr (Nat.not_lt_zero r)), HJ5.out.1, HJ5.out.2.1, HJ5.out.2.2.1, HJ5.out.2.2.2.1⟩⟩
        case round =>
          obtain ⟨i, B2, hi, rfl, hK⟩ := hrel
          by_cases hli : i < dn
          · have hd : decide ((i : Int) < (dn : Int)) = true := by simpa using hli
            obtain ⟨z, hz⟩ : ∃ z, (nums (dirtyL H))[i]? = some z := ⟨_, List.getElem?_eq_getElem (by rw [nums_len, HDN.out]; exact hli)⟩
            obtain ⟨bA, offA, rfl, hbA, hcz, hzr⟩ := hK.out.2.2.2.2.2.2 i z hz
            have HC := Lib.hid (HRE.out _ (.inl rfl) z wr B2 (WalkArith.wf_i64 (by omega)) hK.out.2.2.2.1 hK.out.2.2.2.2.1 (by rw [hK.out.1.len, HJ.out.1.len, List.length_replicate]) hK.out.2.1 (fun x hx => by
              obtain ⟨hx1, hx2⟩ := HS.obj_some hx
              exact .root hx1 (.inr (by rw [hx2]; exact List.mem_of_getElem? hz))))
            have HZI := Lib.hid hz
            clear hz hzr
            go_wp2_with fail
            refine HC.out.mono ?_
            rintro e w8 ⟨rfl, B3, hre, hr8, hb8, ho8⟩
            have HN : Hid (∃ (i2 : Nat) (B3 : List Bool), i2 ≤ dn ∧ Value.int .i64 ((i : Int) + 1) = .int .i64 (i2 : Int) ∧ Hid (Ext H B B3 ∧ (∀ j : Nat, B3[j]? = some true → Reach H (rootC H zs) j) ∧ (∀ r : Nat, r < i2 → ∀ z, (nums (dirtyL H))[r]? = some z → ∀ x, H.obj z = some x → B3[x.h]? = some true) ∧ HR w w8 (fun k => k = q ∨ ∃ p : Addr, (some ⟨bA, offA, none⟩ : Option Addr) = some p ∧ p.block = k) g (2 * len) H ∧ Blk w8 q 4 (rowb B3) ∧ Ints w8 A1 zs ∧ Ints w8 (some ⟨bA, offA, none⟩) (nums (dirtyL H)))) := Lib.hid
              ⟨i + 1, B3, by omega, by go_num, Lib.hid ⟨hK.out.1.trans hre.ext, hre.sound, fun r hr z' hz' x hx => by
                by_cases e : r = i
                · rw [e, HZI.out] at hz'
                  have e2 : z = z' := Option.some.inj hz'
                  rw [← e2] at hx
                  exact hre.done x hx
                · exact hre.ext.mono _ (hK.out.2.2.1 r (by omega) z' hz' x hx), hr8, hb8, hK.out.2.2.2.2.2.1.off ho8 HZA.out, hK.out.2.2.2.2.2.2.off ho8 (fun p e _ => HJ5.out.2.2.2.2 p e)⟩⟩
            clear hre hr8 hb8 ho8 hK HC hcz
            go_wp2_with fail
            go_roundw
            case rel => exact HN.out
            case measure => simp [intOf]; omega
          · obtain rfl : dn = i := by omega
            have hd : decide ((dn : Int) < (dn : Int)) = false := by simp
            have HSE : Hid (∀ x ∈ H.L, sn B2 x.h = true ↔ Reach H (rootC H zs) x.h) := Lib.hid (seen_iff hK.out.2.2.2.1.ok (HJ.out.1.trans hK.out.1) hK.out.2.1 fun z hz x hx => by
              rcases hz with hz | hz
              · exact hK.out.1.mono _ (HRT.out z hz x hx)
              · obtain ⟨r, hr, e⟩ := List.getElem_of_mem hz
                exact hK.out.2.2.1 r (by rw [nums_len, HDN.out] at hr; exact hr) z (List.getElem?_eq_some_iff.2 ⟨hr, e⟩) x hx)
            obtain ⟨Co, hCo, hmo⟩ := run_mko c1 ((cs : Int) + 1) (by have := HR2.out.2.2.2.2.1; omega) (by have := HR2.out.2.2.2.2.1; omega) wr
            obtain ⟨wa, hwa⟩ : ∃ wa, wr.alloc (.cells Co 35) = wa := ⟨_, rfl⟩
            have hmb := run_mkb c1 ((cs : Int) + 1) (by have := HR2.out.2.2.2.2.1; omega) (by have := HR2.out.2.2.2.2.1; omega) wa
            obtain ⟨wb, hwb⟩ : ∃ wb, wa.alloc (.cells (rowb (List.replicate c1 false)) 4) = wb := ⟨_, rfl⟩
            obtain ⟨Ci, hCi, hmi⟩ := run_mki c1 ((cs : Int) + 1) (by have := HR2.out.2.2.2.2.1; omega) (by have := HR2.out.2.2.2.2.1; omega) wb
            obtain ⟨wc, hwc⟩ : ∃ wc, wb.alloc (.cells Ci 3) = wc := ⟨_, rfl⟩
            have hba : Below wr.heap.size wr wa := by rw [← hwa]; exact (Below.refl _ _).alloc (Nat.le_refl _) _
            have hBa : Blk wa wr.heap.size 35 Co := by rw [← hwa]; exact Blk.new _ _ _
            have hbb : Below wa.heap.size wa wb := by rw [← hwb]; exact (Below.refl _ _).alloc (Nat.le_refl _) _
            have hBb : Blk wb wa.heap.size 4 (rowb (List.replicate c1 false)) := by rw [← hwb]; exact Blk.new _ _ _
            have hbc : Below wb.heap.size wb wc := by rw [← hwc]; exact (Below.refl _ _).alloc (Nat.le_refl _) _
            have hBc : Blk wc wb.heap.size 3 Ci := by rw [← hwc]; exact Blk.new _ _ _
            rw [hwa] at hmo
            rw [hwb] at hmb
            rw [hwc] at hmi
            obtain ⟨qw, hqwd⟩ : ∃ qw, wr.heap.size = qw := ⟨_, rfl⟩
            obtain ⟨qt, hqtd⟩ : ∃ qt, wa.heap.size = qt := ⟨_, rfl⟩
            obtain ⟨qo, hqod⟩ : ∃ qo, wb.heap.size = qo := ⟨_, rfl⟩
            have hbac : Below wr.heap.size wr wc := hba.trans ((hbb.trans (hbc.mono hbb.size)).mono hba.size)
            rw [hqwd] at hmo hBa
            rw [hqtd] at hmb hBb
            rw [hqod] at hmi hBc
            have HS3 : Hid (CoS w g (2 * len) c1 H zs (nums (dirtyL H)) A1 A5 q qw qt qo B2 (fun b => ∃ p : Addr, A5 = some p ∧ p.block = b) Co (List.replicate c1 false) Ci wc) := Lib.hid (by
              have l1 := hK.out.2.2.2.2.1.lt
              have l2 := hBa.lt
              have l3 := hBb.lt
              have l4 := hBc.lt
              have hf : ∀ p : Addr, A5 = some p → p.block < wr.heap.size := fun p e => hK.out.2.2.2.1.lt _ (.inr ⟨p, e, rfl⟩)
              exact ⟨hK.out.2.2.2.1.more hbac fun k hk => by
                rcases hk with hk | hk | hk | hk | hk
                · exact .inl (.inl hk)
                · exact .inr (by omega)
                · exact .inr (by omega)
                · exact .inr (by omega)
                · exact .inl (.inr hk), hK.out.2.2.2.2.1.below hbac l1, hBa.below (hbb.trans (hbc.mono hbb.size)) l2, hBb.below hbc l3, hBc, hK.out.2.2.2.2.2.1.below hbac, hK.out.2.2.2.2.2.2.below hbac, HZA2.out, fun p e _ => ⟨p, e, rfl⟩, ⟨hqw, by omega, by omega, by omega⟩, fun b ⟨p, e, h⟩ => by
                  have h1 := hf p e
                  have h2 := HJ5.out.2.2.2.2 p e
                  omega, ⟨by rw [hK.out.1.len, HJ.out.1.len, List.length_replicate], hCo, List.length_replicate, hCi⟩⟩)
            have HOK := Lib.hid hok
            clear hwa hwb hwc hba hBa hbb hBb hbc hBc hbac hqwd hqtd hqod hCo hCi hok
            go_wp2_with fail
            go_loopw [14, 15] (fun wv kv wr => ∃ (k m : Nat) (F : Nat → Prop) (C : Array Value) (T : List Bool) (O : Array Value), 1 ≤ k ∧ k ≤ cs + 1 ∧ kv = .int .i64 (k : Int) ∧ wv = .int .i64 (m : Int) ∧ m ≤ 100 ∧ Hid (CoS w g (2 * len) c1 H zs (nums (dirtyL H)) A1 A5 q qw qt qo B2 F C T O wr ∧ RowO wr H F C k ∧ (∀ j : Nat, 1 ≤ j → j < k → T[j]? = some (H.obj (j : Int)).isSome) ∧ (∀ j : Nat, 1 ≤ j → j < k → O[j]? = some (.int .i64 (((H.oidOf (j : Int)).getD 0 : Nat) : Int))) ∧ m = wn H B2 k)) (fun _ kv _ => cs + 1 - (intOf kv).toNat)
            case atStart => exact ⟨1, 0, _, _, _, _, by omega, by omega, rfl, rfl, by omega, Lib.hid ⟨HS3.out, RowO.one _ _ _ _, (fun j h1 h2 => by omega), (fun j h1 h2 => by omega), (wn_one HOK.out B2).symm⟩⟩
            case round =>
              clear HS3
              obtain ⟨k, m, F, C, T, O, hk1, hk2, rfl, rfl, hm, hL⟩ := hrel
              by_cases hlk : k ≤ cs
              · have hdk : decide ((k : Int) ≤ (cs : Int)) = true := by simpa using hlk
                have hkc : k < c1 := by have := HR2.out.2.2.2.2.1; omega
                have HG := Lib.hid (get_hr hL.out.1.hr (k : Int) (WalkArith.wf_i64 (by omega)))
                go_wp2_with fail
                refine HG.out.mono ?_
                rintro e wg ⟨v, G, gc, rfl, hob, hbg⟩
                obtain ⟨rfl, hrg⟩ := hob
                obtain ⟨⟨gk, gtag, gws, gt⟩, hgo⟩ : ∃ go, getO H (k : Int) = go := ⟨_, rfl⟩
                rw [hgo] at hrg ⊢
                dsimp only at hrg ⊢
                obtain ⟨gm, hgm⟩ : ∃ gm, gws.length = gm := ⟨_, rfl⟩
                rw [hgm] at hrg ⊢
                obtain ⟨ob, hobs⟩ : ∃ ob, (H.obj (k : Int)).isSome = ob := ⟨_, rfl⟩
                rw [hobs]
                have hc := hL.out.1.more hbg
                obtain ⟨o0, ho0⟩ := hc.bw.some_cell (i := k * 4) (by have := hc.sz; omega)
                obtain ⟨o1, ho1⟩ := hc.bw.some_cell (i := k * 4 + 1) (by have := hc.sz; omega)
                obtain ⟨o2, ho2⟩ := hc.bw.some_cell (i := k * 4 + 2) (by have := hc.sz; omega)
                obtain ⟨o3, ho3⟩ := hc.bw.some_cell (i := k * 4 + 3) (by have := hc.sz; omega)
                obtain ⟨o4, ho4⟩ := hc.bt.some_cell (i := k) (by have := hc.sz; unfold rowb; simp; omega)
                have hfw := hc.bw.frozen
                have hft := hc.bt.frozen
                have hqq := hc.lt
                have hne : qt ≠ qw := by omega
                have hne2 : qw ≠ qt := by omega
                obtain ⟨w4, hw4⟩ : ∃ w4, (((wg.setCell ⟨qw, k * 4, none⟩ (.int .u8 (gk : Int))).setCell ⟨qw, k * 4 + 1, none⟩ (.int .i64 gtag)).setCell ⟨qw, k * 4 + 2, none⟩ (.slice G gm gc)).setCell ⟨qw, k * 4 + 3, none⟩ (.string (str gt)) = w4 := ⟨_, rfl⟩
                have ho4 : Off (fun b => b = qw) wg w4 := by rw [← hw4]; exact (((Off.setc _ _ _ _).trans (Off.setc _ _ _ _)).trans (Off.setc _ _ _ _)).trans (Off.setc _ _ _ _)
                have hB4 : Blk w4 qw 35 (putO C k (.int .u8 (gk : Int)) (.int .i64 gtag) (.slice G gm gc) (.string (str gt))) := by rw [← hw4]; exact hc.bw.putO k _ _ _ _
                have hc4 := hc.offW ho4 hB4 (putO_size _ _ _ _ _ _)
                obtain ⟨w7, hw7⟩ : ∃ w7, w4.setCell ⟨qt, k, none⟩ (.bool ob) = w7 := ⟨_, rfl⟩
                have ho7 : Off (fun b => b = qt) w4 w7 := by rw [← hw7]; exact Off.setc _ _ _ _
                have hB7 : Blk w7 qt 4 (rowb (T.set k ob)) := by rw [← hw7, ← rowb_set]; exact hc4.bt.set_ k _
                have hc7 := hc4.offT ho7 hB7 (List.length_set ..)
                have hrow : RowO w7 H (fun b => F b ∨ (wr.heap.size ≤ b ∧ b < wg.heap.size)) (putO C k (.int .u8 (gk : Int)) (.int .i64 gtag) (.slice G gm gc) (.string (str gt))) (k + 1) := by
                  have h1 := (hL.out.2.1.keep (F' := fun b => F b ∨ (wr.heap.size ≤ b ∧ b < wg.heap.size)) hbg.size (fun b _ hl => hbg.block b hl) (fun b h => .inl h)).put (n := c1) hc.sz.2.1 hkc G gc (by rw [hgo]; exact hrg.words) (fun p e => .inr ⟨by have := (hrg.blk p e).2.2.1; omega, (hrg.blk p e).2.2.2⟩)
                  rw [hgo] at h1
                  dsimp only at h1
                  rw [hgm] at h1
                  exact (h1.keep ho4.size (fun b hF hl => ho4.block b hl (hc.f b hF).2.1) (fun b h => h)).keep ho7.size (fun b hF hl => ho7.block b hl (hc.f b hF).2.2.1) (fun b h => h)
                have HO := oid_hr hc7.hr (k : Int) (WalkArith.wf_i64 (by omega))
                obtain ⟨on_, hon⟩ : ∃ x, ((H.oidOf (k : Int)).getD 0 : Nat) = x := ⟨_, rfl⟩
                obtain ⟨od, hod⟩ : ∃ x, (H.oidOf (k : Int)).isSome = x := ⟨_, rfl⟩
                rw [hon, hod] at HO
                replace HO := Lib.hid HO
                obtain ⟨o5, ho5⟩ := hc7.bo.some_cell (i := k) (by have := hc7.sz; omega)
                have hfo := hc7.bo.frozen
                obtain ⟨w8, hw8⟩ : ∃ w8, w7.setCell ⟨qo, k, none⟩ (.int .i64 (on_ : Int)) = w8 := ⟨_, rfl⟩
                have ho8 : Off (fun b => b = qo) w7 w8 := by rw [← hw8]; exact Off.setc _ _ _ _
                have hB8 : Blk w8 qo 3 (O.setIfInBounds k (.int .i64 (on_ : Int))) := by rw [← hw8]; exact hc7.bo.set_ k _
                have hc8 := hc7.offO ho8 hB8 (Array.size_setIfInBounds ..)
                have hrow8 := hrow.keep (F' := fun b => F b ∨ (wr.heap.size ≤ b ∧ b < wg.heap.size)) ho8.size (fun b hF hl => ho8.block b hl (hc.f b hF).2.2.2) (fun b h => h)
                have hTl : k < T.length := by have := hc.sz; omega
                have hOl : k < O.size := by have := hc.sz; omega
                have HT : Hid ((∀ j : Nat, 1 ≤ j → j < k + 1 → (T.set k ob)[j]? = some (H.obj (j : Int)).isSome) ∧ (∀ j : Nat, 1 ≤ j → j < k + 1 → (O.setIfInBounds k (.int .i64 (on_ : Int)))[j]? = some (.int .i64 (((H.oidOf (j : Int)).getD 0 : Nat) : Int)))) := Lib.hid ⟨fun j h1 h2 => by
                  by_cases e : j = k
                  · subst e; rw [List.getElem?_set_self hTl, hobs]
                  · rw [List.getElem?_set_ne (fun e' => e e'.symm)]; exact hL.out.2.2.1 j h1 (by omega), fun j h1 h2 => by
                  by_cases e : j = k
                  · subst e; rw [Array.getElem?_setIfInBounds_self_of_lt hOl, hon]
                  · rw [Array.getElem?_setIfInBounds_ne (fun e' => e e'.symm)]; exact hL.out.2.2.2.1 j h1 (by omega)⟩
                obtain ⟨bv, hbv⟩ : ∃ bv, B2[k]? = some bv := ⟨_, List.getElem?_eq_getElem (by have := hc.sz; omega)⟩
                have x0 : w8.cell? ⟨qt, k, none⟩ = some (.bool ob) := by rw [hc8.bt.cell, rowb_get (List.getElem?_set_self hTl)]
                have x1 : w8.cell? ⟨q, k, none⟩ = some (.bool bv) := by rw [hc8.bq.cell, rowb_get hbv]
                have hws := wn_succ HOK.out B2 k
                have hwl := wn_le HOK.out B2 (k + 1)
                have hsn : sn B2 k = bv := by unfold sn; rw [hbv]; rfl
                rw [hobs, hsn, ← hL.out.2.2.2.2] at hws
                have hm1 : wn H B2 (k + 1) ≤ 100 := by have := HR2.out.2.2.1; omega
                have HN : Hid (∀ m2 : Int, m2 = (wn H B2 (k + 1) : Nat) → ∃ (k2 m3 : Nat) (F : Nat → Prop) (C : Array Value) (T : List Bool) (O : Array Value), 1 ≤ k2 ∧ k2 ≤ cs + 1 ∧ Value.int .i64 ((k : Int) + 1) = .int .i64 (k2 : Int) ∧ Value.int .i64 m2 = .int .i64 (m3 : Int) ∧ m3 ≤ 100 ∧ Hid (CoS w g (2 * len) c1 H zs (nums (dirtyL H)) A1 A5 q qw qt qo B2 F C T O w8 ∧ RowO w8 H F C k2 ∧ (∀ j : Nat, 1 ≤ j → j < k2 → T[j]? = some (H.obj (j : Int)).isSome) ∧ (∀ j : Nat, 1 ≤ j → j < k2 → O[j]? = some (.int .i64 (((H.oidOf (j : Int)).getD 0 : Nat) : Int))) ∧ m3 = wn H B2 k2)) := Lib.hid fun m2 hm2 =>
                  ⟨k + 1, wn H B2 (k + 1), _, _, _, _, by omega, by omega, by go_num, by rw [hm2], hm1, Lib.hid ⟨hc8, hrow8, HT.out.1, HT.out.2, rfl⟩⟩
                have HWS := Lib.hid hws
                have HW4 := Lib.hid hw4
                have HW7 := Lib.hid hw7
                have HW8 := Lib.hid hw8
                clear hc hrg hbg hgo hgm hobs hL HG hw4 hw7 hw8 ho4 hB4 hc4 ho7 hB7 hc7 hrow hon hod ho8 hB8 hc8 hrow8 HT hbv hsn hws hwl hm1
                go_upto_region 24 with fail
                rw [HW4.out, HW7.out]
                clear HW4 HW7 ho0 ho1 ho2 ho3 ho4 hfw hft
                go_upto_region 25 with (refine HO.out.mono ?_; rintro e v1 ⟨rfl, rfl⟩)
                rw [HW8.out]
                clear HW8 ho5 hfo HO
                cases ob with
                | false =>
                  go_wp2_with fail
                  go_roundw
                  case rel => exact HN.out _ (by have := HWS.out; simp at this; omega)
                  case measure => simp [intOf]; omega
                | true =>
                  cases bv with
                  | true =>
                    go_wp2_with fail
                    go_roundw
                    case rel => exact HN.out _ (by have := HWS.out; simp at this; omega)
                    case measure => simp [intOf]; omega
                  | false =>
                    go_wp2_with fail
                    go_roundw
                    case rel => exact HN.out _ (by have := HWS.out; simp at this; omega)
                    case measure => simp [intOf]; omega
              · have hkc : k = cs + 1 := by omega
                subst hkc
                have hdk : decide (((cs + 1 : Nat) : Int) ≤ (cs : Int)) = false := by simp; omega
                have hcut := collectH_eq HOK.out HSE.out
                have hall := wn_all HOK.out B2
                rw [HR2.out.2.2.2.1, ← hL.out.2.2.2.2, hcut] at hall
                have HCt := Lib.hid (count_hr hL.out.1.hr)
                have HCo := collect_hr hL.out.1.hr (by omega) A1 rl rc zs HZL.out (by omega) (by have := HR2.out.2.2.1; omega) hL.out.1.i1
                obtain ⟨ln, hln⟩ : ∃ ln, H.L.length = ln := ⟨_, rfl⟩
                obtain ⟨n5, hn5⟩ : ∃ n5, (collectH H zs).L.length = n5 := ⟨_, rfl⟩
                rw [hln, hn5] at hall
                rw [hln] at HCt
                have hsub : ln - n5 = m := by omega
                rw [hln, hn5, hsub] at HCo
                replace HCo := Lib.hid HCo
                have hlnl : ln ≤ 100 := by have := HR2.out.2.2.1; omega
                have hn5l : n5 ≤ 100 := by omega
                have d5 : ((n5 : Int) != (ln : Int) - (m : Int)) = false := by simp; omega
                have d6 : IntKind.i64.wrap ((ln : Int) - (m : Int)) = (ln : Int) - (m : Int) := IntWalk.i64_in _ (by omega)
                obtain ⟨kc, hkc⟩ : ∃ kc, cs + 1 = kc := ⟨_, rfl⟩
                have HL := Lib.hid (And.intro hL.out (And.intro hn5 (And.intro hcut hkc)))
                rw [hkc] at hdk hlk ⊢
                clear hcut hall hln hn5 hL hkc hsub
                go_wp2_with fail
                refine HCt.out.mono ?_
                rintro e v1 ⟨rfl, rfl⟩
                go_wp2_with fail
                refine HCo.out.mono ?_
                rintro e w5 ⟨rfl, hr5, hk5⟩
                have hc5 := HL.out.1.1.turned hr5 hk5 HZW.out
                have HCt2 := count_hr hr5
                rw [HL.out.2.1] at HCt2
                replace HCt2 := Lib.hid HCt2
                have HDi := dirty_hr hr5 (by omega)
                rw [dirtyL_collect, HDN.out] at HDi
                replace HDi := Lib.hid HDi
                have hrow5 := HL.out.1.2.1.keep (F' := F) hk5.size (fun b hF _ => hk5.at_ b (.inr (.inr (.inr (.inr hF))))) (fun b h => h)
                have HC5 := Lib.hid (And.intro hc5 hrow5)
                clear hr5 hk5 hc5 hrow5 HCo HCt
                go_wp2_with fail
                refine HCt2.out.mono ?_
                rintro e v1 ⟨rfl, rfl⟩
                go_wp2_with fail
                refine HDi.out.mono ?_
                rintro e w6 ⟨A6, c6, rfl, hi6, _, hb6⟩
                have hc6 := HC5.out.1.below hb6
                have HSL := Lib.hid (samelist_ok A6 A5 dn c6 c5 (nums (dirtyL H)) w6 (by rw [nums_len]; exact HDN.out) (by omega) hi6 hc6.i5)
                have hrow6 := HC5.out.2.keep (F' := F) hb6.size (fun b _ hl => hb6.block b hl) (fun b h => h)
                have HC6 := Lib.hid (And.intro hc6 hrow6)
                clear hi6 hb6 hc6 hrow6 HDi HC5
                go_wp2_with fail
                refine HSL.out.mono ?_
                rintro e w7 ⟨rfl, hb7⟩
                have HC7 := Lib.hid (And.intro (HC6.out.1.below hb7) (HC6.out.2.keep (F' := F) hb7.size (fun b _ hl => hb7.block b hl) (fun b h => h)))
                clear hb7 HSL HC6
                go_wp2_with fail
                go_loopw [17] (fun kv wr => ∃ k : Nat, 1 ≤ k ∧ k ≤ kc ∧ kv = .int .i64 (k : Int) ∧ Hid (CoS w g (2 * len + 2) c1 (collectH H zs) zs (nums (dirtyL H)) A1 A5 q qw qt qo B2 F C T O wr ∧ RowO wr H F C kc)) (fun kv _ => kc - (intOf kv).toNat)
                case atStart => exact ⟨1, by omega, by have := HL.out.2.2.2; omega, rfl, Lib.hid (by have := HC7.out; rw [HL.out.2.2.2] at this; exact this)⟩
                case round =>
                  clear HC7
                  obtain ⟨k, hk1, hk2, rfl, hN⟩ := hrel
                  by_cases hlk : k ≤ cs
                  · have hdk : decide ((k : Int) ≤ (cs : Int)) = true := by simpa using hlk
                    have hkk : k < kc := by have := HL.out.2.2.2; omega
                    have hkc : k < c1 := by have := HR2.out.2.2.2.2.1; omega
                    have HG := Lib.hid (get_hr hN.out.1.hr (k : Int) (WalkArith.wf_i64 (by omega)))
                    go_wp2_with fail
                    refine HG.out.mono ?_
                    rintro e wg ⟨v, G, gc, rfl, hob, hbg⟩
                    obtain ⟨rfl, hrg⟩ := hob
                    obtain ⟨⟨gk, gtag, gws, gt⟩, hgo⟩ : ∃ go, getO (collectH H zs) (k : Int) = go := ⟨_, rfl⟩
                    rw [hgo] at hrg ⊢
                    dsimp only at hrg ⊢
                    obtain ⟨gm, hgm⟩ : ∃ gm, gws.length = gm := ⟨_, rfl⟩
                    rw [hgm] at hrg ⊢
                    obtain ⟨w6, hw6⟩ : ∃ w6, wg.alloc (.cells #[.int .u8 (gk : Int), .int .i64 gtag, .slice G gm gc, .string (str gt)] 35) = w6 := ⟨_, rfl⟩
                    have hb6 : Below wg.heap.size wg w6 := by rw [← hw6]; exact (Below.refl _ _).alloc (Nat.le_refl _) _
                    have hB6 : Blk w6 wg.heap.size 35 #[.int .u8 (gk : Int), .int .i64 gtag, .slice G gm gc, .string (str gt)] := by rw [← hw6]; exact Blk.new _ _ _
                    have hbb := hbg.trans (hb6.mono hbg.size)
                    have hc6 := hN.out.1.below hbb
                    have hrow6 := hN.out.2.keep (F' := F) hbb.size (fun b _ hl => hbb.block b hl) (fun b h => h)
                    have HNX : Hid (∀ W, Below w6.heap.size w6 W → ∃ k2 : Nat, 1 ≤ k2 ∧ k2 ≤ kc ∧ Value.int .i64 ((k : Int) + 1) = .int .i64 (k2 : Int) ∧ Hid (CoS w g (2 * len + 2) c1 (collectH H zs) zs (nums (dirtyL H)) A1 A5 q qw qt qo B2 F C T O W ∧ RowO W H F C kc)) := Lib.hid fun W hW => ⟨k + 1, by omega, by omega, by go_num, Lib.hid ⟨hc6.below hW, hrow6.keep (F' := F) hW.size (fun b _ hl => hW.block b hl) (fun b h => h)⟩⟩
                    obtain ⟨ob, hobs⟩ : ∃ ob, (H.obj (k : Int)).isSome = ob := ⟨_, rfl⟩
                    obtain ⟨bv, hbv⟩ : ∃ bv, B2[k]? = some bv := ⟨_, List.getElem?_eq_getElem (by have := hc6.sz; omega)⟩
                    have hsn : sn B2 k = bv := by unfold sn; rw [hbv]; rfl
                    have hto := cut_obj H (sn B2) k
                    have htd := cut_oid H (sn B2) k
                    rw [HL.out.2.2.1, hsn] at hto htd
                    have x0 : w6.cell? ⟨qt, k, none⟩ = some (.bool ob) := by rw [hc6.bt.cell, rowb_get (HL.out.1.2.2.1 k hk1 (by omega)), hobs]
                    have x1 : w6.cell? ⟨q, k, none⟩ = some (.bool bv) := by rw [hc6.bq.cell, rowb_get hbv]
                    have HO := oid_hr hc6.hr (k : Int) (WalkArith.wf_i64 (by omega))
                    obtain ⟨ob2, hob2⟩ : ∃ ob2, ((collectH H zs).obj (k : Int)).isSome = ob2 := ⟨_, rfl⟩
                    rw [hob2]
                    by_cases hA : ob = true ∧ bv = true
                    · obtain ⟨rfl, rfl⟩ := hA
                      rw [if_pos rfl] at hto htd
                      have hot : ob2 = true := by rw [← hob2, hto]; exact hobs
                      subst hot
                      have hgh : getO H (k : Int) = ⟨gk, gtag, gws, gt⟩ := by rw [← hgo]; unfold getO; rw [hto]
                      obtain ⟨Gw, cw, c0, c1_, c2, c3, hww, _⟩ := hrow6 k hk1 hkk
                      rw [hgh] at c0 c1_ c2 c3 hww
                      dsimp only at c0 c1_ c2 c3 hww
                      rw [hgm] at c2
                      obtain ⟨on2, hon2⟩ : ∃ x, ((H.oidOf (k : Int)).getD 0 : Nat) = x := ⟨_, rfl⟩
                      rw [htd, hon2] at HO
                      have hox := HL.out.1.2.2.2.1 k hk1 (by omega)
                      rw [hon2] at hox
                      have y0 := hB6.cell 0
                      have y1 := hB6.cell 1
                      have y2 := hB6.cell 2
                      have y3 := hB6.cell 3
                      simp only [List.getElem?_toArray, List.getElem?_cons_zero, List.getElem?_cons_succ] at y0 y1 y2 y3
                      have hgl : gm ≤ 100000 := by
                        obtain ⟨x, hx⟩ := Option.isSome_iff_exists.1 hobs
                        have e : getO H (k : Int) = x.o := by unfold getO; rw [hx]
                        have h1 := (HOK.out.inn x (HS.obj_some hx).1).2.2.1.1
                        rw [hgh] at e
                        rw [← e] at h1
                        dsimp only at h1
                        omega
                      have HS2 : Hid (Calls Try.prog 33 #[.agg #[.int .u8 (gk : Int), .int .i64 gtag, .slice G gm gc, .string (str gt)], .agg #[.int .u8 (gk : Int), .int .i64 gtag, .slice Gw gm cw, .string (str gt)]] w6.drew fun e w' => e = .returned (.bool true) ∧ Below w6.drew.heap.size w6.drew w') := Lib.hid (by
                        have hWd : Below w6.heap.size w6 w6.drew := ⟨rfl, rfl, rfl, Nat.le_refl _, fun _ _ => rfl⟩
                        have := same_ok ⟨gk, gtag, gws, gt⟩ G Gw gc cw w6.drew ((hrg.words.below hb6).below hWd) (hww.below hWd) (by dsimp only; omega)
                        dsimp only at this
                        rw [hgm] at this
                        exact this)
                      have hS0 : w6.drew.cell? ⟨qt, k, none⟩ = some (.bool true) ∧ w6.drew.cell? ⟨q, k, none⟩ = some (.bool true) ∧ w6.drew.cell? ⟨wg.heap.size, 0, none⟩ = some (.int .u8 (gk : Int)) ∧ w6.drew.cell? ⟨wg.heap.size, 1, none⟩ = some (.int .i64 gtag) ∧ w6.drew.cell? ⟨wg.heap.size, 2, none⟩ = some (.slice G gm gc) ∧ w6.drew.cell? ⟨wg.heap.size, 3, none⟩ = some (.string (str gt)) ∧ w6.drew.cell? ⟨qw, k * 4, none⟩ = some (.int .u8 (gk : Int)) ∧ w6.drew.cell? ⟨qw, k * 4 + 1, none⟩ = some (.int .i64 gtag) ∧ w6.drew.cell? ⟨qw, k * 4 + 2, none⟩ = some (.slice Gw gm cw) ∧ w6.drew.cell? ⟨qw, k * 4 + 3, none⟩ = some (.string (str gt)) ∧ w6.drew.cell? ⟨qo, k, none⟩ = some (.int .i64 (on2 : Int)) :=
                        ⟨x0, x1, y0, y1, y2, y3, (hc6.bw.cell _).trans c0, (hc6.bw.cell _).trans c1_, (hc6.bw.cell _).trans c2, (hc6.bw.cell _).trans c3, (hc6.bo.cell _).trans hox⟩
                      obtain ⟨od, hod⟩ : ∃ x, (H.oidOf (k : Int)).isSome = x := ⟨_, rfl⟩
                      rw [hod] at HO
                      replace HO := Lib.hid HO
                      have HW6 := Lib.hid hw6
                      clear hgo hgm hb6 hB6 hbb hc6 hrow6 hobs hbv hsn hto htd x0 x1 hob2 hgh c0 c1_ c2 c3 hww hon2 hox y0 y1 y2 y3 hgl hod hw6 hrg hbg HG hN
                      go_upto_region 34 with fail
                      rw [HW6.out]
                      go_upto_region 35 with (refine HO.out.mono ?_; rintro e v1 ⟨rfl, rfl⟩)
                      refine wp_region_held_drew (S := fun W => W.cell? ⟨qt, k, none⟩ = some (.bool true) ∧ W.cell? ⟨q, k, none⟩ = some (.bool true) ∧ W.cell? ⟨wg.heap.size, 0, none⟩ = some (.int .u8 (gk : Int)) ∧ W.cell? ⟨wg.heap.size, 1, none⟩ = some (.int .i64 gtag) ∧ W.cell? ⟨wg.heap.size, 2, none⟩ = some (.slice G gm gc) ∧ W.cell? ⟨wg.heap.size, 3, none⟩ = some (.string (str gt)) ∧ W.cell? ⟨qw, k * 4, none⟩ = some (.int .u8 (gk : Int)) ∧ W.cell? ⟨qw, k * 4 + 1, none⟩ = some (.int .i64 gtag) ∧ W.cell? ⟨qw, k * 4 + 2, none⟩ = some (.slice Gw gm cw) ∧ W.cell? ⟨qw, k * 4 + 3, none⟩ = some (.string (str gt)) ∧ W.cell? ⟨qo, k, none⟩ = some (.int .i64 (on2 : Int))) (by kernel_rfl) hS0 (fun hHeld => ?_)
                      refine takeY 0 (some 155) rfl rfl (by kernel_rfl) (by kernel_rfl) (by kernel_rfl) (fun _ _ _ h => h) (by rfl) (v := _) (by (intro _ hSw; (try dsimp only at hSw); go_simp; try with_reducible rfl)) hHeld ?_
                      simp only [Act.put, List.setIfInBounds_toArray, List.set_cons_zero, List.set_cons_succ]
                      refine takeY 1 (some 156) rfl rfl (by kernel_rfl) (by kernel_rfl) (by kernel_rfl) (fun _ _ _ h => h) (by rfl) (v := _) (by (intro _ hSw; (try dsimp only at hSw); go_simp; try with_reducible rfl)) hHeld ?_
                      simp only [Act.put, List.setIfInBounds_toArray, List.set_cons_zero, List.set_cons_succ]
                      refine takeY 2 (some 157) rfl rfl (by kernel_rfl) (by kernel_rfl) (by kernel_rfl) (fun _ _ _ h => h) (by rfl) (v := _) (by (intro _ hSw; (try dsimp only at hSw); go_simp; try with_reducible rfl)) hHeld ?_
                      simp only [Act.put, List.setIfInBounds_toArray, List.set_cons_zero, List.set_cons_succ]
                      refine takeY 3 (some 158) rfl rfl (by kernel_rfl) (by kernel_rfl) (by kernel_rfl) (fun _ _ _ h => h) (by rfl) (v := _) (by (intro _ hSw; (try dsimp only at hSw); go_simp; try with_reducible rfl)) hHeld ?_
                      simp only [Act.put, List.setIfInBounds_toArray, List.set_cons_zero, List.set_cons_succ]
                      refine takeY 4 (some 159) rfl rfl (by kernel_rfl) (by kernel_rfl) (by kernel_rfl) (fun _ _ _ h => h) (by rfl) (v := _) (by (intro _ hSw; (try dsimp only at hSw); go_simp; try with_reducible rfl)) hHeld ?_
                      simp only [Act.put, List.setIfInBounds_toArray, List.set_cons_zero, List.set_cons_succ]
                      refine takeY 5 (some 160) rfl rfl (by kernel_rfl) (by kernel_rfl) (by kernel_rfl) (fun _ _ _ h => h) (by rfl) (v := _) (by (intro _ hSw; (try dsimp only at hSw); go_simp; try with_reducible rfl)) hHeld ?_
                      simp only [Act.put, List.setIfInBounds_toArray, List.set_cons_zero, List.set_cons_succ]
                      refine takeY 6 (some 161) rfl rfl (by kernel_rfl) (by kernel_rfl) (by kernel_rfl) (fun _ _ _ h => h) (by rfl) (v := _) (by (intro _ hSw; (try dsimp only at hSw); go_simp; try with_reducible rfl)) hHeld ?_
                      simp only [Act.put, List.setIfInBounds_toArray, List.set_cons_zero, List.set_cons_succ]
                      refine takeY 7 (some 162) rfl rfl (by kernel_rfl) (by kernel_rfl) (by kernel_rfl) (fun _ _ _ h => h) (by rfl) (v := _) (by (intro _ hSw; (try dsimp only at hSw); go_simp; try with_reducible rfl)) hHeld ?_
                      simp only [Act.put, List.setIfInBounds_toArray, List.set_cons_zero, List.set_cons_succ]
                      refine takeY 8 (some 163) rfl rfl (by kernel_rfl) (by kernel_rfl) (by kernel_rfl) (fun _ _ _ h => h) (by rfl) (v := _) (by (intro _ hSw; (try dsimp only at hSw); go_simp; try with_reducible rfl)) hHeld ?_
                      simp only [Act.put, List.setIfInBounds_toArray, List.set_cons_zero, List.set_cons_succ]
                      refine takeY 9 (some 164) rfl rfl (by kernel_rfl) (by kernel_rfl) (by kernel_rfl) (fun _ _ _ h => h) (by rfl) (v := _) (by (intro _ hSw; (try dsimp only at hSw); go_simp; try with_reducible rfl)) hHeld ?_
                      simp only [Act.put, List.setIfInBounds_toArray, List.set_cons_zero, List.set_cons_succ]
                      refine takeY 10 (some 165) rfl rfl (by kernel_rfl) (by kernel_rfl) (by kernel_rfl) (fun _ _ _ h => h) (by rfl) (v := _) (by (intro _ hSw; (try dsimp only at hSw); go_simp; try with_reducible rfl)) hHeld ?_
                      simp only [Act.put, List.setIfInBounds_toArray, List.set_cons_zero, List.set_cons_succ]
                      refine takeY 11 (some 166) rfl rfl (by kernel_rfl) (by kernel_rfl) (by kernel_rfl) (fun _ _ _ h => h) (by rfl) (v := _) (by (intro _ hSw; (try dsimp only at hSw); go_simp; try with_reducible rfl)) hHeld ?_
                      simp only [Act.put, List.setIfInBounds_toArray, List.set_cons_zero, List.set_cons_succ]
                      refine takeY 12 (some 167) rfl rfl (by kernel_rfl) (by kernel_rfl) (by kernel_rfl) (fun _ _ _ h => h) (by rfl) (v := _) (by (intro _ hSw; (try dsimp only at hSw); go_simp; try with_reducible rfl)) hHeld ?_
                      simp only [Act.put, List.setIfInBounds_toArray, List.set_cons_zero, List.set_cons_succ]
                      refine takeY 13 (some 168) rfl rfl (by kernel_rfl) (by kernel_rfl) (by kernel_rfl) (fun _ _ _ h => h) (by rfl) (v := _) (by (intro _ hSw; (try dsimp only at hSw); go_simp; try with_reducible rfl)) hHeld ?_
                      simp only [Act.put, List.setIfInBounds_toArray, List.set_cons_zero, List.set_cons_succ]
                      refine takeY 14 (some 169) rfl rfl (by kernel_rfl) (by kernel_rfl) (by kernel_rfl) (fun _ _ _ h => h) (by rfl) (v := _) (by (intro _ hSw; (try dsimp only at hSw); go_simp; try with_reducible rfl)) hHeld ?_
                      simp only [Act.put, List.setIfInBounds_toArray, List.set_cons_zero, List.set_cons_succ]
                      refine takeY 15 (some 170) rfl rfl (by kernel_rfl) (by kernel_rfl) (by kernel_rfl) (fun _ _ _ h => h) (by rfl) (v := _) (by (intro _ hSw; (try dsimp only at hSw); go_simp; try with_reducible rfl)) hHeld ?_
                      simp only [Act.put, List.setIfInBounds_toArray, List.set_cons_zero, List.set_cons_succ]
                      refine takeY 16 (some 171) rfl rfl (by kernel_rfl) (by kernel_rfl) (by kernel_rfl) (fun _ _ _ h => h) (by rfl) (v := _) (by (intro _ hSw; (try dsimp only at hSw); go_simp; try with_reducible rfl)) hHeld ?_
                      simp only [Act.put, List.setIfInBounds_toArray, List.set_cons_zero, List.set_cons_succ]
                      refine takeY 17 (some 172) rfl rfl (by kernel_rfl) (by kernel_rfl) (by kernel_rfl) (fun _ _ _ h => h) (by rfl) (v := _) (by (intro _ hSw; (try dsimp only at hSw); go_simp; try with_reducible rfl)) hHeld ?_
                      simp only [Act.put, List.setIfInBounds_toArray, List.set_cons_zero, List.set_cons_succ]
                      refine takeY 18 (some 173) rfl rfl (by kernel_rfl) (by kernel_rfl) (by kernel_rfl) (fun _ _ _ h => h) (by rfl) (v := _) (by (intro _ hSw; (try dsimp only at hSw); go_simp; try with_reducible rfl)) hHeld ?_
                      simp only [Act.put, List.setIfInBounds_toArray, List.set_cons_zero, List.set_cons_succ]
                      refine takeY 19 (some 174) rfl rfl (by kernel_rfl) (by kernel_rfl) (by kernel_rfl) (fun _ _ _ h => h) (by rfl) (v := _) (by (intro _ hSw; (try dsimp only at hSw); go_simp; try with_reducible rfl)) hHeld ?_
                      simp only [Act.put, List.setIfInBounds_toArray, List.set_cons_zero, List.set_cons_succ]
                      refine wpAnyH_ready (rs := [20]) (by kernel_rfl) (by simp) ?_
                      refine AllReadyH.cons rfl (fun K hK => ?_) AllReadyH.nil
                      clear hHeld
                      go_simp
                      go_wp2_with (go_at_call 33; refine Calls.mono HS2.out ?_; rintro e v7 ⟨rfl, hb7⟩; have HB7 := Lib.hid (Below.trans (⟨rfl, rfl, rfl, Nat.le_refl _, fun _ _ => rfl⟩ : Below w6.heap.size w6 w6.drew) hb7); clear hb7)
                      refine hK.out _ _ ⟨(HB7.out.cell (World.block_lt_of_cell? _ _ (hS0.1))).trans hS0.1, (HB7.out.cell (World.block_lt_of_cell? _ _ (hS0.2.1))).trans hS0.2.1, (HB7.out.cell (World.block_lt_of_cell? _ _ (hS0.2.2.1))).trans hS0.2.2.1, (HB7.out.cell (World.block_lt_of_cell? _ _ (hS0.2.2.2.1))).trans hS0.2.2.2.1, (HB7.out.cell (World.block_lt_of_cell? _ _ (hS0.2.2.2.2.1))).trans hS0.2.2.2.2.1, (HB7.out.cell (World.block_lt_of_cell? _ _ (hS0.2.2.2.2.2.1))).trans hS0.2.2.2.2.2.1, (HB7.out.cell (World.block_lt_of_cell? _ _ (hS0.2.2.2.2.2.2.1))).trans hS0.2.2.2.2.2.2.1, (HB7.out.cell (World.block_lt_of_cell? _ _ (hS0.2.2.2.2.2.2.2.1))).trans hS0.2.2.2.2.2.2.2.1, (HB7.out.cell (World.block_lt_of_cell? _ _ (hS0.2.2.2.2.2.2.2.2.1))).trans hS0.2.2.2.2.2.2.2.2.1, (HB7.out.cell (World.block_lt_of_cell? _ _ (hS0.2.2.2.2.2.2.2.2.2.1))).trans hS0.2.2.2.2.2.2.2.2.2.1, (HB7.out.cell (World.block_lt_of_cell? _ _ (hS0.2.2.2.2.2.2.2.2.2.2))).trans hS0.2.2.2.2.2.2.2.2.2.2⟩ (fun hHeld => ?_)
                      clear hK K
                      refine takeY 21 (some 176) rfl rfl (by kernel_rfl) (by kernel_rfl) (by kernel_rfl) (fun _ _ _ h => h) (by rfl) (v := _) (by (intro _ hSw; (try dsimp only at hSw); go_simp; try with_reducible rfl)) hHeld ?_
                      simp only [Act.put, List.setIfInBounds_toArray, List.set_cons_zero, List.set_cons_succ]
                      refine takeY 22 (some 177) rfl rfl (by kernel_rfl) (by kernel_rfl) (by kernel_rfl) (fun _ _ _ h => h) (by rfl) (v := _) (by (intro _ hSw; (try dsimp only at hSw); go_simp; try with_reducible rfl)) hHeld ?_
                      simp only [Act.put, List.setIfInBounds_toArray, List.set_cons_zero, List.set_cons_succ]
                      refine takeY 23 (some 178) rfl rfl (by kernel_rfl) (by kernel_rfl) (by kernel_rfl) (fun _ _ _ h => h) (by rfl) (v := _) (by (intro _ hSw; (try dsimp only at hSw); go_simp; try with_reducible rfl)) hHeld ?_
                      simp only [Act.put, List.setIfInBounds_toArray, List.set_cons_zero, List.set_cons_succ]
                      refine takeY 24 (some 179) rfl rfl (by kernel_rfl) (by kernel_rfl) (by kernel_rfl) (fun _ _ _ h => h) (by rfl) (v := _) (by (intro _ hSw; (try dsimp only at hSw); go_simp; try with_reducible rfl)) hHeld ?_
                      simp only [Act.put, List.setIfInBounds_toArray, List.set_cons_zero, List.set_cons_succ]
                      refine takeY 25 (some 180) rfl rfl (by kernel_rfl) (by kernel_rfl) (by kernel_rfl) (fun _ _ _ h => h) (by rfl) (v := _) (by (intro _ hSw; (try dsimp only at hSw); go_simp; try with_reducible rfl)) hHeld ?_
                      simp only [Act.put, List.setIfInBounds_toArray, List.set_cons_zero, List.set_cons_succ]
                      refine takeY 26 (some 181) rfl rfl (by kernel_rfl) (by kernel_rfl) (by kernel_rfl) (fun _ _ _ h => h) (by rfl) (v := _) (by (intro _ hSw; (try dsimp only at hSw); go_simp; try with_reducible rfl)) hHeld ?_
                      simp only [Act.put, List.setIfInBounds_toArray, List.set_cons_zero, List.set_cons_succ]
                      refine takeY 27 (some 182) rfl rfl (by kernel_rfl) (by kernel_rfl) (by kernel_rfl) (fun _ _ _ h => h) (by rfl) (v := _) (by (intro _ hSw; (try dsimp only at hSw); go_simp; try with_reducible rfl)) hHeld ?_
                      simp only [Act.put, List.setIfInBounds_toArray, List.set_cons_zero, List.set_cons_succ]
                      refine takeY 28 (some 183) rfl rfl (by kernel_rfl) (by kernel_rfl) (by kernel_rfl) (fun _ _ _ h => h) (by rfl) (v := _) (by (intro _ hSw; (try dsimp only at hSw); go_simp; try with_reducible rfl)) hHeld ?_
                      simp only [Act.put, List.setIfInBounds_toArray, List.set_cons_zero, List.set_cons_succ]
                      refine takeY 29 (some 184) rfl rfl (by kernel_rfl) (by kernel_rfl) (by kernel_rfl) (fun _ _ _ h => h) (by rfl) (v := _) (by (intro _ hSw; (try dsimp only at hSw); go_simp; try with_reducible rfl)) hHeld ?_
                      simp only [Act.put, List.setIfInBounds_toArray, List.set_cons_zero, List.set_cons_succ]
                      refine takeY 30 (some 185) rfl rfl (by kernel_rfl) (by kernel_rfl) (by kernel_rfl) (fun _ _ _ h => h) (by rfl) (v := _) (by (intro _ hSw; (try dsimp only at hSw); go_simp; try with_reducible rfl)) hHeld ?_
                      simp only [Act.put, List.setIfInBounds_toArray, List.set_cons_zero, List.set_cons_succ]
                      refine takeY 31 (some 186) rfl rfl (by kernel_rfl) (by kernel_rfl) (by kernel_rfl) (fun _ _ _ h => h) (by rfl) (v := _) (by (intro _ hSw; (try dsimp only at hSw); go_simp; try with_reducible rfl)) hHeld ?_
                      simp only [Act.put, List.setIfInBounds_toArray, List.set_cons_zero, List.set_cons_succ]
                      refine takeY 32 (some 187) rfl rfl (by kernel_rfl) (by kernel_rfl) (by kernel_rfl) (fun _ _ _ h => h) (by rfl) (v := _) (by (intro _ hSw; (try dsimp only at hSw); go_simp; try with_reducible rfl)) hHeld ?_
                      simp only [Act.put, List.setIfInBounds_toArray, List.set_cons_zero, List.set_cons_succ]
                      refine takeY 33 (some 188) rfl rfl (by kernel_rfl) (by kernel_rfl) (by kernel_rfl) (fun _ _ _ h => h) (by rfl) (v := _) (by (intro _ hSw; (try dsimp only at hSw); go_simp; try with_reducible rfl)) hHeld ?_
                      simp only [Act.put, List.setIfInBounds_toArray, List.set_cons_zero, List.set_cons_succ]
                      refine takeY 34 (some 189) rfl rfl (by kernel_rfl) (by kernel_rfl) (by kernel_rfl) (fun _ _ _ h => h) (by rfl) (v := _) (by (intro _ hSw; (try dsimp only at hSw); go_simp; try with_reducible rfl)) hHeld ?_
                      simp only [Act.put, List.setIfInBounds_toArray, List.set_cons_zero, List.set_cons_succ]
                      refine takeY 35 (some 190) rfl rfl (by kernel_rfl) (by kernel_rfl) (by kernel_rfl) (fun _ _ _ h => h) (by rfl) (v := _) (by (intro _ hSw; (try dsimp only at hSw); go_simp; try with_reducible rfl)) hHeld ?_
                      simp only [Act.put, List.setIfInBounds_toArray, List.set_cons_zero, List.set_cons_succ]
                      refine takeN 36 (some 191) rfl rfl (by kernel_rfl) (by kernel_rfl) (by kernel_rfl) (fun _ _ _ h => h) (by rfl) hHeld ?_
                      simp only [Act.put, List.setIfInBounds_toArray, List.set_cons_zero, List.set_cons_succ]
                      refine takeN 37 (some 192) rfl rfl (by kernel_rfl) (by kernel_rfl) (by kernel_rfl) (fun _ _ _ h => h) (by rfl) hHeld ?_
                      simp only [Act.put, List.setIfInBounds_toArray, List.set_cons_zero, List.set_cons_succ]
                      refine takeY 38 (some 193) rfl rfl (by kernel_rfl) (by kernel_rfl) (by kernel_rfl) (fun _ _ _ h => h) (by rfl) (v := _) (by (intro _ hSw; (try dsimp only at hSw); go_simp; try with_reducible rfl)) hHeld ?_
                      simp only [Act.put, List.setIfInBounds_toArray, List.set_cons_zero, List.set_cons_succ]
                      refine takeY 39 (some 194) rfl rfl (by kernel_rfl) (by kernel_rfl) (by kernel_rfl) (fun _ _ _ h => h) (by rfl) (v := _) (by (intro _ hSw; (try dsimp only at hSw); go_simp; try with_reducible rfl)) hHeld ?_
                      simp only [Act.put, List.setIfInBounds_toArray, List.set_cons_zero, List.set_cons_succ]
                      refine wpAnyH_done (by kernel_rfl) ?_ _
                      go_wp2_with fail
                      go_roundw
                      case rel => exact HNX.out _ HB7.out
                      case measure => simp [intOf]; omega
                    · have hno : (collectH H zs).obj (k : Int) = none := by
                        rw [hto]
                        by_cases hb : bv = true
                        · rw [if_pos hb]
                          cases hx : H.obj (k : Int) with
                          | none => rfl
                          | some x => rw [hx] at hobs; exact absurd ⟨hobs.symm, hb⟩ hA
                        · rw [if_neg hb]
                      have hot : ob2 = false := by rw [← hob2, hno]; rfl
                      subst hot
                      rw [no_oid hc6.hr.ok hno] at HO
                      have HO : Hid (Calls Try.prog 31 #[.pointer (some ⟨g, 0, none⟩), .int .i64 (k : Int)] w6 fun e w' => e = .returned (.tuple #[.int .i64 0, .bool false]) ∧ w6 = w') := Lib.hid HO
                      have HW6 := Lib.hid hw6
                      clear hgo hgm hb6 hB6 hbb hc6 hrow6 hobs hbv hsn hto htd hob2 hno hw6 hrg hbg HG hN
                      go_upto_region 34 with fail
                      rw [HW6.out]
                      cases ob with
                      | true =>
                        have hbf : bv = false := by cases bv with | true => exact absurd ⟨rfl, rfl⟩ hA | false => rfl
                        subst hbf
                        clear hA
                        go_upto_region 35 with (refine HO.out.mono ?_; rintro e v1 ⟨rfl, rfl⟩)
                        refine wp_region_held_drew (S := fun W => W.cell? ⟨qt, k, none⟩ = some (.bool true) ∧ W.cell? ⟨q, k, none⟩ = some (.bool false)) (by kernel_rfl) ⟨x0, x1⟩ (fun hHeld => ?_)
                        refine takeY 0 (some 155) rfl rfl (by kernel_rfl) (by kernel_rfl) (by kernel_rfl) (fun _ _ _ h => h) (by rfl) (v := _) (by (intro _ hSw; (try dsimp only at hSw); go_simp; try with_reducible rfl)) hHeld ?_
                        simp only [Act.put, List.setIfInBounds_toArray, List.set_cons_zero, List.set_cons_succ]
                        refine takeY 1 (some 156) rfl rfl (by kernel_rfl) (by kernel_rfl) (by kernel_rfl) (fun _ _ _ h => h) (by rfl) (v := _) (by (intro _ hSw; (try dsimp only at hSw); go_simp; try with_reducible rfl)) hHeld ?_
                        simp only [Act.put, List.setIfInBounds_toArray, List.set_cons_zero, List.set_cons_succ]
                        refine takeY 2 (some 157) rfl rfl (by kernel_rfl) (by kernel_rfl) (by kernel_rfl) (fun _ _ _ h => h) (by rfl) (v := _) (by (intro _ hSw; (try dsimp only at hSw); go_simp; try with_reducible rfl)) hHeld ?_
                        simp only [Act.put, List.setIfInBounds_toArray, List.set_cons_zero, List.set_cons_succ]
                        refine takeY 3 (some 158) rfl rfl (by kernel_rfl) (by kernel_rfl) (by kernel_rfl) (fun _ _ _ h => h) (by rfl) (v := _) (by (intro _ hSw; (try dsimp only at hSw); go_simp; try with_reducible rfl)) hHeld ?_
                        simp only [Act.put, List.setIfInBounds_toArray, List.set_cons_zero, List.set_cons_succ]
                        refine takeY 4 (some 159) rfl rfl (by kernel_rfl) (by kernel_rfl) (by kernel_rfl) (fun _ _ _ h => h) (by rfl) (v := _) (by (intro _ hSw; (try dsimp only at hSw); go_simp; try with_reducible rfl)) hHeld ?_
                        simp only [Act.put, List.setIfInBounds_toArray, List.set_cons_zero, List.set_cons_succ]
                        refine takeY 5 (some 160) rfl rfl (by kernel_rfl) (by kernel_rfl) (by kernel_rfl) (fun _ _ _ h => h) (by rfl) (v := _) (by (intro _ hSw; (try dsimp only at hSw); go_simp; try with_reducible rfl)) hHeld ?_
                        simp only [Act.put, List.setIfInBounds_toArray, List.set_cons_zero, List.set_cons_succ]
                        refine takeY 6 (some 161) rfl rfl (by kernel_rfl) (by kernel_rfl) (by kernel_rfl) (fun _ _ _ h => h) (by rfl) (v := _) (by (intro _ hSw; (try dsimp only at hSw); go_simp; try with_reducible rfl)) hHeld ?_
                        simp only [Act.put, List.setIfInBounds_toArray, List.set_cons_zero, List.set_cons_succ]
                        refine takeY 7 (some 162) rfl rfl (by kernel_rfl) (by kernel_rfl) (by kernel_rfl) (fun _ _ _ h => h) (by rfl) (v := _) (by (intro _ hSw; (try dsimp only at hSw); go_simp; try with_reducible rfl)) hHeld ?_
                        simp only [Act.put, List.setIfInBounds_toArray, List.set_cons_zero, List.set_cons_succ]
                        refine takeY 8 (some 163) rfl rfl (by kernel_rfl) (by kernel_rfl) (by kernel_rfl) (fun _ _ _ h => h) (by rfl) (v := _) (by (intro _ hSw; (try dsimp only at hSw); go_simp; try with_reducible rfl)) hHeld ?_
                        simp only [Act.put, List.setIfInBounds_toArray, List.set_cons_zero, List.set_cons_succ]
                        refine takeY 9 (some 164) rfl rfl (by kernel_rfl) (by kernel_rfl) (by kernel_rfl) (fun _ _ _ h => h) (by rfl) (v := _) (by (intro _ hSw; (try dsimp only at hSw); go_simp; try with_reducible rfl)) hHeld ?_
                        simp only [Act.put, List.setIfInBounds_toArray, List.set_cons_zero, List.set_cons_succ]
                        refine takeY 10 (some 165) rfl rfl (by kernel_rfl) (by kernel_rfl) (by kernel_rfl) (fun _ _ _ h => h) (by rfl) (v := _) (by (intro _ hSw; (try dsimp only at hSw); go_simp; try with_reducible rfl)) hHeld ?_
                        simp only [Act.put, List.setIfInBounds_toArray, List.set_cons_zero, List.set_cons_succ]
                        refine takeY 11 (some 166) rfl rfl (by kernel_rfl) (by kernel_rfl) (by kernel_rfl) (fun _ _ _ h => h) (by rfl) (v := _) (by (intro _ hSw; (try dsimp only at hSw); go_simp; try with_reducible rfl)) hHeld ?_
                        simp only [Act.put, List.setIfInBounds_toArray, List.set_cons_zero, List.set_cons_succ]
                        refine takeY 12 (some 167) rfl rfl (by kernel_rfl) (by kernel_rfl) (by kernel_rfl) (fun _ _ _ h => h) (by rfl) (v := _) (by (intro _ hSw; (try dsimp only at hSw); go_simp; try with_reducible rfl)) hHeld ?_
                        simp only [Act.put, List.setIfInBounds_toArray, List.set_cons_zero, List.set_cons_succ]
                        refine takeY 13 (some 168) rfl rfl (by kernel_rfl) (by kernel_rfl) (by kernel_rfl) (fun _ _ _ h => h) (by rfl) (v := _) (by (intro _ hSw; (try dsimp only at hSw); go_simp; try with_reducible rfl)) hHeld ?_
                        simp only [Act.put, List.setIfInBounds_toArray, List.set_cons_zero, List.set_cons_succ]
                        refine takeY 14 (some 169) rfl rfl (by kernel_rfl) (by kernel_rfl) (by kernel_rfl) (fun _ _ _ h => h) (by rfl) (v := _) (by (intro _ hSw; (try dsimp only at hSw); go_simp; try with_reducible rfl)) hHeld ?_
                        simp only [Act.put, List.setIfInBounds_toArray, List.set_cons_zero, List.set_cons_succ]
                        refine takeN 15 (some 170) rfl rfl (by kernel_rfl) (by kernel_rfl) (by kernel_rfl) (fun _ _ _ h => h) (by rfl) hHeld ?_
                        simp only [Act.put, List.setIfInBounds_toArray, List.set_cons_zero, List.set_cons_succ]
                        refine takeN 16 (some 171) rfl rfl (by kernel_rfl) (by kernel_rfl) (by kernel_rfl) (fun _ _ _ h => h) (by rfl) hHeld ?_
                        simp only [Act.put, List.setIfInBounds_toArray, List.set_cons_zero, List.set_cons_succ]
                        refine takeN 17 (some 172) rfl rfl (by kernel_rfl) (by kernel_rfl) (by kernel_rfl) (fun _ _ _ h => h) (by rfl) hHeld ?_
                        simp only [Act.put, List.setIfInBounds_toArray, List.set_cons_zero, List.set_cons_succ]
                        refine takeN 18 (some 173) rfl rfl (by kernel_rfl) (by kernel_rfl) (by kernel_rfl) (fun _ _ _ h => h) (by rfl) hHeld ?_
                        simp only [Act.put, List.setIfInBounds_toArray, List.set_cons_zero, List.set_cons_succ]
                        refine takeN 19 (some 174) rfl rfl (by kernel_rfl) (by kernel_rfl) (by kernel_rfl) (fun _ _ _ h => h) (by rfl) hHeld ?_
                        simp only [Act.put, List.setIfInBounds_toArray, List.set_cons_zero, List.set_cons_succ]
                        refine takeN 20 (some 175) rfl rfl (by kernel_rfl) (by kernel_rfl) (by kernel_rfl) (fun _ _ _ h => h) (by rfl) hHeld ?_
                        simp only [Act.put, List.setIfInBounds_toArray, List.set_cons_zero, List.set_cons_succ]
                        refine takeN 21 (some 176) rfl rfl (by kernel_rfl) (by kernel_rfl) (by kernel_rfl) (fun _ _ _ h => h) (by rfl) hHeld ?_
                        simp only [Act.put, List.setIfInBounds_toArray, List.set_cons_zero, List.set_cons_succ]
                        refine takeN 22 (some 177) rfl rfl (by kernel_rfl) (by kernel_rfl) (by kernel_rfl) (fun _ _ _ h => h) (by rfl) hHeld ?_
                        simp only [Act.put, List.setIfInBounds_toArray, List.set_cons_zero, List.set_cons_succ]
                        refine takeN 23 (some 178) rfl rfl (by kernel_rfl) (by kernel_rfl) (by kernel_rfl) (fun _ _ _ h => h) (by rfl) hHeld ?_
                        simp only [Act.put, List.setIfInBounds_toArray, List.set_cons_zero, List.set_cons_succ]
                        refine takeN 24 (some 179) rfl rfl (by kernel_rfl) (by kernel_rfl) (by kernel_rfl) (fun _ _ _ h => h) (by rfl) hHeld ?_
                        simp only [Act.put, List.setIfInBounds_toArray, List.set_cons_zero, List.set_cons_succ]
                        refine takeN 25 (some 180) rfl rfl (by kernel_rfl) (by kernel_rfl) (by kernel_rfl) (fun _ _ _ h => h) (by rfl) hHeld ?_
                        simp only [Act.put, List.setIfInBounds_toArray, List.set_cons_zero, List.set_cons_succ]
                        refine takeN 26 (some 181) rfl rfl (by kernel_rfl) (by kernel_rfl) (by kernel_rfl) (fun _ _ _ h => h) (by rfl) hHeld ?_
                        simp only [Act.put, List.setIfInBounds_toArray, List.set_cons_zero, List.set_cons_succ]
                        refine takeN 27 (some 182) rfl rfl (by kernel_rfl) (by kernel_rfl) (by kernel_rfl) (fun _ _ _ h => h) (by rfl) hHeld ?_
                        simp only [Act.put, List.setIfInBounds_toArray, List.set_cons_zero, List.set_cons_succ]
                        refine takeN 28 (some 183) rfl rfl (by kernel_rfl) (by kernel_rfl) (by kernel_rfl) (fun _ _ _ h => h) (by rfl) hHeld ?_
                        simp only [Act.put, List.setIfInBounds_toArray, List.set_cons_zero, List.set_cons_succ]
                        refine takeN 29 (some 184) rfl rfl (by kernel_rfl) (by kernel_rfl) (by kernel_rfl) (fun _ _ _ h => h) (by rfl) hHeld ?_
                        simp only [Act.put, List.setIfInBounds_toArray, List.set_cons_zero, List.set_cons_succ]
                        refine takeY 30 (some 185) rfl rfl (by kernel_rfl) (by kernel_rfl) (by kernel_rfl) (fun _ _ _ h => h) (by rfl) (v := _) (by (intro _ hSw; (try dsimp only at hSw); go_simp; try with_reducible rfl)) hHeld ?_
                        simp only [Act.put, List.setIfInBounds_toArray, List.set_cons_zero, List.set_cons_succ]
                        refine takeY 31 (some 186) rfl rfl (by kernel_rfl) (by kernel_rfl) (by kernel_rfl) (fun _ _ _ h => h) (by rfl) (v := _) (by (intro _ hSw; (try dsimp only at hSw); go_simp; try with_reducible rfl)) hHeld ?_
                        simp only [Act.put, List.setIfInBounds_toArray, List.set_cons_zero, List.set_cons_succ]
                        refine takeY 32 (some 187) rfl rfl (by kernel_rfl) (by kernel_rfl) (by kernel_rfl) (fun _ _ _ h => h) (by rfl) (v := _) (by (intro _ hSw; (try dsimp only at hSw); go_simp; try with_reducible rfl)) hHeld ?_
                        simp only [Act.put, List.setIfInBounds_toArray, List.set_cons_zero, List.set_cons_succ]
                        refine takeY 33 (some 188) rfl rfl (by kernel_rfl) (by kernel_rfl) (by kernel_rfl) (fun _ _ _ h => h) (by rfl) (v := _) (by (intro _ hSw; (try dsimp only at hSw); go_simp; try with_reducible rfl)) hHeld ?_
                        simp only [Act.put, List.setIfInBounds_toArray, List.set_cons_zero, List.set_cons_succ]
                        refine takeY 34 (some 189) rfl rfl (by kernel_rfl) (by kernel_rfl) (by kernel_rfl) (fun _ _ _ h => h) (by rfl) (v := _) (by (intro _ hSw; (try dsimp only at hSw); go_simp; try with_reducible rfl)) hHeld ?_
                        simp only [Act.put, List.setIfInBounds_toArray, List.set_cons_zero, List.set_cons_succ]
                        refine takeY 35 (some 190) rfl rfl (by kernel_rfl) (by kernel_rfl) (by kernel_rfl) (fun _ _ _ h => h) (by rfl) (v := _) (by (intro _ hSw; (try dsimp only at hSw); go_simp; try with_reducible rfl)) hHeld ?_
                        simp only [Act.put, List.setIfInBounds_toArray, List.set_cons_zero, List.set_cons_succ]
                        refine takeY 36 (some 191) rfl rfl (by kernel_rfl) (by kernel_rfl) (by kernel_rfl) (fun _ _ _ h => h) (by rfl) (v := _) (by (intro _ hSw; (try dsimp only at hSw); go_simp; try with_reducible rfl)) hHeld ?_
                        simp only [Act.put, List.setIfInBounds_toArray, List.set_cons_zero, List.set_cons_succ]
                        refine takeY 37 (some 192) rfl rfl (by kernel_rfl) (by kernel_rfl) (by kernel_rfl) (fun _ _ _ h => h) (by rfl) (v := _) (by (intro _ hSw; (try dsimp only at hSw); go_simp; try with_reducible rfl)) hHeld ?_
                        simp only [Act.put, List.setIfInBounds_toArray, List.set_cons_zero, List.set_cons_succ]
                        refine takeY 38 (some 193) rfl rfl (by kernel_rfl) (by kernel_rfl) (by kernel_rfl) (fun _ _ _ h => h) (by rfl) (v := _) (by (intro _ hSw; (try dsimp only at hSw); go_simp; try with_reducible rfl)) hHeld ?_
                        simp only [Act.put, List.setIfInBounds_toArray, List.set_cons_zero, List.set_cons_succ]
                        refine takeY 39 (some 194) rfl rfl (by kernel_rfl) (by kernel_rfl) (by kernel_rfl) (fun _ _ _ h => h) (by rfl) (v := _) (by (intro _ hSw; (try dsimp only at hSw); go_simp; try with_reducible rfl)) hHeld ?_
                        simp only [Act.put, List.setIfInBounds_toArray, List.set_cons_zero, List.set_cons_succ]
                        refine wpAnyH_done (by kernel_rfl) ?_ _
                        go_wp2_with fail
                        go_roundw
                        case rel => exact HNX.out _ ⟨rfl, rfl, rfl, Nat.le_refl _, fun _ _ => rfl⟩
                        case measure => simp [intOf]; omega
                      | false =>
                        clear hA
                        go_upto_region 35 with (refine HO.out.mono ?_; rintro e v1 ⟨rfl, rfl⟩)
                        refine wp_region_held_drew (S := fun W => W.cell? ⟨qt, k, none⟩ = some (.bool false) ∧ W.cell? ⟨q, k, none⟩ = some (.bool bv)) (by kernel_rfl) ⟨x0, x1⟩ (fun hHeld => ?_)
                        refine takeY 0 (some 155) rfl rfl (by kernel_rfl) (by kernel_rfl) (by kernel_rfl) (fun _ _ _ h => h) (by rfl) (v := _) (by (intro _ hSw; (try dsimp only at hSw); go_simp; try with_reducible rfl)) hHeld ?_
                        simp only [Act.put, List.setIfInBounds_toArray, List.set_cons_zero, List.set_cons_succ]
                        refine takeY 1 (some 156) rfl rfl (by kernel_rfl) (by kernel_rfl) (by kernel_rfl) (fun _ _ _ h => h) (by rfl) (v := _) (by (intro _ hSw; (try dsimp only at hSw); go_simp; try with_reducible rfl)) hHeld ?_
                        simp only [Act.put, List.setIfInBounds_toArray, List.set_cons_zero, List.set_cons_succ]
                        refine takeY 2 (some 157) rfl rfl (by kernel_rfl) (by kernel_rfl) (by kernel_rfl) (fun _ _ _ h => h) (by rfl) (v := _) (by (intro _ hSw; (try dsimp only at hSw); go_simp; try with_reducible rfl)) hHeld ?_
                        simp only [Act.put, List.setIfInBounds_toArray, List.set_cons_zero, List.set_cons_succ]
                        refine takeY 3 (some 158) rfl rfl (by kernel_rfl) (by kernel_rfl) (by kernel_rfl) (fun _ _ _ h => h) (by rfl) (v := _) (by (intro _ hSw; (try dsimp only at hSw); go_simp; try with_reducible rfl)) hHeld ?_
                        simp only [Act.put, List.setIfInBounds_toArray, List.set_cons_zero, List.set_cons_succ]
                        refine takeY 4 (some 159) rfl rfl (by kernel_rfl) (by kernel_rfl) (by kernel_rfl) (fun _ _ _ h => h) (by rfl) (v := _) (by (intro _ hSw; (try dsimp only at hSw); go_simp; try with_reducible rfl)) hHeld ?_
                        simp only [Act.put, List.setIfInBounds_toArray, List.set_cons_zero, List.set_cons_succ]
                        refine takeY 5 (some 160) rfl rfl (by kernel_rfl) (by kernel_rfl) (by kernel_rfl) (fun _ _ _ h => h) (by rfl) (v := _) (by (intro _ hSw; (try dsimp only at hSw); go_simp; try with_reducible rfl)) hHeld ?_
                        simp only [Act.put, List.setIfInBounds_toArray, List.set_cons_zero, List.set_cons_succ]
                        refine takeN 6 (some 161) rfl rfl (by kernel_rfl) (by kernel_rfl) (by kernel_rfl) (fun _ _ _ h => h) (by rfl) hHeld ?_
                        simp only [Act.put, List.setIfInBounds_toArray, List.set_cons_zero, List.set_cons_succ]
                        refine takeN 7 (some 162) rfl rfl (by kernel_rfl) (by kernel_rfl) (by kernel_rfl) (fun _ _ _ h => h) (by rfl) hHeld ?_
                        simp only [Act.put, List.setIfInBounds_toArray, List.set_cons_zero, List.set_cons_succ]
                        refine takeN 8 (some 163) rfl rfl (by kernel_rfl) (by kernel_rfl) (by kernel_rfl) (fun _ _ _ h => h) (by rfl) hHeld ?_
                        simp only [Act.put, List.setIfInBounds_toArray, List.set_cons_zero, List.set_cons_succ]
                        refine takeN 9 (some 164) rfl rfl (by kernel_rfl) (by kernel_rfl) (by kernel_rfl) (fun _ _ _ h => h) (by rfl) hHeld ?_
                        simp only [Act.put, List.setIfInBounds_toArray, List.set_cons_zero, List.set_cons_succ]
                        refine takeY 10 (some 165) rfl rfl (by kernel_rfl) (by kernel_rfl) (by kernel_rfl) (fun _ _ _ h => h) (by rfl) (v := _) (by (intro _ hSw; (try dsimp only at hSw); go_simp; try with_reducible rfl)) hHeld ?_
                        simp only [Act.put, List.setIfInBounds_toArray, List.set_cons_zero, List.set_cons_succ]
                        refine takeY 11 (some 166) rfl rfl (by kernel_rfl) (by kernel_rfl) (by kernel_rfl) (fun _ _ _ h => h) (by rfl) (v := _) (by (intro _ hSw; (try dsimp only at hSw); go_simp; try with_reducible rfl)) hHeld ?_
                        simp only [Act.put, List.setIfInBounds_toArray, List.set_cons_zero, List.set_cons_succ]
                        refine takeY 12 (some 167) rfl rfl (by kernel_rfl) (by kernel_rfl) (by kernel_rfl) (fun _ _ _ h => h) (by rfl) (v := _) (by (intro _ hSw; (try dsimp only at hSw); go_simp; try with_reducible rfl)) hHeld ?_
                        simp only [Act.put, List.setIfInBounds_toArray, List.set_cons_zero, List.set_cons_succ]
                        refine takeY 13 (some 168) rfl rfl (by kernel_rfl) (by kernel_rfl) (by kernel_rfl) (fun _ _ _ h => h) (by rfl) (v := _) (by (intro _ hSw; (try dsimp only at hSw); go_simp; try with_reducible rfl)) hHeld ?_
                        simp only [Act.put, List.setIfInBounds_toArray, List.set_cons_zero, List.set_cons_succ]
                        refine takeY 14 (some 169) rfl rfl (by kernel_rfl) (by kernel_rfl) (by kernel_rfl) (fun _ _ _ h => h) (by rfl) (v := _) (by (intro _ hSw; (try dsimp only at hSw); go_simp; try with_reducible rfl)) hHeld ?_
                        simp only [Act.put, List.setIfInBounds_toArray, List.set_cons_zero, List.set_cons_succ]
                        refine takeN 15 (some 170) rfl rfl (by kernel_rfl) (by kernel_rfl) (by kernel_rfl) (fun _ _ _ h => h) (by rfl) hHeld ?_
                        simp only [Act.put, List.setIfInBounds_toArray, List.set_cons_zero, List.set_cons_succ]
                        refine takeN 16 (some 171) rfl rfl (by kernel_rfl) (by kernel_rfl) (by kernel_rfl) (fun _ _ _ h => h) (by rfl) hHeld ?_
                        simp only [Act.put, List.setIfInBounds_toArray, List.set_cons_zero, List.set_cons_succ]
                        refine takeN 17 (some 172) rfl rfl (by kernel_rfl) (by kernel_rfl) (by kernel_rfl) (fun _ _ _ h => h) (by rfl) hHeld ?_
                        simp only [Act.put, List.setIfInBounds_toArray, List.set_cons_zero, List.set_cons_succ]
                        refine takeN 18 (some 173) rfl rfl (by kernel_rfl) (by kernel_rfl) (by kernel_rfl) (fun _ _ _ h => h) (by rfl) hHeld ?_
                        simp only [Act.put, List.setIfInBounds_toArray, List.set_cons_zero, List.set_cons_succ]
                        refine takeN 19 (some 174) rfl rfl (by kernel_rfl) (by kernel_rfl) (by kernel_rfl) (fun _ _ _ h => h) (by rfl) hHeld ?_
                        simp only [Act.put, List.setIfInBounds_toArray, List.set_cons_zero, List.set_cons_succ]
                        refine takeN 20 (some 175) rfl rfl (by kernel_rfl) (by kernel_rfl) (by kernel_rfl) (fun _ _ _ h => h) (by rfl) hHeld ?_
                        simp only [Act.put, List.setIfInBounds_toArray, List.set_cons_zero, List.set_cons_succ]
                        refine takeN 21 (some 176) rfl rfl (by kernel_rfl) (by kernel_rfl) (by kernel_rfl) (fun _ _ _ h => h) (by rfl) hHeld ?_
                        simp only [Act.put, List.setIfInBounds_toArray, List.set_cons_zero, List.set_cons_succ]
                        refine takeN 22 (some 177) rfl rfl (by kernel_rfl) (by kernel_rfl) (by kernel_rfl) (fun _ _ _ h => h) (by rfl) hHeld ?_
                        simp only [Act.put, List.setIfInBounds_toArray, List.set_cons_zero, List.set_cons_succ]
                        refine takeN 23 (some 178) rfl rfl (by kernel_rfl) (by kernel_rfl) (by kernel_rfl) (fun _ _ _ h => h) (by rfl) hHeld ?_
                        simp only [Act.put, List.setIfInBounds_toArray, List.set_cons_zero, List.set_cons_succ]
                        refine takeN 24 (some 179) rfl rfl (by kernel_rfl) (by kernel_rfl) (by kernel_rfl) (fun _ _ _ h => h) (by rfl) hHeld ?_
                        simp only [Act.put, List.setIfInBounds_toArray, List.set_cons_zero, List.set_cons_succ]
                        refine takeN 25 (some 180) rfl rfl (by kernel_rfl) (by kernel_rfl) (by kernel_rfl) (fun _ _ _ h => h) (by rfl) hHeld ?_
                        simp only [Act.put, List.setIfInBounds_toArray, List.set_cons_zero, List.set_cons_succ]
                        refine takeN 26 (some 181) rfl rfl (by kernel_rfl) (by kernel_rfl) (by kernel_rfl) (fun _ _ _ h => h) (by rfl) hHeld ?_
                        simp only [Act.put, List.setIfInBounds_toArray, List.set_cons_zero, List.set_cons_succ]
                        refine takeN 27 (some 182) rfl rfl (by kernel_rfl) (by kernel_rfl) (by kernel_rfl) (fun _ _ _ h => h) (by rfl) hHeld ?_
                        simp only [Act.put, List.setIfInBounds_toArray, List.set_cons_zero, List.set_cons_succ]
                        refine takeN 28 (some 183) rfl rfl (by kernel_rfl) (by kernel_rfl) (by kernel_rfl) (fun _ _ _ h => h) (by rfl) hHeld ?_
                        simp only [Act.put, List.setIfInBounds_toArray, List.set_cons_zero, List.set_cons_succ]
                        refine takeN 29 (some 184) rfl rfl (by kernel_rfl) (by kernel_rfl) (by kernel_rfl) (fun _ _ _ h => h) (by rfl) hHeld ?_
                        simp only [Act.put, List.setIfInBounds_toArray, List.set_cons_zero, List.set_cons_succ]
                        refine takeY 30 (some 185) rfl rfl (by kernel_rfl) (by kernel_rfl) (by kernel_rfl) (fun _ _ _ h => h) (by rfl) (v := _) (by (intro _ hSw; (try dsimp only at hSw); go_simp; try with_reducible rfl)) hHeld ?_
                        simp only [Act.put, List.setIfInBounds_toArray, List.set_cons_zero, List.set_cons_succ]
                        refine takeY 31 (some 186) rfl rfl (by kernel_rfl) (by kernel_rfl) (by kernel_rfl) (fun _ _ _ h => h) (by rfl) (v := _) (by (intro _ hSw; (try dsimp only at hSw); go_simp; try with_reducible rfl)) hHeld ?_
                        simp only [Act.put, List.setIfInBounds_toArray, List.set_cons_zero, List.set_cons_succ]
                        refine takeY 32 (some 187) rfl rfl (by kernel_rfl) (by kernel_rfl) (by kernel_rfl) (fun _ _ _ h => h) (by rfl) (v := _) (by (intro _ hSw; (try dsimp only at hSw); go_simp; try with_reducible rfl)) hHeld ?_
                        simp only [Act.put, List.setIfInBounds_toArray, List.set_cons_zero, List.set_cons_succ]
                        refine takeY 33 (some 188) rfl rfl (by kernel_rfl) (by kernel_rfl) (by kernel_rfl) (fun _ _ _ h => h) (by rfl) (v := _) (by (intro _ hSw; (try dsimp only at hSw); go_simp; try with_reducible rfl)) hHeld ?_
                        simp only [Act.put, List.setIfInBounds_toArray, List.set_cons_zero, List.set_cons_succ]
                        refine takeY 34 (some 189) rfl rfl (by kernel_rfl) (by kernel_rfl) (by kernel_rfl) (fun _ _ _ h => h) (by rfl) (v := _) (by (intro _ hSw; (try dsimp only at hSw); go_simp; try with_reducible rfl)) hHeld ?_
                        simp only [Act.put, List.setIfInBounds_toArray, List.set_cons_zero, List.set_cons_succ]
                        refine takeY 35 (some 190) rfl rfl (by kernel_rfl) (by kernel_rfl) (by kernel_rfl) (fun _ _ _ h => h) (by rfl) (v := _) (by (intro _ hSw; (try dsimp only at hSw); go_simp; try with_reducible rfl)) hHeld ?_
                        simp only [Act.put, List.setIfInBounds_toArray, List.set_cons_zero, List.set_cons_succ]
                        refine takeY 36 (some 191) rfl rfl (by kernel_rfl) (by kernel_rfl) (by kernel_rfl) (fun _ _ _ h => h) (by rfl) (v := _) (by (intro _ hSw; (try dsimp only at hSw); go_simp; try with_reducible rfl)) hHeld ?_
                        simp only [Act.put, List.setIfInBounds_toArray, List.set_cons_zero, List.set_cons_succ]
                        refine takeY 37 (some 192) rfl rfl (by kernel_rfl) (by kernel_rfl) (by kernel_rfl) (fun _ _ _ h => h) (by rfl) (v := _) (by (intro _ hSw; (try dsimp only at hSw); go_simp; try with_reducible rfl)) hHeld ?_
                        simp only [Act.put, List.setIfInBounds_toArray, List.set_cons_zero, List.set_cons_succ]
                        refine takeY 38 (some 193) rfl rfl (by kernel_rfl) (by kernel_rfl) (by kernel_rfl) (fun _ _ _ h => h) (by rfl) (v := _) (by (intro _ hSw; (try dsimp only at hSw); go_simp; try with_reducible rfl)) hHeld ?_
                        simp only [Act.put, List.setIfInBounds_toArray, List.set_cons_zero, List.set_cons_succ]
                        refine takeY 39 (some 194) rfl rfl (by kernel_rfl) (by kernel_rfl) (by kernel_rfl) (fun _ _ _ h => h) (by rfl) (v := _) (by (intro _ hSw; (try dsimp only at hSw); go_simp; try with_reducible rfl)) hHeld ?_
                        simp only [Act.put, List.setIfInBounds_toArray, List.set_cons_zero, List.set_cons_succ]
                        refine wpAnyH_done (by kernel_rfl) ?_ _
                        go_wp2_with fail
                        go_roundw
                        case rel => exact HNX.out _ ⟨rfl, rfl, rfl, Nat.le_refl _, fun _ _ => rfl⟩
                        case measure => simp [intOf]; omega
                  · have hkd : k = kc := by have := HL.out.2.2.2; omega
                    subst hkd
                    have hdk : decide ((k : Int) ≤ (cs : Int)) = false := by simp; omega
                    have HCo := collect_hr hN.out.1.hr (by omega) A1 rl rc zs HZL.out (by omega) (by rw [HL.out.2.1]; omega) hN.out.1.i1
                    rw [collect_twice, Nat.sub_self] at HCo
                    replace HCo := Lib.hid HCo
                    clear hN
                    go_wp2_with fail
                    refine HCo.out.mono ?_
                    rintro e w9 ⟨rfl, hr9, hk9⟩
                    have HW := Lib.hid (works_any w9)
                    have HB := Lib.hid hr9.bel
                    clear hr9 hk9 HCo
                    go_wp2_with fail
                    refine HW.out.mono ?_
                    rintro e w10 ⟨rfl, hb10⟩
                    have HB10 := Lib.hid (HB.out.trans (hb10.mono HB.out.size))
                    clear hb10 HW
                    go_wp2_with fail
                    go_ret
                    exact ⟨rfl, HB10.out⟩
end Go.Proofs.Ytclkkfffecmjnaa
