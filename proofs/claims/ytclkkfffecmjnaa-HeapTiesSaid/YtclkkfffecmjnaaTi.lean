/- HeapTies. -/
import Derived.Test.YtclkkfffecmjnaaPy
import Derived.Test.YtclkkfffecmjnaaOi
import Derived.Test.YtclkkfffecmjnaaUs
namespace Go.Proofs.Ytclkkfffecmjnaa
open Go.RowKit
set_option linter.unusedVariables false
set_option linter.unusedSimpArgs false
attribute [local go_sem] Oper.semAt_some
/-- How many below k are tied. -/
def tl (H : HS) (k : Nat) : Nat := (H.T.filter fun p => decide (p.1 < k)).length
theorem tl_gen (k : Nat) : ∀ {T : List (Nat × Nat)}, T.Pairwise (fun p q => p.1 ≠ q.1 ∧ p.2 ≠ q.2) → (T.filter fun p => decide (p.1 < k + 1)).length = (T.filter fun p => decide (p.1 < k)).length + (if (T.find? fun p => (p.1 : Int) == (k : Int)).isSome then 1 else 0)
  | [], _ => rfl
  | y :: T, hp => by
    obtain ⟨h1, h2⟩ := List.pairwise_cons.1 hp
    have ih := tl_gen k h2
    rcases Nat.lt_trichotomy y.1 k with h | h | h
    · have e : ((y.1 : Int) == (k : Int)) = false := by simp; omega
      rw [List.filter_cons, List.filter_cons, if_pos (by simp; omega), if_pos (by simpa using h), List.find?_cons, e, List.length_cons, List.length_cons, ih]
      dsimp only
      omega
    · have e : ((y.1 : Int) == (k : Int)) = true := by simp; omega
      have hno : T.find? (fun p => (p.1 : Int) == (k : Int)) = none := List.find?_eq_none.2 fun x hx => by have := (h1 x hx).1; simp; omega
      rw [hno] at ih
      rw [List.filter_cons, List.filter_cons, if_pos (by simp; omega), if_neg (by simp; omega), List.find?_cons, e, List.length_cons, ih]
      simp
    · have e : ((y.1 : Int) == (k : Int)) = false := by simp; omega
      rw [List.filter_cons, List.filter_cons, if_neg (by simp; omega), if_neg (by simp; omega), List.find?_cons, e, ih]
theorem tl_succ {H : HS} {t : Nat} (hok : H.Ok t) (k : Nat) : tl H (k + 1) = tl H k + (if (H.oidOf (k : Int)).isSome then 1 else 0) := by
  have := tl_gen k hok.ties
  unfold tl HS.oidOf
  rw [this, Option.isSome_map]
theorem tl_one {H : HS} {t : Nat} (hok : H.Ok t) : tl H 1 = 0 := by
  unfold tl
  rw [List.filter_eq_nil_iff.2 fun p hp => ?_]
  · rfl
  · obtain ⟨⟨x, hx, e⟩, _⟩ := hok.tied p hp
    have := hok.inn x hx
    simp; omega
theorem tl_all {H : HS} {t : Nat} (hok : H.Ok t) : tl H (H.count + 1) = H.T.length := by
  unfold tl
  rw [List.filter_eq_self.2 fun p hp => ?_]
  obtain ⟨⟨x, hx, e⟩, _⟩ := hok.tied p hp
  have := hok.inn x hx
  simp; omega
theorem tl_le {H : HS} {t : Nat} (hok : H.Ok t) : ∀ k, 1 ≤ k → tl H k ≤ k
  | 0, h => by omega
  | 1, _ => by rw [tl_one hok]; omega
  | k + 2, _ => by
    have ih := tl_le hok (k + 1) (by omega)
    rw [tl_succ hok (k + 1)]
    split <;> omega
/-- What is tied at a handle. -/
theorem tied_at {H : HS} {t : Nat} (hok : H.Ok t) {k x : Nat} (h : H.oidOf (k : Int) = some x) : H.ofOid (x : Int) = some k ∧ 1 ≤ x ∧ x ≤ 16384 ∧ ∃ y, H.obj (k : Int) = some y ∧ (y.o.k = 8 → (x : Int) = y.o.tag) := by
  obtain ⟨p, hp, e1, e2⟩ := HS.oid_some h
  have hpk : p.1 = k := by omega
  obtain ⟨⟨y, hy, hyh⟩, h3⟩ := hok.tied p hp
  refine ⟨?_, by omega, by omega, y, ?_, fun h8 => ?_⟩
  · cases ho : H.ofOid (x : Int) with
    | none => exact absurd (by rw [e2]) (HS.of_none ho p hp)
    | some v =>
      obtain ⟨q, hq, e3, e4⟩ := HS.of_some ho
      have : q = p := by
        by_cases e : q = p
        · exact e
        · exfalso
          have hpw := hok.ties
          have : ∀ {T : List (Nat × Nat)}, T.Pairwise (fun p q => p.1 ≠ q.1 ∧ p.2 ≠ q.2) → q ∈ T → p ∈ T → q ≠ p → q.2 ≠ p.2 := by
            intro T hT hqT hpT hne
            induction T with
            | nil => cases hqT
            | cons a T ih =>
              obtain ⟨h1, h2⟩ := List.pairwise_cons.1 hT
              rcases List.mem_cons.1 hqT with rfl | hq'
              · rcases List.mem_cons.1 hpT with rfl | hp'
                · exact absurd rfl hne
                · exact (h1 p hp').2
              · rcases List.mem_cons.1 hpT with rfl | hp'
                · exact fun e => (h1 q hq').2 e.symm
                · exact ih h2 hq' hp'
          exact this hpw hq hp e (by omega)
      rw [← e4, this, hpk]
  · have := HS.obj_of hok hy
    rw [hyh, hpk] at this
    exact this
  · obtain ⟨q, hq, e3, e4⟩ := hok.stub y hy h8
    have : q = p := by
      by_cases e : q = p
      · exact e
      · exfalso
        have : ∀ {T : List (Nat × Nat)}, T.Pairwise (fun p q => p.1 ≠ q.1 ∧ p.2 ≠ q.2) → q ∈ T → p ∈ T → q ≠ p → q.1 ≠ p.1 := by
          intro T hT hqT hpT hne
          induction T with
          | nil => cases hqT
          | cons a T ih =>
            obtain ⟨h1, h2⟩ := List.pairwise_cons.1 hT
            rcases List.mem_cons.1 hqT with rfl | hq'
            · rcases List.mem_cons.1 hpT with rfl | hp'
              · exact absurd rfl hne
              · exact (h1 p hp').1
            · rcases List.mem_cons.1 hpT with rfl | hp'
              · exact fun e => (h1 q hq').1 e.symm
              · exact ih h2 hq' hp'
        exact this hok.ties hq hp e (by omega)
    rw [← e4, this, e2]
theorem stub_tied {H : HS} {t : Nat} (hok : H.Ok t) {k : Nat} (h : H.oidOf (k : Int) = none) : ∀ y, H.obj (k : Int) = some y → y.o.k ≠ 8 := fun y hy h8 => by
  obtain ⟨hyl, hyk⟩ := HS.obj_some hy
  obtain ⟨p, hp, e, _⟩ := hok.stub y hyl h8
  exact HS.oid_none h p hp (by omega)
set_option maxRecDepth 20000 in
set_option maxHeartbeats 8000000 in
theorem ties_law (A : Option Addr) (len cap : Nat) (ls : List Ov) (w : World) (hl : ls.length = len) (hcap : len ≤ maxLen) (hM : OpsM w A ls) (hlt : ∀ o ∈ ls, LtO o) :
    Calls Try.prog 7 #[.slice A len cap] w fun e w' => e = .returned (.bool true) ∧ Below w.heap.size w w' := by
  have HV := Lib.hid (vast_any A len cap ls w hl hcap hM hlt)
  have HM := Lib.hid (And.intro hM (And.intro hl hlt))
  clear hM hl hlt hcap
  go_enter Try.func7, Try.ntmps7
  go_wp2_with fail
  refine HV.out.mono ?_
  rintro e w1 ⟨b, rfl, hbf, hb1⟩
  cases b with
  | true =>
    have HW := Lib.hid (works_any w1)
    have HB := Lib.hid hb1
    clear hb1 hbf HV HM
    go_wp2_with fail
    refine HW.out.mono ?_
    rintro e w3 ⟨rfl, hb3⟩
    have HB3 := Lib.hid (HB.out.trans (hb3.mono HB.out.size))
    clear hb3 HW
    go_wp2_with fail
    go_ret
    exact ⟨rfl, HB3.out⟩
  | false =>
    obtain ⟨hlen, hfit⟩ := hbf rfl
    have hlen : len ≤ 100 := by rw [← HM.out.2.1]; exact hlen
    have HP := Lib.hid (played_any A len cap ls w w1 hb1 HM.out.2.1 hlen HM.out.1 hfit)
    clear hfit hbf hb1 HV
    go_wp2_with fail
    refine HP.out.mono ?_
    rintro e w2 ⟨g, H, rfl, hr, hcl, hll⟩
    obtain ⟨cs, hcs⟩ : ∃ cs, H.count = cs := ⟨_, rfl⟩
    rw [hcs] at hcl ⊢
    have HR2 := Lib.hid (And.intro hr (And.intro hll hcs))
    clear hr hll hcs HP HM
    go_wp2_with fail
    go_loopw [5, 6] (fun tv kv wr => ∃ k m : Nat, 1 ≤ k ∧ k ≤ cs + 1 ∧ kv = .int .i64 (k : Int) ∧ tv = .int .i64 (m : Int) ∧ m ≤ k ∧ Hid (HR w wr (fun _ => False) g (2 * len) H ∧ m = tl H k)) (fun _ kv _ => cs + 1 - (intOf kv).toNat)
    case atStart => exact ⟨1, 0, by omega, by omega, rfl, rfl, by omega, Lib.hid ⟨HR2.out.1, (tl_one HR2.out.1.ok).symm⟩⟩
    case round =>
      obtain ⟨k, m, hk1, hk2, rfl, rfl, hmk, hJ⟩ := hrel
      by_cases hlk : k ≤ cs
      · have hdk : decide ((k : Int) ≤ (cs : Int)) = true := by simpa using hlk
        have HG := Lib.hid (get_hr hJ.out.1 (k : Int) (WalkArith.wf_i64 (by omega)))
        have hts := tl_succ hJ.out.1.ok k
        have htl := tl_le hJ.out.1.ok (k + 1) (by omega)
        have hta : ∀ x, H.oidOf (k : Int) = some x → _ := fun x hx => tied_at hJ.out.1.ok hx
        have hsb := stub_tied hJ.out.1.ok (k := k)
        have HTA := Lib.hid (And.intro hta hsb)
        have HJ := Lib.hid hJ.out
        clear hta hsb hJ
        go_wp2_with fail
        refine HG.out.mono ?_
        rintro e w5 ⟨v, G, gc, rfl, hob, hb5⟩
        obtain ⟨rfl, hrg⟩ := hob
        obtain ⟨⟨gk, gtag, gws, gt⟩, hgo⟩ : ∃ go, getO H (k : Int) = go := ⟨_, rfl⟩
        rw [hgo]
        dsimp only
        obtain ⟨gm, hgm⟩ : ∃ gm, gws.length = gm := ⟨_, rfl⟩
        rw [hgm]
        have HGM := Lib.hid hgo
        obtain ⟨ob, hobs⟩ : ∃ ob, (H.obj (k : Int)).isSome = ob := ⟨_, rfl⟩
        rw [hobs]
        have HOBS := Lib.hid hobs
        obtain ⟨w6, hw6⟩ : ∃ w6, w5.alloc (.cells #[.int .u8 (gk : Int), .int .i64 gtag, .slice G gm gc, .string (str gt)] 35) = w6 := ⟨_, rfl⟩
        have hb6 : Below w5.heap.size w5 w6 := by rw [← hw6]; exact (Below.refl _ _).alloc (Nat.le_refl _) _
        have hB6 : Blk w6 w5.heap.size 35 #[.int .u8 (gk : Int), .int .i64 gtag, .slice G gm gc, .string (str gt)] := by rw [← hw6]; exact Blk.new _ _ _
        have hr6 := (HJ.out.1.below (hb5.trans (hb6.mono hb5.size))).1
        have y0 := hB6.cell 0
        have y1 := hB6.cell 1
        simp only [List.getElem?_toArray, List.getElem?_cons_zero, List.getElem?_cons_succ] at y0 y1
        have HOI := oid_hr hr6 (k : Int) (WalkArith.wf_i64 (by omega))
        have HOF : Hid (∀ x : Nat, x ≤ 16384 → Calls Try.prog 35 #[.pointer (some ⟨g, 0, none⟩), .int .i64 (x : Int)] w6 fun e w' => e = .returned (.tuple #[.int .i64 (((H.ofOid (x : Int)).getD 0 : Nat) : Int), .bool (H.ofOid (x : Int)).isSome]) ∧ w6 = w') := Lib.hid fun x hx => of_hr hr6 (x : Int) (WalkArith.wf_i64 (by omega))
        have HR6 := Lib.hid hr6
        clear hgo hgm hobs hb5 hb6 hB6 hr6 hrg HG
        have HW6 := Lib.hid hw6
        clear hw6
        go_upto_region 11 with fail
        rw [HW6.out]
        clear HW6
        cases hoid : H.oidOf (k : Int) with
        | none =>
          rw [hoid] at HOI hts
          have HOI : Hid (Calls Try.prog 31 #[.pointer (some ⟨g, 0, none⟩), .int .i64 (k : Int)] w6 fun e w' => e = .returned (.tuple #[.int .i64 0, .bool false]) ∧ w6 = w') := Lib.hid HOI
          have hst : ob = true → gk ≠ 8 := fun ho => by
            obtain ⟨y, hy⟩ := Option.isSome_iff_exists.1 (HOBS.out.trans ho)
            have := HTA.out.2 hoid y hy
            have e : getO H (k : Int) = y.o := by unfold getO; rw [hy]
            rw [HGM.out] at e
            have : gk = y.o.k := congrArg Ob.k e
            omega
          have HTS : Hid (tl H (k + 1) = tl H k) := Lib.hid (by rw [hts]; simp)
          clear hts htl hoid HGM HOBS
          cases ob with
          | false =>
            go_wp2_with fail
            refine HOI.out.mono ?_
            rintro e v1 ⟨rfl, rfl⟩
            go_wp2_with fail
            go_roundw
            case rel => exact ⟨k + 1, m, by omega, by omega, by go_num, rfl, by omega, Lib.hid ⟨HR6.out, by rw [HTS.out]; exact HJ.out.2⟩⟩
            case measure => simp [intOf]; omega
          | true =>
            have hg8 : ((gk : Int) == 8) = false := by have := hst rfl; simp; omega
            go_wp2_with fail
            refine HOI.out.mono ?_
            rintro e v1 ⟨rfl, rfl⟩
            go_wp2_with fail
            go_roundw
            case rel => exact ⟨k + 1, m, by omega, by omega, by go_num, rfl, by omega, Lib.hid ⟨HR6.out, by rw [HTS.out]; exact HJ.out.2⟩⟩
            case measure => simp [intOf]; omega
        | some x =>
          obtain ⟨hof, hx1, hx2, y, hy, h8⟩ := HTA.out.1 x hoid
          rw [hoid] at HOI hts
          have HOI : Hid (Calls Try.prog 31 #[.pointer (some ⟨g, 0, none⟩), .int .i64 (k : Int)] w6 fun e w' => e = .returned (.tuple #[.int .i64 (x : Int), .bool true]) ∧ w6 = w') := Lib.hid HOI
          have hof2 := HOF.out x hx2
          rw [hof] at hof2
          have HOF2 : Hid (Calls Try.prog 35 #[.pointer (some ⟨g, 0, none⟩), .int .i64 (x : Int)] w6 fun e w' => e = .returned (.tuple #[.int .i64 (k : Int), .bool true]) ∧ w6 = w') := Lib.hid hof2
          have hobt : ob = true := by rw [← HOBS.out, hy]; rfl
          have he : gk = 8 → (x : Int) = gtag := fun hg => by
            have e : getO H (k : Int) = y.o := by unfold getO; rw [hy]
            rw [HGM.out] at e
            have e1 : gk = y.o.k := congrArg Ob.k e
            have e2 : gtag = y.o.tag := congrArg Ob.tag e
            rw [e2]; exact h8 (by omega)
          have HTS : Hid (tl H (k + 1) = tl H k + 1) := Lib.hid (by rw [hts]; simp)
          have n1 : decide ((x : Int) < 1) = false := by simp; omega
          have n2 : decide ((x : Int) > 16384) = false := by simp; omega
          subst hobt
          clear hts htl hoid hof hof2 hy h8 HOBS HGM HOF
          by_cases hg8 : gk = 8
          · have q8 : ((gk : Int) == 8) = true := by simp; omega
            have qt : ((x : Int) != gtag) = false := by rw [he hg8]; simp
            clear he hg8
            go_wp2_with fail
            refine HOI.out.mono ?_
            rintro e v1 ⟨rfl, rfl⟩
            go_wp2_with fail
            refine HOF2.out.mono ?_
            rintro e v1 ⟨rfl, rfl⟩
            go_wp2_with fail
            go_roundw
            case rel => exact ⟨k + 1, m + 1, by omega, by omega, by go_num, by go_num, by omega, Lib.hid ⟨HR6.out, by rw [HTS.out, HJ.out.2]⟩⟩
            case measure => simp [intOf]; omega
          · have q8 : ((gk : Int) == 8) = false := by simp; omega
            clear he hg8
            go_wp2_with fail
            refine HOI.out.mono ?_
            rintro e v1 ⟨rfl, rfl⟩
            go_wp2_with fail
            refine HOF2.out.mono ?_
            rintro e v1 ⟨rfl, rfl⟩
            go_wp2_with fail
            go_roundw
            case rel => exact ⟨k + 1, m + 1, by omega, by omega, by go_num, by go_num, by omega, Lib.hid ⟨HR6.out, by rw [HTS.out, HJ.out.2]⟩⟩
            case measure => simp [intOf]; omega
      · have hkc : k = cs + 1 := by omega
        have hdk : decide ((k : Int) ≤ (cs : Int)) = false := by simp; omega
        have hall := tl_all hJ.out.1.ok
        rw [HR2.out.2.2, ← hkc, ← hJ.out.2] at hall
        obtain ⟨⟨M, nn, hm, hMg, hnn, hf⟩, hl0, hbe, hok⟩ := hJ.out.1
        have hoi := oids_any hm hok (by omega)
        rw [hMg, oidsL_len, ← hall] at hoi
        have hmem : ∀ z ∈ oidsL H, 1 ≤ z ∧ z ≤ 16384 ∧ (H.ofOid z).isSome = true := fun z hz => by
          obtain ⟨p, hp, e⟩ := oidsL_mem.1 hz
          have := (hok.tied p hp).2
          refine ⟨by omega, by omega, ?_⟩
          cases ho : H.ofOid z with
          | some v => rfl
          | none => exact absurd e (HS.of_none ho p hp)
        have HZ := Lib.hid (And.intro hmem (And.intro (oidsL_rise hok) (show (oidsL H).length = m by rw [oidsL_len, hall])))
        have HOI := Lib.hid hoi
        have HJ2 := Lib.hid hJ.out.1
        have hmb : m ≤ cs + 1 := by omega
        clear hall hm hMg hnn hf hl0 hbe hok hoi hmem hJ
        go_wp2_with fail
        refine HOI.out.mono ?_
        rintro e w5 ⟨v, rfl, hown, hb5⟩
        obtain ⟨A5, c5, rfl⟩ := own_slice hown
        have hint := Ints.of_own hown (fun z hz => by have := HZ.out.1 z hz; omega)
        have HR5 := Lib.hid (And.intro (HJ2.out.below hb5).1 hint)
        clear hown hb5 hint HOI
        go_wp2_with fail
        go_loopw [14] (fun iv wr => ∃ i : Nat, i ≤ m ∧ iv = .int .i64 (i : Int) ∧ Hid (HR w wr (fun _ => False) g (2 * len) H ∧ Ints wr A5 (oidsL H))) (fun iv _ => m - (intOf iv).toNat)
        case atStart => exact ⟨0, Nat.zero_le _, rfl, Lib.hid HR5.out⟩
        case round =>
          clear HR5
          obtain ⟨i, hi, rfl, hK⟩ := hrel
          by_cases hli : i < m
          · have hd : decide ((i : Int) < (m : Int)) = true := by simpa using hli
            have hid : i < m := hli
            obtain ⟨z, hz⟩ : ∃ z, (oidsL H)[i]? = some z := ⟨_, List.getElem?_eq_getElem (by rw [HZ.out.2.2]; exact hli)⟩
            obtain ⟨bA, offA, rfl, hbA, hcz, hzr⟩ := hK.out.2 i z hz
            have hzs := (HZ.out.1 z (List.mem_of_getElem? hz)).2.2
            have HOF := of_hr hK.out.1 z (WalkArith.wf_i64 (by omega))
            rw [hzs] at HOF
            replace HOF := Lib.hid HOF
            cases i with
            | zero =>
              have hcz : wr.cell? ⟨bA, offA, none⟩ = some (.int .i64 z) := hcz
              clear hz hzs hzr
              go_wp2_with fail
              refine HOF.out.mono ?_
              rintro e v1 ⟨rfl, rfl⟩
              go_upto_region 26 with fail
              refine wp_region_held_drew (S := fun W => W.cell? ⟨bA, offA, none⟩ = some (.int .i64 z)) (by kernel_rfl) hcz (fun hHeld => ?_)
              refine takeY 0 (some 115) rfl rfl (by kernel_rfl) (by kernel_rfl) (by kernel_rfl) (fun _ _ _ h => h) (by rfl) (v := _) (by (intro _ hSw; (try dsimp only at hSw); go_simp; try with_reducible rfl)) hHeld ?_
              simp only [Act.put, List.setIfInBounds_toArray, List.set_cons_zero, List.set_cons_succ]
              refine takeY 1 (some 116) rfl rfl (by kernel_rfl) (by kernel_rfl) (by kernel_rfl) (fun _ _ _ h => h) (by rfl) (v := _) (by (intro _ hSw; (try dsimp only at hSw); go_simp; try with_reducible rfl)) hHeld ?_
              simp only [Act.put, List.setIfInBounds_toArray, List.set_cons_zero, List.set_cons_succ]
              refine takeY 2 (some 117) rfl rfl (by kernel_rfl) (by kernel_rfl) (by kernel_rfl) (fun _ _ _ h => h) (by rfl) (v := _) (by (intro _ hSw; (try dsimp only at hSw); go_simp; try with_reducible rfl)) hHeld ?_
              simp only [Act.put, List.setIfInBounds_toArray, List.set_cons_zero, List.set_cons_succ]
              refine takeY 3 (some 118) rfl rfl (by kernel_rfl) (by kernel_rfl) (by kernel_rfl) (fun _ _ _ h => h) (by rfl) (v := _) (by (intro _ hSw; (try dsimp only at hSw); go_simp; try with_reducible rfl)) hHeld ?_
              simp only [Act.put, List.setIfInBounds_toArray, List.set_cons_zero, List.set_cons_succ]
              refine takeY 4 (some 119) rfl rfl (by kernel_rfl) (by kernel_rfl) (by kernel_rfl) (fun _ _ _ h => h) (by rfl) (v := _) (by (intro _ hSw; (try dsimp only at hSw); go_simp; try with_reducible rfl)) hHeld ?_
              simp only [Act.put, List.setIfInBounds_toArray, List.set_cons_zero, List.set_cons_succ]
              refine takeY 5 (some 120) rfl rfl (by kernel_rfl) (by kernel_rfl) (by kernel_rfl) (fun _ _ _ h => h) (by rfl) (v := _) (by (intro _ hSw; (try dsimp only at hSw); go_simp; try with_reducible rfl)) hHeld ?_
              simp only [Act.put, List.setIfInBounds_toArray, List.set_cons_zero, List.set_cons_succ]
              refine takeN 6 (some 121) rfl rfl (by kernel_rfl) (by kernel_rfl) (by kernel_rfl) (fun _ _ _ h => h) (by rfl) hHeld ?_
              simp only [Act.put, List.setIfInBounds_toArray, List.set_cons_zero, List.set_cons_succ]
              refine takeN 7 (some 122) rfl rfl (by kernel_rfl) (by kernel_rfl) (by kernel_rfl) (fun _ _ _ h => h) (by rfl) hHeld ?_
              simp only [Act.put, List.setIfInBounds_toArray, List.set_cons_zero, List.set_cons_succ]
              refine takeN 8 (some 123) rfl rfl (by kernel_rfl) (by kernel_rfl) (by kernel_rfl) (fun _ _ _ h => h) (by rfl) hHeld ?_
              simp only [Act.put, List.setIfInBounds_toArray, List.set_cons_zero, List.set_cons_succ]
              refine takeN 9 (some 124) rfl rfl (by kernel_rfl) (by kernel_rfl) (by kernel_rfl) (fun _ _ _ h => h) (by rfl) hHeld ?_
              simp only [Act.put, List.setIfInBounds_toArray, List.set_cons_zero, List.set_cons_succ]
              refine takeN 10 (some 125) rfl rfl (by kernel_rfl) (by kernel_rfl) (by kernel_rfl) (fun _ _ _ h => h) (by rfl) hHeld ?_
              simp only [Act.put, List.setIfInBounds_toArray, List.set_cons_zero, List.set_cons_succ]
              refine takeN 11 (some 126) rfl rfl (by kernel_rfl) (by kernel_rfl) (by kernel_rfl) (fun _ _ _ h => h) (by rfl) hHeld ?_
              simp only [Act.put, List.setIfInBounds_toArray, List.set_cons_zero, List.set_cons_succ]
              refine takeN 12 (some 127) rfl rfl (by kernel_rfl) (by kernel_rfl) (by kernel_rfl) (fun _ _ _ h => h) (by rfl) hHeld ?_
              simp only [Act.put, List.setIfInBounds_toArray, List.set_cons_zero, List.set_cons_succ]
              refine takeN 13 (some 128) rfl rfl (by kernel_rfl) (by kernel_rfl) (by kernel_rfl) (fun _ _ _ h => h) (by rfl) hHeld ?_
              simp only [Act.put, List.setIfInBounds_toArray, List.set_cons_zero, List.set_cons_succ]
              refine takeN 14 (some 129) rfl rfl (by kernel_rfl) (by kernel_rfl) (by kernel_rfl) (fun _ _ _ h => h) (by rfl) hHeld ?_
              simp only [Act.put, List.setIfInBounds_toArray, List.set_cons_zero, List.set_cons_succ]
              refine takeN 15 (some 130) rfl rfl (by kernel_rfl) (by kernel_rfl) (by kernel_rfl) (fun _ _ _ h => h) (by rfl) hHeld ?_
              simp only [Act.put, List.setIfInBounds_toArray, List.set_cons_zero, List.set_cons_succ]
              refine takeY 16 (some 131) rfl rfl (by kernel_rfl) (by kernel_rfl) (by kernel_rfl) (fun _ _ _ h => h) (by rfl) (v := _) (by (intro _ hSw; (try dsimp only at hSw); go_simp; try with_reducible rfl)) hHeld ?_
              simp only [Act.put, List.setIfInBounds_toArray, List.set_cons_zero, List.set_cons_succ]
              refine takeY 17 (some 132) rfl rfl (by kernel_rfl) (by kernel_rfl) (by kernel_rfl) (fun _ _ _ h => h) (by rfl) (v := _) (by (intro _ hSw; (try dsimp only at hSw); go_simp; try with_reducible rfl)) hHeld ?_
              simp only [Act.put, List.setIfInBounds_toArray, List.set_cons_zero, List.set_cons_succ]
              refine wpAnyH_done (by kernel_rfl) ?_ _
              go_wp2_with fail
              go_roundw
              case rel => exact ⟨1, by omega, rfl, Lib.hid ⟨(hK.out.1.below (drewN_below wr 1)).1, hK.out.2.below (drewN_below wr 1)⟩⟩
              case measure => simp [intOf]; omega
            | succ i =>
              obtain ⟨y, hy⟩ : ∃ y, (oidsL H)[i]? = some y := ⟨_, List.getElem?_eq_getElem (by rw [HZ.out.2.2]; omega)⟩
              obtain ⟨bA', offA', e', _, hcy, _⟩ := hK.out.2 i y hy
              cases e'
              have hyz : y < z := by
                have hr := HZ.out.2.1
                obtain ⟨j1, e1⟩ := List.getElem?_eq_some_iff.1 hy
                obtain ⟨j2, e2⟩ := List.getElem?_eq_some_iff.1 hz
                have := List.pairwise_iff_getElem.1 hr i (i + 1) j1 j2 (by omega)
                omega
              have q1 : decide (y ≥ z) = false := by simp; omega
              have q0 : decide (((i + 1 : Nat) : Int) > 0) = true := by simp
              obtain ⟨ni, hni⟩ : ∃ ni, i + 1 = ni := ⟨_, rfl⟩
              rw [hni] at hcz hd hid q0 hi
              have hcy : wr.cell? ⟨bA, offA + i, none⟩ = some (.int .i64 y) := hcy
              have hsub : ((ni : Int) - 1) = (i : Int) := by omega
              have hnp : 0 < ni := by omega
              have hil : i < m := by omega
              have hil2 : (i : Int) < (m : Int) := by omega
              have HNI := Lib.hid hni
              rw [hni] at hli ⊢
              have hw1 : IntKind.i64.wrap ((ni : Int) - 1) = (i : Int) := by rw [hsub]; exact IntWalk.i64_in _ (by omega)
              have hw2 : IntKind.i64.wrap (i : Int) = (i : Int) := IntWalk.i64_in _ (by omega)
              clear hz hzs hzr hy hyz hni
              go_wp2_with fail
              refine HOF.out.mono ?_
              rintro e v1 ⟨rfl, rfl⟩
              go_upto_region 26 with fail
              refine wp_region_held_drew (S := fun W => W.cell? ⟨bA, offA + i, none⟩ = some (.int .i64 y) ∧ W.cell? ⟨bA, offA + ni, none⟩ = some (.int .i64 z)) (by kernel_rfl) ⟨hcy, hcz⟩ (fun hHeld => ?_)
              refine takeY 0 (some 115) rfl rfl (by kernel_rfl) (by kernel_rfl) (by kernel_rfl) (fun _ _ _ h => h) (by rfl) (v := _) (by (intro _ hSw; (try dsimp only at hSw); go_simp; try with_reducible rfl)) hHeld ?_
              simp only [Act.put, List.setIfInBounds_toArray, List.set_cons_zero, List.set_cons_succ]
              refine takeY 1 (some 116) rfl rfl (by kernel_rfl) (by kernel_rfl) (by kernel_rfl) (fun _ _ _ h => h) (by rfl) (v := _) (by (intro _ hSw; (try dsimp only at hSw); go_simp; try with_reducible rfl)) hHeld ?_
              simp only [Act.put, List.setIfInBounds_toArray, List.set_cons_zero, List.set_cons_succ]
              refine takeY 2 (some 117) rfl rfl (by kernel_rfl) (by kernel_rfl) (by kernel_rfl) (fun _ _ _ h => h) (by rfl) (v := _) (by (intro _ hSw; (try dsimp only at hSw); go_simp; try with_reducible rfl)) hHeld ?_
              simp only [Act.put, List.setIfInBounds_toArray, List.set_cons_zero, List.set_cons_succ]
              refine takeY 3 (some 118) rfl rfl (by kernel_rfl) (by kernel_rfl) (by kernel_rfl) (fun _ _ _ h => h) (by rfl) (v := _) (by (intro _ hSw; (try dsimp only at hSw); go_simp; try with_reducible rfl)) hHeld ?_
              simp only [Act.put, List.setIfInBounds_toArray, List.set_cons_zero, List.set_cons_succ]
              refine takeY 4 (some 119) rfl rfl (by kernel_rfl) (by kernel_rfl) (by kernel_rfl) (fun _ _ _ h => h) (by rfl) (v := _) (by (intro _ hSw; (try dsimp only at hSw); go_simp; try with_reducible rfl)) hHeld ?_
              simp only [Act.put, List.setIfInBounds_toArray, List.set_cons_zero, List.set_cons_succ]
              refine takeY 5 (some 120) rfl rfl (by kernel_rfl) (by kernel_rfl) (by kernel_rfl) (fun _ _ _ h => h) (by rfl) (v := _) (by (intro _ hSw; (try dsimp only at hSw); go_simp; try with_reducible rfl)) hHeld ?_
              simp only [Act.put, List.setIfInBounds_toArray, List.set_cons_zero, List.set_cons_succ]
              refine takeY 6 (some 121) rfl rfl (by kernel_rfl) (by kernel_rfl) (by kernel_rfl) (fun _ _ _ h => h) (by rfl) (v := _) (by (intro _ hSw; (try dsimp only at hSw); go_simp; try with_reducible rfl)) hHeld ?_
              simp only [Act.put, List.setIfInBounds_toArray, List.set_cons_zero, List.set_cons_succ]
              refine takeY 7 (some 122) rfl rfl (by kernel_rfl) (by kernel_rfl) (by kernel_rfl) (fun _ _ _ h => h) (by rfl) (v := _) (by (intro _ hSw; (try dsimp only at hSw); go_simp; try with_reducible rfl)) hHeld ?_
              simp only [Act.put, List.setIfInBounds_toArray, List.set_cons_zero, List.set_cons_succ]
              refine takeY 8 (some 123) rfl rfl (by kernel_rfl) (by kernel_rfl) (by kernel_rfl) (fun _ _ _ h => h) (by rfl) (v := _) (by (intro _ hSw; (try dsimp only at hSw); go_simp; try with_reducible rfl)) hHeld ?_
              simp only [Act.put, List.setIfInBounds_toArray, List.set_cons_zero, List.set_cons_succ]
              refine takeY 9 (some 124) rfl rfl (by kernel_rfl) (by kernel_rfl) (by kernel_rfl) (fun _ _ _ h => h) (by rfl) (v := _) (by (intro _ hSw; (try dsimp only at hSw); go_simp; try with_reducible rfl)) hHeld ?_
              simp only [Act.put, List.setIfInBounds_toArray, List.set_cons_zero, List.set_cons_succ]
              refine takeY 10 (some 125) rfl rfl (by kernel_rfl) (by kernel_rfl) (by kernel_rfl) (fun _ _ _ h => h) (by rfl) (v := _) (by (intro _ hSw; (try dsimp only at hSw); go_simp; try with_reducible rfl)) hHeld ?_
              simp only [Act.put, List.setIfInBounds_toArray, List.set_cons_zero, List.set_cons_succ]
              refine takeY 11 (some 126) rfl rfl (by kernel_rfl) (by kernel_rfl) (by kernel_rfl) (fun _ _ _ h => h) (by rfl) (v := _) (by (intro _ hSw; (try dsimp only at hSw); go_simp; try with_reducible rfl)) hHeld ?_
              simp only [Act.put, List.setIfInBounds_toArray, List.set_cons_zero, List.set_cons_succ]
              refine takeY 12 (some 127) rfl rfl (by kernel_rfl) (by kernel_rfl) (by kernel_rfl) (fun _ _ _ h => h) (by rfl) (v := _) (by (intro _ hSw; (try dsimp only at hSw); go_simp; try with_reducible rfl)) hHeld ?_
              simp only [Act.put, List.setIfInBounds_toArray, List.set_cons_zero, List.set_cons_succ]
              refine takeY 13 (some 128) rfl rfl (by kernel_rfl) (by kernel_rfl) (by kernel_rfl) (fun _ _ _ h => h) (by rfl) (v := _) (by (intro _ hSw; (try dsimp only at hSw); go_simp; try with_reducible rfl)) hHeld ?_
              simp only [Act.put, List.setIfInBounds_toArray, List.set_cons_zero, List.set_cons_succ]
              refine takeY 14 (some 129) rfl rfl (by kernel_rfl) (by kernel_rfl) (by kernel_rfl) (fun _ _ _ h => h) (by rfl) (v := _) (by (intro _ hSw; (try dsimp only at hSw); go_simp; try with_reducible rfl)) hHeld ?_
              simp only [Act.put, List.setIfInBounds_toArray, List.set_cons_zero, List.set_cons_succ]
              refine takeY 15 (some 130) rfl rfl (by kernel_rfl) (by kernel_rfl) (by kernel_rfl) (fun _ _ _ h => h) (by rfl) (v := _) (by (intro _ hSw; (try dsimp only at hSw); go_simp; try with_reducible rfl)) hHeld ?_
              simp only [Act.put, List.setIfInBounds_toArray, List.set_cons_zero, List.set_cons_succ]
              refine takeY 16 (some 131) rfl rfl (by kernel_rfl) (by kernel_rfl) (by kernel_rfl) (fun _ _ _ h => h) (by rfl) (v := _) (by (intro _ hSw; (try dsimp only at hSw); go_simp; try with_reducible rfl)) hHeld ?_
              simp only [Act.put, List.setIfInBounds_toArray, List.set_cons_zero, List.set_cons_succ]
              refine takeY 17 (some 132) rfl rfl (by kernel_rfl) (by kernel_rfl) (by kernel_rfl) (fun _ _ _ h => h) (by rfl) (v := _) (by (intro _ hSw; (try dsimp only at hSw); go_simp; try with_reducible rfl)) hHeld ?_
              simp only [Act.put, List.setIfInBounds_toArray, List.set_cons_zero, List.set_cons_succ]
              refine wpAnyH_done (by kernel_rfl) ?_ _
              go_wp2_with fail
              go_roundw
              case rel => exact ⟨ni + 1, by omega, by go_num, Lib.hid ⟨(hK.out.1.below (drewN_below wr 1)).1, hK.out.2.below (drewN_below wr 1)⟩⟩
              case measure => simp [intOf]; omega
          · obtain rfl : m = i := by omega
            have hd : decide ((m : Int) < (m : Int)) = false := by simp
            have HW := Lib.hid (works_any wr)
            have HB := Lib.hid hK.out.1.bel
            clear hK
            go_wp2_with fail
            refine HW.out.mono ?_
            rintro e w7 ⟨rfl, hb7⟩
            have HB7 := Lib.hid (HB.out.trans (hb7.mono HB.out.size))
            clear hb7 HW
            go_wp2_with fail
            go_ret
            exact ⟨rfl, HB7.out⟩
end Go.Proofs.Ytclkkfffecmjnaa
