/- stamp: the reference's Ty, of what may be kept. -/
import Derived.Test.YtadogebhkldeiaaGreatDoorZRm
import Derived.BigQuiet
import Derived.Deep.QuietTactic
import Derived.Deep.RegionHeld3
import Derived.WalkSmall
namespace Go.Proofs.YtadogebhkldeiaaGreatDoor
open Go.RowKit Ty
set_option linter.unusedVariables false
set_option linter.unusedSimpArgs false
attribute [local go_sem] Oper.semAt_some
theorem joinT_part {s x : List UInt8} : ∀ {L : List (List UInt8)}, x ∈ L → x.length ≤ (joinT s L).length
  | [y], h => by rw [List.mem_singleton.1 h]; simp [joinT]
  | y :: z :: L, h => by
    show _ ≤ (y ++ s ++ joinT s (z :: L)).length
    rw [List.length_append, List.length_append]
    rcases List.mem_cons.1 h with rfl | h
    · omega
    · have := joinT_part (s := s) h; omega
theorem tight_ge (t : Ty) : (tyT t).length ≤ (tightT t).length := by
  unfold tightT closedT
  split
  · simp; omega
  · exact Nat.le_refl _
set_option maxRecDepth 100000 in
set_option maxHeartbeats 16000000 in
theorem rty_any : ∀ t : Ty, nv t = true → okT t = true → RefC t := Ty.ind fun k nm n ks ih hv hok A c w hA hl => by
  have hA : Ty.At (fun b => b < w.heap.size) w A ks := hA
  rw [nv_eq, Bool.and_eq_true] at hv
  rw [okT_eq, Bool.and_eq_true, Bool.and_eq_true] at hok
  have hkx : ks.length ≤ 1000000 := of_decide_eq_true hok.2.1
  have hkid : ∀ t ∈ ks, RefC t ∧ (t.k = 2 ∨ t.k = 4) := fun t ht => ⟨ih t ht (nvs_mem hv.2 ht) (okTs_mem hok.2.2 ht), by
    have h := nvs_mem hv.2 ht
    obtain ⟨k', nm', n', ks'⟩ := t
    rw [nv_eq, Bool.and_eq_true] at h
    have := h.1
    show k' = 2 ∨ k' = 4
    simpa using this⟩
  have hk24 : k = 2 ∨ k = 4 := by have := hv.1; simpa using this
  have hte := tyT_eq (.node k nm n ks)
  change tyT (.node k nm n ks) = (if k = 1 then (if nm.isEmpty then [39, 116] ++ numT n else nm) else if k = 4 then joinT [32, 42, 32] (ks.map tightT) else if k = 2 then (if ks.length = 0 then [] else if ks.length = 1 then joinT [] (ks.map tightT) ++ [32] else [40] ++ joinT [44, 32] (ks.map tyT) ++ [41, 32]) ++ nm else []) at hte
  obtain ⟨kl, hkl⟩ : ∃ kl, ks.length = kl := ⟨_, rfl⟩
  show Calls Tryz.prog 7 #[.agg #[.int .u8 (k : Int), .string (str nm), .int .i64 n, .slice A ks.length c]] w fun e w' => e = .returned (.string (str (tyT (.node k nm n ks)))) ∧ Below w.heap.size w w'
  obtain ⟨tz, htz⟩ : ∃ tz, tyT (.node k nm n ks) = tz := ⟨_, rfl⟩
  rw [htz] at hte hl ⊢
  rw [hkl] at hte hkx ⊢
  rw [if_neg (by omega)] at hte
  obtain ⟨w1, hw1⟩ : ∃ W, w.alloc (.cells #[.int .u8 (k : Int), .string (str nm), .int .i64 n, .slice A kl c] 24) = W := ⟨_, rfl⟩
  have hb1 : Below w.heap.size w w1 := by rw [← hw1]; exact (Below.refl _ _).alloc (Nat.le_refl _) _
  have hB1 : Blk w1 w.heap.size 24 #[.int .u8 (k : Int), .string (str nm), .int .i64 n, .slice A kl c] := by rw [← hw1]; exact Blk.new _ _ _
  obtain ⟨q, hq⟩ : ∃ q, w.heap.size = q := ⟨_, rfl⟩
  have hn1 : w1.heap.size = q + 1 := by rw [← hw1, ← hq]; simp
  obtain ⟨B, hBq⟩ : ∃ B, q + 1 = B := ⟨_, rfl⟩
  rw [hBq] at hn1
  rw [hq] at hB1
  have hto : ∀ W, Below B w1 W → B ≤ W.heap.size := fun W h => by rw [← hn1]; exact h.size
  have HX : Hid (∀ W, Below B w1 W → W.cell? ⟨q, 0, none⟩ = some (.int .u8 (k : Int)) ∧ W.cell? ⟨q, 1, none⟩ = some (.string (str nm)) ∧ W.cell? ⟨q, 2, none⟩ = some (.int .i64 n) ∧ W.cell? ⟨q, 3, none⟩ = some (.slice A kl c)) := Lib.hid fun W hW => by
    have h : Blk W q 24 #[.int .u8 (k : Int), .string (str nm), .int .i64 n, .slice A kl c] := (hW.block q (by omega)).trans hB1
    exact ⟨h.cell 0, h.cell 1, h.cell 2, h.cell 3⟩
  have HEND : Hid (∀ W, Below B w1 W → Below q w W) := Lib.hid fun W h => by rw [hq] at hb1; exact hb1.trans (h.mono (by omega))
  have HA : Hid (∀ W, Below B w1 W → Ty.At (fun b => b < W.heap.size) W A ks) := Lib.hid fun W h => by
    have h2 : Below w.heap.size w W := hb1.trans (h.mono (by omega))
    exact (hA.bel h2).mono fun b hb => Nat.lt_of_lt_of_le hb h2.size
  have HI := Lib.hid (And.intro hkl (And.intro hkid hl))
  have HTO := Lib.hid hto
  have HSZ : Hid (w1.heap.size = B) := Lib.hid hn1
  have HW := Lib.hid (And.intro hw1 hq)
  rw [hq]
  clear ih hv hok hA hkid hw1 hb1 hB1 hn1 hto hkl htz hq
  have e1 : ((k : Int) == 1) = false := by rw [beq_eq_false_iff_ne]; omega
  have e3 : ((k : Int) == 3) = false := by rw [beq_eq_false_iff_ne]; omega
  go_enter Tryz.func7, Tryz.ntmps7
  go_upto_region 1 with fail
  (try rw [HW.out.1])
  (try rw [HW.out.2])
  clear HW
  obtain ⟨x0, x1, x2, x3⟩ := HX.out w1 (Below.refl _ _)
  by_cases h4 : k = 4
  · have e4 : ((k : Int) == 4) = true := by rw [h4]; rfl
    rw [if_pos h4] at hte
    have HTE := Lib.hid hte
    clear h4 hk24 hte
    go_wp2_with fail
    go_loopw [3, 5] (fun av iv wr => ∃ (i : Nat) (A' : Option Addr) (n' c' : Nat), i ≤ kl ∧ iv = .int .i64 (i : Int) ∧ av = .slice A' n' c' ∧ Hid (StO B wr (.slice A' n' c') ((ks.take i).map tightT) ∧ Below B w1 wr)) (fun _ iv _ => kl - (intOf iv).toNat)
    case atStart => exact ⟨0, none, 0, 0, Nat.zero_le _, rfl, rfl, Lib.hid ⟨by rw [List.take_zero]; exact StO.nil _ _, Below.refl _ _⟩⟩
    case round =>
      obtain ⟨i, A', n', c', hi, rfl, rfl, HJ⟩ := hrel
      clear x0 x1 x2 x3
      obtain ⟨x0, x1, x2, x3⟩ := HX.out wr HJ.out.2
      by_cases hli : i < kl
      · have hd : decide ((i : Int) < (kl : Int)) = true := by simpa using hli
        obtain ⟨t, ht⟩ : ∃ t, ks[i]? = some t := ⟨_, List.getElem?_eq_getElem (by rw [HI.out.1]; exact hli)⟩
        obtain ⟨ba, oa, A2, c2, eA, _, hbl, z0, z1, z2, z3, _, _, _, hKt⟩ := (HA.out wr HJ.out.2).get ht
        subst eA
        obtain ⟨tl, htl⟩ : ∃ tl, t.ks.length = tl := ⟨_, rfl⟩
        rw [htl] at z3
        have htm := List.mem_of_getElem? ht
        obtain ⟨b4, hb4⟩ : ∃ b, (t.k == 4) = b := ⟨_, rfl⟩
        have ek3 : ((t.k : Int) == 3) = false := by rw [beq_eq_false_iff_ne]; have := (HI.out.2.1 t htm).2; omega
        have ek4 : ((t.k : Int) == 4) = b4 := by
          rw [← hb4]
          by_cases h : t.k = 4
          · rw [h]; rfl
          · rw [beq_eq_false_iff_ne.2 (by omega : (t.k : Int) ≠ 4), beq_eq_false_iff_ne.2 h]
        have etg : closedT b4 (tyT t) = tightT t := by
          unfold tightT
          rw [← hb4]
          have : (t.k == 3) = false := by rw [beq_eq_false_iff_ne]; have := (HI.out.2.1 t htm).2; omega
          rw [this, Bool.false_or]
        have hC := inner_any t (HI.out.2.1 t htm).1 A2 c2 wr hKt (by
          have h1 := tight_ge t
          have h2 := joinT_part (s := [32, 42, 32]) (List.mem_map.2 ⟨t, htm, rfl⟩ : tightT t ∈ ks.map tightT)
          have h3 := HI.out.2.2
          rw [HTE.out] at h3
          omega) b4
        rw [etg] at hC
        unfold Ty.val at hC
        rw [htl] at hC
        have HC := Lib.hid hC
        have HNX := Lib.hid ht
        clear hC etg hb4
        clear ht hKt hbl htm htl
        go_upto_region 20 with fail
        go_wp2_with fail
        refine HC.out.mono ?_
        rintro e w2 ⟨rfl, hb2⟩
        obtain ⟨tx, htx⟩ : ∃ tx, tightT t = tx := ⟨_, rfl⟩
        rw [htx]
        have hB2 : Below B w1 w2 := HJ.out.2.trans (hb2.mono (HTO.out wr HJ.out.2))
        have hO2 := HJ.out.1.below hb2
        obtain ⟨w3, hal⟩ : ∃ W, w2.alloc (.cells #[.string (str tx)] 9) = W := ⟨_, rfl⟩
        obtain ⟨A3, c3, w4, hrun, hO4, hb4⟩ := hO2.app (HTO.out w2 hB2) tx (by rw [List.length_map]; have := List.length_take_le i ks; omega) hal
        obtain ⟨n3, hn3⟩ : ∃ z, ((ks.take i).map tightT).length + 1 = z := ⟨_, rfl⟩
        rw [hn3] at hrun hO4
        have HN : Hid (StO B w4 (.slice A3 n3 c3) ((ks.take (i + 1)).map tightT) ∧ Below B w1 w4) := Lib.hid ⟨by
          have e : (ks.take (i + 1)).map tightT = (ks.take i).map tightT ++ [tx] := by rw [List.take_add_one, HNX.out, List.map_append, ← htx]; rfl
          rw [e]; exact hO4, hB2.trans hb4⟩
        obtain ⟨q2, hq2⟩ : ∃ z, w2.heap.size = z := ⟨_, rfl⟩
        rw [hq2] at hrun
        have HR := Lib.hid (And.intro hrun (And.intro hal hq2))
        clear hB2 hO2 hO4 hb4 hn3 hb2 htx HC x0 x1 x2 x3 hrun hal hq2 z0 z1 z2 z3
        have hrun := HR.out.1
        have hal := HR.out.2.1
        have hq2 := HR.out.2.2
        go_upto_region 18 with (at_builtin; refine wpList_app rfl _ _ 32 rfl _ _ _ _ rfl rfl hrun ?_)
        clear hrun hal hq2
        go_wp2_with fail
        go_roundw
        case rel => exact ⟨i + 1, A3, n3, c3, by omega, by go_num, rfl, HN⟩
        case measure => simp [intOf]; omega
      · obtain rfl : kl = i := by omega
        have hd : decide ((kl : Int) < (kl : Int)) = false := by simp
        have hfull : ks.take kl = ks := List.take_of_length_le (by rw [HI.out.1]; exact Nat.le_refl _)
        have hO := HJ.out.1
        rw [hfull] at hO
        obtain ⟨A9, c9, e9, hS⟩ := hO.shape
        injection e9 with e91 e92 e93
        have hJ := rjoin_any (ks.map tightT) [32, 42, 32] ⟨#[32, 42, 32]⟩ rfl A' n' c' (by rw [e92]) (by rw [e92, List.length_map, HI.out.1]; exact hkx) _ wr (by rw [e91]; exact hS) (by rw [← HTE.out]; have := HI.out.2.2; omega)
        rw [← HTE.out] at hJ
        have HJ2 := Lib.hid hJ
        clear hfull hO hS e91 e92 e93 hJ
        go_wp2_with fail
        refine HJ2.out.mono ?_
        rintro e w9 ⟨rfl, rfl⟩
        have HP := Lib.hid (HEND.out wr HJ.out.2)
        go_wp2_with fail
        go_ret
        exact ⟨rfl, HP.out⟩
  · have h2 : k = 2 := by omega
    have e4 : ((k : Int) == 4) = false := by rw [beq_eq_false_iff_ne]; omega
    have e2 : ((k : Int) == 2) = true := by rw [h2]; rfl
    rw [if_neg h4, if_pos h2] at hte
    clear h4 h2 hk24
    by_cases hz : kl = 0
    · have hzq : ((kl : Int) == 0) = true := by rw [hz]; rfl
      rw [if_pos hz, List.nil_append] at hte
      have HTE := Lib.hid hte
      have HP := Lib.hid (HEND.out w1 (Below.refl _ _))
      clear hz hte
      go_wp2_with fail
      go_ret
      exact ⟨by rw [HTE.out] <;> rfl, HP.out⟩
    · have hzq : ((kl : Int) == 0) = false := by rw [beq_eq_false_iff_ne]; omega
      rw [if_neg hz] at hte
      by_cases ho : kl = 1
      · have hoq : ((kl : Int) == 1) = true := by rw [ho]; rfl
        rw [if_pos ho] at hte
        obtain ⟨t, ht⟩ : ∃ t, ks[0]? = some t := ⟨_, List.getElem?_eq_getElem (by rw [HI.out.1]; omega)⟩
        have hks : ks = [t] := by
          have hl1 := HI.out.1
          cases hk : ks with
          | nil => rw [hk] at ht; simp at ht
          | cons a r =>
            rw [hk] at ht hl1
            simp at ht
            subst ht
            have : r = [] := List.eq_nil_of_length_eq_zero (by simp at hl1; omega)
            rw [this]
        have hte2 : tz = tightT t ++ [32] ++ nm := by rw [hte, hks]; rfl
        obtain ⟨ba, oa, A2, c2, eA, _, hbl, z0, z1, z2, z3, _, _, _, hKt⟩ := (HA.out w1 (Below.refl _ _)).get ht
        subst eA
        simp only [Nat.zero_mul, Nat.add_zero] at z0 z1 z2 z3
        obtain ⟨tl, htl⟩ : ∃ tl, t.ks.length = tl := ⟨_, rfl⟩
        rw [htl] at z3
        have htm := List.mem_of_getElem? ht
        obtain ⟨b4, hb4⟩ : ∃ b, (t.k == 4) = b := ⟨_, rfl⟩
        have ek3 : ((t.k : Int) == 3) = false := by rw [beq_eq_false_iff_ne]; have := (HI.out.2.1 t htm).2; omega
        have ek4 : ((t.k : Int) == 4) = b4 := by
          rw [← hb4]
          by_cases h : t.k = 4
          · rw [h]; rfl
          · rw [beq_eq_false_iff_ne.2 (by omega : (t.k : Int) ≠ 4), beq_eq_false_iff_ne.2 h]
        have etg : closedT b4 (tyT t) = tightT t := by
          unfold tightT
          rw [← hb4]
          have : (t.k == 3) = false := by rw [beq_eq_false_iff_ne]; have := (HI.out.2.1 t htm).2; omega
          rw [this, Bool.false_or]
        have hlz := HI.out.2.2
        rw [hte2] at hlz
        simp only [List.length_append, List.length_cons, List.length_nil] at hlz
        have htg := tight_ge t
        have hCW : ∀ W, Below B w1 W → Calls Tryz.prog 15 #[.agg #[.int .u8 (t.k : Int), .string (str t.nm), .int .i64 t.n, .slice A2 tl c2], .bool b4] W fun e w' => e = .returned (.string (str (tightT t))) ∧ Below W.heap.size W w' := fun W h => by
          obtain ⟨ba2, oa2, A3, c3, eA3, _, _, _, _, _, y3, _, _, _, hKt2⟩ := (HA.out W h).get ht
          cases eA3
          have y3' : W.cell? ⟨ba, oa + 0 * 4 + 3, none⟩ = some (.slice A2 t.ks.length c2) := by
            have hBl : ba < B := by have h2 := HSZ.out; omega
            rw [htl]
            have e : (⟨ba, oa + 0 * 4 + 3, none⟩ : Addr) = ⟨ba, oa + 3, none⟩ := by simp
            rw [e]
            exact (World.cell?_of_block (a := ⟨ba, oa + 3, none⟩) (h.block ba hBl)).trans z3
          rw [y3] at y3'
          injection y3' with y3'
          injection y3' with y4 y5 y6
          subst y4
          subst y6
          have := inner_any t (HI.out.2.1 t htm).1 A3 c3 W hKt2 (by omega) b4
          rw [etg] at this
          unfold Ty.val at this
          rw [htl] at this
          exact this
        have HCW := Lib.hid hCW
        obtain ⟨tx, htx⟩ : ∃ tx, tightT t = tx := ⟨_, rfl⟩
        rw [htx] at hte2 HCW hlz
        have hsx : (str tx).size = tx.length := str_size tx
        have hsn : (str nm).size = nm.length := str_size nm
        have hm1 : ¬ (9223372036854775807 < (str tx).size + 1) := by omega
        have hm2 : ¬ (9223372036854775807 < (str tx).size + 1 + (str nm).size) := by omega
        have HV : Hid (str tx ++ ⟨#[32]⟩ ++ str nm = str tz) := Lib.hid (by rw [hte2, ← str_append, ← str_append]; rfl)
        have hBl : ba < B := by have h1 := HTO.out w1 (Below.refl _ _); have h2 := HSZ.out; omega
        have HXK : Hid (∀ W, Below B w1 W → (W.cell? ⟨q, 1, none⟩ = some (.string (str nm)) ∧ W.cell? ⟨q, 3, none⟩ = some (.slice (some ⟨ba, oa, none⟩) kl c)) ∧ W.cell? ⟨ba, oa, none⟩ = some (.int .u8 (t.k : Int)) ∧ W.cell? ⟨ba, oa + 1, none⟩ = some (.string (str t.nm)) ∧ W.cell? ⟨ba, oa + 2, none⟩ = some (.int .i64 t.n) ∧ W.cell? ⟨ba, oa + 3, none⟩ = some (.slice A2 tl c2)) := Lib.hid fun W h => by
          have hX := HX.out W h
          exact ⟨⟨hX.2.1, hX.2.2.2⟩, (World.cell?_of_block (a := ⟨ba, oa, none⟩) (h.block ba hBl)).trans z0, (World.cell?_of_block (a := ⟨ba, oa + 1, none⟩) (h.block ba hBl)).trans z1, (World.cell?_of_block (a := ⟨ba, oa + 2, none⟩) (h.block ba hBl)).trans z2, (World.cell?_of_block (a := ⟨ba, oa + 3, none⟩) (h.block ba hBl)).trans z3⟩
        have hkp : (0 : Int) < (kl : Int) := by omega
        have hkp2 : 0 < kl := by omega
        clear hte hte2 hz ho hks ht htm hbl hKt htl hb4 etg hlz htg htx hCW hsx hsn hBl
        go_upto_region 27 with fail
        clear x0 x1 x2 x3 z0 z1 z2 z3
        have hw0 : Below B w1 w1.drew := (Below.refl _ _).drew
        go_region_held3 (fun W => (W.cell? ⟨q, 1, none⟩ = some (.string (str nm)) ∧ W.cell? ⟨q, 3, none⟩ = some (.slice (some ⟨ba, oa, none⟩) kl c)) ∧ W.cell? ⟨ba, oa, none⟩ = some (.int .u8 (t.k : Int)) ∧ W.cell? ⟨ba, oa + 1, none⟩ = some (.string (str t.nm)) ∧ W.cell? ⟨ba, oa + 2, none⟩ = some (.int .i64 t.n) ∧ W.cell? ⟨ba, oa + 3, none⟩ = some (.slice A2 tl c2))
          (first | exact HXK.out _ hw0 | exact HXK.out _ hw9)
          (first | (go_at_call 15; refine Calls.mono (HCW.out _ hw0) ?_; rintro e w9 ⟨rfl, hb9⟩; have hw9 : Below B w1 w9 := hw0.trans (hb9.mono (HTO.out _ hw0))))
        all_goals
          have HP := Lib.hid (HEND.out _ hw9)
          clear hw9 hb9 hw0
          go_wp2_with fail
          go_ret
          exact ⟨by rw [HV.out] <;> rfl, HP.out⟩
      · have hoq : ((kl : Int) == 1) = false := by rw [beq_eq_false_iff_ne]; omega
        rw [if_neg ho] at hte
        have HTE := Lib.hid hte
        clear hz ho hte
        go_wp2_with fail
        go_loopw [3, 8] (fun av iv wr => ∃ (i : Nat) (A' : Option Addr) (n' c' : Nat), i ≤ kl ∧ iv = .int .i64 (i : Int) ∧ av = .slice A' n' c' ∧ Hid (StO B wr (.slice A' n' c') ((ks.take i).map tyT) ∧ Below B w1 wr)) (fun _ iv _ => kl - (intOf iv).toNat)
        case atStart => exact ⟨0, none, 0, 0, Nat.zero_le _, rfl, rfl, Lib.hid ⟨by rw [List.take_zero]; exact StO.nil _ _, Below.refl _ _⟩⟩
        case round =>
          obtain ⟨i, A', n', c', hi, rfl, rfl, HJ⟩ := hrel
          clear x0 x1 x2 x3
          obtain ⟨x0, x1, x2, x3⟩ := HX.out wr HJ.out.2
          by_cases hli : i < kl
          · have hd : decide ((i : Int) < (kl : Int)) = true := by simpa using hli
            obtain ⟨t, ht⟩ : ∃ t, ks[i]? = some t := ⟨_, List.getElem?_eq_getElem (by rw [HI.out.1]; exact hli)⟩
            obtain ⟨ba, oa, A2, c2, eA, _, hbl, z0, z1, z2, z3, _, _, _, hKt⟩ := (HA.out wr HJ.out.2).get ht
            subst eA
            obtain ⟨tl, htl⟩ : ∃ tl, t.ks.length = tl := ⟨_, rfl⟩
            rw [htl] at z3
            have htm := List.mem_of_getElem? ht
            have hC := (HI.out.2.1 t htm).1 A2 c2 wr hKt (by
              have h2 := joinT_part (s := [44, 32]) (List.mem_map.2 ⟨t, htm, rfl⟩ : tyT t ∈ ks.map tyT)
              have h3 := HI.out.2.2
              rw [HTE.out] at h3
              simp only [List.length_append, List.length_cons, List.length_nil] at h3
              omega)
            unfold Ty.val at hC
            rw [htl] at hC
            have HC := Lib.hid hC
            have HNX := Lib.hid ht
            clear hC
            clear ht hKt hbl htm htl
            go_upto_region 31 with fail
            go_wp2_with fail
            refine HC.out.mono ?_
            rintro e w2 ⟨rfl, hb2⟩
            obtain ⟨tx, htx⟩ : ∃ tx, tyT t = tx := ⟨_, rfl⟩
            rw [htx]
            have hB2 : Below B w1 w2 := HJ.out.2.trans (hb2.mono (HTO.out wr HJ.out.2))
            have hO2 := HJ.out.1.below hb2
            obtain ⟨w3, hal⟩ : ∃ W, w2.alloc (.cells #[.string (str tx)] 9) = W := ⟨_, rfl⟩
            obtain ⟨A3, c3, w4, hrun, hO4, hb4⟩ := hO2.app (HTO.out w2 hB2) tx (by rw [List.length_map]; have := List.length_take_le i ks; omega) hal
            obtain ⟨n3, hn3⟩ : ∃ z, ((ks.take i).map tyT).length + 1 = z := ⟨_, rfl⟩
            rw [hn3] at hrun hO4
            have HN : Hid (StO B w4 (.slice A3 n3 c3) ((ks.take (i + 1)).map tyT) ∧ Below B w1 w4) := Lib.hid ⟨by
              have e : (ks.take (i + 1)).map tyT = (ks.take i).map tyT ++ [tx] := by rw [List.take_add_one, HNX.out, List.map_append, ← htx]; rfl
              rw [e]; exact hO4, hB2.trans hb4⟩
            obtain ⟨q2, hq2⟩ : ∃ z, w2.heap.size = z := ⟨_, rfl⟩
            rw [hq2] at hrun
            have HR := Lib.hid (And.intro hrun (And.intro hal hq2))
            clear hB2 hO2 hO4 hb4 hn3 hb2 htx HC x0 x1 x2 x3 hrun hal hq2 z0 z1 z2 z3
            have hrun := HR.out.1
            have hal := HR.out.2.1
            have hq2 := HR.out.2.2
            go_upto_region 30 with (at_builtin; refine wpList_app rfl _ _ 32 rfl _ _ _ _ rfl rfl hrun ?_)
            clear hrun hal hq2
            go_wp2_with fail
            go_roundw
            case rel => exact ⟨i + 1, A3, n3, c3, by omega, by go_num, rfl, HN⟩
            case measure => simp [intOf]; omega
          · obtain rfl : kl = i := by omega
            have hd : decide ((kl : Int) < (kl : Int)) = false := by simp
            have hfull : ks.take kl = ks := List.take_of_length_le (by rw [HI.out.1]; exact Nat.le_refl _)
            have hO := HJ.out.1
            rw [hfull] at hO
            obtain ⟨A9, c9, e9, hS⟩ := hO.shape
            injection e9 with e91 e92 e93
            have hl3 := HI.out.2.2
            rw [HTE.out] at hl3
            simp only [List.length_append, List.length_cons, List.length_nil] at hl3
            have hJ := fun W (h : SsAt (fun b => B ≤ b ∧ b < wr.heap.size) W A' (ks.map tyT)) => rjoin_any (ks.map tyT) [44, 32] ⟨#[44, 32]⟩ rfl A' n' c' (by rw [e92]) (by rw [e92, List.length_map, HI.out.1]; exact hkx) _ W h (by omega)
            have hS2 : SsAt (fun b => B ≤ b ∧ b < wr.heap.size) wr A' (ks.map tyT) := by rw [e91]; exact hS
            obtain ⟨tj, htj⟩ : ∃ tj, joinT [44, 32] (ks.map tyT) = tj := ⟨_, rfl⟩
            rw [htj] at hJ hl3
            have HV : Hid ((⟨#[40]⟩ : ByteArray) ++ str tj ++ ⟨#[41, 32]⟩ ++ str nm = str tz) := Lib.hid (by
              rw [HTE.out, htj, ← str_append, ← str_append, ← str_append]; rfl)
            have hs1 : (str tj).size = tj.length := str_size tj
            have hs2 : (str nm).size = nm.length := str_size nm
            have hm1 : ¬ (9223372036854775807 < 1 + (str tj).size) := by omega
            have hm2 : ¬ (9223372036854775807 < 1 + (str tj).size + 2) := by omega
            have hm3 : ¬ (9223372036854775807 < 1 + (str tj).size + 2 + (str nm).size) := by omega
            have HJ2 : Hid (∀ q', Calls Tryz.prog 16 #[.slice A' n' c', .string ⟨#[44, 32]⟩] (wr.drewN q') fun e w' => e = .returned (.string (str tj)) ∧ w' = wr.drewN q') := Lib.hid fun q' => (hJ _ (hS2.off (Off.drewN (fun _ => False) wr q') fun _ _ h => h)).mono fun e w' ⟨h1, h2⟩ => ⟨h1, h2.symm⟩
            have HP := Lib.hid (HEND.out wr HJ.out.2)
            clear hfull hO hS hS2 e91 e92 e93 hJ hl3 htj hs1 hs2
            go_upto_region 32 with fail
            go_quiet (first | (go_at_call 16; exact Calls.quiet_of_same (HJ2.out _)))
            go_wp2_with fail
            go_ret
            exact ⟨by rw [HV.out] <;> rfl, below_drewN HP.out _⟩
end Go.Proofs.YtadogebhkldeiaaGreatDoor
