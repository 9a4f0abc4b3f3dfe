/- stamp, numbers too: print's types. -/
import Derived.Test.YtadogebhkldeiaaGreatDoorZR
namespace Go.Proofs.YtadogebhkldeiaaGreatDoor
open Go.RowKit Ty
set_option linter.unusedVariables false
set_option linter.unusedSimpArgs false
attribute [local go_sem] Oper.semAt_some
theorem pr_eq (t : Ty) : pr t = if t.k = 1 then decide (-9223372036854775808 ≤ t.n ∧ t.n ≤ 9223372036854775807) else (t.k == 2 || t.k == 4) && (decide (t.ks.length ≤ 1000000) && prs t.ks) := by
  obtain ⟨k, nm, n, ks⟩ := t
  rw [pr]; rfl
set_option maxRecDepth 100000 in
set_option maxHeartbeats 8000000 in
theorem ty_any : ∀ (t : Ty), pr t = true → ∀ (A : Option Addr) (c : Nat), PutC 31 (t.val A c) (tyT t) (TyK A t.ks) := Ty.ind fun k nm n ks ih hpr A c => by
  intro B X b l w hb hT hl
  have hT : Ty.At X w A ks := hT
  have hte := tyT_eq (.node k nm n ks)
  change tyT (.node k nm n ks) = (if k = 1 then (if nm.isEmpty then [39, 116] ++ numT n else nm) else if k = 4 then joinT [32, 42, 32] (ks.map tightT) else if k = 2 then (if ks.length = 0 then [] else if ks.length = 1 then joinT [] (ks.map tightT) ++ [32] else [40] ++ joinT [44, 32] (ks.map tyT) ++ [41, 32]) ++ nm else []) at hte
  rw [pr_eq] at hpr
  change (if k = 1 then decide (-9223372036854775808 ≤ n ∧ n ≤ 9223372036854775807) else (k == 2 || k == 4) && (decide (ks.length ≤ 1000000) && prs ks)) = true at hpr
  have hp3 : k ≠ 1 → prs ks = true := fun h => by rw [if_neg h, Bool.and_eq_true, Bool.and_eq_true] at hpr; exact hpr.2.2
  have hp2 : k ≠ 1 → ks.length ≤ 1000000 := fun h => by rw [if_neg h, Bool.and_eq_true, Bool.and_eq_true] at hpr; exact of_decide_eq_true hpr.2.1
  have hp1 : (if k = 1 then decide (-9223372036854775808 ≤ n ∧ n ≤ 9223372036854775807) else (k == 2 || k == 4)) = true := by
    by_cases h : k = 1
    · rw [if_pos h] at hpr ⊢; exact hpr
    · rw [if_neg h, Bool.and_eq_true] at hpr; rw [if_neg h]; exact hpr.1
  have hkid : k ≠ 1 → ∀ x ∈ ks, ∀ A c, PutC 31 (x.val A c) (tyT x) (TyK A x.ks) := fun h1 x hx => ih x hx (prs_mem (hp3 h1) hx)
  have hkt : k ≠ 1 → ∀ x ∈ ks, ∀ A c, PutC 41 (x.val A c) (tightT x) (TyK A x.ks) := fun h1 x hx A c => by
    have hk : x.k < 256 := by
      have := prs_mem (hp3 h1) hx
      rw [pr_eq] at this
      split at this
      · omega
      · rw [Bool.and_eq_true] at this
        have h1 := this.1
        simp at h1; omega
    exact tight_any x.k hk x.nm x.n A x.ks.length c x.ks (tyT x) (hkid h1 x hx A c)
  show Calls Tryz.prog 31 #[.pointer (some ⟨b, 0, none⟩), .agg #[.int .u8 (k : Int), .string (str nm), .int .i64 n, .slice A ks.length c]] w fun e w' => e = .returned (.tuple #[]) ∧ IsB B X b (l ++ tyT (.node k nm n ks)) w' ∧ Off (fun k => ¬ X k) w w'
  obtain ⟨tx, htx⟩ : ∃ tx, tyT (.node k nm n ks) = tx := ⟨_, rfl⟩
  rw [htx] at hte hl ⊢
  obtain ⟨kl, hkl⟩ : ∃ kl, ks.length = kl := ⟨_, rfl⟩
  have hp2 : k ≠ 1 → kl ≤ 1000000 := fun h => by rw [← hkl]; exact hp2 h
  rw [hkl] at hte ⊢
  obtain ⟨w1, hw1⟩ : ∃ W, w.alloc (.cells #[.int .u8 (k : Int), .string (str nm), .int .i64 n, .slice A kl c] 24) = W := ⟨_, rfl⟩
  have hb1 : Below w.heap.size w w1 := by rw [← hw1]; exact (Below.refl _ _).alloc (Nat.le_refl _) _
  have hB1 : Blk w1 w.heap.size 24 #[.int .u8 (k : Int), .string (str nm), .int .i64 n, .slice A kl c] := by rw [← hw1]; exact Blk.new _ _ _
  obtain ⟨q, hq⟩ : ∃ q, w.heap.size = q := ⟨_, rfl⟩
  rw [hq] at hB1
  obtain ⟨Y, hY⟩ : ∃ Y : Nat → Prop, Y = fun k => X k ∨ k = q := ⟨_, rfl⟩
  have hYq : Y q := by rw [hY]; exact .inr rfl
  have hXY : ∀ k, X k → Y k := fun k h => by rw [hY]; exact .inl h
  have hI1 : IsB B Y b l w1 := hb.bel hb1 fun k h => by
    rw [hY] at h
    rcases h with h | rfl
    · exact .inl h
    · exact .inr ⟨by omega, hB1.lt⟩
  have hA1 : Ty.At Y w1 A ks := (hT.mono hXY).off (Off.of_new hb1 (fun k => ¬ Y k)) (fun b hb hn => hn hb)
  have HX : Hid (∀ W, Off (fun k => ¬ Y k) w1 W → W.cell? ⟨q, 0, none⟩ = some (.int .u8 (k : Int)) ∧ W.cell? ⟨q, 1, none⟩ = some (.string (str nm)) ∧ W.cell? ⟨q, 2, none⟩ = some (.int .i64 n) ∧ W.cell? ⟨q, 3, none⟩ = some (.slice A kl c)) := Lib.hid fun W hW => by
    have h := hB1.off hW fun h => h hYq
    exact ⟨h.cell 0, h.cell 1, h.cell 2, h.cell 3⟩
  -- what is left to show, behind the last write
  have HEND : Hid (∀ (w9 : World) (l9 : List UInt8), IsB B Y b l9 w9 → Off (fun k => ¬ Y k) w1 w9 → l9 = l ++ tx → IsB B X b (l ++ tx) w9 ∧ Off (fun k => ¬ X k) w w9) := Lib.hid fun w9 l9 h o e => ⟨by rw [← e]; exact h.mono hXY, (Off.of_new hb1 (fun k => ¬ X k)).trans (o.mono fun k _ h hX => h (hXY k hX))⟩
  have HI := Lib.hid (And.intro hI1 (And.intro hA1 (And.intro hkl (And.intro hkid (And.intro hkt (And.intro hl hte))))))
  have HW := Lib.hid (And.intro hw1 hq)
  clear hb hT hb1 hB1 hYq hY hXY hI1 hA1 hw1 hq hkl hkid hkt hl hte ih hp3 htx
  go_enter Tryz.func31, Tryz.ntmps31
  go_upto_region 1 with fail
  (try rw [HW.out.1])
  (try rw [HW.out.2])
  clear HW
  obtain ⟨x0, x1, x2, x3⟩ := HX.out w1 (Off.refl _ _)
  by_cases h1 : k = 1
  · rw [if_pos h1] at hp1
    have e1 : ((k : Int) == 1) = true := by rw [h1]; rfl
    have hrg : -9223372036854775808 ≤ n ∧ n ≤ 9223372036854775807 := of_decide_eq_true hp1
    by_cases hem : nm.isEmpty = true
    · have hne : (str nm).toList.isEmpty = true := by rw [str_toList]; exact hem
      have HV : Hid (tx = [39, 116] ++ numT n ∧ l.length + (2 + (numT n).length) < 4294967295) := Lib.hid (by
        have h5 := HI.out.2.2.2.2.2.2
        rw [if_pos h1, if_pos hem] at h5
        refine ⟨h5, ?_⟩
        have := HI.out.2.2.2.2.2.1
        rw [h5] at this
        simp only [List.length_append, List.length_cons, List.length_nil] at this
        omega)
      have HRG := Lib.hid hrg
      clear hp1 h1 hp2 hem hrg hpr
      go_wp2_with fail
      refine (ws_any HI.out.1 [39, 116] _ rfl (by have := HV.out.2; simp only [List.length_cons, List.length_nil]; omega)).mono ?_
      rintro e w2 ⟨rfl, h2, o2⟩
      obtain ⟨x0, x1, x2, x3⟩ := HX.out w2 o2
      have HT2 := Lib.hid (And.intro h2 o2)
      clear h2 o2
      go_wp2_with fail
      refine (number_any HT2.out.1 n HRG.out.1 HRG.out.2 (by rw [List.length_append]; have := HV.out.2; simp only [List.length_cons, List.length_nil]; omega)).mono ?_
      rintro e w3 ⟨rfl, h3, o3⟩
      have HP := Lib.hid (HEND.out w3 _ h3 (HT2.out.2.trans o3) (by rw [HV.out.1]; simp [List.append_assoc]))
      clear h3 o3
      go_wp2_with fail
      (try simp only [Exit.inBlock, Exit.then])
      refine bodyPost_ret (results_none rfl _ _ _) rfl ?_
      exact ⟨rfl, HP.out⟩
    · have hne : (str nm).toList.isEmpty = false := by
        rw [str_toList]
        simpa using hem
      have HV : Hid (tx = nm) := Lib.hid (by rw [HI.out.2.2.2.2.2.2, if_pos h1, if_neg hem])
      clear hp1 h1 hp2 hem hrg hpr
      go_wp2_with fail
      refine (ws_any HI.out.1 nm _ rfl (by rw [← HV.out]; exact Nat.lt_succ_of_lt HI.out.2.2.2.2.2.1)).mono ?_
      rintro e w2 ⟨rfl, h2, o2⟩
      have HP := Lib.hid (HEND.out w2 _ h2 o2 (by rw [HV.out]))
      clear h2 o2
      go_wp2_with fail
      go_end0
      exact ⟨rfl, HP.out⟩
  · rw [if_neg h1] at hp1
    have hp2 := hp2 h1
    have HKI := Lib.hid (And.intro (HI.out.2.2.2.1 h1) (HI.out.2.2.2.2.1 h1))
    clear hpr
    have n1 : ((k : Int) == 1) = false := by rw [beq_eq_false_iff_ne]; omega
    have n3 : ((k : Int) == 3) = false := by
      simp at hp1
      rw [beq_eq_false_iff_ne]; omega
    by_cases h4 : k = 4
    · have e4 : ((k : Int) == 4) = true := by rw [h4]; rfl
      have HV : Hid (tx = joinT [32, 42, 32] (ks.map tightT)) := Lib.hid (by rw [HI.out.2.2.2.2.2.2, if_neg h1, if_pos h4])
      have HL : Hid (l.length + (joinT [32, 42, 32] (ks.map tightT)).length < 4294967295) := Lib.hid (by rw [← HV.out]; exact HI.out.2.2.2.2.2.1)
      clear hp1 h1 h4
      go_wp2_with fail
      refine (between_tight tightT [32, 42, 32] _ rfl ks HKI.out.2 A kl c HI.out.2.2.1 (by omega) B Y b l w1 HI.out.1 HI.out.2.1 HL.out).mono ?_
      rintro e w2 ⟨rfl, h2, o2⟩
      have HP := Lib.hid (HEND.out w2 _ h2 o2 (by rw [HV.out]))
      clear h2 o2
      go_wp2_with fail
      go_end0
      exact ⟨rfl, HP.out⟩
    · have h2k : k = 2 := by simp at hp1; omega
      have n4 : ((k : Int) == 4) = false := by rw [beq_eq_false_iff_ne]; omega
      have e2 : ((k : Int) == 2) = true := by rw [h2k]; rfl
      have hte : tx = (if kl = 0 then [] else if kl = 1 then joinT [] (ks.map tightT) ++ [32] else [40] ++ joinT [44, 32] (ks.map tyT) ++ [41, 32]) ++ nm := by rw [HI.out.2.2.2.2.2.2, if_neg h1, if_neg h4, if_pos h2k]
      have hlx := HI.out.2.2.2.2.2.1
      clear hp1 h1 h4 h2k
      by_cases hz : kl = 0
      · have hzq : ((kl : Int) == 0) = true := by rw [hz]; rfl
        have HV : Hid (tx = nm ∧ l.length + nm.length < 4294967295) := Lib.hid (by
          rw [if_pos hz, List.nil_append] at hte
          exact ⟨hte, by rw [← hte]; exact hlx⟩)
        clear hte hlx hz
        go_wp2_with fail
        refine (ws_any HI.out.1 nm _ rfl (by have := HV.out.2; omega)).mono ?_
        rintro e w2 ⟨rfl, h2, o2⟩
        have HP := Lib.hid (HEND.out w2 _ h2 o2 (by rw [HV.out.1]))
        clear h2 o2
        go_wp2_with fail
        go_end0
        exact ⟨rfl, HP.out⟩
      · have hzq : ((kl : Int) == 0) = false := by rw [beq_eq_false_iff_ne]; omega
        by_cases ho : kl = 1
        · have hoq : ((kl : Int) == 1) = true := by rw [ho]; rfl
          obtain ⟨t, ht⟩ : ∃ t, ks[0]? = some t := ⟨_, List.getElem?_eq_getElem (by rw [HI.out.2.2.1]; omega)⟩
          have hks : ks = [t] := by
            have hl1 := HI.out.2.2.1
            cases hk : ks with
            | nil => rw [hk] at ht; simp at ht
            | cons a r =>
              rw [hk] at ht hl1
              simp at ht
              subst ht
              have : r = [] := List.eq_nil_of_length_eq_zero (by simp at hl1; omega)
              rw [this]
          have HV : Hid (tx = tightT t ++ [32] ++ nm ∧ l.length + ((tightT t).length + 1 + nm.length) < 4294967295) := Lib.hid (by
            rw [if_neg hz, if_pos ho, hks] at hte
            have e5 : joinT [] ([t].map tightT) = tightT t := rfl
            rw [e5] at hte
            refine ⟨hte, ?_⟩
            rw [hte] at hlx
            simp only [List.length_append, List.length_singleton] at hlx
            omega)
          obtain ⟨ba, oa, A', c', rfl, _, _, z0, z1, z2, z3, hok, hlc, hcm, hKt⟩ := HI.out.2.1.get ht
          simp only [Nat.zero_mul, Nat.add_zero] at z0 z1 z2 z3
          have hPT := HKI.out.2 t (List.mem_of_getElem? ht) A' c' B Y b l w1 HI.out.1 hKt (by have := HV.out.2; omega)
          unfold Ty.val at hPT
          obtain ⟨tl, htl⟩ : ∃ tl, t.ks.length = tl := ⟨_, rfl⟩
          rw [htl] at hPT z3
          have HPT := Lib.hid hPT
          have hkp : (0 : Int) < (kl : Int) := by omega
          have hkp2 : 0 < kl := by omega
          clear hPT htl hok hlc hcm hKt ht hks hte hlx hz ho
          go_wp2_with fail
          refine HPT.out.mono ?_
          rintro e w2 ⟨rfl, h2, o2⟩
          obtain ⟨x0, x1, x2, x3⟩ := HX.out w2 o2
          have HT2 := Lib.hid (And.intro h2 o2)
          clear h2 o2 z0 z1 z2 z3
          go_wp2_with fail
          refine (wb_any HT2.out.1 32 32 rfl (by rw [List.length_append]; have := HV.out.2; omega)).mono ?_
          rintro e w3 ⟨rfl, h3, o3⟩
          have HT3 := Lib.hid (And.intro h3 (HT2.out.2.trans o3))
          clear h3 o3 x0 x1 x2 x3
          obtain ⟨x0, x1, x2, x3⟩ := HX.out w3 HT3.out.2
          go_wp2_with fail
          refine (ws_any HT3.out.1 nm _ rfl (by simp only [List.length_append, List.length_singleton]; have := HV.out.2; omega)).mono ?_
          rintro e w4 ⟨rfl, h4, o4⟩
          have HP := Lib.hid (HEND.out w4 _ h4 (HT3.out.2.trans o4) (by rw [HV.out.1]; simp [List.append_assoc]))
          clear h4 o4
          go_wp2_with fail
          go_end0
          exact ⟨rfl, HP.out⟩
        · have hoq : ((kl : Int) == 1) = false := by rw [beq_eq_false_iff_ne]; omega
          have HV : Hid (tx = [40] ++ joinT [44, 32] (ks.map tyT) ++ [41, 32] ++ nm ∧ l.length + (1 + (joinT [44, 32] (ks.map tyT)).length + 2 + nm.length) < 4294967295) := Lib.hid (by
            rw [if_neg hz, if_neg ho] at hte
            refine ⟨hte, ?_⟩
            rw [hte] at hlx
            simp only [List.length_append, List.length_cons, List.length_nil] at hlx
            omega)
          clear hte hlx hz ho
          go_wp2_with fail
          refine (wb_any HI.out.1 40 40 rfl (by have := HV.out.2; omega)).mono ?_
          rintro e w2 ⟨rfl, h2, o2⟩
          have HT2 := Lib.hid (And.intro h2 (And.intro o2 (HI.out.2.1.off o2 fun b hb hn => hn hb)))
          clear h2 o2 x0 x1 x2 x3
          obtain ⟨x0, x1, x2, x3⟩ := HX.out w2 HT2.out.2.1
          go_wp2_with fail
          refine (between_ty tyT [44, 32] _ rfl ks HKI.out.1 A kl c HI.out.2.2.1 (by omega) B Y b (l ++ [40]) w2 HT2.out.1 HT2.out.2.2 (by simp only [List.length_append, List.length_singleton]; have := HV.out.2; omega)).mono ?_
          rintro e w3 ⟨rfl, h3, o3⟩
          have HT3 := Lib.hid (And.intro h3 (HT2.out.2.1.trans o3))
          clear h3 o3 x0 x1 x2 x3
          obtain ⟨x0, x1, x2, x3⟩ := HX.out w3 HT3.out.2
          go_wp2_with fail
          refine (ws_any HT3.out.1 [41, 32] _ rfl (by simp only [List.length_append, List.length_cons, List.length_nil]; have := HV.out.2; omega)).mono ?_
          rintro e w4 ⟨rfl, h4, o4⟩
          have HT4 := Lib.hid (And.intro h4 (HT3.out.2.trans o4))
          clear h4 o4 x0 x1 x2 x3
          obtain ⟨x0, x1, x2, x3⟩ := HX.out w4 HT4.out.2
          go_wp2_with fail
          refine (ws_any HT4.out.1 nm _ rfl (by simp only [List.length_append, List.length_cons, List.length_nil]; have := HV.out.2; omega)).mono ?_
          rintro e w5 ⟨rfl, h5, o5⟩
          have HP := Lib.hid (HEND.out w5 _ h5 (HT4.out.2.trans o5) (by rw [HV.out.1]; simp [List.append_assoc]))
          clear h5 o5
          go_wp2_with fail
          go_end0
          exact ⟨rfl, HP.out⟩
end Go.Proofs.YtadogebhkldeiaaGreatDoor
