/- stamp: come. -/
import Derived.Test.YtadogebhkldeiaaGreatDoorZRt
namespace Go.Proofs.YtadogebhkldeiaaGreatDoor
open Go.RowKit Ty
set_option linter.unusedVariables false
set_option linter.unusedSimpArgs false
attribute [local go_sem] Oper.semAt_some
/-- A row of texts of the call's own, apart from X. -/
structure Sx (B : Nat) (X : Nat → Prop) (w : World) (v : Value) (ss : List (List UInt8)) : Prop where
  own : StO B w v ss
  off : ∀ k, X k → k < w.heap.size ∧ v.ownBlock ≠ some k
  le : B ≤ w.heap.size
section
variable {B : Nat} {X Y : Nat → Prop} {w w' : World} {v : Value} {ss : List (List UInt8)}
theorem Sx.mono (h : Sx B X w v ss) (hX : ∀ k, Y k → X k) : Sx B Y w v ss := ⟨h.own, fun k hk => h.off k (hX k hk), h.le⟩
theorem Sx.bel (h : Sx B X w v ss) (hb : Below w.heap.size w w') (hY : ∀ k, Y k → X k ∨ (w.heap.size ≤ k ∧ k < w'.heap.size)) : Sx B Y w' v ss := by
  refine ⟨h.own.below hb, fun k hk => ?_, Nat.le_trans h.le hb.size⟩
  rcases hY k hk with h1 | h1
  · have := h.off k h1
    exact ⟨Nat.lt_of_lt_of_le this.1 hb.size, this.2⟩
  · exact ⟨h1.2, fun e => by have := (World.ownsRow.lt h.own k e).2; omega⟩
theorem Sx.app (h : Sx B X w v ss) (s : List UInt8) (hn : ss.length < 1000000) {w1 : World} (h1 : w.alloc (.cells #[.string (str s)] 9) = w1) :
    ∃ A' c' w2, (Builtin.append_ #[32, 32] 32 #[v, .slice (some ⟨w.heap.size, 0, none⟩) 1 1]).run Tryz.prog w1 = .ok (.slice A' (ss.length + 1) c') w2 ∧ Sx B X w2 (.slice A' (ss.length + 1) c') (ss ++ [s]) ∧ Off (fun k => ¬ X k) w w2 := by
  obtain ⟨i0, hi0, hz0, hz1, hz2⟩ := info_parts infoStr
  have hb1 : Below w.heap.size w w1 := by rw [← h1]; exact (Below.refl _ _).alloc (Nat.le_refl _) _
  have hB1 : Blk w1 w.heap.size 9 #[.string (str s)] := by rw [← h1]; exact Blk.new _ _ _
  have hO1 : w1.ownsRow B 9 1 v ss.length (flatS ss) := own_below h.own hb1
  have hs1 := hb1.size
  have hB := h.le
  obtain ⟨v', w2, hr, hO, hgr, _, h5⟩ := run_append_own_at (P := Tryz.prog) w1 B 32 32 9 i0 (.string ⟨#[]⟩) 1 16 Tryz.underlying32 hi0 hz0 hz1 hz2 rfl (by decide) v ss.length (flatS ss) hO1 ⟨w.heap.size, 0, none⟩ 1 1 [.string (str s)] rfl
    (fun j u hj => by
      have hj0 : j = 0 := by have := (List.getElem?_eq_some_iff.1 hj).1; simpa using this
      subst hj0
      rw [add_off, Nat.zero_add, hB1.cell 0]
      exact hj)
    (fun u hu => by rw [List.mem_singleton.1 hu]; rfl) (by unfold maxLen; omega) (by omega) (by omega)
  obtain ⟨A', c', rfl⟩ : ∃ A' c', v' = .slice A' (ss.length + 1) c' := by
    rcases hO.2 with ⟨e, h0⟩ | ⟨b, cap, cur, e, _⟩
    · omega
    · exact ⟨_, _, e⟩
  have ho : Off (fun k => v.ownBlock = some k) w1 w2 := Off.of_grown hgr
  refine ⟨A', c', w2, hr, ⟨?_, fun k hk => ?_, by have := ho.size; omega⟩, (Off.of_new hb1 _).trans (ho.mono fun k _ hk hX => (h.off k hX).2 hk)⟩
  · unfold StO
    have e : flatS (ss ++ [s]) = flatS ss ++ [.string (str s)] := by unfold flatS; rw [List.map_append]; rfl
    rw [List.length_append, e]
    exact hO
  · obtain ⟨k1, k2⟩ := h.off k hk
    refine ⟨by have := ho.size; omega, fun e => ?_⟩
    rcases h5 with h5 | h5
    · exact k2 (h5 ▸ e)
    · rw [h5] at e; cases e; omega
end
theorem th_keep (o : Bool) (nm : List UInt8) (ss : List (List UInt8)) (i : Nat) (h : true = (o || decide (nm ∈ ss.take i))) : true = (o || decide (nm ∈ ss.take (i + 1))) := by
  cases o with
  | true => rfl
  | false =>
    rw [Bool.false_or] at h ⊢
    rw [decide_eq_true]
    rw [List.take_add_one]
    exact List.mem_append_left _ (of_decide_eq_true h.symm)
theorem th_step (o : Bool) (nm s : List UInt8) (ss : List (List UInt8)) (i : Nat) (hs : ss[i]? = some s) (h : false = (o || decide (nm ∈ ss.take i))) : decide (s = nm) = (o || decide (nm ∈ ss.take (i + 1))) := by
  cases o with
  | true => cases h
  | false =>
    rw [Bool.false_or] at h ⊢
    rw [List.take_add_one, hs]
    have h0 : nm ∉ ss.take i := of_decide_eq_false h.symm
    by_cases h1 : s = nm
    · rw [decide_eq_true h1, decide_eq_true (List.mem_append_right _ (by rw [h1]; simp))]
    · rw [decide_eq_false h1, decide_eq_false (fun h2 => by
        rcases List.mem_append.1 h2 with h2 | h2
        · exact h0 h2
        · exact h1 (List.mem_singleton.1 h2).symm)]
theorem own_not {D : List UInt8 → Option Dc} {x : List UInt8} (h : (ownN x).2 = false → (D x).isSome = true) : ((ownN x).2 || !(D x).isSome) = (ownN x).2 := by
  cases ho : (ownN x).2 with
  | true => rfl
  | false => rw [h ho]; rfl
set_option maxRecDepth 100000 in
set_option maxHeartbeats 16000000 in
theorem rcome_any (ds : List Dc) (dsA : Option Addr) (dn dsc : Nat) (hdn : ds.length = dn) (hdx : dn ≤ 400000) : ∀ t : Ty, nv t = true → okT t = true → (∀ x ∈ namesT t, (ownN x).2 = false → (bookD ds x).isSome = true) →
    ∀ (A : Option Addr) (c B : Nat) (X : Nat → Prop) (w : World) (lA : Option Addr) (ln lc : Nat) (ss : List (List UInt8)), Sx B X w (.slice lA ln lc) ss → Ty.At X w A t.ks → DsAt X w dsA ds → ss.length + (namesT t).length ≤ 900000 →
    Calls Tryz.prog 8 #[.slice lA ln lc, t.val A c, .slice dsA dn dsc] w fun e w' => (∃ A' n' c', e = .returned (.slice A' n' c') ∧ Sx B X w' (.slice A' n' c') (comeL ss (namesT t))) ∧ Off (fun k => ¬ X k) w w' := Ty.ind fun k nm n ks ih hv hok hnm A c B X w lA ln lc ss hS hT hD hlen => by
  have hT : Ty.At X w A ks := hT
  rw [nv_eq, Bool.and_eq_true] at hv
  rw [okT_eq, Bool.and_eq_true, Bool.and_eq_true] at hok
  have hkx : ks.length ≤ 1000000 := of_decide_eq_true hok.2.1
  have hk24 : k = 2 ∨ k = 4 := by have := hv.1; simpa using this
  have hne := namesT_eq (.node k nm n ks)
  change namesT (.node k nm n ks) = (if k = 2 then [nm] else []) ++ (if k = 2 ∨ k = 4 then namesL ks else []) at hne
  rw [if_pos hk24] at hne
  obtain ⟨hdn2, hhd⟩ : ∃ h, (if k = 2 then [nm] else []) = h := ⟨_, rfl⟩
  rw [hhd] at hne
  obtain ⟨kl, hkl⟩ : ∃ kl, ks.length = kl := ⟨_, rfl⟩
  have hlnl : ln = ss.length := by
    obtain ⟨_, _, e, _⟩ := hS.own.shape
    injection e with _ e _
  show Calls Tryz.prog 8 #[.slice lA ln lc, .agg #[.int .u8 (k : Int), .string (str nm), .int .i64 n, .slice A ks.length c], .slice dsA dn dsc] w fun e w' => (∃ A' n' c', e = .returned (.slice A' n' c') ∧ Sx B X w' (.slice A' n' c') (comeL ss (namesT (.node k nm n ks)))) ∧ Off (fun k => ¬ X k) w w'
  rw [hne] at hnm hlen ⊢
  rw [hkl] at hkx ⊢
  have hkid : ∀ t ∈ ks, ∀ (A : Option Addr) (c B : Nat) (X : Nat → Prop) (w : World) (lA : Option Addr) (ln lc : Nat) (ss : List (List UInt8)), Sx B X w (.slice lA ln lc) ss → Ty.At X w A t.ks → DsAt X w dsA ds → ss.length + (namesT t).length ≤ 900000 →
      Calls Tryz.prog 8 #[.slice lA ln lc, t.val A c, .slice dsA dn dsc] w fun e w' => (∃ A' n' c', e = .returned (.slice A' n' c') ∧ Sx B X w' (.slice A' n' c') (comeL ss (namesT t))) ∧ Off (fun k => ¬ X k) w w' := fun t ht => ih t ht (nvs_mem hv.2 ht) (okTs_mem hok.2.2 ht) fun x hx => hnm x (List.mem_append_right _ (by
    obtain ⟨r, hr⟩ := List.getElem?_of_mem ht
    have h1 := namesL_next hr
    have h2 : ks = ks.take (r + 1) ++ ks.drop (r + 1) := (List.take_append_drop _ _).symm
    rw [h2, namesL_app, h1]
    exact List.mem_append_left _ (List.mem_append_right _ hx)))
  obtain ⟨w1, hw1⟩ : ∃ W, w.alloc (.cells #[.int .u8 (k : Int), .string (str nm), .int .i64 n, .slice A kl c] 24) = W := ⟨_, rfl⟩
  have hb1 : Below w.heap.size w w1 := by rw [← hw1]; exact (Below.refl _ _).alloc (Nat.le_refl _) _
  have hB1 : Blk w1 w.heap.size 24 #[.int .u8 (k : Int), .string (str nm), .int .i64 n, .slice A kl c] := by rw [← hw1]; exact Blk.new _ _ _
  obtain ⟨q, hq⟩ : ∃ q, w.heap.size = q := ⟨_, rfl⟩
  rw [hq] at hB1
  obtain ⟨Y, hY⟩ : ∃ Y : Nat → Prop, Y = fun k => X k ∨ k = q := ⟨_, rfl⟩
  have hYq : Y q := by rw [hY]; exact .inr rfl
  have hXY : ∀ k, X k → Y k := fun k h => by rw [hY]; exact .inl h
  have hS1 : Sx B Y w1 (.slice lA ln lc) ss := hS.bel hb1 fun k h => by
    rw [hY] at h
    rcases h with h | rfl
    · exact .inl h
    · exact .inr ⟨by omega, hB1.lt⟩
  have HX : Hid (∀ W, Off (fun k => ¬ Y k) w1 W → W.cell? ⟨q, 0, none⟩ = some (.int .u8 (k : Int)) ∧ W.cell? ⟨q, 1, none⟩ = some (.string (str nm)) ∧ W.cell? ⟨q, 2, none⟩ = some (.int .i64 n) ∧ W.cell? ⟨q, 3, none⟩ = some (.slice A kl c)) := Lib.hid fun W hW => by
    have h := hB1.off hW fun h => h hYq
    exact ⟨h.cell 0, h.cell 1, h.cell 2, h.cell 3⟩
  have HA : Hid (∀ W, Off (fun k => ¬ Y k) w1 W → Ty.At Y W A ks ∧ DsAt Y W dsA ds) := Lib.hid fun W hW =>
    ⟨((hT.mono hXY).off (Off.of_new hb1 (fun k => ¬ Y k)) (fun b hb hn => hn hb)).off hW fun b hb hn => hn hb, ((hD.mono hXY).off (Off.of_new hb1 (fun k => ¬ Y k)) (fun b hb hn => hn hb)).off hW fun b hb hn => hn hb⟩
  have HEND : Hid (∀ (w9 : World) (v9 : Value) (s9 : List (List UInt8)), Sx B Y w9 v9 s9 → Off (fun k => ¬ Y k) w1 w9 → s9 = comeL ss (hdn2 ++ namesL ks) → Sx B X w9 v9 (comeL ss (hdn2 ++ namesL ks)) ∧ Off (fun k => ¬ X k) w w9) := Lib.hid fun w9 v9 s9 h o e => ⟨by rw [← e]; exact h.mono hXY, (Off.of_new hb1 (fun k => ¬ X k)).trans (o.mono fun k _ h hX => h (hXY k hX))⟩
  have HI := Lib.hid (And.intro hkl (And.intro hkid (And.intro hlen (And.intro hhd (And.intro hS1 hlnl)))))
  have HNM := Lib.hid hnm
  have HDN := Lib.hid (And.intro hdn hdx)
  have HW := Lib.hid (And.intro hw1 hq)
  have hlnx : ln ≤ 900000 := by omega
  clear ih hv hok hkid hnm hw1 hb1 hB1 hYq hY hXY hS1 hkl hlen hhd hne hS hT hD hdn hdx hq hlnl
  go_enter Tryz.func8, Tryz.ntmps8
  go_upto_region 1 with fail
  (try rw [HW.out.1])
  (try rw [HW.out.2])
  clear HW
  obtain ⟨x0, x1, x2, x3⟩ := HX.out w1 (Off.refl _ _)
  by_cases h2 : k = 2
  · have e2 : ((k : Int) == 2) = true := by rw [h2]; rfl
    have hh := HI.out.2.2.2.1
    rw [if_pos h2] at hh
    have HH := Lib.hid hh
    have hnn : ((ownN nm).2 || !(bookD ds nm).isSome) = (ownN nm).2 := own_not (HNM.out nm (by rw [← HH.out]; exact List.mem_append_left _ (List.mem_singleton.2 rfl)))
    obtain ⟨o2, ho2⟩ : ∃ b, (ownN nm).2 = b := ⟨_, rfl⟩
    obtain ⟨o1, ho1⟩ : ∃ z, (ownN nm).1 = z := ⟨_, rfl⟩
    obtain ⟨is, his⟩ : ∃ b, (bookD ds nm).isSome = b := ⟨_, rfl⟩
    have hOW := rown_any nm w1
    rw [ho1, ho2] at hOW
    have hDA := data_any ds dsA dn dsc HDN.out.1 HDN.out.2 nm w1 ((HA.out w1 (Off.refl _ _)).2.mono fun b hb => (HI.out.2.2.2.2.1.off b hb).1)
    rw [his] at hDA
    have HOW := Lib.hid hOW
    have HDA := Lib.hid hDA
    have HO := Lib.hid (And.intro ho2 his)
    rw [ho2, his] at hnn
    have HNN := Lib.hid hnn
    clear h2 hk24 hh hOW hDA ho1 ho2 his hnn
    go_wp2_with fail
    refine HOW.out.mono ?_
    rintro e w2 ⟨rfl, rfl⟩
    go_wp2_with fail
    refine HDA.out.mono ?_
    rintro e w2 ⟨⟨d2, rfl⟩, hb2⟩
    have ev : d2.val = .agg #[.int .u8 (d2.k : Int), .string (str d2.nm), .slice d2.vA d2.vs.length d2.vc, .slice d2.cA d2.cs.length d2.cc, .slice d2.r.fA d2.r.fl d2.r.fc, .int .u8 d2.r.tk, .string d2.r.ts, .int .i64 d2.r.tn, .slice d2.r.tA d2.r.tl d2.r.tc, .int .u8 d2.r.ek, .string d2.r.es, .int .i64 d2.r.en, .string d2.r.et, .slice d2.r.kA d2.r.kl d2.r.kc, .slice d2.r.rA d2.r.rl d2.r.rc, .slice d2.r.dA d2.r.dl d2.r.dc] := rfl
    rw [ev]
    clear ev
    obtain ⟨w3, hw3⟩ : ∃ W, w2.alloc (.cells #[.int .u8 (d2.k : Int), .string (str d2.nm), .slice d2.vA d2.vs.length d2.vc, .slice d2.cA d2.cs.length d2.cc, .slice d2.r.fA d2.r.fl d2.r.fc, .int .u8 d2.r.tk, .string d2.r.ts, .int .i64 d2.r.tn, .slice d2.r.tA d2.r.tl d2.r.tc, .int .u8 d2.r.ek, .string d2.r.es, .int .i64 d2.r.en, .string d2.r.et, .slice d2.r.kA d2.r.kl d2.r.kc, .slice d2.r.rA d2.r.rl d2.r.rc, .slice d2.r.dA d2.r.dl d2.r.dc] 42) = W := ⟨_, rfl⟩
    have hb3 : Below w2.heap.size w2 w3 := by rw [← hw3]; exact (Below.refl _ _).alloc (Nat.le_refl _) _
    have hb13 : Below w1.heap.size w1 w3 := hb2.trans (hb3.mono hb2.size)
    have HS3 : Hid (Sx B Y w3 (.slice lA ln lc) ss ∧ Off (fun k => ¬ Y k) w1 w3) := Lib.hid ⟨HI.out.2.2.2.2.1.bel hb13 fun k h => .inl h, Off.of_new hb13 _⟩
    have HW3 := Lib.hid hw3
    obtain ⟨x0, x1, x2, x3⟩ := HX.out w3 HS3.out.2
    clear hw3 hb3 hb2 hb13 HOW HDA
    obtain ⟨A9, c9, e9, hrow⟩ := HS3.out.1.own.shape
    injection e9 with e91 e92 e93
    have HROW : Hid (SsAt (fun b => B ≤ b ∧ b < w3.heap.size) w3 lA ss ∧ ss.length = ln) := Lib.hid ⟨by rw [e91]; exact hrow, e92.symm⟩
    clear e91 e92 e93 hrow
    go_upto_region 4 with fail
    (try rw [HW3.out])
    clear HW3
    cases o2 with
    | true =>
      go_upto_region 6 with fail
      go_loopw [11, 12] (fun bv iv wr => ∃ (i : Nat) (b : Bool), i ≤ ln ∧ iv = .int .i64 (i : Int) ∧ bv = .bool b ∧ Hid (b = (true || decide (nm ∈ ss.take i)) ∧ Off (fun _ => False) w3 wr)) (fun _ iv _ => ln - (intOf iv).toNat)
      case atStart => exact ⟨0, _, Nat.zero_le _, rfl, rfl, Lib.hid ⟨by rw [List.take_zero]; simp, Off.refl _ _⟩⟩
      case round =>
        obtain ⟨i, b, hi, rfl, rfl, HJ⟩ := hrel
        have hoY : Off (fun k => ¬ Y k) w1 wr := HS3.out.2.trans (HJ.out.2.mono fun k _ h => h.elim)
        clear x0 x1 x2 x3
        obtain ⟨x0, x1, x2, x3⟩ := HX.out wr hoY
        by_cases hli : i < ln
        · have hd : decide ((i : Int) < (ln : Int)) = true := by simpa using hli
          obtain ⟨s, hs⟩ : ∃ s, ss[i]? = some s := ⟨_, List.getElem?_eq_getElem (by rw [HROW.out.2]; exact hli)⟩
          obtain ⟨bb, ob, eA, _, hbl, z0⟩ := HROW.out.1 i s hs
          subst eA
          have z0 : wr.cell? ⟨bb, ob + i, none⟩ = some (.string (str s)) := (World.cell?_of_block (a := ⟨bb, ob + i, none⟩) (HJ.out.2.block bb hbl id)).trans z0
          cases b with
          | true =>
            have HN : ∀ m, Hid (true = (true || decide (nm ∈ ss.take (i + 1))) ∧ Off (fun _ => False) w3 (wr.drewN m)) := fun m => Lib.hid ⟨th_keep _ _ _ _ HJ.out.1, HJ.out.2.trans (Off.drewN _ _ _)⟩
            have HN := Lib.hid HN
            clear hs hbl hoY HJ
            go_upto_region 8 with fail
            go_quiet (fail)
            go_wp2_with fail
            go_roundw
            case rel => exact ⟨i + 1, true, by omega, by go_num, rfl, HN.out _⟩
            case measure => simp [intOf]; omega
          | false =>
            obtain ⟨e, he⟩ : ∃ e, decide (s = nm) = e := ⟨_, rfl⟩
            have hse : ((str s).toList == (str nm).toList) = e := by
              rw [str_toList, str_toList, ← he]
              by_cases h : s = nm
              · rw [h]; simp
              · rw [decide_eq_false h, beq_eq_false_iff_ne]; exact h
            have HN : ∀ m, Hid (e = (true || decide (nm ∈ ss.take (i + 1))) ∧ Off (fun _ => False) w3 (wr.drewN m)) := fun m => Lib.hid ⟨by rw [← he]; exact th_step _ _ _ _ _ hs HJ.out.1, HJ.out.2.trans (Off.drewN _ _ _)⟩
            have HN := Lib.hid HN
            clear hs hbl hoY HJ he
            go_upto_region 8 with fail
            go_quiet (fail)
            go_wp2_with fail
            go_roundw
            case rel => exact ⟨i + 1, e, by omega, by go_num, rfl, HN.out _⟩
            case measure => simp [intOf]; omega
        · obtain rfl : ln = i := by omega
          have hd : decide ((ln : Int) < (ln : Int)) = false := by simp
          have hfull : ss.take ln = ss := List.take_of_length_le (by rw [HROW.out.2]; exact Nat.le_refl _)
          have hb := HJ.out.1
          rw [hfull] at hb
          have hSr : Sx B Y wr (.slice lA ln lc) ss := HS3.out.1.bel ((HJ.out.2.below (Nat.le_refl _) fun k h => h.elim)) fun k h => .inl h
          have hl2 := HI.out.2.2.1
          have HO2 := HO.out.1
          cases b with
          | true =>
            obtain ⟨s1, hs1⟩ : ∃ s, ss = s := ⟨_, rfl⟩
            have HS1 : Hid (Sx B Y wr (.slice lA ln lc) s1 ∧ Off (fun k => ¬ Y k) w1 wr ∧ s1 = comeL ss hdn2 ∧ s1.length + (namesL ks).length ≤ 900000) := Lib.hid ⟨by rw [← hs1]; exact hSr, hoY, by
              rw [← hs1, ← HH.out]
              show ss = come1 ss nm
              unfold come1
              rw [HO2, if_pos hb.symm], by rw [List.length_append] at hl2; rw [← hs1]; omega⟩
            clear hs1 hfull hb hSr hl2 HO2 hoY
            go_wp2_with fail
            go_loopw [0, 13] (fun lv iv wr => ∃ (i : Nat) (A' : Option Addr) (n' c' : Nat), i ≤ kl ∧ iv = .int .i64 (i : Int) ∧ lv = .slice A' n' c' ∧ Hid (Sx B Y wr (.slice A' n' c') (comeL s1 (namesL (ks.take i))) ∧ Off (fun k => ¬ Y k) w1 wr)) (fun _ iv _ => kl - (intOf iv).toNat)
            case atStart => exact ⟨0, _, _, _, Nat.zero_le _, rfl, rfl, Lib.hid ⟨by rw [List.take_zero, namesL]; exact HS1.out.1, HS1.out.2.1⟩⟩
            case round =>
              obtain ⟨i, A', n', c', hi, rfl, rfl, HJ⟩ := hrel
              clear x0 x1 x2 x3
              obtain ⟨x0, x1, x2, x3⟩ := HX.out wr HJ.out.2
              by_cases hli : i < kl
              · have hd : decide ((i : Int) < (kl : Int)) = true := by simpa using hli
                obtain ⟨t, ht⟩ : ∃ t, ks[i]? = some t := ⟨_, List.getElem?_eq_getElem (by rw [HI.out.1]; exact hli)⟩
                obtain ⟨ba, oa, A2, c2, eA, _, _, z0, z1, z2, z3, _, _, _, hKt⟩ := (HA.out wr HJ.out.2).1.get ht
                subst eA
                obtain ⟨tl, htl⟩ : ∃ tl, t.ks.length = tl := ⟨_, rfl⟩
                rw [htl] at z3
                have hle := namesL_le ks (i + 1)
                rw [namesL_next ht, List.length_append] at hle
                have hcl := comeL_le (namesL (ks.take i)) s1
                have hC := HI.out.2.1 t (List.mem_of_getElem? ht) A2 c2 B Y wr A' n' c' _ HJ.out.1 hKt (HA.out wr HJ.out.2).2 (by
                  have h1 := HI.out.2.2.1
                  have h2 := HS1.out.2.2.2
                  rw [List.length_append] at h1
                  omega)
                unfold Ty.val at hC
                rw [htl] at hC
                have HC := Lib.hid hC
                have HNX := Lib.hid (namesL_next ht)
                clear hC hKt htl ht hle hcl
                go_wp2_with fail
                refine HC.out.mono ?_
                rintro e w4 ⟨⟨A3, n3, c3, rfl, h4⟩, o4⟩
                have HN : Hid (Sx B Y w4 (.slice A3 n3 c3) (comeL s1 (namesL (ks.take (i + 1)))) ∧ Off (fun k => ¬ Y k) w1 w4) := Lib.hid ⟨by
                  have e : comeL s1 (namesL (ks.take (i + 1))) = comeL (comeL s1 (namesL (ks.take i))) (namesT t) := by
                    rw [HNX.out]; unfold comeL; rw [List.foldl_append]
                  rw [e]; exact h4, HJ.out.2.trans o4⟩
                clear h4 o4 HC x0 x1 x2 x3 z0 z1 z2 z3
                go_wp2_with fail
                go_roundw
                case rel => exact ⟨i + 1, A3, n3, c3, by omega, by go_num, rfl, HN⟩
                case measure => simp [intOf]; omega
              · obtain rfl : kl = i := by omega
                have hd : decide ((kl : Int) < (kl : Int)) = false := by simp
                have HP := Lib.hid (HEND.out wr _ _ HJ.out.1 HJ.out.2 (by
                  rw [List.take_of_length_le (by rw [HI.out.1]; exact Nat.le_refl _), HS1.out.2.2.1]; unfold comeL; rw [List.foldl_append]))
                go_wp2_with fail
                go_ret
                exact ⟨⟨A', n', c', rfl, HP.out.1⟩, HP.out.2⟩
          | false =>
            obtain ⟨s1, hs1⟩ : ∃ s, ss ++ [nm] = s := ⟨_, rfl⟩
            obtain ⟨w5, hal⟩ : ∃ W, wr.alloc (.cells #[.string (str nm)] 9) = W := ⟨_, rfl⟩
            obtain ⟨A5, c5, w6, hrun, hS6, hO6⟩ := hSr.app nm (by have := HROW.out.2; omega) hal
            have hll : ss.length = ln := HROW.out.2
            rw [hll] at hrun hS6
            have HS1 : Hid (Sx B Y w6 (.slice A5 (ln + 1) c5) s1 ∧ Off (fun k => ¬ Y k) w1 w6 ∧ s1 = comeL ss hdn2 ∧ s1.length + (namesL ks).length ≤ 900000) := Lib.hid ⟨by rw [← hs1]; exact hS6, hoY.trans hO6, by
              rw [← hs1, ← HH.out]
              show ss ++ [nm] = come1 ss nm
              unfold come1
              rw [HO2, if_neg (by rw [← hb]; decide)], by
              rw [List.length_append, ← HH.out] at hl2
              rw [← hs1, List.length_append]
              simp only [List.length_cons, List.length_nil] at hl2 ⊢
              omega⟩
            obtain ⟨q5, hq5⟩ : ∃ z, wr.heap.size = z := ⟨_, rfl⟩
            rw [hq5] at hrun
            have HR := Lib.hid hrun
            clear hs1 hfull hb hSr hl2 HO2 hoY hS6 hO6 hll hrun
            go_upto_region 11 with (at_builtin; refine wpList_app rfl _ _ 32 rfl _ _ _ _ rfl rfl HR.out ?_)
            clear hal hq5 HR x0 x1 x2 x3
            obtain ⟨x0, x1, x2, x3⟩ := HX.out w6 HS1.out.2.1
            go_wp2_with fail
            go_loopw [0, 13] (fun lv iv wr => ∃ (i : Nat) (A' : Option Addr) (n' c' : Nat), i ≤ kl ∧ iv = .int .i64 (i : Int) ∧ lv = .slice A' n' c' ∧ Hid (Sx B Y wr (.slice A' n' c') (comeL s1 (namesL (ks.take i))) ∧ Off (fun k => ¬ Y k) w1 wr)) (fun _ iv _ => kl - (intOf iv).toNat)
            case atStart => exact ⟨0, _, _, _, Nat.zero_le _, rfl, rfl, Lib.hid ⟨by rw [List.take_zero, namesL]; exact HS1.out.1, HS1.out.2.1⟩⟩
            case round =>
              obtain ⟨i, A', n', c', hi, rfl, rfl, HJ⟩ := hrel
              clear x0 x1 x2 x3
              obtain ⟨x0, x1, x2, x3⟩ := HX.out wr HJ.out.2
              by_cases hli : i < kl
              · have hd : decide ((i : Int) < (kl : Int)) = true := by simpa using hli
                obtain ⟨t, ht⟩ : ∃ t, ks[i]? = some t := ⟨_, List.getElem?_eq_getElem (by rw [HI.out.1]; exact hli)⟩
                obtain ⟨ba, oa, A2, c2, eA, _, _, z0, z1, z2, z3, _, _, _, hKt⟩ := (HA.out wr HJ.out.2).1.get ht
                subst eA
                obtain ⟨tl, htl⟩ : ∃ tl, t.ks.length = tl := ⟨_, rfl⟩
                rw [htl] at z3
                have hle := namesL_le ks (i + 1)
                rw [namesL_next ht, List.length_append] at hle
                have hcl := comeL_le (namesL (ks.take i)) s1
                have hC := HI.out.2.1 t (List.mem_of_getElem? ht) A2 c2 B Y wr A' n' c' _ HJ.out.1 hKt (HA.out wr HJ.out.2).2 (by
                  have h1 := HI.out.2.2.1
                  have h2 := HS1.out.2.2.2
                  rw [List.length_append] at h1
                  omega)
                unfold Ty.val at hC
                rw [htl] at hC
                have HC := Lib.hid hC
                have HNX := Lib.hid (namesL_next ht)
                clear hC hKt htl ht hle hcl
                go_wp2_with fail
                refine HC.out.mono ?_
                rintro e w4 ⟨⟨A3, n3, c3, rfl, h4⟩, o4⟩
                have HN : Hid (Sx B Y w4 (.slice A3 n3 c3) (comeL s1 (namesL (ks.take (i + 1)))) ∧ Off (fun k => ¬ Y k) w1 w4) := Lib.hid ⟨by
                  have e : comeL s1 (namesL (ks.take (i + 1))) = comeL (comeL s1 (namesL (ks.take i))) (namesT t) := by
                    rw [HNX.out]; unfold comeL; rw [List.foldl_append]
                  rw [e]; exact h4, HJ.out.2.trans o4⟩
                clear h4 o4 HC x0 x1 x2 x3 z0 z1 z2 z3
                go_wp2_with fail
                go_roundw
                case rel => exact ⟨i + 1, A3, n3, c3, by omega, by go_num, rfl, HN⟩
                case measure => simp [intOf]; omega
              · obtain rfl : kl = i := by omega
                have hd : decide ((kl : Int) < (kl : Int)) = false := by simp
                have HP := Lib.hid (HEND.out wr _ _ HJ.out.1 HJ.out.2 (by
                  rw [List.take_of_length_le (by rw [HI.out.1]; exact Nat.le_refl _), HS1.out.2.2.1]; unfold comeL; rw [List.foldl_append]))
                go_wp2_with fail
                go_ret
                exact ⟨⟨A', n', c', rfl, HP.out.1⟩, HP.out.2⟩
    | false =>
      obtain rfl : is = true := by have := HNN.out; simpa using this
      go_upto_region 6 with fail
      go_loopw [11, 12] (fun bv iv wr => ∃ (i : Nat) (b : Bool), i ≤ ln ∧ iv = .int .i64 (i : Int) ∧ bv = .bool b ∧ Hid (b = (false || decide (nm ∈ ss.take i)) ∧ Off (fun _ => False) w3 wr)) (fun _ iv _ => ln - (intOf iv).toNat)
      case atStart => exact ⟨0, _, Nat.zero_le _, rfl, rfl, Lib.hid ⟨by rw [List.take_zero]; simp, Off.refl _ _⟩⟩
      case round =>
        obtain ⟨i, b, hi, rfl, rfl, HJ⟩ := hrel
        have hoY : Off (fun k => ¬ Y k) w1 wr := HS3.out.2.trans (HJ.out.2.mono fun k _ h => h.elim)
        clear x0 x1 x2 x3
        obtain ⟨x0, x1, x2, x3⟩ := HX.out wr hoY
        by_cases hli : i < ln
        · have hd : decide ((i : Int) < (ln : Int)) = true := by simpa using hli
          obtain ⟨s, hs⟩ : ∃ s, ss[i]? = some s := ⟨_, List.getElem?_eq_getElem (by rw [HROW.out.2]; exact hli)⟩
          obtain ⟨bb, ob, eA, _, hbl, z0⟩ := HROW.out.1 i s hs
          subst eA
          have z0 : wr.cell? ⟨bb, ob + i, none⟩ = some (.string (str s)) := (World.cell?_of_block (a := ⟨bb, ob + i, none⟩) (HJ.out.2.block bb hbl id)).trans z0
          cases b with
          | true =>
            have HN : ∀ m, Hid (true = (false || decide (nm ∈ ss.take (i + 1))) ∧ Off (fun _ => False) w3 (wr.drewN m)) := fun m => Lib.hid ⟨th_keep _ _ _ _ HJ.out.1, HJ.out.2.trans (Off.drewN _ _ _)⟩
            have HN := Lib.hid HN
            clear hs hbl hoY HJ
            go_upto_region 8 with fail
            go_quiet (fail)
            go_wp2_with fail
            go_roundw
            case rel => exact ⟨i + 1, true, by omega, by go_num, rfl, HN.out _⟩
            case measure => simp [intOf]; omega
          | false =>
            obtain ⟨e, he⟩ : ∃ e, decide (s = nm) = e := ⟨_, rfl⟩
            have hse : ((str s).toList == (str nm).toList) = e := by
              rw [str_toList, str_toList, ← he]
              by_cases h : s = nm
              · rw [h]; simp
              · rw [decide_eq_false h, beq_eq_false_iff_ne]; exact h
            have HN : ∀ m, Hid (e = (false || decide (nm ∈ ss.take (i + 1))) ∧ Off (fun _ => False) w3 (wr.drewN m)) := fun m => Lib.hid ⟨by rw [← he]; exact th_step _ _ _ _ _ hs HJ.out.1, HJ.out.2.trans (Off.drewN _ _ _)⟩
            have HN := Lib.hid HN
            clear hs hbl hoY HJ he
            go_upto_region 8 with fail
            go_quiet (fail)
            go_wp2_with fail
            go_roundw
            case rel => exact ⟨i + 1, e, by omega, by go_num, rfl, HN.out _⟩
            case measure => simp [intOf]; omega
        · obtain rfl : ln = i := by omega
          have hd : decide ((ln : Int) < (ln : Int)) = false := by simp
          have hfull : ss.take ln = ss := List.take_of_length_le (by rw [HROW.out.2]; exact Nat.le_refl _)
          have hb := HJ.out.1
          rw [hfull] at hb
          have hSr : Sx B Y wr (.slice lA ln lc) ss := HS3.out.1.bel ((HJ.out.2.below (Nat.le_refl _) fun k h => h.elim)) fun k h => .inl h
          have hl2 := HI.out.2.2.1
          have HO2 := HO.out.1
          cases b with
          | true =>
            obtain ⟨s1, hs1⟩ : ∃ s, ss = s := ⟨_, rfl⟩
            have HS1 : Hid (Sx B Y wr (.slice lA ln lc) s1 ∧ Off (fun k => ¬ Y k) w1 wr ∧ s1 = comeL ss hdn2 ∧ s1.length + (namesL ks).length ≤ 900000) := Lib.hid ⟨by rw [← hs1]; exact hSr, hoY, by
              rw [← hs1, ← HH.out]
              show ss = come1 ss nm
              unfold come1
              rw [HO2, if_pos hb.symm], by rw [List.length_append] at hl2; rw [← hs1]; omega⟩
            clear hs1 hfull hb hSr hl2 HO2 hoY
            go_wp2_with fail
            go_loopw [0, 13] (fun lv iv wr => ∃ (i : Nat) (A' : Option Addr) (n' c' : Nat), i ≤ kl ∧ iv = .int .i64 (i : Int) ∧ lv = .slice A' n' c' ∧ Hid (Sx B Y wr (.slice A' n' c') (comeL s1 (namesL (ks.take i))) ∧ Off (fun k => ¬ Y k) w1 wr)) (fun _ iv _ => kl - (intOf iv).toNat)
            case atStart => exact ⟨0, _, _, _, Nat.zero_le _, rfl, rfl, Lib.hid ⟨by rw [List.take_zero, namesL]; exact HS1.out.1, HS1.out.2.1⟩⟩
            case round =>
              obtain ⟨i, A', n', c', hi, rfl, rfl, HJ⟩ := hrel
              clear x0 x1 x2 x3
              obtain ⟨x0, x1, x2, x3⟩ := HX.out wr HJ.out.2
              by_cases hli : i < kl
              · have hd : decide ((i : Int) < (kl : Int)) = true := by simpa using hli
                obtain ⟨t, ht⟩ : ∃ t, ks[i]? = some t := ⟨_, List.getElem?_eq_getElem (by rw [HI.out.1]; exact hli)⟩
                obtain ⟨ba, oa, A2, c2, eA, _, _, z0, z1, z2, z3, _, _, _, hKt⟩ := (HA.out wr HJ.out.2).1.get ht
                subst eA
                obtain ⟨tl, htl⟩ : ∃ tl, t.ks.length = tl := ⟨_, rfl⟩
                rw [htl] at z3
                have hle := namesL_le ks (i + 1)
                rw [namesL_next ht, List.length_append] at hle
                have hcl := comeL_le (namesL (ks.take i)) s1
                have hC := HI.out.2.1 t (List.mem_of_getElem? ht) A2 c2 B Y wr A' n' c' _ HJ.out.1 hKt (HA.out wr HJ.out.2).2 (by
                  have h1 := HI.out.2.2.1
                  have h2 := HS1.out.2.2.2
                  rw [List.length_append] at h1
                  omega)
                unfold Ty.val at hC
                rw [htl] at hC
                have HC := Lib.hid hC
                have HNX := Lib.hid (namesL_next ht)
                clear hC hKt htl ht hle hcl
                go_wp2_with fail
                refine HC.out.mono ?_
                rintro e w4 ⟨⟨A3, n3, c3, rfl, h4⟩, o4⟩
                have HN : Hid (Sx B Y w4 (.slice A3 n3 c3) (comeL s1 (namesL (ks.take (i + 1)))) ∧ Off (fun k => ¬ Y k) w1 w4) := Lib.hid ⟨by
                  have e : comeL s1 (namesL (ks.take (i + 1))) = comeL (comeL s1 (namesL (ks.take i))) (namesT t) := by
                    rw [HNX.out]; unfold comeL; rw [List.foldl_append]
                  rw [e]; exact h4, HJ.out.2.trans o4⟩
                clear h4 o4 HC x0 x1 x2 x3 z0 z1 z2 z3
                go_wp2_with fail
                go_roundw
                case rel => exact ⟨i + 1, A3, n3, c3, by omega, by go_num, rfl, HN⟩
                case measure => simp [intOf]; omega
              · obtain rfl : kl = i := by omega
                have hd : decide ((kl : Int) < (kl : Int)) = false := by simp
                have HP := Lib.hid (HEND.out wr _ _ HJ.out.1 HJ.out.2 (by
                  rw [List.take_of_length_le (by rw [HI.out.1]; exact Nat.le_refl _), HS1.out.2.2.1]; unfold comeL; rw [List.foldl_append]))
                go_wp2_with fail
                go_ret
                exact ⟨⟨A', n', c', rfl, HP.out.1⟩, HP.out.2⟩
          | false =>
            obtain ⟨s1, hs1⟩ : ∃ s, ss ++ [nm] = s := ⟨_, rfl⟩
            obtain ⟨w5, hal⟩ : ∃ W, wr.alloc (.cells #[.string (str nm)] 9) = W := ⟨_, rfl⟩
            obtain ⟨A5, c5, w6, hrun, hS6, hO6⟩ := hSr.app nm (by have := HROW.out.2; omega) hal
            have hll : ss.length = ln := HROW.out.2
            rw [hll] at hrun hS6
            have HS1 : Hid (Sx B Y w6 (.slice A5 (ln + 1) c5) s1 ∧ Off (fun k => ¬ Y k) w1 w6 ∧ s1 = comeL ss hdn2 ∧ s1.length + (namesL ks).length ≤ 900000) := Lib.hid ⟨by rw [← hs1]; exact hS6, hoY.trans hO6, by
              rw [← hs1, ← HH.out]
              show ss ++ [nm] = come1 ss nm
              unfold come1
              rw [HO2, if_neg (by rw [← hb]; decide)], by
              rw [List.length_append, ← HH.out] at hl2
              rw [← hs1, List.length_append]
              simp only [List.length_cons, List.length_nil] at hl2 ⊢
              omega⟩
            obtain ⟨q5, hq5⟩ : ∃ z, wr.heap.size = z := ⟨_, rfl⟩
            rw [hq5] at hrun
            have HR := Lib.hid hrun
            clear hs1 hfull hb hSr hl2 HO2 hoY hS6 hO6 hll hrun
            go_upto_region 11 with (at_builtin; refine wpList_app rfl _ _ 32 rfl _ _ _ _ rfl rfl HR.out ?_)
            clear hal hq5 HR x0 x1 x2 x3
            obtain ⟨x0, x1, x2, x3⟩ := HX.out w6 HS1.out.2.1
            go_wp2_with fail
            go_loopw [0, 13] (fun lv iv wr => ∃ (i : Nat) (A' : Option Addr) (n' c' : Nat), i ≤ kl ∧ iv = .int .i64 (i : Int) ∧ lv = .slice A' n' c' ∧ Hid (Sx B Y wr (.slice A' n' c') (comeL s1 (namesL (ks.take i))) ∧ Off (fun k => ¬ Y k) w1 wr)) (fun _ iv _ => kl - (intOf iv).toNat)
            case atStart => exact ⟨0, _, _, _, Nat.zero_le _, rfl, rfl, Lib.hid ⟨by rw [List.take_zero, namesL]; exact HS1.out.1, HS1.out.2.1⟩⟩
            case round =>
              obtain ⟨i, A', n', c', hi, rfl, rfl, HJ⟩ := hrel
              clear x0 x1 x2 x3
              obtain ⟨x0, x1, x2, x3⟩ := HX.out wr HJ.out.2
              by_cases hli : i < kl
              · have hd : decide ((i : Int) < (kl : Int)) = true := by simpa using hli
                obtain ⟨t, ht⟩ : ∃ t, ks[i]? = some t := ⟨_, List.getElem?_eq_getElem (by rw [HI.out.1]; exact hli)⟩
                obtain ⟨ba, oa, A2, c2, eA, _, _, z0, z1, z2, z3, _, _, _, hKt⟩ := (HA.out wr HJ.out.2).1.get ht
                subst eA
                obtain ⟨tl, htl⟩ : ∃ tl, t.ks.length = tl := ⟨_, rfl⟩
                rw [htl] at z3
                have hle := namesL_le ks (i + 1)
                rw [namesL_next ht, List.length_append] at hle
                have hcl := comeL_le (namesL (ks.take i)) s1
                have hC := HI.out.2.1 t (List.mem_of_getElem? ht) A2 c2 B Y wr A' n' c' _ HJ.out.1 hKt (HA.out wr HJ.out.2).2 (by
                  have h1 := HI.out.2.2.1
                  have h2 := HS1.out.2.2.2
                  rw [List.length_append] at h1
                  omega)
                unfold Ty.val at hC
                rw [htl] at hC
                have HC := Lib.hid hC
                have HNX := Lib.hid (namesL_next ht)
                clear hC hKt htl ht hle hcl
                go_wp2_with fail
                refine HC.out.mono ?_
                rintro e w4 ⟨⟨A3, n3, c3, rfl, h4⟩, o4⟩
                have HN : Hid (Sx B Y w4 (.slice A3 n3 c3) (comeL s1 (namesL (ks.take (i + 1)))) ∧ Off (fun k => ¬ Y k) w1 w4) := Lib.hid ⟨by
                  have e : comeL s1 (namesL (ks.take (i + 1))) = comeL (comeL s1 (namesL (ks.take i))) (namesT t) := by
                    rw [HNX.out]; unfold comeL; rw [List.foldl_append]
                  rw [e]; exact h4, HJ.out.2.trans o4⟩
                clear h4 o4 HC x0 x1 x2 x3 z0 z1 z2 z3
                go_wp2_with fail
                go_roundw
                case rel => exact ⟨i + 1, A3, n3, c3, by omega, by go_num, rfl, HN⟩
                case measure => simp [intOf]; omega
              · obtain rfl : kl = i := by omega
                have hd : decide ((kl : Int) < (kl : Int)) = false := by simp
                have HP := Lib.hid (HEND.out wr _ _ HJ.out.1 HJ.out.2 (by
                  rw [List.take_of_length_le (by rw [HI.out.1]; exact Nat.le_refl _), HS1.out.2.2.1]; unfold comeL; rw [List.foldl_append]))
                go_wp2_with fail
                go_ret
                exact ⟨⟨A', n', c', rfl, HP.out.1⟩, HP.out.2⟩
  · have e2 : ((k : Int) == 2) = false := by rw [beq_eq_false_iff_ne]; omega
    obtain ⟨s1, hs1⟩ : ∃ s, ss = s := ⟨_, rfl⟩
    have HS1 : Hid (Sx B Y w1 (.slice lA ln lc) s1 ∧ Off (fun k => ¬ Y k) w1 w1 ∧ s1 = comeL ss hdn2 ∧ s1.length + (namesL ks).length ≤ 900000) := Lib.hid ⟨by rw [← hs1]; exact HI.out.2.2.2.2.1, Off.refl _ _, by rw [← hs1, ← HI.out.2.2.2.1, if_neg h2]; rfl, by have h1 := HI.out.2.2.1; rw [List.length_append] at h1; rw [← hs1]; omega⟩
    clear hs1 h2 hk24
    go_wp2_with fail
    go_loopw [0, 13] (fun lv iv wr => ∃ (i : Nat) (A' : Option Addr) (n' c' : Nat), i ≤ kl ∧ iv = .int .i64 (i : Int) ∧ lv = .slice A' n' c' ∧ Hid (Sx B Y wr (.slice A' n' c') (comeL s1 (namesL (ks.take i))) ∧ Off (fun k => ¬ Y k) w1 wr)) (fun _ iv _ => kl - (intOf iv).toNat)
    case atStart => exact ⟨0, _, _, _, Nat.zero_le _, rfl, rfl, Lib.hid ⟨by rw [List.take_zero, namesL]; exact HS1.out.1, HS1.out.2.1⟩⟩
    case round =>
      obtain ⟨i, A', n', c', hi, rfl, rfl, HJ⟩ := hrel
      clear x0 x1 x2 x3
      obtain ⟨x0, x1, x2, x3⟩ := HX.out wr HJ.out.2
      by_cases hli : i < kl
      · have hd : decide ((i : Int) < (kl : Int)) = true := by simpa using hli
        obtain ⟨t, ht⟩ : ∃ t, ks[i]? = some t := ⟨_, List.getElem?_eq_getElem (by rw [HI.out.1]; exact hli)⟩
        obtain ⟨ba, oa, A2, c2, eA, _, _, z0, z1, z2, z3, _, _, _, hKt⟩ := (HA.out wr HJ.out.2).1.get ht
        subst eA
        obtain ⟨tl, htl⟩ : ∃ tl, t.ks.length = tl := ⟨_, rfl⟩
        rw [htl] at z3
        have hle := namesL_le ks (i + 1)
        rw [namesL_next ht, List.length_append] at hle
        have hcl := comeL_le (namesL (ks.take i)) s1
        have hC := HI.out.2.1 t (List.mem_of_getElem? ht) A2 c2 B Y wr A' n' c' _ HJ.out.1 hKt (HA.out wr HJ.out.2).2 (by
          have h1 := HI.out.2.2.1
          have h2 := HS1.out.2.2.2
          rw [List.length_append] at h1
          omega)
        unfold Ty.val at hC
        rw [htl] at hC
        have HC := Lib.hid hC
        have HNX := Lib.hid (namesL_next ht)
        clear hC hKt htl ht hle hcl
        go_wp2_with fail
        refine HC.out.mono ?_
        rintro e w4 ⟨⟨A3, n3, c3, rfl, h4⟩, o4⟩
        have HN : Hid (Sx B Y w4 (.slice A3 n3 c3) (comeL s1 (namesL (ks.take (i + 1)))) ∧ Off (fun k => ¬ Y k) w1 w4) := Lib.hid ⟨by
          have e : comeL s1 (namesL (ks.take (i + 1))) = comeL (comeL s1 (namesL (ks.take i))) (namesT t) := by
            rw [HNX.out]; unfold comeL; rw [List.foldl_append]
          rw [e]; exact h4, HJ.out.2.trans o4⟩
        clear h4 o4 HC x0 x1 x2 x3 z0 z1 z2 z3
        go_wp2_with fail
        go_roundw
        case rel => exact ⟨i + 1, A3, n3, c3, by omega, by go_num, rfl, HN⟩
        case measure => simp [intOf]; omega
      · obtain rfl : kl = i := by omega
        have hd : decide ((kl : Int) < (kl : Int)) = false := by simp
        have HP := Lib.hid (HEND.out wr _ _ HJ.out.1 HJ.out.2 (by
          rw [List.take_of_length_le (by rw [HI.out.1]; exact Nat.le_refl _), HS1.out.2.2.1]; unfold comeL; rw [List.foldl_append]))
        go_wp2_with fail
        go_ret
        exact ⟨⟨A', n', c', rfl, HP.out.1⟩, HP.out.2⟩
end Go.Proofs.YtadogebhkldeiaaGreatDoor
