/- stamp, numbers too: text. -/
import Derived.Test.YtadogebhkldeiaaGreatDoorZC
namespace Go.Proofs.YtadogebhkldeiaaGreatDoor
open Go.RowKit Ty
set_option linter.unusedVariables false
set_option linter.unusedSimpArgs false
attribute [local go_sem] Oper.semAt_some
theorem str_append (a b : List UInt8) : str a ++ str b = str (a ++ b) := by
  apply ByteArray.ext
  simp [str, ByteArray.append]
theorem nodup_le {α : Type} [DecidableEq α] : ∀ (l m : List α), l.Nodup → (∀ x ∈ l, x ∈ m) → l.length ≤ m.length
  | [], m, _, _ => Nat.zero_le _
  | a :: l, m, hn, h => by
    rw [List.nodup_cons] at hn
    have ha := h a (List.mem_cons_self ..)
    have h1 := nodup_le l (m.erase a) hn.2 fun x hx => (List.mem_erase_of_ne (fun e : x = a => hn.1 (e ▸ hx))).2 (h x (List.mem_cons_of_mem _ hx))
    rw [List.length_erase_of_mem ha] at h1
    have := List.length_pos_of_mem ha
    rw [List.length_cons]
    omega
/-- The names that came are datatypes', each once. -/
structure Nv (D : List UInt8 → Option Dc) (L : List (List UInt8)) : Prop where
  len : ∀ x ∈ L, x.length ≤ maxLen
  nd : L.Nodup
  in_ : ∀ x ∈ L, (D x).isSome = true
theorem Nv.one {D : List UInt8 → Option Dc} {L : List (List UInt8)} (h : Nv D L) {x : List UInt8} (hl : x.length ≤ maxLen) (hx : (ownN x).2 = false → (D x).isSome = true) : Nv D (come1 L x) := by
  unfold come1
  by_cases e : ((ownN x).2 || decide (x ∈ L)) = true
  · rw [if_pos e]; exact h
  · rw [if_neg e]
    simp only [Bool.or_eq_true, decide_eq_true_eq, not_or, Bool.not_eq_true] at e
    refine ⟨fun y hy => ?_, ?_, fun y hy => ?_⟩
    · rcases List.mem_append.1 hy with hy | hy
      · exact h.len y hy
      · rw [List.mem_singleton.1 hy]; exact hl
    · rw [List.nodup_append]
      refine ⟨h.nd, by simp, ?_⟩
      intro a ha b hb e2
      rw [List.mem_singleton.1 hb] at e2
      exact e.2 (e2 ▸ ha)
    · rcases List.mem_append.1 hy with hy | hy
      · exact h.in_ y hy
      · rw [List.mem_singleton.1 hy]; exact hx e.1
theorem Nv.all {D : List UInt8 → Option Dc} : ∀ (ns L : List (List UInt8)), Nv D L → (∀ x ∈ ns, x.length ≤ maxLen) → (∀ x ∈ ns, (ownN x).2 = false → (D x).isSome = true) → Nv D (comeL L ns)
  | [], L, h, _, _ => h
  | x :: ns, L, h, h1, h2 => Nv.all ns (come1 L x) (h.one (h1 x (List.mem_cons_self ..)) (h2 x (List.mem_cons_self ..))) (fun y hy => h1 y (List.mem_cons_of_mem _ hy)) (fun y hy => h2 y (List.mem_cons_of_mem _ hy))
theorem keptBs_get {D : List UInt8 → Option Dc} {vs : List (List UInt8)} : ∀ {ts : List Ty} {t : Ty}, keptBs D vs ts = true → t ∈ ts → keptB D vs t = true
  | u :: ts, t, h, hm => by
    rw [keptBs, Bool.and_eq_true] at h
    rcases List.mem_cons.1 hm with rfl | hm
    · exact h.1
    · exact keptBs_get h.2 hm
theorem kept_names {D : List UInt8 → Option Dc} {vs : List (List UInt8)} : ∀ t : Ty, keptB D vs t = true → ∀ x ∈ namesT t, (ownN x).2 = false → (D x).isSome = true := Ty.ind fun k nm n ks ih h x hx ho => by
  rw [keptB_eq] at h
  rw [namesT_eq] at hx
  by_cases h1 : k = 1
  · have hx : x ∈ (if k = 2 then [nm] else []) ++ (if k = 2 ∨ k = 4 then namesL ks else []) := hx
    rw [if_neg (by omega), if_neg (by omega)] at hx
    cases hx
  · rw [if_neg h1, Bool.and_eq_true] at h
    rcases List.mem_append.1 hx with hx | hx
    · by_cases h2 : k = 2
      · have hx : x ∈ (if k = 2 then [nm] else []) := hx
        rw [if_pos h2, List.mem_singleton] at hx
        subst hx
        have h3 := h.1
        unfold hdK at h3
        rw [if_neg (by omega), if_pos h2, decide_eq_true_eq] at h3
        unfold ar at h3
        rw [ho] at h3
        cases hd : D x with
        | none => rw [hd] at h3; cases h3
        | some d => rfl
      · have hx : x ∈ (if k = 2 then [nm] else []) := hx
        rw [if_neg h2] at hx; cases hx
    · have hx : x ∈ (if k = 2 ∨ k = 4 then namesL ks else []) := hx
      split at hx
      · obtain ⟨t, ht, hx⟩ := namesL_mem hx
        exact ih t ht (keptBs_get h.2 ht) x hx ho
      · cases hx
theorem come1_ge (L : List (List UInt8)) (x : List UInt8) : L.length ≤ (come1 L x).length := by
  unfold come1
  split
  · exact Nat.le_refl _
  · rw [List.length_append]; omega
theorem comeL_ge : ∀ (ns L : List (List UInt8)), L.length ≤ (comeL L ns).length
  | [], L => Nat.le_refl _
  | x :: ns, L => Nat.le_trans (come1_ge L x) (comeL_ge ns (come1 L x))
/-- A datatype's constructors' names come. -/
def consS (D : List UInt8 → Option Dc) (vs : List (List UInt8)) : List Cn → List (List UInt8) → Option (List (List UInt8))
  | [], L => some L
  | c :: cs, L => if c.has = true then (if keptB D vs c.ty = true then consS D vs cs (comeL L (namesT c.ty)) else none) else consS D vs cs L
def addT (tx : List UInt8) (d : Dc) : List UInt8 := if tx.length ≤ 200 then tx ++ ([59, 32] ++ decT d) else tx
def textF (D : List UInt8 → Option Dc) : Nat → Nat → List (List UInt8) → List UInt8 → Option (List UInt8)
  | 0, _, _, _ => none
  | f + 1, i, L, tx => match L[i]? with
    | none => some tx
    | some nm => match consS D ((D nm).getD zDc).vs ((D nm).getD zDc).cs L with
      | none => none
      | some L' => textF D f (i + 1) L' (addT tx ((D nm).getD zDc))
def resT (D : List UInt8 → Option Dc) (N0 : Nat) (t : Ty) : Option (List UInt8) := if keptB D [] t = true then textF D (N0 + 1) 0 (comeL [] (namesT t)) (tyT t) else none
def resV (e0 : Addr) : Option (List UInt8) → Value
  | some tx => .tuple #[.string (str tx), .nilIface]
  | none => .tuple #[.string ⟨#[]⟩, errv e0]
/-- What datatypes must be. -/
structure Dok (D : List UInt8 → Option Dc) (d : Dc) : Prop where
  k1 : d.k = 1
  vs : d.vs.length ≤ 2000000
  cs : d.cs.length ≤ 1000000
  ty : ∀ c ∈ d.cs, c.has = true → sml c.ty = true ∧ (namesT c.ty).length < 400000
  pr : ∀ c ∈ d.cs, c.has = true → keptB D d.vs c.ty = true → pr c.ty = true
  tx : (decT d).length < 4294967295
set_option maxRecDepth 100000 in
set_option maxHeartbeats 8000000 in
theorem text_any (D : List UInt8 → Option Dc) (N bm : Nat) (e0 : Addr) (N0 : Nat) (hN0 : N0 ≤ 400000) (hfin : ∃ dom : List (List UInt8), dom.length ≤ N0 ∧ ∀ x, (D x).isSome = true → x ∈ dom) (hD : ∀ nm d, D nm = some d → Dok D d) (t : Ty) (A : Option Addr) (c : Nat) (hnl : t.nm.length ≤ maxLen) (hsm : sml t = true) (hnt : (namesT t).length < 400000) (hpr : keptB D [] t = true → pr t = true) (hty : (tyT t).length < 4294967295)
    (w : World) (hbk : Bk w bm N D e0) (hK : ∀ nm d, D nm = some d → d.K (fun k => k < w.heap.size) w) (hT : Ty.At (fun k => k < w.heap.size) w A t.ks) :
    Calls Tryz.prog 12 #[.agg #[.map (some bm)], t.val A c] w fun e w' => e = .returned (resV e0 (resT D N0 t)) ∧ Below w.heap.size w w' := by
  obtain ⟨R, hR⟩ : ∃ r, resT D N0 t = r := ⟨_, rfl⟩
  rw [hR]
  obtain ⟨k, nm, n, ks⟩ := t
  have hT : Ty.At (fun k => k < w.heap.size) w A ks := hT
  obtain ⟨kl, hkl⟩ : ∃ kl, ks.length = kl := ⟨_, rfl⟩
  show Calls Tryz.prog 12 #[.agg #[.map (some bm)], .agg #[.int .u8 (k : Int), .string (str nm), .int .i64 n, .slice A ks.length c]] w fun e w' => e = .returned (resV e0 R) ∧ Below w.heap.size w w'
  rw [hkl]
  obtain ⟨q, hq⟩ : ∃ q, w.heap.size = q := ⟨_, rfl⟩
  obtain ⟨w1, hw1⟩ : ∃ W, w.alloc (.cells #[.map (some bm)] 49) = W := ⟨_, rfl⟩
  have hb1 : Below w.heap.size w w1 := by rw [← hw1]; exact (Below.refl _ _).alloc (Nat.le_refl _) _
  have hB1 : Blk w1 w.heap.size 49 #[.map (some bm)] := by rw [← hw1]; exact Blk.new _ _ _
  obtain ⟨w2, hw2⟩ : ∃ W, w1.alloc (.cells #[.int .u8 (k : Int), .string (str nm), .int .i64 n, .slice A kl c] 24) = W := ⟨_, rfl⟩
  have hb2 : Below w1.heap.size w1 w2 := by rw [← hw2]; exact (Below.refl _ _).alloc (Nat.le_refl _) _
  have hB2 : Blk w2 w1.heap.size 24 #[.int .u8 (k : Int), .string (str nm), .int .i64 n, .slice A kl c] := by rw [← hw2]; exact Blk.new _ _ _
  obtain ⟨w3, hw3⟩ : ∃ W, w2.alloc (.cells #[.slice none 0 0] 32) = W := ⟨_, rfl⟩
  have hb3 : Below w2.heap.size w2 w3 := by rw [← hw3]; exact (Below.refl _ _).alloc (Nat.le_refl _) _
  have hB3 : Blk w3 w2.heap.size 32 #[.slice none 0 0] := by rw [← hw3]; exact Blk.new _ _ _
  obtain ⟨w4, hw4⟩ : ∃ W, w3.alloc (.map #[] 0) = W := ⟨_, rfl⟩
  have hb4 : Below w3.heap.size w3 w4 := by rw [← hw4]; exact (Below.refl _ _).alloc (Nat.le_refl _) _
  have hm4 : SMap w4 w3.heap.size 0 (fun _ => none) := by rw [← hw4]; exact SMap.made w3
  have hn1 : w1.heap.size = q + 1 := by rw [← hw1, ← hq]; simp
  have hn2 : w2.heap.size = q + 2 := by rw [← hw2]; simp [hn1]
  have hn3 : w3.heap.size = q + 3 := by rw [← hw3]; simp [hn2]
  have hn4 : w4.heap.size = q + 4 := by rw [← hw4]; simp [hn3]
  obtain ⟨q1, hq1⟩ : ∃ z, q + 1 = z := ⟨_, rfl⟩
  obtain ⟨q2, hq2⟩ : ∃ z, q1 + 1 = z := ⟨_, rfl⟩
  obtain ⟨q3, hq3⟩ : ∃ z, q2 + 1 = z := ⟨_, rfl⟩
  obtain ⟨q4, hq4⟩ : ∃ z, q3 + 1 = z := ⟨_, rfl⟩
  rw [hq] at hB1
  rw [hq1] at hn1
  replace hn2 : w2.heap.size = q2 := by omega
  replace hn3 : w3.heap.size = q3 := by omega
  replace hn4 : w4.heap.size = q4 := by omega
  rw [hn1] at hB2
  rw [hn2] at hB3
  rw [hn3] at hm4
  obtain ⟨w5, hw5⟩ : ∃ W, w4.alloc (.cells #[.map (some q3)] 62) = W := ⟨_, rfl⟩
  have hb5 : Below w4.heap.size w4 w5 := by rw [← hw5]; exact (Below.refl _ _).alloc (Nat.le_refl _) _
  have hB5 : Blk w5 w4.heap.size 62 #[.map (some q3)] := by rw [← hw5]; exact Blk.new _ _ _
  rw [hn4] at hB5
  have h45 : Below w3.heap.size w3 w5 := hb4.trans (hb5.mono hb4.size)
  have h35 : Below w2.heap.size w2 w5 := hb3.trans (h45.mono hb3.size)
  have h25 : Below w1.heap.size w1 w5 := hb2.trans (h35.mono hb2.size)
  have h05 : Below w.heap.size w w5 := hb1.trans (h25.mono hb1.size)
  have hB15 := hB1.below h25 hB1.lt
  have hB25 := hB2.below h35 hB2.lt
  have hB35 := hB3.below h45 hB3.lt
  have hl5 := hB5.lt
  obtain ⟨Z, hZ⟩ : ∃ Z : Nat → Prop, Z = fun k => k < q ∨ k = q ∨ k = q1 ∨ k = q4 := ⟨_, rfl⟩
  have hglt := World.block_lt_of_cell? w _ hbk.err
  have hCh : Ch q Z q2 q4 q3 q bm N D e0 [] w5 := by
    refine ⟨⟨none, 0, 0, hB35, by omega, rfl, World.ownsRow_nil _ _ _ _, (by intro h; cases h), fun k hk => ?_⟩, ?_, ?_, hB5.cell 0, hB15.cell 0, hbk.bel h05, ?_⟩
    · rw [hZ] at hk
      exact ⟨by omega, by omega, by intro h; cases h⟩
    · have e : seenS [] = fun _ => none := by funext s; simp [seenS]
      rw [e]
      exact hm4.bel hb5
    · rw [hZ]; omega
    · rw [hZ]
      have := hbk.map.lt
      exact ⟨.inr (.inr (.inr rfl)), .inr (.inl rfl), .inl (by omega), .inl (by rw [← hq]; exact hglt), .inl (by rw [← hq]; exact hbk.num.low1), .inl (by rw [← hq]; exact hbk.num.low2)⟩
  have hwZ : ∀ b, b < w.heap.size → Z b := fun b hb => by rw [hZ]; exact .inl (by omega)
  have HE : Hid (∀ W, Off (fun k => ¬ Z k) w5 W → Below w.heap.size w W) := Lib.hid fun W h => h05.trans (h.below h05.size fun k hk => by rw [hZ] at hk; omega)
  have hT5 : ∀ W, Off (fun k => ¬ Z k) w5 W → Ty.At Z W A ks := fun W h => ((hT.bel h05).mono hwZ).off h fun b h1 h2 => h2 h1
  have hK5 : ∀ nm d, D nm = some d → ∀ W, Off (fun k => ¬ Z k) w5 W → d.K Z W := fun nm d e W h => (((hK nm d e).off (Off.of_new h05 (fun k => ¬ Z k)) fun b h1 h2 => h2 (hwZ b h1)).mono hwZ).off h fun b h1 h2 => h2 h1
  have HX : Hid (∀ W, Off (fun k => ¬ Z k) w5 W → W.cell? ⟨q1, 0, none⟩ = some (.int .u8 (k : Int)) ∧ W.cell? ⟨q1, 1, none⟩ = some (.string (str nm)) ∧ W.cell? ⟨q1, 2, none⟩ = some (.int .i64 n) ∧ W.cell? ⟨q1, 3, none⟩ = some (.slice A kl c)) := Lib.hid fun W hW => by
    have h := hB25.off hW (fun h => h (by rw [hZ]; exact .inr (.inr (.inl rfl))))
    exact ⟨h.cell 0, h.cell 1, h.cell 2, h.cell 3⟩
  have hC1 := come_any q Z q2 q4 q3 q bm N D e0 [] w5 hCh [] none 0 0 rfl (by omega) (fun r s h => by simp at h) (.node k nm n ks) A c hnl hsm (hT5 w5 (Off.refl _ _)) (by rw [List.length_nil]; omega)
  have hnames := namesT_len (t := .node k nm n ks) hnl hT
  have hkn := fun h => kept_names (D := D) (vs := []) (.node k nm n ks) h
  obtain ⟨nt, hnt2⟩ : ∃ nt, namesT (.node k nm n ks) = nt := ⟨_, rfl⟩
  obtain ⟨tx0, htx0⟩ : ∃ tx, tyT (.node k nm n ks) = tx := ⟨_, rfl⟩
  have hPT : ∀ W, keptB D [] (.node k nm n ks) = true → Off (fun k => ¬ Z k) w5 W → Calls Tryz.prog 23 #[.agg #[.int .u8 (k : Int), .string (str nm), .int .i64 n, .slice A ks.length c]] W fun e w' => e = .returned (.string (str (tyT (.node k nm n ks)))) ∧ Below W.heap.size W w' := fun W h1 h2 => printTy_any (.node k nm n ks) (hpr h1) A c W ((hbk.num.bel (HE.out W h2)).up (HE.out W h2).size) ((hT5 W h2).mono fun b hb => Nat.lt_of_lt_of_le (hCh.lt hb) h2.size) hty
  rw [htx0] at hPT hty
  unfold resT at hR
  rw [hnt2, htx0] at hR
  rw [hnt2] at hnames hkn
  obtain ⟨kb, hkb⟩ : ∃ b, keptB D [] (.node k nm n ks) = b := ⟨_, rfl⟩
  rw [hkb] at hC1 hPT hR hkn
  rw [hnt2] at hC1
  obtain ⟨ev, hev⟩ : ∃ v, (if kb = true then Value.nilIface else errv e0) = v := ⟨_, rfl⟩
  rw [hev] at hC1
  change Calls Tryz.prog 19 #[.agg #[.int .u8 (k : Int), .string (str nm), .int .i64 n, .slice A ks.length c], .slice none 0 0, .pointer (some ⟨q, 0, none⟩), .pointer (some ⟨q4, 0, none⟩), .pointer (some ⟨q2, 0, none⟩)] w5 (fun e w' => e = .returned ev ∧ Ch q Z q2 q4 q3 q bm N D e0 (if kb = true then comeL [] nt else []) w' ∧ Off (fun k => ¬ Z k) w5 w') at hC1
  rw [hkl] at hC1 hPT
  have HC1 := Lib.hid hC1
  have HPT := Lib.hid hPT
  have HR := Lib.hid hR
  have HEV := Lib.hid hev
  have HNT := Lib.hid (And.intro hnames (And.intro hkn hty))
  have HD := Lib.hid hD
  have HK5 := Lib.hid hK5
  have HZ : Hid (∀ L : List (List UInt8), Nv D L → L.length ≤ N0) := Lib.hid fun L h => by
    obtain ⟨dom, h1, h2⟩ := hfin
    exact Nat.le_trans (nodup_le L dom h.nd fun x hx => h2 x (h.in_ x hx)) h1
  obtain ⟨x0, x1, x2, x3⟩ := HX.out w5 (Off.refl _ _)
  have hif := isIfaceErr
  have HW := Lib.hid (And.intro hw1 (And.intro hq (And.intro hw2 (And.intro hq1 (And.intro hw3 (And.intro hq2 (And.intro hw4 (And.intro hq3 (And.intro hq4 (And.intro hw5 hn3))))))))))
  have hmm := @run_makeMap Tryz.prog
  clear hbk hK hT hnl hsm hnt hpr hty hR hkl hq hw1 hb1 hB1 hw2 hb2 hB2 hw3 hb3 hB3 hw4 hb4 hm4 hn1 hn2 hn3 hn4 hq1 hq2 hq3 hq4 hw5 hb5 hB5 h45 h35 h25 h05 hB15 hB25 hB35 hl5 hZ hglt hCh hwZ hT5 hK5 hC1 hnames hkn hnt2 htx0 hPT hkb hev hfin hD
  go_enter Tryz.func12, Tryz.ntmps12
  go_upto_region 2 with fail
  (try rw [HW.out.1])
  (try rw [HW.out.2.1])
  (try rw [HW.out.2.2.1])
  (try rw [HW.out.2.2.2.1])
  (try rw [HW.out.2.2.2.2.1])
  (try rw [HW.out.2.2.2.2.2.1])
  go_upto_region 3 with fail
  (try rw [HW.out.2.2.2.2.2.2.1])
  (try rw [HW.out.2.2.2.2.2.2.2.2.2.2])
  (try rw [HW.out.2.2.2.2.2.2.2.1])
  (try rw [HW.out.2.2.2.2.2.2.2.2.1])
  (try rw [HW.out.2.2.2.2.2.2.2.2.2.1])
  go_wp2_with fail
  refine HC1.out.mono ?_
  rintro e w6 ⟨rfl, hCh6, ho6⟩
  clear HC1 HW x0 x1 x2 x3 hmm
  cases kb with
  | false =>
    obtain rfl : Value.iface 161 (.pointer (some e0)) = ev := by simpa [errv] using HEV.out
    obtain rfl : none = R := by simpa using HR.out
    have HP := Lib.hid (HE.out w6 ho6)
    clear hCh6 ho6
    go_wp2_with fail
    go_ret2
    exact ⟨rfl, HP.out⟩
  | true =>
    obtain rfl : Value.nilIface = ev := by simpa using HEV.out
    obtain ⟨x0, x1, x2, x3⟩ := HX.out w6 ho6
    have HPT6 := Lib.hid (HPT.out w6 rfl ho6)
    have HS6 := Lib.hid (And.intro hCh6 ho6)
    clear hCh6 ho6 HPT
    go_wp2_with fail
    refine HPT6.out.mono ?_
    rintro e w7 ⟨rfl, hb7⟩
    have hCh7 : Ch q Z q2 q4 q3 q bm N D e0 (comeL [] nt) w7 := HS6.out.1.bel hb7 (fun _ h => h) (fun _ h => .inl h)
    have ho7 : Off (fun k => ¬ Z k) w5 w7 := HS6.out.2.trans (Off.of_new hb7 _)
    have hNv : Nv D (comeL [] nt) := Nv.all nt [] ⟨(by intro x h; cases h), List.nodup_nil, (by intro x h; cases h)⟩ HNT.out.1 (HNT.out.2.1 (by simp))
    have HS7 := Lib.hid (And.intro hCh7 (And.intro ho7 hNv))
    clear hb7 hCh7 ho7 hNv HPT6 HS6 x0 x1 x2 x3
    go_wp2_with fail
    go_loopw [10, 11] (fun v10 v11 wr => ∃ (i : Nat) (tx : List UInt8) (L : List (List UInt8)), i ≤ N0 ∧ v10 = .string (str tx) ∧ v11 = .int .i64 (i : Int) ∧ tx.length ≤ 8589934590 ∧ Hid (Ch q Z q2 q4 q3 q bm N D e0 L wr ∧ Off (fun k => ¬ Z k) w5 wr ∧ Nv D L ∧ i ≤ L.length ∧ textF D (N0 + 1 - i) i L tx = R)) (fun _ v11 _ => N0 + 1 - (intOf v11).toNat)
    case atStart => exact ⟨0, tx0, _, Nat.zero_le _, rfl, rfl, by have := HNT.out.2.2; omega, Lib.hid ⟨HS7.out.1, HS7.out.2.1, HS7.out.2.2, Nat.zero_le _, by simpa using HR.out⟩⟩
    case round =>
      obtain ⟨i, tx, L, hi, rfl, rfl, htl, HJ⟩ := hrel
      obtain ⟨w8, rfl⟩ : ∃ v, v = wr := ⟨_, rfl⟩
      obtain ⟨lA, ln, lc, hsv⟩ := HJ.out.1.ls
      have v0 := hsv.at_.cell 0
      simp only [List.getElem?_toArray, List.getElem?_cons_zero] at v0
      have hln := hsv.len
      have hrow := hsv.row
      have hLN := HZ.out L HJ.out.2.2.1
      by_cases hli : i < ln
      · have hd : decide ((i : Int) < (ln : Int)) = true := by simpa using hli
        obtain ⟨nm1, hnm1⟩ : ∃ x, L[i]? = some x := ⟨_, List.getElem?_eq_getElem (by omega)⟩
        obtain ⟨bl, ol, e, _, hll, z0⟩ := hrow i nm1 hnm1
        have hmem := List.mem_of_getElem? hnm1
        obtain ⟨d, hdd⟩ := Option.isSome_iff_exists.1 (HJ.out.2.2.1.in_ nm1 hmem)
        have hlen1 := HJ.out.2.2.1.len nm1 hmem
        have hgetD : (D nm1).getD zDc = d := by rw [hdd]; rfl
        have hdok := HD.out nm1 d hdd
        have hlk : ∀ W, Below w8.heap.size w8 W → (Instr.lookup 47 (.map (some bm)) (.string (str nm1)) false).run Tryz.prog W = .ok d.val W := fun W hW => by
          have h := look_dec (HJ.out.1.bk.bel hW).map nm1 hlen1 false
          rw [if_neg (by decide), hgetD] at h
          exact h
        have HDD := Lib.hid (HK5.out nm1 d hdd)
        have hRR := HJ.out.2.2.2.2
        have e1 : N0 + 1 - i = (N0 - i) + 1 := by omega
        rw [e1, textF, hnm1] at hRR
        simp only at hRR
        rw [hgetD] at hRR
        have HPD := fun W hn hb h => printDec_any d hdok.k1 hdok.vs hdok.cs hb W hn h hdok.tx
        obtain ⟨dt, hdt⟩ : ∃ x, decT d = x := ⟨_, rfl⟩
        have haddT : addT tx d = if tx.length ≤ 200 then tx ++ ([59, 32] ++ dt) else tx := by rw [← hdt]; rfl
        rw [hdt] at HPD
        have hdtl := hdok.tx
        rw [hdt] at hdtl
        obtain ⟨C0, hC0⟩ : ∃ x, consS D d.vs d.cs L = x := ⟨_, rfl⟩
        obtain ⟨tx', htx'⟩ : ∃ x, addT tx d = x := ⟨_, rfl⟩
        rw [hC0, htx'] at hRR
        rw [htx'] at haddT
        clear htx' hdt
        obtain ⟨dk, dnm, dvs, dcs, dvA, dvc, dcA, dcc, fA, fl, fc, tk, ts, tn, tA, tl0, tc, ek, es, en, et, kA, kl0, kc, rA, rl, rc, dA, dl, dc⟩ := d
        obtain ⟨vl, hvl⟩ : ∃ vl, dvs.length = vl := ⟨_, rfl⟩
        obtain ⟨cl, hcl⟩ : ∃ cl, dcs.length = cl := ⟨_, rfl⟩
        have hvx : vl ≤ 2000000 := by rw [← hvl]; exact hdok.vs
        have hcx : cl ≤ 1000000 := by rw [← hcl]; exact hdok.cs
        simp only [Dc.val] at hlk HPD
        rw [hvl, hcl] at hlk HPD
        have hC0 : consS D dvs dcs L = C0 := hC0
        have HPR := Lib.hid (fun c hc hh => hdok.pr c hc hh)
        change Hid (∀ c ∈ dcs, c.has = true → keptB D dvs c.ty = true → pr c.ty = true) at HPR
        have HTY := Lib.hid (fun c hc hh => hdok.ty c hc hh)
        change Hid (∀ c ∈ dcs, c.has = true → sml c.ty = true ∧ (namesT c.ty).length < 400000) at HTY
        change Hid (∀ W, Off (fun k => ¬ Z k) w5 W → SsAt Z W dvA dvs ∧ CnAt Z W dcA dcs) at HDD
        change ∀ W, NumK W.heap.size W → (∀ c ∈ dcs, c.has = true → pr c.ty = true) → (SsAt (fun k => k < W.heap.size) W dvA dvs ∧ CnAt (fun k => k < W.heap.size) W dcA dcs) → _ at HPD
        have HPD := Lib.hid HPD
        clear hdok
        obtain ⟨w9, hw9⟩ : ∃ W, w8.drew.alloc (.cells #[.int .u8 (dk : Int), .string (str dnm), .slice dvA vl dvc, .slice dcA cl dcc, .slice fA fl fc, .int .u8 tk, .string ts, .int .i64 tn, .slice tA tl0 tc, .int .u8 ek, .string es, .int .i64 en, .string et, .slice kA kl0 kc, .slice rA rl rc, .slice dA dl dc] 42) = W := ⟨_, rfl⟩
        have hb9 : Below w8.heap.size w8 w9 := by rw [← hw9]; exact (Below.refl _ _).drew.alloc (Nat.le_refl _) _
        have hB9 : Blk w9 w8.heap.size 42 #[.int .u8 (dk : Int), .string (str dnm), .slice dvA vl dvc, .slice dcA cl dcc, .slice fA fl fc, .int .u8 tk, .string ts, .int .i64 tn, .slice tA tl0 tc, .int .u8 ek, .string es, .int .i64 en, .string et, .slice kA kl0 kc, .slice rA rl rc, .slice dA dl dc] := by rw [← hw9]; exact Blk.new _ _ _
        subst e
        have hS : (fun W : World => W.cell? ⟨q, 0, none⟩ = some (.map (some bm)) ∧ W.cell? ⟨q2, 0, none⟩ = some (.slice (some ⟨bl, ol, none⟩) ln lc) ∧ W.cell? ⟨bl, ol + i, none⟩ = some (.string (str nm1)) ∧ (Instr.lookup 47 (.map (some bm)) (.string (str nm1)) false).run Tryz.prog W = .ok (.agg #[.int .u8 (dk : Int), .string (str dnm), .slice dvA vl dvc, .slice dcA cl dcc, .slice fA fl fc, .int .u8 tk, .string ts, .int .i64 tn, .slice tA tl0 tc, .int .u8 ek, .string es, .int .i64 en, .string et, .slice kA kl0 kc, .slice rA rl rc, .slice dA dl dc]) W) w8.drew := ⟨HJ.out.1.vb, v0, z0, hlk _ (Below.refl _ w8).drew⟩
        have HS9 : Hid (∀ W, Below w8.heap.size w8 W → (fun W : World => W.cell? ⟨q, 0, none⟩ = some (.map (some bm)) ∧ W.cell? ⟨q2, 0, none⟩ = some (.slice (some ⟨bl, ol, none⟩) ln lc) ∧ W.cell? ⟨bl, ol + i, none⟩ = some (.string (str nm1)) ∧ (Instr.lookup 47 (.map (some bm)) (.string (str nm1)) false).run Tryz.prog W = .ok (.agg #[.int .u8 (dk : Int), .string (str dnm), .slice dvA vl dvc, .slice dcA cl dcc, .slice fA fl fc, .int .u8 tk, .string ts, .int .i64 tn, .slice tA tl0 tc, .int .u8 ek, .string es, .int .i64 en, .string et, .slice kA kl0 kc, .slice rA rl rc, .slice dA dl dc]) W) W) := Lib.hid fun W hW => ⟨(hW.cell (World.block_lt_of_cell? _ _ HJ.out.1.vb)).trans HJ.out.1.vb, (hW.cell (World.block_lt_of_cell? _ _ v0)).trans v0, (hW.cell (p := ⟨bl, _, none⟩) hll).trans z0, hlk W hW⟩
        have hw9' : (w8.alloc (.cells #[.int .u8 (dk : Int), .string (str dnm), .slice dvA vl dvc, .slice dcA cl dcc, .slice fA fl fc, .int .u8 tk, .string ts, .int .i64 tn, .slice tA tl0 tc, .int .u8 ek, .string es, .int .i64 en, .string et, .slice kA kl0 kc, .slice rA rl rc, .slice dA dl dc] 42)).drew = w9 := hw9
        obtain ⟨q5, hq5⟩ : ∃ x, w8.heap.size = x := ⟨_, rfl⟩
        have HB9 := Lib.hid hb9
        have hB9' := hB9
        have HW9 := Lib.hid (And.intro hw9' hq5)
        clear hw9 hw9' hlk hrow hsv
        go_upto_region 11 with fail
        refine wp_region_held_drew (S := (fun W : World => W.cell? ⟨q, 0, none⟩ = some (.map (some bm)) ∧ W.cell? ⟨q2, 0, none⟩ = some (.slice (some ⟨bl, ol, none⟩) ln lc) ∧ W.cell? ⟨bl, ol + i, none⟩ = some (.string (str nm1)) ∧ (Instr.lookup 47 (.map (some bm)) (.string (str nm1)) false).run Tryz.prog W = .ok (.agg #[.int .u8 (dk : Int), .string (str dnm), .slice dvA vl dvc, .slice dcA cl dcc, .slice fA fl fc, .int .u8 tk, .string ts, .int .i64 tn, .slice tA tl0 tc, .int .u8 ek, .string es, .int .i64 en, .string et, .slice kA kl0 kc, .slice rA rl rc, .slice dA dl dc]) W)) (by kernel_rfl) hS (fun hHeld => ?_)
        refine takeY 0 (some 32) rfl rfl (by kernel_rfl) (by kernel_rfl) (by kernel_rfl) (fun _ _ _ h => h) (by rfl) (v := _) (by (intro _ hSw; (try dsimp only at hSw); go_simp; try with_reducible rfl)) hHeld ?_
        simp only [Act.put, List.setIfInBounds_toArray, List.set_cons_zero, List.set_cons_succ]
        refine takeY 1 (some 33) rfl rfl (by kernel_rfl) (by kernel_rfl) (by kernel_rfl) (fun _ _ _ h => h) (by rfl) (v := _) (by (intro _ hSw; (try dsimp only at hSw); go_simp; try with_reducible rfl)) hHeld ?_
        simp only [Act.put, List.setIfInBounds_toArray, List.set_cons_zero, List.set_cons_succ]
        refine takeY 2 (some 34) rfl rfl (by kernel_rfl) (by kernel_rfl) (by kernel_rfl) (fun _ _ _ h => h) (by rfl) (v := _) (by (intro _ hSw; (try dsimp only at hSw); go_simp; try with_reducible rfl)) hHeld ?_
        simp only [Act.put, List.setIfInBounds_toArray, List.set_cons_zero, List.set_cons_succ]
        refine takeY 3 (some 35) rfl rfl (by kernel_rfl) (by kernel_rfl) (by kernel_rfl) (fun _ _ _ h => h) (by rfl) (v := _) (by (intro _ hSw; (try dsimp only at hSw); go_simp; try with_reducible rfl)) hHeld ?_
        simp only [Act.put, List.setIfInBounds_toArray, List.set_cons_zero, List.set_cons_succ]
        refine takeY 4 (some 36) rfl rfl (by kernel_rfl) (by kernel_rfl) (by kernel_rfl) (fun _ _ _ h => h) (by rfl) (v := _) (by (intro _ hSw; (try dsimp only at hSw); go_simp; try with_reducible rfl)) hHeld ?_
        simp only [Act.put, List.setIfInBounds_toArray, List.set_cons_zero, List.set_cons_succ]
        refine takeY 5 (some 37) rfl rfl (by kernel_rfl) (by kernel_rfl) (by kernel_rfl) (fun _ _ _ h => h) (by rfl) (v := _) (by (intro _ hSw; (try dsimp only at hSw); go_simp; try with_reducible rfl)) hHeld ?_
        simp only [Act.put, List.setIfInBounds_toArray, List.set_cons_zero, List.set_cons_succ]
        refine takeY 6 (some 38) rfl rfl (by kernel_rfl) (by kernel_rfl) (by kernel_rfl) (fun _ _ _ h => h) (by rfl) (v := _) (by (intro _ hSw; (try dsimp only at hSw); go_simp; try with_reducible rfl)) hHeld ?_
        simp only [Act.put, List.setIfInBounds_toArray, List.set_cons_zero, List.set_cons_succ]
        refine wpAnyH_ready (rs := [7]) (by kernel_rfl) (by simp) ?_
        refine AllReadyH.cons rfl (fun K hK => ?_) AllReadyH.nil
        go_simp
        refine hK.out _ _ (HS9.out _ (((Below.refl _ w8).alloc (Nat.le_refl _) _).drew)) (fun hHeld => ?_)
        clear hK K
        refine wpAnyH_ready (rs := [8]) (by kernel_rfl) (by simp) ?_
        refine AllReadyH.cons rfl (fun K hK => ?_) AllReadyH.nil
        go_simp
        (try rw [HW9.out.1])
        (try rw [HW9.out.2])
        refine hK.out _ _ (HS9.out _ HB9.out) (fun hHeld => ?_)
        clear hK K
        refine wpAnyH_done (by kernel_rfl) ?_ _
        clear hHeld hS
        rw [hq5] at hB9'
        obtain ⟨Z1, hZ1⟩ : ∃ Z1 : Nat → Prop, Z1 = fun k => Z k ∨ k = q5 := ⟨_, rfl⟩
        have HZ1 : Hid (∀ k, Z k → Z1 k) := Lib.hid fun k h => by rw [hZ1]; exact .inl h
        have HY : Hid (∀ W, Off (fun k => ¬ Z1 k) w9 W → W.cell? ⟨q5, 2, none⟩ = some (.slice dvA vl dvc) ∧ W.cell? ⟨q5, 3, none⟩ = some (.slice dcA cl dcc) ∧ Blk W q5 42 #[.int .u8 (dk : Int), .string (str dnm), .slice dvA vl dvc, .slice dcA cl dcc, .slice fA fl fc, .int .u8 tk, .string ts, .int .i64 tn, .slice tA tl0 tc, .int .u8 ek, .string es, .int .i64 en, .string et, .slice kA kl0 kc, .slice rA rl rc, .slice dA dl dc]) := Lib.hid fun W h => by
          have hB := hB9'.off h (fun e => e (by rw [hZ1]; exact .inr rfl))
          exact ⟨hB.cell 2, hB.cell 3, hB⟩
        have HO5 : Hid (∀ W, Off (fun k => ¬ Z1 k) w9 W → Off (fun k => ¬ Z k) w5 W) := Lib.hid fun W h => HJ.out.2.1.trans ((Off.of_new HB9.out (fun k => ¬ Z k)).trans (h.mono fun k _ e hz => e (HZ1.out k hz)))
        have H9 : Hid (Ch q Z1 q2 q4 q3 q bm N D e0 L w9 ∧ Nv D L ∧ i < L.length ∧ consS D dvs dcs L = C0) := Lib.hid ⟨HJ.out.1.bel HB9.out HZ1.out fun k h => by
          rw [hZ1] at h
          rcases h with h | h
          · exact .inl h
          · exact .inr ⟨by omega, by rw [h]; exact hB9'.lt⟩, HJ.out.2.2.1, by omega, hC0⟩
        have HRR := Lib.hid hRR
        have HVL := Lib.hid hvl
        have HCL := Lib.hid hcl
        have HAT := Lib.hid (And.intro haddT hdtl)
        have hiN : i < N0 := by omega
        have HE2 : Hid (∀ L2 W, Ch q Z1 q2 q4 q3 q bm N D e0 L2 W → Ch q Z q2 q4 q3 q bm N D e0 L2 W) := Lib.hid fun L2 W h => h.less HZ1.out HJ.out.1.in_
        obtain ⟨y2, y3, _⟩ := HY.out w9 (Off.refl _ _)
        clear hZ1 hB9' hB9 hb9 hC0 hRR hvl hcl haddT hdtl hli hln hLN v0 hd hnm1 z0 hll hmem hdd hlen1 hgetD HS9 HW9 HB9 HD hq5
        go_wp2_with fail
        go_loopw [42] (fun v42 wi => ∃ (j : Nat) (L2 : List (List UInt8)), j ≤ cl ∧ v42 = .int .i64 (j : Int) ∧ Hid (Ch q Z1 q2 q4 q3 q bm N D e0 L2 wi ∧ Off (fun k => ¬ Z1 k) w9 wi ∧ Nv D L2 ∧ i < L2.length ∧ consS D dvs (dcs.drop j) L2 = C0 ∧ ∀ c ∈ dcs.take j, c.has = true → keptB D dvs c.ty = true)) (fun v42 _ => cl - (intOf v42).toNat)
        case atStart => exact ⟨0, L, Nat.zero_le _, rfl, Lib.hid ⟨H9.out.1, Off.refl _ _, H9.out.2.1, H9.out.2.2.1, by rw [List.drop_zero]; exact H9.out.2.2.2, by intro c h; simp at h⟩⟩
        case round =>
          clear y2 y3
          obtain ⟨j, L2, hj, rfl, HI⟩ := hrel
          obtain ⟨wi, rfl⟩ : ∃ v, v = wr := ⟨_, rfl⟩
          by_cases hlj : j < cl
          · have hd2 : decide ((j : Int) < (cl : Int)) = true := by simpa using hlj
            obtain ⟨c1, hc1⟩ : ∃ x, dcs[j]? = some x := ⟨_, List.getElem?_eq_getElem (by rw [HCL.out]; exact hlj)⟩
            have hi5 := HO5.out wi HI.out.2.1
            obtain ⟨hVi, hCi⟩ := HDD.out wi hi5
            obtain ⟨bc, oc, Ac, cc1, ec, hZc, hlc, hcells, hin⟩ := hCi j c1 hc1
            have z0 := hcells 0 _ rfl
            have z1 := hcells 1 _ rfl
            have z2 := hcells 2 _ rfl
            have z3 := hcells 3 _ rfl
            have z4 := hcells 4 _ rfl
            have z5 := hcells 5 _ rfl
            rw [Nat.add_zero] at z0
            have hdrop : dcs.drop j = c1 :: dcs.drop (j + 1) := by
              have h := (List.getElem?_eq_some_iff.1 hc1)
              obtain ⟨h1, h2⟩ := h
              rw [← h2]
              exact List.drop_eq_getElem_cons h1
            have hstep := HI.out.2.2.2.2.1
            rw [hdrop, consS] at hstep
            have htake : dcs.take (j + 1) = dcs.take j ++ [c1] := by rw [List.take_add_one, hc1]; rfl
            obtain ⟨tl, htl⟩ : ∃ tl, c1.ty.ks.length = tl := ⟨_, rfl⟩
            rw [htl] at z5
            obtain ⟨hb, hhas⟩ : ∃ b, c1.has = b := ⟨_, rfl⟩
            rw [hhas] at z1 hstep
            obtain ⟨w10, hw10⟩ : ∃ W, wi.alloc (.cells #[.string (str c1.nm), .bool hb, .int .u8 (c1.ty.k : Int), .string (str c1.ty.nm), .int .i64 c1.ty.n, .slice Ac tl cc1] 44) = W := ⟨_, rfl⟩
            have hb10 : Below wi.heap.size wi w10 := by rw [← hw10]; exact (Below.refl _ _).alloc (Nat.le_refl _) _
            have hB10 : Blk w10 wi.heap.size 44 #[.string (str c1.nm), .bool hb, .int .u8 (c1.ty.k : Int), .string (str c1.ty.nm), .int .i64 c1.ty.n, .slice Ac tl cc1] := by rw [← hw10]; exact Blk.new _ _ _
            obtain ⟨q6, hq6⟩ : ∃ x, wi.heap.size = x := ⟨_, rfl⟩
            rw [hq6] at hB10
            have u1 : w10.cell? ⟨q6, 1, none⟩ = some (.bool hb) := hB10.cell 1
            have hCh10 : Ch q Z1 q2 q4 q3 q bm N D e0 L2 w10 := HI.out.1.bel hb10 (fun _ h => h) (fun _ h => .inl h)
            have ho10 : Off (fun k => ¬ Z1 k) w9 w10 := HI.out.2.1.trans (Off.of_new hb10 _)
            have H10 := Lib.hid (And.intro hw10 (And.intro hq6 (And.intro hCh10 ho10)))
            have HTK := Lib.hid htake
            have HHAS := Lib.hid hhas
            cases hb with
            | false =>
              have hstep : consS D dvs (dcs.drop (j + 1)) L2 = C0 := by simpa using hstep
              have HN := Lib.hid hstep
              subst ec
              clear hc1 hi5 hVi hCi hZc hlc hcells hin hdrop hstep htake htl hhas hw10 hb10 hB10 hq6 hCh10 ho10
              go_upto_region 15 with fail
              (try rw [H10.out.1])
              (try rw [H10.out.2.1])
              go_wp2_with fail
              go_roundw
              case rel => exact ⟨j + 1, L2, by omega, by go_num, Lib.hid ⟨H10.out.2.2.1, H10.out.2.2.2, HI.out.2.2.1, HI.out.2.2.2.1, HN.out, by
                intro c hc hh
                rw [HTK.out] at hc
                rcases List.mem_append.1 hc with hc | hc
                · exact HI.out.2.2.2.2.2 c hc hh
                · rw [List.mem_singleton.1 hc, HHAS.out] at hh; cases hh⟩⟩
              case measure => simp [intOf]; omega
            | true =>
              have hty1 := HTY.out c1 (List.mem_of_getElem? hc1) hhas
              have hi10 : Off (fun k => ¬ Z k) w5 w10 := HO5.out w10 ho10
              have u2 : w10.cell? ⟨q6, 2, none⟩ = some (.int .u8 (c1.ty.k : Int)) := hB10.cell 2
              have u3 : w10.cell? ⟨q6, 3, none⟩ = some (.string (str c1.ty.nm)) := hB10.cell 3
              have u4 : w10.cell? ⟨q6, 4, none⟩ = some (.int .i64 c1.ty.n) := hB10.cell 4
              have u5 : w10.cell? ⟨q6, 5, none⟩ = some (.slice Ac tl cc1) := hB10.cell 5
              have y2 := (HY.out w10 ho10).1
              have hV10 : SsAt Z1 w10 dvA dvs := (HDD.out w10 hi10).1.mono HZ1.out
              have hin10 := ((hin.bel hb10).mono HZ1.out)
              have hC := come_any q Z1 q2 q4 q3 q bm N D e0 L2 w10 hCh10 dvs dvA vl dvc HVL.out (by omega) hV10 c1.ty Ac cc1 hin10.2.1.2.2 hty1.1 hin10.1 (by have h1 := HZ.out L2 HI.out.2.2.1; have h2 := hty1.2; omega)
              have hnl1 := namesT_len (t := c1.ty) hin10.2.1.2.2 hin10.1
              have hkn1 := kept_names (D := D) (vs := dvs) c1.ty
              obtain ⟨kb, hkb⟩ : ∃ b, keptB D dvs c1.ty = b := ⟨_, rfl⟩
              rw [hkb] at hC hkn1 hstep
              obtain ⟨ev, hev⟩ : ∃ v, (if kb = true then Value.nilIface else errv e0) = v := ⟨_, rfl⟩
              rw [hev] at hC
              unfold Ty.val at hC
              rw [htl] at hC
              have HC := Lib.hid hC
              have HEV2 := Lib.hid hev
              have HST := Lib.hid hstep
              have HKN := Lib.hid (And.intro hnl1 (And.intro hkn1 hkb))
              subst ec
              clear hc1 hi5 hVi hCi hZc hlc hcells hin hdrop hstep htake htl hhas hw10 hb10 hB10 hq6 hCh10 ho10 hty1 hi10 hV10 hin10 hC hnl1 hkn1 hkb hev
              go_upto_region 15 with fail
              (try rw [H10.out.1])
              (try rw [H10.out.2.1])
              clear z0 z1 z2 z3 z4 z5
              go_wp2_with fail
              refine HC.out.mono ?_
              rintro e w11 ⟨rfl, hCh11, ho11⟩
              clear HC u1 u2 u3 u4 u5 y2
              cases kb with
              | false =>
                obtain rfl : Value.iface 161 (.pointer (some e0)) = ev := by simpa [errv] using HEV2.out
                have HP : Hid (R = none ∧ Below w.heap.size w w11) := Lib.hid ⟨by
                  have h := HST.out
                  have h0 : C0 = none := by simpa using h.symm
                  have h2 := HRR.out
                  rw [h0] at h2
                  exact h2.symm, HE.out w11 (HO5.out w11 (H10.out.2.2.2.trans ho11))⟩
                clear hCh11 ho11
                go_wp2_with fail
                go_ret2
                exact ⟨by rw [HP.out.1] <;> rfl, HP.out.2⟩
              | true =>
                obtain rfl : Value.nilIface = ev := by simpa using HEV2.out
                have HN : Hid (Ch q Z1 q2 q4 q3 q bm N D e0 (comeL L2 (namesT c1.ty)) w11 ∧ Off (fun k => ¬ Z1 k) w9 w11 ∧ Nv D (comeL L2 (namesT c1.ty)) ∧ i < (comeL L2 (namesT c1.ty)).length ∧ consS D dvs (dcs.drop (j + 1)) (comeL L2 (namesT c1.ty)) = C0 ∧ ∀ c ∈ dcs.take (j + 1), c.has = true → keptB D dvs c.ty = true) := Lib.hid ⟨by simpa using hCh11, H10.out.2.2.2.trans ho11, Nv.all _ _ HI.out.2.2.1 HKN.out.1 (HKN.out.2.1 (by simp)), Nat.lt_of_lt_of_le HI.out.2.2.2.1 (comeL_ge _ _), by simpa using HST.out, by
                  intro c hc hh
                  rw [HTK.out] at hc
                  rcases List.mem_append.1 hc with hc | hc
                  · exact HI.out.2.2.2.2.2 c hc hh
                  · rw [List.mem_singleton.1 hc]; exact HKN.out.2.2⟩
                clear hCh11 ho11
                go_wp2_with fail
                go_roundw
                case rel => exact ⟨j + 1, _, by omega, by go_num, HN⟩
                case measure => simp [intOf]; omega
          · obtain rfl : cl = j := by omega
            have hd2 : decide ((cl : Int) < (cl : Int)) = false := by simp
            have hdr : dcs.drop cl = [] := List.drop_eq_nil_iff.2 (by rw [HCL.out]; exact Nat.le_refl _)
            have hC0 := HI.out.2.2.2.2.1
            rw [hdr, consS] at hC0
            have hall : ∀ c ∈ dcs, c.has = true → keptB D dvs c.ty = true := fun c hc => HI.out.2.2.2.2.2 c (by rw [List.take_of_length_le (by rw [HCL.out]; exact Nat.le_refl _)]; exact hc)
            have hR2 : textF D (N0 + 1 - (i + 1)) (i + 1) L2 tx' = R := by
              have h := HRR.out
              rw [← hC0] at h
              have e : N0 + 1 - (i + 1) = N0 - i := by omega
              rw [e]; exact h
            have HN : Hid (Ch q Z q2 q4 q3 q bm N D e0 L2 wi ∧ Off (fun k => ¬ Z k) w5 wi ∧ Nv D L2 ∧ i + 1 ≤ L2.length ∧ textF D (N0 + 1 - (i + 1)) (i + 1) L2 tx' = R) := Lib.hid ⟨HE2.out L2 wi HI.out.1, HO5.out wi HI.out.2.1, HI.out.2.2.1, HI.out.2.2.2.1, hR2⟩
            by_cases h200 : tx.length ≤ 200
            · have hg : decide ((tx.length : Int) ≤ 200) = true := by simp; omega
              have hsz : (str tx).size = tx.length := str_size tx
              have hK1 := HDD.out wi (HO5.out wi HI.out.2.1)
              have hZw : ∀ k, Z k → k < wi.heap.size := fun k hk => HI.out.1.lt (HZ1.out k hk)
              have HP := Lib.hid (HPD.out wi HI.out.1.bk.num (fun c hc hh => HPR.out c hc hh (hall c hc hh)) ⟨hK1.1.mono hZw, hK1.2.mono hZw⟩)
              have hBD := (HY.out wi HI.out.2.1).2.2
              have g0 : wi.cell? ⟨q5, 0, none⟩ = some (.int .u8 (dk : Int)) := hBD.cell 0
              have g1 : wi.cell? ⟨q5, 1, none⟩ = some (.string (str dnm)) := hBD.cell 1
              have g2 : wi.cell? ⟨q5, 2, none⟩ = some (.slice dvA vl dvc) := hBD.cell 2
              have g3 : wi.cell? ⟨q5, 3, none⟩ = some (.slice dcA cl dcc) := hBD.cell 3
              have g4 : wi.cell? ⟨q5, 4, none⟩ = some (.slice fA fl fc) := hBD.cell 4
              have g5 : wi.cell? ⟨q5, 5, none⟩ = some (.int .u8 tk) := hBD.cell 5
              have g6 : wi.cell? ⟨q5, 6, none⟩ = some (.string ts) := hBD.cell 6
              have g7 : wi.cell? ⟨q5, 7, none⟩ = some (.int .i64 tn) := hBD.cell 7
              have g8 : wi.cell? ⟨q5, 8, none⟩ = some (.slice tA tl0 tc) := hBD.cell 8
              have g9 : wi.cell? ⟨q5, 9, none⟩ = some (.int .u8 ek) := hBD.cell 9
              have g10 : wi.cell? ⟨q5, 10, none⟩ = some (.string es) := hBD.cell 10
              have g11 : wi.cell? ⟨q5, 11, none⟩ = some (.int .i64 en) := hBD.cell 11
              have g12 : wi.cell? ⟨q5, 12, none⟩ = some (.string et) := hBD.cell 12
              have g13 : wi.cell? ⟨q5, 13, none⟩ = some (.slice kA kl0 kc) := hBD.cell 13
              have g14 : wi.cell? ⟨q5, 14, none⟩ = some (.slice rA rl rc) := hBD.cell 14
              have g15 : wi.cell? ⟨q5, 15, none⟩ = some (.slice dA dl dc) := hBD.cell 15
              have htx' : tx' = tx ++ ([59, 32] ++ dt) := by rw [HAT.out.1, if_pos h200]
              have hf1 : (⟨#[59, 32]⟩ : ByteArray) ++ str dt = str (59 :: 32 :: dt) := str_append [59, 32] dt
              have hf2 : str tx ++ str (59 :: 32 :: dt) = str tx' := by rw [htx', str_append]; rfl
              have hx1 : ¬ (9223372036854775807 < 2 + (str dt).size) := by rw [str_size]; have := HAT.out.2; omega
              have hx2 : ¬ (9223372036854775807 < (str tx).size + (str (59 :: 32 :: dt)).size) := by rw [str_size, str_size]; have := HAT.out.2; simp only [List.length_cons]; omega
              have hl2 : tx'.length ≤ 8589934590 := by rw [htx', List.length_append, List.length_append]; have := HAT.out.2; simp only [List.length_cons, List.length_nil]; omega
              clear hdr hC0 hall hR2 hK1 hZw hBD htx' h200
              go_wp2_with fail
              refine HP.out.mono ?_
              rintro e w12 ⟨rfl, hb12⟩
              have HN2 : Hid (Ch q Z q2 q4 q3 q bm N D e0 L2 w12 ∧ Off (fun k => ¬ Z k) w5 w12) := Lib.hid ⟨HN.out.1.bel hb12 (fun _ h => h) (fun _ h => .inl h), HN.out.2.1.trans (Off.of_new hb12 _)⟩
              clear hb12 g0 g1 g2 g3 g4 g5 g6 g7 g8 g9 g10 g11 g12 g13 g14 g15
              go_wp2_with fail
              go_roundw
              case rel => exact ⟨i + 1, tx', L2, by omega, rfl, by go_num, hl2, Lib.hid ⟨HN2.out.1, HN2.out.2, HN.out.2.2.1, HN.out.2.2.2.1, HN.out.2.2.2.2⟩⟩
              case measure => simp [intOf]; omega
            · have hg : decide ((tx.length : Int) ≤ 200) = false := by simp; omega
              have hsz : (str tx).size = tx.length := str_size tx
              have HTX : Hid (tx' = tx) := Lib.hid (by rw [HAT.out.1, if_neg h200])
              clear hdr hC0 hall hR2 h200
              go_wp2_with fail
              go_roundw
              case rel => exact ⟨i + 1, tx', L2, by omega, by rw [HTX.out] <;> rfl, by go_num, by rw [HTX.out]; exact htl, HN⟩
              case measure => simp [intOf]; omega
      · have e2 : i = ln := by have := HJ.out.2.2.2.1; omega
        subst e2
        have hd : decide ((i : Int) < (i : Int)) = false := by simp
        have HP : Hid (R = some tx ∧ Below w.heap.size w w8) := Lib.hid ⟨by
          have h := HJ.out.2.2.2.2
          have e1 : N0 + 1 - i = (N0 - i) + 1 := by omega
          rw [e1, textF, List.getElem?_eq_none (by omega)] at h
          exact h.symm, HE.out w8 HJ.out.2.1⟩
        clear hsv hrow hln hLN
        go_wp2_with fail
        go_ret2
        exact ⟨by rw [HP.out.1] <;> rfl, HP.out.2⟩
end Go.Proofs.YtadogebhkldeiaaGreatDoor
