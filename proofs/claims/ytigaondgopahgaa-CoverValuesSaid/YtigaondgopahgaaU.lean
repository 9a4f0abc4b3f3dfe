/- cover: useful, its ways one by one. -/
import Derived.Test.YtigaondgopahgaaPi
namespace Go.Proofs.Ytigaondgopahgaa
open Go.RowKit Ty
set_option linter.unusedVariables false
set_option linter.unusedSimpArgs false
attribute [local go_sem] Oper.semAt_some
theorem ent_opened1 : Enters Try.prog 33 := enters_of Try.func33 (by kernel_rfl) rfl
theorem ent_rest : Enters Try.prog 32 := enters_of Try.func32 (by kernel_rfl) rfl
theorem hmfC : ∀ (fn : Fn) (first cap : Array Value) (w : World), (Instr.makeFunc fn first cap).run Try.prog w = .ok (.func fn first cap) w := fun _ _ _ _ => rfl
set_option maxRecDepth 20000 in
set_option maxHeartbeats 8000000 in
theorem mkopened_any (k : Nat) (nm : List UInt8) (m : Int) (mn : Nat) (w : World) :
    Calls Try.prog 29 #[.agg #[.int .u8 (k : Int), .string (str nm), .int .i64 m, .int .i64 (mn : Int)]] w fun e w' => e = .returned (.func (.func 33) #[] #[.pointer (some ⟨w.heap.size, 0, none⟩)]) ∧ Blk w' w.heap.size 65 #[.int .u8 (k : Int), .string (str nm), .int .i64 m, .int .i64 (mn : Int)] ∧ Below w.heap.size w w' := by
  obtain ⟨w0, hw0⟩ : ∃ w0, w.alloc (.cells #[.int .u8 (k : Int), .string (str nm), .int .i64 m, .int .i64 (mn : Int)] 65) = w0 := ⟨_, rfl⟩
  have hb0 : Below w.heap.size w w0 := by rw [← hw0]; exact (Below.refl _ _).alloc (Nat.le_refl _) _
  have hB0 : Blk w0 w.heap.size 65 #[.int .u8 (k : Int), .string (str nm), .int .i64 m, .int .i64 (mn : Int)] := by rw [← hw0]; exact Blk.new _ _ _
  have HB := Lib.hid (And.intro hB0 hb0)
  have hmf := hmfC
  clear hb0 hB0
  go_enter Try.func29, Try.ntmps29
  go_upto_region 1 with fail
  (try rw [hw0])
  clear hw0
  go_wp2_with fail
  go_ret
  exact ⟨rfl, HB.out⟩
theorem opened_len {h : Head} {r r' : List Ty} (e : opened h r = some r') : r'.length + 1 = h.many + r.length := by
  cases r with
  | nil => cases e
  | cons p r =>
    rw [opened_cons] at e
    split at e
    · cases e
      rw [List.length_append, List.length_replicate, List.length_cons]
      omega
    · split at e
      · rename_i hh
        cases e
        rw [List.length_append, List.length_cons, ← hh]
        show p.ks.length + _ + 1 = p.ks.length + _
        omega
      · cases e
theorem rest_len {r r' : List Ty} (e : rest r = some r') : r'.length + 1 = r.length := by
  cases r with
  | nil => cases e
  | cons p r =>
    rw [rest_cons] at e
    split at e
    · cases e; rfl
    · cases e
/-- useful, of so much. -/
def UseOk (l : List Inf) (b1 b2 en m : Nat) : Prop := ∀ (rows : List (List Ty)) (q : List Ty) (A : Option Addr) (n c : Nat) (B : Option Addr) (nq cq : Nat) (w : World),
  wtss rows + wts q + q.length ≤ m → RAt w A n c rows → PAt Everywhere w B nq cq q → (∀ r ∈ rows, r.length = q.length) → Ask Everywhere w b1 b2 en l → n ≤ 1000 →
  Calls Try.prog 23 #[.agg #[.map (some b1), .map (some b2)], .slice A n c, .slice B nq cq] w fun e w' => e = .returned (.bool (useful l rows q)) ∧ Below w.heap.size w w'
set_option maxRecDepth 20000 in
set_option maxHeartbeats 8000000 in
theorem use_nil (b1 b2 : Nat) (A : Option Addr) (c : Nat) (B : Option Addr) (nq cq : Nat) (w : World) :
    Calls Try.prog 23 #[.agg #[.map (some b1), .map (some b2)], .slice A 0 c, .slice B nq cq] w fun e w' => e = .returned (.bool true) ∧ Below w.heap.size w w' := by
  obtain ⟨w0, hw0⟩ : ∃ w0, w.alloc (.cells #[.map (some b1), .map (some b2)] 57) = w0 := ⟨_, rfl⟩
  have HB : Hid (Below w.heap.size w w0) := Lib.hid (by rw [← hw0]; exact (Below.refl _ _).alloc (Nat.le_refl _) _)
  go_enter Try.func23, Try.ntmps23
  go_upto_region 1 with fail
  (try rw [hw0])
  clear hw0
  go_wp2_with fail
  go_ret
  exact ⟨rfl, HB.out⟩
set_option maxRecDepth 20000 in
set_option maxHeartbeats 8000000 in
theorem use_none (b1 b2 : Nat) (A : Option Addr) (n c : Nat) (B : Option Addr) (cq : Nat) (w : World) (hn : 0 < n) (hn2 : n ≤ 1000) :
    Calls Try.prog 23 #[.agg #[.map (some b1), .map (some b2)], .slice A n c, .slice B 0 cq] w fun e w' => e = .returned (.bool false) ∧ Below w.heap.size w w' := by
  obtain ⟨w0, hw0⟩ : ∃ w0, w.alloc (.cells #[.map (some b1), .map (some b2)] 57) = w0 := ⟨_, rfl⟩
  have HB : Hid (Below w.heap.size w w0) := Lib.hid (by rw [← hw0]; exact (Below.refl _ _).alloc (Nat.le_refl _) _)
  have h0 : (((n : Nat) : Int) == 0) = false := by simp; omega
  go_enter Try.func23, Try.ntmps23
  go_upto_region 1 with fail
  (try rw [hw0])
  clear hw0
  go_wp2_with fail
  go_ret
  exact ⟨rfl, HB.out⟩
set_option maxRecDepth 20000 in
set_option maxHeartbeats 8000000 in
theorem use_tame {l : List Inf} {b1 b2 en mm : Nat} (ih : UseOk l b1 b2 en mm) (r0 : List Ty) (rs : List (List Ty)) (p : Ty) (q : List Ty) (A : Option Addr) (n c : Nat) (B : Option Addr) (nq cq : Nat) (w : World) (hmm : mm ≤ 50000)
    (hwt : wtss (r0 :: rs) + wts (p :: q) + (p :: q).length ≤ mm + 1) (hR : RAt w A n c (r0 :: rs)) (hQ : PAt Everywhere w B nq cq (p :: q)) (hlen : ∀ r ∈ r0 :: rs, r.length = (p :: q).length) (hS : Ask Everywhere w b1 b2 en l) (hn : n ≤ 1000) (hw : p.wild = false) :
    Calls Try.prog 23 #[.agg #[.map (some b1), .map (some b2)], .slice A n c, .slice B nq cq] w fun e w' => e = .returned (.bool (useful l (r0 :: rs) (p :: q))) ∧ Below w.heap.size w w' := by
  rw [useful_tame l hw]
  obtain ⟨rows, hrows⟩ : ∃ rows, r0 :: rs = rows := ⟨_, rfl⟩
  rw [hrows] at hwt hR hlen ⊢
  have hn0 : (((n : Nat) : Int) == 0) = false := by have := hR.len; rw [← hrows] at this; simp at this ⊢; omega
  have hq0 : (((nq : Nat) : Int) == 0) = false := by have := hQ.len; simp at this ⊢; omega
  have hnq : nq ≤ 100000 := by have := hQ.len; simp at this hwt; omega
  have hnq1 : 0 < nq := by have := hQ.len; simp at this; omega
  have hww := wt_tame hw
  rw [wts, List.length_cons] at hwt
  have hwo := wtss_opened p.head rows
  have hne : ∀ r ∈ rows, ∃ x y, r = x :: y := fun r hr => by
    have := hlen r hr
    cases r with
    | nil => simp at this
    | cons x y => exact ⟨x, y, rfl⟩
  have hmn : p.head.many ≤ 100000 := by show p.ks.length ≤ _; omega
  have hopq : opened p.head (p :: q) = some (p.ks ++ q) := by rw [opened_cons, hw]; simp
  have hUW : wtss (rows.filterMap (opened p.head)) + wts (p.ks ++ q) + (p.ks ++ q).length ≤ mm := by rw [wts_append, List.length_append]; omega
  have hUL : ∀ r ∈ rows.filterMap (opened p.head), r.length = (p.ks ++ q).length := fun r hr => by
    obtain ⟨r1, h1, h2⟩ := List.mem_filterMap.1 hr
    have := opened_len h2
    have h3 := hlen r1 h1
    rw [List.length_append]
    have h4 : p.head.many = p.ks.length := rfl
    rw [List.length_cons] at h3
    omega
  obtain ⟨w0, hw0⟩ : ∃ w0, w.alloc (.cells #[.map (some b1), .map (some b2)] 57) = w0 := ⟨_, rfl⟩
  have hb0 : Below w.heap.size w w0 := by rw [← hw0]; exact (Below.refl _ _).alloc (Nat.le_refl _) _
  have hB0 : Blk w0 w.heap.size 57 #[.map (some b1), .map (some b2)] := by rw [← hw0]; exact Blk.new _ _ _
  obtain ⟨b, off, A', c', rfl, _, hbl, z0, z1, z2, z3, hok, hlc, hcm, hAt⟩ := (hQ.bel hb0).at_.get (r := 0) (t := p) rfl
  simp only [Nat.zero_mul, Nat.add_zero] at z0 z1 z2 z3
  obtain ⟨tl, htl⟩ : ∃ tl, p.ks.length = tl := ⟨_, rfl⟩
  rw [htl] at z3
  have HC := isWild_any p A' c' w0
  unfold Ty.val at HC
  rw [htl, hw] at HC
  replace HC := Lib.hid HC
  have HZ : Hid (∀ W, Below w0.heap.size w0 W → W.cell? ⟨b, off, none⟩ = some (.int .u8 (p.k : Int)) ∧ W.cell? ⟨b, off + 1, none⟩ = some (.string (str p.nm)) ∧ W.cell? ⟨b, off + 2, none⟩ = some (.int .i64 p.n) ∧ W.cell? ⟨b, off + 3, none⟩ = some (.slice A' tl c')) := Lib.hid fun W hW => ⟨(hW.cell (p := ⟨b, _, none⟩) hbl).trans z0, (hW.cell (p := ⟨b, _, none⟩) hbl).trans z1, (hW.cell (p := ⟨b, _, none⟩) hbl).trans z2, (hW.cell (p := ⟨b, _, none⟩) hbl).trans z3⟩
  obtain ⟨⟨k, nm, m, mn⟩, hph⟩ : ∃ h2, p.head = h2 := ⟨_, rfl⟩
  have HHD := headOf_any p A' c'
  unfold Ty.val at HHD
  rw [htl, hph] at HHD
  unfold Head.val at HHD
  dsimp only at HHD
  replace HHD := Lib.hid HHD
  rw [hph] at hmn hopq hUW hUL
  obtain ⟨nrows, hnr⟩ : ∃ nrows, rows.filterMap (opened ⟨k, nm, m, mn⟩) = nrows := ⟨_, rfl⟩
  obtain ⟨nq2, hnq2⟩ : ∃ nq2, p.ks ++ q = nq2 := ⟨_, rfl⟩
  rw [hnr, hnq2] at hUW hUL
  rw [hnq2] at hopq
  have hval : (rows.filterMap (opened p.head)) = nrows := by rw [hph]; exact hnr
  rw [hval, hnq2]
  have hnrl : nrows.length ≤ 1000 := by have h1 := fm_len (opened ⟨k, nm, m, mn⟩) rows; rw [hnr] at h1; have := hR.len; omega
  have HA := Lib.hid (And.intro (hR.bel hb0) (And.intro (hQ.bel hb0) (And.intro (hS.bel hb0) (And.intro hB0 hb0))))
  have HM := Lib.hid (And.intro hopq (And.intro hUW (And.intro hUL (And.intro hne (And.intro hlen (And.intro hnr (And.intro hmn (And.intro ih hnrl))))))))
  have HQL : Hid ((p :: q).length = nq) := Lib.hid hQ.len
  clear hwt hR hQ hlen hS hww hwo hne hmn hopq hUW hUL hb0 hB0 hbl hok hlc hcm hAt htl hph hnr hnq2 hnrl hrows ih hw hval
  go_enter Try.func23, Try.ntmps23
  go_upto_region 1 with fail
  (try rw [hw0])
  clear hw0
  go_wp2_with fail
  refine HC.out.mono ?_
  rintro e w1 ⟨rfl, hb1⟩
  clear z0 z1 z2 z3 HC
  obtain ⟨z0, z1, z2, z3⟩ := HZ.out w1 hb1
  have HC := Lib.hid (HHD.out w1)
  have HB1 := Lib.hid hb1
  clear hb1 HHD HZ
  go_wp2_with fail
  refine HC.out.mono ?_
  rintro e w2 ⟨rfl, hb2⟩
  clear z0 z1 z2 z3 HC
  have HC := Lib.hid (mkopened_any k nm m mn w2)
  have HB2 : Hid (Below w0.heap.size w0 w2) := Lib.hid (HB1.out.trans (hb2.mono HB1.out.size))
  clear hb2 HB1
  go_wp2_with fail
  refine HC.out.mono ?_
  rintro e w3 ⟨rfl, hO3, hb3⟩
  have HB3 : Hid (Below w0.heap.size w0 w3) := Lib.hid (HB2.out.trans (hb3.mono HB2.out.size))
  have HO := Lib.hid hO3
  have HC2 := Lib.hid (opened_keep ⟨k, nm, m, mn⟩ p q (some ⟨b, off, none⟩) nq cq w2.heap.size w3 (HA.out.2.1.bel HB3.out) hO3 hnq HM.out.2.2.2.2.2.2.1)
  clear hO3 hb3 HC HB2
  have hEn : ∀ (args : Array Value) (w : World), (callFunc 33 args).run Try.prog w = .ok (.enter 33 args) w := ent_opened1
  go_wp2_with fail
  refine HC2.out.mono ?_
  rintro e w4 ⟨hb4, hh⟩
  clear HC2
  obtain ⟨A2, c2, rfl, hP4⟩ : ∃ A2 c2, e = .returned (.tuple #[.slice A2 nq2.length c2, .bool true]) ∧ PAt Everywhere w4 A2 nq2.length c2 nq2 := by
    rcases hh with ⟨r, A2, c2, h1, h2, h3⟩ | ⟨h1, _⟩
    · rw [HM.out.1] at h1
      cases h1
      exact ⟨A2, c2, h2, h3.mono fun _ _ => trivial⟩
    · rw [HM.out.1] at h1; cases h1
  clear hh
  have HB4 : Hid (Below w0.heap.size w0 w4) := Lib.hid (HB3.out.trans (hb4.mono HB3.out.size))
  have HO4 : Hid (Blk w4 w2.heap.size 65 #[.int .u8 (k : Int), .string (str nm), .int .i64 m, .int .i64 (mn : Int)]) := Lib.hid (HO.out.below hb4 HO.out.lt)
  have HP := pick_any 33 ent_opened1 #[.pointer (some ⟨w2.heap.size, 0, none⟩)] (opened ⟨k, nm, m, mn⟩) (fun W => Blk W w2.heap.size 65 #[.int .u8 (k : Int), .string (str nm), .int .i64 m, .int .i64 (mn : Int)]) (fun _ _ h hb => h.below hb h.lt) rows (fun F row A3 c3 w5 hrow hJ hA3 => by
    obtain ⟨x, y, rfl⟩ := HM.out.2.2.2.1 row hrow
    exact opened_keep ⟨k, nm, m, mn⟩ x y A3 _ c3 w2.heap.size w5 hA3 hJ (by have := HM.out.2.2.2.2.1 _ hrow; rw [this, HQL.out]; exact hnq) HM.out.2.2.2.2.2.2.1) A n c w4.drew ((HA.out.1.bel HB4.out).bel (Below.refl _ w4).drew) (HO4.out.drew) (by omega)
  rw [HM.out.2.2.2.2.2.1] at HP
  obtain ⟨rl, hrl⟩ : ∃ rl, nrows.length = rl := ⟨_, rfl⟩
  rw [hrl] at HP
  replace HP := Lib.hid HP
  obtain ⟨ql, hql⟩ : ∃ ql, nq2.length = ql := ⟨_, rfl⟩
  have HU : Hid (∀ (W : World) (A5 : Option Addr) (c5 : Nat), Below w4.heap.size w4 W → RAt W A5 rl c5 nrows → Calls Try.prog 23 #[.agg #[.map (some b1), .map (some b2)], .slice A5 rl c5, .slice A2 ql c2] W fun e w' => e = .returned (.bool (useful l nrows nq2)) ∧ Below W.heap.size W w') := Lib.hid fun W A5 c5 hW hR5 => HM.out.2.2.2.2.2.2.2.1 nrows nq2 A5 rl c5 A2 ql c2 W HM.out.2.1 hR5 (by rw [← hql]; exact hP4.bel hW) HM.out.2.2.1 ((HA.out.2.2.1.bel HB4.out).bel hW) (by have := HM.out.2.2.2.2.2.2.2.2; omega)
  have hXB := HA.out.2.2.2.1.below HB4.out HA.out.2.2.2.1.lt
  have HX : Hid (∀ W, Below w4.heap.size w4 W → W.cell? ⟨w.heap.size, 0, none⟩ = some (.map (some b1)) ∧ W.cell? ⟨w.heap.size, 1, none⟩ = some (.map (some b2))) := Lib.hid fun W hW => ⟨(hXB.below hW hXB.lt).cell 0, (hXB.below hW hXB.lt).cell 1⟩
  have HFB : Hid (Below w.heap.size w w4) := Lib.hid (HA.out.2.2.2.2.trans (HB4.out.mono HA.out.2.2.2.2.size))
  rw [hql]
  clear hP4 hql hrl hXB HB3 HO HB4 HO4 hb4
  go_upto_region 6 with fail
  go_region_held3 (fun W => W.cell? ⟨w.heap.size, 0, none⟩ = some (.map (some b1)) ∧ W.cell? ⟨w.heap.size, 1, none⟩ = some (.map (some b2)))
    (first | exact HX.out _ (Below.refl _ w4).drew | exact HX.out _ hw5 | exact HX.out _ hw6)
    (first
      | (go_at_call 30; refine Calls.mono HP.out ?_; rintro e w5 ⟨A5, c5, rfl, hR5, hb5⟩; have hw5 : Below w4.heap.size w4 w5 := (Below.refl _ w4).drew.trans hb5)
      | (go_at_call 23; refine Calls.mono (HU.out _ A5 c5 hw5 hR5) ?_; rintro e w6 ⟨rfl, hb6⟩; have hw6 : Below w4.heap.size w4 w6 := hw5.trans (hb6.mono hw5.size)))
  all_goals
    have HW := Lib.hid (HFB.out.trans (hw6.mono HFB.out.size))
    clear hb5 hb6 hw5 hw6 hR5
    go_wp2_with fail
    go_ret
    exact ⟨rfl, HW.out⟩
end Go.Proofs.Ytigaondgopahgaa
