/- types: Mark, Back. -/
import Derived.Test.YtndhojnfjlkojaaX
import Derived.Lib.MinMax
import Derived.BigQuiet
namespace Go.Proofs.Ytndhojnfjlkojaa
open Go.RowKit
set_option linter.unusedVariables false
set_option linter.unusedSimpArgs false
attribute [local go_sem] Oper.semAt_some
open Ty
theorem look_app2 (n : Int) (t : Ty) : ∀ (l : List (Int × Ty)) (x : Int), look (l ++ [(n, t)]) x = match look l x with | some u => some u | none => if n = x then some t else none
  | [], x => rfl
  | p :: l, x => by
    rw [List.cons_append, look, look]
    by_cases e : p.1 = x
    · rw [if_pos e, if_pos e]
    · rw [if_neg e, if_neg e, look_app2 n t l x]
theorem filter_less_mem {p q : Nat → Bool} : ∀ {l : List Nat}, (∀ x ∈ l, p x = true → q x = true) → (l.filter p).length ≤ (l.filter q).length
  | [], _ => Nat.le_refl _
  | y :: l, h => by
    have ih := filter_less_mem (p := p) (q := q) (l := l) fun x hx => h x (List.mem_cons_of_mem _ hx)
    rw [List.filter_cons, List.filter_cons]
    by_cases h1 : p y = true
    · rw [if_pos h1, if_pos (h y (List.mem_cons_self ..) h1), List.length_cons, List.length_cons]; omega
    · rw [if_neg h1]
      split
      · rw [List.length_cons]; omega
      · exact ih
theorem filter_one {p q : Nat → Bool} {x0 : Nat} (h : ∀ x, x ≠ x0 → p x = true → q x = true) : ∀ {l : List Nat}, l.Nodup → (l.filter p).length ≤ (l.filter q).length + 1
  | [], _ => Nat.zero_le _
  | y :: l, hn => by
    have hy := (List.nodup_cons.1 hn).1
    have hl := (List.nodup_cons.1 hn).2
    by_cases e : y = x0
    · subst e
      have := filter_less_mem (p := p) (q := q) (l := l) fun x hx hp => h x (fun e => hy (e ▸ hx)) hp
      rw [List.filter_cons, List.filter_cons]
      split
      · rw [List.length_cons]
        split
        · rw [List.length_cons]; omega
        · omega
      · split
        · rw [List.length_cons]; omega
        · omega
    · have ih := filter_one h hl
      rw [List.filter_cons, List.filter_cons]
      by_cases h1 : p y = true
      · rw [if_pos h1, if_pos (h y e h1), List.length_cons, List.length_cons]; omega
      · rw [if_neg h1]
        split
        · rw [List.length_cons]; omega
        · exact ih
theorem nfree_one {N : Nat} {σ σ' : Int → Option Ty} (n : Int) (h : ∀ x, x ≠ n → σ x = none → σ' x = none) : nfree N σ ≤ nfree N σ' + 1 :=
  filter_one (x0 := n.toNat) (fun x hx hp => by
    by_cases e : (x : Int) = n
    · exact absurd (by omega) hx
    · have : σ x = none := by simpa using hp
      rw [h x e this]; rfl) List.nodup_range
theorem nfree_nil (N : Nat) : nfree N (look []) = N := by
  unfold nfree
  have : ((List.range N).filter fun (x : Nat) => (look [] (x : Int)).isNone) = List.range N := List.filter_eq_self.2 fun x _ => rfl
  rw [this, List.length_range]
theorem nfree_ge (N : Nat) : ∀ l : List (Int × Ty), N ≤ l.length + nfree N (look l)
  | [] => by rw [nfree_nil]; omega
  | p :: l => by
    have h1 := nfree_ge N l
    have h2 : nfree N (look l) ≤ nfree N (look (p :: l)) + 1 := nfree_one p.1 fun x hx h => by rw [look, if_neg (fun e => hx e.symm)]; exact h
    rw [List.length_cons]; omega
theorem cnt_last {N : Nat} {l : List (Int × Ty)} {n : Int} {t : Ty} (h : (l ++ [(n, t)]).length + nfree N (look (l ++ [(n, t)])) ≤ N) : look l n = none ∧ 0 ≤ n ∧ n < (N : Int) ∧ l.length + nfree N (look l) ≤ N := by
  have h1 := nfree_ge N l
  rw [List.length_append, List.length_singleton] at h
  have hk : look l n = none ∧ 0 ≤ n ∧ n < (N : Int) := by
    rcases Decidable.em (look l n = none ∧ 0 ≤ n ∧ n < (N : Int)) with hk | hk
    · exact hk
    exfalso
    have : nfree N (look l) ≤ nfree N (look (l ++ [(n, t)])) := filter_less_mem fun x hx hp => by
      have hxN : x < N := List.mem_range.1 hx
      have hp2 : look l (x : Int) = none := by simpa using hp
      rw [look_app2, hp2]
      by_cases e : n = (x : Int)
      · exact absurd ⟨by rw [e]; exact hp2, by omega, by omega⟩ hk
      · rw [if_neg e]; rfl
    omega
  refine ⟨hk.1, hk.2.1, hk.2.2, ?_⟩
  have : nfree N (look l) ≤ nfree N (look (l ++ [(n, t)])) + 1 := nfree_one n fun x hx h => by rw [look_app2, h]; exact if_neg (fun e => hx e.symm)
  omega
theorem own_cut1 {w : World} {e : TypeId} {b c n : Nat} {xs : List Value} (h : w.ownsRow 0 e 1 (.slice (some ⟨b, 0, none⟩) (n + 1) c) (n + 1) xs) : w.ownsRow 0 e 1 (.slice (some ⟨b, 0, none⟩) n c) n (xs.take n) := by
  have h0 := h.1
  rcases h.2 with ⟨h0, _⟩ | ⟨g, cap, cur, hv, k0, k1, k2, k3, k4, k5⟩
  · cases h0
  · cases hv
    refine ⟨by rw [List.length_take]; omega, .inr ⟨b, c, cur, rfl, k0, k1, by omega, k3, k4, ?_⟩⟩
    rw [← k5, List.take_take]
    congr 1
    omega
/-- The latest binding undone. -/
theorem BM.back {w : World} {g N : Nat} {l : List (Int × Ty)} {vb vt : Value} {n : Int} {t : Ty} (h : BM w g N (l ++ [(n, t)]) vb vt) : ∃ (n' bb cb tt ct : Nat), n = (n' : Int) ∧ n' < N ∧ vb = .slice (some ⟨bb, 0, none⟩) N cb ∧ vt = .slice (some ⟨tt, 0, none⟩) (l.length + 1) ct ∧ l.length + 1 ≤ ct ∧ ct ≤ maxLen ∧ N ≤ cb ∧ cb ≤ maxLen ∧
    w.cell? ⟨tt, l.length, none⟩ = some (.int .i64 (n' : Int)) ∧ (∃ u, w.cell? ⟨bb, n', none⟩ = some u) ∧ (∀ j, w.frozen? ⟨bb, j, none⟩ = false) ∧ bb ≠ g ∧
    BM ((w.setCell ⟨bb, n', none⟩ (.pointer none)).setCell ⟨g, 1, none⟩ (.slice (some ⟨tt, 0, none⟩) l.length ct)) g N l vb (.slice (some ⟨tt, 0, none⟩) l.length ct) ∧ Go w g vb vt ((w.setCell ⟨bb, n', none⟩ (.pointer none)).setCell ⟨g, 1, none⟩ (.slice (some ⟨tt, 0, none⟩) l.length ct)) vb (.slice (some ⟨tt, 0, none⟩) l.length ct) := by
  obtain ⟨c1, c2, c3, c4⟩ := cnt_last h.cnt
  obtain ⟨n', rfl⟩ : ∃ n' : Nat, n = (n' : Int) := ⟨n.toNat, by omega⟩
  have hn : n' < N := by omega
  obtain ⟨ps, h1, h2⟩ := h.bnd
  obtain ⟨bb, cb, rfl, hbb, hc, hf⟩ := own_get1 h1 hn
  obtain ⟨pv0, hpv0, _⟩ := h2 n' hn
  have hbg : bb ≠ g := fun e => h.nb (by rw [← e]; rfl)
  have ht := h.trl
  rw [List.length_append, List.length_singleton] at ht
  obtain ⟨tt, ct, rfl, htt, hct, htf⟩ := own_get1 ht (Nat.lt_succ_self l.length)
  obtain ⟨A1, c1', e, k1, k2⟩ := own_shape1 h1
  cases e
  obtain ⟨A2, c2', e, k3, k4⟩ := own_shape1 ht
  cases e
  rw [List.map_append, List.getElem?_append_right (by simp), List.length_map, Nat.sub_self] at hct
  have htg : tt ≠ g := fun e => h.nt (by rw [← e]; rfl)
  have hbt : bb ≠ tt := fun e => h.bt bb rfl (by rw [e]; rfl)
  have ho1 : Off (fun b => b = bb) w (w.setCell ⟨bb, n', none⟩ (.pointer none)) := Off.setc _ _ _ _
  have hgo : Go w g (.slice (some ⟨bb, 0, none⟩) N cb) (.slice (some ⟨tt, 0, none⟩) (l.length + 1) ct) ((w.setCell ⟨bb, n', none⟩ (.pointer none)).setCell ⟨g, 1, none⟩ (.slice (some ⟨tt, 0, none⟩) l.length ct)) (.slice (some ⟨bb, 0, none⟩) N cb) (.slice (some ⟨tt, 0, none⟩) l.length ct) :=
    ⟨(ho1.mono fun b _ e => .inr (.inl (by rw [e]; rfl))).trans ((Off.setc _ g 1 _).mono fun b _ e => .inl e), fun b hb => .inl hb⟩
  refine ⟨n', bb, cb, tt, ct, rfl, hn, rfl, rfl, k3, k4, k1, k2, hct, ⟨_, hc.trans hpv0⟩, hf, hbg, ⟨?_, ⟨ps.set n' (.pointer none), ?_, fun x hx => ?_⟩, ?_, h.nb, h.nt, h.bt, c4, h.few⟩, hgo⟩
  · have := (h.blk.far (p := ⟨bb, n', none⟩) (fun e => hbg e.symm) (.pointer none)).set_ 1 (.slice (some ⟨tt, 0, none⟩) l.length ct)
    simpa using this
  · exact ownsRow_setCell_other (own_set1 h1 n' (.pointer none)) (a := ⟨g, 1, none⟩) (fun e => hbg (Option.some.inj e)) _
  · by_cases e : n' = x
    · subst e
      have hpl : n' < ps.length := by rw [h1.1]; omega
      exact ⟨none, by rw [List.getElem?_set_self hpl], .inl ⟨c1, rfl⟩⟩
    · obtain ⟨pv, k1, k4⟩ := h2 x hx
      refine ⟨pv, by rw [List.getElem?_set_ne e]; exact k1, ?_⟩
      have : look (l ++ [((n' : Int), t)]) (x : Int) = look l (x : Int) := by
        rw [look_app2]
        cases look l (x : Int) with
        | some u => rfl
        | none => exact if_neg (fun h => e (by omega))
      rw [this] at k4
      exact hgo.bound k4
  · have e2 := own_cut1 ht
    have e3 : List.take l.length ((l ++ [((n' : Int), t)]).map fun p => Value.int .i64 p.1) = l.map fun p => Value.int .i64 p.1 := by
      rw [List.map_append, List.take_append_of_le_length (by simp), List.take_of_length_le (by simp)]
    rw [e3] at e2
    exact ownsRow_setCell_other (ownsRow_setCell_other e2 (a := ⟨bb, n', none⟩) (fun e => hbt (Option.some.inj e).symm) _) (a := ⟨g, 1, none⟩) (fun e => htg (Option.some.inj e)) _
set_option maxRecDepth 20000 in
set_option maxHeartbeats 2000000 in
theorem mark_any {w : World} {g N : Nat} {l : List (Int × Ty)} {vb vt : Value} (h : BM w g N l vb vt) :
    Calls Try.prog 21 #[.pointer (some ⟨g, 0, none⟩)] w fun e w' => e = .returned (.int .i64 (l.length : Int)) ∧ w' = w := by
  obtain ⟨A, c, rfl, _, _⟩ := own_shape1 h.trl
  have d1 := h.blk.cell 1
  simp only [List.getElem?_toArray, List.getElem?_cons_zero, List.getElem?_cons_succ] at d1
  obtain ⟨n, hn⟩ : ∃ n, l.length = n := ⟨_, rfl⟩
  rw [hn] at d1 ⊢
  clear hn h
  go_enter Try.func21, Try.ntmps21
  go_wp2_with fail
  go_ret
  exact ⟨rfl, rfl⟩
set_option maxRecDepth 20000 in
theorem mark_nil (w : World) : Calls Try.prog 21 #[.pointer none] w fun e w' => e = .returned (.int .i64 0) ∧ w' = w := by
  go_enter Try.func21, Try.ntmps21
  go_wp2_with fail
  go_ret
  exact ⟨rfl, rfl⟩
/-- How many bindings a book in memory tells. -/
def tlen (w : World) (g : Nat) : Nat := match w.cell? ⟨g, 1, none⟩ with
  | some (.slice _ n _) => n
  | _ => 0
theorem BM.tlen {w : World} {g N : Nat} {l : List (Int × Ty)} {vb vt : Value} (h : BM w g N l vb vt) : tlen w g = l.length := by
  obtain ⟨A, c, rfl, _, _⟩ := own_shape1 h.trl
  unfold Go.Proofs.Ytndhojnfjlkojaa.tlen
  rw [h.blk.cell 1]
  rfl
theorem last_or {l m : List (Int × Ty)} {j : Nat} (h : (l ++ m).length = l.length + (j + 1)) : ∃ m' n t, m = m' ++ [(n, t)] ∧ m'.length = j := by
  rw [List.length_append] at h
  have hm : m ≠ [] := fun e => by rw [e] at h; simp at h
  refine ⟨m.dropLast, (m.getLast hm).1, (m.getLast hm).2, (List.dropLast_concat_getLast hm).symm, by rw [List.length_dropLast]; omega⟩
set_option maxRecDepth 20000 in
set_option maxHeartbeats 4000000 in
theorem back_any {w : World} {g N : Nat} {l m : List (Int × Ty)} {vb vt : Value} (h : BM w g N (l ++ m) vb vt) :
    Calls Try.prog 26 #[.pointer (some ⟨g, 0, none⟩), .int .i64 (l.length : Int)] w fun e w' => e = .returned (.tuple #[]) ∧ ∃ vt', BM w' g N l vb vt' ∧ Go w g vb vt w' vb vt' := by
  obtain ⟨ll, hll⟩ : ∃ ll, l.length = ll := ⟨_, rfl⟩
  have hfew : ll ≤ 100000 := by have h1 := h.cnt; have h2 := h.few; rw [List.length_append] at h1; omega
  rw [hll]
  have HH := Lib.hid (And.intro h hll)
  clear h hll
  go_enter Try.func26, Try.ntmps26
  go_wp2_with fail
  go_loopw [4] (fun _ wr => ∃ (m' : List (Int × Ty)) (vt' : Value), Hid (BM wr g N (l ++ m') vb vt' ∧ Go w g vb vt wr vb vt')) (fun _ wr => tlen wr g)
  case atStart => exact ⟨m, vt, Lib.hid ⟨HH.out.1, Go.refl _ _ _ _⟩⟩
  case round =>
    obtain ⟨m', vt', hJ⟩ := hrel
    have HM := Lib.hid (mark_any hJ.out.1)
    obtain ⟨j, hj⟩ : ∃ j, m'.length = j := ⟨_, rfl⟩
    have hlen : (l ++ m').length = ll + j := by rw [List.length_append, HH.out.2, hj]
    rw [hlen] at HM
    have hjf : ll + j ≤ 100000 := by have h1 := hJ.out.1.cnt; have h2 := hJ.out.1.few; omega
    cases j with
    | zero =>
      have hm' : m' = [] := List.eq_nil_of_length_eq_zero hj
      subst hm'
      have HN : Hid (BM wr g N l vb vt' ∧ Go w g vb vt wr vb vt') := Lib.hid ⟨by have := hJ.out.1; rwa [List.append_nil] at this, hJ.out.2⟩
      rw [Nat.add_zero] at HM
      have hq : decide ((ll : Int) > max (ll : Int) 0) = false := by simp
      clear hlen hj hjf hJ
      go_wp2_with (go_at_call 21; refine HM.out.mono ?_; rintro e w2 ⟨rfl, rfl⟩)
      go_end0
      exact ⟨rfl, vt', HN.out⟩
    | succ j =>
      obtain ⟨m2, n, t, rfl, hm2⟩ := last_or (l := l) (m := m') (j := j) (by rw [hlen, HH.out.2])
      rw [← List.append_assoc] at hJ
      have hd := (hJ.out.1.bel (Below.refl wr.heap.size wr).drew).back
      obtain ⟨n', bb, cb, tt, ct, rfl, hn, rfl, rfl, k1, k2, k3, k4, c0, ⟨u0, c1⟩, c2, hbg, hBn, hgo⟩ := hd
      have hgo2 := (hJ.out.2.trans (Go.bel _ _ _ (Below.refl wr.heap.size wr).drew)).trans hgo
      clear hgo
      have g0 := hJ.out.1.blk.cell 0
      have g1 := hJ.out.1.blk.cell 1
      simp only [List.getElem?_toArray, List.getElem?_cons_zero, List.getElem?_cons_succ] at g0 g1
      obtain ⟨p, hp⟩ : ∃ p, (l ++ m2).length = p := ⟨_, rfl⟩
      obtain ⟨q, hq⟩ : ∃ q, p + 1 = q := ⟨_, rfl⟩
      have hpj : ll + (j + 1) = q := by rw [← hq, ← hp, List.length_append, HH.out.2, hm2]; omega
      rw [hpj] at HM
      rw [hp] at k1 c0 hBn hgo2 g1
      rw [hq] at k1 g1
      have hq1 : (q : Int) - 1 = (p : Int) := by omega
      have hgt : decide ((q : Int) > max (ll : Int) 0) = true := by simp; omega
      have hpq : p < q := by omega
      have hqb : q ≤ 100000 := by omega
      have hpb : p ≤ 100000 := by omega
      have hgt2 : decide ((q : Int) > (ll : Int)) = true := by simp; omega
      have hgt3 : decide (ll < q) = true := by simp; omega
      have hgt4 : ll < q := by omega
      have hp0 : (p : Int) ≥ 0 := by omega
      obtain ⟨w2, hw2⟩ : ∃ w2, wr.drew.setCell ⟨bb, n', none⟩ (.pointer none) = w2 := ⟨_, rfl⟩
      have e0 : w2.cell? ⟨g, 0, none⟩ = some (.slice (some ⟨bb, 0, none⟩) N cb) := by rw [← hw2]; exact (World.cell?_setCell_far _ _ _ _ hbg).trans g0
      have e1 : w2.cell? ⟨g, 1, none⟩ = some (.slice (some ⟨tt, 0, none⟩) q ct) := by rw [← hw2]; exact (World.cell?_setCell_far _ _ _ _ hbg).trans g1
      have ef : ∀ j, w2.frozen? ⟨g, j, none⟩ = false := by
        rw [← hw2]
        exact ((hJ.out.1.blk.drew).far (p := ⟨bb, n', none⟩) (fun e => hbg e.symm) (.pointer none)).frozen
      rw [hw2] at hBn hgo2
      have HN := Lib.hid (And.intro hBn hgo2)
      have HT : Hid (tlen wr g = p + 1) := Lib.hid (by rw [hJ.out.1.tlen, List.length_append, List.length_singleton, hp])
      have HT2 : Hid (tlen (w2.setCell ⟨g, 1, none⟩ (.slice (some ⟨tt, 0, none⟩) p ct)) g = p) := Lib.hid (by rw [HN.out.1.tlen, hp])
      have HW2 := Lib.hid (show (wr.setCell ⟨bb, n', none⟩ (.pointer none)).drew = w2 from hw2)
      clear hlen hj hjf hfew hJ hBn hgo2 hp hpj hm2 hbg hw2
      go_wp2_with (go_at_call 21; refine HM.out.mono ?_; rintro e w3 ⟨rfl, rfl⟩)
      go_upto_region 2 with fail
      clear hgt hgt2 hgt3 hgt4 hq1
      go_region
      (try rw [HW2.out])
      have hdrp : p ≤ q := by omega
      have hqc : q ≤ ct := k1
      clear g0 g1 c0 c1 c2 HM
      go_wp2_with fail
      go_roundw
      case rel => exact ⟨m2, _, HN⟩
      case measure => rw [HT2.out, HT.out]; omega
set_option maxRecDepth 20000 in
set_option maxHeartbeats 1000000 in
theorem back_nil (n : Int) (hn : -9223372036854775808 ≤ n ∧ n < 9223372036854775808) (w : World) : Calls Try.prog 26 #[.pointer none, .int .i64 n] w fun e w' => e = .returned (.tuple #[]) ∧ w' = w := by
  have HM := Lib.hid (mark_nil w)
  have hq : decide ((0 : Int) > max n 0) = false := by simp; omega
  have hq2 : decide (max n 0 < 0) = false := by simp; omega
  go_enter Try.func26, Try.ntmps26
  go_wp2_with fail
  go_loopw [4] (fun _ wr => wr = w) (fun _ _ => 0)
  case atStart => rfl
  case round =>
    subst hrel
    go_wp2_with (go_at_call 21; refine HM.out.mono ?_; rintro e w3 ⟨rfl, rfl⟩)
    go_end0
    exact ⟨rfl, rfl⟩
end Go.Proofs.Ytndhojnfjlkojaa
