/- cover: plain walked. -/
import Derived.Test.YtigaondgopahgaaOt
namespace Go.Proofs.Ytigaondgopahgaa
open Go.RowKit Ty
set_option linter.unusedVariables false
set_option linter.unusedSimpArgs false
attribute [local go_sem] Oper.semAt_some
theorem partss_at : ∀ {ts : List Ty} {i : Nat} {p : Ty}, ts[i]? = some p → partss p.ks + 1 ≤ partss ts := fun {ts i p} h => by
  have := partss_mem (List.mem_of_getElem? h)
  obtain ⟨k, nm, n, ks⟩ := p
  unfold parts at this
  exact this
theorem plain_two {p : Ty} (h : p.k = 2) : (Ty.plain p).k = 1 ∧ (Ty.plain p).nm = [] ∧ (Ty.plain p).n = p.n := by
  obtain ⟨k, nm, n, ks⟩ := p
  have h : k = 2 := h
  subst h
  rw [Ty.plain]
  exact ⟨rfl, rfl, rfl⟩
theorem plain_ok {p : Ty} (h : p.ok) : (Ty.plain p).ok := by
  obtain ⟨h1, h2, h3⟩ := h
  by_cases hk : p.k = 2
  · obtain ⟨e1, e2, e3⟩ := plain_two hk
    exact ⟨by rw [e1]; decide, by rw [e3]; exact h2, by rw [e2]; exact Nat.zero_le _⟩
  · obtain ⟨e1, e2, e3⟩ := Ty.plain_not hk
    exact ⟨by rw [e1]; exact h1, by rw [e3]; exact h2, by rw [e2]; exact h3⟩
theorem off_one (w : World) (q i : Nat) (u : Value) : Off (fun k => k = q) w (w.setCell ⟨q, i, none⟩ u) := ⟨rfl, rfl, rfl, by simp [World.setCell], fun k _ hk => Below.heap_setCell w ⟨q, i, none⟩ u k hk⟩
/-- One round, behind the call. -/
theorem plain_step {w wr w1 w2 w3 w4 : World} {v : Value} {es : List Te} {p : Ty} {A2 : Option Addr} {tl c2 q : Nat} {cs : List Value}
    (hO : PtO (fun b => w.heap.size ≤ b) w.heap.size wr v es) (hb0 : Below w.heap.size w wr) (hb1 : Below wr.heap.size wr w1) (hq : wr.heap.size = q) (hn1 : w1.heap.size = q + 1)
    (hP2 : PAt (fun b => w1.heap.size ≤ b) w2 A2 tl c2 (p.ks.map Ty.plain)) (hb2 : Below w1.heap.size w1 w2) (hok : p.ok) (h3 : w2.setCell ⟨q, 3, none⟩ (.slice A2 tl c2) = w3)
    (hcs : Te.cells ⟨Ty.plain p, A2, c2⟩ = cs) (h4 : w3.alloc (.cells cs.toArray 40) = w4) (hl : (es.length + 1) * 56 ≤ 140737488351232) :
    ∃ v5 w5, (Builtin.append_ #[22, 22] 22 #[v, .slice (some ⟨w3.heap.size, 0, none⟩) 1 1]).run Try.prog w4 = .ok v5 w5 ∧ PtO (fun b => w.heap.size ≤ b) w.heap.size w5 v5 (es ++ [⟨Ty.plain p, A2, c2⟩]) ∧ Below w.heap.size w w5 := by
  have h02 : Below wr.heap.size wr w2 := hb1.trans (hb2.mono hb1.size)
  have h03 : Below wr.heap.size wr w3 := by rw [← h3]; exact h02.setCell (p := ⟨q, 3, none⟩) (by show wr.heap.size ≤ q; omega) _
  have h34 : Below w3.heap.size w3 w4 := by rw [← h4]; exact (Below.refl _ _).alloc (Nat.le_refl _) _
  have h04 : Below wr.heap.size wr w4 := h03.trans (h34.mono h03.size)
  have hO4 := hO.below h04
  have hB4 : Blk w4 w3.heap.size 40 cs.toArray := by rw [← h4]; exact Blk.new _ _ _
  have hin : Te.in_ (fun k => w.heap.size ≤ k ∧ v.ownBlock ≠ some k) w4 ⟨Ty.plain p, A2, c2⟩ := by
    have ho := off_one w2 q 3 (.slice A2 tl c2)
    rw [h3] at ho
    have ha : Te.in_ (fun b => w1.heap.size ≤ b) w2 ⟨Ty.plain p, A2, c2⟩ := by
      have e : (Ty.plain p).ks = p.ks.map Ty.plain := Ty.plain_ks p
      refine ⟨?_, plain_ok hok, ?_, hP2.cap⟩
      · show Ty.At _ w2 A2 (Ty.plain p).ks
        rw [e]; exact hP2.at_
      · show (Ty.plain p).ks.length ≤ c2
        rw [e, hP2.len]; exact hP2.le
    refine ((ha.off ho fun b hb e => by omega).bel h34).mono fun b hb => ⟨?_, fun e => ?_⟩
    · have := hb0.size; have := hb1.size; omega
    · have := (hO.own.lt b e).2
      omega
  have hs := h04.size
  obtain ⟨v5, w5, hr, hP, hg⟩ := hO4.appW (Nat.le_trans hb0.size hs) [⟨Ty.plain p, A2, c2⟩] ⟨w3.heap.size, 0, none⟩ 1 1 rfl (fun j u hj => by
    rw [add_off, Nat.zero_add, hB4.cell, List.getElem?_toArray, ← hcs]
    simpa [flatE] using hj) (fun e he => by rw [List.mem_singleton.1 he]; exact hin) hl
  exact ⟨v5, w5, hr, hP, (hb0.trans (h04.mono hb0.size)).trans (hO4.bel hg (Nat.le_refl _) (Nat.le_trans hb0.size hs))⟩
set_option maxRecDepth 100000 in
set_option maxHeartbeats 8000000 in
theorem plain_any : ∀ (N : Nat) (ts : List Ty), partss ts ≤ N → ∀ (A : Option Addr) (n c : Nat) (w : World), PAt Everywhere w A n c ts → n * 56 ≤ 140737488351232 → lights ts →
    Calls Try.prog 12 #[.slice A n c] w fun e w' => ∃ A' c', e = .returned (.slice A' n c') ∧ PAt (fun b => w.heap.size ≤ b) w' A' n c' (ts.map plain) ∧ (A' = none → c' = 0) ∧ Below w.heap.size w w' := by
  intro N
  induction N using Nat.strongRecOn with
  | ind N ih =>
  intro ts hN A n c w hA hn hl
  go_enter Try.func12, Try.ntmps12
  go_wp2_with fail
  go_loopw [3, 4] (fun v3 v4 wr => ∃ (i : Nat) (es : List Te), i ≤ n ∧ v4 = .int .i64 (i : Int) ∧ Hid (PtO (fun b => w.heap.size ≤ b) w.heap.size wr v3 es ∧ es.map Te.t = (ts.take i).map plain ∧ Below w.heap.size w wr)) (fun _ v4 _ => n - (intOf v4).toNat)
  case atStart => exact ⟨0, [], Nat.zero_le _, rfl, Lib.hid ⟨PtO.nil _ _ _, rfl, Below.refl _ _⟩⟩
  case round =>
    obtain ⟨i, es, hi, rfl, HI⟩ := hrel
    by_cases hlt : i < n
    · have hd : decide ((i : Int) < (n : Int)) = true := by simpa using hlt
      obtain ⟨p, hp⟩ : ∃ p, ts[i]? = some p := ⟨_, List.getElem?_eq_getElem (by rw [hA.len]; exact hlt)⟩
      obtain ⟨b, off, Ak, ck, hAe, _, hbl, z0, z1, z2, z3, hok, hlc, hcm, hAt⟩ := hA.at_.get hp
      subst hAe
      replace z0 := (HI.out.2.2.cell (p := ⟨b, _, none⟩) hbl).trans z0
      replace z1 := (HI.out.2.2.cell (p := ⟨b, _, none⟩) hbl).trans z1
      replace z2 := (HI.out.2.2.cell (p := ⟨b, _, none⟩) hbl).trans z2
      replace z3 := (HI.out.2.2.cell (p := ⟨b, _, none⟩) hbl).trans z3
      obtain ⟨tl, htl⟩ : ∃ tl, p.ks.length = tl := ⟨_, rfl⟩
      rw [htl] at z3
      have hlp := light_ks (lights_mem hl (List.mem_of_getElem? hp))
      have HK : Hid (partss p.ks < N ∧ (∀ W, Below wr.heap.size wr W → PAt Everywhere W Ak tl ck p.ks) ∧ tl * 56 ≤ 140737488351232 ∧ lights p.ks) := Lib.hid ⟨by have := partss_at hp; omega, fun W hW => ⟨htl, by omega, hcm, (hAt.bel (HI.out.2.2)).bel hW⟩, by rw [← htl]; exact hlp.1, hlp.2⟩
      have HZ := Lib.hid (And.intro hp (And.intro hok htl))
      have hcap := hA.cap
      have hle := hA.le
      clear hok hlc hcm hAt hlp htl hp
      unfold maxLen at hcap
      by_cases hk2 : p.k = 2
      · have hkk : ((p.k : Int) == 2) = true := by rw [hk2]; rfl
        go_upto_region 9 with fail
        obtain ⟨w1, hw1⟩ : ∃ W, wr.alloc (.cells #[.int .u8 1, .string ⟨#[]⟩, .int .i64 p.n, .slice Ak tl ck] 40) = W := ⟨_, rfl⟩
        have hb1 : Below wr.heap.size wr w1 := by rw [← hw1]; exact (Below.refl _ _).alloc (Nat.le_refl _) _
        have hB1 : Blk w1 wr.heap.size 40 #[.int .u8 1, .string ⟨#[]⟩, .int .i64 p.n, .slice Ak tl ck] := by rw [← hw1]; exact Blk.new _ _ _
        have hn1 : w1.heap.size = wr.heap.size + 1 := by rw [← hw1]; simp
        obtain ⟨q, hq⟩ : ∃ q, wr.heap.size = q := ⟨_, rfl⟩
        rw [hq] at hB1 hn1
        rw [hw1, hq]
        have HQ := Lib.hid hq
        clear hw1 hq
        have x3 : w1.cell? ⟨q, 3, none⟩ = some (.slice Ak tl ck) := hB1.cell 3
        clear z0 z1 z2 z3 hkk
        go_wp2_with fail
        refine (ih (partss p.ks) HK.out.1 p.ks (Nat.le_refl _) Ak tl ck w1 (HK.out.2.1 w1 hb1) HK.out.2.2.1 HK.out.2.2.2).mono ?_
        rintro e w2 ⟨A2, c2, rfl, hP2, hA2, hb2⟩
        have hB2 := hB1.below hb2 hB1.lt
        have y0 := hB2.cell 0
        have y1 := hB2.cell 1
        have y2 := hB2.cell 2
        have y3 := hB2.cell 3
        have yf := hB2.frozen
        simp only [List.getElem?_toArray, List.getElem?_cons_zero, List.getElem?_cons_succ] at y0 y1 y2 y3
        clear x3
        obtain ⟨w3, hw3⟩ : ∃ W, w2.setCell ⟨q, 3, none⟩ (.slice A2 tl c2) = W := ⟨_, rfl⟩
        have HW3 := Lib.hid hw3
        clear hw3
        go_upto_region 10 with fail
        (try rw [HW3.out])
        have hB3 : Blk w3 q 40 #[.int .u8 1, .string ⟨#[]⟩, .int .i64 p.n, .slice A2 tl c2] := by
          have := hB2.set_ 3 (.slice A2 tl c2)
          rw [HW3.out] at this
          exact this
        replace y0 := hB3.cell 0
        replace y1 := hB3.cell 1
        replace y2 := hB3.cell 2
        replace y3 := hB3.cell 3
        simp only [List.getElem?_toArray, List.getElem?_cons_zero, List.getElem?_cons_succ] at y0 y1 y2 y3
        clear yf hB2
        obtain ⟨w4, hw4⟩ : ∃ W, w3.alloc (.cells #[.int .u8 1, .string ⟨#[]⟩, .int .i64 p.n, .slice A2 tl c2] 40) = W := ⟨_, rfl⟩
        have hes : es.length = i := by
          have := congrArg List.length HI.out.2.1
          rw [List.length_map, List.length_map, List.length_take, hA.len] at this
          omega
        obtain ⟨v5, w5, hrun, hP5, hb5⟩ := plain_step (cs := [.int .u8 1, .string ⟨#[]⟩, .int .i64 p.n, .slice A2 tl c2]) HI.out.1 HI.out.2.2 hb1 HQ.out hn1 hP2 hb2 HZ.out.2.1 HW3.out (by
          have e1 := plain_two hk2
          show [Value.int .u8 ((Ty.plain p).k : Int), .string (str (Ty.plain p).nm), .int .i64 (Ty.plain p).n, .slice A2 (Ty.plain p).ks.length c2] = _
          rw [Ty.plain_len, HZ.out.2.2, e1.1, e1.2.1, e1.2.2]
          try rfl) hw4 (by rw [hes]; omega)
        have HN : Hid (PtO (fun b => w.heap.size ≤ b) w.heap.size w5 v5 (es ++ [(⟨Ty.plain p, A2, c2⟩ : Te)]) ∧ (es ++ [(⟨Ty.plain p, A2, c2⟩ : Te)]).map Te.t = (ts.take (i + 1)).map plain ∧ Below w.heap.size w w5) := Lib.hid ⟨hP5, by
          rw [List.map_append, HI.out.2.1, List.take_add_one, HZ.out.1, List.map_append]
          rfl, hb5⟩
        have HR := Lib.hid hrun
        have HW4 := Lib.hid hw4
        clear hP2 hA2 hb2 hb1 hB1 hB3 hn1 hP5 hb5 hrun hes
        have hw4 := HW4.out
        have hrun := HR.out
        go_wp2_with (at_builtin; refine wpList_app rfl _ _ 22 rfl _ _ _ _ rfl rfl hrun ?_)
        go_roundw
        case rel => exact ⟨i + 1, _, by omega, by go_num, HN⟩
        case measure => simp [intOf]; omega
      · have hkk : ((p.k : Int) == 2) = false := by simp; omega
        go_upto_region 9 with fail
        obtain ⟨w1, hw1⟩ : ∃ W, wr.alloc (.cells #[.int .u8 (p.k : Int), .string (str p.nm), .int .i64 p.n, .slice Ak tl ck] 40) = W := ⟨_, rfl⟩
        have hb1 : Below wr.heap.size wr w1 := by rw [← hw1]; exact (Below.refl _ _).alloc (Nat.le_refl _) _
        have hB1 : Blk w1 wr.heap.size 40 #[.int .u8 (p.k : Int), .string (str p.nm), .int .i64 p.n, .slice Ak tl ck] := by rw [← hw1]; exact Blk.new _ _ _
        have hn1 : w1.heap.size = wr.heap.size + 1 := by rw [← hw1]; simp
        obtain ⟨q, hq⟩ : ∃ q, wr.heap.size = q := ⟨_, rfl⟩
        rw [hq] at hB1 hn1
        rw [hw1, hq]
        have HQ := Lib.hid hq
        clear hw1 hq
        have x3 : w1.cell? ⟨q, 3, none⟩ = some (.slice Ak tl ck) := hB1.cell 3
        clear z0 z1 z2 z3 hkk
        go_wp2_with fail
        refine (ih (partss p.ks) HK.out.1 p.ks (Nat.le_refl _) Ak tl ck w1 (HK.out.2.1 w1 hb1) HK.out.2.2.1 HK.out.2.2.2).mono ?_
        rintro e w2 ⟨A2, c2, rfl, hP2, hA2, hb2⟩
        have hB2 := hB1.below hb2 hB1.lt
        have y0 := hB2.cell 0
        have y1 := hB2.cell 1
        have y2 := hB2.cell 2
        have y3 := hB2.cell 3
        have yf := hB2.frozen
        simp only [List.getElem?_toArray, List.getElem?_cons_zero, List.getElem?_cons_succ] at y0 y1 y2 y3
        clear x3
        obtain ⟨w3, hw3⟩ : ∃ W, w2.setCell ⟨q, 3, none⟩ (.slice A2 tl c2) = W := ⟨_, rfl⟩
        have HW3 := Lib.hid hw3
        clear hw3
        go_upto_region 10 with fail
        (try rw [HW3.out])
        have hB3 : Blk w3 q 40 #[.int .u8 (p.k : Int), .string (str p.nm), .int .i64 p.n, .slice A2 tl c2] := by
          have := hB2.set_ 3 (.slice A2 tl c2)
          rw [HW3.out] at this
          exact this
        replace y0 := hB3.cell 0
        replace y1 := hB3.cell 1
        replace y2 := hB3.cell 2
        replace y3 := hB3.cell 3
        simp only [List.getElem?_toArray, List.getElem?_cons_zero, List.getElem?_cons_succ] at y0 y1 y2 y3
        clear yf hB2
        obtain ⟨w4, hw4⟩ : ∃ W, w3.alloc (.cells #[.int .u8 (p.k : Int), .string (str p.nm), .int .i64 p.n, .slice A2 tl c2] 40) = W := ⟨_, rfl⟩
        have hes : es.length = i := by
          have := congrArg List.length HI.out.2.1
          rw [List.length_map, List.length_map, List.length_take, hA.len] at this
          omega
        obtain ⟨v5, w5, hrun, hP5, hb5⟩ := plain_step (cs := [.int .u8 (p.k : Int), .string (str p.nm), .int .i64 p.n, .slice A2 tl c2]) HI.out.1 HI.out.2.2 hb1 HQ.out hn1 hP2 hb2 HZ.out.2.1 HW3.out (by
          have e1 := plain_not hk2
          show [Value.int .u8 ((Ty.plain p).k : Int), .string (str (Ty.plain p).nm), .int .i64 (Ty.plain p).n, .slice A2 (Ty.plain p).ks.length c2] = _
          rw [Ty.plain_len, HZ.out.2.2, e1.1, e1.2.1, e1.2.2]
          try rfl) hw4 (by rw [hes]; omega)
        have HN : Hid (PtO (fun b => w.heap.size ≤ b) w.heap.size w5 v5 (es ++ [(⟨Ty.plain p, A2, c2⟩ : Te)]) ∧ (es ++ [(⟨Ty.plain p, A2, c2⟩ : Te)]).map Te.t = (ts.take (i + 1)).map plain ∧ Below w.heap.size w w5) := Lib.hid ⟨hP5, by
          rw [List.map_append, HI.out.2.1, List.take_add_one, HZ.out.1, List.map_append]
          rfl, hb5⟩
        have HR := Lib.hid hrun
        have HW4 := Lib.hid hw4
        clear hP2 hA2 hb2 hb1 hB1 hB3 hn1 hP5 hb5 hrun hes
        have hw4 := HW4.out
        have hrun := HR.out
        go_wp2_with (at_builtin; refine wpList_app rfl _ _ 22 rfl _ _ _ _ rfl rfl hrun ?_)
        go_roundw
        case rel => exact ⟨i + 1, _, by omega, by go_num, HN⟩
        case measure => simp [intOf]; omega
    · obtain rfl : i = n := by omega
      have hd : decide ((i : Int) < (i : Int)) = false := by simp
      obtain ⟨A', c', hv, hS⟩ := HI.out.1.shape
      have hes : es.length = i := by
        have := congrArg List.length HI.out.2.1
        rw [List.length_map, List.length_map, List.length_take, hA.len] at this
        omega
      have hN0 : A' = none → c' = 0 := fun e => by
        subst e
        rcases HI.out.1.own.2 with ⟨h0, _⟩ | ⟨g, cap, cur, h0, _⟩
        · rw [hv] at h0; injection h0
        · rw [hv] at h0; injection h0 with h1; cases h1
      rw [HI.out.2.1, List.take_of_length_le (by rw [hA.len]; omega), hes] at hS
      rw [hes] at hv
      subst hv
      have HF := Lib.hid (And.intro (hS.mono (G := fun b => w.heap.size ≤ b) fun b hb => hb.elim id id) (And.intro hN0 HI.out.2.2))
      clear hS hN0 HI hes
      go_wp2_with fail
      go_ret
      exact ⟨_, _, rfl, HF.out.1, HF.out.2.1, HF.out.2.2⟩
end Go.Proofs.Ytigaondgopahgaa
