/- heap: Fill. -/
import Derived.Test.YtclkkfffecmjnaaO
namespace Go.Proofs.Ytclkkfffecmjnaa
open Go.RowKit
attribute [local go_sem] Oper.semAt_some
theorem fill_nil (k : Int) (o : Ob) (A : Option Addr) (c : Nat) (w : World) : Calls Try.prog 37 #[.pointer none, .int .i64 k, obv o A c] w fun e w' => e = .returned (.int .i64 2) ∧ Below w.heap.size w w' := by
  have hb := (Below.refl w.heap.size w).alloc (Nat.le_refl _) (obc o A c)
  have H1 := Lib.hid (at_nil k (w.alloc (obc o A c)))
  have HB := Lib.hid hb
  clear hb
  go_enter Try.func37, Try.ntmps37
  go_wp2_with fail
  refine H1.out.mono ?_
  rintro e w1 ⟨rfl, rfl⟩
  go_wp2_with fail
  go_ret
  exact ⟨rfl, HB.out⟩
section
variable {w : World} {M : Mem} {n : Nat} {H : HS}
theorem fill_none (h : HM w M n H) (k : Int) (hk : (Lit.int .i64 k).wf = true) (o : Ob) (A : Option Addr) (c : Nat) (hx : H.obj k = none) : Calls Try.prog 37 #[.pointer (some ⟨M.g, 0, none⟩), .int .i64 k, obv o A c] w fun e w' => e = .returned (.int .i64 7) ∧ Below w.heap.size w w' := by
  have hb := (Below.refl w.heap.size w).alloc (Nat.le_refl _) (obc o A c)
  have H1 := Lib.hid (at_none (h.below hb) k hk hx)
  have HB := Lib.hid hb
  clear hb h
  go_enter Try.func37, Try.ntmps37
  go_wp2_with fail
  refine H1.out.mono ?_
  rintro e w1 ⟨rfl, rfl⟩
  go_wp2_with fail
  go_ret
  exact ⟨rfl, HB.out⟩
theorem fill_state (h : HM w M n H) (k : Int) (hk : (Lit.int .i64 k).wf = true) (o : Ob) (A : Option Addr) (c : Nat) {x : Ho} (hx : H.obj k = some x) (h8 : x.o.k ≠ 8) : Calls Try.prog 37 #[.pointer (some ⟨M.g, 0, none⟩), .int .i64 k, obv o A c] w fun e w' => e = .returned (.int .i64 3) ∧ Below w.heap.size w w' := by
  have hb := (Below.refl w.heap.size w).alloc (Nat.le_refl _) (obc o A c)
  have h0 := h.below hb
  have H1 := Lib.hid (at_some h0 k hk hx)
  obtain ⟨A1, c1, hh⟩ := h0.held x (HS.obj_some hx).1
  obtain ⟨q0, _⟩ := hh.told
  have d8 : ((x.o.k : Int) != 8) = true := by simp; omega
  have HB := Lib.hid hb
  clear hb h h0 hh h8
  go_enter Try.func37, Try.ntmps37
  go_wp2_with fail
  refine H1.out.mono ?_
  rintro e w1 ⟨rfl, rfl⟩
  go_wp2_with fail
  go_ret
  exact ⟨rfl, HB.out⟩
/-- May a stub be this? -/
def fillB (o : Ob) : Bool := Hp.mayO o && !(decide (o.k = 6) || decide (o.k = 7) || decide (o.k = 8))
set_option maxRecDepth 20000 in
set_option maxHeartbeats 1000000 in
theorem fill_arg (h : HM w M n H) (k : Int) (hk : (Lit.int .i64 k).wf = true) (o : Ob) (A : Option Addr) (c : Nat) (ho : OArg w o A) {x : Ho} (hx : H.obj k = some x) (h8 : x.o.k = 8) (hm : fillB o = false) : Calls Try.prog 37 #[.pointer (some ⟨M.g, 0, none⟩), .int .i64 k, obv o A c] w fun e w' => e = .returned (.int .i64 1) ∧ Below w.heap.size w w' := by
  have hb := (Below.refl w.heap.size w).alloc (Nat.le_refl _) (obc o A c)
  have hB := Blk.new w 35 #[.int .u8 (o.k : Int), .int .i64 o.tag, .slice A o.ws.length c, .string (str o.t)]
  have h0 := h.below hb
  have H1 := Lib.hid (at_some h0 k hk hx)
  have H2 := Lib.hid (maybe_any o A c _ (ho.below hb))
  obtain ⟨A1, c1, hh⟩ := h0.held x (HS.obj_some hx).1
  obtain ⟨q0, _⟩ := hh.told
  rw [h8] at q0
  have HB := Lib.hid (And.intro hb hB)
  obtain ⟨m, hmm⟩ : ∃ m, Hp.mayO o = m := ⟨_, rfl⟩
  unfold fillB at hm
  rw [hmm] at H2 hm
  clear hb h h0 hh h8 ho hB hmm
  cases m
  · clear hm
    go_enter Try.func37, Try.ntmps37
    go_wp2_with fail
    refine H1.out.mono ?_
    rintro e w1 ⟨rfl, rfl⟩
    go_wp2_with (go_at_call 66; refine Calls.mono H2.out ?_; rintro e w5 ⟨rfl, hb5⟩)
    go_ret
    exact ⟨rfl, HB.out.1.trans (hb5.mono HB.out.1.size)⟩
  · have hkc : o.k = 6 ∨ o.k = 7 ∨ o.k = 8 := by
      simp at hm
      omega
    clear hm
    by_cases e6 : o.k = 6
    · have d6 : ((o.k : Int) == 6) = true := by rw [e6]; rfl
      clear hkc e6
      go_enter Try.func37, Try.ntmps37
      go_wp2_with fail
      refine H1.out.mono ?_
      rintro e w1 ⟨rfl, rfl⟩
      go_wp2_with (go_at_call 66; refine Calls.mono H2.out ?_; rintro e w5 ⟨rfl, hb5⟩
                   have b0 := (HB.out.2.below hb5 HB.out.2.lt).cell 0
                   simp only [List.getElem?_toArray, List.getElem?_cons_zero] at b0)
      go_ret
      exact ⟨rfl, HB.out.1.trans (hb5.mono HB.out.1.size)⟩
    by_cases e7 : o.k = 7
    · have d6 : ((o.k : Int) == 6) = false := by rw [e7]; rfl
      have d7 : ((o.k : Int) == 7) = true := by rw [e7]; rfl
      clear hkc e6 e7
      go_enter Try.func37, Try.ntmps37
      go_wp2_with fail
      refine H1.out.mono ?_
      rintro e w1 ⟨rfl, rfl⟩
      go_wp2_with (go_at_call 66; refine Calls.mono H2.out ?_; rintro e w5 ⟨rfl, hb5⟩
                   have b0 := (HB.out.2.below hb5 HB.out.2.lt).cell 0
                   simp only [List.getElem?_toArray, List.getElem?_cons_zero] at b0)
      go_ret
      exact ⟨rfl, HB.out.1.trans (hb5.mono HB.out.1.size)⟩
    · have d6 : ((o.k : Int) == 6) = false := by simp; omega
      have d7 : ((o.k : Int) == 7) = false := by simp; omega
      have d8 : ((o.k : Int) == 8) = true := by simp; omega
      clear hkc e6 e7
      go_enter Try.func37, Try.ntmps37
      go_wp2_with fail
      refine H1.out.mono ?_
      rintro e w1 ⟨rfl, rfl⟩
      go_wp2_with (go_at_call 66; refine Calls.mono H2.out ?_; rintro e w5 ⟨rfl, hb5⟩
                   have b0 := (HB.out.2.below hb5 HB.out.2.lt).cell 0
                   simp only [List.getElem?_toArray, List.getElem?_cons_zero] at b0)
      go_ret
      exact ⟨rfl, HB.out.1.trans (hb5.mono HB.out.1.size)⟩
def fillH (H : HS) (x : Ho) (o : Ob) : HS := { H with used := H.used + Hp.sizeO o - 1, L := updL ⟨x.h, o, x.dirty⟩ H.L }
/-- What Fill makes of memory. -/
def FillP (w w' : World) (M : Mem) (n : Nat) (H : HS) (x : Ho) (o : Ob) (e : Ending) : Prop :=
  (H.limit - (H.used - 1) < Hp.sizeO o ∧ e = .returned (.int .i64 6) ∧ Below w.heap.size w w') ∨
  (Hp.sizeO o ≤ H.limit - (H.used - 1) ∧ e = .returned (.int .i64 0) ∧ ∃ M', M'.g = M.g ∧ HM w' M' n (fillH H x o) ∧ Off (fun b => M.R b ≠ .no) w w' ∧ ∀ b, M'.R b ≠ .no → M.R b ≠ .no ∨ w.heap.size ≤ b)
set_option maxRecDepth 20000 in
set_option maxHeartbeats 2000000 in
theorem fill_go (h : HM w M n H) {t : Nat} (hok : H.Ok t) (k : Int) (hk : (Lit.int .i64 k).wf = true) (o : Ob) (A : Option Addr) (c : Nat) (ho : OArg w o A) (hAn : ∀ p : Addr, A = some p → M.R p.block = .no) {x : Ho} (hx : H.obj k = some x) (h8 : x.o.k = 8) (hm : fillB o = true) :
    Calls Try.prog 37 #[.pointer (some ⟨M.g, 0, none⟩), .int .i64 k, obv o A c] w fun e w' => FillP w w' M n H x o e := by
  have hb := (Below.refl w.heap.size w).alloc (Nat.le_refl _) (obc o A c)
  have hB := Blk.new w 35 #[.int .u8 (o.k : Int), .int .i64 o.tag, .slice A o.ws.length c, .string (str o.t)]
  have h0 := h.below hb
  have H1 := at_some h0 k hk hx
  have hxl := (HS.obj_some hx).1
  unfold fillB at hm
  obtain ⟨hm1, hm2⟩ : Hp.mayO o = true ∧ ¬ (o.k = 6 ∨ o.k = 7 ∨ o.k = 8) := by
    simp at hm
    exact ⟨hm.1, by omega⟩
  have H2 := maybe_any o A c _ (ho.below hb)
  rw [hm1] at H2
  have H2 := Lib.hid H2
  obtain ⟨A1, c1, hh⟩ := h0.held x hxl
  obtain ⟨q0, _⟩ := hh.told
  rw [h8] at q0
  have hxs : 1 ≤ H.used := by
    have h9 := hok.sum
    have h10 : Hp.sizeO x.o ≤ Hp.total H.L := by
      clear h9
      generalize H.L = L at hxl
      induction L with
      | nil => cases hxl
      | cons a L ih =>
        unfold Hp.total at ih ⊢
        simp only [List.map_cons, List.sum_cons]
        rcases List.mem_cons.1 hxl with e | hxl
        · rw [e]; omega
        · have := ih hxl; omega
    have := Hp.sizeO_pos x.o
    omega
  have HB := Lib.hid (And.intro hb (And.intro hB (And.intro h (And.intro hok (And.intro ho (And.intro hxl hxs))))))
  have HAN := Lib.hid hAn
  obtain ⟨f, hf⟩ : ∃ f, M.B x.h = f := ⟨_, rfl⟩
  rw [hf] at H1 q0
  have H1 := Lib.hid H1
  have HF := Lib.hid hf
  have d6 : ((o.k : Int) == 6) = false := by simp; omega
  have d7 : ((o.k : Int) == 7) = false := by simp; omega
  have d8 : ((o.k : Int) == 8) = false := by simp; omega
  clear hb h h0 hh h8 ho hB hm hm1 hm2 hok hAn hx hxl hxs hf
  go_enter Try.func37, Try.ntmps37
  go_wp2_with fail
  refine H1.out.mono ?_
  rintro e w0 ⟨rfl, rfl⟩
  go_wp2_with (go_at_call 66; refine Calls.mono H2.out ?_; rintro e w1 ⟨rfl, hb1⟩
               obtain ⟨hb, hB, h, hok, ho, hxl, hxs⟩ := HB.out
               have hbw := hb.trans (hb1.mono hb.size)
               have h1 := h.below hbw
               have hB1 := hB.below hb1 hB.lt
               have b0 := hB1.cell 0
               have b1 := hB1.cell 1
               have b2 := hB1.cell 2
               have b3 := hB1.cell 3
               simp only [List.getElem?_toArray, List.getElem?_cons_zero, List.getElem?_cons_succ] at b0 b1 b2 b3
               have HS1 := Lib.hid (size_any o A c w1 ho.small)
               have HW1 := Lib.hid (And.intro hbw (And.intro hB1 h1))
               clear hb hB h hok ho hxl hxs hbw h1 hB1 hb1)
  clear H1 H2 q0
  refine HS1.out.mono ?_
  rintro e w3 ⟨rfl, hb3⟩
  obtain ⟨hbw2, hB2, h2⟩ := HW1.out
  have h3 := h2.below hb3
  have hbw3 := hbw2.trans (hb3.mono hbw2.size)
  have hB3 := hB2.below hb3 hB2.lt
  have b0 := hB3.cell 0
  have b1 := hB3.cell 1
  have b2 := hB3.cell 2
  have b3 := hB3.cell 3
  simp only [List.getElem?_toArray, List.getElem?_cons_zero, List.getElem?_cons_succ] at b0 b1 b2 b3
  obtain ⟨c0, c1, _, _, _, _, f1, _⟩ := h3.told
  have hroom := HB.out.2.2.2.1.room
  have hxs := HB.out.2.2.2.2.2.2
  obtain ⟨sz, hsz⟩ : ∃ s, Hp.sizeO o = s := ⟨_, rfl⟩
  have hszb : 1 ≤ sz ∧ sz ≤ 200000 := by
    rw [← hsz]
    have := HB.out.2.2.2.2.1.small
    refine ⟨Hp.sizeO_pos o, ?_⟩
    unfold Hp.sizeO
    have h1 := this.1
    have h2 := this.2.1
    split <;> omega
  obtain ⟨lim, hlim⟩ : ∃ s, H.limit = s := ⟨_, rfl⟩
  obtain ⟨us, hus⟩ : ∃ s, H.used = s := ⟨_, rfl⟩
  rw [hlim] at c0 hroom
  rw [hus] at c1 hroom hxs
  rw [hsz]
  have HN := Lib.hid (And.intro hsz (And.intro hlim hus))
  have HW3 := Lib.hid (And.intro hbw3 (And.intro hB3 h3))
  have HQ : Hid (∀ q, Below w.heap.size w (w3.drewN q)) := Lib.hid (fun q => hbw3.trans ((drewN_below w3 q).mono hbw3.size))
  clear hbw2 hB2 h2 h3 hbw3 hB3 hb3 HW1 HS1 hsz hlim hus
  by_cases hfull : lim - (us - 1) < sz
  · have hd : decide ((sz : Int) > (lim : Int) - ((us : Int) - 1)) = true := by simp; omega
    have hd2 : decide ((lim : Int) - ((us : Int) - 1) < (sz : Int)) = true := by simp; omega
    go_wp2_with fail
    go_quiet (fail)
    go_wp2_with fail
    go_ret
    obtain ⟨n1, n2, n3⟩ := HN.out
    exact .inl ⟨by rw [n1, n2, n3]; exact hfull, rfl, HQ.out _⟩
  · have hd : decide ((sz : Int) > (lim : Int) - ((us : Int) - 1)) = false := by simp; omega
    have hd2 : decide ((lim : Int) - ((us : Int) - 1) < (sz : Int)) = false := by simp; omega
    go_wp2_with fail
    go_quiet (fail)
    go_upto_region 14 with fail
    obtain ⟨w4, hw4⟩ : ∃ w4, ((w3.drewN nq).setCell ⟨M.g, 1, none⟩ (.int .i64 ((us : Int) + ((sz : Int) - 1)))) = w4 := ⟨_, rfl⟩
    obtain ⟨hbw3, hB3, h3⟩ := HW3.out
    obtain ⟨n1, n2, n3⟩ := HN.out
    have h4 : HM w4 M n { H with used := H.used + Hp.sizeO o - 1 } := by
      have h9 := (h3.below (drewN_below w3 nq)).head1 (H.used + Hp.sizeO o - 1)
      have e : (((H.used + Hp.sizeO o - 1 : Nat)) : Int) = (us : Int) + ((sz : Int) - 1) := by rw [n1, n3]; omega
      rw [e] at h9
      rw [← hw4]
      exact h9
    have ho4 : Off (fun b => b = M.g) w3 w4 := by rw [← hw4]; exact (Off.drewN _ w3 nq).trans (Off.setc _ _ _ _)
    have hB4 := hB3.same (ho4.block w.heap.size hB3.lt fun e => by have e' : w.heap.size = M.g := e; have := HB.out.2.2.1.head.lt; omega)
    have b0 := hB4.cell 0
    have b1 := hB4.cell 1
    have b2 := hB4.cell 2
    have b3 := hB4.cell 3
    simp only [List.getElem?_toArray, List.getElem?_cons_zero, List.getElem?_cons_succ] at b0 b1 b2 b3
    have hwords : Words w4 A o.ws := HB.out.2.2.2.2.1.words.same (Nat.le_trans hbw3.size ho4.size) fun p e hp => (ho4.block p.block (Nat.lt_of_lt_of_le hp hbw3.size) fun e' => by
      have h9 := HAN.out p e
      rw [show p.block = M.g from e', h3.rg] at h9
      cases h9).trans (hbw3.block p.block hp)
    have HO4 := Lib.hid (own_any o A c w4 (by have := HB.out.2.2.2.2.1.small.1; omega) hwords)
    have HW4 := Lib.hid (And.intro h4 (And.intro ho4 hbw3))
    rw [hw4]
    clear h4 ho4 hB4 hbw3 hB3 h3 n1 n2 n3 hw4 hwords HW3 HQ c0 c1 f1
    go_wp2_with fail
    refine HO4.out.mono ?_
    rintro e w5 ⟨v, A', c', rfl, hv, hb5⟩
    obtain ⟨rfl, hrow⟩ := hv
    have hm5 := HW4.out.1.below hb5
    obtain ⟨A5, c5, hh5⟩ := hm5.held x HB.out.2.2.2.2.2.1
    have q0 := hh5.blk.cell 0
    have q1 := hh5.blk.cell 1
    have q2 := hh5.blk.cell 2
    have q3 := hh5.blk.cell 3
    have qf := hh5.blk.frozen
    unfold heldC at q0 q1 q2 q3
    simp only [List.getElem?_toArray, List.getElem?_cons_zero, List.getElem?_cons_succ] at q0 q1 q2 q3
    rw [HF.out] at q0 q1 q2 q3 qf
    have HM5 := Lib.hid (And.intro hm5 (And.intro hh5 (And.intro hrow hb5)))
    clear hm5 hh5 hrow hb5 HO4 b0 b1 b2 b3
    go_wp2_with fail
    go_ret
    obtain ⟨hm5, hh5, hrow, hb5⟩ := HM5.out
    obtain ⟨h4, ho4, hbw3⟩ := HW4.out
    have hoF : Off (fun b => b = f) w5 ((((w5.setCell ⟨f, 0, none⟩ (.int .u8 (o.k : Int))).setCell ⟨f, 1, none⟩ (.int .i64 o.tag)).setCell ⟨f, 2, none⟩ (.slice A' o.ws.length c')).setCell ⟨f, 3, none⟩ (.string (str o.t))) := offS (offS (offS (Off.setc _ _ _ _) _ _ _ rfl) _ _ _ rfl) _ _ _ rfl
    have hfl : M.R f = .it x.h := by rw [← HF.out]; exact hh5.lab
    have hA4 : ∀ p : Addr, A' = some p → w4.heap.size ≤ p.block := fun p e => by have := (hrow.blk p e).2.2.1; omega
    have hRs : ∀ b, M.R b ≠ .no → addR M.R x.h A' b = M.R b := addR_same hA4 fun b hb => h4.lt b hb
    have hfw : f < w4.heap.size := h4.lt f (by rw [hfl]; intro e; cases e)
    refine .inr ⟨by obtain ⟨n1, n2, n3⟩ := HN.out; rw [n1, n2, n3]; omega, rfl, { M with R := addR M.R x.h A' }, rfl, hm5.upd (y := ⟨x.h, o, x.dirty⟩) HB.out.2.2.2.2.2.1 rfl hoF (fun b e => .inl (by have e : b = f := e; rw [e]; exact hfl)) hRs (fun b hb => ?_) (A := A') (c := c') ⟨?_, ?_, ?_, fun p e => addR_at e⟩, ?_, fun b hb => ?_⟩
    · rcases addR_or hb with h1 | ⟨p, hp, rfl⟩
      · exact Nat.lt_of_lt_of_le (hm5.lt b h1) hoF.size
      · exact Nat.lt_of_lt_of_le (hrow.blk p hp).2.2.2 hoF.size
    · have h9 := hh5.blk
      rw [HF.out] at h9 ⊢
      exact (((h9.set_ 0 _).set_ 1 _).set_ 2 _).set_ 3 _
    · exact (hrow.mono (Nat.zero_le _)).same hoF.size fun p e => hoF.block _ (hrow.blk p e).2.2.2 fun e' => by
        have e' : p.block = f := e'
        have := hA4 p e
        omega
    · show addR M.R x.h A' (M.B x.h) = _
      rw [HF.out, hRs f (by rw [hfl]; intro e; cases e)]; exact hfl
    · have h9 : Off (fun b => M.R b ≠ .no) w3 w4 := ho4.mono fun b _ e => by have e : b = M.g := e; rw [e, h4.rg]; intro e; cases e
      exact (((Off.of_new hbw3 _).trans h9).trans (Off.of_new hb5 _)).trans (hoF.mono fun b _ e => by have e : b = f := e; rw [e, hfl]; intro e; cases e)
    · rcases addR_or hb with h1 | ⟨p, hp, rfl⟩
      · exact .inl h1
      · exact .inr (by have := hA4 p hp; have h34 := ho4.size; have hw3 := hbw3.size; omega)
end
end Go.Proofs.Ytclkkfffecmjnaa
