/- heap: HeapPlays. -/
import Derived.Test.YtclkkfffecmjnaaWe
import Derived.Test.YtclkkfffecmjnaaWd
import Derived.Test.YtclkkfffecmjnaaAi
import Derived.Test.YtclkkfffecmjnaaMd
import Derived.Test.YtclkkfffecmjnaaZ
import Derived.Test.YtclkkfffecmjnaaDr
import Derived.Test.YtclkkfffecmjnaaTake
namespace Go.Proofs.Ytclkkfffecmjnaa
open Go.RowKit
set_option linter.unusedVariables false
set_option linter.unusedSimpArgs false
attribute [local go_sem] Oper.semAt_some
theorem doF_noob (H : HS) {o : Ov} (hk : o.kind ≠ 1) : (doF H o).2.o = noOb := by
  unfold doF
  rw [if_neg hk]
  repeat' split
  all_goals rfl
theorem doF_get (H : HS) {o : Ov} (hk : o.kind = 1) : (doF H o).2.o = getO H o.k := by
  unfold doF
  rw [if_neg (by omega), if_pos hk]
section
variable {w w' : World} {r t : Nat} {R : Nat → Lab} {H : HS} {o : Ov} {A Rr : Option Addr} {c d : Nat}
theorem doF_len (hok : H.Ok t) (o : Ov) : (doF H o).2.o.ws.length ≤ 100000 := by
  by_cases hk : o.kind = 1
  · rw [doF_get H hk]
    unfold getO
    cases hx : H.obj o.k with
    | none => exact Nat.zero_le _
    | some x => exact (hok.inn x (HS.obj_some hx).1).2.2.1.1
  · rw [doF_noob H hk]; exact Nat.zero_le _
theorem meant_rx (h : RX w r R H) (hok : H.Ok t) (hcn : H.count ≤ 100000) (hll : H.L.length ≤ 100000) (hv : OpV w o A c Rr d) (hf : Fits o) :
    Calls Try.prog 17 #[.pointer (some ⟨r, 0, none⟩), .agg (opC o A c Rr d)] w fun e w' => ∃ T c2, e = .returned (.agg (toldC (doF H o).2 T c2)) ∧ WRow w.heap.size w' T (doF H o).2.o.ws.length c2 (doF H o).2.o.ws ∧ Stp w w' r R (doF H o).1 := by
  have hplain : o.kind ≠ 1 → ∀ {e : Ending} {w' : World}, (e = .returned (.agg (toldC (doF H o).2 none 0)) ∧ Stp w w' r R (doF H o).1) → ∃ T c2, e = .returned (.agg (toldC (doF H o).2 T c2)) ∧ WRow w.heap.size w' T (doF H o).2.o.ws.length c2 (doF H o).2.o.ws ∧ Stp w w' r R (doF H o).1 := fun hk e w' hp =>
    ⟨none, 0, hp.1, by rw [doF_noob H hk]; exact WRow.nil _ _, hp.2⟩
  by_cases k1 : o.kind = 1
  · exact meant_get h hok hcn hll hv hf k1
  by_cases k0 : o.kind = 0
  · exact (meant_alloc h hok hcn hll hv hf k0).mono fun e w' hp => hplain k1 hp
  by_cases k2 : o.kind = 2
  · exact (meant_word h hok hcn hll hv hf k2).mono fun e w' hp => hplain k1 hp
  by_cases k3 : o.kind = 3
  · exact (meant_set h hok hcn hll hv hf k3).mono fun e w' hp => hplain k1 hp
  by_cases k4 : o.kind = 4
  · exact (meant_tie h hok hcn hll hv hf k4).mono fun e w' hp => hplain k1 hp
  by_cases k5 : o.kind = 5
  · exact (meant_untie h hok hcn hll hv hf k5).mono fun e w' hp => hplain k1 hp
  by_cases k6 : o.kind = 6
  · exact (meant_oid h hok hcn hll hv hf k6).mono fun e w' hp => hplain k1 hp
  by_cases k7 : o.kind = 7
  · exact (meant_of h hok hcn hll hv hf k7).mono fun e w' hp => hplain k1 hp
  by_cases k8 : o.kind = 8
  · exact (meant_fill h hok hcn hll hv hf k8).mono fun e w' hp => hplain k1 hp
  by_cases k9 : o.kind = 9
  · exact (meant_clean h hok hcn hll hv hf k9).mono fun e w' hp => hplain k1 hp
  by_cases k10 : o.kind = 10
  · exact (meant_collect h hok hcn hll hv hf k10).mono fun e w' hp => hplain k1 hp
  exact (meant_other h hok hcn hll hv hf (by omega)).mono fun e w' hp => hplain k1 hp
theorem oids_hr {w0 : World} {X : Nat → Prop} {g : Nat} (h : HR w0 w X g t H) (ht : t ≤ 800000) : Calls Try.prog 26 #[.pointer (some ⟨g, 0, none⟩)] w fun e w' => ∃ A c, e = .returned (.slice A (oidsL H).length c) ∧ Ints w' A (oidsL H) ∧ Below w.heap.size w w' := by
  obtain ⟨⟨M, n, hm, rfl, hn, hf⟩, hl, hbe, hok⟩ := h
  refine (oids_any hm hok (by omega)).mono ?_
  rintro e w' ⟨v, rfl, hown, hb⟩
  obtain ⟨A, c, rfl⟩ := own_slice hown
  refine ⟨A, c, rfl, Ints.of_own hown fun z hz => ?_, hb⟩
  obtain ⟨p, hp, rfl⟩ := oidsL_mem.1 hz
  have := (hok.tied p hp).2
  omega
set_option maxRecDepth 20000 in
set_option maxHeartbeats 4000000 in
theorem sametold_any (tv : Tv) (A B : Option Addr) (c c' : Nat) (w : World) (hA : Words w A tv.o.ws) (hB : Words w B tv.o.ws) (hl : tv.o.ws.length ≤ 100000) :
    Calls Try.prog 15 #[.agg (toldC tv A c), .agg (toldC tv B c')] w fun e w' => e = .returned (.bool true) ∧ Below w.heap.size w w' := by
  obtain ⟨⟨tk, ttag, tws, tx⟩, ⟨twk, twn⟩, tn, tis, te⟩ := tv
  dsimp only at hA hB hl
  show Calls Try.prog 15 #[.agg #[.int .u8 (tk : Int), .int .i64 ttag, .slice A tws.length c, .string (str tx), .int .u8 (twk : Int), .int .i64 twn, .int .i64 (tn : Int), .bool tis, .int .i64 (te : Int)], .agg #[.int .u8 (tk : Int), .int .i64 ttag, .slice B tws.length c', .string (str tx), .int .u8 (twk : Int), .int .i64 twn, .int .i64 (tn : Int), .bool tis, .int .i64 (te : Int)]] w _
  obtain ⟨w0, hw0⟩ : ∃ w0, (w.alloc (.cells #[.int .u8 (tk : Int), .int .i64 ttag, .slice A tws.length c, .string (str tx), .int .u8 (twk : Int), .int .i64 twn, .int .i64 (tn : Int), .bool tis, .int .i64 (te : Int)] 39)).alloc (.cells #[.int .u8 (tk : Int), .int .i64 ttag, .slice B tws.length c', .string (str tx), .int .u8 (twk : Int), .int .i64 twn, .int .i64 (tn : Int), .bool tis, .int .i64 (te : Int)] 39) = w0 := ⟨_, rfl⟩
  have hb0 : Below w.heap.size w w0 := by rw [← hw0]; exact ((Below.refl _ _).alloc (Nat.le_refl _) _).alloc (by rw [World.size_alloc]; omega) _
  have HSM := same_ok ⟨tk, ttag, tws, tx⟩ A B c c' w0 (hA.below hb0) (hB.below hb0) hl
  dsimp only at HSM
  obtain ⟨m, hm⟩ : ∃ m, tws.length = m := ⟨_, rfl⟩
  rw [hm] at HSM hw0 ⊢
  have hB0 : Blk w0 w.heap.size 39 #[.int .u8 (tk : Int), .int .i64 ttag, .slice A m c, .string (str tx), .int .u8 (twk : Int), .int .i64 twn, .int .i64 (tn : Int), .bool tis, .int .i64 (te : Int)] := by rw [← hw0]; exact (Blk.new _ _ _).alloc _
  have hB1 : Blk w0 (w.heap.size + 1) 39 #[.int .u8 (tk : Int), .int .i64 ttag, .slice B m c', .string (str tx), .int .u8 (twk : Int), .int .i64 twn, .int .i64 (tn : Int), .bool tis, .int .i64 (te : Int)] := by
    have := Blk.new (w.alloc (.cells #[.int .u8 (tk : Int), .int .i64 ttag, .slice A m c, .string (str tx), .int .u8 (twk : Int), .int .i64 twn, .int .i64 (tn : Int), .bool tis, .int .i64 (te : Int)] 39)) 39 #[.int .u8 (tk : Int), .int .i64 ttag, .slice B m c', .string (str tx), .int .u8 (twk : Int), .int .i64 twn, .int .i64 (tn : Int), .bool tis, .int .i64 (te : Int)]
    rw [World.size_alloc] at this
    rw [← hw0]; exact this
  have x0 := hB0.cell 0
  have y0 := hB1.cell 0
  have x1 := hB0.cell 1
  have y1 := hB1.cell 1
  have x2 := hB0.cell 2
  have y2 := hB1.cell 2
  have x3 := hB0.cell 3
  have y3 := hB1.cell 3
  simp only [List.getElem?_toArray, List.getElem?_cons_zero, List.getElem?_cons_succ] at x0 x1 x2 x3 y0 y1 y2 y3
  replace HSM := Lib.hid HSM
  have HB := Lib.hid (And.intro hb0 (And.intro hB0 hB1))
  clear hA hB hl hm hb0 hB0 hB1
  go_enter Try.func15, Try.ntmps15
  go_wp2_with fail
  refine HSM.out.mono ?_
  rintro e w1 ⟨rfl, hb1⟩
  obtain ⟨hb0, hB0, hB1⟩ := HB.out
  have g0 := hB0.below hb1 hB0.lt
  have g1 := hB1.below hb1 hB1.lt
  have x4 := g0.cell 4
  have y4 := g1.cell 4
  have x5 := g0.cell 5
  have y5 := g1.cell 5
  have x6 := g0.cell 6
  have y6 := g1.cell 6
  have x7 := g0.cell 7
  have y7 := g1.cell 7
  have x8 := g0.cell 8
  have y8 := g1.cell 8
  simp only [List.getElem?_toArray, List.getElem?_cons_zero, List.getElem?_cons_succ] at x4 x5 x6 x7 x8 y4 y5 y6 y7 y8
  have HF := Lib.hid (hb0.trans (hb1.mono hb0.size))
  clear hb0 hB0 hB1 g0 g1 hb1 HSM hw0 HB x0 x1 x2 x3 y0 y1 y2 y3
  go_wp2_with fail
  go_ret
  exact ⟨rfl, HF.out⟩
end
end Go.Proofs.Ytclkkfffecmjnaa
namespace Go.Proofs.Ytclkkfffecmjnaa
open Go.RowKit
set_option linter.unusedVariables false
set_option linter.unusedSimpArgs false
attribute [local go_sem] Oper.semAt_some
theorem Stp.next {w0 w w' : World} {g r t : Nat} {R : Nat → Lab} {H H2 : HS} (hr : HR w0 w (fun b => R b ≠ .no) g t H2) (hlo : ∀ b, R b ≠ .no → w0.heap.size ≤ b) (h : Stp w w' r R H) : ∃ R', RX w' r R' H ∧ HR w0 w' (fun b => R' b ≠ .no) g t H2 ∧ ∀ b, R' b ≠ .no → w0.heap.size ≤ b := by
  obtain ⟨R', h1, h2, h3⟩ := h
  refine ⟨R', h1, hr.turnMore h2 (fun k hk => ⟨hk, hlo k hk⟩) fun k hk => ⟨h1.lt k hk, h3 k hk⟩, fun b hb => ?_⟩
  rcases h3 b hb with h4 | h4
  · exact hlo b h4
  · exact Nat.le_trans hr.bel.size h4
theorem ties_le {H : HS} {t : Nat} (hok : H.Ok t) : H.T.length ≤ H.L.length := by
  have h : ∀ (T : List (Nat × Nat)) (L : List Ho), T.Pairwise (fun p q => p.1 ≠ q.1 ∧ p.2 ≠ q.2) → (∀ p ∈ T, ∃ x ∈ L, x.h = p.1) → T.length ≤ L.length := by
    intro T
    induction T with
    | nil => intro L _ _; exact Nat.zero_le _
    | cons p T ih =>
      intro L hp hm
      obtain ⟨h1, h2⟩ := List.pairwise_cons.1 hp
      obtain ⟨x, hx, e⟩ := hm p (List.mem_cons_self ..)
      have h3 := ih (L.filter fun y => decide (y.h ≠ p.1)) h2 fun q hq => by
        obtain ⟨y, hy, e2⟩ := hm q (List.mem_cons_of_mem _ hq)
        exact ⟨y, List.mem_filter.2 ⟨hy, by have := (h1 q hq).1; simp; omega⟩, e2⟩
      have h4 : (L.filter fun y => decide (y.h ≠ p.1)).length < L.length := by
        refine Nat.lt_of_le_of_ne (List.length_filter_le _ _) fun e3 => ?_
        have h5 := List.length_filter_eq_length_iff.1 e3 x hx
        simp [e] at h5
      rw [List.length_cons]
      omega
  exact h H.T H.L hok.ties fun p hp => (hok.tied p hp).1
/-- Between the rounds. -/
structure PlI (w wr : World) (g r t i lim : Nat) (R : Nat → Lab) (H : HS) : Prop where
  hr : HR w wr (fun b => R b ≠ .no) g t H
  rx : RX wr r R H
  lo : ∀ b, R b ≠ .no → w.heap.size ≤ b
  cnt : H.count ≤ i ∧ H.L.length ≤ i
  lim : H.limit = lim
theorem PlI.below {w wr w2 : World} {g r t i lim : Nat} {R : Nat → Lab} {H : HS} (h : PlI w wr g r t i lim R H) (hb : Below wr.heap.size wr w2) : PlI w w2 g r t i lim R H := ⟨(h.hr.below hb).1, h.rx.below hb, h.lo, h.cnt, h.lim⟩
set_option maxRecDepth 20000 in
set_option maxHeartbeats 8000000 in
theorem plays_law (lm : Int) (hlm : (Lit.int .i64 lm).wf = true) (A : Option Addr) (len cap : Nat) (ls : List Ov) (w : World) (hl : ls.length = len) (hcap : len ≤ maxLen) (hM : OpsM w A ls) (hlt : ∀ o ∈ ls, LtO o) :
    Calls Try.prog 3 #[.int .i64 lm, .slice A len cap] w fun e w' => e = .returned (.bool true) ∧ Below w.heap.size w w' := by
  have HV := Lib.hid (vast_any A len cap ls w hl hcap hM hlt)
  have HM := Lib.hid (And.intro hM (And.intro hl hlt))
  have hlr := wf_i64 hlm
  clear hM hl hlt hcap hlm
  by_cases hbad : lm < 1 ∨ 16777216 < lm
  · go_enter Try.func3, Try.ntmps3
    go_wp2_with fail
    refine HV.out.mono ?_
    rintro e w1 ⟨b, rfl, hbf, hb1⟩
    have HB := Lib.hid hb1
    cases b with
    | true =>
      have HW := Lib.hid (works_any w1)
      clear hb1 hbf HV HM
      go_wp2_with fail
      refine HW.out.mono ?_
      rintro e w3 ⟨rfl, hb3⟩
      have HB3 := Lib.hid (HB.out.trans (hb3.mono HB.out.size))
      clear hb3 HW
      go_wp2_with fail
      go_ret
      exact ⟨rfl, HB3.out⟩
    | false =>
      have hlen : len ≤ 100 := by rw [← HM.out.2.1]; exact (hbf rfl).1
      have H1 := Lib.hid (new_no lm w1 hbad)
      have H2 := Lib.hid (rnew_no lm w1 hbad)
      have HW := Lib.hid (works_any w1)
      clear hb1 hbf HV HM hbad
      go_wp2_with fail
      refine H1.out.mono ?_
      rintro e w2 ⟨rfl, rfl⟩
      go_wp2_with fail
      refine H2.out.mono ?_
      rintro e w2 ⟨rfl, rfl⟩
      go_wp2_with fail
      go_loopw [9] (fun iv wr => iv = .int .i64 0 ∧ wr = w1) (fun iv _ => 0)
      case atStart => exact ⟨rfl, rfl⟩
      case round =>
        obtain ⟨rfl, rfl⟩ := hrel
        by_cases h0 : 0 < len
        · have hd : decide ((0 : Int) < (len : Int)) = true := by simp; omega
          have hd2 : decide (0 < len) = true := by simpa using h0
          go_wp2_with fail
          refine HW.out.mono ?_
          rintro e w3 ⟨rfl, hb3⟩
          have HB3 := Lib.hid (HB.out.trans (hb3.mono HB.out.size))
          clear hb3 HW
          go_wp2_with fail
          go_ret
          exact ⟨rfl, HB3.out⟩
        · have h00 : len = 0 := by omega
          have hd : decide ((0 : Int) < (len : Int)) = false := by simp; omega
          have hd2 : decide (0 < len) = false := by simp; omega
          go_wp2_with fail
          refine HW.out.mono ?_
          rintro e w3 ⟨rfl, hb3⟩
          have HB3 := Lib.hid (HB.out.trans (hb3.mono HB.out.size))
          clear hb3 HW
          go_wp2_with fail
          go_ret
          exact ⟨rfl, HB3.out⟩
  · obtain ⟨l, rfl⟩ : ∃ l : Nat, lm = l := ⟨lm.toNat, by omega⟩
    have hgood : 1 ≤ l ∧ l ≤ 16777216 := by omega
    clear hbad
    go_enter Try.func3, Try.ntmps3
    go_wp2_with fail
    refine HV.out.mono ?_
    rintro e w1 ⟨b, rfl, hbf, hb1⟩
    cases b with
    | true =>
      have HB := Lib.hid hb1
      have HW := Lib.hid (works_any w1)
      clear hb1 hbf HV HM
      go_wp2_with fail
      refine HW.out.mono ?_
      rintro e w3 ⟨rfl, hb3⟩
      have HB3 := Lib.hid (HB.out.trans (hb3.mono HB.out.size))
      clear hb3 HW
      go_wp2_with fail
      go_ret
      exact ⟨rfl, HB3.out⟩
    | false =>
      obtain ⟨hlen, hfit⟩ := hbf rfl
      have H1 := Lib.hid (new_ok l w w1 (fun _ => False) (fun k h => h.elim) hb1 hgood)
      have HFit := Lib.hid hfit
      have HGD := Lib.hid hgood
      have hlen : len ≤ 100 := by rw [← HM.out.2.1]; exact hlen
      clear hfit hbf hb1 HV hgood
      go_wp2_with fail
      refine H1.out.mono ?_
      rintro e w2 ⟨g, rfl, hr, _⟩
      have H2 := Lib.hid (rnew_ok l w2 HGD.out)
      have HR2 := Lib.hid hr
      clear hr H1
      go_wp2_with fail
      refine H2.out.mono ?_
      rintro e w3 ⟨r, R, rfl, hx, hRl, hb3⟩
      have HP := Lib.hid (⟨HR2.out.more hb3 (fun k hk => .inr ⟨hRl k hk, hx.lt k hk⟩), hx, fun b hb => Nat.le_trans HR2.out.bel.size (hRl b hb), ⟨Nat.le_refl _, Nat.le_refl _⟩, rfl⟩ : PlI w w3 g r (2 * 0) 0 l R (newH l))
      clear hx hRl hb3 H2 HR2
      go_wp2_with fail
      go_loopw [9] (fun iv wr => ∃ (i : Nat) (H : HS) (R : Nat → Lab), i ≤ len ∧ iv = .int .i64 (i : Int) ∧ Hid (PlI w wr g r (2 * i) i l R H)) (fun iv _ => len - (intOf iv).toNat)
      case atStart => exact ⟨0, newH l, R, Nat.zero_le _, rfl, HP⟩
      case round =>
        clear HP
        obtain ⟨i, H, R, hi, rfl, hI⟩ := hrel
        by_cases hlt : i < len
        · have hd : decide ((i : Int) < (len : Int)) = true := by simpa using hlt
          obtain ⟨o, ho⟩ : ∃ o, ls[i]? = some o := ⟨_, List.getElem?_eq_getElem (by rw [HM.out.2.1]; exact hlt)⟩
          obtain ⟨b, off, B, c, Rr, d, rfl, hblt, hc0, hv0⟩ := HM.out.1 i o ho
          have hfo := HFit.out o (List.mem_of_getElem? ho)
          obtain ⟨z0, z1, z2, z3, z4, z5, z6, z7, z8, z9⟩ := ops_cells hc0
          have HSK : Hid (∀ W, Below w.heap.size w W → W.cell? ⟨b, off + i * 10, none⟩ = some (.int .i64 o.kind) ∧ W.cell? ⟨b, off + i * 10 + 1, none⟩ = some (.int .i64 o.k) ∧ W.cell? ⟨b, off + i * 10 + 2, none⟩ = some (.int .i64 o.i) ∧ W.cell? ⟨b, off + i * 10 + 3, none⟩ = some (.int .u8 (o.o.k : Int)) ∧ W.cell? ⟨b, off + i * 10 + 4, none⟩ = some (.int .i64 o.o.tag) ∧ W.cell? ⟨b, off + i * 10 + 5, none⟩ = some (.slice B o.o.ws.length c) ∧ W.cell? ⟨b, off + i * 10 + 6, none⟩ = some (.string (str o.o.t)) ∧ W.cell? ⟨b, off + i * 10 + 7, none⟩ = some (.int .u8 (o.w.k : Int)) ∧ W.cell? ⟨b, off + i * 10 + 8, none⟩ = some (.int .i64 o.w.n) ∧ W.cell? ⟨b, off + i * 10 + 9, none⟩ = some (.slice Rr o.roots.length d)) := Lib.hid fun W hW => ⟨(hW.cell hblt).trans z0, (hW.cell hblt).trans z1, (hW.cell hblt).trans z2, (hW.cell hblt).trans z3, (hW.cell hblt).trans z4, (hW.cell hblt).trans z5, (hW.cell hblt).trans z6, (hW.cell hblt).trans z7, (hW.cell hblt).trans z8, (hW.cell hblt).trans z9⟩
          have hbel := hI.out.hr.bel
          have hcm := hI.out.cnt
          have HD := does_hr (hI.out.hr.below (drewN_below wr 1)).1 (by omega) (by omega) (hv0.below (hbel.drew)) hfo
          have hcnt := doF_counts H o
          have htl := doF_len hI.out.hr.ok o
          have HMX : Hid (∀ w1, RX w1 r R H → Below w.heap.size w w1 → Calls Try.prog 17 #[.pointer (some ⟨r, 0, none⟩), .agg (opC o B c Rr d)] w1 fun e w' => ∃ T c2, e = .returned (.agg (toldC (doF H o).2 T c2)) ∧ WRow w1.heap.size w' T (doF H o).2.o.ws.length c2 (doF H o).2.o.ws ∧ Stp w1 w' r R (doF H o).1) := Lib.hid fun w1 hx hb => meant_rx hx hI.out.hr.ok (by omega) (by omega) (hv0.below hb) hfo
          obtain ⟨H2, hH2⟩ : ∃ H2, (doF H o).1 = H2 := ⟨_, rfl⟩
          obtain ⟨tv, htv⟩ : ∃ tv, (doF H o).2 = tv := ⟨_, rfl⟩
          rw [hH2, htv] at HD hcnt HMX
          rw [htv] at htl
          clear hH2 htv
          have hc2 : H2.limit = l ∧ H2.L.length ≤ i + 1 ∧ H2.count ≤ i + 1 := by
            refine ⟨hcnt.1.trans hI.out.lim, by omega, ?_⟩
            rcases hcnt.2.2 with ⟨_, _, _, h4⟩ | ⟨_, _, h3⟩
            · rw [h4]; show H.count + 1 ≤ _; omega
            · omega
          have HTV : Hid (∀ (A B : Option Addr) (c c' : Nat) (w : World), Words w A tv.o.ws → Words w B tv.o.ws → Calls Try.prog 15 #[.agg (toldC tv A c), .agg (toldC tv B c')] w fun e w' => e = .returned (.bool true) ∧ Below w.heap.size w w') := Lib.hid fun A B c c' w hA hB => sametold_any tv A B c c' w hA hB htl
          obtain ⟨tcs, htcs⟩ : ∃ tcs : Option Addr → Nat → Array Value, (fun T c2 => toldC tv T c2) = tcs := ⟨_, rfl⟩
          have htc : ∀ T c2, toldC tv T c2 = tcs T c2 := fun T c2 => by rw [← htcs]
          obtain ⟨tws, htws⟩ : ∃ tws, tv.o.ws = tws := ⟨_, rfl⟩
          simp only [htc, htws] at HD HMX HTV
          have HQ := Lib.hid (And.intro hI.out hc2)
          have hilen := hlen
          unfold opC at HD HMX
          replace HD := Lib.hid HD
          clear hbel hcm hfo ho hc0 hv0 hcnt htl hc2 hI htc htcs htws z0 z1 z2 z3 z4 z5 z6 z7 z8 z9
          go_upto_region 10 with fail
          refine wp_region_held_drew (S := (fun W => W.cell? ⟨b, off + i * 10, none⟩ = some (.int .i64 o.kind) ∧ W.cell? ⟨b, off + i * 10 + 1, none⟩ = some (.int .i64 o.k) ∧ W.cell? ⟨b, off + i * 10 + 2, none⟩ = some (.int .i64 o.i) ∧ W.cell? ⟨b, off + i * 10 + 3, none⟩ = some (.int .u8 (o.o.k : Int)) ∧ W.cell? ⟨b, off + i * 10 + 4, none⟩ = some (.int .i64 o.o.tag) ∧ W.cell? ⟨b, off + i * 10 + 5, none⟩ = some (.slice B o.o.ws.length c) ∧ W.cell? ⟨b, off + i * 10 + 6, none⟩ = some (.string (str o.o.t)) ∧ W.cell? ⟨b, off + i * 10 + 7, none⟩ = some (.int .u8 (o.w.k : Int)) ∧ W.cell? ⟨b, off + i * 10 + 8, none⟩ = some (.int .i64 o.w.n) ∧ W.cell? ⟨b, off + i * 10 + 9, none⟩ = some (.slice Rr o.roots.length d))) (by kernel_rfl) (HSK.out _ HQ.out.1.hr.bel.drew) (fun hHeld => ?_)
          refine takeY 0 (some 43) rfl rfl (by kernel_rfl) (by kernel_rfl) (by kernel_rfl) (fun _ _ _ h => h) (by rfl) (v := _) (by (intro _ hSw; (try dsimp only at hSw); go_simp; try with_reducible rfl)) hHeld ?_
          simp only [Act.put, List.setIfInBounds_toArray, List.set_cons_zero, List.set_cons_succ]
          refine takeY 1 (some 44) rfl rfl (by kernel_rfl) (by kernel_rfl) (by kernel_rfl) (fun _ _ _ h => h) (by rfl) (v := _) (by (intro _ hSw; (try dsimp only at hSw); go_simp; try with_reducible rfl)) hHeld ?_
          simp only [Act.put, List.setIfInBounds_toArray, List.set_cons_zero, List.set_cons_succ]
          refine takeY 2 (some 45) rfl rfl (by kernel_rfl) (by kernel_rfl) (by kernel_rfl) (fun _ _ _ h => h) (by rfl) (v := _) (by (intro _ hSw; (try dsimp only at hSw); go_simp; try with_reducible rfl)) hHeld ?_
          simp only [Act.put, List.setIfInBounds_toArray, List.set_cons_zero, List.set_cons_succ]
          refine takeY 3 (some 46) rfl rfl (by kernel_rfl) (by kernel_rfl) (by kernel_rfl) (fun _ _ _ h => h) (by rfl) (v := _) (by (intro _ hSw; (try dsimp only at hSw); go_simp; try with_reducible rfl)) hHeld ?_
          simp only [Act.put, List.setIfInBounds_toArray, List.set_cons_zero, List.set_cons_succ]
          refine takeY 4 (some 47) rfl rfl (by kernel_rfl) (by kernel_rfl) (by kernel_rfl) (fun _ _ _ h => h) (by rfl) (v := _) (by (intro _ hSw; (try dsimp only at hSw); go_simp; try with_reducible rfl)) hHeld ?_
          simp only [Act.put, List.setIfInBounds_toArray, List.set_cons_zero, List.set_cons_succ]
          refine takeY 6 (some 49) rfl rfl (by kernel_rfl) (by kernel_rfl) (by kernel_rfl) (fun _ _ _ h => h) (by rfl) (v := _) (by (intro _ hSw; (try dsimp only at hSw); go_simp; try with_reducible rfl)) hHeld ?_
          simp only [Act.put, List.setIfInBounds_toArray, List.set_cons_zero, List.set_cons_succ]
          refine takeY 7 (some 50) rfl rfl (by kernel_rfl) (by kernel_rfl) (by kernel_rfl) (fun _ _ _ h => h) (by rfl) (v := _) (by (intro _ hSw; (try dsimp only at hSw); go_simp; try with_reducible rfl)) hHeld ?_
          simp only [Act.put, List.setIfInBounds_toArray, List.set_cons_zero, List.set_cons_succ]
          refine takeY 8 (some 51) rfl rfl (by kernel_rfl) (by kernel_rfl) (by kernel_rfl) (fun _ _ _ h => h) (by rfl) (v := _) (by (intro _ hSw; (try dsimp only at hSw); go_simp; try with_reducible rfl)) hHeld ?_
          simp only [Act.put, List.setIfInBounds_toArray, List.set_cons_zero, List.set_cons_succ]
          refine takeY 9 (some 52) rfl rfl (by kernel_rfl) (by kernel_rfl) (by kernel_rfl) (fun _ _ _ h => h) (by rfl) (v := _) (by (intro _ hSw; (try dsimp only at hSw); go_simp; try with_reducible rfl)) hHeld ?_
          simp only [Act.put, List.setIfInBounds_toArray, List.set_cons_zero, List.set_cons_succ]
          refine takeY 10 (some 53) rfl rfl (by kernel_rfl) (by kernel_rfl) (by kernel_rfl) (fun _ _ _ h => h) (by rfl) (v := _) (by (intro _ hSw; (try dsimp only at hSw); go_simp; try with_reducible rfl)) hHeld ?_
          simp only [Act.put, List.setIfInBounds_toArray, List.set_cons_zero, List.set_cons_succ]
          refine wpAnyH_ready (rs := [5]) (by kernel_rfl) (by simp) ?_
          refine AllReadyH.cons rfl (fun K hK => ?_) AllReadyH.nil
          clear hHeld
          go_simp
          go_wp2_with (go_at_call 16; refine Calls.mono HD.out ?_; rintro e w1 ⟨T, d1, rfl, hrow1, hr1, hk1⟩; have HB1 : Hid (Below w.heap.size w w1) := Lib.hid hr1.bel; have hx1 := HQ.out.1.rx.keep hk1.size (fun b hb => hk1.at_ b hb); have HME := Lib.hid (HMX.out w1 hx1 hr1.bel); have HS1 := Lib.hid (And.intro hrow1 hr1); clear hrow1 hr1 hk1 hx1 HD)
          refine hK.out _ _ (HSK.out _ HB1.out) (fun hHeld => ?_)
          clear hK K
          refine wpAnyH_ready (rs := [11]) (by kernel_rfl) (by simp) ?_
          refine AllReadyH.cons rfl (fun K hK => ?_) AllReadyH.nil
          clear hHeld
          go_simp
          go_wp2_with (go_at_call 17; refine Calls.mono HME.out ?_; rintro e w2 ⟨T2, d2, rfl, hrow2, hst2⟩; have hoff2 := hst2.off; obtain ⟨R2, hx2, hr2, hlo2⟩ := Stp.next (HS1.out.2.less fun k hk => .inl hk) HQ.out.1.lo hst2; have HB2 : Hid (Below w.heap.size w w2) := Lib.hid hr2.bel; have hW1 : Words w2 T tws := HS1.out.1.words.same hoff2.size (fun p e hp => hoff2.block p.block hp (fun hR => by have h1 := HQ.out.1.rx.lt p.block hR; have h2 := (HS1.out.1.blk p e).2.2.1; have h3 : (wr.drewN 1).heap.size = wr.heap.size := rfl; omega)); have HSA := Lib.hid (HTV.out T T2 d1 d2 w2 hW1 hrow2.words); have HP2 := Lib.hid (⟨hr2, hx2, hlo2, ⟨HQ.out.2.2.2, HQ.out.2.2.1⟩, HQ.out.2.1⟩ : PlI w w2 g r (2 * i + 2) (i + 1) l R2 H2); clear hrow2 hst2 hoff2 hx2 hr2 hlo2 hW1 HME HS1)
          refine hK.out _ _ (HSK.out _ HB2.out) (fun hHeld => ?_)
          clear hK K
          refine wpAnyH_ready (rs := [12]) (by kernel_rfl) (by simp) ?_
          refine AllReadyH.cons rfl (fun K hK => ?_) AllReadyH.nil
          clear hHeld
          go_simp
          go_wp2_with (go_at_call 15; refine Calls.mono HSA.out ?_; rintro e w3 ⟨rfl, hb3⟩; have HP3 := Lib.hid (HP2.out.below hb3); have HB3 : Hid (Below w.heap.size w w3) := Lib.hid HP3.out.hr.bel; have HU := Lib.hid (used_hr HP3.out.hr); have HRU := Lib.hid (rused_rx HP3.out.rx HP3.out.hr.ok (by have := HP3.out.cnt; omega)); clear hb3 HSA HP2)
          refine hK.out _ _ (HSK.out _ HB3.out) (fun hHeld => ?_)
          clear hK K
          refine takeY 13 (some 56) rfl rfl (by kernel_rfl) (by kernel_rfl) (by kernel_rfl) (fun _ _ _ h => h) (by rfl) (v := _) (by (intro _ hSw; (try dsimp only at hSw); go_simp; try with_reducible rfl)) hHeld ?_
          simp only [Act.put, List.setIfInBounds_toArray, List.set_cons_zero, List.set_cons_succ]
          refine takeY 14 (some 57) rfl rfl (by kernel_rfl) (by kernel_rfl) (by kernel_rfl) (fun _ _ _ h => h) (by rfl) (v := _) (by (intro _ hSw; (try dsimp only at hSw); go_simp; try with_reducible rfl)) hHeld ?_
          simp only [Act.put, List.setIfInBounds_toArray, List.set_cons_zero, List.set_cons_succ]
          refine takeY 15 (some 58) rfl rfl (by kernel_rfl) (by kernel_rfl) (by kernel_rfl) (fun _ _ _ h => h) (by rfl) (v := _) (by (intro _ hSw; (try dsimp only at hSw); go_simp; try with_reducible rfl)) hHeld ?_
          simp only [Act.put, List.setIfInBounds_toArray, List.set_cons_zero, List.set_cons_succ]
          refine takeY 17 (some 60) rfl rfl (by kernel_rfl) (by kernel_rfl) (by kernel_rfl) (fun _ _ _ h => h) (by rfl) (v := _) (by (intro _ hSw; (try dsimp only at hSw); go_simp; try with_reducible rfl)) hHeld ?_
          simp only [Act.put, List.setIfInBounds_toArray, List.set_cons_zero, List.set_cons_succ]
          refine wpAnyH_ready (rs := [16]) (by kernel_rfl) (by simp) ?_
          refine AllReadyH.cons rfl (fun K hK => ?_) AllReadyH.nil
          clear hHeld
          go_simp
          go_wp2_with (go_at_call 18; refine Calls.mono HU.out ?_; rintro e w4 ⟨rfl, rfl⟩; clear HU)
          refine hK.out _ _ (HSK.out _ HB3.out) (fun hHeld => ?_)
          clear hK K
          refine wpAnyH_ready (rs := [18]) (by kernel_rfl) (by simp) ?_
          refine AllReadyH.cons rfl (fun K hK => ?_) AllReadyH.nil
          clear hHeld
          go_simp
          go_wp2_with (go_at_call 19; refine Calls.mono HRU.out ?_; rintro e w4 ⟨rfl, hb4⟩; have HP4 := Lib.hid (HP3.out.below hb4); have HB4 : Hid (Below w.heap.size w w4) := Lib.hid HP4.out.hr.bel; have HCO := Lib.hid (count_hr HP4.out.hr); have HRC := Lib.hid (rcount_rx HP4.out.rx HP4.out.hr.ok (by have := HP4.out.cnt; omega) (by have := HP4.out.cnt; omega)); have hLI := limit_hr HP4.out.hr; rw [HP4.out.lim] at hLI; have HLI := Lib.hid hLI; have HDI := Lib.hid (dirty_hr HP4.out.hr (by omega)); clear hLI hb4 HRU HP3)
          refine hK.out _ _ (HSK.out _ HB4.out) (fun hHeld => ?_)
          clear hK K
          refine takeY 19 (some 62) rfl rfl (by kernel_rfl) (by kernel_rfl) (by kernel_rfl) (fun _ _ _ h => h) (by rfl) (v := _) (by (intro _ hSw; (try dsimp only at hSw); go_simp; try with_reducible rfl)) hHeld ?_
          simp only [Act.put, List.setIfInBounds_toArray, List.set_cons_zero, List.set_cons_succ]
          refine takeY 20 (some 63) rfl rfl (by kernel_rfl) (by kernel_rfl) (by kernel_rfl) (fun _ _ _ h => h) (by rfl) (v := _) (by (intro _ hSw; (try dsimp only at hSw); go_simp; try with_reducible rfl)) hHeld ?_
          simp only [Act.put, List.setIfInBounds_toArray, List.set_cons_zero, List.set_cons_succ]
          refine takeY 21 (some 64) rfl rfl (by kernel_rfl) (by kernel_rfl) (by kernel_rfl) (fun _ _ _ h => h) (by rfl) (v := _) (by (intro _ hSw; (try dsimp only at hSw); go_simp; try with_reducible rfl)) hHeld ?_
          simp only [Act.put, List.setIfInBounds_toArray, List.set_cons_zero, List.set_cons_succ]
          refine takeY 22 (some 65) rfl rfl (by kernel_rfl) (by kernel_rfl) (by kernel_rfl) (fun _ _ _ h => h) (by rfl) (v := _) (by (intro _ hSw; (try dsimp only at hSw); go_simp; try with_reducible rfl)) hHeld ?_
          simp only [Act.put, List.setIfInBounds_toArray, List.set_cons_zero, List.set_cons_succ]
          refine takeY 24 (some 67) rfl rfl (by kernel_rfl) (by kernel_rfl) (by kernel_rfl) (fun _ _ _ h => h) (by rfl) (v := _) (by (intro _ hSw; (try dsimp only at hSw); go_simp; try with_reducible rfl)) hHeld ?_
          simp only [Act.put, List.setIfInBounds_toArray, List.set_cons_zero, List.set_cons_succ]
          refine wpAnyH_ready (rs := [23]) (by kernel_rfl) (by simp) ?_
          refine AllReadyH.cons rfl (fun K hK => ?_) AllReadyH.nil
          clear hHeld
          go_simp
          go_wp2_with (go_at_call 20; refine Calls.mono HCO.out ?_; rintro e w5 ⟨rfl, rfl⟩; clear HCO)
          refine hK.out _ _ (HSK.out _ HB4.out) (fun hHeld => ?_)
          clear hK K
          refine wpAnyH_ready (rs := [25]) (by kernel_rfl) (by simp) ?_
          refine AllReadyH.cons rfl (fun K hK => ?_) AllReadyH.nil
          clear hHeld
          go_simp
          go_wp2_with (go_at_call 21; refine Calls.mono HRC.out ?_; rintro e w5 ⟨rfl, rfl⟩; clear HRC)
          refine hK.out _ _ (HSK.out _ HB4.out) (fun hHeld => ?_)
          clear hK K
          refine takeY 26 (some 69) rfl rfl (by kernel_rfl) (by kernel_rfl) (by kernel_rfl) (fun _ _ _ h => h) (by rfl) (v := _) (by (intro _ hSw; (try dsimp only at hSw); go_simp; try with_reducible rfl)) hHeld ?_
          simp only [Act.put, List.setIfInBounds_toArray, List.set_cons_zero, List.set_cons_succ]
          refine takeY 27 (some 70) rfl rfl (by kernel_rfl) (by kernel_rfl) (by kernel_rfl) (fun _ _ _ h => h) (by rfl) (v := _) (by (intro _ hSw; (try dsimp only at hSw); go_simp; try with_reducible rfl)) hHeld ?_
          simp only [Act.put, List.setIfInBounds_toArray, List.set_cons_zero, List.set_cons_succ]
          refine takeY 28 (some 71) rfl rfl (by kernel_rfl) (by kernel_rfl) (by kernel_rfl) (fun _ _ _ h => h) (by rfl) (v := _) (by (intro _ hSw; (try dsimp only at hSw); go_simp; try with_reducible rfl)) hHeld ?_
          simp only [Act.put, List.setIfInBounds_toArray, List.set_cons_zero, List.set_cons_succ]
          refine takeY 29 (some 72) rfl rfl (by kernel_rfl) (by kernel_rfl) (by kernel_rfl) (fun _ _ _ h => h) (by rfl) (v := _) (by (intro _ hSw; (try dsimp only at hSw); go_simp; try with_reducible rfl)) hHeld ?_
          simp only [Act.put, List.setIfInBounds_toArray, List.set_cons_zero, List.set_cons_succ]
          refine takeY 31 (some 74) rfl rfl (by kernel_rfl) (by kernel_rfl) (by kernel_rfl) (fun _ _ _ h => h) (by rfl) (v := _) (by (intro _ hSw; (try dsimp only at hSw); go_simp; try with_reducible rfl)) hHeld ?_
          simp only [Act.put, List.setIfInBounds_toArray, List.set_cons_zero, List.set_cons_succ]
          refine wpAnyH_ready (rs := [30]) (by kernel_rfl) (by simp) ?_
          refine AllReadyH.cons rfl (fun K hK => ?_) AllReadyH.nil
          clear hHeld
          go_simp
          go_wp2_with (go_at_call 22; refine Calls.mono HLI.out ?_; rintro e w5 ⟨rfl, rfl⟩; clear HLI)
          refine hK.out _ _ (HSK.out _ HB4.out) (fun hHeld => ?_)
          clear hK K
          refine takeY 32 (some 75) rfl rfl (by kernel_rfl) (by kernel_rfl) (by kernel_rfl) (fun _ _ _ h => h) (by rfl) (v := _) (by (intro _ hSw; (try dsimp only at hSw); go_simp; try with_reducible rfl)) hHeld ?_
          simp only [Act.put, List.setIfInBounds_toArray, List.set_cons_zero, List.set_cons_succ]
          refine takeY 33 (some 76) rfl rfl (by kernel_rfl) (by kernel_rfl) (by kernel_rfl) (fun _ _ _ h => h) (by rfl) (v := _) (by (intro _ hSw; (try dsimp only at hSw); go_simp; try with_reducible rfl)) hHeld ?_
          simp only [Act.put, List.setIfInBounds_toArray, List.set_cons_zero, List.set_cons_succ]
          refine takeY 34 (some 77) rfl rfl (by kernel_rfl) (by kernel_rfl) (by kernel_rfl) (fun _ _ _ h => h) (by rfl) (v := _) (by (intro _ hSw; (try dsimp only at hSw); go_simp; try with_reducible rfl)) hHeld ?_
          simp only [Act.put, List.setIfInBounds_toArray, List.set_cons_zero, List.set_cons_succ]
          refine takeY 35 (some 78) rfl rfl (by kernel_rfl) (by kernel_rfl) (by kernel_rfl) (fun _ _ _ h => h) (by rfl) (v := _) (by (intro _ hSw; (try dsimp only at hSw); go_simp; try with_reducible rfl)) hHeld ?_
          simp only [Act.put, List.setIfInBounds_toArray, List.set_cons_zero, List.set_cons_succ]
          refine takeY 37 (some 80) rfl rfl (by kernel_rfl) (by kernel_rfl) (by kernel_rfl) (fun _ _ _ h => h) (by rfl) (v := _) (by (intro _ hSw; (try dsimp only at hSw); go_simp; try with_reducible rfl)) hHeld ?_
          simp only [Act.put, List.setIfInBounds_toArray, List.set_cons_zero, List.set_cons_succ]
          refine wpAnyH_ready (rs := [36]) (by kernel_rfl) (by simp) ?_
          refine AllReadyH.cons rfl (fun K hK => ?_) AllReadyH.nil
          clear hHeld
          go_simp
          go_wp2_with (go_at_call 24; refine Calls.mono HDI.out ?_; rintro e w5 ⟨A5, c5, rfl, hi5, _, hb5⟩; have HP5 := Lib.hid (HP4.out.below hb5); have HB5 : Hid (Below w.heap.size w w5) := Lib.hid HP5.out.hr.bel; have HI5 := Lib.hid hi5; have HRD := Lib.hid (rdirty_any HP5.out.rx HP5.out.hr.ok (by have := HP5.out.cnt; omega) (by have := HP5.out.cnt; omega)); clear hi5 hb5 HDI HP4)
          refine hK.out _ _ (HSK.out _ HB5.out) (fun hHeld => ?_)
          clear hK K
          refine wpAnyH_ready (rs := [38]) (by kernel_rfl) (by simp) ?_
          refine AllReadyH.cons rfl (fun K hK => ?_) AllReadyH.nil
          clear hHeld
          go_simp
          go_wp2_with (go_at_call 25; refine Calls.mono HRD.out ?_; rintro e w6 ⟨A6, c6, rfl, hi6, hb6⟩; have HP6 := Lib.hid (HP5.out.below hb6); have HB6 : Hid (Below w.heap.size w w6) := Lib.hid HP6.out.hr.bel; have HSL := Lib.hid (samelist_ok A5 A6 (dirtyL H2).length c5 c6 (nums (dirtyL H2)) w6 (nums_len _) (by have := HP6.out.cnt; have h9 : (dirtyL H2).length ≤ H2.L.length := (by unfold dirtyL; rw [List.length_map]; exact List.length_filter_le _ _); omega) (HI5.out.below hb6) hi6); clear hi6 hb6 HRD HP5 HI5)
          refine hK.out _ _ (HSK.out _ HB6.out) (fun hHeld => ?_)
          clear hK K
          refine wpAnyH_ready (rs := [39]) (by kernel_rfl) (by simp) ?_
          refine AllReadyH.cons rfl (fun K hK => ?_) AllReadyH.nil
          clear hHeld
          go_simp
          go_wp2_with (go_at_call 23; refine Calls.mono HSL.out ?_; rintro e w7 ⟨rfl, hb7⟩; have HP7 := Lib.hid (HP6.out.below hb7); have HB7 : Hid (Below w.heap.size w w7) := Lib.hid HP7.out.hr.bel; have HOI := Lib.hid (oids_hr HP7.out.hr (by omega)); clear hb7 HSL HP6)
          refine hK.out _ _ (HSK.out _ HB7.out) (fun hHeld => ?_)
          clear hK K
          refine takeY 40 (some 83) rfl rfl (by kernel_rfl) (by kernel_rfl) (by kernel_rfl) (fun _ _ _ h => h) (by rfl) (v := _) (by (intro _ hSw; (try dsimp only at hSw); go_simp; try with_reducible rfl)) hHeld ?_
          simp only [Act.put, List.setIfInBounds_toArray, List.set_cons_zero, List.set_cons_succ]
          refine takeY 41 (some 84) rfl rfl (by kernel_rfl) (by kernel_rfl) (by kernel_rfl) (fun _ _ _ h => h) (by rfl) (v := _) (by (intro _ hSw; (try dsimp only at hSw); go_simp; try with_reducible rfl)) hHeld ?_
          simp only [Act.put, List.setIfInBounds_toArray, List.set_cons_zero, List.set_cons_succ]
          refine takeY 42 (some 85) rfl rfl (by kernel_rfl) (by kernel_rfl) (by kernel_rfl) (fun _ _ _ h => h) (by rfl) (v := _) (by (intro _ hSw; (try dsimp only at hSw); go_simp; try with_reducible rfl)) hHeld ?_
          simp only [Act.put, List.setIfInBounds_toArray, List.set_cons_zero, List.set_cons_succ]
          refine takeY 43 (some 86) rfl rfl (by kernel_rfl) (by kernel_rfl) (by kernel_rfl) (fun _ _ _ h => h) (by rfl) (v := _) (by (intro _ hSw; (try dsimp only at hSw); go_simp; try with_reducible rfl)) hHeld ?_
          simp only [Act.put, List.setIfInBounds_toArray, List.set_cons_zero, List.set_cons_succ]
          refine takeY 45 (some 88) rfl rfl (by kernel_rfl) (by kernel_rfl) (by kernel_rfl) (fun _ _ _ h => h) (by rfl) (v := _) (by (intro _ hSw; (try dsimp only at hSw); go_simp; try with_reducible rfl)) hHeld ?_
          simp only [Act.put, List.setIfInBounds_toArray, List.set_cons_zero, List.set_cons_succ]
          refine wpAnyH_ready (rs := [44]) (by kernel_rfl) (by simp) ?_
          refine AllReadyH.cons rfl (fun K hK => ?_) AllReadyH.nil
          clear hHeld
          go_simp
          go_wp2_with (go_at_call 26; refine Calls.mono HOI.out ?_; rintro e w8 ⟨A8, c8, rfl, hi8, hb8⟩; have HP8 := Lib.hid (HP7.out.below hb8); have HB8 : Hid (Below w.heap.size w w8) := Lib.hid HP8.out.hr.bel; have HI8 := Lib.hid hi8; have HRO := Lib.hid (roids_any HP8.out.rx HP8.out.hr.ok (by have := HP8.out.cnt; omega)); clear hi8 hb8 HOI HP7)
          refine hK.out _ _ (HSK.out _ HB8.out) (fun hHeld => ?_)
          clear hK K
          refine wpAnyH_ready (rs := [46]) (by kernel_rfl) (by simp) ?_
          refine AllReadyH.cons rfl (fun K hK => ?_) AllReadyH.nil
          clear hHeld
          go_simp
          go_wp2_with (go_at_call 27; refine Calls.mono HRO.out ?_; rintro e w9 ⟨A9, c9, rfl, hi9, hb9⟩; have HP9 := Lib.hid (HP8.out.below hb9); have HB9 : Hid (Below w.heap.size w w9) := Lib.hid HP9.out.hr.bel; have HSO := Lib.hid (samelist_ok A8 A9 (oidsL H2).length c8 c9 (oidsL H2) w9 rfl (by rw [oidsL_len]; have h1 := ties_le HP9.out.hr.ok; have h2 := HP9.out.cnt; omega) (HI8.out.below hb9) hi9); clear hi9 hb9 HRO HP8 HI8)
          refine hK.out _ _ (HSK.out _ HB9.out) (fun hHeld => ?_)
          clear hK K
          refine wpAnyH_ready (rs := [47]) (by kernel_rfl) (by simp) ?_
          refine AllReadyH.cons rfl (fun K hK => ?_) AllReadyH.nil
          clear hHeld
          go_simp
          go_wp2_with (go_at_call 23; refine Calls.mono HSO.out ?_; rintro e w10 ⟨rfl, hb10⟩; have HPZ := Lib.hid (HP9.out.below hb10); have HB10 : Hid (Below w.heap.size w w10) := Lib.hid HPZ.out.hr.bel; clear hb10 HSO HP9)
          refine hK.out _ _ (HSK.out _ HB10.out) (fun hHeld => ?_)
          clear hK K
          refine takeY 48 (some 91) rfl rfl (by kernel_rfl) (by kernel_rfl) (by kernel_rfl) (fun _ _ _ h => h) (by rfl) (v := _) (by (intro _ hSw; (try dsimp only at hSw); go_simp; try with_reducible rfl)) hHeld ?_
          simp only [Act.put, List.setIfInBounds_toArray, List.set_cons_zero, List.set_cons_succ]
          refine takeY 49 (some 92) rfl rfl (by kernel_rfl) (by kernel_rfl) (by kernel_rfl) (fun _ _ _ h => h) (by rfl) (v := _) (by (intro _ hSw; (try dsimp only at hSw); go_simp; try with_reducible rfl)) hHeld ?_
          simp only [Act.put, List.setIfInBounds_toArray, List.set_cons_zero, List.set_cons_succ]
          refine wpAnyH_done (by kernel_rfl) ?_ _
          clear hHeld
          go_wp2_with fail
          go_roundw
          case rel => exact ⟨i + 1, H2, R2, by omega, by go_num, Lib.hid ⟨HPZ.out.hr.mono (by omega), HPZ.out.rx, HPZ.out.lo, HPZ.out.cnt, HPZ.out.lim⟩⟩
          case measure => simp [intOf]; omega
        · obtain rfl : len = i := by omega
          have hd : decide ((len : Int) < (len : Int)) = false := by simp
          have HB := Lib.hid hI.out.hr.bel
          have HW := Lib.hid (works_any wr)
          clear hI
          go_wp2_with fail
          refine HW.out.mono ?_
          rintro e w5 ⟨rfl, hb5⟩
          have HB5 := Lib.hid (HB.out.trans (hb5.mono HB.out.size))
          clear hb5 HW HB
          go_wp2_with fail
          go_ret
          exact ⟨rfl, HB5.out⟩
end Go.Proofs.Ytclkkfffecmjnaa
