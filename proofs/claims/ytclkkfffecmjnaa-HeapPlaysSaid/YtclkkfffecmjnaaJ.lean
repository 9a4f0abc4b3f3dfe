/- heap: SetWord. -/
import Derived.Test.YtclkkfffecmjnaaI
namespace Go.Proofs.Ytclkkfffecmjnaa
open Go.RowKit
attribute [local go_sem] Oper.semAt_some
theorem set_nil (k i : Int) (z : Wd) (w : World) : Calls Try.prog 40 #[.pointer none, .int .i64 k, .int .i64 i, .agg #[.int .u8 (z.k : Int), .int .i64 z.n]] w fun e w' => e = .returned (.bool false) ∧ Below w.heap.size w w' := by
  have hb := (Below.refl w.heap.size w).alloc (Nat.le_refl _) (.cells #[.int .u8 (z.k : Int), .int .i64 z.n] 37)
  have H1 := Lib.hid (at_nil k (w.alloc (.cells #[.int .u8 (z.k : Int), .int .i64 z.n] 37)))
  have HB := Lib.hid hb
  clear hb
  go_enter Try.func40, Try.ntmps40
  go_wp2_with fail
  refine H1.out.mono ?_
  rintro e w1 ⟨rfl, rfl⟩
  go_wp2_with fail
  go_ret
  exact ⟨rfl, HB.out⟩
section
variable {w : World} {M : Mem} {n : Nat} {H : HS}
/-- May a word of it be set? -/
def setsO (o : Ob) : Bool := decide (o.k = 3) || decide (o.k = 4)
set_option maxRecDepth 20000 in
set_option maxHeartbeats 1000000 in
theorem set_no (h : HM w M n H) (k i : Int) (z : Wd) (hz : z.ok) (hk : (Lit.int .i64 k).wf = true) (hl : ∀ x, H.obj k = some x → x.o.ws.length ≤ 100000 ∧ x.o.k < 256) (hx : H.obj k = none ∨ ∃ x, H.obj k = some x ∧ (setsO x.o = false ∨ i < 0 ∨ (x.o.ws.length : Int) ≤ i ∨ Hp.wordOk z = false)) :
    Calls Try.prog 40 #[.pointer (some ⟨M.g, 0, none⟩), .int .i64 k, .int .i64 i, .agg #[.int .u8 (z.k : Int), .int .i64 z.n]] w fun e w' => e = .returned (.bool false) ∧ Below w.heap.size w w' := by
  have hb := (Below.refl w.heap.size w).alloc (Nat.le_refl _) (.cells #[.int .u8 (z.k : Int), .int .i64 z.n] 37)
  have h0 := h.below hb
  have HB := Lib.hid hb
  rcases hx with hx | ⟨x, hx, hi⟩
  · have H1 := Lib.hid (at_none h0 k hk hx)
    clear h hb h0
    go_enter Try.func40, Try.ntmps40
    go_wp2_with fail
    refine H1.out.mono ?_
    rintro e w1 ⟨rfl, rfl⟩
    go_wp2_with fail
    go_ret
    exact ⟨rfl, HB.out⟩
  · have H1 := Lib.hid (at_some h0 k hk hx)
    obtain ⟨A, c, hh⟩ := h0.held x (HS.obj_some hx).1
    obtain ⟨q0, _, q2, _⟩ := hh.told
    obtain ⟨hl1, hl2⟩ := hl x hx
    have hs : setsO x.o = (decide (x.o.k = 3) || decide (x.o.k = 4)) := rfl
    rw [hs] at hi
    generalize x.o.ws.length = l at *
    generalize x.o.k = kk at *
    by_cases hkk : ¬ (kk = 3 ∨ kk = 4)
    · have e3 : ((kk : Int) != 3) = true := by simp; omega
      have e4 : ((kk : Int) != 4) = true := by simp; omega
      clear h hb h0 hh hi hs
      go_enter Try.func40, Try.ntmps40
      go_wp2_with fail
      refine H1.out.mono ?_
      rintro e w1 ⟨rfl, rfl⟩
      go_wp2_with fail
      go_ret
      exact ⟨rfl, HB.out⟩
    · have hkk : kk = 3 ∨ kk = 4 := by omega
      have hi : i < 0 ∨ (l : Int) ≤ i ∨ Hp.wordOk z = false := by
        rcases hi with hi | hi
        · rcases hkk with e | e <;> subst e <;> simp at hi
        · exact hi
      have HW := Lib.hid (isword_any z.k z.n (w.alloc (.cells #[.int .u8 (z.k : Int), .int .i64 z.n] 37)) hz.1)
      have HE : Hid (Hp.wordOk ⟨z.k, z.n⟩ = Hp.wordOk z) := Lib.hid rfl
      rw [HE.out] at HW
      have hw : ∀ j : Nat, i = j → ¬ (l ≤ j) → Hp.wordOk z = false := fun j e1 e2 => by
        rcases hi with h1 | h1 | h1
        · omega
        · omega
        · exact h1
      generalize Hp.wordOk z = wz at *
      clear h hb h0 hh hs hi
      rcases hkk with e | e
      all_goals
        subst e
        by_cases hi0 : i < 0
        · go_enter Try.func40, Try.ntmps40
          go_wp2_with fail
          refine H1.out.mono ?_
          rintro e w1 ⟨rfl, rfl⟩
          go_wp2_with fail
          go_ret
          exact ⟨rfl, HB.out⟩
        · obtain ⟨j, rfl⟩ : ∃ j : Nat, i = j := ⟨i.toNat, by omega⟩
          have hd0 : decide ((j : Int) < 0) = false := by simp
          by_cases hj : l ≤ j
          · have hd1 : decide (l ≤ j) = true := by simpa using hj
            have hd2 : decide ((j : Int) ≥ (l : Int)) = true := by simp; omega
            clear hi0
            go_enter Try.func40, Try.ntmps40
            go_wp2_with fail
            refine H1.out.mono ?_
            rintro e w1 ⟨rfl, rfl⟩
            go_wp2_with fail
            go_ret
            exact ⟨rfl, HB.out⟩
          · have hd1 : decide (l ≤ j) = false := by simpa using hj
            have hd2 : decide ((j : Int) ≥ (l : Int)) = false := by simp; omega
            have hwz := hw j rfl hj
            subst hwz
            clear hi0 hw
            go_enter Try.func40, Try.ntmps40
            go_wp2_with fail
            refine H1.out.mono ?_
            rintro e w1 ⟨rfl, rfl⟩
            go_wp2_with (go_at_call 68; refine Calls.mono HW.out ?_; rintro e w5 ⟨rfl, hb5⟩)
            go_ret
            exact ⟨rfl, HB.out.trans (hb5.mono HB.out.size)⟩
set_option maxRecDepth 20000 in
set_option maxHeartbeats 2000000 in
theorem set_yes (h : HM w M n H) (k : Int) (i : Nat) (z : Wd) (hz : z.ok) (hk : (Lit.int .i64 k).wf = true) {x : Ho} (hx : H.obj k = some x) (hl : x.o.ws.length ≤ 100000) (hs : setsO x.o = true) (hi : i < x.o.ws.length) (hw : Hp.wordOk z = true) :
    Calls Try.prog 40 #[.pointer (some ⟨M.g, 0, none⟩), .int .i64 k, .int .i64 (i : Int), .agg #[.int .u8 (z.k : Int), .int .i64 z.n]] w fun e w' => e = .returned (.bool true) ∧ HM w' M n { H with L := updL ⟨x.h, { x.o with ws := x.o.ws.set i z }, (H.oidOf k).isSome⟩ H.L } ∧ Off (fun b => M.R b ≠ .no) w w' := by
  obtain ⟨w0, hw0⟩ : ∃ w0, w.alloc (.cells #[.int .u8 (z.k : Int), .int .i64 z.n] 37) = w0 := ⟨_, rfl⟩
  have hb : Below w.heap.size w w0 := by rw [← hw0]; exact (Below.refl _ _).alloc (Nat.le_refl _) _
  have hR : Blk w0 w.heap.size 37 #[.int .u8 (z.k : Int), .int .i64 z.n] := by rw [← hw0]; exact Blk.new _ _ _
  have h0 := h.below hb
  have H1 := Lib.hid (at_some h0 k hk hx)
  obtain ⟨A, c, hh⟩ := h0.held x (HS.obj_some hx).1
  obtain ⟨q0, _, q2, _⟩ := hh.told
  have hW := isword_any z.k z.n w0 hz.1
  have e9 : Hp.wordOk ⟨z.k, z.n⟩ = true := hw
  rw [e9] at hW
  have HW := Lib.hid hW
  have HR := Lib.hid (And.intro h (And.intro hb (And.intro hR (And.intro hh (And.intro hx (And.intro hz (And.intro hi hk)))))))
  obtain ⟨l, hll⟩ : ∃ l, x.o.ws.length = l := ⟨_, rfl⟩
  obtain ⟨kk, hkk⟩ : ∃ kk, x.o.k = kk := ⟨_, rfl⟩
  obtain ⟨f, hf⟩ : ∃ f, M.B x.h = f := ⟨_, rfl⟩
  have hs' : kk = 3 ∨ kk = 4 := by
    unfold setsO at hs
    rw [hkk] at hs
    simpa using hs
  rw [hf, hkk] at q0
  rw [hf, hll] at q2
  rw [hf] at H1
  rw [hll] at hi hl
  have HF := Lib.hid (And.intro hf hll)
  have hd0 : decide ((i : Int) < 0) = false := by simp
  have hd1 : decide (l ≤ i) = false := by simp; omega
  have hd2 : decide ((i : Int) ≥ (l : Int)) = false := by simp; omega
  have r0 := hR.cell 0
  have r1 := hR.cell 1
  simp only [List.getElem?_toArray, List.getElem?_cons_zero, List.getElem?_cons_succ] at r0 r1
  clear h hb hR h0 hh hW hs hw hf hll hkk e9
  rcases hs' with e | e
  all_goals
    subst e
    go_enter Try.func40, Try.ntmps40
    go_wp2_with fail
    refine H1.out.mono ?_
    rintro e w1 ⟨rfl, rfl⟩
    clear hw0
    go_wp2_with (go_at_call 68; refine Calls.mono HW.out ?_; rintro e w5 ⟨rfl, hb5⟩
                 obtain ⟨hf, hll⟩ := HF.out
                 have hm5 := HR.out.1.below (HR.out.2.1.trans (hb5.mono HR.out.2.1.size))
                 obtain ⟨A5, c5, hh5⟩ := hm5.held x (HS.obj_some HR.out.2.2.2.2.1).1
                 obtain ⟨p0, _, p2, _, p4, pf⟩ := hh5.told
                 obtain ⟨q, z5, hA, hz5, _, _, _, z0, z1, zf⟩ := hh5.row.at_ HR.out.2.2.2.2.2.2.1
                 have s0 := (HR.out.2.2.1.below hb5 HR.out.2.2.1.lt).cell 0
                 have s1 := (HR.out.2.2.1.below hb5 HR.out.2.2.1.lt).cell 1
                 obtain ⟨_, _, _, _, o4, _⟩ := hm5.told
                 have hlk := fun (W : World) (hW : W.heap[M.oi]? = w5.heap[M.oi]?) => (hm5.ois.same hW).look k HR.out.2.2.2.2.2.2.2
                 simp only [List.getElem?_toArray, List.getElem?_cons_zero, List.getElem?_cons_succ] at s0 s1
                 subst hA
                 rw [hf] at p0 p2 p4 pf
                 rw [hll] at p2
                 have HH5 := Lib.hid (And.intro hm5 (And.intro hh5 (And.intro hf (And.intro hll (HR.out.2.1.trans (hb5.mono HR.out.2.1.size))))))
                 have HLK := Lib.hid hlk
                 clear hf hll hm5 hh5 hb5 hlk q0 q2 r0 r1)
    go_region
    obtain ⟨w6, hw6⟩ : ∃ w6, ((w5.setCell ⟨q, i * 2, none⟩ (.int .u8 (z.k : Int))).setCell ⟨q, i * 2 + 1, none⟩ (.int .i64 z.n)).drew = w6 := ⟨_, rfl⟩
    rw [hw6]
    obtain ⟨hm5, hh5, hf, hll, hbb⟩ := HH5.out
    have ho6 : Off (fun b => b = q) w5 w6 := by rw [← hw6]; exact (offS (Off.setc _ _ _ _) _ _ _ rfl).trans (Off.drew _ _)
    have hrow6 : WRow 0 w6 (some ⟨q, 0, none⟩) x.o.ws.length c5 (x.o.ws.set i z) := by
      have h9 := hh5.row.set_ i z HR.out.2.2.2.2.2.1
      rw [← hw6]
      exact h9.same (Nat.le_refl _) fun p e => rfl
    have hlq := hh5.wlab _ rfl
    have hne : ∀ b l, M.R b = l → l ≠ .wd x.h → b ≠ q := fun b l e1 e2 e3 => e2 (by rw [← e1, e3]; exact hlq)
    have hfq : f ≠ q := hne f (.it x.h) (by rw [← hf]; exact hh5.lab) (by intro e; cases e)
    have hB6 : Blk w6 f 88 (heldC x (some ⟨q, 0, none⟩) c5) := by
      have h9 := hh5.blk
      rw [hf] at h9
      exact h9.same (ho6.block f h9.lt hfq)
    have g4 : w6.cell? ⟨M.g, 4, none⟩ = some (.map (some M.oi)) := by
      rw [World.cell?_of_block (a := ⟨M.g, 4, none⟩) (ho6.block M.g (hm5.lt _ (by rw [hm5.rg]; intro e; cases e)) (hne M.g _ hm5.rg (by intro e; cases e)))]; exact o4
    have hlk6 := HLK.out w6 (ho6.block M.oi (hm5.lt _ (by rw [hm5.roi]; intro e; cases e)) (hne M.oi _ hm5.roi (by intro e; cases e)))
    have t4 : w6.cell? ⟨f, 4, none⟩ = some (.bool x.dirty) := hB6.cell 4
    have tf := hB6.frozen 4
    have HZ := Lib.hid (And.intro ho6 (And.intro hrow6 (And.intro hB6 (And.intro hfq hlq))))
    clear hm5 hh5 hf hll hbb ho6 hrow6 hlq hne hfq hB6 hw6 z0 z1 zf pf p0 p2 p4 s0 s1 o4 HLK
    go_wp2_with fail
    go_ret
    obtain ⟨ho6, hrow6, hB6, hfq, hlq⟩ := HZ.out
    obtain ⟨hm5, hh5, hf, hll, hbb⟩ := HH5.out
    have hoF : Off (fun b => b = q ∨ b = f) w5 (w6.setCell ⟨f, 4, none⟩ (.bool (H.oidOf k).isSome)) := (ho6.mono fun b _ e => .inl e).trans ((Off.setc w6 f 4 _).mono fun b _ e => .inr e)
    refine ⟨rfl, hm5.upd (y := ⟨x.h, { x.o with ws := x.o.ws.set i z }, (H.oidOf k).isSome⟩) (HS.obj_some HR.out.2.2.2.2.1).1 rfl hoF (fun b e => ?_) (R' := M.R) (fun _ _ => rfl) (fun b hb => Nat.lt_of_lt_of_le (hm5.lt b hb) hoF.size) (A := some ⟨q, 0, none⟩) (c := c5) ⟨?_, ?_, hh5.lab, hh5.wlab⟩, ?_⟩
    · rcases e with e | e
      · rw [e]; exact .inr hlq
      · rw [e, ← hf]; exact .inl hh5.lab
    · rw [hf]
      have h9 := hB6.set_ 4 (.bool (H.oidOf k).isSome)
      unfold heldC at h9 ⊢
      dsimp only
      rw [List.length_set]
      exact h9
    · dsimp only
      rw [List.length_set]
      exact hrow6.same (by simp [World.setCell]) fun p e => by cases e; exact Below.heap_setCell _ _ _ _ (fun e => hfq e.symm)
    · exact (Off.of_below hbb _ (fun b h1 h2 => absurd h1 (by omega))).then hoF (fun b hb e => by
        rcases e with e | e
        · rw [e, hlq]; intro e; cases e
        · rw [e, ← hf, hh5.lab]; intro e; cases e)
end
end Go.Proofs.Ytclkkfffecmjnaa
