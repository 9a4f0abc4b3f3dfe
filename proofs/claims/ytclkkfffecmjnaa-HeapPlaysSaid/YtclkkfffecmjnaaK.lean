/- heap: ties. -/
import Derived.Test.YtclkkfffecmjnaaJ
namespace Go.Proofs.Ytclkkfffecmjnaa
open Go.RowKit
attribute [local go_sem] Oper.semAt_some
section
variable {w : World} {M : Mem} {n : Nat} {H : HS}
set_option maxRecDepth 20000 in
set_option maxHeartbeats 1000000 in
theorem tie_any (h : HM w M n H) (k o : Nat) (hk : k < 1000000) (ho : o < 1000000) (hn : n < 1000000) (h1 : H.oidOf k = none) (h2 : H.ofOid o = none) :
    Calls Try.prog 67 #[.pointer (some ⟨M.g, 0, none⟩), .int .i64 (k : Int), .int .i64 (o : Int)] w fun e w' => e = .returned (.tuple #[]) ∧ HM w' M (n + 1) { H with T := H.T ++ [(k, o)] } ∧ Off (fun b => b = M.oi ∨ b = M.ha) w w' := by
  have hwk : (Lit.int .i64 (k : Int)).wf = true := WalkArith.wf_i64 (by omega)
  have hwo : (Lit.int .i64 (o : Int)).wf = true := WalkArith.wf_i64 (by omega)
  have hne : M.oi ≠ M.ha := fun e => by have := h.roi; rw [e, h.rha] at this; cases this
  obtain ⟨_, _, _, _, c4, c5, _⟩ := h.told
  have hd := h.below (drewN_below w 1)
  obtain ⟨s1, w1, hr1, ho1, hst1⟩ := hd.ois.enter k o hwk hn h1
  have hh1 := hd.has.same (ho1.block M.ha hd.has.lt (fun e => hne e.symm))
  obtain ⟨w3, hr3, hm3, ho3⟩ := hst1 w1 rfl
  have hh3 := hh1.same (ho3.block M.ha hh1.lt (fun e => hne e.symm))
  obtain ⟨s2, w4, hr4, ho4, hst2⟩ := hh3.enter o k hwo hn h2
  obtain ⟨w5, hr5, hm5, ho5⟩ := hst2 w4 rfl
  have hfin : HM w5 M (n + 1) { H with T := H.T ++ [(k, o)] } ∧ Off (fun b => b = M.oi ∨ b = M.ha) w w5 := by
    have hoff : Off (fun b => b = M.oi ∨ b = M.ha) w.drew w5 := (((ho1.mono fun b _ e => .inl e).trans (ho3.mono fun b _ e => .inl e)).trans (ho4.mono fun b _ e => .inr e)).trans (ho5.mono fun b _ e => .inr e)
    have hl : (H.T ++ [(k, o)]).length = H.T.length + 1 := by simp
    refine ⟨hd.ties hoff ?_ ?_ ?_, (Off.drew _ w).trans hoff⟩
    · rw [hl, ← oid_add H k o h1]
      exact (hm3.same (ho4.block M.oi hm3.lt hne)).same (ho5.block M.oi (Nat.lt_of_lt_of_le hm3.lt ho4.size) hne)
    · rw [hl, ← of_add H k o h2]; exact hm5
    · refine (hd.obs.same (hoff.block M.ob hd.obs.lt fun e => ?_)).mono (Nat.le_succ _)
      have := hd.rob
      rcases e with e | e
      · rw [e, hd.roi] at this; cases this
      · rw [e, hd.rha] at this; cases this
  have HFIN := Lib.hid hfin
  have hr1 : (Instr.mapEntry 78 (.map (some M.oi)) (.int .i64 (k : Int))).run Try.prog w.drew = .ok (.tuple #[.int .i64 0, .int .i64 s1]) w1 := hr1
  clear h hd hfin
  go_enter Try.func67, Try.ntmps67
  go_wp2_with fail
  go_region
  go_end0
  exact ⟨rfl, HFIN.out⟩
set_option maxRecDepth 20000 in
set_option maxHeartbeats 1000000 in
theorem untie_any (h : HM w M n H) (hties : H.T.Pairwise fun p q => p.1 ≠ q.1 ∧ p.2 ≠ q.2) (htied : ∀ p ∈ H.T, p.2 ≤ 16384) (k : Nat) (hk : k < 1000000) :
    Calls Try.prog 65 #[.pointer (some ⟨M.g, 0, none⟩), .int .i64 (k : Int)] w fun e w' => e = .returned (.tuple #[]) ∧ HM w' M n { H with T := delT k H.T } ∧ Off (fun b => b = M.oi ∨ b = M.ha) w w' := by
  have hwk : (Lit.int .i64 (k : Int)).wf = true := WalkArith.wf_i64 (by omega)
  have hne : M.oi ≠ M.ha := fun e => by have := h.roi; rw [e, h.rha] at this; cases this
  obtain ⟨_, _, _, _, c4, c5, _⟩ := h.told
  have hlk := h.ois.look k hwk
  cases hs : H.oidOf k with
  | none =>
    rw [hs] at hlk
    have hT : delT k H.T = H.T := delT_none fun p hp e => HS.oid_none hs p hp (by omega)
    have HFIN : Hid (HM w M n { H with T := delT k H.T } ∧ Off (fun b => b = M.oi ∨ b = M.ha) w w) := Lib.hid ⟨by rw [hT]; exact h, Off.refl _ _⟩
    clear h hs hT
    go_enter Try.func65, Try.ntmps65
    go_wp2_with fail
    go_end0
    exact ⟨rfl, HFIN.out⟩
  | some o =>
    obtain ⟨⟨k', o'⟩, hp, e1, rfl⟩ := HS.oid_some hs
    have e1 : (k' : Int) = k := e1
    obtain rfl : k' = k := by omega
    have ht3 := htied _ hp
    dsimp only at ht3
    have hwo : (Lit.int .i64 (o' : Int)).wf = true := WalkArith.wf_i64 (by omega)
    have hof : (H.ofOid o').isSome = true := by
      unfold HS.ofOid
      rw [Option.isSome_map, List.find?_isSome]
      exact ⟨_, hp, by simp⟩
    have hoi : (H.oidOf k').isSome = true := by rw [hs]; rfl
    obtain ⟨w1, hr1, hm1, ho1⟩ := h.has.drop o' hwo 0
    have hh1 := h.ois.same (ho1.block M.oi h.ois.lt hne)
    obtain ⟨w2, hr2, hm2, ho2⟩ := hh1.drop k' hwk 0
    rw [hof, if_pos rfl, ← delT_len hties ⟨_, hp, rfl⟩, of_del hties hp] at hm1
    rw [hoi, if_pos rfl, ← delT_len hties ⟨_, hp, rfl⟩, oid_del] at hm2
    have hoff : Off (fun b => b = M.oi ∨ b = M.ha) w w2 := (ho1.mono fun b _ e => .inr e).trans (ho2.mono fun b _ e => .inl e)
    have c4' : w1.cell? ⟨M.g, 4, none⟩ = some (.map (some M.oi)) := by
      rw [World.cell?_of_block (a := ⟨M.g, 4, none⟩) (ho1.block M.g h.head.lt fun e => by have := h.rg; rw [show M.g = M.ha from e, h.rha] at this; cases this)]; exact c4
    have HFIN : Hid (HM w2 M n { H with T := delT k' H.T } ∧ Off (fun b => b = M.oi ∨ b = M.ha) w w2) := Lib.hid (by
      refine ⟨h.ties hoff hm2 (hm1.same (ho2.block M.ha hm1.lt fun e => hne e.symm)) (h.obs.same (hoff.block M.ob h.obs.lt fun e => ?_)), hoff⟩
      have := h.rob
      rcases e with e | e
      · rw [e, h.roi] at this; cases this
      · rw [e, h.rha] at this; cases this)
    rw [hs] at hlk
    clear h hs hm1 hm2 hh1 ho1 ho2 hof hoi hoff hp e1 ht3 htied hties
    go_enter Try.func65, Try.ntmps65
    go_wp2_with fail
    go_end0
    exact ⟨rfl, HFIN.out⟩
theorem tieE_none (h : HM w M n H) (k o : Int) (hk : (Lit.int .i64 k).wf = true) (hx : H.obj k = none) :
    Calls Try.prog 43 #[.pointer (some ⟨M.g, 0, none⟩), .int .i64 k, .int .i64 o] w fun e w' => e = .returned (.int .i64 7) ∧ w = w' := by
  have H1 := Lib.hid (at_none h k hk hx)
  clear h
  go_enter Try.func43, Try.ntmps43
  go_wp2_with fail
  refine H1.out.mono ?_
  rintro e w1 ⟨rfl, rfl⟩
  go_wp2_with fail
  go_ret
  exact ⟨rfl, rfl⟩
theorem tieE_arg (h : HM w M n H) (k o : Int) (hk : (Lit.int .i64 k).wf = true) {x : Ho} (hx : H.obj k = some x) (ho : o < 1 ∨ 16384 < o) :
    Calls Try.prog 43 #[.pointer (some ⟨M.g, 0, none⟩), .int .i64 k, .int .i64 o] w fun e w' => e = .returned (.int .i64 1) ∧ w = w' := by
  have H1 := Lib.hid (at_some h k hk hx)
  clear h
  by_cases h1 : o < 1
  · clear ho
    go_enter Try.func43, Try.ntmps43
    go_wp2_with fail
    refine H1.out.mono ?_
    rintro e w1 ⟨rfl, rfl⟩
    go_wp2_with fail
    go_ret
    exact ⟨rfl, rfl⟩
  · have h2 : 16384 < o := by omega
    have h3 : 1 ≤ o := by omega
    clear ho
    go_enter Try.func43, Try.ntmps43
    go_wp2_with fail
    refine H1.out.mono ?_
    rintro e w1 ⟨rfl, rfl⟩
    go_wp2_with fail
    go_ret
    exact ⟨rfl, rfl⟩
theorem tieE_state (h : HM w M n H) (k o : Int) (hk : (Lit.int .i64 k).wf = true) {x : Ho} (hx : H.obj k = some x) (ho : 1 ≤ o ∧ o ≤ 16384) (hs : (H.oidOf k).isSome = true ∨ (H.ofOid o).isSome = true) :
    Calls Try.prog 43 #[.pointer (some ⟨M.g, 0, none⟩), .int .i64 k, .int .i64 o] w fun e w' => e = .returned (.int .i64 3) ∧ w = w' := by
  have H1 := Lib.hid (at_some h k hk hx)
  obtain ⟨_, _, _, _, c4, c5, _⟩ := h.told
  have hl1 := h.ois.look k hk
  have hl2 := h.has.look o (WalkArith.wf_i64 (by omega))
  have d1 : decide (o < 1) = false := by simp; omega
  have d2 : decide (o > 16384) = false := by simp; omega
  clear h
  generalize (H.oidOf k).isSome = a at *
  generalize (H.ofOid o).isSome = b at *
  cases a
  · obtain rfl : b = true := by simpa using hs
    clear hs
    go_enter Try.func43, Try.ntmps43
    go_wp2_with fail
    refine H1.out.mono ?_
    rintro e w1 ⟨rfl, rfl⟩
    go_wp2_with fail
    go_ret
    exact ⟨rfl, rfl⟩
  · clear hs
    go_enter Try.func43, Try.ntmps43
    go_wp2_with fail
    refine H1.out.mono ?_
    rintro e w1 ⟨rfl, rfl⟩
    go_wp2_with fail
    go_ret
    exact ⟨rfl, rfl⟩
theorem tieE_nil (k o : Int) (w : World) :
    Calls Try.prog 43 #[.pointer none, .int .i64 k, .int .i64 o] w fun e w' => e = .returned (.int .i64 2) ∧ w = w' := by
  have H1 := Lib.hid (at_nil k w)
  go_enter Try.func43, Try.ntmps43
  go_wp2_with fail
  refine H1.out.mono ?_
  rintro e w1 ⟨rfl, rfl⟩
  go_wp2_with fail
  go_ret
  exact ⟨rfl, rfl⟩
theorem tieE_ok (h : HM w M n H) (k o : Int) (hk : (Lit.int .i64 k).wf = true) {x : Ho} (hx : H.obj k = some x) (ho : 1 ≤ o ∧ o ≤ 16384) (h1 : H.oidOf k = none) (h2 : H.ofOid o = none) (hxh : x.h < 1000000) (hn : n < 1000000) :
    Calls Try.prog 43 #[.pointer (some ⟨M.g, 0, none⟩), .int .i64 k, .int .i64 o] w fun e w' => e = .returned (.int .i64 0) ∧ HM w' M (n + 1) { H with T := H.T ++ [(x.h, o.toNat)] } ∧ Off (fun b => b = M.oi ∨ b = M.ha) w w' := by
  have H1 := Lib.hid (at_some h k hk hx)
  obtain ⟨_, hxk⟩ := HS.obj_some hx
  subst hxk
  obtain ⟨o, rfl⟩ : ∃ m : Nat, o = m := ⟨o.toNat, by omega⟩
  obtain ⟨_, _, _, _, c4, c5, _⟩ := h.told
  have hl1 := h.ois.look x.h hk
  have hl2 := h.has.look o (WalkArith.wf_i64 (by omega))
  rw [h1] at hl1
  rw [h2] at hl2
  have d1 : decide ((o : Int) < 1) = false := by simp; omega
  have d2 : decide ((o : Int) > 16384) = false := by simp; omega
  have HT := Lib.hid (tie_any h x.h o hxh (by omega) hn h1 h2)
  rw [Int.toNat_natCast]
  clear h h1 h2
  go_enter Try.func43, Try.ntmps43
  go_wp2_with fail
  refine H1.out.mono ?_
  rintro e w1 ⟨rfl, rfl⟩
  go_wp2_with fail
  refine HT.out.mono ?_
  rintro e w1 ⟨rfl, hf⟩
  have HF := Lib.hid hf
  clear hf
  go_wp2_with fail
  go_ret
  exact ⟨rfl, HF.out⟩
theorem untieE_nil (k : Int) (w : World) : Calls Try.prog 45 #[.pointer none, .int .i64 k] w fun e w' => e = .returned (.bool false) ∧ w = w' := by
  have H1 := Lib.hid (at_nil k w)
  go_enter Try.func45, Try.ntmps45
  go_wp2_with fail
  refine H1.out.mono ?_
  rintro e w1 ⟨rfl, rfl⟩
  go_wp2_with fail
  go_ret
  exact ⟨rfl, rfl⟩
theorem untieE_no (h : HM w M n H) (k : Int) (hk : (Lit.int .i64 k).wf = true) (hx : H.obj k = none ∨ ∃ x, H.obj k = some x ∧ (x.o.k = 8 ∨ H.oidOf k = none)) :
    Calls Try.prog 45 #[.pointer (some ⟨M.g, 0, none⟩), .int .i64 k] w fun e w' => e = .returned (.bool false) ∧ w = w' := by
  rcases hx with hx | ⟨x, hx, hi⟩
  · have H1 := Lib.hid (at_none h k hk hx)
    clear h
    go_enter Try.func45, Try.ntmps45
    go_wp2_with fail
    refine H1.out.mono ?_
    rintro e w1 ⟨rfl, rfl⟩
    go_wp2_with fail
    go_ret
    exact ⟨rfl, rfl⟩
  · have H1 := Lib.hid (at_some h k hk hx)
    obtain ⟨A, c, hh⟩ := h.held x (HS.obj_some hx).1
    obtain ⟨q0, _⟩ := hh.told
    obtain ⟨_, _, _, _, c4, _⟩ := h.told
    have hl1 := h.ois.look k hk
    by_cases e8 : x.o.k = 8
    · rw [e8] at q0
      clear h hh hi hl1
      go_enter Try.func45, Try.ntmps45
      go_wp2_with fail
      refine H1.out.mono ?_
      rintro e w1 ⟨rfl, rfl⟩
      go_wp2_with fail
      go_ret
      exact ⟨rfl, rfl⟩
    · have hi : H.oidOf k = none := hi.resolve_left e8
      rw [hi] at hl1
      have d8 : ((x.o.k : Int) == 8) = false := by simp; omega
      clear h hh e8
      go_enter Try.func45, Try.ntmps45
      go_wp2_with fail
      refine H1.out.mono ?_
      rintro e w1 ⟨rfl, rfl⟩
      go_wp2_with fail
      go_ret
      exact ⟨rfl, rfl⟩
set_option maxHeartbeats 400000 in
theorem untieE_yes (h : HM w M n H) {t : Nat} (hok : H.Ok t) (ht : t < 1000000) (k : Int) (hk : (Lit.int .i64 k).wf = true) {x : Ho} (hx : H.obj k = some x) (h8 : x.o.k ≠ 8) (ho : (H.oidOf k).isSome = true) :
    Calls Try.prog 45 #[.pointer (some ⟨M.g, 0, none⟩), .int .i64 k] w fun e w' => e = .returned (.bool true) ∧ HM w' M n { H with L := updL { x with dirty := false } H.L, T := delT x.h H.T } ∧ Off (fun b => M.R b ≠ .no) w w' := by
  have H1 := Lib.hid (at_some h k hk hx)
  obtain ⟨hxl, hxk⟩ := HS.obj_some hx
  subst hxk
  have hxh := (hok.inn x hxl).2.1
  obtain ⟨A, c, hh⟩ := h.held x hxl
  obtain ⟨q0, _⟩ := hh.told
  obtain ⟨_, _, _, _, c4, _⟩ := h.told
  have hl1 := h.ois.look x.h hk
  rw [ho] at hl1
  have d8 : ((x.o.k : Int) == 8) = false := by simp; omega
  have HT := Lib.hid (untie_any h hok.ties (fun p hp => (hok.tied p hp).2.2) x.h (by have := hok.cnt; omega))
  have HH := Lib.hid (And.intro h (And.intro hxl hh.lab))
  clear h hh hx hok
  go_enter Try.func45, Try.ntmps45
  go_wp2_with fail
  refine H1.out.mono ?_
  rintro e w1 ⟨rfl, rfl⟩
  go_wp2_with fail
  refine HT.out.mono ?_
  rintro e w1 ⟨rfl, hm, hoff⟩
  have hm2 := hm.flag HH.out.2.1 false
  obtain ⟨A1, c1, hh1⟩ := hm.held x HH.out.2.1
  obtain ⟨_, _, _, _, p4, pf⟩ := hh1.told
  have HF := Lib.hid (And.intro hm2 hoff)
  clear hm hm2 hoff hh1
  go_wp2_with fail
  go_ret
  refine ⟨rfl, HF.out.1, (HF.out.2.mono fun b _ e => ?_).trans ((Off.setc _ _ _ _).mono fun b _ e => ?_)⟩
  · rcases e with e | e
    · rw [e, HH.out.1.roi]; intro e; cases e
    · rw [e, HH.out.1.rha]; intro e; cases e
  · have e' : b = M.B x.h := e
    rw [e', HH.out.2.2]; intro e; cases e
end
end Go.Proofs.Ytclkkfffecmjnaa
