/- heap: Dirty, walked. -/
import Derived.Test.YtclkkfffecmjnaaQ
namespace Go.Proofs.Ytclkkfffecmjnaa
open Go.RowKit Go.Sort
attribute [local go_sem] Oper.semAt_some
theorem dirty_nil (w : World) : Calls Try.prog 24 #[.pointer none] w fun e w' => e = .returned (.slice none 0 0) ∧ w = w' := by
  go_enter Try.func24, Try.ntmps24
  go_wp2_with fail
  go_ret
  exact ⟨rfl, rfl⟩
section
variable {w : World} {M : Mem} {n : Nat} {H : HS}
set_option maxRecDepth 20000 in
set_option maxHeartbeats 2000000 in
theorem dirty_any (h : HM w M n H) {t : Nat} (hok : H.Ok t) (ht : t < 900000) (hn : n < 900000) :
    Calls Try.prog 24 #[.pointer (some ⟨M.g, 0, none⟩)] w fun e w' => ∃ A c, e = .returned (.slice A (dirtyL H).length c) ∧ Ints w' A (nums (dirtyL H)) ∧ (∀ p : Addr, A = some p → w.heap.size ≤ p.block ∧ p.block < w'.heap.size) ∧ Below w.heap.size w w' := by
  obtain ⟨_, _, _, c3, c4, _⟩ := h.told
  have hglt := h.head.lt
  have hois := h.ois
  obtain ⟨D, hown, hsz, hS⟩ := hois
  have hmlt := hown.lt
  have HH := Lib.hid h
  have HK := Lib.hid hok
  have HS0 := Lib.hid hS
  have hsl := hown.size_le
  have HSL := Lib.hid hsl
  clear h hS hsz hok hsl
  go_enter Try.func24, Try.ntmps24
  go_wp2_with (first
    | (at_range; refine wpList_range_own _ rfl _ 78 rfl 3 3 (Maps.int_keyed Try.underlying3) Try.underlying78 _ M.oi n D rfl hown ?_; intro w0 hrg0 hg0 hs0)
    | go_in)
  have hR0 : DrI w w0 (.slice none 0 0) [] := ⟨IntsZ.nil w0, (fun j hj => by simp [Value.ownBlock] at hj), ⟨hg0.os, hg0.tape, hg0.output, hg0.size, fun k hk => hg0.block k hk (by simp)⟩, by rw [hs0]; exact Nat.le_refl _⟩
  have HR0 := Lib.hid hR0
  have hall : ∀ p ∈ H.T, Maps.has D (.int .i64 (p.1 : Int)) = true := fun p hp => by
    obtain ⟨⟨x, hx, e⟩, _⟩ := HK.out.tied p hp
    have := (HK.out.inn x hx).2.1
    have := HK.out.cnt
    rw [(HS0.out _ (WalkArith.wf_i64 (by omega))).2]
    unfold HS.oidOf
    rw [Option.isSome_map, List.find?_isSome]
    exact ⟨p, hp, by simp⟩
  have HALL := Lib.hid hall
  clear hR0 hall hs0 hg0 hown
  go_frame
  go_loopw [3, 4] (fun lv _ wr => ∃ (left : Lit → Bool) (cnt : Nat) (V : List Nat), wr.ranges Try.prog 3 numR M.oi w.heap.size n D left cnt ∧ Hid (DrI w wr lv V) ∧ Hid (∀ z, left z = true → Maps.has D z = true) ∧ Hid (∀ p ∈ H.T, left (.int .i64 (p.1 : Int)) = false → ∀ x ∈ H.L, x.h = p.1 → x.dirty = true → x.h ∈ V) ∧ Hid (∀ v ∈ V, left (.int .i64 (v : Int)) = false ∧ ∃ x ∈ H.L, x.h = v ∧ x.dirty = true) ∧ Hid V.Nodup ∧ Hid (V.length + cnt ≤ n))
    (fun _ _ wr => wr.rangeLeft M.oi w.heap.size)
  case atStart =>
    exact ⟨_, _, [], hrg0, HR0, Lib.hid (fun z h => h), Lib.hid (fun p hp h0 => by rw [HALL.out p hp] at h0; cases h0), Lib.hid (fun v hv => by cases hv), Lib.hid List.nodup_nil, Lib.hid (by have := HSL.out; simp; omega)⟩
  case round =>
    obtain ⟨left, cnt, V, hrg, HR, HSUB, HIN, HOF, HND, HCT⟩ := hrel
    obtain ⟨A0, c0, hv, hlc, hcm⟩ := HR.out.ints.shape
    obtain ⟨vn, hvn⟩ : ∃ vn, V.length = vn := ⟨_, rfl⟩
    rw [nums_len, hvn] at hv hlc
    have HVN := Lib.hid hvn
    have hvl : vn ≤ 900000 := by have := HCT.out; omega
    subst hv
    have hmr := HH.out.below HR.out.bel
    obtain ⟨_, _, _, d3, _⟩ := hmr.told
    have HMR := Lib.hid hmr
    clear hvn hmr
    go_wp2_with (first
      | (at_next; refine next_num _ rfl _ rfl H.oidOf M.oi w.heap.size n D left cnt HS0.out HSUB.out rfl hrg ?_ ?_)
      | go_in)
    · intro hc0 hl0
      have hset : ∀ v, v ∈ V ↔ v ∈ dirtyL H := fun v => by
        rw [dirtyL_mem]
        constructor
        · intro hv
          obtain ⟨_, x, h1, h2, h3⟩ := HOF.out v hv
          exact ⟨x, h1, h3, h2⟩
        · rintro ⟨x, h1, h2, rfl⟩
          obtain ⟨p, hp, e⟩ := HK.out.dirty x h1 h2
          exact HIN.out p hp (hl0 _) x h1 e.symm h2
      have hsort := nums_sort HND.out (dirtyL_rise HK.out) hset
      have hlen : (dirtyL H).length = vn := by
        have h9 : (nums (dirtyL H)).length = (nums V).length := by rw [← hsort, List.length_mergeSort]
        rw [nums_len, nums_len, HVN.out] at h9
        exact h9
      have HE := Lib.hid (And.intro hsort hlen)
      clear hset hsort hlen hrg d3
      cases A0 with
      | none =>
        obtain rfl : 0 = vn := by
          rcases HR.out.ints.own.2 with ⟨e, h0⟩ | ⟨g, cap, cur, e, _⟩
          · rw [nums_len] at h0; have := HVN.out; omega
          · cases e
        have H1 := Lib.hid (Any.slices_Sort_int_none lays189 none c0 wr)
        go_wp2_with fail
        refine H1.out.mono ?_
        rintro e w2 ⟨rfl, rfl⟩
        go_wp2_with fail
        go_ret
        refine ⟨none, c0, by rw [HE.out.2]; rfl, ?_, (fun p e => by cases e), HR.out.bel⟩
        have : dirtyL H = [] := List.eq_nil_of_length_eq_zero HE.out.2
        rw [this]
        intro k z hz
        simp [nums] at hz
      | some a =>
        obtain ⟨q, rfl⟩ : ∃ q, a = ⟨q, 0, none⟩ := by
          rcases HR.out.ints.own.2 with ⟨e, h0⟩ | ⟨g, cap, cur, e, _⟩
          · cases e
          · injection e with e1 e2 e3
            injection e1 with e1
            exact ⟨g, e1⟩
        have hi := HR.out.ints
        have hsl := slices_Sort_int q 0 c0 (nums V) wr (by
          have h5 : IntsZ wr (.slice (some ⟨q, 0, none⟩) (nums V).length c0) (nums V) := by rw [nums_len, HVN.out]; exact hi
          exact h5.holds) (hi.lt q rfl) (by rw [nums_len, HVN.out]; omega)
        rw [nums_len, HVN.out, HE.out.1] at hsl
        have HSL2 := Lib.hid hsl
        clear hi hsl
        go_wp2_with fail
        refine HSL2.out.mono ?_
        rintro e w2 ⟨rfl, nn, os, he⟩
        have HF := Lib.hid (sortedD (by have := HR.out; rw [← HVN.out] at this; exact this) (by rw [nums_len, HE.out.2, HVN.out]) (fun z hz => by
          obtain ⟨v, hv, rfl⟩ := nums_mem.1 hz
          obtain ⟨x, hx, _, rfl⟩ := dirtyL_mem.1 hv
          have := (HK.out.inn x hx).2.1
          have := HK.out.cnt
          omega) he)
        clear he HSL2
        go_wp2_with fail
        go_ret
        exact ⟨_, c0, by rw [HE.out.2]; rfl, HF.out.1, fun p e => by cases e; exact HF.out.2.2, HF.out.2.1⟩
    · intro x f w1 cnt1 hwx hlx hfx hrg1 hlt hg1 hs1 hen
      obtain ⟨p, hp, rfl, rfl⟩ := HS.oid_some hfx
      obtain ⟨⟨y, hy, hyh⟩, _⟩ := HK.out.tied p hp
      have hR1 := HR.out.frame hg1
      have hm1 := HH.out.below hR1.bel
      obtain ⟨_, _, _, e3, _⟩ := hm1.told
      have hlk0 := hm1.obs.look (p.1 : Int) hwx
      have hobj : atH M.B H.L (p.1 : Int) = some (M.B y.h) := by rw [← hyh]; exact hm1.at_ (HS.obj_of HK.out hy)
      rw [hobj] at hlk0
      have hlk : (Instr.lookup 77 (.map (some M.ob)) (.int .i64 (p.1 : Int)) false).run Try.prog w1 = .ok (.pointer (some ⟨M.B y.h, 0, none⟩)) w1 := hlk0
      clear hlk0
      obtain ⟨Ay, cy, hh⟩ := hm1.held y hy
      obtain ⟨_, _, _, _, q4, _⟩ := hh.told
      obtain ⟨hvn2, w5, hrun, hR5, hg5⟩ := hR1.push p.1 (by rw [HVN.out]; omega)
      have hrg5 := hrg1.kept hg5 (fun e => by have := hR1.own M.oi e.symm; omega) (fun e => by have := hR1.own _ e.symm; omega)
      have HSUB1 : Hid (∀ z, (left z && !z.sameKey (.int .i64 (p.1 : Int))) = true → Maps.has D z = true) := Lib.hid (fun z hz => HSUB.out z (by
        cases hhz : left z with
        | true => rfl
        | false => rw [hhz] at hz; cases hz))
      have hstep : ∀ j : Nat, (left (.int .i64 (j : Int)) && !(Lit.int .i64 (j : Int)).sameKey (.int .i64 (p.1 : Int))) = false ↔ (left (.int .i64 (j : Int)) = false ∨ j = p.1) := fun j => by
        rw [same_int]
        by_cases e : j = p.1
        · simp [e]
        · have : ¬ ((j : Int) = (p.1 : Int)) := by omega
          simp [e, this]
      have HST := Lib.hid hstep
      have hxn : p.1 ∉ V := fun hv => by
        have := (HOF.out _ hv).1
        rw [hlx] at this
        cases this
      obtain ⟨dd, hdd⟩ : ∃ dd, y.dirty = dd := ⟨_, rfl⟩
      obtain ⟨bf, hbf⟩ : ∃ bf, M.B y.h = bf := ⟨_, rfl⟩
      rw [hdd, hbf] at q4
      rw [hbf] at hlk
      have huy : ∀ x ∈ H.L, x.h = p.1 → x = y := fun x hx e => HS.uniq HK.out.rise hx hy (by omega)
      have HY := Lib.hid (And.intro hy (And.intro hyh (And.intro hxn (And.intro huy hdd))))
      have HLT := Lib.hid hlt
      have HRG := Lib.hid hrg
      have HR1 := Lib.hid hR1
      have HRG1 := Lib.hid hrg1
      have HR5 := Lib.hid hR5
      have HRG5 := Lib.hid hrg5
      have HRUN := Lib.hid hrun
      have HHP := Lib.hid hp
      clear hfx hwx hlx hg1 hs1 hstep hxn hbf hobj hm1 hh hR1 hrg hrg1 hR5 hrg5 hg5 hrun hlt hy hyh huy hdd hp d3
      cases dd with
      | false =>
        go_wp2_with fail
        go_roundw
        case rel =>
          obtain ⟨hy, hyh, hxn, huy, hdd⟩ := HY.out
          exact ⟨_, cnt1, V, HRG1.out, HR1, HSUB1, Lib.hid (fun p' hp' h0 x hx e hd => by
            rcases (HST.out p'.1).1 h0 with h1 | h1
            · exact HIN.out p' hp' h1 x hx e hd
            · have := huy x hx (by omega); rw [this, hdd] at hd; cases hd), Lib.hid (fun v hv => ⟨(HST.out v).2 (.inl (HOF.out v hv).1), (HOF.out v hv).2⟩), HND, Lib.hid (by have := HCT.out; have := HLT.out; omega)⟩
        case measure => rw [HRG1.out.left_eq, HRG.out.left_eq]; exact HLT.out
      | true =>
        go_wp2_with (at_builtin; refine wpList_app rfl _ _ 41 rfl _ _ _ _ rfl rfl HRUN.out ?_; clear HRUN)
        go_roundw
        case rel =>
          obtain ⟨hy, hyh, hxn, huy, hdd⟩ := HY.out
          exact ⟨_, cnt1, V ++ [p.1], HRG5.out, HR5, HSUB1, Lib.hid (fun p' hp' h0 x hx e hd => by
            rcases (HST.out p'.1).1 h0 with h1 | h1
            · exact List.mem_append.2 (.inl (HIN.out p' hp' h1 x hx e hd))
            · rw [e, h1]; simp), Lib.hid (fun v hv => by
            rcases List.mem_append.1 hv with hv | hv
            · exact ⟨(HST.out v).2 (.inl (HOF.out v hv).1), (HOF.out v hv).2⟩
            · rw [List.mem_singleton.1 hv]; exact ⟨(HST.out _).2 (.inr rfl), y, hy, hyh, hdd⟩), Lib.hid (by
            rw [List.nodup_append]
            exact ⟨HND.out, by simp, fun a ha b hb e => by rw [List.mem_singleton.1 hb] at e; rw [e] at ha; exact hxn ha⟩), Lib.hid (by have := HCT.out; have := HLT.out; rw [List.length_append]; simp; omega)⟩
        case measure => rw [HRG5.out.left_eq, HRG.out.left_eq]; exact HLT.out
end
end Go.Proofs.Ytclkkfffecmjnaa
