/- TokenAhead. -/
import Derived.Test.YtdnmdccjecoojaaDoorMb
namespace Go.Proofs.YtdnmdccjecoojaaDoor
open Go.RowKit Tok
theorem Bytes.pre {w : World} {A : Option Addr} {s : List UInt8} (h : Bytes w A s) (n : Nat) : Bytes w A (s.take n) := fun k c hk => by
  have hkn : k < n := by
    have := (List.getElem?_eq_some_iff.1 hk).1
    rw [List.length_take] at this
    omega
  rw [List.getElem?_take_of_lt hkn] at hk
  exact h k c hk
theorem Toks.pre {w : World} {A : Option Addr} {l e : List (Tk × Nat)} (h : Toks w A (l ++ e)) : Toks w A l := fun r x hx => h r x (by
  rw [List.getElem?_append_left (List.getElem?_eq_some_iff.1 hx).1]; exact hx)
set_option maxRecDepth 20000 in
set_option maxHeartbeats 4000000 in
theorem ahead_law (A B : Option Addr) (len cap lem cam : Nat) (s t : List UInt8) (w : World) (hlen : s.length = len) (hA : Bytes w A s) (hlem : t.length = lem) (hB : Bytes w B t) (hcap : len ≤ cap) (hcm : cap ≤ maxLen) (hT : Tabs w) :
    Calls Tryd.prog 7 #[.slice A len cap, .slice B lem cam] w fun e W' => e = .returned (.bool true) ∧ Below w.heap.size w W' := by
  unfold maxLen at hcm
  have HWK : Hid (∀ W, Below w.heap.size w W → Calls Tryd.prog 9 #[] W fun e w' => e = .returned (.bool true) ∧ Below W.heap.size W w') := Lib.hid (fun W hW => works_any W (hT.below hW))
  have H0 := Lib.hid (HWK.out w (Below.refl _ _))
  by_cases hbig : 2048 < len
  · have hd : decide ((len : Int) > 2048) = true := by simp; omega
    clear hA hlen hT hB hlem
    go_enter Tryd.func7, Tryd.ntmps7
    go_wp2_with fail
    refine H0.out.mono ?_
    rintro e w' ⟨rfl, hb⟩
    go_wp2_with fail
    go_ret
    exact ⟨rfl, hb⟩
  · have hd : decide ((len : Int) > 2048) = false := by simp; omega
    by_cases hbig2 : 2048 < lem
    · have hd2 : decide ((lem : Int) > 2048) = true := by simp; omega
      clear hA hlen hT hB hlem
      go_enter Tryd.func7, Tryd.ntmps7
      go_wp2_with fail
      refine H0.out.mono ?_
      rintro e w' ⟨rfl, hb⟩
      go_wp2_with fail
      go_ret
      exact ⟨rfl, hb⟩
    · have hd2 : decide ((lem : Int) > 2048) = false := by simp; omega
      have hl16 : len ≤ 2048 := by omega
      have hm16 : lem ≤ 2048 := by omega
      have H1 := Lib.hid (scan_any A len cap s w hlen hA (by unfold maxLen; omega) hT)
      have HA := Lib.hid hA
      have HBt := Lib.hid hB
      have HL := Lib.hid hlen
      have HM := Lib.hid hlem
      have HT := Lib.hid hT
      clear hA hlen hT hB hlem hbig hbig2
      go_enter Tryd.func7, Tryd.ntmps7
      go_wp2_with fail
      refine H1.out.mono ?_
      rintro e w1 ⟨hb1, hor⟩
      have HW := Lib.hid hb1
      clear hb1 H1 H0
      rcases hor with ⟨l, lv, hs, rfl, hz, hll⟩ | ⟨i, hs, rfl⟩
      · have H2 := Lib.hid (HWK.out w1 HW.out)
        clear hs hz hll
        go_wp2_with fail
        refine H2.out.mono ?_
        rintro e w' ⟨rfl, hb⟩
        go_wp2_with fail
        go_ret
        exact ⟨rfl, HW.out.trans (hb.mono HW.out.size)⟩
      · obtain ⟨hi, l, hsl, hmore, hor⟩ := aheadS (by rw [HL.out]; omega) hs
        rw [HL.out] at hi
        obtain ⟨b, off, rfl, hbl, hcells⟩ := HA.out.at_ (k := 0) (by rw [HL.out]; omega)
        obtain ⟨c, hc⟩ : ∃ c, s[i]? = some c := ⟨_, List.getElem?_eq_getElem (by rw [HL.out]; exact hi)⟩
        have HCC : Hid (∀ W, Below w.heap.size w W → W.cell? ⟨b, off + i, none⟩ = some (.int .u8 (c.toNat : Int))) := Lib.hid (fun W hW => (hW.cell (p := ⟨b, off + i, none⟩) hbl).trans (hcells i c hc))
        have HMORE := Lib.hid (hmore t)
        have HOR := Lib.hid hor
        have HC := Lib.hid hc
        have HSL := Lib.hid hsl
        have H2 := Lib.hid (scan_any (some ⟨b, off, none⟩) i cap (s.take i) w1 (by rw [List.length_take, HL.out]; omega) ((HA.out.pre i).below HW.out) (by unfold maxLen; omega) (HT.out.below HW.out))
        have hic : i ≤ cap := by omega
        clear hs hsl hmore hor hcells hc
        go_wp2_with fail
        refine H2.out.mono ?_
        rintro e w2 ⟨hb2, hor⟩
        rcases hor with ⟨l', lv, hs, rfl, hz, hll⟩ | ⟨i', hs, _⟩
        case inr => rw [HSL.out] at hs; cases hs
        rw [HSL.out] at hs
        injection hs with hs
        subst hs
        obtain ⟨A1, c1, rfl, hc1, hc1m, hk⟩ := hz.toks
        obtain ⟨n, hn⟩ : ∃ n, l.length = n := ⟨_, rfl⟩
        have hnb : n ≤ 2048 := by rw [List.length_take, HL.out] at hll; omega
        have HK := Lib.hid hk
        have HN := Lib.hid hn
        have HW := Lib.hid (HW.out.trans (hb2.mono HW.out.size))
        rw [hn]
        rw [hn] at hc1
        clear hz hk hb2 hll H2 hn
        have hown : w2.ownsRow w2.heap.size 5 1 (.slice none 0 0) 0 (([] : List UInt8).map bv) := World.ownsRow_nil _ _ _ _
        obtain ⟨v3, w3, hrun3, hO3, hg3⟩ := run_app8 w2 w2.heap.size _ 0 [] hown (some ⟨b, off, none⟩) len cap s HL.out (HA.out.below HW.out) (by omega) (Nat.le_refl _)
        have hb3 : Below w2.heap.size w2 w3 := (Below.refl _ _).grown hg3 (Nat.le_refl _) (fun k hk => by cases hk)
        have hW3 := HW.out.trans (hb3.mono HW.out.size)
        rw [Nat.zero_add] at hO3
        obtain ⟨v4, w4, hrun4, hO4, hg4⟩ := run_app8 w3 w2.heap.size v3 len ([] ++ s) hO3 B lem cam t HM.out (HBt.out.below hW3) (by omega) hb3.size
        have hb4 : Below w2.heap.size w2 w4 := hb3.grown hg4 hb3.size (fun k hk => (hO3.lt k hk).1)
        have hW4 := HW.out.trans (hb4.mono HW.out.size)
        rw [List.nil_append] at hO4
        obtain ⟨A4, c4, rfl⟩ : ∃ A4 c4, v4 = .slice A4 (len + lem) c4 := by
          rcases hO4.2 with ⟨hv, h0⟩ | ⟨g, cp, cur, hv, _⟩
          · exact ⟨none, 0, by rw [hv, h0]⟩
          · exact ⟨_, cp, hv⟩
        have HR3 := Lib.hid hrun3
        have HR4 := Lib.hid hrun4
        have hwl : (s ++ t).length = len + lem := by rw [List.length_append, HL.out, HM.out]
        have H3 := Lib.hid (scan_any A4 (len + lem) c4 (s ++ t) w4 hwl (Bytes.of_own hO4) (by unfold maxLen; omega) (HT.out.below hW4))
        have HK := Lib.hid (HK.out.below hb4)
        have HW := Lib.hid hW4
        clear hown hrun3 hO3 hg3 hb3 hW3 hrun4 hO4 hg4 hb4 hW4
        go_wp2_with (first
          | (at_builtin; refine wpList_app rfl _ _ 22 rfl _ _ _ _ rfl rfl HR3.out ?_)
          | (at_builtin; refine wpList_app rfl _ _ 22 rfl _ _ _ _ rfl rfl HR4.out ?_))
        refine H3.out.mono ?_
        rintro e w5 ⟨hb5, hor⟩
        have hsc : scanR (s ++ t) = res (s ++ t) i l := by unfold scanR; rw [if_neg (by rw [hwl]; omega)]; exact HMORE.out
        have hmono := res_mono (s := s ++ t) (i := i) (l := l) (by rw [hwl]; omega)
        have HK := Lib.hid (HK.out.below hb5)
        have HW := Lib.hid (HW.out.trans (hb5.mono HW.out.size))
        clear H3 hb5
        rw [hsc] at hor
        rcases hor with ⟨m, mv, hs, rfl, hz, hll⟩ | ⟨k, hs, rfl⟩
        · obtain ⟨ex, rfl⟩ := hmono.1 m hs
          obtain ⟨A5, c5, rfl, hc5, hc5m, hk5⟩ := hz.toks
          obtain ⟨q, hq⟩ : ∃ q, (l ++ ex).length = q := ⟨_, rfl⟩
          have hnq : n ≤ q := by rw [← hq, List.length_append, HN.out]; omega
          rw [hq] at hc5 ⊢
          have hqb : q ≤ 4096 := by rw [← hq]; rw [hwl] at hll; omega
          have H4 := Lib.hid (same_any A1 A5 n c1 c5 l w5 HN.out HK.out hk5.pre (by omega))
          have hdl : decide ((q : Int) < (n : Int)) = false := by simp; omega
          have hcc : c.toNat = 34 ∨ c.toNat = 40 ∨ c.toNat = 39 := by
            by_cases h1 : c.toNat = 34
            · exact .inl h1
            · by_cases h2 : c.toNat = 40
              · exact .inr (.inl h2)
              · by_cases h3 : c.toNat = 39
                · exact .inr (.inr h3)
                · obtain ⟨g1, g2⟩ := stuckS (more := t) HC.out h1 h2 h3 HOR.out
                  rw [res_none (by rw [hwl]; omega) g1 g2] at hs
                  cases hs
          have hnc5 : n ≤ c5 := by omega
          clear hz hs hk5 hq hll hmono hsc hwl
          go_wp2_with fail
          refine H4.out.mono ?_
          rintro e w6 ⟨rfl, hb6⟩
          have HW := Lib.hid (HW.out.trans (hb6.mono HW.out.size))
          have hcell := HCC.out w6 HW.out
          have H5 := Lib.hid (HWK.out w6 HW.out)
          obtain ⟨cn, hcn⟩ : ∃ cn, c.toNat = cn := ⟨_, rfl⟩
          rw [hcn] at hcell hcc
          clear hb6 H4 hcn
          by_cases h1 : cn = 34
          · have f1 : ((cn : Int) == 34) = true := by simp; omega
            clear hcc h1
            go_wp2_with fail
            refine H5.out.mono ?_
            rintro e w7 ⟨rfl, hb7⟩
            go_wp2_with fail
            go_ret
            exact ⟨rfl, HW.out.trans (hb7.mono HW.out.size)⟩
          · have f1 : ((cn : Int) == 34) = false := by simp; omega
            by_cases h2 : cn = 40
            · have f2 : ((cn : Int) == 40) = true := by simp; omega
              clear hcc h1 h2
              go_wp2_with fail
              refine H5.out.mono ?_
              rintro e w7 ⟨rfl, hb7⟩
              go_wp2_with fail
              go_ret
              exact ⟨rfl, HW.out.trans (hb7.mono HW.out.size)⟩
            · have f2 : ((cn : Int) == 40) = false := by simp; omega
              have f3 : ((cn : Int) == 39) = true := by simp; omega
              clear hcc h1 h2
              go_wp2_with fail
              refine H5.out.mono ?_
              rintro e w7 ⟨rfl, hb7⟩
              go_wp2_with fail
              go_ret
              exact ⟨rfl, HW.out.trans (hb7.mono HW.out.size)⟩
        · have hik := hmono.2 k hs
          have hd5 : decide ((k : Int) ≥ (i : Int)) = true := by simp; omega
          have H5 := Lib.hid (HWK.out w5 HW.out)
          clear hs hmono hsc hwl
          go_wp2_with fail
          refine H5.out.mono ?_
          rintro e w7 ⟨rfl, hb7⟩
          go_wp2_with fail
          go_ret
          exact ⟨rfl, HW.out.trans (hb7.mono HW.out.size)⟩
end Go.Proofs.YtdnmdccjecoojaaDoor
