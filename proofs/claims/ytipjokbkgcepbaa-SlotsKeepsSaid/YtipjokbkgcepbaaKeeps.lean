/- SlotsKeeps. -/
import Derived.Test.YtipjokbkgcepbaaU
namespace Go.Proofs.Ytipjokbkgcepbaa
open Go.RowKit Slt

set_option maxRecDepth 20000 in
set_option maxHeartbeats 8000000 in
theorem keeps_walk (len cap : Nat) (A : Option Addr) (ls : List St) (w : World) (hlen : ls.length = len) (hA : Steps w A ls) (hv : longB ls = false) :
    Calls Try.prog 6 #[.slice A len cap] w fun e W' => e = .returned (.bool true) ∧ Below w.heap.size w W' := by
  have h0 := long_any A len cap ls w hlen hA
  rw [hv] at h0
  have H0 := Lib.hid h0
  obtain ⟨hl100, hsm⟩ := longB_no hv
  rw [hlen] at hl100
  have HSM := Lib.hid hsm
  have HA := Lib.hid hA
  have HL := Lib.hid hlen
  have H1 := Lib.hid (empty_any w)
  clear hA hlen hv h0 hsm
  go_enter Try.func6, Try.ntmps6
  go_wp2_with fail
  refine H0.out.mono ?_
  rintro e w' ⟨rfl, rfl⟩
  go_wp2_with fail
  refine H1.out.mono ?_
  rintro e w1 ⟨rfl, hr1, hb1⟩
  have HI : Hid (KeepI w w1 (.slice (some ⟨w.heap.size, 0, none⟩) 1 1) (.slice none 0 0)) := Lib.hid (KeepI.begin hr1 hb1)
  clear hr1 hb1 H0 H1
  go_wp2_with fail
  go_loopw [3, 4, 5, 6, 7, 8, 9, 10, 11, 12, 13, 14, 15, 16, 17, 18] (fun pv hv iv a b c d e f g h i j k l m wr => ∃ i : Nat, i ≤ len ∧ iv = .int .i64 (i : Int) ∧ Hid (KeepI w wr pv hv)) (fun _ _ iv _ _ _ _ _ _ _ _ _ _ _ _ _ _ => len - (intOf iv).toNat)
  case atStart => exact ⟨0, Nat.zero_le _, rfl, HI⟩
  case round =>
    obtain ⟨i, hi, rfl, hI⟩ := hrel
    clear HI
    by_cases hlt : i < len
    · have hd : decide ((i : Int) < (len : Int)) = true := by simpa using hlt
      obtain ⟨pg, g, c, rfl, hK⟩ := hI.out
      have HK := Lib.hid hK
      clear hI
      obtain ⟨st, hsj⟩ : ∃ st, ls[i]? = some st := ⟨_, List.getElem?_eq_getElem (by rw [HL.out]; exact hlt)⟩
      obtain ⟨b, off, v0, v1, rfl, hblt, c0, c1, hs4⟩ := HA.out i st hsj
      obtain ⟨⟨A2, x2, rfl, hx2, hx3, hbr⟩, rfl, hs1, hs2⟩ := hs4
      obtain ⟨L, hL⟩ : ∃ L, st.R.length = L := ⟨_, rfl⟩
      have HLL := Lib.hid hL
      rw [hL] at c0 hx2
      have hc0 : ∀ W, Below w.heap.size w W → W.cell? ⟨b, off + i * 2, none⟩ = some (.slice A2 L x2) := fun W hW => (hW.cell (p := ⟨b, off + i * 2, none⟩) hblt).trans c0
      have HC0 := Lib.hid hc0
      have HBR := Lib.hid hbr
      have k0 := hc0 wr hK.bel
      have k1 := (hK.bel.cell (p := ⟨b, off + i * 2 + 1, none⟩) hblt).trans c1
      obtain ⟨n, hn⟩ : ∃ n, (recs pg).length = n := ⟨_, rfl⟩
      obtain ⟨Ah, ch, hsv, hch1, hch2⟩ := hK.sec.shape
      rw [hn] at hsv hch1
      subst hsv
      have hnb : n ≤ 255 := by have := (recs_flat pg).1; omega
      have HN := Lib.hid hn
      obtain ⟨pl, hpl⟩ : ∃ pl, pg.length = pl := ⟨_, rfl⟩
      have HPL := Lib.hid hpl
      rw [hpl]
      have hrw : Rw wr g pl c pg := by have := hK.rw_; rwa [hpl] at this
      have HRW := Lib.hid hrw
      clear hK hc0 c0 c1 hbr hL hn hpl hrw
      have hL512 : L ≤ 512 := by have := HSM.out st (List.mem_of_getElem? hsj); have := HLL.out; omega
      have HX := Lib.hid (And.intro hx2 hx3)
      have HS1 := Lib.hid (And.intro hs1 hs2)
      clear hsj
      go_upto_if 35 with fail
      go_cut [3, 4, 6, 7, 8, 9, 10, 11, 12, 13, 14, 35] from 36 to 174 (fun pv hv a b c d e f g h i j wx => Hid (KeepI w wx pv hv))
      case first =>
        by_cases hR0 : 0 < L
        · have d1 : decide ((0 : Int) < (L : Int)) = true := by simpa using hR0
          obtain ⟨lk, hlk⟩ : ∃ lk, lowK (recs pg) = lk := ⟨_, rfl⟩
          obtain ⟨F, hF⟩ : ∃ F, (recs pg).flatten.length = F := ⟨_, rfl⟩
          obtain ⟨hT1, hT2, hn255, hF248, hlkn⟩ := keep_size HK.out.ok HN.out hlk HLL.out hF hR0
          obtain ⟨M, hM⟩ : ∃ M, max n (lk + 1) = M := ⟨_, rfl⟩
          have hM256 : M ≤ 256 := by rw [← hM, Nat.max_def]; split <;> omega
          have hmx : max (n : Int) ((lk : Int) + 1) = (M : Int) := by rw [← hM]; omega
          rw [hM] at hT1 hT2
          have HT1 := Lib.hid hT1
          have HLK := Lib.hid hlk
          have HF := Lib.hid hF
          have hsec : Sec wr (fun j => j < w.heap.size) (.slice A2 L x2) st.R := ⟨A2, x2, by rw [HLL.out], by rw [HLL.out]; exact HX.out.1, HX.out.2, HBR.out.below HK.out.bel, fun p e => HBR.out.blk_lt (by rw [HLL.out]; exact hR0) _ ⟨p, e, rfl⟩⟩
          have HSEC := Lib.hid hsec
          have hcp := copy_any A2 L x2 st.R wr HLL.out (HBR.out.below HK.out.bel) (by unfold maxLen; omega)
          have HCP := Lib.hid hcp
          have hF0 : ∀ j, ((recs pg).take j).flatten.length ≤ F := fun j => by rw [← HF.out]; exact flat_take_all _ _
          have HF0 := Lib.hid hF0
          clear hT1 hlk hF hM hsec hcp hF0
          obtain ⟨T, hT⟩ : ∃ T, 1 + M + L + F = T := ⟨_, rfl⟩
          have HTT := Lib.hid hT
          rw [hT] at hT2 HT1
          have hput : Hid (∀ (W : World) (cc : Nat), Below wr.heap.size wr W → Rw W wr.heap.size L cc st.R → Calls Try.prog 23 #[.slice (some ⟨g, 0, none⟩) pl c, .slice (some ⟨wr.heap.size, 0, none⟩) L cc] W (PutP pg st.R W)) := Lib.hid (fun W cc hW hrc =>
            put_any (some ⟨g, 0, none⟩) (some ⟨wr.heap.size, 0, none⟩) pl c L cc pg st.R W HPL.out (HRW.out.below hW).bytes HRW.out.le HRW.out.max HLL.out hrc.bytes hrc.le hrc.max)
          have HT2 := Lib.hid hT2
          clear hT2 hT
          by_cases hm : mayPut pg st.R
          · have hT248 : T ≤ 248 := HT2.out.1 hm
            have HPUT : Hid (∀ (W : World) (cc : Nat), Below wr.heap.size wr W → Rw W wr.heap.size L cc st.R → Calls Try.prog 23 #[.slice (some ⟨g, 0, none⟩) pl c, .slice (some ⟨wr.heap.size, 0, none⟩) L cc] W fun e w' => ∃ g2 c2, e = .returned (.tuple #[.slice (some ⟨g2, 0, none⟩) T c2, .int .i64 (lk : Int), .bool true]) ∧ Rw w' g2 T c2 (pageOf (putL pg st.R)) ∧ W.heap.size ≤ g2 ∧ Below W.heap.size W w') := Lib.hid (fun W cc hW hrc => by
              refine (hput.out W cc hW hrc).mono ?_
              rintro e w' (⟨hno, _⟩ | ⟨g2, c2, _, rfl, h1, h2, h3⟩)
              · exact absurd hm hno
              · rw [HT1.out] at h1 ⊢
                rw [HLK.out]
                exact ⟨g2, c2, rfl, h1, h2, h3⟩)
            have d2 : decide ((T : Int) ≤ 248) = true := by simp; omega
            have HM := Lib.hid hm
            have hTT : ((T : Int) != (T : Int)) = false := by simp
            have hll : ((lk : Int) != (lk : Int)) = false := by simp
            clear hput hm
            by_cases hfull : lk < n
            · as_aux_lemma =>
                obtain ⟨r, hr⟩ : ∃ r, (recs pg)[lk]? = some r := ⟨_, List.getElem?_eq_getElem (by rw [HN.out]; exact hfull)⟩
                obtain ⟨gh, c5, v5, e5, hg5, hc5, hf5, A5, c6, rfl, _⟩ := HK.out.sec.get lk r hr
                rw [HN.out] at e5
                injection e5 with e6 e7 e8
                subst e6
                have hrl0 : r.length = 0 := (lowK_at hr (by rw [HLK.out]; exact Nat.le_refl _)).2 HLK.out.symm
                rw [hrl0] at hc5
                have HC5 : Hid (∀ W, Below wr.heap.size wr W → W.cell? ⟨gh, lk, none⟩ = some (.slice A5 0 c6) ∧ W.frozen? ⟨gh, lk, none⟩ = false) := Lib.hid (fun W hW => ⟨(hW.cell (p := ⟨gh, lk, none⟩) hg5).trans hc5, (World.frozen?_of_block (a := ⟨gh, lk, none⟩) (hW.block gh hg5)).trans hf5⟩)
                clear hr hrl0 e7 e8 hf5 hg5 hc5
                go_wp2_with fail
                go_loopw [6] (fun kv wx => ∃ k : Nat, k ≤ lk ∧ kv = .int .i64 (k : Int) ∧ wr = wx) (fun kv _ => lk - (intOf kv).toNat)
                case atStart => exact ⟨0, Nat.zero_le _, rfl, rfl⟩
                case round =>
                  obtain ⟨k, hk, rfl, rfl⟩ := hrel
                  by_cases hkn : k < lk
                  · obtain ⟨r, hr⟩ : ∃ r, (recs pg)[k]? = some r := ⟨_, List.getElem?_eq_getElem (by rw [HN.out]; omega)⟩
                    obtain ⟨gx, c7, v7, e5, hg5, hc7, hf5, A7, c8, rfl, _⟩ := HK.out.sec.get k r hr
                    rw [HN.out] at e5
                    injection e5 with e6 e7 e8
                    cases e6
                    have hr0 : 0 < r.length := by
                      have := lowK_at hr (by rw [HLK.out]; omega)
                      rw [HLK.out] at this
                      omega
                    obtain ⟨rl, hrl⟩ : ∃ rl, r.length = rl := ⟨_, rfl⟩
                    rw [hrl] at hc7 hr0
                    have d5 : decide ((k : Int) < (n : Int)) = true := by simp; omega
                    have d6 : decide ((0 : Int) < (rl : Int)) = true := by simpa using hr0
                    clear hr hrl e7 e8 hf5 hg5
                    go_wp2_with fail
                    go_roundw
                    case rel => exact ⟨k + 1, by omega, by go_num, by trivial⟩
                    case measure => simp [intOf]; omega
                  · obtain rfl : lk = k := by omega
                    have d5 : decide ((lk : Int) < (n : Int)) = true := by simp; omega
                    have c5 := (HC5.out wr (Below.refl _ _)).1
                    go_wp2_with fail
                    refine HCP.out.mono ?_
                    rintro e wa ⟨cc, rfl, hrc, hba⟩
                    have HPW := Lib.hid (HPUT.out wa cc hba hrc)
                    have HBA := Lib.hid hba
                    clear hrc hba HCP HPUT
                    go_wp2_with fail
                    refine HPW.out.mono ?_
                    rintro e w3 ⟨g2, c2, rfl, hr2, hg2, hb3⟩
                    have HG2 : Hid (wr.heap.size ≤ g2) := Lib.hid (Nat.le_trans HBA.out.size hg2)
                    have HR2 := Lib.hid hr2
                    have hb3r := HBA.out.trans (hb3.mono HBA.out.size)
                    have HB3 := Lib.hid hb3r
                    have HK3 := Lib.hid (HK.out.below hb3r)
                    have c9 := HC0.out w3 (HK.out.below hb3r).bel
                    clear hr2 hg2 hb3 hb3r HPW HBA
                    go_wp2_with fail
                    go_loopw [10, 11] (fun sv jv wx => ∃ j fj : Nat, j ≤ n ∧ fj ≤ F ∧ ((recs pg).take j).flatten.length = fj ∧ jv = .int .i64 (j : Int) ∧ sv = .int .i64 ((1 + M + L + fj : Nat) : Int) ∧ w3 = wx) (fun _ jv _ => n - (intOf jv).toNat)
                    case atStart => exact ⟨0, 0, Nat.zero_le _, Nat.zero_le _, rfl, rfl, by go_num, rfl⟩
                    case round =>
                      obtain ⟨j, fj, hj, hfj, hfe, rfl, rfl, rfl⟩ := hrel
                      by_cases hjn : j < n
                      · obtain ⟨r, hr⟩ : ∃ r, (recs pg)[j]? = some r := ⟨_, List.getElem?_eq_getElem (by rw [HN.out]; exact hjn)⟩
                        obtain ⟨gx, c7, v7, e5, hg5, hc7, hf5, A7, c8, rfl, _⟩ := HK3.out.sec.get j r hr
                        rw [HN.out] at e5
                        injection e5 with e6 e7 e8
                        cases e6
                        obtain ⟨rl, hrl⟩ : ∃ rl, r.length = rl := ⟨_, rfl⟩
                        rw [hrl] at hc7
                        have hfs := flat_take_one hr
                        rw [hrl, hfe] at hfs
                        have hfF := HF0.out (j + 1)
                        rw [hfs] at hfF
                        have d7 : decide ((j : Int) < (n : Int)) = true := by simpa using hjn
                        have HFS := Lib.hid hfs
                        clear hr hrl e7 e8 hf5 hg5 hfs hfe
                        go_wp2_with fail
                        go_roundw
                        case rel => exact ⟨j + 1, fj + rl, by omega, by omega, HFS.out, by go_num, by go_num, by trivial⟩
                        case measure => simp [intOf]; omega
                      · obtain rfl : n = j := by omega
                        have d7 : decide ((n : Int) < (n : Int)) = false := by simp
                        have hTe : 1 + M + L + fj = T := by
                          rw [← HTT.out, ← HF.out, ← hfe]
                          congr 2
                          rw [List.take_of_length_le (by rw [HN.out]; exact Nat.le_refl _)]
                        rw [hTe]
                        clear hTe hfe
                        have hnn : ((lk : Int) == (n : Int)) = false := beq_eq_false_iff_ne.2 (by omega)
                        obtain ⟨c5b, f5b⟩ := HC5.out w3 HB3.out
                        have hgh := HK3.out.own gh rfl
                        have hgl := HK.out.sec.lt gh rfl
                        have hgne : gh ≠ g2 := by have := HG2.out; omega
                        have hS6 := HK3.out.sec.set_ lk gh n ch rfl (by omega) (.slice A2 L x2) st.R (HSEC.out.same HB3.out.size (fun k hk hlt => HB3.out.block k hlt))
                        have hpl : putL pg st.R = (recs pg).set lk st.R := by
                          unfold putL
                          rw [if_neg (by rw [HLK.out, ← recs_length HK.out.ok, HN.out]; omega), HLK.out]
                        rw [← hpl, ← HM.out.made.2] at hS6
                        have hb6 : Below w.heap.size w (w3.setCell ⟨gh, lk, none⟩ (.slice A2 L x2)) := HK3.out.bel.setCell (p := ⟨gh, lk, none⟩) hgh.2 _
                        have hr6 : Rw (w3.setCell ⟨gh, lk, none⟩ (.slice A2 L x2)) g2 T c2 (pageOf (putL pg st.R)) := HR2.out.frame (by simp [World.setCell]) (Below.heap_setCell _ _ _ _ (fun e => hgne e.symm))
                        have HKI : Hid (KeepI w (w3.setCell ⟨gh, lk, none⟩ (.slice A2 L x2)) (.slice (some ⟨g2, 0, none⟩) T c2) (.slice (some ⟨gh, 0, none⟩) n ch)) := Lib.hid ⟨_, g2, c2, by rw [HT1.out], by rw [HT1.out]; exact hr6, HM.out.made.1, hS6, fun j hj => by cases hj; exact ⟨hgne, hgh.2⟩, hb6⟩
                        clear hS6 hpl hb6 hr6 hgh hgl
                        go_wp2_with fail
                        go_meet
                        case rel => exact HKI
            · obtain rfl : n = lk := by omega
              as_aux_lemma =>
                go_wp2_with fail
                go_loopw [6] (fun kv wx => ∃ k : Nat, k ≤ n ∧ kv = .int .i64 (k : Int) ∧ wr = wx) (fun kv _ => n - (intOf kv).toNat)
                case atStart => exact ⟨0, Nat.zero_le _, rfl, rfl⟩
                case round =>
                  obtain ⟨k, hk, rfl, rfl⟩ := hrel
                  by_cases hkn : k < n
                  · obtain ⟨r, hr⟩ : ∃ r, (recs pg)[k]? = some r := ⟨_, List.getElem?_eq_getElem (by rw [HN.out]; exact hkn)⟩
                    obtain ⟨gh, c5, v5, e5, hg5, hc5, hf5, A5, c6, rfl, _⟩ := HK.out.sec.get k r hr
                    rw [HN.out] at e5
                    injection e5 with e6 e7 e8
                    subst e6
                    have hr0 : 0 < r.length := by
                      have := lowK_at hr (by rw [HLK.out]; omega)
                      rw [HLK.out] at this
                      omega
                    obtain ⟨rl, hrl⟩ : ∃ rl, r.length = rl := ⟨_, rfl⟩
                    rw [hrl] at hc5 hr0
                    have d5 : decide ((k : Int) < (n : Int)) = true := by simpa using hkn
                    have d6 : decide ((0 : Int) < (rl : Int)) = true := by simpa using hr0
                    clear hr hrl e7 e8 hf5 hg5
                    go_wp2_with fail
                    go_roundw
                    case rel => exact ⟨k + 1, by omega, by go_num, by trivial⟩
                    case measure => simp [intOf]; omega
                  · obtain rfl : n = k := by omega
                    have d5 : decide ((n : Int) < (n : Int)) = false := by simp
                    go_wp2_with fail
                    refine HCP.out.mono ?_
                    rintro e wa ⟨cc, rfl, hrc, hba⟩
                    have HPW := Lib.hid (HPUT.out wa cc hba hrc)
                    have HBA := Lib.hid hba
                    clear hrc hba HCP HPUT
                    go_wp2_with fail
                    refine HPW.out.mono ?_
                    rintro e w3 ⟨g2, c2, rfl, hr2, hg2, hb3⟩
                    have HG2 : Hid (wr.heap.size ≤ g2) := Lib.hid (Nat.le_trans HBA.out.size hg2)
                    have HR2 := Lib.hid hr2
                    have hb3r := HBA.out.trans (hb3.mono HBA.out.size)
                    have HB3 := Lib.hid hb3r
                    have HK3 := Lib.hid (HK.out.below hb3r)
                    have c9 := HC0.out w3 (HK.out.below hb3r).bel
                    clear hr2 hg2 hb3 hb3r HPW HBA
                    go_wp2_with fail
                    go_loopw [10, 11] (fun sv jv wx => ∃ j fj : Nat, j ≤ n ∧ fj ≤ F ∧ ((recs pg).take j).flatten.length = fj ∧ jv = .int .i64 (j : Int) ∧ sv = .int .i64 ((1 + M + L + fj : Nat) : Int) ∧ w3 = wx) (fun _ jv _ => n - (intOf jv).toNat)
                    case atStart => exact ⟨0, 0, Nat.zero_le _, Nat.zero_le _, rfl, rfl, by go_num, rfl⟩
                    case round =>
                      obtain ⟨j, fj, hj, hfj, hfe, rfl, rfl, rfl⟩ := hrel
                      by_cases hjn : j < n
                      · obtain ⟨r, hr⟩ : ∃ r, (recs pg)[j]? = some r := ⟨_, List.getElem?_eq_getElem (by rw [HN.out]; exact hjn)⟩
                        obtain ⟨gx, c7, v7, e5, hg5, hc7, hf5, A7, c8, rfl, _⟩ := HK3.out.sec.get j r hr
                        rw [HN.out] at e5
                        injection e5 with e6 e7 e8
                        subst e6
                        obtain ⟨rl, hrl⟩ : ∃ rl, r.length = rl := ⟨_, rfl⟩
                        rw [hrl] at hc7
                        have hfs := flat_take_one hr
                        rw [hrl, hfe] at hfs
                        have hfF := HF0.out (j + 1)
                        rw [hfs] at hfF
                        have d7 : decide ((j : Int) < (n : Int)) = true := by simpa using hjn
                        have HFS := Lib.hid hfs
                        clear hr hrl e7 e8 hf5 hg5 hfs hfe
                        go_wp2_with fail
                        go_roundw
                        case rel => exact ⟨j + 1, fj + rl, by omega, by omega, HFS.out, by go_num, by go_num, by trivial⟩
                        case measure => simp [intOf]; omega
                      · obtain rfl : n = j := by omega
                        have d7 : decide ((n : Int) < (n : Int)) = false := by simp
                        have hTe : 1 + M + L + fj = T := by
                          rw [← HTT.out, ← HF.out, ← hfe]
                          congr 2
                          rw [List.take_of_length_le (by rw [HN.out]; exact Nat.le_refl _)]
                        rw [hTe]
                        clear hTe hfe
                        have hnn : ((n : Int) == (n : Int)) = true := by simp
                        have hbx : Below w3.heap.size w3 (w3.alloc (.cells #[.slice none 0 0] 22)) := (Below.refl _ _).alloc (Nat.le_refl _) _
                        obtain ⟨v', w5, hrun, hS5, hg5, ho5⟩ := (HK3.out.sec.below hbx).push [] (.slice none 0 0) (Sec.nil _ _) w3.heap.size ((Blk.new w3 _ _).cell 0) (fun k hk hE => by have := (HK3.out.own k hk).2; omega) (by rw [HN.out]; omega)
                        obtain ⟨gh, c5, v5, e5, hg6, hc5, hf5, A5, c6, rfl, _⟩ := hS5.get n [] (by rw [List.getElem?_append_right (by rw [HN.out]; exact Nat.le_refl _), HN.out, Nat.sub_self]; rfl)
                        have hl1 : (recs pg ++ [[]]).length = n + 1 := by rw [List.length_append, HN.out]; rfl
                        rw [hl1] at e5
                        subst e5
                        have hghb : w.heap.size ≤ gh ∧ gh ≠ g2 := by
                          rcases ho5 with ho | ho
                          · have h1 := HK3.out.own gh ho.symm
                            have h2 := HK.out.sec.lt gh ho.symm
                            have := HG2.out
                            exact ⟨h1.2, by omega⟩
                          · have ho : gh = _ := Option.some.inj ho
                            rw [World.size_alloc] at ho
                            have := HR2.out.lt
                            have := HK3.out.bel.size
                            exact ⟨by omega, by omega⟩
                        have hb5 : Below w.heap.size w w5 := by
                          have hbw : Below w.heap.size w (w3.alloc (.cells #[.slice none 0 0] 22)) := HK3.out.bel.trans (hbx.mono HK3.out.bel.size)
                          exact hbw.grown hg5 hbw.size (fun j hj => (HK3.out.own j hj).2)
                        have hne2 : ∀ j, (Value.slice Ah n ch).ownBlock = some j → j ≠ g2 := fun j hj => by have := HK.out.sec.lt j hj; have := HG2.out; omega
                        have hr5 : Rw w5 g2 T c2 (pageOf (putL pg st.R)) := (HR2.out.below hbx).frame hg5.size (hg5.block g2 (by have := HR2.out.lt; rw [World.size_alloc]; omega) (fun e => hne2 g2 e.symm rfl))
                        have hsec5 : Sec w5 (fun j => j < w.heap.size) (.slice A2 L x2) st.R := (HSEC.out.same HB3.out.size (fun k hk hlt => HB3.out.block k hlt)).same (by have := hbx.size; have := hg5.size; omega) (fun k hk hlt => by
                          have h1 := hbx.block k hlt
                          have h2 := hg5.block k (by have := hbx.size; omega) (fun e => by have := (HK3.out.own k e.symm).2; omega)
                          exact h2.trans h1)
                        have hS6 := hS5.set_ n gh (n + 1) c5 rfl (by have := hghb.1; omega) (.slice A2 L x2) st.R hsec5
                        have hpl : putL pg st.R = (recs pg ++ [[]]).set n st.R := by
                          unfold putL
                          rw [if_pos (by rw [HLK.out, ← recs_length HK.out.ok, HN.out]), List.set_append, if_neg (by rw [HN.out]; omega), HN.out, Nat.sub_self]
                          rfl
                        rw [← hpl, ← HM.out.made.2] at hS6
                        have hb6 : Below w.heap.size w (w5.setCell ⟨gh, n, none⟩ (.slice A2 L x2)) := hb5.setCell (p := ⟨gh, n, none⟩) hghb.1 _
                        have hr6 : Rw (w5.setCell ⟨gh, n, none⟩ (.slice A2 L x2)) g2 T c2 (pageOf (putL pg st.R)) := hr5.frame (by simp [World.setCell]) (Below.heap_setCell _ _ _ _ (fun e => hghb.2 e.symm))
                        have HKI : Hid (KeepI w (w5.setCell ⟨gh, n, none⟩ (.slice A2 L x2)) (.slice (some ⟨g2, 0, none⟩) T c2) (.slice (some ⟨gh, 0, none⟩) (n + 1) c5)) := Lib.hid ⟨_, g2, c2, by rw [HT1.out], by rw [HT1.out]; exact hr6, HM.out.made.1, hS6, fun j hj => by cases hj; exact ⟨hghb.2, hghb.1⟩, hb6⟩
                        have k5 := HC0.out w5 hb5
                        have HRUN := Lib.hid hrun
                        clear hrun hS5 hg5 ho5 hghb hb5 hne2 hr5 hsec5 hS6 hpl hb6 hr6 hl1 hbx hg6
                        go_wp2_with (at_builtin; refine wpList_app rfl _ _ 34 rfl _ _ _ _ rfl rfl HRUN.out ?_; clear HRUN)
                        go_meet
                        case rel => exact HKI
          · have hT248 : 248 < T := by
              have : ¬ (T ≤ 248) := fun h => hm (HT2.out.2 h)
              omega
            have HPUT : Hid (∀ (W : World) (cc : Nat), Below wr.heap.size wr W → Rw W wr.heap.size L cc st.R → Calls Try.prog 23 #[.slice (some ⟨g, 0, none⟩) pl c, .slice (some ⟨wr.heap.size, 0, none⟩) L cc] W fun e w' => e = .returned (.tuple #[.slice none 0 0, .int .i64 0, .bool false]) ∧ Below W.heap.size W w') := Lib.hid (fun W cc hW hrc => by
              refine (hput.out W cc hW hrc).mono ?_
              rintro e w' (⟨_, rfl, h3⟩ | ⟨g2, c2, hyes, _⟩)
              · exact ⟨rfl, h3⟩
              · exact absurd hyes hm)
            have d2 : decide ((T : Int) ≤ 248) = false := by simp; omega
            clear hput hm
            by_cases hfull : lk < n
            · as_aux_lemma =>
                obtain ⟨r, hr⟩ : ∃ r, (recs pg)[lk]? = some r := ⟨_, List.getElem?_eq_getElem (by rw [HN.out]; exact hfull)⟩
                obtain ⟨gh, c5, v5, e5, hg5, hc5, hf5, A5, c6, rfl, _⟩ := HK.out.sec.get lk r hr
                rw [HN.out] at e5
                injection e5 with e6 e7 e8
                subst e6
                have hrl0 : r.length = 0 := (lowK_at hr (by rw [HLK.out]; exact Nat.le_refl _)).2 HLK.out.symm
                rw [hrl0] at hc5
                have HC5 : Hid (∀ W, Below wr.heap.size wr W → W.cell? ⟨gh, lk, none⟩ = some (.slice A5 0 c6) ∧ W.frozen? ⟨gh, lk, none⟩ = false) := Lib.hid (fun W hW => ⟨(hW.cell (p := ⟨gh, lk, none⟩) hg5).trans hc5, (World.frozen?_of_block (a := ⟨gh, lk, none⟩) (hW.block gh hg5)).trans hf5⟩)
                clear hr hrl0 e7 e8 hf5 hg5 hc5
                go_wp2_with fail
                go_loopw [6] (fun kv wx => ∃ k : Nat, k ≤ lk ∧ kv = .int .i64 (k : Int) ∧ wr = wx) (fun kv _ => lk - (intOf kv).toNat)
                case atStart => exact ⟨0, Nat.zero_le _, rfl, rfl⟩
                case round =>
                  obtain ⟨k, hk, rfl, rfl⟩ := hrel
                  by_cases hkn : k < lk
                  · obtain ⟨r, hr⟩ : ∃ r, (recs pg)[k]? = some r := ⟨_, List.getElem?_eq_getElem (by rw [HN.out]; omega)⟩
                    obtain ⟨gx, c7, v7, e5, hg5, hc7, hf5, A7, c8, rfl, _⟩ := HK.out.sec.get k r hr
                    rw [HN.out] at e5
                    injection e5 with e6 e7 e8
                    cases e6
                    have hr0 : 0 < r.length := by
                      have := lowK_at hr (by rw [HLK.out]; omega)
                      rw [HLK.out] at this
                      omega
                    obtain ⟨rl, hrl⟩ : ∃ rl, r.length = rl := ⟨_, rfl⟩
                    rw [hrl] at hc7 hr0
                    have d5 : decide ((k : Int) < (n : Int)) = true := by simp; omega
                    have d6 : decide ((0 : Int) < (rl : Int)) = true := by simpa using hr0
                    clear hr hrl e7 e8 hf5 hg5
                    go_wp2_with fail
                    go_roundw
                    case rel => exact ⟨k + 1, by omega, by go_num, by trivial⟩
                    case measure => simp [intOf]; omega
                  · obtain rfl : lk = k := by omega
                    have d5 : decide ((lk : Int) < (n : Int)) = true := by simp; omega
                    have c5 := (HC5.out wr (Below.refl _ _)).1
                    go_wp2_with fail
                    refine HCP.out.mono ?_
                    rintro e wa ⟨cc, rfl, hrc, hba⟩
                    have HPW := Lib.hid (HPUT.out wa cc hba hrc)
                    have HBA := Lib.hid hba
                    clear hrc hba HCP HPUT
                    go_wp2_with fail
                    refine HPW.out.mono ?_
                    rintro e w3 ⟨rfl, hb3⟩
                    have hb3r := HBA.out.trans (hb3.mono HBA.out.size)
                    have HB3 := Lib.hid hb3r
                    have HK3 := Lib.hid (HK.out.below hb3r)
                    have c9 := HC0.out w3 (HK.out.below hb3r).bel
                    clear hb3 hb3r HPW HBA
                    go_wp2_with fail
                    go_loopw [10, 11] (fun sv jv wx => ∃ j fj : Nat, j ≤ n ∧ fj ≤ F ∧ ((recs pg).take j).flatten.length = fj ∧ jv = .int .i64 (j : Int) ∧ sv = .int .i64 ((1 + M + L + fj : Nat) : Int) ∧ w3 = wx) (fun _ jv _ => n - (intOf jv).toNat)
                    case atStart => exact ⟨0, 0, Nat.zero_le _, Nat.zero_le _, rfl, rfl, by go_num, rfl⟩
                    case round =>
                      obtain ⟨j, fj, hj, hfj, hfe, rfl, rfl, rfl⟩ := hrel
                      by_cases hjn : j < n
                      · obtain ⟨r, hr⟩ : ∃ r, (recs pg)[j]? = some r := ⟨_, List.getElem?_eq_getElem (by rw [HN.out]; exact hjn)⟩
                        obtain ⟨gx, c7, v7, e5, hg5, hc7, hf5, A7, c8, rfl, _⟩ := HK3.out.sec.get j r hr
                        rw [HN.out] at e5
                        injection e5 with e6 e7 e8
                        cases e6
                        obtain ⟨rl, hrl⟩ : ∃ rl, r.length = rl := ⟨_, rfl⟩
                        rw [hrl] at hc7
                        have hfs := flat_take_one hr
                        rw [hrl, hfe] at hfs
                        have hfF := HF0.out (j + 1)
                        rw [hfs] at hfF
                        have d7 : decide ((j : Int) < (n : Int)) = true := by simpa using hjn
                        have HFS := Lib.hid hfs
                        clear hr hrl e7 e8 hf5 hg5 hfs hfe
                        go_wp2_with fail
                        go_roundw
                        case rel => exact ⟨j + 1, fj + rl, by omega, by omega, HFS.out, by go_num, by go_num, by trivial⟩
                        case measure => simp [intOf]; omega
                      · obtain rfl : n = j := by omega
                        have d7 : decide ((n : Int) < (n : Int)) = false := by simp
                        have hTe : 1 + M + L + fj = T := by
                          rw [← HTT.out, ← HF.out, ← hfe]
                          congr 2
                          rw [List.take_of_length_le (by rw [HN.out]; exact Nat.le_refl _)]
                        rw [hTe]
                        clear hTe hfe
                        have HKI : Hid (KeepI w w3 (.slice (some ⟨g, 0, none⟩) pl c) (.slice (some ⟨gh, 0, none⟩) n ch)) := Lib.hid ⟨pg, g, c, by rw [HPL.out], HK3.out⟩
                        go_wp2_with fail
                        go_meet
                        case rel => exact HKI
            · obtain rfl : n = lk := by omega
              as_aux_lemma =>
                go_wp2_with fail
                go_loopw [6] (fun kv wx => ∃ k : Nat, k ≤ n ∧ kv = .int .i64 (k : Int) ∧ wr = wx) (fun kv _ => n - (intOf kv).toNat)
                case atStart => exact ⟨0, Nat.zero_le _, rfl, rfl⟩
                case round =>
                  obtain ⟨k, hk, rfl, rfl⟩ := hrel
                  by_cases hkn : k < n
                  · obtain ⟨r, hr⟩ : ∃ r, (recs pg)[k]? = some r := ⟨_, List.getElem?_eq_getElem (by rw [HN.out]; exact hkn)⟩
                    obtain ⟨gh, c5, v5, e5, hg5, hc5, hf5, A5, c6, rfl, _⟩ := HK.out.sec.get k r hr
                    rw [HN.out] at e5
                    injection e5 with e6 e7 e8
                    subst e6
                    have hr0 : 0 < r.length := by
                      have := lowK_at hr (by rw [HLK.out]; omega)
                      rw [HLK.out] at this
                      omega
                    obtain ⟨rl, hrl⟩ : ∃ rl, r.length = rl := ⟨_, rfl⟩
                    rw [hrl] at hc5 hr0
                    have d5 : decide ((k : Int) < (n : Int)) = true := by simpa using hkn
                    have d6 : decide ((0 : Int) < (rl : Int)) = true := by simpa using hr0
                    clear hr hrl e7 e8 hf5 hg5
                    go_wp2_with fail
                    go_roundw
                    case rel => exact ⟨k + 1, by omega, by go_num, by trivial⟩
                    case measure => simp [intOf]; omega
                  · obtain rfl : n = k := by omega
                    have d5 : decide ((n : Int) < (n : Int)) = false := by simp
                    go_wp2_with fail
                    refine HCP.out.mono ?_
                    rintro e wa ⟨cc, rfl, hrc, hba⟩
                    have HPW := Lib.hid (HPUT.out wa cc hba hrc)
                    have HBA := Lib.hid hba
                    clear hrc hba HCP HPUT
                    go_wp2_with fail
                    refine HPW.out.mono ?_
                    rintro e w3 ⟨rfl, hb3⟩
                    have hb3r := HBA.out.trans (hb3.mono HBA.out.size)
                    have HB3 := Lib.hid hb3r
                    have HK3 := Lib.hid (HK.out.below hb3r)
                    have c9 := HC0.out w3 (HK.out.below hb3r).bel
                    clear hb3 hb3r HPW HBA
                    go_wp2_with fail
                    go_loopw [10, 11] (fun sv jv wx => ∃ j fj : Nat, j ≤ n ∧ fj ≤ F ∧ ((recs pg).take j).flatten.length = fj ∧ jv = .int .i64 (j : Int) ∧ sv = .int .i64 ((1 + M + L + fj : Nat) : Int) ∧ w3 = wx) (fun _ jv _ => n - (intOf jv).toNat)
                    case atStart => exact ⟨0, 0, Nat.zero_le _, Nat.zero_le _, rfl, rfl, by go_num, rfl⟩
                    case round =>
                      obtain ⟨j, fj, hj, hfj, hfe, rfl, rfl, rfl⟩ := hrel
                      by_cases hjn : j < n
                      · obtain ⟨r, hr⟩ : ∃ r, (recs pg)[j]? = some r := ⟨_, List.getElem?_eq_getElem (by rw [HN.out]; exact hjn)⟩
                        obtain ⟨gx, c7, v7, e5, hg5, hc7, hf5, A7, c8, rfl, _⟩ := HK3.out.sec.get j r hr
                        rw [HN.out] at e5
                        injection e5 with e6 e7 e8
                        subst e6
                        obtain ⟨rl, hrl⟩ : ∃ rl, r.length = rl := ⟨_, rfl⟩
                        rw [hrl] at hc7
                        have hfs := flat_take_one hr
                        rw [hrl, hfe] at hfs
                        have hfF := HF0.out (j + 1)
                        rw [hfs] at hfF
                        have d7 : decide ((j : Int) < (n : Int)) = true := by simpa using hjn
                        have HFS := Lib.hid hfs
                        clear hr hrl e7 e8 hf5 hg5 hfs hfe
                        go_wp2_with fail
                        go_roundw
                        case rel => exact ⟨j + 1, fj + rl, by omega, by omega, HFS.out, by go_num, by go_num, by trivial⟩
                        case measure => simp [intOf]; omega
                      · obtain rfl : n = j := by omega
                        have d7 : decide ((n : Int) < (n : Int)) = false := by simp
                        have hTe : 1 + M + L + fj = T := by
                          rw [← HTT.out, ← HF.out, ← hfe]
                          congr 2
                          rw [List.take_of_length_le (by rw [HN.out]; exact Nat.le_refl _)]
                        rw [hTe]
                        clear hTe hfe
                        have HKI : Hid (KeepI w w3 (.slice (some ⟨g, 0, none⟩) pl c) (.slice Ah n ch)) := Lib.hid ⟨pg, g, c, by rw [HPL.out], HK3.out⟩
                        go_wp2_with fail
                        go_meet
                        case rel => exact HKI
        · have d1 : decide ((0 : Int) < (L : Int)) = false := by simp; omega
          have hdrop := drop_any (some ⟨g, 0, none⟩) pl c st.s pg wr HS1.out HPL.out HRW.out.bytes HRW.out.le HRW.out.max
          rcases gotR_cases pg st.s n HN.out with ⟨hno, hcs⟩ | ⟨ks, r, hks, hksn, hr, hr0, hgot⟩
          · have HDROP : Hid (Calls Try.prog 25 #[.slice (some ⟨g, 0, none⟩) pl c, .int .i64 st.s] wr fun e w' => e = .returned (.tuple #[.slice none 0 0, .bool false]) ∧ Below wr.heap.size wr w') := Lib.hid (by
              refine hdrop.mono ?_
              rintro e w' (⟨_, rfl, h3⟩ | ⟨r, g2, c2, hyes, _⟩)
              · exact ⟨rfl, h3⟩
              · rw [hno] at hyes; cases hyes)
            clear hdrop hno
            rcases hcs with hneg | hge | ⟨ks, hks, hksn, hr⟩
            · have d2 : decide ((0 : Int) ≤ st.s) = false := by simp; omega
              as_aux_lemma =>
                go_wp2_with fail
                refine HDROP.out.mono ?_
                rintro e w2 ⟨rfl, hb2⟩
                have HKI : Hid (KeepI w w2 (.slice (some ⟨g, 0, none⟩) pl c) (.slice Ah n ch)) := Lib.hid ⟨pg, g, c, by rw [HPL.out], HK.out.below hb2⟩
                clear hb2 HDROP
                go_wp2_with fail
                go_meet
                case rel => exact HKI
            · have d2 : decide ((0 : Int) ≤ st.s) = true := by simp; omega
              have d3 : decide (st.s < (n : Int)) = false := by simp; omega
              as_aux_lemma =>
                go_wp2_with fail
                refine HDROP.out.mono ?_
                rintro e w2 ⟨rfl, hb2⟩
                have HKI : Hid (KeepI w w2 (.slice (some ⟨g, 0, none⟩) pl c) (.slice Ah n ch)) := Lib.hid ⟨pg, g, c, by rw [HPL.out], HK.out.below hb2⟩
                clear hb2 HDROP
                go_wp2_with fail
                go_meet
                case rel => exact HKI
            · rw [hks] at HDROP k1
              have d2 : decide ((0 : Int) ≤ (ks : Int)) = true := by simp
              have d3 : decide ((ks : Int) < (n : Int)) = true := by simpa using hksn
              obtain ⟨gh, c5, v5, e5, hg5, hc5, hf5, A5, c6, rfl, _⟩ := HK.out.sec.get ks [] hr
              rw [HN.out] at e5
              injection e5 with e6 e7 e8
              subst e6
              have hc5' : Hid (∀ W, Below wr.heap.size wr W → W.cell? ⟨gh, ks, none⟩ = some (.slice A5 0 c6)) := Lib.hid (fun W hW => (hW.cell (p := ⟨gh, ks, none⟩) hg5).trans hc5)
              clear hc5 hf5 hr hg5 e7 e8
              go_wp2_with fail
              refine HDROP.out.mono ?_
              rintro e w2 ⟨rfl, hb2⟩
              have c5 := hc5'.out w2 hb2
              have HKI : Hid (KeepI w w2 (.slice (some ⟨g, 0, none⟩) pl c) (.slice (some ⟨gh, 0, none⟩) n ch)) := Lib.hid ⟨pg, g, c, by rw [HPL.out], HK.out.below hb2⟩
              clear hb2 HDROP
              go_wp2_with fail
              go_meet
              case rel => exact HKI
          · have hdk := drop_ok HK.out.ok st.s
            have HDK := Lib.hid hdk
            obtain ⟨q, hq⟩ : ∃ q, pageOf (dropL pg st.s) = q := ⟨_, rfl⟩
            obtain ⟨ql, hql⟩ : ∃ ql, q.length = ql := ⟨_, rfl⟩
            have HDROP : Hid (Calls Try.prog 25 #[.slice (some ⟨g, 0, none⟩) pl c, .int .i64 st.s] wr fun e w' => ∃ g2 c2, e = .returned (.tuple #[.slice (some ⟨g2, 0, none⟩) ql c2, .bool true]) ∧ Rw w' g2 ql c2 q ∧ wr.heap.size ≤ g2 ∧ Below wr.heap.size wr w') := Lib.hid (by
              refine hdrop.mono ?_
              rintro e w' (⟨hno, _⟩ | ⟨r', g2, c2, _, rfl, h1, h2, h3⟩)
              · rw [hgot] at hno; cases hno
              · rw [hq, hql] at h1 ⊢
                exact ⟨g2, c2, rfl, h1, h2, h3⟩)
            have hok2 : Ok q := by rw [← hq]; exact hdk.1
            have hrc2 : recs q = trim ((recs pg).set ks []) := by
              rw [← hq, hdk.2]
              unfold dropL
              rw [hks, Int.toNat_natCast]
            have HQ := Lib.hid (And.intro hok2 (And.intro hrc2 hql))
            rw [hks] at HDROP k1
            have d2 : decide ((0 : Int) ≤ (ks : Int)) = true := by simp
            have d3 : decide ((ks : Int) < (n : Int)) = true := by simpa using hksn
            obtain ⟨gh, c5, v5, e5, hg5, hc5, hf5, A5, c6, rfl, _⟩ := HK.out.sec.get ks r hr
            rw [HN.out] at e5
            injection e5 with e6 e7 e8
            subst e6
            obtain ⟨rl, hrl⟩ : ∃ rl, r.length = rl := ⟨_, rfl⟩
            rw [hrl] at hc5 hr0
            have d4 : decide ((0 : Int) < (rl : Int)) = true := by simpa using hr0
            have HC5 : Hid (∀ W, Below wr.heap.size wr W → W.cell? ⟨gh, ks, none⟩ = some (.slice A5 rl c6) ∧ W.frozen? ⟨gh, ks, none⟩ = false) := Lib.hid (fun W hW => ⟨(hW.cell (p := ⟨gh, ks, none⟩) hg5).trans hc5, (World.frozen?_of_block (a := ⟨gh, ks, none⟩) (hW.block gh hg5)).trans hf5⟩)
            clear hc5 hf5 hr hg5 e7 e8 hdk hdrop hgot hq hok2 hrc2 hql hrl
            as_aux_lemma =>
              go_wp2_with fail
              refine HDROP.out.mono ?_
              rintro e w2 ⟨g2, c2, rfl, hr2, hg2, hb2⟩
              obtain ⟨c5, f5⟩ := HC5.out w2 hb2
              have hk2 := HK.out.below hb2
              have hgne := hk2.own gh rfl
              have hSd := hk2.sec.set_ ks gh n ch rfl (by omega) (.slice none 0 0) [] (Sec.nil _ _)
              have hbd : Below w.heap.size w (w2.setCell ⟨gh, ks, none⟩ (.slice none 0 0)) := hk2.bel.setCell (p := ⟨gh, ks, none⟩) hgne.2 _
              have hg2h : gh ≠ g2 := by have := HK.out.sec.lt gh rfl; omega
              have hr2d : Rw (w2.setCell ⟨gh, ks, none⟩ (.slice none 0 0)) g2 ql c2 q := hr2.frame (by simp [World.setCell]) (Below.heap_setCell _ _ _ _ (fun e => hg2h e.symm))
              have HSD := Lib.hid hSd
              have HBD := Lib.hid hbd
              have HR2D := Lib.hid hr2d
              have HGN : Hid (gh ≠ g2 ∧ w.heap.size ≤ gh) := Lib.hid ⟨hg2h, hgne.2⟩
              clear hb2 HDROP hk2 hSd hbd hr2d hr2 hgne hg2h HC5
              go_wp2_with fail
              obtain ⟨wd, hwd⟩ : ∃ wd, w2.setCell ⟨gh, ks, none⟩ (.slice none 0 0) = wd := ⟨_, rfl⟩
              rw [hwd]
              rw [hwd] at HSD HBD HR2D
              go_loopw [4] (fun hv wx => ∃ S : List (List UInt8), wd = wx ∧ S.length ≤ n ∧ hv = .slice (some ⟨gh, 0, none⟩) S.length ch ∧ Hid (SecsO wd (fun j => j < w.heap.size) (.slice (some ⟨gh, 0, none⟩) S.length ch) S) ∧ Hid (trim S = trim ((recs pg).set ks []))) (fun hv _ => lenV hv)
              case atStart => exact ⟨(recs pg).set ks [], rfl, by rw [List.length_set, HN.out]; exact Nat.le_refl _, by rw [List.length_set, HN.out], by rw [List.length_set, HN.out]; exact HSD, Lib.hid rfl⟩
              case round =>
                obtain ⟨S, rfl, hSn, rfl, hS, htr⟩ := hrel
                rcases List.eq_nil_or_concat S with rfl | ⟨S', x, rfl⟩
                · have HKI : Hid (KeepI w wd (.slice (some ⟨g2, 0, none⟩) ql c2) (.slice (some ⟨gh, 0, none⟩) 0 ch)) := Lib.hid ⟨q, g2, c2, by rw [HQ.out.2.2], by rw [HQ.out.2.2]; exact HR2D.out, HQ.out.1, by rw [HQ.out.2.1, ← htr.out]; exact hS.out, fun j hj => by cases hj; exact HGN.out, HBD.out⟩
                  clear hS htr
                  go_wp2_with fail
                  go_meet
                  case rel => exact HKI
                · rw [List.concat_eq_append] at *
                  obtain ⟨m, hm⟩ : ∃ m, S'.length = m := ⟨_, rfl⟩
                  have hml : (S' ++ [x]).length = m + 1 := by simp [hm]
                  rw [hml] at hSn
                  obtain ⟨gx, cx, vx, ex, hgx, hcx, hfx, Ax, cax, rfl, _⟩ := hS.out.get m x (by rw [List.getElem?_append_right (by omega), hm, Nat.sub_self]; rfl)
                  injection ex with e1 e2 e3
                  cases e1
                  obtain ⟨xl, hxl⟩ : ∃ xl, x.length = xl := ⟨_, rfl⟩
                  rw [hxl] at hcx
                  by_cases hx0 : xl = 0
                  · have hx : x = [] := List.eq_nil_of_length_eq_zero (by omega)
                    subst hx
                    have HSP := Lib.hid hS.out.pop
                    have HTR : Hid (trim S' = trim ((recs pg).set ks [])) := Lib.hid (by rw [← htr.out, trim_snoc_nil])
                    subst hx0
                    rw [hml]
                    have d5 : decide ((0 : Int) < ((m + 1 : Nat) : Int)) = true := by simp
                    rw [hm] at HSP
                    have HMM := Lib.hid hm
                    clear hS htr e2 e3 hfx hgx hxl hml hm
                    go_wp2_with fail
                    go_roundw
                    case rel => exact ⟨S', by trivial, by rw [HMM.out]; omega, by rw [HMM.out], by rw [HMM.out]; exact HSP, HTR⟩
                    case measure => simp [lenV]
                  · have d5 : decide ((0 : Int) < ((m + 1 : Nat) : Int)) = true := by simp
                    have d6 : ((xl : Int) == 0) = false := by simp; omega
                    have HKI : Hid (KeepI w wd (.slice (some ⟨g2, 0, none⟩) ql c2) (.slice (some ⟨gh, 0, none⟩) (m + 1) ch)) := Lib.hid ⟨q, g2, c2, by rw [HQ.out.2.2], by rw [HQ.out.2.2]; exact HR2D.out, HQ.out.1, by rw [HQ.out.2.1, ← htr.out, trim_snoc S' x (by omega), ← hml]; exact hS.out, fun j hj => by cases hj; exact HGN.out, HBD.out⟩
                    rw [hml]
                    clear hS htr e2 e3 hfx hgx hxl hml hm
                    go_wp2_with fail
                    go_meet
                    case rel => exact HKI
      case rest =>
        as_aux_lemma =>
          obtain ⟨pg2, g2, c2, rfl, hK2⟩ := hcut.out
          have HK2 := Lib.hid hK2
          clear hcut HK HN HPL HRW HLL HC0 HBR HX HS1
          obtain ⟨n2, hn2⟩ : ∃ n2, (recs pg2).length = n2 := ⟨_, rfl⟩
          obtain ⟨Ah2, ch2, hsv2, hch3, hch4⟩ := hK2.sec.shape
          rw [hn2] at hsv2
          subst hsv2
          have HN2 := Lib.hid hn2
          obtain ⟨pl2, hpl2⟩ : ∃ pl, pg2.length = pl := ⟨_, rfl⟩
          have HPL2 := Lib.hid hpl2
          have hn255 : n2 ≤ 255 := by have := (recs_flat pg2).1; omega
          rw [hpl2]
          clear hK2 hn2 hpl2
          go_wp2_with fail
          go_loopw [15, 16, 17, 18] (fun kv x y z wx => ∃ kk : Int, -1 ≤ kk ∧ kk ≤ n2 + 1 ∧ kv = .int .i64 kk ∧ Hid (Keep w wx pg2 g2 c2 (.slice Ah2 n2 ch2))) (fun kv _ _ _ _ => ((n2 : Int) + 1 - intOf kv).toNat)
          case atStart => exact ⟨-1, by omega, by omega, rfl, HK2⟩
          case round =>
            clear HK2
            obtain ⟨kk, hk1, hk2, rfl, hKK⟩ := hrel
            have HRWX : Hid (Rw wr g2 pl2 c2 pg2) := Lib.hid (by have := hKK.out.rw_; rwa [HPL2.out] at this)
            by_cases hkn : kk ≤ n2
            · have d1 : decide (kk ≤ (n2 : Int)) = true := by simpa using hkn
              have hget := get_any (some ⟨g2, 0, none⟩) pl2 c2 kk pg2 wr HPL2.out HRWX.out.bytes HRWX.out.le HRWX.out.max
              rcases gotR_cases pg2 kk n2 HN2.out with ⟨hno, hcs⟩ | ⟨ks, r, rfl, hksn, hr, hr0, hgot⟩
              · have HGET : Hid (Calls Try.prog 11 #[.slice (some ⟨g2, 0, none⟩) pl2 c2, .int .i64 kk] wr fun e w' => e = .returned (.tuple #[.slice none 0 0, .bool false]) ∧ Below wr.heap.size wr w') := Lib.hid (by
                  refine hget.mono ?_
                  rintro e w' (⟨_, rfl, h3⟩ | ⟨r, g2, c2, hyes, _⟩)
                  · exact ⟨rfl, h3⟩
                  · rw [hno] at hyes; cases hyes)
                clear hget hno
                rcases hcs with hneg | hge | ⟨ks, rfl, hksn, hr⟩
                · have d2 : decide ((0 : Int) ≤ kk) = false := by simp; omega
                  go_wp2_with fail
                  refine HGET.out.mono ?_
                  rintro e w2 ⟨rfl, hb2⟩
                  have HKN := Lib.hid (hKK.out.below hb2)
                  clear hb2 HGET hKK
                  go_wp2_with fail
                  go_roundw
                  case rel => exact ⟨kk + 1, by omega, by omega, by go_num, HKN⟩
                  case measure => simp [intOf]; omega
                · have d2 : decide ((0 : Int) ≤ kk) = true := by simp; omega
                  have d3 : decide (kk < (n2 : Int)) = false := by simp; omega
                  go_wp2_with fail
                  refine HGET.out.mono ?_
                  rintro e w2 ⟨rfl, hb2⟩
                  have HKN := Lib.hid (hKK.out.below hb2)
                  clear hb2 HGET hKK
                  go_wp2_with fail
                  go_roundw
                  case rel => exact ⟨kk + 1, by omega, by omega, by go_num, HKN⟩
                  case measure => simp [intOf]; omega
                · have d2 : decide ((0 : Int) ≤ (ks : Int)) = true := by simp
                  have d3 : decide ((ks : Int) < (n2 : Int)) = true := by simpa using hksn
                  obtain ⟨gh, c5, v5, e5, hg5, hc5, hf5, A5, c6, rfl, _⟩ := hKK.out.sec.get ks [] hr
                  rw [HN2.out] at e5
                  injection e5 with e6 e7 e8
                  subst e6
                  have hc5' : Hid (∀ W, Below wr.heap.size wr W → W.cell? ⟨gh, ks, none⟩ = some (.slice A5 0 c6)) := Lib.hid (fun W hW => (hW.cell (p := ⟨gh, ks, none⟩) hg5).trans hc5)
                  clear hc5 hf5 hr hg5 e7 e8
                  go_wp2_with fail
                  refine HGET.out.mono ?_
                  rintro e w2 ⟨rfl, hb2⟩
                  have c5 := hc5'.out w2 hb2
                  have HKN := Lib.hid (hKK.out.below hb2)
                  clear hb2 HGET hKK hc5'
                  go_wp2_with fail
                  go_roundw
                  case rel => exact ⟨(ks : Int) + 1, by omega, by omega, by go_num, HKN⟩
                  case measure => simp [intOf]; omega
              · obtain ⟨rl, hrl⟩ : ∃ rl, r.length = rl := ⟨_, rfl⟩
                have HGET : Hid (Calls Try.prog 11 #[.slice (some ⟨g2, 0, none⟩) pl2 c2, .int .i64 (ks : Int)] wr fun e w' => ∃ g3 c3, e = .returned (.tuple #[.slice (some ⟨g3, 0, none⟩) rl c3, .bool true]) ∧ Rw w' g3 rl c3 r ∧ Below wr.heap.size wr w') := Lib.hid (by
                  refine hget.mono ?_
                  rintro e w' (⟨hno, _⟩ | ⟨r', g3, c3, hyes, rfl, h1, _, h3⟩)
                  · rw [hgot] at hno; cases hno
                  · rw [hgot] at hyes; cases hyes
                    rw [hrl] at h1 ⊢
                    exact ⟨g3, c3, rfl, h1, h3⟩)
                have d2 : decide ((0 : Int) ≤ (ks : Int)) = true := by simp
                have d3 : decide ((ks : Int) < (n2 : Int)) = true := by simpa using hksn
                obtain ⟨gh, c5, v5, e5, hg5, hc5, hf5, A5, c6, rfl, hl6, hm6, hby6, _⟩ := hKK.out.sec.get ks r hr
                rw [HN2.out] at e5
                injection e5 with e6 e7 e8
                subst e6
                rw [hrl] at hc5 hl6 hr0
                have hrl248 : rl ≤ 248 := by
                  have := (List.sublist_flatten_of_mem (List.mem_of_getElem? hr)).length_le
                  have := (recs_flat pg2).2
                  omega
                have d4 : decide ((0 : Int) < (rl : Int)) = true := by simpa using hr0
                have hc5' : Hid (∀ W, Below wr.heap.size wr W → W.cell? ⟨gh, ks, none⟩ = some (.slice A5 rl c6) ∧ Bytes W A5 r) := Lib.hid (fun W hW => ⟨(hW.cell (p := ⟨gh, ks, none⟩) hg5).trans hc5, hby6.below hW⟩)
                have HRL := Lib.hid (And.intro hrl (And.intro hl6 hm6))
                clear hc5 hf5 hr hg5 e7 e8 hget hgot hrl hl6 hm6 hby6
                go_wp2_with fail
                refine HGET.out.mono ?_
                rintro e w2 ⟨g3, c3, rfl, hr3, hb2⟩
                obtain ⟨c5, by5⟩ := hc5'.out w2 hb2
                have HKN := Lib.hid (hKK.out.below hb2)
                have hmm := hr3.max
                have hmm6 := HRL.out.2.2
                unfold maxLen at hmm hmm6
                have h3 := eq_any (some ⟨g3, 0, none⟩) A5 rl c3 rl c6 r r w2 HRL.out.1 HRL.out.1 hr3.bytes by5 ⟨hr3.le, by omega, by omega⟩ ⟨HRL.out.2.1, by omega, by omega⟩
                rw [decide_eq_true (rfl : r = r)] at h3
                have H3 := Lib.hid h3
                clear hb2 HGET hKK hc5' hr3 by5 hmm hmm6 h3
                go_wp2_with fail
                refine H3.out.mono ?_
                rintro e w3 ⟨rfl, hb3⟩
                have HKN3 := Lib.hid (HKN.out.below hb3)
                clear hb3 H3
                go_wp2_with fail
                go_roundw
                case rel => exact ⟨(ks : Int) + 1, by omega, by omega, by go_num, HKN3⟩
                case measure => simp [intOf]; omega
            · have d1 : decide (kk ≤ (n2 : Int)) = false := by simp; omega
              have hrt := right_any (some ⟨g2, 0, none⟩) pl2 c2 pg2 wr HPL2.out HRWX.out.bytes HRWX.out.le HRWX.out.max
              rw [show okB pg2 = true from decide_eq_true hKK.out.ok] at hrt
              have HRT := Lib.hid hrt
              have HKI : Hid (KeepI w wr (.slice (some ⟨g2, 0, none⟩) pl2 c2) (.slice Ah2 n2 ch2)) := Lib.hid ⟨pg2, g2, c2, by rw [HPL2.out], hKK.out⟩
              clear hrt hKK
              go_wp2_with fail
              refine HRT.out.mono ?_
              rintro e w' ⟨rfl, rfl⟩
              clear HRT
              go_wp2_with fail
              go_roundw
              case rel => exact ⟨i + 1, by omega, by go_num, HKI⟩
              case measure => simp [intOf]; omega
    · obtain rfl : len = i := by omega
      have hd : decide ((len : Int) < (len : Int)) = false := by simp
      have HB : Hid (Below w.heap.size w wr) := Lib.hid (by obtain ⟨pg, g, c, _, hK⟩ := hI.out; exact hK.bel)
      have HW := Lib.hid (works_any wr)
      clear hI
      go_wp2_with fail
      refine HW.out.mono ?_
      rintro e w2 ⟨rfl, hb⟩
      have HB2 := Lib.hid (HB.out.trans (hb.mono HB.out.size))
      clear hb
      go_wp2_with fail
      go_ret
      exact ⟨rfl, HB2.out⟩

set_option maxRecDepth 20000 in
set_option maxHeartbeats 1000000 in
theorem keeps_any (len cap : Nat) (A : Option Addr) (ls : List St) (w : World) (hlen : ls.length = len) (hA : Steps w A ls) :
    Calls Try.prog 6 #[.slice A len cap] w fun e W' => e = .returned (.bool true) ∧ Below w.heap.size w W' := by
  cases hv : longB ls
  · exact keeps_walk len cap A ls w hlen hA hv
  · have h0 := long_any A len cap ls w hlen hA
    rw [hv] at h0
    have H0 := Lib.hid h0
    have HW := Lib.hid (works_any w)
    clear hA hlen hv h0
    go_enter Try.func6, Try.ntmps6
    go_wp2_with fail
    refine H0.out.mono ?_
    rintro e w' ⟨rfl, rfl⟩
    go_wp2_with fail
    refine HW.out.mono ?_
    rintro e w2 ⟨rfl, hb⟩
    have HB := Lib.hid hb
    clear hb
    go_wp2_with fail
    go_ret
    exact ⟨rfl, HB.out⟩
end Go.Proofs.Ytipjokbkgcepbaa
