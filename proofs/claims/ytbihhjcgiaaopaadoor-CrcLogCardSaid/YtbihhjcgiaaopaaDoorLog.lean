/- CrcLog. -/
import Derived.Test.YtbihhjcgiaaopaaDoorW
import Derived.Test.YtbihhjcgiaaopaaDoorK
import Derived.Test.YtbihhjcgiaaopaaDoorQ
namespace Go.Proofs.YtbihhjcgiaaopaaDoor
open Go.RowKit Crc

theorem own_shape {w : World} {base : Nat} {e : TypeId} {v : Value} {n : Nat} {xs : List Value} (h : w.ownsRow base e 1 v n xs) : ∃ A c, v = .slice A n c := by
  rcases h.2 with ⟨rfl, rfl⟩ | ⟨g, cap, cur, rfl, _⟩
  · exact ⟨none, 0, rfl⟩
  · exact ⟨_, cap, rfl⟩
theorem own_none (w : World) (base : Nat) : w.ownsRow base 5 1 (.slice none 0 0) 0 (([] : List UInt8).map bv) := ⟨by simp, .inl ⟨rfl, rfl⟩⟩

set_option maxHeartbeats 800000 in
theorem log_any (A : Option Addr) (n cap : Nat) (rows : List (List UInt8)) (w : World) (hn : rows.length = n) (hT : Tab w) (hR : Rows8 w A rows) (hc : n ≤ cap) (_hm : cap ≤ maxLen) :
    Calls Tryd.prog 7 #[.slice A n cap] w fun e W' => e = .returned (.bool true) ∧ Below w.heap.size w W' := by
  obtain ⟨B, hB⟩ : ∃ B, w.heap.size = B := ⟨_, rfl⟩
  have hWK := Lib.hid (works_any w hT)
  have HT := Lib.hid hT
  have HR := Lib.hid hR
  have HB := Lib.hid hB
  have HN := Lib.hid hn
  unfold maxLen at _hm
  by_cases hbig : 100 < n
  · clear hT hR hB hn
    go_enter Tryd.func7, Tryd.ntmps7
    go_wp2_with fail
    refine hWK.out.mono ?_
    rintro e w1 ⟨rfl, hb⟩
    have HB := Lib.hid hb
    clear hb
    go_wp2
    go_ret
    exact ⟨rfl, HB.out⟩
  · have hs := sum_anyL none 0 0 [] w rfl hT (Bytes.nil _ _) (by decide)
    have HS := Lib.hid hs
    clear hs hT hR hWK hn
    rw [hB]
    clear hB
    go_enter Tryd.func7, Tryd.ntmps7
    go_wp2_with fail
    refine HS.out.mono ?_
    rintro e w' ⟨rfl, rfl⟩
    clear HS
    go_wp2
    go_loopw [3, 4, 5] (fun v s i wr => ∃ k : Nat, k ≤ n ∧ i = .int .i64 k ∧ ∃ bs : List UInt8, s = .int .u32 (sumFrom 0 bs : Int) ∧ bs.length ≤ 8192 ∧ wr.ownsRow B 5 1 v bs.length (bs.map bv) ∧ Below B w wr ∧ B ≤ wr.heap.size) (fun _ _ i _ => n - (intOf i).toNat)
    case atStart => exact ⟨0, Nat.zero_le _, rfl, [], rfl, Nat.zero_le _, own_none _ _, Below.refl _ _, Nat.le_of_eq HB.out.symm⟩
    case round =>
      obtain ⟨k, hk, rfl, bs, rfl, hbl, hown, hbw, hsz⟩ := hrel
      have HBW := Lib.hid hbw
      have hbw' : Below w.heap.size w wr := by rw [HB.out]; exact hbw
      have hTr := HT.out.below hbw'
      have HTR := Lib.hid hTr
      by_cases hlt : k < n
      · obtain ⟨cs, hcs⟩ : ∃ cs, rows[k]? = some cs := ⟨_, List.getElem?_eq_getElem (by rw [HN.out]; exact hlt)⟩
        obtain ⟨b, off, a, c, rfl, hblt, hcell, hcy, hc1, hc2⟩ := (HR.out.below hbw') k cs hcs
        obtain ⟨A1, c1, rfl⟩ := own_shape hown
        by_cases hbig1 : 4096 < cs.length
        · have HW := Lib.hid (works_any wr hTr)
          clear hTr hbw hbw' hown hcy
          go_wp2_with fail
          refine HW.out.mono ?_
          rintro e w5 ⟨rfl, hb5⟩
          have HB5 := Lib.hid (HBW.out.trans (hb5.mono hsz))
          clear hb5 HW
          go_wp2
          go_ret
          exact ⟨rfl, HB5.out⟩
        · by_cases hbig2 : 4096 < bs.length
          · have HW := Lib.hid (works_any wr hTr)
            clear hTr hbw hbw' hown hcy
            go_wp2_with fail
            refine HW.out.mono ?_
            rintro e w5 ⟨rfl, hb5⟩
            have HB5 := Lib.hid (HBW.out.trans (hb5.mono hsz))
            clear hb5 HW
            go_wp2
            go_ret
            exact ⟨rfl, HB5.out⟩
          · have hx1 : ¬ (4096 < (cs.length : Int)) := by omega
            have hx2 : ¬ (4096 < (bs.length : Int)) := by omega
            obtain ⟨v2, w2, hrun, hown2, hgr⟩ := run_app8 wr B _ bs.length bs hown a cs.length c cs rfl hcy (by omega) hsz
            have hb2 : Below B w w2 := hbw.grown hgr hsz (fun k e => (hown.lt k e).1)
            have hb2' : Below w.heap.size w w2 := by rw [HB.out]; exact hb2
            obtain ⟨b', off', a', c', e', hblt', hcell', hcy', -, -⟩ := (HR.out.below hb2') k cs hcs
            cases e'
            obtain ⟨A2, c2, rfl⟩ := own_shape hown2
            have hT2 := HT.out.below hb2'
            have hs0 := sumFrom_lt (x := 0) (by decide) bs
            have hex := extend_anyL a' cs.length c' (sumFrom 0 bs) cs w2 rfl hT2 hcy' (by unfold maxLen; omega) hs0
            rw [← sumFrom_append] at hex
            have hsum := sum_anyL A2 (bs.length + cs.length) c2 (bs ++ cs) w2 (by simp) hT2 (Bytes.of_own hown2) (by unfold maxLen; omega)
            rw [← List.length_append] at hown2
            obtain ⟨s2, hs2⟩ : ∃ s2, sumFrom 0 (bs ++ cs) = s2 := ⟨_, rfl⟩
            rw [hs2] at hex hsum
            generalize sumFrom 0 bs = s0 at *
            have HRUN := Lib.hid hrun
            have HEX := Lib.hid hex
            have HSUM := Lib.hid hsum
            have HO := Lib.hid hown2
            have HB2 := Lib.hid hb2
            have HS2 := Lib.hid hs2
            have hsz2 : B ≤ w2.heap.size := by have := hb2.size; have := HB.out; omega
            have HSZ2 := Lib.hid hsz2
            clear hTr hbw hbw' hown hcy hcs hrun hown2 hgr hb2 hb2' hcy' hT2 hex hsum hs2 hsz2 hs0
            go_wp2_with (first
              | (at_builtin; refine wpList_app rfl _ _ 23 rfl _ _ _ _ rfl rfl HRUN.out ?_; clear HRUN)
              | (go_at_call 10; refine HEX.out.mono ?_; rintro e w' ⟨rfl, rfl⟩; clear HEX)
              | (go_at_call 12; refine HSUM.out.mono ?_; rintro e w' ⟨rfl, rfl⟩; clear HSUM))
            go_roundw
            case rel => exact ⟨k + 1, by omega, by go_num, bs ++ cs, by rw [HS2.out], by simp; omega, by simpa using HO.out, HB2.out, HSZ2.out⟩
            case measure => simp [intOf]; omega
      · obtain rfl : k = n := by omega
        have HW := Lib.hid (works_any wr hTr)
        clear hTr hbw hbw' hown
        go_wp2_with fail
        refine HW.out.mono ?_
        rintro e w5 ⟨rfl, hb5⟩
        have HB5 := Lib.hid (HBW.out.trans (hb5.mono hsz))
        clear hb5 HW
        go_wp2
        go_ret
        exact ⟨rfl, HB5.out⟩

end Go.Proofs.YtbihhjcgiaaopaaDoor
