/- pages: the reference's Lay of a row of an even length. -/
import Derived.Test.YtcmaehilgeonjaaAE
namespace Go.Proofs.Ytcmaehilgeonjaa
open Go.RowKit Pgs
set_option maxRecDepth 20000 in
set_option maxHeartbeats 4000000 in
theorem rlay_goes (g i n c : Nat) (A : Option Addr) (L : List Nat) (bs : List UInt8) (w : World) (h : PR w g L) (hi : i < 9) (hn : n ≤ 124) (hl : bs.length = 2 * n) (hA : Bytes w A bs) (hne : 0 < n → ∀ p : Addr, A = some p → p.block ≠ g)
    (he : n = 0 ∨ ∃ x, (said bs)[n - 1]? = some x ∧ x ≠ 0) :
    Calls Try.prog 33 #[.pointer (some ⟨g, 0, none⟩), .int .i64 (i : Int), .slice A (2 * n) c] w fun e w' => e = .returned (.bool (layB (i : Int) bs)) ∧ StR w w' g (layL L (i : Int) bs) := by
  have hd1 : decide ((i : Int) < 0) = false := by simp
  have hd2 : decide ((i : Int) ≥ 9) = false := by simp; omega
  have hd3 : decide (((2 * n : Nat) : Int) > 248) = false := by simp; omega
  have ht : ((2 * n : Nat) : Int).tmod 2 = 0 := by rw [Int.tmod_eq_emod_of_nonneg (by omega)]; omega
  have ht2 : ((2 * n : Nat) : Int).tdiv 2 = (n : Int) := by rw [Int.tdiv_eq_ediv_of_nonneg (by omega)]; omega
  have ht3 : ((2 * n : Nat) : Int) / 2 = (n : Int) := by omega
  have hE : n = 0 ∨ 0 < n ∧ ∃ (b off y0 y1 : Nat), A = some ⟨b, off, none⟩ ∧ w.cell? ⟨b, off + 2 * (n - 1), none⟩ = some (.int .u8 (y0 : Int)) ∧ w.cell? ⟨b, off + (2 * (n - 1) + 1), none⟩ = some (.int .u8 (y1 : Int)) ∧ (y1 ≠ 0 ∨ (y1 = 0 ∧ y0 ≠ 0)) := by
    rcases he with e | ⟨x, hx, h0⟩
    · exact .inl e
    · by_cases e : n = 0
      · exact .inl e
      · obtain ⟨b, off, y0, y1, hAe, _, _, _, hs, c0, c1⟩ := said_cells hA hl (show n - 1 < n by omega)
        rw [hx] at hs
        have := Option.some.inj hs
        refine .inr ⟨by omega, b, off, y0, y1, hAe, c0, c1, ?_⟩
        by_cases h1 : y1 = 0
        · right; exact ⟨h1, by omega⟩
        · exact .inl h1
  have hb := layB_ref hi hl hn he
  rw [hb]
  obtain ⟨l, hll⟩ : ∃ l, 2 * n = l := ⟨_, rfl⟩
  rw [hll] at hd3 ht ht2 ht3 ⊢
  have HLL := Lib.hid hll
  have HN := Lib.hid hne
  have HA := Lib.hid hA
  have HL := Lib.hid hl
  have HE := Lib.hid he
  have hlb : l ≤ 248 := by omega
  by_cases ho : i * 124 + n ≤ 1024
  · rw [decide_eq_true ho] at hb ⊢
    have hd5 : decide ((i : Int) * 124 + (n : Int) > 1024) = false := by simp; omega
    obtain ⟨m, hm⟩ : ∃ m, min 124 (1024 - i * 124) = m := ⟨_, rfl⟩
    have hm1 : m ≤ 124 := by omega
    have hm2 : i * 124 + m ≤ 1024 := by omega
    have hm3 : m < 124 → i * 124 + m = 1024 := by omega
    have hnm : n ≤ m := by omega
    have HR0 : Hid (StR w w g (midL L i bs 0)) := Lib.hid (by rw [midL_zero]; exact ⟨h, Off.refl _ _⟩)
    have HEND : Hid (midL L i bs m = layL L (i : Int) bs) := Lib.hid (midL_end h.ok hi hl hn hm1 hm3 ho hb)
    have HLEN := Lib.hid h.ok.len
    rcases hE with h0 | ⟨h0, b, off, y0, y1, rfl, c0, c1, hy | hy⟩
    · have hd4 : decide ((l : Int) > 0) = false := by simp; omega
      have hl0 : ¬ 0 < l := by omega
      clear h hb hl hA hne he hll ho hm h0
      go_enter Try.func33, Try.ntmps33
      go_wp2_with fail
      go_loopw [8] (fun kv wr => ∃ k : Nat, k ≤ m ∧ kv = .int .i64 (k : Int) ∧ Hid (StR w wr g (midL L i bs k))) (fun kv _ => 124 - (intOf kv).toNat)
      case atStart => exact ⟨0, Nat.zero_le _, rfl, HR0⟩
      case round =>
        clear HR0
        obtain ⟨k, hk, rfl, hI⟩ := hrel
        by_cases hlt : k < m
        · have q1 : decide ((k : Int) < 124) = true := by simp; omega
          have q2 : decide ((i : Int) * 124 + (k : Int) < 1024) = true := by simp; omega
          have r1 : (0 : Int) ≤ (i : Int) * 124 + (k : Int) := by omega
          have r2 : ((i : Int) * 124 + (k : Int)).toNat = i * 124 + k := by omega
          have r3 : (i : Int) * 124 + (k : Int) < 1024 := by omega
          have hpr := hI.out.1
          have hmg : (midL L i bs k)[i * 124 + k]? = L[i * 124 + k]? := by
            rw [midL_get HLEN.out hi HL.out hn (by omega), if_neg (by omega)]
          obtain ⟨z, hz⟩ : ∃ z, L[i * 124 + k]? = some z := ⟨_, List.getElem?_eq_getElem (by rw [HLEN.out]; omega)⟩
          have k0 := hpr.cell (hmg.trans hz) (by omega)
          have f0 := hpr.blk.frozen (i * 124 + k)
          have hs0 : PR (wr.setCell ⟨g, i * 124 + k, none⟩ (.int .i64 0)) g ((midL L i bs k).set (i * 124 + k) 0) := hpr.set (i * 124 + k) 0 (by omega) (by omega)
          by_cases hkn : k < n
          · exact absurd hkn (by have := HLL.out; omega)
          · have q3 : decide (2 * (k : Int) < (l : Int)) = false := by have := HLL.out; simp; omega
            have hlx : (laidP bs)[k]? = some 0 := by
              unfold laidP
              rw [List.getElem?_append_right (by rw [said_len, HL.out]; omega), List.getElem?_replicate, if_pos (by rw [said_len, HL.out]; omega)]
            have HI2 : Hid (StR w (wr.setCell ⟨g, i * 124 + k, none⟩ (.int .i64 0)) g (midL L i bs (k + 1))) := Lib.hid ⟨by rw [← midL_succ HLEN.out hi HL.out hn (by omega) hlx]; exact hs0, hI.out.2.trans (Off.setc _ _ _ _)⟩
            clear hI hpr hmg hz hs0 hlx
            go_wp2_with fail
            go_roundw
            case rel => exact ⟨k + 1, by omega, by go_num, HI2⟩
            case measure => simp [intOf]; omega
        · obtain rfl : m = k := by omega
          have HI3 : Hid (StR w wr g (layL L (i : Int) bs)) := Lib.hid (by rw [← HEND.out]; exact hI.out)
          clear hI
          by_cases hm4 : m < 124
          · have q1 : decide ((m : Int) < 124) = true := by simp; omega
            have q2 : decide ((i : Int) * 124 + (m : Int) < 1024) = false := by simp; omega
            go_wp2_with fail
            go_ret
            exact ⟨rfl, HI3.out⟩
          · have q1 : decide ((m : Int) < 124) = false := by simp; omega
            go_wp2_with fail
            go_ret
            exact ⟨rfl, HI3.out⟩
    · have hd4 : decide ((l : Int) > 0) = true := by simp; omega
      obtain ⟨p0, hp0⟩ : ∃ p0, 2 * (n - 1) = p0 := ⟨_, rfl⟩
      obtain ⟨p1, hp1⟩ : ∃ p1, 2 * (n - 1) + 1 = p1 := ⟨_, rfl⟩
      rw [hp1] at c1
      rw [hp0] at c0
      have v1 : (l : Int) - 1 = (p1 : Int) := by omega
      have v2 : (l : Int) - 2 = (p0 : Int) := by omega
      have vl1 : (p1 : Int) < (l : Int) := by omega
      have vl0 : (p0 : Int) < (l : Int) := by omega
      have vb1 : p1 ≤ 248 := by omega
      have vb0 : p0 ≤ 248 := by omega
      have vy : ((y1 : Int) == 0) = false := by simp; omega
      clear h hb hl hA hne he hll ho hm h0 hp0 hp1 hy
      go_enter Try.func33, Try.ntmps33
      go_wp2_with fail
      go_loopw [8] (fun kv wr => ∃ k : Nat, k ≤ m ∧ kv = .int .i64 (k : Int) ∧ Hid (StR w wr g (midL L i bs k))) (fun kv _ => 124 - (intOf kv).toNat)
      case atStart => exact ⟨0, Nat.zero_le _, rfl, HR0⟩
      case round =>
        clear HR0
        obtain ⟨k, hk, rfl, hI⟩ := hrel
        by_cases hlt : k < m
        · have q1 : decide ((k : Int) < 124) = true := by simp; omega
          have q2 : decide ((i : Int) * 124 + (k : Int) < 1024) = true := by simp; omega
          have r1 : (0 : Int) ≤ (i : Int) * 124 + (k : Int) := by omega
          have r2 : ((i : Int) * 124 + (k : Int)).toNat = i * 124 + k := by omega
          have r3 : (i : Int) * 124 + (k : Int) < 1024 := by omega
          have hpr := hI.out.1
          have hmg : (midL L i bs k)[i * 124 + k]? = L[i * 124 + k]? := by
            rw [midL_get HLEN.out hi HL.out hn (by omega), if_neg (by omega)]
          obtain ⟨z, hz⟩ : ∃ z, L[i * 124 + k]? = some z := ⟨_, List.getElem?_eq_getElem (by rw [HLEN.out]; omega)⟩
          have k0 := hpr.cell (hmg.trans hz) (by omega)
          have f0 := hpr.blk.frozen (i * 124 + k)
          have hs0 : PR (wr.setCell ⟨g, i * 124 + k, none⟩ (.int .i64 0)) g ((midL L i bs k).set (i * 124 + k) 0) := hpr.set (i * 124 + k) 0 (by omega) (by omega)
          by_cases hkn : k < n
          · have q3 : decide (2 * (k : Int) < (l : Int)) = true := by have := HLL.out; simp; omega
            have hoff : Off (fun j => j = g) w (wr.setCell ⟨g, i * 124 + k, none⟩ (.int .i64 0)) := hI.out.2.trans (Off.setc _ _ _ _)
            have hA1 : Bytes (wr.setCell ⟨g, i * 124 + k, none⟩ (.int .i64 0)) (some ⟨b, off, none⟩) bs := HA.out.same hoff.size (fun p e hp => hoff.block _ hp (HN.out (by omega) p e))
            obtain ⟨bb, oo, x0, x1, hAA, _, hx0, hx1, hsx, d0, d1⟩ := said_cells hA1 HL.out hkn
            have hnb : bb ≠ g := HN.out (by omega) _ hAA
            have hlx : (laidP bs)[k]? = some (x0 + 256 * x1) := by
              unfold laidP
              rw [List.getElem?_append_left (by rw [said_len, HL.out]; omega)]; exact hsx
            have hx6 := said_lt bs hsx
            have k1 := hs0.cell (x := 0) (i := i * 124 + k) (by rw [List.getElem?_set_self (by rw [midL_len HLEN.out hi HL.out hn (by omega)]; omega)]) (by omega)
            have f1 := hs0.blk.frozen (i * 124 + k)
            have e0 : (2 * (k : Int)).toNat = 2 * k := by omega
            have e1 : (2 * (k : Int) + 1).toNat = 2 * k + 1 := by omega
            have g0 : (0 : Int) ≤ 2 * (k : Int) := by omega
            have g1 : (0 : Int) ≤ 2 * (k : Int) + 1 := by omega
            have l0 : 2 * (k : Int) < (l : Int) := by have := HLL.out; omega
            have l1 : 2 * (k : Int) + 1 < (l : Int) := by have := HLL.out; omega
            have HI2 : Hid (StR w ((wr.setCell ⟨g, i * 124 + k, none⟩ (.int .i64 0)).drew.setCell ⟨g, i * 124 + k, none⟩ (.int .i64 ((x0 : Int) + 256 * (x1 : Int)))) g (midL L i bs (k + 1))) := Lib.hid (by
              have hd0 : PR (wr.setCell ⟨g, i * 124 + k, none⟩ (.int .i64 0)).drew g ((midL L i bs k).set (i * 124 + k) 0) := ⟨hs0.blk, hs0.ok⟩
              have := hd0.set (i * 124 + k) (x0 + 256 * x1) (by omega) hx6
              rw [List.set_set, midL_succ HLEN.out hi HL.out hn (by omega) hlx] at this
              rw [show ((x0 + 256 * x1 : Nat) : Int) = (x0 : Int) + 256 * (x1 : Int) by omega] at this
              exact ⟨this, (hoff.trans (Off.drew _ _)).trans (Off.setc _ _ _ _)⟩)
            have w2 : IntKind.i64.wrap (2 * (k : Int)) = 2 * (k : Int) := IntWalk.i64_in _ (by omega)
            have w3 : IntKind.i64.wrap (2 * (k : Int) + 1) = 2 * (k : Int) + 1 := IntWalk.i64_in _ (by omega)
            have w4 : IntKind.i64.wrap ((i : Int) * 124) = (i : Int) * 124 := IntWalk.i64_in _ (by omega)
            have w5 : IntKind.i64.wrap ((i : Int) * 124 + (k : Int)) = (i : Int) * 124 + (k : Int) := IntWalk.i64_in _ (by omega)
            have w6 : IntKind.i64.wrap (x0 : Int) = (x0 : Int) := IntWalk.i64_in _ (by omega)
            have w7 : IntKind.i64.wrap (x1 : Int) = (x1 : Int) := IntWalk.i64_in _ (by omega)
            have w8 : IntKind.i64.wrap (256 * (x1 : Int)) = 256 * (x1 : Int) := IntWalk.i64_in _ (by omega)
            have w9 : IntKind.i64.wrap ((x0 : Int) + 256 * (x1 : Int)) = (x0 : Int) + 256 * (x1 : Int) := IntWalk.i64_in _ (by omega)
            cases hAA
            clear hI hpr hmg hz hs0 hoff hA1 hsx hlx
            go_wp2_with fail
            go_region_law (fail)
            all_goals
              go_wp2_with fail
              go_roundw
              case rel => exact ⟨k + 1, by omega, by go_num, HI2⟩
              case measure => simp [intOf]; omega
          · have q3 : decide (2 * (k : Int) < (l : Int)) = false := by have := HLL.out; simp; omega
            have hlx : (laidP bs)[k]? = some 0 := by
              unfold laidP
              rw [List.getElem?_append_right (by rw [said_len, HL.out]; omega), List.getElem?_replicate, if_pos (by rw [said_len, HL.out]; omega)]
            have HI2 : Hid (StR w (wr.setCell ⟨g, i * 124 + k, none⟩ (.int .i64 0)) g (midL L i bs (k + 1))) := Lib.hid ⟨by rw [← midL_succ HLEN.out hi HL.out hn (by omega) hlx]; exact hs0, hI.out.2.trans (Off.setc _ _ _ _)⟩
            clear hI hpr hmg hz hs0 hlx
            go_wp2_with fail
            go_roundw
            case rel => exact ⟨k + 1, by omega, by go_num, HI2⟩
            case measure => simp [intOf]; omega
        · obtain rfl : m = k := by omega
          have HI3 : Hid (StR w wr g (layL L (i : Int) bs)) := Lib.hid (by rw [← HEND.out]; exact hI.out)
          clear hI
          by_cases hm4 : m < 124
          · have q1 : decide ((m : Int) < 124) = true := by simp; omega
            have q2 : decide ((i : Int) * 124 + (m : Int) < 1024) = false := by simp; omega
            go_wp2_with fail
            go_ret
            exact ⟨rfl, HI3.out⟩
          · have q1 : decide ((m : Int) < 124) = false := by simp; omega
            go_wp2_with fail
            go_ret
            exact ⟨rfl, HI3.out⟩
    · have hd4 : decide ((l : Int) > 0) = true := by simp; omega
      obtain ⟨p0, hp0⟩ : ∃ p0, 2 * (n - 1) = p0 := ⟨_, rfl⟩
      obtain ⟨p1, hp1⟩ : ∃ p1, 2 * (n - 1) + 1 = p1 := ⟨_, rfl⟩
      rw [hp1] at c1
      rw [hp0] at c0
      have v1 : (l : Int) - 1 = (p1 : Int) := by omega
      have v2 : (l : Int) - 2 = (p0 : Int) := by omega
      have vl1 : (p1 : Int) < (l : Int) := by omega
      have vl0 : (p0 : Int) < (l : Int) := by omega
      have vb1 : p1 ≤ 248 := by omega
      have vb0 : p0 ≤ 248 := by omega
      obtain ⟨rfl, hy⟩ := hy
      have vy : ((y0 : Int) == 0) = false := by simp; omega
      clear h hb hl hA hne he hll ho hm h0 hp0 hp1 hy
      go_enter Try.func33, Try.ntmps33
      go_wp2_with fail
      go_loopw [8] (fun kv wr => ∃ k : Nat, k ≤ m ∧ kv = .int .i64 (k : Int) ∧ Hid (StR w wr g (midL L i bs k))) (fun kv _ => 124 - (intOf kv).toNat)
      case atStart => exact ⟨0, Nat.zero_le _, rfl, HR0⟩
      case round =>
        clear HR0
        obtain ⟨k, hk, rfl, hI⟩ := hrel
        by_cases hlt : k < m
        · have q1 : decide ((k : Int) < 124) = true := by simp; omega
          have q2 : decide ((i : Int) * 124 + (k : Int) < 1024) = true := by simp; omega
          have r1 : (0 : Int) ≤ (i : Int) * 124 + (k : Int) := by omega
          have r2 : ((i : Int) * 124 + (k : Int)).toNat = i * 124 + k := by omega
          have r3 : (i : Int) * 124 + (k : Int) < 1024 := by omega
          have hpr := hI.out.1
          have hmg : (midL L i bs k)[i * 124 + k]? = L[i * 124 + k]? := by
            rw [midL_get HLEN.out hi HL.out hn (by omega), if_neg (by omega)]
          obtain ⟨z, hz⟩ : ∃ z, L[i * 124 + k]? = some z := ⟨_, List.getElem?_eq_getElem (by rw [HLEN.out]; omega)⟩
          have k0 := hpr.cell (hmg.trans hz) (by omega)
          have f0 := hpr.blk.frozen (i * 124 + k)
          have hs0 : PR (wr.setCell ⟨g, i * 124 + k, none⟩ (.int .i64 0)) g ((midL L i bs k).set (i * 124 + k) 0) := hpr.set (i * 124 + k) 0 (by omega) (by omega)
          by_cases hkn : k < n
          · have q3 : decide (2 * (k : Int) < (l : Int)) = true := by have := HLL.out; simp; omega
            have hoff : Off (fun j => j = g) w (wr.setCell ⟨g, i * 124 + k, none⟩ (.int .i64 0)) := hI.out.2.trans (Off.setc _ _ _ _)
            have hA1 : Bytes (wr.setCell ⟨g, i * 124 + k, none⟩ (.int .i64 0)) (some ⟨b, off, none⟩) bs := HA.out.same hoff.size (fun p e hp => hoff.block _ hp (HN.out (by omega) p e))
            obtain ⟨bb, oo, x0, x1, hAA, _, hx0, hx1, hsx, d0, d1⟩ := said_cells hA1 HL.out hkn
            have hnb : bb ≠ g := HN.out (by omega) _ hAA
            have hlx : (laidP bs)[k]? = some (x0 + 256 * x1) := by
              unfold laidP
              rw [List.getElem?_append_left (by rw [said_len, HL.out]; omega)]; exact hsx
            have hx6 := said_lt bs hsx
            have k1 := hs0.cell (x := 0) (i := i * 124 + k) (by rw [List.getElem?_set_self (by rw [midL_len HLEN.out hi HL.out hn (by omega)]; omega)]) (by omega)
            have f1 := hs0.blk.frozen (i * 124 + k)
            have e0 : (2 * (k : Int)).toNat = 2 * k := by omega
            have e1 : (2 * (k : Int) + 1).toNat = 2 * k + 1 := by omega
            have g0 : (0 : Int) ≤ 2 * (k : Int) := by omega
            have g1 : (0 : Int) ≤ 2 * (k : Int) + 1 := by omega
            have l0 : 2 * (k : Int) < (l : Int) := by have := HLL.out; omega
            have l1 : 2 * (k : Int) + 1 < (l : Int) := by have := HLL.out; omega
            have HI2 : Hid (StR w ((wr.setCell ⟨g, i * 124 + k, none⟩ (.int .i64 0)).drew.setCell ⟨g, i * 124 + k, none⟩ (.int .i64 ((x0 : Int) + 256 * (x1 : Int)))) g (midL L i bs (k + 1))) := Lib.hid (by
              have hd0 : PR (wr.setCell ⟨g, i * 124 + k, none⟩ (.int .i64 0)).drew g ((midL L i bs k).set (i * 124 + k) 0) := ⟨hs0.blk, hs0.ok⟩
              have := hd0.set (i * 124 + k) (x0 + 256 * x1) (by omega) hx6
              rw [List.set_set, midL_succ HLEN.out hi HL.out hn (by omega) hlx] at this
              rw [show ((x0 + 256 * x1 : Nat) : Int) = (x0 : Int) + 256 * (x1 : Int) by omega] at this
              exact ⟨this, (hoff.trans (Off.drew _ _)).trans (Off.setc _ _ _ _)⟩)
            have w2 : IntKind.i64.wrap (2 * (k : Int)) = 2 * (k : Int) := IntWalk.i64_in _ (by omega)
            have w3 : IntKind.i64.wrap (2 * (k : Int) + 1) = 2 * (k : Int) + 1 := IntWalk.i64_in _ (by omega)
            have w4 : IntKind.i64.wrap ((i : Int) * 124) = (i : Int) * 124 := IntWalk.i64_in _ (by omega)
            have w5 : IntKind.i64.wrap ((i : Int) * 124 + (k : Int)) = (i : Int) * 124 + (k : Int) := IntWalk.i64_in _ (by omega)
            have w6 : IntKind.i64.wrap (x0 : Int) = (x0 : Int) := IntWalk.i64_in _ (by omega)
            have w7 : IntKind.i64.wrap (x1 : Int) = (x1 : Int) := IntWalk.i64_in _ (by omega)
            have w8 : IntKind.i64.wrap (256 * (x1 : Int)) = 256 * (x1 : Int) := IntWalk.i64_in _ (by omega)
            have w9 : IntKind.i64.wrap ((x0 : Int) + 256 * (x1 : Int)) = (x0 : Int) + 256 * (x1 : Int) := IntWalk.i64_in _ (by omega)
            cases hAA
            clear hI hpr hmg hz hs0 hoff hA1 hsx hlx
            go_wp2_with fail
            go_region_law (fail)
            all_goals
              go_wp2_with fail
              go_roundw
              case rel => exact ⟨k + 1, by omega, by go_num, HI2⟩
              case measure => simp [intOf]; omega
          · have q3 : decide (2 * (k : Int) < (l : Int)) = false := by have := HLL.out; simp; omega
            have hlx : (laidP bs)[k]? = some 0 := by
              unfold laidP
              rw [List.getElem?_append_right (by rw [said_len, HL.out]; omega), List.getElem?_replicate, if_pos (by rw [said_len, HL.out]; omega)]
            have HI2 : Hid (StR w (wr.setCell ⟨g, i * 124 + k, none⟩ (.int .i64 0)) g (midL L i bs (k + 1))) := Lib.hid ⟨by rw [← midL_succ HLEN.out hi HL.out hn (by omega) hlx]; exact hs0, hI.out.2.trans (Off.setc _ _ _ _)⟩
            clear hI hpr hmg hz hs0 hlx
            go_wp2_with fail
            go_roundw
            case rel => exact ⟨k + 1, by omega, by go_num, HI2⟩
            case measure => simp [intOf]; omega
        · obtain rfl : m = k := by omega
          have HI3 : Hid (StR w wr g (layL L (i : Int) bs)) := Lib.hid (by rw [← HEND.out]; exact hI.out)
          clear hI
          by_cases hm4 : m < 124
          · have q1 : decide ((m : Int) < 124) = true := by simp; omega
            have q2 : decide ((i : Int) * 124 + (m : Int) < 1024) = false := by simp; omega
            go_wp2_with fail
            go_ret
            exact ⟨rfl, HI3.out⟩
          · have q1 : decide ((m : Int) < 124) = false := by simp; omega
            go_wp2_with fail
            go_ret
            exact ⟨rfl, HI3.out⟩
  · rw [decide_eq_false ho] at hb ⊢
    have hd5 : decide ((i : Int) * 124 + (n : Int) > 1024) = true := by simp; omega
    have HR0 : Hid (StR w w g (layL L (i : Int) bs)) := Lib.hid (by
      have : layL L (i : Int) bs = L := by unfold layL; rw [hb]; rfl
      rw [this]; exact ⟨h, Off.refl _ _⟩)
    rcases hE with h0 | ⟨h0, b, off, y0, y1, rfl, c0, c1, hy | hy⟩
    · have hd4 : decide ((l : Int) > 0) = false := by simp; omega
      have hl0 : ¬ 0 < l := by omega
      clear h hb hl hA hne he hll ho h0
      go_enter Try.func33, Try.ntmps33
      go_wp2_with fail
      go_ret
      exact ⟨rfl, HR0.out⟩
    · have hd4 : decide ((l : Int) > 0) = true := by simp; omega
      obtain ⟨p0, hp0⟩ : ∃ p0, 2 * (n - 1) = p0 := ⟨_, rfl⟩
      obtain ⟨p1, hp1⟩ : ∃ p1, 2 * (n - 1) + 1 = p1 := ⟨_, rfl⟩
      rw [hp1] at c1
      rw [hp0] at c0
      have v1 : (l : Int) - 1 = (p1 : Int) := by omega
      have v2 : (l : Int) - 2 = (p0 : Int) := by omega
      have vl1 : (p1 : Int) < (l : Int) := by omega
      have vl0 : (p0 : Int) < (l : Int) := by omega
      have vb1 : p1 ≤ 248 := by omega
      have vb0 : p0 ≤ 248 := by omega
      have vy : ((y1 : Int) == 0) = false := by simp; omega
      clear h hb hl hA hne he hll ho h0 hp0 hp1 hy
      go_enter Try.func33, Try.ntmps33
      go_wp2_with fail
      go_ret
      exact ⟨rfl, HR0.out⟩
    · have hd4 : decide ((l : Int) > 0) = true := by simp; omega
      obtain ⟨p0, hp0⟩ : ∃ p0, 2 * (n - 1) = p0 := ⟨_, rfl⟩
      obtain ⟨p1, hp1⟩ : ∃ p1, 2 * (n - 1) + 1 = p1 := ⟨_, rfl⟩
      rw [hp1] at c1
      rw [hp0] at c0
      have v1 : (l : Int) - 1 = (p1 : Int) := by omega
      have v2 : (l : Int) - 2 = (p0 : Int) := by omega
      have vl1 : (p1 : Int) < (l : Int) := by omega
      have vl0 : (p0 : Int) < (l : Int) := by omega
      have vb1 : p1 ≤ 248 := by omega
      have vb0 : p0 ≤ 248 := by omega
      obtain ⟨rfl, hy⟩ := hy
      have vy : ((y0 : Int) == 0) = false := by simp; omega
      clear h hb hl hA hne he hll ho h0 hp0 hp1 hy
      go_enter Try.func33, Try.ntmps33
      go_wp2_with fail
      go_ret
      exact ⟨rfl, HR0.out⟩
end Go.Proofs.Ytcmaehilgeonjaa
