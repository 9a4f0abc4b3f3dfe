/- Open, walked. -/
import Derived.Test.YtlgoacpmacomnaaDoorB
import Derived.Laws.Cover3
namespace Go.Proofs.YtlgoacpmacomnaaDoor
open Go.RowKit Crc

theorem eq4 (a b c d e : Int) (w : World) : (Op.equalIn 10000 47 (.agg #[.int .u8 a, .int .u8 b, .int .u8 c, .int .u8 d]) (.agg #[.int .u8 a, .int .u8 e, .int .u8 c, .int .u8 d])).run Tryd.prog w = .ok (b == e) w := by
  have u3 := Tryd.underlying5
  have a3 := Tryd.isAgg5
  have z3 := Tryd.sizeOf5
  rw [show (10000 : Nat) = 9999 + 1 from rfl, Op.equalIn]
  simp only [Sem.run_bind, run_underlying Tryd.underlying47, Result.andThen_ok]
  simp only [Std.Legacy.Range.forIn_eq_forIn_range', Std.Legacy.Range.size, Nat.sub_zero, Nat.add_sub_cancel, Nat.div_one, List.range'_succ, List.range'_zero, List.forIn_cons, List.forIn_nil]
  go_simp
  by_cases h1 : b = e <;> simp [h1]

/-- What Open answers of some bytes. -/
def OpenTold (bs : List UInt8) (w : World) (e : Ending) (w' : World) : Prop :=
  ((∃ k body g, IsBlk bs k body ∧ e = .returned (.tuple #[.int .u8 (k : Int), .slice (some ⟨g, 0, none⟩) body.length body.length, .int .i64 0]) ∧ w.heap.size ≤ g ∧ Blk w' g 5 (row8 body)) ∨
    ((∀ k body, ¬ IsBlk bs k body) ∧ e = .returned (.tuple #[.int .u8 0, .slice none 0 0, .int .i64 8]))) ∧ Below w.heap.size w w'

theorem not_isBlk {bs : List UInt8} (h : ∀ n, ¬ Fits bs n) : ∀ k body, ¬ IsBlk bs k body := fun _ _ hb => h _ (isBlk_fits hb).1

theorem byte_at {w : World} {A : Option Addr} {bs : List UInt8} (h : Bytes w A bs) {i : Nat} (hi : i < bs.length) : ∃ b off, A = some ⟨b, off, none⟩ ∧ b < w.heap.size ∧ ∀ j, j < bs.length → w.cell? ⟨b, off + j, none⟩ = some (.int .u8 ((bs.getD j 0).toNat : Int)) := by
  obtain ⟨b, off, rfl, hb, hc⟩ := h.at_ (k := i) hi
  refine ⟨b, off, rfl, hb, fun j hj => ?_⟩
  have := hc j _ (List.getElem?_eq_getElem hj)
  simpa [List.getD, hj] using this

set_option maxRecDepth 20000 in
set_option maxHeartbeats 2000000 in
theorem open_any (A : Option Addr) (len cap : Nat) (bs : List UInt8) (w : World) (hlen : bs.length = len) (hA : Bytes w A bs) (hlm : len ≤ cap) (hT : Tab w) :
    Calls Tryd.prog 16 #[.slice A len cap] w (OpenTold bs w) := by
  by_cases h256 : len = 256
  · have hgl := get_okL A len cap 2 2 bs w hlen (by decide) (by omega) (by subst h256; decide) hA
    obtain ⟨b, off, rfl, hb, hc⟩ := byte_at hA (i := 0) (by omega)
    have hn := fieldOf_two bs (by omega)
    rw [hn, leN_two] at hgl
    obtain ⟨n, hnn⟩ : ∃ n, (bs[2]'(by omega)).toNat + 256 * (bs[3]'(by omega)).toNat = n := ⟨_, rfl⟩
    rw [hnn] at hgl
    have hn16 : n < 65536 := by rw [← hnn]; have := (bs[2]'(by omega)).toNat_lt; have := (bs[3]'(by omega)).toNat_lt; omega
    have hnd : n = (bs.getD 2 0).toNat + 256 * (bs.getD 3 0).toNat := by rw [← hnn]; simp [List.getD, show 2 < bs.length by omega, show 3 < bs.length by omega]
    have HN := Lib.hid hnd
    have HG := Lib.hid hgl
    have HC := Lib.hid hc
    have HL := Lib.hid hlen
    have HT := Lib.hid hT
    have HA := Lib.hid hA
    have HB := Lib.hid hb
    clear hgl hn hnn hnd hc hlen hT hA hb
    subst h256
    go_enter Tryd.func16, Tryd.ntmps16
    go_wp2_with fail
    refine HG.out.mono ?_
    rintro e w1 ⟨rfl, hb1⟩
    have HB1 := Lib.hid hb1
    clear HG hb1
    go_wp2_with fail
    have c0 : w1.cell? ⟨b, off, none⟩ = some (.int .u8 ((bs.getD 0 0).toNat : Int)) := (HB1.out.cell (p := ⟨b, off, none⟩) HB.out).trans (HC.out 0 (by rw [HL.out]; decide))
    have c1 : w1.cell? ⟨b, off + 1, none⟩ = some (.int .u8 ((bs.getD 1 0).toNat : Int)) := (HB1.out.cell (p := ⟨b, off + 1, none⟩) HB.out).trans (HC.out 1 (by rw [HL.out]; decide))
    have c2 : w1.cell? ⟨b, off + 2, none⟩ = some (.int .u8 ((bs.getD 2 0).toNat : Int)) := (HB1.out.cell (p := ⟨b, off + 2, none⟩) HB.out).trans (HC.out 2 (by rw [HL.out]; decide))
    have c3 : w1.cell? ⟨b, off + 3, none⟩ = some (.int .u8 ((bs.getD 3 0).toNat : Int)) := (HB1.out.cell (p := ⟨b, off + 3, none⟩) HB.out).trans (HC.out 3 (by rw [HL.out]; decide))
    have l0 := (bs.getD 0 0).toNat_lt
    have l2 := (bs.getD 2 0).toNat_lt
    have l3 := (bs.getD 3 0).toNat_lt
    have hnd := HN.out
    obtain ⟨x0, hx0⟩ : ∃ x, (bs.getD 0 0).toNat = x := ⟨_, rfl⟩
    obtain ⟨x1, hx1⟩ : ∃ x, (bs.getD 1 0).toNat = x := ⟨_, rfl⟩
    obtain ⟨x2, hx2⟩ : ∃ x, (bs.getD 2 0).toNat = x := ⟨_, rfl⟩
    obtain ⟨x3, hx3⟩ : ∃ x, (bs.getD 3 0).toNat = x := ⟨_, rfl⟩
    rw [hx0] at c0 l0
    rw [hx1] at c1
    rw [hx2] at c2 l2 hnd
    rw [hx3] at c3 l3 hnd
    have HX0 := Lib.hid hx0
    have HX1 := Lib.hid hx1
    have HND := Lib.hid hnd
    clear hx0 hx1 hx2 hx3 hnd
    by_cases k0 : x0 = 0
    · have HNO : Hid (∀ k body, ¬ IsBlk bs k body) := Lib.hid (not_isBlk fun m h => h.kind (UInt8.toNat_inj.1 (by rw [HX0.out, k0]; rfl)))
      subst k0
      clear c1 c2 c3
      go_quiet (fail)
      go_wp2_with fail
      go_ret3
      exact ⟨.inr ⟨HNO.out, rfl⟩, HB1.out.trans ⟨rfl, rfl, rfl, Nat.le_refl _, fun _ _ => rfl⟩⟩
    · have hk0 : ((x0 : Int) == 0) = false := by simpa using k0
      by_cases hn : 248 < n
      · have HNO : Hid (∀ k body, ¬ IsBlk bs k body) := Lib.hid (not_isBlk fun m h => by have := h.le; have := h.n_eq; have := HN.out; omega)
        have hd8 : decide ((248 : Int) < (n : Int)) = true := by simp; omega
        clear c1 c2 c3
        go_quiet (fail)
        go_wp2_with fail
        go_ret3
        exact ⟨.inr ⟨HNO.out, rfl⟩, HB1.out.trans ⟨rfl, rfl, rfl, Nat.le_refl _, fun _ _ => rfl⟩⟩
      · have hn' : decide ((248 : Int) < (n : Int)) = false := by simp; omega
        have h1 := head_any x0 n w1.drew l0 hn16
        rw [show (n : Int) % 256 = (x2 : Int) by have := HND.out; omega, show (n : Int) / 256 = (x3 : Int) by have := HND.out; omega] at h1
        have H1 := Lib.hid h1
        have C0 := Lib.hid c0
        have C1 := Lib.hid c1
        have C2 := Lib.hid c2
        have C3 := Lib.hid c3
        have hsz := HB1.out.size
        have HLT := Lib.hid (show b < w1.drew.heap.size from Nat.lt_of_lt_of_le HB.out HB1.out.size)
        have heq4 := fun W : World => eq4 x0 x1 x2 x3 0 W
        obtain ⟨v1, hv1⟩ : ∃ v, ((x1 : Int) == 0) = v := ⟨_, rfl⟩
        rw [hv1] at heq4
        have HV1 := Lib.hid hv1
        clear hv1
        have hat := fun W : World => run_arrayAt (P := Tryd.prog) (w := W) 47 5 4 (some ⟨b, off, none⟩) 256 cap Tryd.underlying47 (by decide)
        clear h1 c0 c1 c2 c3
        refine wp_region_held_drew (S := fun W => W.cell? ⟨b, off, none⟩ = some (.int .u8 (x0 : Int)) ∧ W.cell? ⟨b, off + 1, none⟩ = some (.int .u8 (x1 : Int)) ∧ W.cell? ⟨b, off + 2, none⟩ = some (.int .u8 (x2 : Int)) ∧ W.cell? ⟨b, off + 3, none⟩ = some (.int .u8 (x3 : Int))) (by kernel_rfl) ⟨C0.out, C1.out, C2.out, C3.out⟩ (fun hHeld => ?_)
        refine takeY 0 (some 22) rfl rfl (by kernel_rfl) (by kernel_rfl) (by kernel_rfl) (fun _ _ _ h => h) (by rfl) (v := _) (by (intro _ hSw; (try dsimp only at hSw); go_simp; try with_reducible rfl)) hHeld ?_
        simp only [Act.put, List.setIfInBounds_toArray, List.set_cons_zero, List.set_cons_succ]
        refine takeY 1 (some 23) rfl rfl (by kernel_rfl) (by kernel_rfl) (by kernel_rfl) (fun _ _ _ h => h) (by rfl) (v := _) (by (intro _ hSw; (try dsimp only at hSw); go_simp; try with_reducible rfl)) hHeld ?_
        simp only [Act.put, List.setIfInBounds_toArray, List.set_cons_zero, List.set_cons_succ]
        refine takeY 2 (some 24) rfl rfl (by kernel_rfl) (by kernel_rfl) (by kernel_rfl) (fun _ _ _ h => h) (by rfl) (v := _) (by (intro _ hSw; (try dsimp only at hSw); go_simp; try with_reducible rfl)) hHeld ?_
        simp only [Act.put, List.setIfInBounds_toArray, List.set_cons_zero, List.set_cons_succ]
        refine takeY 3 (some 25) rfl rfl (by kernel_rfl) (by kernel_rfl) (by kernel_rfl) (fun _ _ _ h => h) (by rfl) (v := _) (by (intro _ hSw; (try dsimp only at hSw); go_simp; try with_reducible rfl)) hHeld ?_
        simp only [Act.put, List.setIfInBounds_toArray, List.set_cons_zero, List.set_cons_succ]
        refine takeY 4 (some 26) rfl rfl (by kernel_rfl) (by kernel_rfl) (by kernel_rfl) (fun _ _ _ h => h) (by rfl) (v := _) (by (intro _ hSw; (try dsimp only at hSw); go_simp; try with_reducible rfl)) hHeld ?_
        simp only [Act.put, List.setIfInBounds_toArray, List.set_cons_zero, List.set_cons_succ]
        refine takeY 5 (some 27) rfl rfl (by kernel_rfl) (by kernel_rfl) (by kernel_rfl) (fun _ _ _ h => h) (by rfl) (v := _) (by (intro _ hSw; (try dsimp only at hSw); go_simp; try with_reducible rfl)) hHeld ?_
        simp only [Act.put, List.setIfInBounds_toArray, List.set_cons_zero, List.set_cons_succ]
        refine takeY 6 (some 28) rfl rfl (by kernel_rfl) (by kernel_rfl) (by kernel_rfl) (fun _ _ _ h => h) (by rfl) (v := _) (by (intro _ hSw; (try dsimp only at hSw); go_simp; try with_reducible rfl)) hHeld ?_
        simp only [Act.put, List.setIfInBounds_toArray, List.set_cons_zero, List.set_cons_succ]
        refine takeY 7 (some 29) rfl rfl (by kernel_rfl) (by kernel_rfl) (by kernel_rfl) (fun _ _ _ h => h) (by rfl) (v := _) (by (intro _ hSw; (try dsimp only at hSw); go_simp; try with_reducible rfl)) hHeld ?_
        simp only [Act.put, List.setIfInBounds_toArray, List.set_cons_zero, List.set_cons_succ]
        refine takeY 8 (some 30) rfl rfl (by kernel_rfl) (by kernel_rfl) (by kernel_rfl) (fun _ _ _ h => h) (by rfl) (v := _) (by (intro _ hSw; (try dsimp only at hSw); go_simp; try with_reducible rfl)) hHeld ?_
        simp only [Act.put, List.setIfInBounds_toArray, List.set_cons_zero, List.set_cons_succ]
        refine takeY 9 (some 31) rfl rfl (by kernel_rfl) (by kernel_rfl) (by kernel_rfl) (fun _ _ _ h => h) (by rfl) (v := _) (by (intro _ hSw; (try dsimp only at hSw); go_simp; try with_reducible rfl)) hHeld ?_
        simp only [Act.put, List.setIfInBounds_toArray, List.set_cons_zero, List.set_cons_succ]
        refine takeY 10 (some 32) rfl rfl (by kernel_rfl) (by kernel_rfl) (by kernel_rfl) (fun _ _ _ h => h) (by rfl) (v := _) (by (intro _ hSw; (try dsimp only at hSw); go_simp; try with_reducible rfl)) hHeld ?_
        simp only [Act.put, List.setIfInBounds_toArray, List.set_cons_zero, List.set_cons_succ]
        refine takeY 11 (some 33) rfl rfl (by kernel_rfl) (by kernel_rfl) (by kernel_rfl) (fun _ _ _ h => h) (by rfl) (v := _) (by (intro _ hSw; (try dsimp only at hSw); go_simp; try with_reducible rfl)) hHeld ?_
        simp only [Act.put, List.setIfInBounds_toArray, List.set_cons_zero, List.set_cons_succ]
        refine takeY 12 (some 34) rfl rfl (by kernel_rfl) (by kernel_rfl) (by kernel_rfl) (fun _ _ _ h => h) (by rfl) (v := _) (by (intro _ hSw; (try dsimp only at hSw); go_simp; try with_reducible rfl)) hHeld ?_
        simp only [Act.put, List.setIfInBounds_toArray, List.set_cons_zero, List.set_cons_succ]
        refine takeY 13 (some 35) rfl rfl (by kernel_rfl) (by kernel_rfl) (by kernel_rfl) (fun _ _ _ h => h) (by rfl) (v := _) (by (intro _ hSw; (try dsimp only at hSw); go_simp; try with_reducible rfl)) hHeld ?_
        simp only [Act.put, List.setIfInBounds_toArray, List.set_cons_zero, List.set_cons_succ]
        refine takeY 14 (some 36) rfl rfl (by kernel_rfl) (by kernel_rfl) (by kernel_rfl) (fun _ _ _ h => h) (by rfl) (v := _) (by (intro _ hSw; (try dsimp only at hSw); go_simp; try with_reducible rfl)) hHeld ?_
        simp only [Act.put, List.setIfInBounds_toArray, List.set_cons_zero, List.set_cons_succ]
        refine takeY 15 (some 37) rfl rfl (by kernel_rfl) (by kernel_rfl) (by kernel_rfl) (fun _ _ _ h => h) (by rfl) (v := _) (by (intro _ hSw; (try dsimp only at hSw); go_simp; try with_reducible rfl)) hHeld ?_
        simp only [Act.put, List.setIfInBounds_toArray, List.set_cons_zero, List.set_cons_succ]
        refine wpAnyH_ready (rs := [16]) (by kernel_rfl) (by simp) ?_
        refine AllReadyH.cons rfl (fun K hK => ?_) AllReadyH.nil
        clear hHeld
        go_simp
        go_wp2_with (go_at_call 23; refine Calls.mono H1.out ?_; rintro e w2 ⟨rfl, hb2⟩)
        refine hK.out _ _ ⟨(hb2.cell (p := ⟨b, off, none⟩) HLT.out).trans C0.out, (hb2.cell (p := ⟨b, off + 1, none⟩) HLT.out).trans C1.out, (hb2.cell (p := ⟨b, off + 2, none⟩) HLT.out).trans C2.out, (hb2.cell (p := ⟨b, off + 3, none⟩) HLT.out).trans C3.out⟩ (fun hHeld => ?_)
        clear hK K
        refine takeY 17 (some 39) rfl rfl (by kernel_rfl) (by kernel_rfl) (by kernel_rfl) (fun _ _ _ h => h) (by rfl) (v := _) (by (intro _ hSw; (try dsimp only at hSw); go_simp; try with_reducible rfl)) hHeld ?_
        simp only [Act.put, List.setIfInBounds_toArray, List.set_cons_zero, List.set_cons_succ]
        refine takeY 18 (some 40) rfl rfl (by kernel_rfl) (by kernel_rfl) (by kernel_rfl) (fun _ _ _ h => h) (by rfl) (v := _) (by (intro _ hSw; (try dsimp only at hSw); go_simp; try with_reducible rfl)) hHeld ?_
        simp only [Act.put, List.setIfInBounds_toArray, List.set_cons_zero, List.set_cons_succ]
        refine wpAnyH_done (by kernel_rfl) ?_ _
        clear hHeld heq4 hat
        have HB2 := Lib.hid (HB1.out.drew.trans (hb2.mono (show w.heap.size ≤ w1.drew.heap.size from hsz)))
        have hn248 : n ≤ 248 := by omega
        clear hb2 H1 C0 C1 C2 C3 HLT HB1 hn
        cases v1
        · have HNO : Hid (∀ k body, ¬ IsBlk bs k body) := Lib.hid (not_isBlk fun m h => by
            have h1 := HX1.out
            rw [h.zero] at h1
            have h2 := HV1.out
            rw [← h1] at h2
            exact absurd h2 (by decide))
          go_wp2_with fail
          go_ret3
          exact ⟨.inr ⟨HNO.out, rfl⟩, HB2.out⟩
        · have hx1 : bs.getD 1 0 = 0 := UInt8.toNat_inj.1 (by rw [HX1.out]; have := HV1.out; simp at this; subst this; rfl)
          have HZ := Lib.hid hx1
          clear hx1
          go_wp2_with fail
          go_loop [9, 46] (fun _ i => ∃ k : Nat, k ≤ 248 - n ∧ i = .int .i64 k ∧ Hid (∀ j, j < k → bs.getD (4 + n + j) 0 = 0)) (fun _ i => 248 - n - (intOf i).toNat)
          case atStart => exact ⟨0, Nat.zero_le _, rfl, Lib.hid (fun j hj => by omega)⟩
          case round =>
            obtain ⟨k, hk, rfl, hz⟩ := hrel
            by_cases hlt : k < 248 - n
            · have hcell := (HB2.out.cell (p := ⟨b, off + (4 + n + k), none⟩) HB.out).trans (HC.out (4 + n + k) (by rw [HL.out]; omega))
              by_cases hzero : bs.getD (4 + n + k) 0 = 0
              · rw [hzero] at hcell
                have HZ2 : Hid (∀ j, j < k + 1 → bs.getD (4 + n + j) 0 = 0) := Lib.hid (fun j hj => by
                  by_cases e : j = k
                  · subst e; exact hzero
                  · exact hz.out j (by omega))
                clear hzero hz
                have hc' : w2.cell? ⟨b, off + (4 + n) + k, none⟩ = some (.int .u8 0) := by rw [show off + (4 + n) + k = off + (4 + n + k) by omega]; exact hcell
                clear hcell
                go_wp2_with fail
                go_round
                case rel => exact ⟨k + 1, by omega, by go_num, HZ2⟩
                case measure => simp [intOf]; omega
              · have HNO : Hid (∀ k body, ¬ IsBlk bs k body) := Lib.hid (not_isBlk fun m h => by
                  have hm : m = n := h.n_eq.trans HN.out.symm
                  exact hzero (h.fill (4 + n + k) (by omega) (by omega)))
                obtain ⟨y, hy⟩ : ∃ y, (bs.getD (4 + n + k) 0).toNat = y := ⟨_, rfl⟩
                rw [hy] at hcell
                have hy0 : ((y : Int) != 0) = true := by
                  have : y ≠ 0 := fun e => hzero (UInt8.toNat_inj.1 (by rw [hy, e]; rfl))
                  simp; omega
                have hc' : w2.cell? ⟨b, off + (4 + n) + k, none⟩ = some (.int .u8 (y : Int)) := by rw [show off + (4 + n) + k = off + (4 + n + k) by omega]; exact hcell
                clear hcell hzero hy hz
                go_wp2_with fail
                go_ret3
                exact ⟨.inr ⟨HNO.out, rfl⟩, HB2.out⟩
            · obtain rfl : k = 248 - n := by omega
              have hA2 := HA.out.below HB2.out
              have hT2 := HT.out.below HB2.out
              have hg := get_okL (some ⟨b, off, none⟩) 256 cap 252 4 bs w2 HL.out (by decide) (by decide) (by decide) hA2
              have hf4 : (fieldOf bs 252 4).length = 4 := by simp [fieldOf, HL.out]
              have hs32 := leN_lt (fieldOf bs 252 4)
              rw [hf4] at hs32
              obtain ⟨s, hs⟩ : ∃ s, leN (fieldOf bs 252 4) = s := ⟨_, rfl⟩
              rw [hs] at hg hs32
              have hs32' : s < 4294967296 := hs32
              have hgw : ∀ w3, Below w2.heap.size w2 w3 → Bytes w3 (some ⟨b, off, none⟩) bs ∧ Tab w3 := fun w3 h => ⟨hA2.below h, hT2.below h⟩
              have HG := Lib.hid hg
              have HGW := Lib.hid hgw
              have HSE := Lib.hid hs
              clear hg hgw hA2 hT2 hf4 hs hs32
              go_wp2_with fail
              refine HG.out.mono ?_
              rintro e w3 ⟨rfl, hb3⟩
              obtain ⟨hA3, hT3⟩ := HGW.out w3 hb3
              have HB3 := Lib.hid (HB2.out.trans (hb3.mono HB2.out.size))
              have htk : (bs.take 252).length = 252 := by simp [HL.out]
              have hby : Bytes w3 (some ⟨b, off, none⟩) (bs.take 252) := fun k c hk => hA3 k c (by
                have hk' := (List.getElem?_eq_some_iff.1 hk).1
                rw [htk] at hk'
                rwa [List.getElem?_take_of_lt hk'] at hk)
              have hsum := sum_anyL (some ⟨b, off, none⟩) 252 cap (bs.take 252) w3 htk hT3 hby (by decide)
              obtain ⟨u, hu⟩ : ∃ u, sumFrom 0 (bs.take 252) = u := ⟨_, rfl⟩
              rw [hu] at hsum
              have HSUM := Lib.hid hsum
              have HU := Lib.hid hu
              have HA3 := Lib.hid hA3
              clear hsum hu hby hb3 HG hA3 hT3 htk
              by_cases hsu : s = u
              · have hne : ((s : Int) != (u : Int)) = false := by simp; omega
                have hfits : Fits bs n := ⟨HL.out, fun e => k0 (by rw [← HX0.out, e]; rfl), HZ.out, HN.out, hn248, fun i h1 h2 => by
                  have := hz.out (i - (4 + n)) (by omega)
                  rwa [show 4 + n + (i - (4 + n)) = i by omega] at this, by rw [HSE.out, HU.out, hsu]⟩
                have hcut := cut_okL (some ⟨b, off, none⟩) 256 cap 4 n bs w3 HL.out (by omega) (by decide) HA3.out
                obtain ⟨hblk, hbl⟩ := fits_isBlk hfits
                rw [HX0.out] at hblk
                obtain ⟨body, hbody⟩ : ∃ x, fieldOf bs 4 n = x := ⟨_, rfl⟩
                rw [hbody] at hblk hbl hcut
                have HCUT := Lib.hid hcut
                have HBLK := Lib.hid hblk
                have HBL := Lib.hid hbl
                have HLT := Lib.hid HB3.out.size
                have c0 : ∀ w4, Below w3.heap.size w3 w4 → w4.cell? ⟨b, off, none⟩ = some (.int .u8 (x0 : Int)) := fun w4 h4 => (h4.cell (p := ⟨b, off, none⟩) (Nat.lt_of_lt_of_le HB.out HB3.out.size)).trans ((HB3.out.cell (p := ⟨b, off, none⟩) HB.out).trans (by rw [← HX0.out]; exact HC.out 0 (by rw [HL.out]; decide)))
                have C0 := Lib.hid c0
                clear hcut hblk hbl hbody hfits hz hsu c0
                go_wp2_with fail
                refine HSUM.out.mono ?_
                rintro e w' ⟨rfl, rfl⟩
                go_wp2_with fail
                refine HCUT.out.mono ?_
                rintro e w4 ⟨rfl, hR4, hb4⟩
                have HR4 := Lib.hid hR4
                have HB4 := Lib.hid (HB3.out.trans (hb4.mono HB3.out.size))
                have c0 := C0.out w4 hb4
                clear HCUT hR4 hb4 C0
                go_wp2_with fail
                go_ret3
                exact ⟨.inl ⟨x0, body, _, HBLK.out, by rw [HBL.out]; rfl, HLT.out, HR4.out⟩, HB4.out⟩
              · have hne : ((s : Int) != (u : Int)) = true := by simp; omega
                have HNO : Hid (∀ k body, ¬ IsBlk bs k body) := Lib.hid (not_isBlk fun m h => hsu (by rw [← HSE.out, ← HU.out]; exact h.sum))
                clear hsu hz
                go_wp2_with fail
                refine HSUM.out.mono ?_
                rintro e w' ⟨rfl, rfl⟩
                go_wp2_with fail
                go_ret3
                exact ⟨.inr ⟨HNO.out, rfl⟩, HB3.out⟩
  · have hd : decide ((len : Int) = 256) = false := by simp; omega
    have HN := Lib.hid (not_isBlk (bs := bs) fun n h => h256 (by rw [← hlen]; exact h.len))
    have hne : ((len : Int) != 256) = true := by simp; omega
    clear hA hT
    go_enter Tryd.func16, Tryd.ntmps16
    go_wp2
    go_ret3
    exact ⟨.inr ⟨HN.out, rfl⟩, Below.refl _ _⟩

end Go.Proofs.YtlgoacpmacomnaaDoor
