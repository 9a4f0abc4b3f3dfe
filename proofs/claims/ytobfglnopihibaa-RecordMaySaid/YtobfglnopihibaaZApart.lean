/- Apart. -/
import Derived.Test.YtobfglnopihibaaZt
namespace Go.Proofs.Ytobfglnopihibaa
open Go.RowKit

set_option maxRecDepth 20000 in
set_option maxHeartbeats 2000000 in
theorem apart_any (ga n c B : Nat) (its : List Itm) (w : World) (hn : its.length = n) (hn3 : n ≤ 256) (hn1 : 0 < n) (hh : Homes ga its) (hB : B ≤ w.heap.size) (hga : ga < w.heap.size)
    (h1 : ∀ (j : Nat) (it : Itm), its[j]? = some it → w.cell? ⟨ga, j, none⟩ = some (.slice it.A it.len it.cap)) (h2 : ∀ (j : Nat) (it : Itm), its[j]? = some it → ItOk w B it) :
    Calls Try.prog 16 #[.slice (some ⟨ga, 0, none⟩) n c] w fun e w' => e = .returned (.bool true) ∧ Below B w w' := by
  have HO := Lib.hid (Outer.start (B := B) h1 h2 hga (fun _ => (0, 0)))
  have HH := Lib.hid hh
  have HN := Lib.hid hn
  clear h1 h2 hh hn
  go_enter Try.func16, Try.ntmps16
  go_wp2_with fail
  go_loopw [3, 4, 5, 6] (fun l x _ _ wr => ∃ (i : Nat) (ms : Nat → Nat × Nat), i ≤ n ∧ x = .int .i64 i ∧ Hid (Outer w B ga its i l ms wr)) (fun _ x _ _ _ => n - (intOf x).toNat)
  case atStart => exact ⟨0, _, Nat.zero_le _, rfl, HO⟩
  case round =>
    clear HO
    obtain ⟨i, ms, hi, rfl, hout⟩ := hrel
    obtain ⟨w0, rfl⟩ : ∃ w0, w0 = wr := ⟨_, rfl⟩
    by_cases hin : i < n
    · have hid : decide ((i : Int) < (n : Int)) = true := by simp; omega
      have hin2 : (i : Int) < (n : Int) := by omega
      obtain ⟨it, hit⟩ : ∃ it, its[i]? = some it := ⟨its[i]'(by rw [HN.out]; exact hin), List.getElem?_eq_getElem (by rw [HN.out]; exact hin)⟩
      have HIT := Lib.hid hit
      have hok := hout.out.items i it hit
      have hce := hout.out.list i it hit
      have hsh := HH.out.short i it hit
      obtain ⟨A, len, cap, cs⟩ := it
      dsimp only at hce hsh
      obtain ⟨s, hs⟩ : ∃ s, str cs = s := ⟨_, rfl⟩
      have HS := Lib.hid hs
      have HCONV : Hid (∀ W, Below w0.heap.size w0 W → W.cell? ⟨ga, i, none⟩ = some (.slice A len cap) ∧ (convert 28 9 (.slice A len cap)).run Try.prog W = .ok (.string s) W) := Lib.hid (fun W hW => by
        refine ⟨(hW.cell (p := ⟨ga, i, none⟩) (World.block_lt_of_cell? w0 _ hce)).trans hce, ?_⟩
        rw [← hs]
        exact run_str8L W A len cap cs hok.long (hok.bytes.below hW))
      have HOK := Lib.hid hok
      have HOUT := Lib.hid hout.out
      have HR : Hid (Below w0.heap.size w0 w0.drew) := Lib.hid ((Below.refl _ w0).drew)
      clear hit hok hce hs hout
      go_wp2_with fail
      refine wp_region_held_drew (S := fun W => W.cell? ⟨ga, i, none⟩ = some (.slice A len cap) ∧ (convert 28 9 (.slice A len cap)).run Try.prog W = .ok (.string s) W) (by kernel_rfl) (HCONV.out _ HR.out) (fun hHeld => ?_)
      refine takeY 0 (some 16) rfl rfl (by kernel_rfl) (by kernel_rfl) (by kernel_rfl) (fun _ _ _ h => h) (by rfl) (v := _) (by (intro _ hSw; (try dsimp only at hSw); go_simp; try with_reducible rfl)) hHeld ?_
      simp only [Act.put, List.setIfInBounds_toArray, List.set_cons_zero, List.set_cons_succ]
      refine takeY 1 (some 17) rfl rfl (by kernel_rfl) (by kernel_rfl) (by kernel_rfl) (fun _ _ _ h => h) (by rfl) (v := _) (by (intro _ hSw; (try dsimp only at hSw); go_simp; try with_reducible rfl)) hHeld ?_
      simp only [Act.put, List.setIfInBounds_toArray, List.set_cons_zero, List.set_cons_succ]
      refine takeY 2 (some 18) rfl rfl (by kernel_rfl) (by kernel_rfl) (by kernel_rfl) (fun _ _ _ h => h) (by rfl) (v := _) (by (intro _ hSw; (try dsimp only at hSw); go_simp; try with_reducible rfl)) hHeld ?_
      simp only [Act.put, List.setIfInBounds_toArray, List.set_cons_zero, List.set_cons_succ]
      refine takeY 3 (some 19) rfl rfl (by kernel_rfl) (by kernel_rfl) (by kernel_rfl) (fun _ _ _ h => h) (by rfl) (v := _) (by (intro _ hSw; (try dsimp only at hSw); go_simp; try with_reducible rfl)) hHeld ?_
      simp only [Act.put, List.setIfInBounds_toArray, List.set_cons_zero, List.set_cons_succ]
      refine takeY 4 (some 20) rfl rfl (by kernel_rfl) (by kernel_rfl) (by kernel_rfl) (fun _ _ _ h => h) (by rfl) (v := _) (by (intro _ hSw; (try dsimp only at hSw); go_simp; try with_reducible rfl)) hHeld ?_
      simp only [Act.put, List.setIfInBounds_toArray, List.set_cons_zero, List.set_cons_succ]
      refine takeY 5 (some 21) rfl rfl (by kernel_rfl) (by kernel_rfl) (by kernel_rfl) (fun _ _ _ h => h) (by rfl) (v := _) (by (intro _ hSw; (try dsimp only at hSw); go_simp; try with_reducible rfl)) hHeld ?_
      simp only [Act.put, List.setIfInBounds_toArray, List.set_cons_zero, List.set_cons_succ]
      refine takeY 6 (some 22) rfl rfl (by kernel_rfl) (by kernel_rfl) (by kernel_rfl) (fun _ _ _ h => h) (by rfl) (v := _) (by (intro _ hSw; (try dsimp only at hSw); go_simp; try with_reducible rfl)) hHeld ?_
      simp only [Act.put, List.setIfInBounds_toArray, List.set_cons_zero, List.set_cons_succ]
      refine takeY 7 (some 23) rfl rfl (by kernel_rfl) (by kernel_rfl) (by kernel_rfl) (fun _ _ _ h => h) (by rfl) (v := _) (by (intro _ hSw; (try dsimp only at hSw); go_simp; try with_reducible rfl)) hHeld ?_
      simp only [Act.put, List.setIfInBounds_toArray, List.set_cons_zero, List.set_cons_succ]
      refine takeY 8 (some 24) rfl rfl (by kernel_rfl) (by kernel_rfl) (by kernel_rfl) (fun _ _ _ h => h) (by rfl) (v := _) (by (intro _ hSw; (try dsimp only at hSw); go_simp; try with_reducible rfl)) hHeld ?_
      simp only [Act.put, List.setIfInBounds_toArray, List.set_cons_zero, List.set_cons_succ]
      refine takeY 9 (some 25) rfl rfl (by kernel_rfl) (by kernel_rfl) (by kernel_rfl) (fun _ _ _ h => h) (by rfl) (v := _) (by (intro _ hSw; (try dsimp only at hSw); go_simp; try with_reducible rfl)) hHeld ?_
      simp only [Act.put, List.setIfInBounds_toArray, List.set_cons_zero, List.set_cons_succ]
      refine wpAnyH_ready (rs := [10]) (by kernel_rfl) (by simp) ?_
      refine AllReadyH.cons rfl (fun K hK => ?_) AllReadyH.nil
      go_simp
      refine hK.out _ _ (HCONV.out _ ((Below.refl _ w0).drew.alloc (Nat.le_refl _) _)) (fun hHeld => ?_)
      clear hK K
      refine wpAnyH_ready (rs := [11]) (by kernel_rfl) (by simp) ?_
      refine AllReadyH.cons rfl (fun K hK => ?_) AllReadyH.nil
      go_simp
      refine hK.out _ _ (HCONV.out _ (((Below.refl _ w0).alloc (Nat.le_refl _) _).drew)) (fun hHeld => ?_)
      clear hK K
      refine wpAnyH_done (by kernel_rfl) ?_ _
      clear hHeld HCONV HR
      obtain ⟨wa, hwa⟩ : ∃ wa, (w0.alloc (.cells #[.slice A len cap, .string s, .slice none 0 0] 52)).drew = wa := ⟨_, rfl⟩
      have hblk : Blk wa w0.heap.size 52 #[.slice A len cap, .string s, .slice none 0 0] := by rw [← hwa]; exact (Blk.new w0 _ _).drew
      have hba : Below w0.heap.size w0 wa := by rw [← hwa]; exact ((Below.refl _ w0).alloc (Nat.le_refl _) _).drew
      rw [hwa]
      have hc0 : wa.cell? ⟨w0.heap.size, 0, none⟩ = some (.slice A len cap) := hblk.cell 0
      have hc2 : wa.cell? ⟨w0.heap.size, 2, none⟩ = some (.slice none 0 0) := hblk.cell 2
      have hf2 := hblk.frozen 2
      have HIN := Lib.hid (Inner.start (s := s) (x := UInt8.ofNat i) (HOK.out) (Nat.le_trans hB HOUT.out.below.size) (hblk.set_ 2 (.slice A len cap)) (hba.setCell (p := ⟨w0.heap.size, 2, none⟩) (Nat.le_refl _) _))
      have HLT : Hid (∀ g, (Itm.mk A len cap cs).home = some g → g < w0.heap.size) := Lib.hid (fun g hg => (HOK.out.home_lt hg).1)
      have HBR := Lib.hid (Nat.le_trans hB HOUT.out.below.size)
      obtain ⟨X, hX⟩ : ∃ X, w0.heap.size = X := ⟨_, rfl⟩
      have HX := Lib.hid hX
      rw [hX] at hc0 hc2 hf2
      rw [hX]
      have HIN2 : Hid (Inner w0 B ⟨A, len, cap, cs⟩ s (UInt8.ofNat i) 0 (.slice A len cap) (wa.setCell ⟨X, 2, none⟩ (.slice A len cap))) := Lib.hid (by rw [← hX]; exact HIN.out)
      clear HIN hblk hba hwa hX
      go_wp2_with fail
      clear hc0 hc2 hf2
      go_loopw [6] (fun x wr => ∃ (k : Nat) (v : Value), k ≤ 10 ∧ x = .int .i64 k ∧ Hid (Inner w0 B ⟨A, len, cap, cs⟩ s (UInt8.ofNat i) k v wr)) (fun x _ => 10 - (intOf x).toNat)
      case atStart => exact ⟨0, _, by omega, rfl, HIN2⟩
      case round =>
        clear HIN2
        obtain ⟨k, v, hk, rfl, hinn⟩ := hrel
        obtain ⟨A', c', rfl⟩ := hinn.out.mv.shape
        have hb1 := hinn.out.blk
        rw [HX.out] at hb1
        by_cases hk10 : k < 10
        · obtain ⟨g, c1, w1, hrun, hR, hor, hfr, hold, hbel⟩ := mv_app hinn.out.mv (UInt8.ofNat i) (by dsimp only; omega)
          have hbx : bv (UInt8.ofNat i) = .int .u8 (i : Int) := by unfold bv; rw [UInt8.toNat_ofNat', Nat.mod_eq_of_lt (by omega)]
          rw [hbx] at hrun
          dsimp only at hrun
          have hfar := hinn.out.far HLT.out
          have hb2 : Blk w1 X 52 #[.slice A len cap, .string s, .slice A' (len + k) c'] := by
            refine (hfr X hb1.lt (by rw [← HX.out]; exact hfar)).trans hb1
          have hn := hinn.out.step HBR.out HLT.out g c1 hR hor hfr hold hbel
          rw [HX.out] at hn
          dsimp only at hn
          have HN2 := Lib.hid hn
          have HRUN := Lib.hid hrun
          have hc2 : wr.cell? ⟨X, 2, none⟩ = some (.slice A' (len + k) c') := hb1.cell 2
          have hd2 : w1.cell? ⟨X, 2, none⟩ = some (.slice A' (len + k) c') := hb2.cell 2
          have hf2 := hb2.frozen 2
          have hkd : (k : Int) < 10 := by omega
          clear hrun hR hor hfr hold hbel hbx hfar hb2 hn hinn hb1
          go_wp2_with (at_builtin; refine wpList_app rfl _ _ 28 rfl _ _ _ _ rfl rfl HRUN.out ?_; clear HRUN)
          go_roundw
          case rel => exact ⟨k + 1, _, by omega, by go_num, HN2⟩
          case measure => simp [intOf]; omega
        · obtain rfl : k = 10 := by omega
          have hkd : ¬ ((10 : Nat) : Int) < 10 := by omega
          obtain ⟨g, hA', hRg⟩ : ∃ g, A' = some ⟨g, 0, none⟩ ∧ Rw wr g (len + 10) c' (cs ++ List.replicate 10 (UInt8.ofNat i)) := by
            rcases hinn.out.mv with ⟨e, _⟩ | ⟨g, c2, e, hR⟩
            · injection e with _ e _; omega
            · injection e with e1 e2 e3; subst e3; exact ⟨g, e1, hR⟩
          subst hA'
          have hof := HOUT.out.frame HH.out HIT.out hinn.out.below.size (HOUT.out.below.trans hinn.out.below) hinn.out.fr hinn.out.ok
          have hal : ∀ q, q < wr.heap.size → (wr.alloc (.cells #[.slice A len cap, .string s, .slice (some ⟨g, 0, none⟩) (len + 10) c'] 52)).heap[q]? = wr.heap[q]? := fun q hq => Below.heap_alloc wr _ q hq
          have hog := hof.frame HH.out HIT.out (w' := wr.alloc (.cells #[.slice A len cap, .string s, .slice (some ⟨g, 0, none⟩) (len + 10) c'] 52)) (by simp) (hof.below.alloc (Nat.le_trans hB hof.below.size) _) (fun q hq _ => hal q hq) (hinn.out.ok.frame (by simp) (fun q hq _ => hal q hq))
          obtain ⟨xs, hown, _⟩ := hog.row
          obtain ⟨i0, hi0, hz0, hz1, hz2⟩ := info_parts Try.infoH
          obtain ⟨v', w', hrun, hown', hgr, _, hat⟩ := run_append_own_at (P := Try.prog) (wr.alloc (.cells #[.slice A len cap, .string s, .slice (some ⟨g, 0, none⟩) (len + 10) c'] 52)) w.heap.size 50 50 52 i0 _ 3 64 Try.underlying50 hi0 hz0 hz1 hz2 rfl (by decide) _ i xs hown ⟨wr.heap.size, 0, none⟩ 1 1 [.slice A len cap, .string s, .slice (some ⟨g, 0, none⟩) (len + 10) c'] rfl
            (fun j u hu => by
              rw [Addr.add_lit, Nat.zero_add]
              have := (Blk.new wr 52 #[.slice A len cap, .string s, .slice (some ⟨g, 0, none⟩) (len + 10) c']).cell j
              rw [this]
              rw [← List.getElem?_toArray] at hu
              exact hu)
            (fun u hu => by simp at hu; rcases hu with rfl | rfl | rfl <;> rfl) (by unfold maxLen; omega) (by omega) (Nat.le_trans hof.below.size (by simp))
          have hgX : w0.heap.size ≤ g ∨ (Itm.mk A len cap cs).home = some g := by
            rcases hinn.out.own g c' rfl with e | e
            · exact .inr e.1
            · exact .inl (by omega)
          have hst := hog.step HIT.out g c' (hRg.frame (by simp) (hal g hRg.lt)) (by
              rcases hgX with e | e
              · exact .inr (Nat.le_trans HOUT.out.below.size e)
              · exact .inl e) (fun j hj e => by
              obtain ⟨jt, hjt⟩ : ∃ jt, its[j]? = some jt := ⟨its[j]'(by rw [HN.out]; omega), List.getElem?_eq_getElem (by rw [HN.out]; omega)⟩
              obtain ⟨m1, m2⟩ := HOUT.out.more j jt hj hjt
              rcases hgX with e' | e'
              · have := m1.lt; omega
              · rcases m2 with m2 | m2
                · exact HH.out.two j i jt _ g (by omega) hjt HIT.out (by rw [← e]; exact m2) e'
                · have := HOUT.out.old i _ g HIT.out e'; omega) (fun e => by
              obtain ⟨ys, hy, _⟩ := HOUT.out.row
              have h1 := own_at hy e
              rcases hgX with e' | e'
              · omega
              · have := HOUT.out.old i _ g HIT.out e'; omega) hB (fun ys hy => by
              rw [own_uniq hy hown, HS.out]; exact hown') hgr (hat.imp id fun e => ⟨_, e, Nat.le_refl _⟩)
          have hb1' := hb1
          have hc0 : wr.cell? ⟨X, 0, none⟩ = some (.slice A len cap) := hb1.cell 0
          have hc1 : wr.cell? ⟨X, 1, none⟩ = some (.string s) := hb1.cell 1
          have hc2 : wr.cell? ⟨X, 2, none⟩ = some (.slice (some ⟨g, 0, none⟩) (len + 10) c') := hb1.cell 2
          have HST := Lib.hid hst
          have HRUN := Lib.hid hrun
          clear hof hal hog hown hown' hgr hat hgX hst hrun hb1' hb1 hinn hRg hi0 hz0 hz1 hz2
          go_wp2_with (at_builtin; refine wpList_app rfl _ _ 50 rfl _ _ _ _ rfl rfl HRUN.out ?_; clear HRUN)
          go_roundw
          case rel => exact ⟨i + 1, _, by omega, by go_num, HST⟩
          case measure => simp [intOf]; omega
    · obtain rfl : i = n := by omega
      have hid : decide ((i : Int) < (i : Int)) = false := by simp
      have hin2 : ¬ (i : Int) < (i : Int) := by omega
      obtain ⟨gl, cl, rfl, hT⟩ := hout.out.turns hn1 HN.out
      have HSH : Hid (∀ (j : Nat) (it : Itm), its[j]? = some it → it.len ≤ 70368744177664) := Lib.hid (fun j it h => Nat.le_trans (HH.out.short j it h) (by decide))
      have H1 := Lib.hid (stand_any gl i cl (-1) w0 (hT.stands HN.out HSH.out (-1) (fun j hj => .inr rfl)) hn3)
      have HT0 := Lib.hid hT
      have HB0 := Lib.hid (Nat.le_trans hB hout.out.below.size)
      obtain ⟨f, hf⟩ : ∃ f, (fun j => (its.getD j ⟨none, 0, 0, []⟩).cs) = f := ⟨_, rfl⟩
      rw [hf] at HT0
      clear hout hT hf
      go_wp2_with fail
      refine H1.out.mono ?_
      rintro e w1 ⟨rfl, hb1⟩
      have HT1 := Lib.hid (HT0.out.later hb1 HB0.out)
      have HB1 := Lib.hid (Nat.le_trans HB0.out hb1.size)
      clear H1 HT0 hb1 HB0
      obtain ⟨n, rfl⟩ : ∃ n, n = i := ⟨_, rfl⟩
      go_wp2_with fail
      go_loopw [7, 8, 9] (fun x _ _ wr => ∃ (i : Nat) (f : Nat → List UInt8), i ≤ n ∧ x = .int .i64 i ∧ Hid (Turns w B gl n its ms f f wr)) (fun x _ _ _ => n - (intOf x).toNat)
      case atStart => exact ⟨0, f, Nat.zero_le _, rfl, HT1⟩
      case round =>
        clear HT1
        obtain ⟨i, f, hi, rfl, hout⟩ := hrel
        obtain ⟨w2, rfl⟩ : ∃ w2, w2 = wr := ⟨_, rfl⟩
        by_cases hin : i < n
        · have hid3 : decide ((i : Int) < (n : Int)) = true := by simp; omega
          have hin3 : (i : Int) < (n : Int) := by omega
          obtain ⟨it, hit⟩ : ∃ it, its[i]? = some it := ⟨its[i]'(by rw [HN.out]; exact hin), List.getElem?_eq_getElem (by rw [HN.out]; exact hin)⟩
          have HIT := Lib.hid hit
          obtain ⟨A, len, cap, cs⟩ := it
          have hlb : len ≤ 1099511627776 := HH.out.short i _ hit
          have HOUT := Lib.hid hout.out
          clear hit hout
          go_wp2_with fail
          go_loopw [8, 9] (fun y _ wr => ∃ (k : Nat) (f' : Nat → List UInt8), k ≤ len ∧ y = .int .i64 k ∧ Hid (∀ j, j ≠ i → f' j = f j) ∧ Hid (Turns w B gl n its ms f' f wr)) (fun y _ _ => len - (intOf y).toNat)
          case atStart => exact ⟨0, f, Nat.zero_le _, rfl, Lib.hid (fun _ _ => rfl), HOUT⟩
          case round =>
            obtain ⟨k, f', hk, rfl, hff, htn⟩ := hrel
            obtain ⟨cur, hcb, hcx⟩ := htn.out.row
            obtain ⟨x1, x2, x3⟩ := hcx i _ hin HIT.out
            have hcA : wr.cell? ⟨gl, i * 3, none⟩ = some (.slice A len cap) := (hcb.cell _).trans x1
            have hcM : wr.cell? ⟨gl, i * 3 + 2, none⟩ = some (.slice (some ⟨(ms i).1, 0, none⟩) (len + 10) (ms i).2) := (hcb.cell _).trans x3
            clear hcb hcx x1 x2 x3
            by_cases hkl : k < len
            · have hkd : (k : Int) < (len : Int) := by omega
              obtain ⟨g, rfl, hgB, hgw, hR⟩ : ∃ g, A = some ⟨g, 0, none⟩ ∧ B ≤ g ∧ g < w.heap.size ∧ Rw wr g len cap (f' i) := (htn.out.item i _ hin HIT.out).resolve_left (fun e => by have := e.2.1; dsimp only at this; omega)
              obtain ⟨ch, hch⟩ : ∃ ch, (f' i)[k]? = some ch := ⟨_, List.getElem?_eq_getElem (by rw [hR.long]; exact hkl)⟩
              have hc := hR.holds k ch hch
              have hfz := (hR.there k (by have := hR.le; omega)).2
              simp only [bv] at hc
              obtain ⟨c, hcc⟩ : ∃ c, ch.toNat = c := ⟨_, rfl⟩
              have hc256 : c < 256 := by rw [← hcc]; exact ch.toNat_lt
              rw [hcc] at hc
              obtain ⟨dn, hdn⟩ : ∃ dn, 255 ^^^ c = dn := ⟨_, rfl⟩
              have hx : bits .xor .u8 IntKind.u8.max (c : Int) = (dn : Int) := by rw [← hdn]; exact u8_xor_nat 255 c (by decide) hc256
              have hd256 : dn < 256 := by rw [← hdn]; exact Nat.xor_lt_two_pow (n := 8) (by decide) hc256
              have hbd : bv (UInt8.ofNat dn) = .int .u8 (dn : Int) := by unfold bv; rw [UInt8.toNat_ofNat', Nat.mod_eq_of_lt hd256]
              have hBw := hB
              have ht1 := htn.out.set HH.out hin HIT.out g k (UInt8.ofNat dn) hkl (.inl rfl) hBw
              have ht2 := ht1.set HH.out hin HIT.out (ms i).1 k (UInt8.ofNat dn) hkl (.inr rfl) hBw
              obtain ⟨cur1, hcb1, hcx1⟩ := ht1.row
              have hcM1 := (hcb1.cell (i * 3 + 2)).trans (hcx1 i _ hin HIT.out).2.2
              obtain ⟨fr1, hfl1, hRm, hor1⟩ := ht1.more i _ hin HIT.out
              obtain ⟨hm1, hm2⟩ := hRm.there k (by have := hRm.le; dsimp only at this; omega)
              obtain ⟨um, hum⟩ := Option.isSome_iff_exists.1 hm1
              rw [hbd] at ht1 ht2 hcM1 hum hm2
              dsimp only at hcM1
              have HT2 := Lib.hid ht2
              obtain ⟨gm, hgm⟩ : ∃ gm, (ms i).1 = gm := ⟨_, rfl⟩
              rw [hgm] at hcM1 hum hm2 hcM HT2
              obtain ⟨f2, hf2⟩ : ∃ f2, (fun j => if j = i ∧ (Itm.mk (some ⟨g, 0, none⟩) len cap cs).home = some gm then ((fun j => if j = i ∧ (Itm.mk (some ⟨g, 0, none⟩) len cap cs).home = some g then (f' i).set k (UInt8.ofNat dn) else f' j) i).set k (UInt8.ofNat dn) else (fun j => if j = i ∧ (Itm.mk (some ⟨g, 0, none⟩) len cap cs).home = some g then (f' i).set k (UInt8.ofNat dn) else f' j) j) = f2 := ⟨_, rfl⟩
              have HF2 : Hid (∀ j, j ≠ i → f2 j = f j) := Lib.hid (fun j hj => by
                rw [← hf2]
                simp only [hj, false_and, if_false]
                exact hff.out j hj)
              rw [hf2] at HT2
              have hkm : (k : Int) < (len : Int) + 10 := by omega
              clear hcc hch hdn hbd ht1 ht2 hcb1 hcx1 hfl1 hor1 hRm hm1 hf2 hff htn hR hgm
              go_wp2_with fail
              go_roundw
              case rel => exact ⟨k + 1, f2, by omega, by go_num, HF2, HT2⟩
              case measure => simp [intOf]; omega
            · obtain rfl : k = len := by omega
              have hkd : ¬ (k : Int) < (k : Int) := by omega
              have hitm := htn.out.item i _ hin HIT.out
              have hby : (f' i).length = k ∧ Bytes wr A (f' i) := by
                rcases hitm with ⟨e1, e2, _, e4⟩ | ⟨g, e1, _, _, e4⟩
                · dsimp only at e1 e2; rw [e4, e2]; exact ⟨rfl, Bytes.nil _ _⟩
                · dsimp only at e1; rw [e1]; exact ⟨e4.long, e4.bytes⟩
              have hconv := run_str8L wr A k cap (f' i) hby.1 hby.2
              have hcS := htn.out
              obtain ⟨cur1, hcb1, hcx1⟩ := hcS.row
              have hcs1 := (hcb1.cell (i * 3 + 1)).trans (hcx1 i _ hin HIT.out).2.1
              have hfz1 := hcb1.frozen (i * 3 + 1)
              have ht3 := hcS.says (i := i) (f' i) hB
              have hfe : (fun j => if j = i then f' i else f j) = f' := by
                funext j
                by_cases hj : j = i
                · rw [if_pos hj, hj]
                · rw [if_neg hj]; exact (hff.out j hj).symm
              rw [hfe] at ht3
              obtain ⟨s, hs⟩ : ∃ s, str (f' i) = s := ⟨_, rfl⟩
              rw [hs] at hconv ht3
              obtain ⟨s0, hs0⟩ : ∃ s0, str (f i) = s0 := ⟨_, rfl⟩
              rw [hs0] at hcs1
              have HT3 := Lib.hid ht3
              have H4 := Lib.hid (stand_any gl n cl i _ (ht3.stands HN.out HSH.out i (fun j hj => .inr rfl)) hn3)
              have hsz3 : (wr.setCell ⟨gl, i * 3 + 1, none⟩ (.string s)).heap.size = wr.heap.size := by simp [World.setCell]
              have HB3 : Hid (B ≤ (wr.setCell ⟨gl, i * 3 + 1, none⟩ (.string s)).heap.size) := Lib.hid (by rw [hsz3]; exact Nat.le_trans hB htn.out.below.size)
              clear hitm hby hcS hcb1 hcx1 ht3 hfe hs hs0 hff htn hsz3
              go_wp2_with fail
              refine H4.out.mono ?_
              rintro e w4 ⟨rfl, hb4⟩
              have HT4 := Lib.hid (HT3.out.later hb4 HB3.out)
              clear H4 HT3 hb4 HB3
              go_wp2_with fail
              go_roundw
              case rel => exact ⟨i + 1, f', by omega, by go_num, HT4⟩
              case measure => simp [intOf]; omega
        · have hid3 : decide ((i : Int) < (n : Int)) = false := by simp; omega
          have hin3 : ¬ (i : Int) < (n : Int) := by omega
          have HBF := Lib.hid hout.out.below
          clear hout
          go_wp2_with fail
          go_ret
          exact ⟨rfl, HBF.out⟩

end Go.Proofs.Ytobfglnopihibaa
