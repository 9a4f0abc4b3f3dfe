/- The reference's Oids. -/
import Derived.Test.YtobfglnopihibaaO
import Derived.Test.YtobfglnopihibaaW
namespace Go.Proofs.Ytobfglnopihibaa
open Go.RowKit Rcd

/-- Between the rounds. -/
structure RidI (w wr : World) (A : Option Addr) (n c : Nat) (lv : Value) (zs : List Int) : Prop where
  ints : IntsZ wr lv zs
  own : ∀ j, lv.ownBlock = some j → j ≠ w.heap.size ∧ w.heap.size ≤ j
  box : wr.cell? ⟨w.heap.size, 2, none⟩ = some (.slice A n c)
  bel : Below w.heap.size w wr
  lt : w.heap.size < wr.heap.size
theorem RidI.frame {w wr w2 : World} {A : Option Addr} {n c : Nat} {lv : Value} {zs : List Int} (h : RidI w wr A n c lv zs) (hb : Below wr.heap.size wr w2) : RidI w w2 A n c lv zs :=
  ⟨h.ints.same fun k hk => hb.block k (h.ints.lt k hk), h.own, (hb.cell (p := ⟨w.heap.size, 2, none⟩) h.lt).trans h.box, h.bel.trans (hb.mono h.bel.size), Nat.lt_of_lt_of_le h.lt hb.size⟩
theorem mem_take_succ {zs : List Int} {j : Nat} {z nx : Int} (h : zs[j]? = some z) : decide (nx ∈ zs.take (j + 1)) = (decide (nx ∈ zs.take j) || (z == nx)) := by
  obtain ⟨hj, rfl⟩ := List.getElem?_eq_some_iff.1 h
  rw [List.take_succ_eq_append_getElem hj, Bool.eq_iff_iff]
  simp only [List.mem_append, List.mem_singleton, Bool.or_eq_true, decide_eq_true_eq, beq_iff_eq]
  exact or_congr Iff.rfl eq_comm

set_option maxRecDepth 20000 in
set_option maxHeartbeats 2000000 in
theorem refoids_any (k : UInt8) (tag : Int) (A : Option Addr) (n c : Nat) (s : ByteArray) (ws : List Wd) (w : World) (hn : ws.length = n) (hA : Words w A ws) (hl : n ≤ 100000) :
    Calls Try.prog 22 #[.agg #[bv k, .int .i64 tag, .slice A n c, .string s]] w fun e w' => ∃ lv, e = .returned lv ∧ IntsZ w' lv (oids ws) ∧ (∀ j, lv.ownBlock = some j → w.heap.size ≤ j) ∧ Below w.heap.size w w' := by
  have HA := Lib.hid hA
  have HN := Lib.hid hn
  have HI : Hid (RidI w (w.alloc (.cells #[bv k, .int .i64 tag, .slice A n c, .string s] 24)) A n c (.slice none 0 0) []) := Lib.hid
    ⟨IntsZ.nil _, fun j hj => (by cases hj), (Blk.new w _ _).cell 2, (Below.refl _ _).alloc (Nat.le_refl _) _, by rw [World.size_alloc]; omega⟩
  clear hA hn
  go_enter Try.func22, Try.ntmps22
  go_wp2_with fail
  go_loopw [3, 4, 5, 6] (fun lv iv sv jv wr => ∃ i : Nat, i ≤ n ∧ iv = .int .i64 (i : Int) ∧ Hid (RidI w wr A n c lv (oids (ws.take i)))) (fun _ iv _ _ _ => n - (intOf iv).toNat)
  case atStart => exact ⟨0, Nat.zero_le _, rfl, HI⟩
  case round =>
    clear HI
    obtain ⟨i, hi, rfl, hI⟩ := hrel
    have cb := hI.out.box
    by_cases hlt : i < n
    · have hd : decide ((i : Int) < (n : Int)) = true := by simpa using hlt
      obtain ⟨x, hx⟩ : ∃ x, ws[i]? = some x := ⟨_, List.getElem?_eq_getElem (by rw [HN.out]; exact hlt)⟩
      obtain ⟨b, off, rfl, hblt, c0, c1, hr⟩ := HA.out i x hx
      obtain ⟨Al, cl, hlv, hcl, hclm⟩ := hI.out.ints.shape
      have hs := oids_succ hx
      have hlen : (oids (ws.take i)).length ≤ i := by have := oids_len (ws.take i); rw [List.length_take] at this; omega
      obtain ⟨zs, hzs⟩ : ∃ zs, oids (ws.take i) = zs := ⟨_, rfl⟩
      rw [hzs] at hI hs hlv hlen hcl
      have HS := Lib.hid hs
      obtain ⟨kx, nx⟩ := x
      dsimp only at c0 c1 hr
      obtain ⟨kn, hkn⟩ : ∃ kn, kx.toNat = kn := ⟨_, rfl⟩
      have hbv : bv kx = .int .u8 (kn : Int) := by rw [← hkn]; rfl
      rw [hbv] at c0
      have hkx : kx = 2 ↔ kn = 2 := by rw [← hkn]; exact ⟨fun e => by rw [e]; rfl, fun e => UInt8.toNat_inj.1 (by rw [e]; rfl)⟩
      have HKX := Lib.hid hkx
      obtain ⟨zl, hzl⟩ : ∃ zl, zs.length = zl := ⟨_, rfl⟩
      rw [hzl] at hlv hlen
      have HZL := Lib.hid hzl
      subst hlv
      have HC : Hid (∀ W, Below w.heap.size w W → W.cell? ⟨b, off + i * 2, none⟩ = some (.int .u8 (kn : Int)) ∧ W.cell? ⟨b, off + i * 2 + 1, none⟩ = some (.int .i64 nx)) := Lib.hid (fun W hW => ⟨(hW.cell (p := ⟨b, off + i * 2, none⟩) hblt).trans c0, (hW.cell (p := ⟨b, off + i * 2 + 1, none⟩) hblt).trans c1⟩)
      have k0 := (HC.out wr hI.out.bel).1
      obtain ⟨sk, hsk⟩ : ∃ sk, (((kn : Int) != 2)) = sk := ⟨_, rfl⟩
      have HSK := Lib.hid hsk
      have HI := Lib.hid hI.out
      clear hI hx hs hzs hzl hbv hkn hkx c0 c1
      go_wp2_with fail
      go_loopw [5, 6] (fun sv jv wx => ∃ j : Nat, j ≤ zl ∧ jv = .int .i64 (j : Int) ∧ sv = .bool (sk || decide (nx ∈ zs.take j)) ∧ Hid (RidI w wx (some ⟨b, off, none⟩) n c (.slice Al zl cl) zs)) (fun _ jv _ => zl - (intOf jv).toNat)
      case atStart => exact ⟨0, Nat.zero_le _, rfl, by simp, HI⟩
      case round =>
        obtain ⟨j, hj, rfl, hsv, hJ⟩ := hrel
        clear HI cb k0
        have cb := hJ.out.box
        have HJ := Lib.hid (fun q => hJ.out.frame (drewN_below wr q))
        obtain ⟨bb, hbb⟩ : ∃ bb, (sk || decide (nx ∈ zs.take j)) = bb := ⟨_, rfl⟩
        rw [hbb] at hsv
        subst hsv
        by_cases hjl : j < zl
        · have d2 : decide ((j : Int) < (zl : Int)) = true := by simpa using hjl
          obtain ⟨z, hz⟩ : ∃ z, zs[j]? = some z := ⟨_, List.getElem?_eq_getElem (by rw [HZL.out]; exact hjl)⟩
          obtain ⟨gx, cx, ex, hgx, hcx⟩ := hJ.out.ints.get j z hz
          rw [HZL.out] at ex
          injection ex with e1 e2 e3
          subst e1
          have k1 := (HC.out wr hJ.out.bel).2
          have hm := mem_take_succ (nx := nx) hz
          obtain ⟨ze, hze⟩ : ∃ ze, (z == nx) = ze := ⟨_, rfl⟩
          rw [hze] at hm
          have HM : Hid ((sk || decide (nx ∈ zs.take (j + 1))) = (bb || ze)) := Lib.hid (by rw [hm, ← hbb, Bool.or_assoc])
          clear hm hbb hz e2 e3 hgx hJ
          cases bb
          · go_wp2_with fail
            go_quiet (fail)
            go_wp2_with fail
            go_roundw
            case rel => exact ⟨j + 1, by omega, by go_num, by rw [HM.out]; rfl, Lib.hid (HJ.out _)⟩
            case measure => simp [intOf]; omega
          · go_wp2_with fail
            go_quiet (fail)
            go_wp2_with fail
            go_roundw
            case rel => exact ⟨j + 1, by omega, by go_num, by rw [HM.out]; rfl, Lib.hid (HJ.out _)⟩
            case measure => simp [intOf]; omega
        · obtain rfl : zl = j := by omega
          have d2 : decide ((zl : Int) < (zl : Int)) = false := by simp
          rw [List.take_of_length_le (by rw [HZL.out]; exact Nat.le_refl _)] at hbb
          have k1 := (HC.out wr hJ.out.bel).2
          cases bb
          · simp only [Bool.or_eq_false_iff, decide_eq_false_iff_not] at hbb
            obtain ⟨hk0, hmem⟩ := hbb
            have hk2 : kn = 2 := by
              have := HSK.out
              rw [hk0] at this
              have := of_decide_eq_false (p := (kn : Int) ≠ 2) (by simpa using this)
              omega
            have HR : Hid (oids (ws.take (i + 1)) = zs ++ [nx]) := Lib.hid (by rw [HS.out]; exact if_pos ⟨HKX.out.2 hk2, hmem⟩)
            have hb3 : Below wr.heap.size wr (wr.alloc (.cells #[.int .i64 nx] 3)) := (Below.refl _ _).alloc (Nat.le_refl _) _
            have hJ3 := hJ.out.frame hb3
            obtain ⟨v', w5, hrun, hi5, hg5, ho5⟩ := hJ3.ints.push nx wr.heap.size ((Blk.new wr _ _).cell 0) (by rw [HZL.out]; omega)
            obtain ⟨A5, c6, hv5, _, _⟩ := hi5.shape
            have hlt0 := hJ.out.lt
            have HI5 : Hid (RidI w w5 (some ⟨b, off, none⟩) n c v' (zs ++ [nx])) := Lib.hid ⟨hi5, fun j hj => by
                rcases ho5 with ho | ho
                · rw [ho] at hj; exact hJ3.own j hj
                · rw [ho] at hj
                  have := Option.some.inj hj
                  rw [World.size_alloc] at this
                  exact ⟨by omega, by omega⟩,
              (World.cell?_of_block (a := ⟨w.heap.size, 2, none⟩) (hg5.block w.heap.size hJ3.lt (fun e => (hJ3.own _ e.symm).1 rfl))).trans hJ3.box,
              hJ3.bel.grown hg5 hJ3.bel.size (fun j hj => (hJ3.own j hj).2), Nat.lt_of_lt_of_le hJ3.lt hg5.size⟩
            obtain ⟨nf, hnf⟩ : ∃ nf, (zs ++ [nx]).length = nf := ⟨_, rfl⟩
            rw [hnf] at hv5
            subst hv5
            have HRUN := Lib.hid hrun
            clear hJ hb3 hJ3 hrun hi5 hg5 ho5 hnf hmem hk0 hlt0 HJ hk2
            go_wp2_with (at_builtin; refine wpList_app rfl _ _ 40 rfl _ _ _ _ rfl rfl HRUN.out ?_; clear HRUN)
            go_roundw
            case rel => exact ⟨i + 1, by omega, by go_num, by rw [HR.out]; exact HI5⟩
            case measure => simp [intOf]; omega
          · have HR : Hid (oids (ws.take (i + 1)) = zs) := Lib.hid (by
              rw [HS.out]
              refine if_neg fun h => ?_
              have h2 := HKX.out.1 h.1
              have h3 := HSK.out
              rw [h2] at h3
              have h4 : sk = false := by rw [← h3]; rfl
              rw [h4, decide_eq_false h.2] at hbb
              cases hbb)
            have HJ2 : Hid (RidI w wr (some ⟨b, off, none⟩) n c (.slice Al zl cl) zs) := Lib.hid hJ.out
            clear hJ HJ hbb
            go_wp2_with fail
            go_roundw
            case rel => exact ⟨i + 1, by omega, by go_num, by rw [HR.out]; exact HJ2⟩
            case measure => simp [intOf]; omega
    · obtain rfl : n = i := by omega
      have hd : decide ((n : Int) < (n : Int)) = false := by simp
      have hI2 := hI.out
      rw [List.take_of_length_le (by rw [HN.out]; exact Nat.le_refl _)] at hI2
      have HI2 := Lib.hid hI2
      clear hI hI2
      go_wp2_with fail
      go_ret
      exact ⟨_, rfl, HI2.out.ints, fun j hj => (HI2.out.own j hj).2, HI2.out.bel⟩
end Go.Proofs.Ytobfglnopihibaa
