/- CacheKeeps. -/
import Derived.Test.YtiemfhncadcemaaDj
import Derived.Test.YtiemfhncadcemaaDa
namespace Go.Proofs.Ytiemfhncadcemaa
open Go.RowKit Dsk
set_option maxRecDepth 20000 in
set_option maxHeartbeats 1000000 in
theorem keeps_vast (a b : Nat) (A : Option Addr) (len cap : Nat) (ls : List Ov) (w : World) (hl : ls.length = len) (hA : OpsM w A ls) (hv : vastB ls = true) :
    Calls Try.prog 3 #[.int .u8 (a : Int), .int .u8 (b : Int), .slice A len cap] w fun e w' => e = .returned (.bool true) ∧ Below w.heap.size w w' := by
  have H1 := vast_any A len cap ls w hl hA
  rw [hv] at H1
  replace H1 := Lib.hid H1
  have H2 := Lib.hid (works_any w)
  clear hl hA hv
  go_enter Try.func3, Try.ntmps3
  go_wp2_with fail
  refine H1.out.mono ?_
  rintro e w' ⟨rfl, rfl⟩
  go_wp2_with fail
  refine H2.out.mono ?_
  rintro e w1 ⟨rfl, hb⟩
  have HB := Lib.hid hb
  clear hb
  go_wp2_with fail
  go_ret
  exact ⟨rfl, HB.out⟩
def KpI (w wr : World) (g dg nn most wb i : Nat) : Prop := ∃ X t D L, t ≤ 1025 * i ∧ KpS w wr X g dg nn most t wb D L
/-- Between the rounds that lay what is wanted. -/
structure LayI (w wr : World) (g dg nn most wb k : Nat) : Prop where
  cs : CS w wr (fun j => wb ≤ j ∧ j < wr.heap.size) g dg nn most 0 (newD nn) []
  secs : Secs wr (fun j => wb < j ∧ j < wr.heap.size) wb (part (List.replicate nn zeros) k)
  lo : w.heap.size ≤ wb
theorem LayI.step {w wr w' : World} {g dg nn most wb k : Nat} (h : LayI w wr g dg nn most wb k) (hk : k < nn) (hB : Blk w' wr.heap.size 5 (row8 (filled [] 256))) (hb : Below wr.heap.size wr w') : LayI w (w'.setCell ⟨wb, k, none⟩ (.slice (some ⟨wr.heap.size, 0, none⟩) 256 256)) g dg nn most wb (k + 1) := by
  have hwb := h.secs.lt
  have hsz := hb.size
  have hnew := hB.lt
  have ho : Off (fun j => j = wb) w' (w'.setCell ⟨wb, k, none⟩ (.slice (some ⟨wr.heap.size, 0, none⟩) 256 256)) := Off.setc _ _ _ _
  have hss : (w'.setCell ⟨wb, k, none⟩ (.slice (some ⟨wr.heap.size, 0, none⟩) 256 256)).heap.size = w'.heap.size := by simp [World.setCell]
  refine ⟨?_, ?_, h.lo⟩
  · rw [hss]
    have h1 := h.cs.more hb (fun j => wb ≤ j ∧ j < w'.heap.size) (fun j hj => by
      by_cases e : j < wr.heap.size
      · exact .inl ⟨hj.1, e⟩
      · exact .inr ⟨by omega, hj.2⟩)
    exact h1.turnX ho (fun j e => by have e' : j = wb := e; rw [e']; exact ⟨⟨Nat.le_refl _, by omega⟩, h.lo⟩)
  · rw [hss]
    have hs1 : Secs w' (fun j => wb < j ∧ j < w'.heap.size) wb (part (List.replicate nn zeros) k) := (h.secs.same hsz (fun j _ hj => hb.block j hj) (hb.block wb hwb)).mono (fun j hj => ⟨hj.1, by omega⟩)
    have hs2 := hs1.set_ (by show ¬ (wb < wb ∧ _); omega) k (.slice (some ⟨wr.heap.size, 0, none⟩) 256 256) (filled [] 256) (Sec.of_blk hB ⟨hwb, hnew⟩ (by rw [filled_length _ _ (by simp)]; unfold maxLen; omega) 256 (filled_length _ _ (by simp)))
    have e : filled [] 256 = zeros := rfl
    rw [e, part_step _ k zeros (by rw [List.getElem?_replicate, if_pos hk])] at hs2
    exact hs2
theorem LayI.done {w wr : World} {g dg nn most wb : Nat} (h : LayI w wr g dg nn most wb nn) : KpI w wr g dg nn most wb 0 := by
  have h2 := h.secs
  have e : part (List.replicate nn zeros) nn = wantL (newD nn) [] nn := by
    rw [wantL_new]
    have := part_full (List.replicate nn zeros)
    rw [List.length_replicate] at this
    exact this
  rw [e] at h2
  exact ⟨_, 0, _, _, Nat.le_refl _, h.cs, ⟨Nat.le_refl _, h2.lt⟩, h2.mono fun j hj => ⟨⟨Nat.le_of_lt hj.1, hj.2⟩, by omega⟩, h.lo⟩
set_option maxRecDepth 40000 in
set_option maxHeartbeats 4000000 in
theorem keeps_any (a b : Nat) (A : Option Addr) (len cap : Nat) (ls : List Ov) (w : World) (ha : a < 256) (hb : b < 256) (hl : ls.length = len) (hA : OpsM w A ls) (hv : vastB ls = false) :
    Calls Try.prog 3 #[.int .u8 (a : Int), .int .u8 (b : Int), .slice A len cap] w fun e w' => e = .returned (.bool true) ∧ Below w.heap.size w w' := by
  have H1 := vast_any A len cap ls w hl hA
  rw [hv] at H1
  replace H1 := Lib.hid H1
  obtain ⟨nn, hn⟩ : ∃ nn, 16 + a % 45 = nn := ⟨_, rfl⟩
  obtain ⟨most, hm⟩ : ∃ most, 1 + b % 20 = most := ⟨_, rfl⟩
  have hn1 : 16 + (a : Int) % 45 = (nn : Int) := by rw [← hn]; omega
  have hm1 : 1 + (b : Int) % 20 = (most : Int) := by rw [← hm]; omega
  have hnb : 16 ≤ nn ∧ nn ≤ 60 := by omega
  have hmb : 1 ≤ most ∧ most ≤ 20 := by omega
  obtain ⟨hl120, hsm⟩ := vastB_no hv
  rw [hl] at hl120
  have HA := Lib.hid hA
  have HL := Lib.hid hl
  have HSM := Lib.hid hsm
  have HR := Lib.hid (Run.new nn w w (fun _ => False) (fun k h => h.elim) (Below.refl _ _) ⟨by omega, by omega⟩)
  clear hn hm hl hA hv hsm
  go_enter Try.func3, Try.ntmps3
  go_wp2_with fail
  refine H1.out.mono ?_
  rintro e w' ⟨rfl, rfl⟩
  go_wp2_with fail
  refine HR.out.mono ?_
  rintro e w1 ⟨dg, rfl, hr, hb1⟩
  have H2 := Lib.hid (CS.new nn most ⟨by omega, by omega⟩ ⟨by omega, by omega⟩ hr)
  clear hr hb1 HR H1
  go_wp2_with fail
  refine H2.out.mono ?_
  rintro e w2 ⟨g, rfl, _, hc, hb2⟩
  have hmk := run_mkS nn (by omega) w2
  have HST : Hid (LayI w (w2.alloc (.cells (madeCells #[.slice none 0 0] nn) 33)) g dg nn most w2.heap.size 0) := Lib.hid (by
    have hb3 : Below w2.heap.size w2 (w2.alloc (.cells (madeCells #[.slice none 0 0] nn) 33)) := (Below.refl _ _).alloc (Nat.le_refl _) _
    exact ⟨hc.more hb3 _ (fun k hk => .inr hk), Secs.blank _ (List.replicate nn zeros) List.length_replicate (Blk.new _ _ _), hc.bel.size⟩)
  obtain ⟨wb, hwb⟩ : ∃ wb, w2.heap.size = wb := ⟨_, rfl⟩
  obtain ⟨w3, hw3⟩ : ∃ w3, w2.alloc (.cells (madeCells #[.slice none 0 0] nn) 33) = w3 := ⟨_, rfl⟩
  rw [hwb, hw3] at HST hmk
  clear hc hb2 H2 hw3 hn1 hm1
  go_wp2_with fail
  go_loopw [13] (fun iv wr => ∃ k : Nat, k ≤ nn ∧ iv = .int .i64 (k : Int) ∧ Hid (LayI w wr g dg nn most wb k)) (fun iv _ => nn - (intOf iv).toNat)
  case atStart => exact ⟨0, Nat.zero_le _, rfl, HST⟩
  case round =>
    obtain ⟨w9, rfl⟩ : ∃ w9, w9 = wr := ⟨_, rfl⟩
    clear HST hmk hwb
    obtain ⟨k, hk, rfl, hI⟩ := hrel
    by_cases hlt : k < nn
    · have hd : decide ((k : Int) < (nn : Int)) = true := by simpa using hlt
      have H3 := Lib.hid (full_any none 0 0 [] w9 rfl (by omega) (Bytes.nil _ _))
      go_wp2_with fail
      refine H3.out.mono ?_
      rintro e w4 ⟨rfl, hB, hb4⟩
      obtain ⟨v0, hv0, _⟩ := hI.out.secs.at_ (k := k) (b := (part (List.replicate nn zeros) k)[k]'(by rw [part_length _ _ (by rw [List.length_replicate]; omega), List.length_replicate]; exact hlt)) (List.getElem?_eq_getElem _)
      have hv1 := (hb4.cell (p := ⟨wb, k, none⟩) hI.out.secs.lt).trans hv0
      have hf1 : w4.frozen? ⟨wb, k, none⟩ = false := (World.frozen?_of_block (a := ⟨wb, k, none⟩) (hb4.block wb hI.out.secs.lt)).trans (hI.out.secs.free k)
      have HI2 := Lib.hid (hI.out.step hlt hB hb4)
      clear hB hb4 hI hv0 H3
      go_wp2_with fail
      go_roundw
      case rel => exact ⟨k + 1, by omega, by go_num, HI2⟩
      case measure => simp [intOf]; omega
    · obtain rfl : nn = k := by omega
      have hd : decide ((nn : Int) < (nn : Int)) = false := by simp
      have HK := Lib.hid hI.out.done
      clear hI
      go_wp2_with fail
      go_loopw [14, 15, 16, 17, 18, 19, 20, 21] (fun iv _ _ _ _ _ _ _ wr => ∃ i : Nat, i ≤ len ∧ iv = .int .i64 (i : Int) ∧ Hid (KpI w wr g dg nn most wb i)) (fun iv _ _ _ _ _ _ _ _ => len - (intOf iv).toNat)
      case atStart => exact ⟨0, Nat.zero_le _, rfl, HK⟩
      case round =>
        obtain ⟨w8, rfl⟩ : ∃ w8, w8 = wr := ⟨_, rfl⟩
        clear HK
        obtain ⟨i, hi, rfl, hK⟩ := hrel
        by_cases hli : i < len
        · have hdi : decide ((i : Int) < (len : Int)) = true := by simpa using hli
          obtain ⟨X, t, D, L, ht, hS⟩ := hK.out
          have htl : t ≤ 800000 - 1 := by omega
          obtain ⟨o, hoi⟩ : ∃ o, ls[i]? = some o := ⟨_, List.getElem?_eq_getElem (by rw [HL.out]; exact hli)⟩
          have hsmall := HSM.out o (List.mem_of_getElem? hoi)
          obtain ⟨bo, off, v0, v1, v2, v3, v4, rfl, hblt, z0, z1, z2, z3, z4, hov⟩ := HA.out i o hoi
          have hbel := hS.cs.bel
          have c0 := (hbel.cell (p := ⟨bo, off + i * 5, none⟩) hblt).trans z0
          have c1 := (hbel.cell (p := ⟨bo, off + i * 5 + 1, none⟩) hblt).trans z1
          have c2 := (hbel.cell (p := ⟨bo, off + i * 5 + 2, none⟩) hblt).trans z2
          have c3 := (hbel.cell (p := ⟨bo, off + i * 5 + 3, none⟩) hblt).trans z3
          have c4 := (hbel.cell (p := ⟨bo, off + i * 5 + 4, none⟩) hblt).trans z4
          have HO := Lib.hid (And.intro (hov.below hbel) (And.intro hsmall (And.intro hS ht)))
          obtain ⟨⟨e0, hk1, hk2⟩, ⟨e1, hs1, hs2⟩, ⟨AB, cB, e2, hB1, hB2, hB3⟩, ⟨AK, cK, e3, _, _, _⟩, ⟨e4, _, _⟩⟩ := hov
          have HBY : Hid (∀ W, Below w.heap.size w W → Bytes W AB o.B) := Lib.hid (fun W h => hB3.below h)
          subst e0 e1 e2 e3 e4
          clear hK hS hoi hsmall hblt ht hB1 hB2 hB3 hbel z0 z1 z2 z3 z4
          by_cases hskip : o.kind = 5 ∨ o.kind = 7 ∨ o.kind = 8
          · have HK2 : Hid (∀ ob, KpI w (w8.alloc ob) g dg nn most wb (i + 1)) := Lib.hid (fun ob => ⟨_, t, D, L, by have := HO.out.2.2.2; omega, HO.out.2.2.1.boxed ob⟩)
            clear HO
            rcases hskip with e | e | e
            all_goals
              rw [e] at c0
              go_wp2_with fail
              go_roundw
              case rel => exact ⟨i + 1, by omega, by go_num, Lib.hid (HK2.out _)⟩
              case measure => simp [intOf]; omega
          · have hns : o.kind ≠ 5 ∧ o.kind ≠ 7 ∧ o.kind ≠ 8 := by omega
            have d5 : (o.kind == 5) = false := by simp; omega
            have d7 : (o.kind == 7) = false := by simp; omega
            have d8 : (o.kind == 8) = false := by simp; omega
            have hB2 := HO.out.2.2.1.boxed (.cells #[.int .i64 o.kind, .int .i64 o.s, .slice AB o.B.length cB, .slice AK o.K.length cK, .int .i64 o.torn] 37)
            have hbox : Blk (w8.alloc (.cells #[.int .i64 o.kind, .int .i64 o.s, .slice AB o.B.length cB, .slice AK o.K.length cK, .int .i64 o.torn] 37)) w8.heap.size 37 #[.int .i64 o.kind, .int .i64 o.s, .slice AB o.B.length cB, .slice AK o.K.length cK, .int .i64 o.torn] := Blk.new _ _ _
            have hDS := hB2.cs.does_any (HO.out.1.below ((Below.refl _ _).alloc (Nat.le_refl _) _)) hns (by omega) HO.out.2.1.1
            have HDS := Lib.hid hDS
            have HB2 := Lib.hid (And.intro hB2 hbox)
            clear hB2 hbox hDS
            go_wp2_with fail
            refine HDS.out.mono ?_
            rintro en w4 ⟨A1, ln, c1, is, e, bs, D', L', q, rfl, hdid, hbl, hby, _, _, hc, hkp⟩
            have hbx : Blk w4 w8.heap.size 37 #[.int .i64 o.kind, .int .i64 o.s, .slice AB o.B.length cB, .slice AK o.K.length cK, .int .i64 o.torn] := HB2.out.2.same (hkp.at_ w8.heap.size (.inr rfl))
            have f0 : ∀ ob, (w4.alloc ob).cell? ⟨w8.heap.size, 0, none⟩ = some (.int .i64 o.kind) := fun ob => (hbx.alloc ob).cell 0
            have f1 : ∀ ob, (w4.alloc ob).cell? ⟨w8.heap.size, 1, none⟩ = some (.int .i64 o.s) := fun ob => (hbx.alloc ob).cell 1
            have f2 : ∀ ob, (w4.alloc ob).cell? ⟨w8.heap.size, 2, none⟩ = some (.slice AB o.B.length cB) := fun ob => (hbx.alloc ob).cell 2
            have hst' := hc.st
            obtain ⟨l1, hl1⟩ : ∃ l1, L'.length = l1 := ⟨_, rfl⟩
            obtain ⟨dn, hdn⟩ : ∃ dn, L'.countP (fun x => x.dirty) = dn := ⟨_, rfl⟩
            obtain ⟨pn, hpn⟩ : ∃ pn, L'.countP (fun x => decide (0 < x.pins)) = pn := ⟨_, rfl⟩
            have hc1 : l1 ≤ most := by rw [← hl1]; exact hst'.len
            have hc2 : dn ≤ l1 := by rw [← hl1, ← hdn]; exact List.countP_le_length
            have hc3 : pn ≤ l1 := by rw [← hl1, ← hpn]; exact List.countP_le_length
            have q1 : decide ((l1 : Int) > (most : Int)) = false := by simp; omega
            have q2 : decide ((dn : Int) > (l1 : Int)) = false := by simp; omega
            have q3 : decide ((pn : Int) > (l1 : Int)) = false := by simp; omega
            have HH : Hid (∀ W, CS w W (fun _ => False) g dg nn most (t + 1025) D' L' → Calls Try.prog 15 #[.pointer (some ⟨g, 0, none⟩)] W fun e w' => e = .returned (.tuple #[.int .i64 (l1 : Int), .int .i64 (dn : Int), .int .i64 (pn : Int)]) ∧ Below W.heap.size W w') := Lib.hid (fun W h9 => by
              have h := h9.held
              rw [hl1, hdn, hpn] at h
              exact h)
            have HD := Lib.hid (And.intro hdid (And.intro hbl (And.intro hby (And.intro hc (And.intro hkp (And.intro hbx hst'))))))
            have HDN := Lib.hid hdn
            clear hdid hbl hby hc hkp hbx hst' hl1 hdn hpn HDS
            by_cases k0 : o.kind = 0
            · by_cases he : e = 0
              · rw [k0] at f0
                have HNW : Hid (∀ j : Nat, ¬ (o.kind = 1 ∧ e = 0 ∧ (j : Int) = o.s)) := Lib.hid (fun j h => by omega)
                have HK4 : Hid (∀ q', KpS w ((w4.alloc (.cells #[.slice A1 ln c1, .bool is, .int .i64 e] 39)).drewN q') (fun k => (X k ∨ k = w8.heap.size) ∨ k = q) g dg nn most (t + 1025) wb D' L') := Lib.hid (fun q' => ((HB2.out.1.did HD.out.2.2.2.1 HD.out.2.2.2.2.1 (fun j => by rw [HD.out.1.what_ j, if_neg (HNW.out j)])).below ((Below.refl _ _).alloc (Nat.le_refl _) _)).below (drewN_below _ q'))
                obtain ⟨hr1, hr2⟩ := HD.out.1.rng (.inl k0) he
                obtain ⟨sN, hsN⟩ : ∃ sN : Nat, o.s = sN := ⟨o.s.toNat, by omega⟩
                have hsn : sN < nn := by omega
                have hbs := HD.out.1.read k0 he
                rw [hsN, Int.toNat_natCast] at hbs
                have hwl := what_len HO.out.2.2.1.cs.st hsn
                have hln : ln = 256 := by rw [← HD.out.2.1, hbs, hwl]
                subst hln
                obtain ⟨vw, hvw, Aw, cw, rfl, _, _, hbw, _⟩ := (HK4.out 0).secs.at_ (k := sN) (wantL_get D' L' hsn)
                have hww : what D' L' sN = what D L sN := by rw [HD.out.1.what_ sN, if_neg (HNW.out sN)]
                rw [hww] at hvw hbw
                have hvw : (w4.alloc (.cells #[.slice A1 256 c1, .bool is, .int .i64 e] 39)).cell? ⟨wb, sN, none⟩ = some (.slice Aw 256 cw) := by
                    have h9 := hvw
                    rw [hwl] at h9
                    exact h9
                have hby4 : Bytes (w4.alloc (.cells #[.slice A1 256 c1, .bool is, .int .i64 e] 39)) A1 (what D L sN) := by
                  have h9 := HD.out.2.2.1
                  rw [hbs] at h9
                  exact h9.below ((Below.refl _ _).alloc (Nat.le_refl _) _)
                have HSM0 : Hid (∀ q', Calls Try.prog 14 #[.slice A1 256 c1, .slice Aw 256 cw] ((w4.alloc (.cells #[.slice A1 256 c1, .bool is, .int .i64 e] 39)).drewN q') fun en w' => en = .returned (.bool true) ∧ w' = (w4.alloc (.cells #[.slice A1 256 c1, .bool is, .int .i64 e] 39)).drewN q') := Lib.hid (fun q' => by
                  refine (samet_any A1 Aw 256 c1 256 cw (what D L sN) _ hwl hwl (hby4.below (drewN_below _ q')) (hbw.below (drewN_below _ q'))).mono ?_
                  rintro en w' ⟨rfl, h⟩
                  exact ⟨rfl, h.symm⟩)
                rw [hsN] at f1
                have r1 : ((sN : Int) < 0) = False := by simp
                have r2 : decide ((sN : Int) < 0) = false := by simp
                have r3 : decide ((sN : Int) ≥ (nn : Int)) = false := by simp; omega
                have r4 : decide (nn ≤ sN) = false := by simp; omega
                have r5 : ¬ nn ≤ sN := by omega
                subst he
                clear hbs hwl hww hbw hby4 hr1 hr2 hsN
                go_wp2_with fail
                go_quiet (first | (go_at_call 14; exact Calls.quiet_of_same (HSM0.out _)))
                go_wp2_with fail
                refine (HH.out _ ((HK4.out _).cs.less fun k h => h.elim)).mono ?_
                rintro en w6 ⟨rfl, hb6⟩
                have HKN : Hid (KpI w w6 g dg nn most wb (i + 1)) := Lib.hid ⟨_, t + 1025, D', L', by have := HO.out.2.2.2; omega, (HK4.out _).below hb6⟩
                have g0 := (hb6.cell (p := ⟨w8.heap.size, 0, none⟩) (by have h7 := HD.out.2.2.2.2.2.1.lt; show w8.heap.size < (w4.alloc _).heap.size; rw [World.size_alloc]; omega)).trans (f0 (.cells #[.slice A1 256 c1, .bool is, .int .i64 0] 39))
                clear hb6
                go_wp2_with fail
                go_roundw
                case rel => exact ⟨i + 1, by omega, by go_num, HKN⟩
                case measure => simp [intOf]; omega
              · rw [k0] at f0
                have HNW : Hid (∀ j : Nat, ¬ (o.kind = 1 ∧ e = 0 ∧ (j : Int) = o.s)) := Lib.hid (fun j h => by omega)
                have e0n : (e == 0) = false := by simpa using he
                have HK4 : Hid (∀ q', KpS w ((w4.alloc (.cells #[.slice A1 ln c1, .bool is, .int .i64 e] 39)).drewN q') (fun k => (X k ∨ k = w8.heap.size) ∨ k = q) g dg nn most (t + 1025) wb D' L') := Lib.hid (fun q' => ((HB2.out.1.did HD.out.2.2.2.1 HD.out.2.2.2.2.1 (fun j => by rw [HD.out.1.what_ j, if_neg (HNW.out j)])).below ((Below.refl _ _).alloc (Nat.le_refl _) _)).below (drewN_below _ q'))
                go_wp2_with fail
                go_quiet (fail)
                go_wp2_with fail
                refine (HH.out _ ((HK4.out _).cs.less fun k h => h.elim)).mono ?_
                rintro en w6 ⟨rfl, hb6⟩
                have HKN : Hid (KpI w w6 g dg nn most wb (i + 1)) := Lib.hid ⟨_, t + 1025, D', L', by have := HO.out.2.2.2; omega, (HK4.out _).below hb6⟩
                have g0 := (hb6.cell (p := ⟨w8.heap.size, 0, none⟩) (by have h7 := HD.out.2.2.2.2.2.1.lt; show w8.heap.size < (w4.alloc _).heap.size; rw [World.size_alloc]; omega)).trans (f0 (.cells #[.slice A1 ln c1, .bool is, .int .i64 e] 39))
                clear hb6
                go_wp2_with fail
                go_roundw
                case rel => exact ⟨i + 1, by omega, by go_num, HKN⟩
                case measure => simp [intOf]; omega
            · by_cases k1 : o.kind = 1
              · by_cases he : e = 0
                · subst he
                  rw [k1] at f0
                  obtain ⟨hr1, hr2⟩ := HD.out.1.rng (.inr k1) rfl
                  have hlong := HD.out.1.long k1 rfl
                  obtain ⟨sN, hsN⟩ : ∃ sN : Nat, o.s = sN := ⟨o.s.toNat, by omega⟩
                  have hsn : sN < nn := by omega
                  have hsec4 := HB2.out.1.secs.keep HD.out.2.2.2.2.1 (fun k e => e.1) HB2.out.1.hx
                  obtain ⟨vw, hvw, _⟩ := hsec4.at_ (k := sN) (wantL_get D L hsn)
                  have hfw := hsec4.free sN
                  have hwlt := hsec4.lt
                  have hBy4 : Bytes (w4.alloc (.cells #[.slice A1 ln c1, .bool is, .int .i64 0] 39)) AB o.B := (HBY.out w4 HD.out.2.2.2.1.bel).below ((Below.refl _ _).alloc (Nat.le_refl _) _)
                  have hw' : ∀ j, what D' L' j = if j = sN then filled o.B 256 else what D L j := fun j => by
                    rw [HD.out.1.what_ j]
                    by_cases ej : j = sN
                    · rw [if_pos ej, if_pos ⟨k1, rfl, by rw [ej, hsN]⟩]
                    · rw [if_neg ej, if_neg (fun h => ej (by have := h.2.2; omega))]
                  have hfl := filled_length o.B 256 hlong
                  obtain ⟨lB, hlB⟩ : ∃ lB, o.B.length = lB := ⟨_, rfl⟩
                  obtain ⟨fb, hfb⟩ : ∃ fb, filled o.B 256 = fb := ⟨_, rfl⟩
                  rw [hfb] at hw' hfl
                  have HFU : Hid (∀ q', Calls Try.prog 12 #[.slice AB lB cB] ((w4.alloc (.cells #[.slice A1 ln c1, .bool is, .int .i64 0] 39)).drewN q') fun en w' => en = .returned (.slice (some ⟨w4.heap.size + 1, 0, none⟩) 256 256) ∧ Blk w' (w4.heap.size + 1) 5 (row8 fb) ∧ Below w4.heap.size w4 w') := Lib.hid (fun q' => by
                    refine (full_any AB lB cB o.B _ hlB (by omega) (hBy4.below (drewN_below _ q'))).mono ?_
                    have e9 : ((w4.alloc (.cells #[.slice A1 ln c1, .bool is, .int .i64 0] 39)).drewN q').heap.size = w4.heap.size + 1 := World.size_alloc _ _
                    rintro en w' ⟨rfl, h1, h2⟩
                    rw [e9] at h1 h2
                    rw [hfb] at h1
                    exact ⟨by rw [e9], h1, (((Below.refl _ _).alloc (Nat.le_refl _) (.cells #[.slice A1 ln c1, .bool is, .int .i64 0] 39)).trans ((drewN_below _ q').mono (by rw [World.size_alloc]; exact Nat.le_succ _))).trans (h2.mono (Nat.le_succ _))⟩)
                  rw [hsN] at f1
                  rw [hlB] at f2
                  have f1d := fun ob => f1 ob
                  have hvw1 : ∀ ob, (w4.alloc ob).cell? ⟨wb, sN, none⟩ = some vw := fun ob => (World.cell?_of_block (a := ⟨wb, sN, none⟩) (Below.heap_alloc _ _ _ hwlt)).trans hvw
                  have hfw1 : ∀ ob, (w4.alloc ob).frozen? ⟨wb, sN, none⟩ = false := fun ob => (World.frozen?_of_block (a := ⟨wb, sN, none⟩) (Below.heap_alloc _ _ _ hwlt)).trans hfw
                  have r2 : decide ((sN : Int) < 0) = false := by simp
                  have r3 : decide ((sN : Int) ≥ (nn : Int)) = false := by simp; omega
                  have r4 : decide (nn ≤ sN) = false := by simp; omega
                  have r5 : ¬ nn ≤ sN := by omega
                  have HSB := Lib.hid (And.intro hsN hlB)
                  have HW1 := Lib.hid (And.intro hvw (And.intro hfw (And.intro hwlt (And.intro hw' (And.intro hfl hsn)))))
                  clear hr1 hr2 hlong hsN hsec4 hvw hfw hwlt hBy4 hw' hfl hlB hfb
                  go_wp2_with fail
                  go_region_with (go_at_call 12; refine (HFU.out _).mono ?_; rintro en w5 ⟨rfl, hB5, hb5⟩
                                  have hb5b := HD.out.2.2.2.2.2.1
                                  have p0 := (hb5.cell (p := ⟨w8.heap.size, 0, none⟩) hb5b.lt).trans (hb5b.cell 0)
                                  have p1 := (hb5.cell (p := ⟨w8.heap.size, 1, none⟩) hb5b.lt).trans (hb5b.cell 1)
                                  have p2 := (hb5.cell (p := ⟨w8.heap.size, 2, none⟩) hb5b.lt).trans (hb5b.cell 2)
                                  simp only [List.getElem?_toArray, List.getElem?_cons_zero, List.getElem?_cons_succ, k1, HSB.out.1, HSB.out.2] at p0 p1 p2
                                  have v5 := (hb5.cell (p := ⟨wb, sN, none⟩) HW1.out.2.2.1).trans HW1.out.1
                                  have x5 : w5.frozen? ⟨wb, sN, none⟩ = false := (World.frozen?_of_block (a := ⟨wb, sN, none⟩) (hb5.block wb HW1.out.2.2.1)).trans HW1.out.2.1
                                  have hK6 := HB2.out.1.wrote HD.out.2.2.2.1 HD.out.2.2.2.2.1 hb5 hB5 (Nat.le_succ _) HW1.out.2.2.2.2.1 HW1.out.2.2.2.2.2 HW1.out.2.2.2.1
                                  have hbne : w8.heap.size ≠ wb := by have := HO.out.2.2.1.secs.lt; omega
                                  have g0 := (Blk.far (Blk.same hb5b (hb5.block w8.heap.size hb5b.lt)) (p := ⟨wb, sN, none⟩) hbne (.slice (some ⟨w4.heap.size + 1, 0, none⟩) 256 256)).cell 0
                                  have g0l := Blk.lt (Blk.far (Blk.same hb5b (hb5.block w8.heap.size hb5b.lt)) (p := ⟨wb, sN, none⟩) hbne (.slice (some ⟨w4.heap.size + 1, 0, none⟩) 256 256))
                                  simp only [List.getElem?_toArray, List.getElem?_cons_zero, k1] at g0
                                  obtain ⟨w5s, hw5s⟩ : ∃ w5s, w5.setCell ⟨wb, sN, none⟩ (.slice (some ⟨w4.heap.size + 1, 0, none⟩) 256 256) = w5s := ⟨_, rfl⟩
                                  rw [hw5s] at hK6 g0 g0l
                                  have HK4 : Hid (∀ q', KpS w (w5s.drewN q') _ g dg nn most (t + 1025) wb D' L') := Lib.hid (fun q' => hK6.below (drewN_below _ q'))
                                  have HG0 := Lib.hid (And.intro g0 g0l)
                                  clear hb5b hB5 hb5 hK6 hbne g0l)
                  all_goals
                    go_wp2_with fail
                    go_quiet (fail)
                    go_wp2_with fail
                    refine (HH.out _ ((HK4.out _).cs.less fun k h => h.elim)).mono ?_
                    rintro en w6 ⟨rfl, hb6⟩
                    have HKN : Hid (KpI w w6 g dg nn most wb (i + 1)) := Lib.hid ⟨_, t + 1025, D', L', by have := HO.out.2.2.2; omega, (HK4.out _).below hb6⟩
                    have g9 := (hb6.cell (p := ⟨w8.heap.size, 0, none⟩) HG0.out.2).trans HG0.out.1
                    clear hb6
                    go_wp2_with fail
                    go_roundw
                    case rel => exact ⟨i + 1, by omega, by go_num, HKN⟩
                    case measure => simp [intOf]; omega
                · rw [k1] at f0
                  have HNW : Hid (∀ j : Nat, ¬ (o.kind = 1 ∧ e = 0 ∧ (j : Int) = o.s)) := Lib.hid (fun j h => he h.2.1)
                  have e0n : (e == 0) = false := by simpa using he
                  have HK4 : Hid (∀ q', KpS w ((w4.alloc (.cells #[.slice A1 ln c1, .bool is, .int .i64 e] 39)).drewN q') (fun k => (X k ∨ k = w8.heap.size) ∨ k = q) g dg nn most (t + 1025) wb D' L') := Lib.hid (fun q' => ((HB2.out.1.did HD.out.2.2.2.1 HD.out.2.2.2.2.1 (fun j => by rw [HD.out.1.what_ j, if_neg (HNW.out j)])).below ((Below.refl _ _).alloc (Nat.le_refl _) _)).below (drewN_below _ q'))
                  go_wp2_with fail
                  go_quiet (fail)
                  go_wp2_with fail
                  refine (HH.out _ ((HK4.out _).cs.less fun k h => h.elim)).mono ?_
                  rintro en w6 ⟨rfl, hb6⟩
                  have HKN : Hid (KpI w w6 g dg nn most wb (i + 1)) := Lib.hid ⟨_, t + 1025, D', L', by have := HO.out.2.2.2; omega, (HK4.out _).below hb6⟩
                  have g0 := (hb6.cell (p := ⟨w8.heap.size, 0, none⟩) (by have h7 := HD.out.2.2.2.2.2.1.lt; show w8.heap.size < (w4.alloc _).heap.size; rw [World.size_alloc]; omega)).trans (f0 (.cells #[.slice A1 ln c1, .bool is, .int .i64 e] 39))
                  clear hb6
                  go_wp2_with fail
                  go_roundw
                  case rel => exact ⟨i + 1, by omega, by go_num, HKN⟩
                  case measure => simp [intOf]; omega
              · by_cases k6 : o.kind = 6
                · obtain ⟨he, hcl, hDS⟩ := HD.out.1.flush k6
                  subst he
                  have HNW : Hid (∀ j : Nat, ¬ (o.kind = 1 ∧ (0 : Int) = 0 ∧ (j : Int) = o.s)) := Lib.hid (fun j h => k1 h.1)
                  rw [k6] at f0
                  have HK4 : Hid (∀ q', KpS w ((w4.alloc (.cells #[.slice A1 ln c1, .bool is, .int .i64 0] 39)).drewN q') (fun k => (X k ∨ k = w8.heap.size) ∨ k = q) g dg nn most (t + 1025) wb D' L') := Lib.hid (fun q' => ((HB2.out.1.did HD.out.2.2.2.1 HD.out.2.2.2.2.1 (fun j => by rw [HD.out.1.what_ j, if_neg (HNW.out j)])).below ((Below.refl _ _).alloc (Nat.le_refl _) _)).below (drewN_below _ q'))
                  have hdn0 : dn = 0 := by rw [← HDN.out, List.countP_eq_zero]; intro x hx; rw [hcl x hx]; decide
                  have q4 : ((dn : Int) != 0) = false := by simp; omega
                  have q5 : ((nn : Int) != (nn : Int)) = false := by simp
                  have HDS2 := Lib.hid hDS
                  clear hcl hDS hdn0
                  go_wp2_with fail
                  go_quiet (fail)
                  go_wp2_with fail
                  refine (HH.out _ ((HK4.out _).cs.less fun k h => h.elim)).mono ?_
                  rintro en w6 ⟨rfl, hb6⟩
                  have hlt4 : w8.heap.size < (w4.alloc (.cells #[.slice A1 ln c1, .bool is, .int .i64 0] 39)).heap.size := by have h7 := HD.out.2.2.2.2.2.1.lt; rw [World.size_alloc]; omega
                  have hlt5 : w4.heap.size < (w4.alloc (.cells #[.slice A1 ln c1, .bool is, .int .i64 0] 39)).heap.size := by rw [World.size_alloc]; omega
                  have g0 := (hb6.cell (p := ⟨w8.heap.size, 0, none⟩) hlt4).trans (f0 (.cells #[.slice A1 ln c1, .bool is, .int .i64 0] 39))
                  have t2 := (hb6.cell (p := ⟨w4.heap.size, 2, none⟩) hlt5).trans ((Blk.new w4 39 #[.slice A1 ln c1, .bool is, .int .i64 0]).cell 2)
                  simp only [List.getElem?_toArray, List.getElem?_cons_zero, List.getElem?_cons_succ] at t2
                  have hK6 := (HK4.out _).below hb6
                  have HIM := Lib.hid hK6.cs.image
                  have HK6 := Lib.hid hK6
                  have hlt6 : w8.heap.size < w6.heap.size := Nat.lt_of_lt_of_le hlt4 hb6.size
                  have hlt7 : w4.heap.size < w6.heap.size := Nat.lt_of_lt_of_le hlt5 hb6.size
                  clear hb6 hK6 hlt4 hlt5
                  go_wp2_with fail
                  refine HIM.out.mono ?_
                  rintro en w7 ⟨rfl, hS7, hb7⟩
                  have t7 := (hb7.cell (p := ⟨w4.heap.size, 2, none⟩) hlt7).trans t2
                  have HK7 := Lib.hid (HK6.out.below hb7)
                  have hrows : ∀ k, k < nn → ∃ A c B d, w7.cell? ⟨w6.heap.size, k, none⟩ = some (.slice A 256 c) ∧ w7.cell? ⟨wb, k, none⟩ = some (.slice B 256 d) ∧ Bytes w7 A (what D' L' k) ∧ Bytes w7 B (what D' L' k) ∧ (what D' L' k).length = 256 ∧ w6.heap.size < w7.heap.size ∧ wb < w7.heap.size := fun k hk => by
                    have hwl := what_len HK7.out.cs.st hk
                    obtain ⟨A, c, z1, z2, _⟩ := hS7.cell (k := k) (by rw [HK7.out.cs.st.hale.len]; exact hk) (HDS2.out k)
                    obtain ⟨vw, z3, B, d, rfl, _, _, z4, _⟩ := HK7.out.secs.at_ (k := k) (wantL_get D' L' hk)
                    rw [hwl] at z1 z3
                    exact ⟨A, c, B, d, z1, z3, z2, z4, hwl, hS7.lt, HK7.out.secs.lt⟩
                  have HROWS := Lib.hid hrows
                  clear hS7 hb7 hrows t2 HIM g0 hlt6 hlt7 HK6 HK4
                  go_wp2_with fail
                  go_loopw [21] (fun kv wr => ∃ k : Nat, k ≤ nn ∧ kv = .int .i64 (k : Int) ∧ Hid (Below w7.heap.size w7 wr)) (fun kv _ => nn - (intOf kv).toNat)
                  case atStart => exact ⟨0, Nat.zero_le _, rfl, Lib.hid (Below.refl _ _)⟩
                  case round =>
                    obtain ⟨k, hk', rfl, hb⟩ := hrel
                    by_cases hkn : k < nn
                    · have hdk : decide ((k : Int) < (nn : Int)) = true := by simpa using hkn
                      obtain ⟨A, c, B, d, z1, z2, z3, z4, z5, z6, z7⟩ := HROWS.out k hkn
                      have y1 := (hb.out.cell (p := ⟨w6.heap.size, k, none⟩) z6).trans z1
                      have y2 := (hb.out.cell (p := ⟨wb, k, none⟩) z7).trans z2
                      have HSM1 : Hid (∀ q', Calls Try.prog 14 #[.slice A 256 c, .slice B 256 d] (wr.drewN q') fun en w' => en = .returned (.bool true) ∧ w' = wr.drewN q') := Lib.hid (fun q' => by
                        refine (samet_any A B 256 c 256 d (what D' L' k) _ z5 z5 ((z3.below hb.out).below (drewN_below _ q')) ((z4.below hb.out).below (drewN_below _ q'))).mono ?_
                        rintro en w' ⟨rfl, h⟩
                        exact ⟨rfl, h.symm⟩)
                      have HB3 : Hid (∀ q', Below w7.heap.size w7 (wr.drewN q')) := Lib.hid (fun q' => hb.out.trans ((drewN_below _ q').mono hb.out.size))
                      clear z1 z2 z3 z4 z5 z6 z7
                      go_wp2_with fail
                      go_quiet (first | (go_at_call 14; exact Calls.quiet_of_same (HSM1.out _)))
                      go_wp2_with fail
                      go_roundw
                      case rel => exact ⟨k + 1, by omega, by go_num, Lib.hid (HB3.out _)⟩
                      case measure => simp [intOf]; omega
                    · obtain rfl : nn = k := by omega
                      have hdk : decide ((nn : Int) < (nn : Int)) = false := by simp
                      have HKN : Hid (KpI w wr g dg nn most wb (i + 1)) := Lib.hid ⟨_, t + 1025, D', L', by have := HO.out.2.2.2; omega, HK7.out.below hb.out⟩
                      clear hb
                      go_wp2_with fail
                      go_roundw
                      case rel => exact ⟨i + 1, by omega, by go_num, HKN⟩
                      case measure => simp [intOf]; omega
                · have HNW : Hid (∀ j : Nat, ¬ (o.kind = 1 ∧ e = 0 ∧ (j : Int) = o.s)) := Lib.hid (fun j h => by omega)
                  have d0 : (o.kind == 0) = false := by simpa using k0
                  have d1 : (o.kind == 1) = false := by simpa using k1
                  have d6 : (o.kind != 6) = true := by simpa using k6
                  have HK4 : Hid (∀ q', KpS w ((w4.alloc (.cells #[.slice A1 ln c1, .bool is, .int .i64 e] 39)).drewN q') (fun k => (X k ∨ k = w8.heap.size) ∨ k = q) g dg nn most (t + 1025) wb D' L') := Lib.hid (fun q' => ((HB2.out.1.did HD.out.2.2.2.1 HD.out.2.2.2.2.1 (fun j => by rw [HD.out.1.what_ j, if_neg (HNW.out j)])).below ((Below.refl _ _).alloc (Nat.le_refl _) _)).below (drewN_below _ q'))
                  go_wp2_with fail
                  go_quiet (fail)
                  go_wp2_with fail
                  refine (HH.out _ ((HK4.out _).cs.less fun k h => h.elim)).mono ?_
                  rintro en w6 ⟨rfl, hb6⟩
                  have HKN : Hid (KpI w w6 g dg nn most wb (i + 1)) := Lib.hid ⟨_, t + 1025, D', L', by have := HO.out.2.2.2; omega, (HK4.out _).below hb6⟩
                  have g0 := (hb6.cell (p := ⟨w8.heap.size, 0, none⟩) (by have h7 := HD.out.2.2.2.2.2.1.lt; show w8.heap.size < (w4.alloc _).heap.size; rw [World.size_alloc]; omega)).trans (f0 (.cells #[.slice A1 ln c1, .bool is, .int .i64 e] 39))
                  clear hb6
                  go_wp2_with fail
                  go_roundw
                  case rel => exact ⟨i + 1, by omega, by go_num, HKN⟩
                  case measure => simp [intOf]; omega
        · obtain rfl : len = i := by omega
          have hdi : decide ((len : Int) < (len : Int)) = false := by simp
          obtain ⟨X, t, D, L, ht, hS⟩ := hK.out
          have H9 := Lib.hid (works_any w8)
          have HB := Lib.hid hS.cs.bel
          clear hK hS
          go_wp2_with fail
          refine H9.out.mono ?_
          rintro e w9 ⟨rfl, hb⟩
          have HB2 := Lib.hid (HB.out.trans (hb.mono HB.out.size))
          clear hb
          go_wp2_with fail
          go_ret
          exact ⟨rfl, HB2.out⟩
end Go.Proofs.Ytiemfhncadcemaa
