/- DiskPlays. -/
import Derived.Test.YtdohfkblmadejaaTake
import Derived.Deep.RegionHeld
namespace Go.Proofs.Ytdohfkblmadejaa
open Go.RowKit Dsk

theorem do_steps (D : DS) (st : St) : (doD D st).steps ≤ D.steps + 1 ∧ (doD D st).P.length ≤ D.P.length + 1 := by
  unfold doD
  split
  · exact write_steps D st.s st.B
  · split
    · have := bar_steps D; omega
    · split
      · unfold armD; split <;> (try split) <;> exact ⟨Nat.le_succ _, Nat.le_succ _⟩
      · split
        · exact ⟨Nat.le_succ _, Nat.le_succ _⟩
        · split
          · unfold onD; split
            · exact ⟨Nat.le_succ _, Nat.zero_le _⟩
            · exact ⟨Nat.le_succ _, Nat.le_succ _⟩
          · exact ⟨Nat.le_succ _, Nat.le_succ _⟩

/-- A disk and the reference's that say the same, apart from each other. -/
structure Pair (w wr : World) (g r : Nat) (D : DS) : Prop where
  ex : ∃ F, Run w wr F g D ∧ Ref wr F r D ∧ ∀ k, F k → w.heap.size ≤ k

theorem Pair.below {w wr w' : World} {g r : Nat} {D : DS} (h : Pair w wr g r D) (hb : Below wr.heap.size wr w') : Pair w w' g r D := by
  obtain ⟨F, h1, h2, h3⟩ := h.ex
  exact ⟨⟨F, h1.below hb, h2.below hb, h3⟩⟩
theorem Pair.bel {w wr : World} {g r : Nat} {D : DS} (h : Pair w wr g r D) : Below w.heap.size w wr := by obtain ⟨F, h1, _⟩ := h.ex; exact h1.bel

/-- The step's two answers, where no bytes are answered. -/
theorem Pair.none_ {w wr : World} {g r : Nat} {D : DS} (h : Pair w wr g r D) (v0 v1 v2 v3 : Value) (st : St) (hv : StV w v0 v1 v2 v3 st) (hB : st.B.length ≤ 1024) (hK : st.K.length ≤ 256) (hP : D.P.length < 1000000) (hS : D.steps < 1000000000) (hn : ¬ (st.kind = 0 ∧ readE D st.s = 0)) :
    Calls Try.prog 14 #[.pointer (some ⟨g, 0, none⟩), .agg #[v0, v1, v2, v3]] wr fun e w' => e = .returned (.tuple #[.slice none 0 0, .int .i64 (doE D st)]) ∧ Below w.heap.size w w' ∧
      Calls Try.prog 15 #[.pointer (some ⟨r, 0, none⟩), .agg #[v0, v1, v2, v3]] w' fun e w'' => e = .returned (.tuple #[.slice none 0 0, .int .i64 (doE D st)]) ∧ Pair w w'' g r (doD D st) := by
  obtain ⟨F, h1, h2, h3⟩ := h.ex
  refine (h1.do_none v0 v1 v2 v3 st (hv.below h1.bel) hB hK hP hS hn).mono ?_
  rintro e w' ⟨rfl, hR, hk⟩
  refine ⟨rfl, hR.bel, ?_⟩
  refine ((h2.keep hk).meant_none h3 hR.bel v0 v1 v2 v3 st hv hK hP hS hn).mono ?_
  rintro e w'' ⟨rfl, hR2, ho⟩
  exact ⟨rfl, ⟨⟨grow F w' w'', hR.turn ho (fun k hk => ⟨hk, h3 k hk⟩) _ (fun k hk => hk), hR2, fun k hk => hk.elim (h3 k) fun e => by have := hR.bel.size; omega⟩⟩⟩

/-- .. and where some are. -/
theorem Pair.some_ {w wr : World} {g r : Nat} {D : DS} (h : Pair w wr g r D) (v0 v1 v2 v3 : Value) (st : St) (hv : StV w v0 v1 v2 v3 st) (hk : st.kind = 0) (he : readE D st.s = 0) :
    Calls Try.prog 14 #[.pointer (some ⟨g, 0, none⟩), .agg #[v0, v1, v2, v3]] wr fun e w' => ∃ b, e = .returned (.tuple #[.slice (some ⟨b, 0, none⟩) 256 256, .int .i64 0]) ∧ wr.heap.size ≤ b ∧ Blk w' b 5 (row8 (readS D st.s.toNat)) ∧ (readS D st.s.toNat).length = 256 ∧
      (∃ F, Run w w' (fun k => F k ∨ k = b) g D ∧ Ref w' F r D ∧ ∀ k, F k → w.heap.size ≤ k ∧ k < wr.heap.size) := by
  obtain ⟨F, h1, h2, h3⟩ := h.ex
  refine (h1.do_yes v0 v1 v2 v3 st (hv.below h1.bel) hk he).mono ?_
  rintro e w' ⟨b, rfl, hb, hB, hl, hR, hkp⟩
  exact ⟨b, rfl, hb, hB, hl, F, hR, h2.keep hkp, fun k hk => ⟨h3 k hk, h2.lt k hk⟩⟩

theorem Pair.alike_ {w wr : World} {g r : Nat} {D : DS} (h : Pair w wr g r D) :
    Calls Try.prog 17 #[.pointer (some ⟨g, 0, none⟩), .pointer (some ⟨r, 0, none⟩)] wr fun e w' => e = .returned (.bool true) ∧ Below wr.heap.size wr w' := by
  obtain ⟨F, ⟨⟨F', h1, _⟩, _⟩, h2, _⟩ := h.ex
  exact alike_any g r F' F D wr h1 h2

/-- The four cells of a step. -/
structure C4 (w : World) (b o : Nat) (v0 v1 v2 v3 : Value) : Prop where
  c0 : w.cell? ⟨b, o, none⟩ = some v0
  c1 : w.cell? ⟨b, o + 1, none⟩ = some v1
  c2 : w.cell? ⟨b, o + 2, none⟩ = some v2
  c3 : w.cell? ⟨b, o + 3, none⟩ = some v3
theorem C4.below {w w' : World} {b o : Nat} {v0 v1 v2 v3 : Value} (h : C4 w b o v0 v1 v2 v3) (hb : Below w.heap.size w w') : C4 w' b o v0 v1 v2 v3 := by
  have hlt := World.block_lt_of_cell? w _ h.c0
  exact ⟨(hb.cell (p := ⟨b, o, none⟩) hlt).trans h.c0, (hb.cell (p := ⟨b, o + 1, none⟩) hlt).trans h.c1, (hb.cell (p := ⟨b, o + 2, none⟩) hlt).trans h.c2, (hb.cell (p := ⟨b, o + 3, none⟩) hlt).trans h.c3⟩

/-- Between the rounds of DiskPlays. -/
def PInv (w wr : World) (g r j : Nat) : Prop := ∃ D, Pair w wr g r D ∧ D.steps ≤ j ∧ D.P.length ≤ j

set_option maxRecDepth 20000 in
set_option maxHeartbeats 4000000 in
theorem plays_walk (n len cap : Nat) (A : Option Addr) (ls : List St) (w : World) (hn : 16 ≤ n ∧ n ≤ 64) (hlen : ls.length = len) (hA : Steps w A ls) (hv : vastB ls = false) :
    Calls Try.prog 3 #[.int .i64 (n : Int), .slice A len cap] w fun e W' => e = .returned (.bool true) ∧ Below w.heap.size w W' := by
  have h0 := vast_any A len cap ls w hlen hA
  rw [hv] at h0
  have H0 := Lib.hid h0
  obtain ⟨hl120, hsm⟩ := vastB_no hv
  rw [hlen] at hl120
  have HSM := Lib.hid hsm
  have HA := Lib.hid hA
  have HL := Lib.hid hlen
  have hn1 : decide ((64 : Int) < (n : Int)) = false := by simp; omega
  have H1 := Lib.hid (Run.new n w w (fun _ => False) (fun _ h => h.elim) (Below.refl _ _) ⟨hn.1, by omega⟩)
  have HN := Lib.hid hn
  clear hA hlen hv h0 hsm hn
  go_enter Try.func3, Try.ntmps3
  go_wp2_with fail
  refine H0.out.mono ?_
  rintro e w' ⟨rfl, rfl⟩
  go_wp2_with fail
  refine H1.out.mono ?_
  rintro e w1 ⟨g, rfl, hR1, _⟩
  have H2 := Lib.hid (rnew_ok n w1 ⟨HN.out.1, by have := HN.out.2; omega⟩)
  have HR1 := Lib.hid hR1
  clear hR1 H0 H1
  go_wp2_with fail
  refine H2.out.mono ?_
  rintro e w2 ⟨r, rfl, hRf, hb2⟩
  have HINV : Hid (PInv w w2 g r 0) := Lib.hid ⟨newD n, ⟨⟨fun k => w1.heap.size ≤ k ∧ k < w2.heap.size, HR1.out.add hb2 _ (fun k hk => .inr hk), hRf, fun k hk => by have := HR1.out.size; omega⟩⟩, Nat.le_refl _, Nat.le_refl _⟩
  clear hRf hb2 H2 HR1
  go_wp2_with fail
  go_loopw [9, 10, 11, 12, 13, 14] (fun i a b c d e wr => ∃ j : Nat, j ≤ len ∧ i = .int .i64 (j : Int) ∧ Hid (PInv w wr g r j)) (fun i _ _ _ _ _ _ => len - (intOf i).toNat)
  case atStart => exact ⟨0, Nat.zero_le _, rfl, HINV⟩
  case round =>
    obtain ⟨j, hj, rfl, hI⟩ := hrel
    clear HINV
    obtain ⟨D, hP, hst, hpl⟩ := hI.out
    have HB := Lib.hid hP.bel
    by_cases hlt : j < len
    · have hd : decide ((j : Int) < (len : Int)) = true := by simpa using hlt
      obtain ⟨st, hsj⟩ : ∃ st, ls[j]? = some st := ⟨_, List.getElem?_eq_getElem (by rw [HL.out]; exact hlt)⟩
      have hsmall := HSM.out st (List.mem_of_getElem? hsj)
      obtain ⟨b, off, v0, v1, v2, v3, rfl, hblt, c0, c1, c2, c3, hs4⟩ := HA.out j st hsj
      have HC : Hid (C4 w b (off + j * 4) v0 v1 v2 v3) := Lib.hid ⟨c0, c1, c2, c3⟩
      obtain ⟨c0, c1, c2, c3⟩ := HC.out.below HB.out
      have HST := Lib.hid hs4
      have HP := Lib.hid hP
      have HBD : Hid (D.steps ≤ j ∧ D.P.length ≤ j) := Lib.hid ⟨hst, hpl⟩
      have hds := do_steps D st
      have hsv : Hid (v0 = .int .i64 st.kind ∧ v1 = .int .i64 st.s ∧ (∃ A c, v2 = .slice A st.B.length c) ∧ ∃ A c, v3 = .slice A st.K.length c) := Lib.hid ⟨hs4.kind.1, hs4.s.1, (by obtain ⟨A, c, e, _⟩ := hs4.B; exact ⟨A, c, e⟩), (by obtain ⟨A, c, e, _⟩ := hs4.K; exact ⟨A, c, e⟩)⟩
      have hp9 : D.P.length < 1000000 ∧ D.steps < 1000000000 := by omega
      by_cases hq : st.kind = 0 ∧ readE D st.s = 0
      · have H4 := Lib.hid (hP.some_ v0 v1 v2 v3 st hs4 hq.1 hq.2)
        have hm4 := fun (w' : World) (F : Nat → Prop) (hr : Ref w' F r D) => hr.meant_yes v0 v1 v2 v3 st hs4 hq.1 hp9.1 hq.2
        have HM4 := Lib.hid hm4
        obtain ⟨rfl, rfl, ⟨A2, x2, rfl⟩, ⟨A3, x3, rfl⟩⟩ := hsv.out
        clear hsv hm4 hs4 hP hI hsj hst hpl hds hq hblt
        go_wp2_with fail
        refine H4.out.mono ?_
        rintro e w4 ⟨bb, rfl, hbb, hB4, hl4, F, hR4, hF4, hFw⟩
        have HR4 := Lib.hid hR4
        have HF4 := Lib.hid hF4
        have HFW := Lib.hid hFw
        have HB4 := Lib.hid hB4
        have HL4 := Lib.hid hl4
        have HBB := Lib.hid hbb
        obtain ⟨d0, d1, d2, d3⟩ := HC.out.below hR4.bel
        have H5 := Lib.hid (HM4.out w4 F hF4)
        clear hbb hB4 hl4 hR4 hF4 hFw H4 HM4
        generalize readS D st.s.toNat = ws at *
        go_wp2_with fail
        refine H5.out.mono ?_
        rintro e w5 ⟨cb, cc, rfl, hcb, hRw5, hw5⟩
        have hcc := hRw5.le
        have hcm := hRw5.max
        unfold maxLen at hcm
        have hB5 := HB4.out.below hw5 HB4.out.lt
        have h6 := eq_any (some ⟨bb, 0, none⟩) (some ⟨cb, 0, none⟩) 256 256 256 cc ws ws w5 HL4.out HL4.out (Bytes.row hB5) hRw5.bytes (by decide) (by omega)
        rw [decide_eq_true (rfl : ws = ws)] at h6
        have H6 := Lib.hid h6
        have HB5 := Lib.hid hB5
        have HR5 := Lib.hid (HR4.out.below hw5)
        have HF5 := Lib.hid (HF4.out.below hw5)
        clear h6 hB5 hRw5 hw5 H5 HB4 HR4 HF4
        go_wp2_with fail
        refine H6.out.mono ?_
        rintro e w6 ⟨rfl, hw6⟩
        have hR6 := HR5.out.below hw6
        have hF6 := HF5.out.below hw6
        have H7 : Hid (Calls Try.prog 17 #[.pointer (some ⟨g, 0, none⟩), .pointer (some ⟨r, 0, none⟩)] w6 fun e w' => e = .returned (.bool true) ∧ Below w6.heap.size w6 w') := by
          obtain ⟨F', hD, _⟩ := hR6.own
          exact Lib.hid (alike_any g r F' F D w6 hD hF6)
        have HB6 := Lib.hid (HB5.out.below hw6 HB5.out.lt)
        have HR6 := Lib.hid hR6
        have HF6 := Lib.hid hF6
        clear hw6 hR6 hF6 H6 HB5 HR5 HF5
        go_wp2_with fail
        refine H7.out.mono ?_
        rintro e w7 ⟨rfl, hw7⟩
        have HM7 : Hid (Mut w7 bb 256) := Lib.hid (by
          have hb := HB6.out.below hw7 HB6.out.lt
          refine ⟨hb.lt, fun i hi => ?_, fun i _ => hb.frozen i⟩
          obtain ⟨x, hx⟩ : ∃ x, ws[i]? = some x := ⟨_, List.getElem?_eq_getElem (by rw [HL4.out]; exact hi)⟩
          exact ⟨x, by rw [hb.cell i]; exact row8_get i x hx⟩)
        have HR7 := Lib.hid (HR6.out.below hw7)
        have HF7 := Lib.hid (HF6.out.below hw7)
        clear hw7 H7 HB6 HR6 HF6
        obtain ⟨wo, hwo⟩ : ∃ wo, wo = wr := ⟨_, rfl⟩
        have HBW : Hid (w.heap.size ≤ bb ∧ ∀ k, F k → w.heap.size ≤ k ∧ k < bb) := Lib.hid ⟨by have := HBB.out; have := HB.out.size; omega, fun k hk => ⟨(HFW.out k hk).1, by have := (HFW.out k hk).2; have := HBB.out; omega⟩⟩
        clear HBB HFW c0 c1 c2 c3 d0 d1 d2 d3 HC HST
        go_wp2_with fail
        subst hwo
        go_loopw [14] (fun i wr => ∃ q : Nat, q ≤ 256 ∧ i = .int .i64 (q : Int) ∧ Hid (Mut wr bb 256) ∧ Hid (Run w wr (fun k => F k ∨ k = bb) g D ∧ Ref wr F r D)) (fun i _ => 256 - (intOf i).toNat)
        case atStart => exact ⟨0, Nat.zero_le _, rfl, HM7, Lib.hid ⟨HR7.out, HF7.out⟩⟩
        case round =>
          obtain ⟨q, hq, rfl, hM, hRF⟩ := hrel
          clear HM7 HR7 HF7
          by_cases hlq : q < 256
          · have hdq : decide ((q : Int) < 256) = true := by simp; omega
            obtain ⟨x, hcx⟩ := hM.out.cell q hlq
            have hfx := hM.out.free q hlq
            obtain ⟨c', hw⟩ := u8_succ x
            have HM2 := Lib.hid (hM.out.set_ q c')
            have HRF2 : Hid (Run w (wr.setCell ⟨bb, q, none⟩ (bv c')) (fun k => F k ∨ k = bb) g D ∧ Ref (wr.setCell ⟨bb, q, none⟩ (bv c')) F r D) := Lib.hid
              ⟨hRF.out.1.turn (Off.setc wr bb q (bv c')) (fun k hk => ⟨.inr hk, by rw [show k = bb from hk]; exact HBW.out.1⟩) _ (fun k hk => .inl hk),
                hRF.out.2.off (Off.setc wr bb q (bv c')) (fun k hk e => by have := (HBW.out.2 k hk).2; rw [show k = bb from e] at this; omega)⟩
            unfold bv at hcx
            clear hM hRF
            go_wp2
            go_roundw
            case rel => exact ⟨q + 1, by omega, by go_num, HM2, HRF2⟩
            case measure => simp [intOf]; omega
          · obtain rfl : q = 256 := by omega
            have HINV : Hid (PInv w wr g r (j + 1)) := Lib.hid ⟨D, ⟨⟨F, hRF.out.1.less fun k hk => .inl hk, hRF.out.2, fun k hk => (HBW.out.2 k hk).1⟩⟩, by have := HBD.out; omega, by have := HBD.out; omega⟩
            clear hM hRF
            go_wp2
            go_roundw
            case rel => exact ⟨j + 1, by omega, by go_num, HINV⟩
            case measure => simp [intOf]; omega
      · have H4 := Lib.hid (hP.none_ v0 v1 v2 v3 st hs4 hsmall.1 hsmall.2 hp9.1 hp9.2 hq)
        have HDS : Hid ((doD D st).steps ≤ j + 1 ∧ (doD D st).P.length ≤ j + 1) := Lib.hid (by omega)
        obtain ⟨rfl, rfl, ⟨A2, x2, rfl⟩, ⟨A3, x3, rfl⟩⟩ := hsv.out
        clear hsv hs4 hP hI hsj hst hpl hds hq hblt hp9
        generalize doD D st = DN at *
        generalize doE D st = ee at *
        go_wp2_with fail
        refine H4.out.mono ?_
        rintro e w4 ⟨rfl, hb4, h5⟩
        obtain ⟨d0, d1, d2, d3⟩ := HC.out.below hb4
        have H5 := Lib.hid h5
        clear hb4 h5 H4
        go_wp2_with fail
        refine H5.out.mono ?_
        rintro e w5 ⟨rfl, hP5⟩
        have h6 := eq_any none none 0 0 0 0 [] [] w5 rfl rfl (Bytes.nil _ _) (Bytes.nil _ _) (by decide) (by decide)
        rw [decide_eq_true (rfl : ([] : List UInt8) = [])] at h6
        have H6 := Lib.hid h6
        have HP5 := Lib.hid hP5
        have hee : (ee != ee) = false := by simp
        clear h6 hP5 H5 c0 c1 c2 c3 d0 d1 d2 d3 HC HST
        go_wp2_with fail
        refine H6.out.mono ?_
        rintro e w6 ⟨rfl, hw6⟩
        have hP6 := HP5.out.below hw6
        have H7 := Lib.hid hP6.alike_
        have HP6 := Lib.hid hP6
        clear hw6 hP6 H6 HP5
        go_wp2_with fail
        refine H7.out.mono ?_
        rintro e w7 ⟨rfl, hw7⟩
        have HINV : Hid (PInv w w7 g r (j + 1)) := Lib.hid ⟨DN, HP6.out.below hw7, HDS.out.1, HDS.out.2⟩
        clear hw7 H7 HP6
        obtain ⟨wo, hwo⟩ : ∃ wo, wo = wr := ⟨_, rfl⟩
        go_wp2_with fail
        subst hwo
        go_loopw [14] (fun i wr => i = .int .i64 0 ∧ Hid (PInv w wr g r (j + 1))) (fun i _ => 0)
        case atStart => exact ⟨rfl, HINV⟩
        case round =>
          obtain ⟨rfl, hI2⟩ := hrel
          clear HINV
          go_wp2
          go_roundw
          case rel => exact ⟨j + 1, by omega, by go_num, hI2⟩
          case measure => simp [intOf]; omega
    · obtain rfl : j = len := by omega
      have hd : decide ((j : Int) < (j : Int)) = false := by simp
      obtain ⟨F, hRun, hRef, _⟩ := hP.ex
      have hok := hRef.ok
      have himg := (hRun.below (Below.refl _ wr).drew).image
      obtain ⟨E, gs, c, pv, hk, _⟩ := hRef
      have hcc := hk.cap
      have hc0 : ∀ W : World, Below wr.heap.size wr W → W.cell? ⟨r, 0, none⟩ = some (.slice (some ⟨gs, 0, none⟩) D.S.length c) := fun W hW => (hW.cell (p := ⟨r, 0, none⟩) hk.head.lt).trans hk.hd.c0
      have hln : ∀ b ∈ D.S, b.length ≤ 4503599627370496 := fun b hb => by rcases hok.sec b hb with rfl | h <;> simp_all
      have hsame : ∀ (E' : Nat → Prop) (W : World), Below wr.heap.size wr W → Secs W E' wr.heap.size D.S → Calls Try.prog 18 #[.slice (some ⟨wr.heap.size, 0, none⟩) D.S.length D.S.length, .slice (some ⟨gs, 0, none⟩) D.S.length c] W fun e w' => e = .returned (.bool true) ∧ Below W.heap.size W w' := fun E' W hW hS => by
        have h := same_any (some ⟨wr.heap.size, 0, none⟩) (some ⟨gs, 0, none⟩) D.S.length D.S.length D.S.length c D.S D.S W rfl rfl hS.img (hk.secs.img.below hW) (by have := hok.hi; omega) hln hln
        rw [decide_eq_true (rfl : D.S = D.S)] at h
        exact h
      have HIM := Lib.hid himg
      have HC0 := Lib.hid hc0
      have HSM := Lib.hid hsame
      clear hRun himg hk hc0 hln hsame hok hP hI hst hpl
      generalize D.S = SS at *
      go_wp2_with fail
      go_region_held (fun W => W.cell? ⟨r, 0, none⟩ = some (.slice (some ⟨gs, 0, none⟩) SS.length c))
        (first | exact HC0.out _ (Below.refl _ wr).drew | exact HC0.out _ hw10 | exact HC0.out _ hw9 | exact HC0.out _ hw8)
        (first
          | (go_at_call 19; refine Calls.mono HIM.out ?_; rintro e w8 ⟨rfl, hS8, hb8⟩; have hw8 : Below wr.heap.size wr w8 := (Below.refl _ wr).drew.trans hb8)
          | (go_at_call 18; refine Calls.mono (HSM.out _ _ hw8 hS8) ?_; rintro e w9 ⟨rfl, hb9⟩; have hw9 := hw8.trans (hb9.mono hw8.size))
          | (go_at_call 11; refine Calls.mono (works_any _) ?_; rintro e w10 ⟨rfl, hb10⟩; have hw10 := hw9.trans (hb10.mono hw9.size)))
      all_goals
        go_wp2_with fail
        go_ret
        exact ⟨rfl, HB.out.trans (hw10.mono HB.out.size)⟩

set_option maxRecDepth 20000 in
set_option maxHeartbeats 2000000 in
theorem plays_any (n : Int) (len cap : Nat) (A : Option Addr) (ls : List St) (w : World) (hlen : ls.length = len) (hA : Steps w A ls) :
    Calls Try.prog 3 #[.int .i64 n, .slice A len cap] w fun e W' => e = .returned (.bool true) ∧ Below w.heap.size w W' := by
  have h0 := vast_any A len cap ls w hlen hA
  have HW := Lib.hid (works_any w)
  cases hv : vastB ls
  · by_cases hn : 16 ≤ n ∧ n ≤ 64
    · obtain ⟨m, rfl⟩ : ∃ m : Nat, n = m := ⟨n.toNat, by omega⟩
      exact plays_walk m len cap A ls w (by omega) hlen hA hv
    rw [hv] at h0
    have H0 := Lib.hid h0
    by_cases h64 : 64 < n ∧ n ≤ 4096
    · have d1 : decide (64 < n) = true := by simp; omega
      have d2 : decide (n ≤ 4096) = true := by simp; omega
      clear hA h0 hv hn h64
      go_enter Try.func3, Try.ntmps3
      go_wp2_with fail
      refine H0.out.mono ?_
      rintro e w' ⟨rfl, rfl⟩
      go_wp2_with fail
      refine HW.out.mono ?_
      rintro e w2 ⟨rfl, hb⟩
      have HB := Lib.hid hb
      clear hb
      go_wp2_with fail
      go_ret
      exact ⟨rfl, HB.out⟩
    · have H1 := Lib.hid (new_no n w (by omega))
      have H2 := Lib.hid (rnew_no n w (by omega))
      have hd : (decide (64 < n) && decide (n ≤ 4096)) = false := by simp; omega
      by_cases h6 : 64 < n
      · have d1 : decide (64 < n) = true := by simpa using h6
        have d2 : decide (n ≤ 4096) = false := by simp; omega
        clear hA h0 hv hn h64 hd
        go_enter Try.func3, Try.ntmps3
        go_wp2_with fail
        refine H0.out.mono ?_
        rintro e w' ⟨rfl, rfl⟩
        go_wp2_with fail
        refine H1.out.mono ?_
        rintro e w' ⟨rfl, rfl⟩
        go_wp2_with fail
        refine H2.out.mono ?_
        rintro e w' ⟨rfl, rfl⟩
        go_wp2_with fail
        go_loopw [9, 10, 11, 12, 13, 14] (fun i a b c d e wr => i = .int .i64 0 ∧ Hid (w = wr)) (fun i _ _ _ _ _ _ => 0)
        case atStart => exact ⟨rfl, Lib.hid rfl⟩
        case round =>
          obtain ⟨rfl, hw⟩ := hrel
          obtain rfl := hw.out
          clear hw
          by_cases hl0 : 0 < len
          · have hd0 : decide ((0 : Int) < (len : Int)) = true := by simp; omega
            go_wp2_with fail
            refine wp_region_held_drew (S := fun _ => True) (by kernel_rfl) trivial (fun hHeld => ?_)
            refine takeY 0 (some 103) rfl rfl (by kernel_rfl) (by kernel_rfl) (by kernel_rfl) (fun _ _ _ h => h) (by rfl) (v := _) (by (intro _ hSw; (try dsimp only at hSw); go_simp; try with_reducible rfl)) hHeld ?_
            simp only [Act.put, List.setIfInBounds_toArray, List.set_cons_zero, List.set_cons_succ]
            refine takeY 1 (some 104) rfl rfl (by kernel_rfl) (by kernel_rfl) (by kernel_rfl) (fun _ _ _ h => h) (by rfl) (v := _) (by (intro _ hSw; (try dsimp only at hSw); go_simp; try with_reducible rfl)) hHeld ?_
            simp only [Act.put, List.setIfInBounds_toArray, List.set_cons_zero, List.set_cons_succ]
            refine takeY 2 (some 105) rfl rfl (by kernel_rfl) (by kernel_rfl) (by kernel_rfl) (fun _ _ _ h => h) (by rfl) (v := _) (by (intro _ hSw; (try dsimp only at hSw); go_simp; try with_reducible rfl)) hHeld ?_
            simp only [Act.put, List.setIfInBounds_toArray, List.set_cons_zero, List.set_cons_succ]
            refine takeN 3 (some 106) rfl rfl (by kernel_rfl) (by kernel_rfl) (by kernel_rfl) (fun _ _ _ h => h) (by rfl) hHeld ?_
            simp only [Act.put, List.setIfInBounds_toArray, List.set_cons_zero, List.set_cons_succ]
            refine takeN 4 (some 107) rfl rfl (by kernel_rfl) (by kernel_rfl) (by kernel_rfl) (fun _ _ _ h => h) (by rfl) hHeld ?_
            simp only [Act.put, List.setIfInBounds_toArray, List.set_cons_zero, List.set_cons_succ]
            refine takeN 5 (some 108) rfl rfl (by kernel_rfl) (by kernel_rfl) (by kernel_rfl) (fun _ _ _ h => h) (by rfl) hHeld ?_
            simp only [Act.put, List.setIfInBounds_toArray, List.set_cons_zero, List.set_cons_succ]
            refine takeN 6 (some 109) rfl rfl (by kernel_rfl) (by kernel_rfl) (by kernel_rfl) (fun _ _ _ h => h) (by rfl) hHeld ?_
            simp only [Act.put, List.setIfInBounds_toArray, List.set_cons_zero, List.set_cons_succ]
            refine takeN 7 (some 110) rfl rfl (by kernel_rfl) (by kernel_rfl) (by kernel_rfl) (fun _ _ _ h => h) (by rfl) hHeld ?_
            simp only [Act.put, List.setIfInBounds_toArray, List.set_cons_zero, List.set_cons_succ]
            refine takeN 8 (some 111) rfl rfl (by kernel_rfl) (by kernel_rfl) (by kernel_rfl) (fun _ _ _ h => h) (by rfl) hHeld ?_
            simp only [Act.put, List.setIfInBounds_toArray, List.set_cons_zero, List.set_cons_succ]
            refine takeN 9 (some 112) rfl rfl (by kernel_rfl) (by kernel_rfl) (by kernel_rfl) (fun _ _ _ h => h) (by rfl) hHeld ?_
            simp only [Act.put, List.setIfInBounds_toArray, List.set_cons_zero, List.set_cons_succ]
            refine takeY 10 (some 113) rfl rfl (by kernel_rfl) (by kernel_rfl) (by kernel_rfl) (fun _ _ _ h => h) (by rfl) (v := _) (by (intro _ hSw; (try dsimp only at hSw); go_simp; try with_reducible rfl)) hHeld ?_
            simp only [Act.put, List.setIfInBounds_toArray, List.set_cons_zero, List.set_cons_succ]
            refine takeY 11 (some 114) rfl rfl (by kernel_rfl) (by kernel_rfl) (by kernel_rfl) (fun _ _ _ h => h) (by rfl) (v := _) (by (intro _ hSw; (try dsimp only at hSw); go_simp; try with_reducible rfl)) hHeld ?_
            simp only [Act.put, List.setIfInBounds_toArray, List.set_cons_zero, List.set_cons_succ]
            refine wpAnyH_ready (rs := [12]) (by kernel_rfl) (by simp) ?_
            refine AllReadyH.cons rfl (fun K hK => ?_) AllReadyH.nil
            clear hHeld
            go_simp
            go_wp2_with (go_at_call 11; refine Calls.mono (works_any _) ?_; rintro e w10 ⟨rfl, hb10⟩; have hw10 := (Below.refl _ w).drew.trans hb10)
            refine hK.out _ _ trivial (fun hHeld => ?_)
            clear hK K
            refine takeY 13 (some 116) rfl rfl (by kernel_rfl) (by kernel_rfl) (by kernel_rfl) (fun _ _ _ h => h) (by rfl) (v := _) (by (intro _ hSw; (try dsimp only at hSw); go_simp; try with_reducible rfl)) hHeld ?_
            simp only [Act.put, List.setIfInBounds_toArray, List.set_cons_zero, List.set_cons_succ]
            refine takeY 14 (some 4) rfl rfl (by kernel_rfl) (by kernel_rfl) (by kernel_rfl) (fun _ _ _ h => h) (by rfl) (v := _) (by (intro _ hSw; (try dsimp only at hSw); go_simp; try with_reducible rfl)) hHeld ?_
            simp only [Act.put, List.setIfInBounds_toArray, List.set_cons_zero, List.set_cons_succ]
            refine wpAnyH_done (by kernel_rfl) ?_ _
            go_wp2_with fail
            go_ret
            exact ⟨rfl, hw10⟩
          · have hd0 : decide ((0 : Int) < (len : Int)) = false := by simp; omega
            go_wp2_with fail
            refine wp_region_held_drew (S := fun _ => True) (by kernel_rfl) trivial (fun hHeld => ?_)
            refine takeY 0 (some 103) rfl rfl (by kernel_rfl) (by kernel_rfl) (by kernel_rfl) (fun _ _ _ h => h) (by rfl) (v := _) (by (intro _ hSw; (try dsimp only at hSw); go_simp; try with_reducible rfl)) hHeld ?_
            simp only [Act.put, List.setIfInBounds_toArray, List.set_cons_zero, List.set_cons_succ]
            refine takeY 1 (some 104) rfl rfl (by kernel_rfl) (by kernel_rfl) (by kernel_rfl) (fun _ _ _ h => h) (by rfl) (v := _) (by (intro _ hSw; (try dsimp only at hSw); go_simp; try with_reducible rfl)) hHeld ?_
            simp only [Act.put, List.setIfInBounds_toArray, List.set_cons_zero, List.set_cons_succ]
            refine takeY 2 (some 105) rfl rfl (by kernel_rfl) (by kernel_rfl) (by kernel_rfl) (fun _ _ _ h => h) (by rfl) (v := _) (by (intro _ hSw; (try dsimp only at hSw); go_simp; try with_reducible rfl)) hHeld ?_
            simp only [Act.put, List.setIfInBounds_toArray, List.set_cons_zero, List.set_cons_succ]
            refine takeN 3 (some 106) rfl rfl (by kernel_rfl) (by kernel_rfl) (by kernel_rfl) (fun _ _ _ h => h) (by rfl) hHeld ?_
            simp only [Act.put, List.setIfInBounds_toArray, List.set_cons_zero, List.set_cons_succ]
            refine takeN 4 (some 107) rfl rfl (by kernel_rfl) (by kernel_rfl) (by kernel_rfl) (fun _ _ _ h => h) (by rfl) hHeld ?_
            simp only [Act.put, List.setIfInBounds_toArray, List.set_cons_zero, List.set_cons_succ]
            refine takeN 5 (some 108) rfl rfl (by kernel_rfl) (by kernel_rfl) (by kernel_rfl) (fun _ _ _ h => h) (by rfl) hHeld ?_
            simp only [Act.put, List.setIfInBounds_toArray, List.set_cons_zero, List.set_cons_succ]
            refine takeN 6 (some 109) rfl rfl (by kernel_rfl) (by kernel_rfl) (by kernel_rfl) (fun _ _ _ h => h) (by rfl) hHeld ?_
            simp only [Act.put, List.setIfInBounds_toArray, List.set_cons_zero, List.set_cons_succ]
            refine takeN 7 (some 110) rfl rfl (by kernel_rfl) (by kernel_rfl) (by kernel_rfl) (fun _ _ _ h => h) (by rfl) hHeld ?_
            simp only [Act.put, List.setIfInBounds_toArray, List.set_cons_zero, List.set_cons_succ]
            refine takeN 8 (some 111) rfl rfl (by kernel_rfl) (by kernel_rfl) (by kernel_rfl) (fun _ _ _ h => h) (by rfl) hHeld ?_
            simp only [Act.put, List.setIfInBounds_toArray, List.set_cons_zero, List.set_cons_succ]
            refine takeN 9 (some 112) rfl rfl (by kernel_rfl) (by kernel_rfl) (by kernel_rfl) (fun _ _ _ h => h) (by rfl) hHeld ?_
            simp only [Act.put, List.setIfInBounds_toArray, List.set_cons_zero, List.set_cons_succ]
            refine takeY 10 (some 113) rfl rfl (by kernel_rfl) (by kernel_rfl) (by kernel_rfl) (fun _ _ _ h => h) (by rfl) (v := _) (by (intro _ hSw; (try dsimp only at hSw); go_simp; try with_reducible rfl)) hHeld ?_
            simp only [Act.put, List.setIfInBounds_toArray, List.set_cons_zero, List.set_cons_succ]
            refine takeY 11 (some 114) rfl rfl (by kernel_rfl) (by kernel_rfl) (by kernel_rfl) (fun _ _ _ h => h) (by rfl) (v := _) (by (intro _ hSw; (try dsimp only at hSw); go_simp; try with_reducible rfl)) hHeld ?_
            simp only [Act.put, List.setIfInBounds_toArray, List.set_cons_zero, List.set_cons_succ]
            refine wpAnyH_ready (rs := [12]) (by kernel_rfl) (by simp) ?_
            refine AllReadyH.cons rfl (fun K hK => ?_) AllReadyH.nil
            clear hHeld
            go_simp
            go_wp2_with (go_at_call 11; refine Calls.mono (works_any _) ?_; rintro e w10 ⟨rfl, hb10⟩; have hw10 := (Below.refl _ w).drew.trans hb10)
            refine hK.out _ _ trivial (fun hHeld => ?_)
            clear hK K
            refine takeY 13 (some 116) rfl rfl (by kernel_rfl) (by kernel_rfl) (by kernel_rfl) (fun _ _ _ h => h) (by rfl) (v := _) (by (intro _ hSw; (try dsimp only at hSw); go_simp; try with_reducible rfl)) hHeld ?_
            simp only [Act.put, List.setIfInBounds_toArray, List.set_cons_zero, List.set_cons_succ]
            refine takeY 14 (some 4) rfl rfl (by kernel_rfl) (by kernel_rfl) (by kernel_rfl) (fun _ _ _ h => h) (by rfl) (v := _) (by (intro _ hSw; (try dsimp only at hSw); go_simp; try with_reducible rfl)) hHeld ?_
            simp only [Act.put, List.setIfInBounds_toArray, List.set_cons_zero, List.set_cons_succ]
            refine wpAnyH_done (by kernel_rfl) ?_ _
            go_wp2_with fail
            go_ret
            exact ⟨rfl, hw10⟩
      · have d1 : decide (64 < n) = false := by simpa using h6
        clear hA h0 hv hn h64 hd
        go_enter Try.func3, Try.ntmps3
        go_wp2_with fail
        refine H0.out.mono ?_
        rintro e w' ⟨rfl, rfl⟩
        go_wp2_with fail
        refine H1.out.mono ?_
        rintro e w' ⟨rfl, rfl⟩
        go_wp2_with fail
        refine H2.out.mono ?_
        rintro e w' ⟨rfl, rfl⟩
        go_wp2_with fail
        go_loopw [9, 10, 11, 12, 13, 14] (fun i a b c d e wr => i = .int .i64 0 ∧ Hid (w = wr)) (fun i _ _ _ _ _ _ => 0)
        case atStart => exact ⟨rfl, Lib.hid rfl⟩
        case round =>
          obtain ⟨rfl, hw⟩ := hrel
          obtain rfl := hw.out
          clear hw
          by_cases hl0 : 0 < len
          · have hd0 : decide ((0 : Int) < (len : Int)) = true := by simp; omega
            go_wp2_with fail
            refine wp_region_held_drew (S := fun _ => True) (by kernel_rfl) trivial (fun hHeld => ?_)
            refine takeY 0 (some 103) rfl rfl (by kernel_rfl) (by kernel_rfl) (by kernel_rfl) (fun _ _ _ h => h) (by rfl) (v := _) (by (intro _ hSw; (try dsimp only at hSw); go_simp; try with_reducible rfl)) hHeld ?_
            simp only [Act.put, List.setIfInBounds_toArray, List.set_cons_zero, List.set_cons_succ]
            refine takeY 1 (some 104) rfl rfl (by kernel_rfl) (by kernel_rfl) (by kernel_rfl) (fun _ _ _ h => h) (by rfl) (v := _) (by (intro _ hSw; (try dsimp only at hSw); go_simp; try with_reducible rfl)) hHeld ?_
            simp only [Act.put, List.setIfInBounds_toArray, List.set_cons_zero, List.set_cons_succ]
            refine takeY 2 (some 105) rfl rfl (by kernel_rfl) (by kernel_rfl) (by kernel_rfl) (fun _ _ _ h => h) (by rfl) (v := _) (by (intro _ hSw; (try dsimp only at hSw); go_simp; try with_reducible rfl)) hHeld ?_
            simp only [Act.put, List.setIfInBounds_toArray, List.set_cons_zero, List.set_cons_succ]
            refine takeN 3 (some 106) rfl rfl (by kernel_rfl) (by kernel_rfl) (by kernel_rfl) (fun _ _ _ h => h) (by rfl) hHeld ?_
            simp only [Act.put, List.setIfInBounds_toArray, List.set_cons_zero, List.set_cons_succ]
            refine takeN 4 (some 107) rfl rfl (by kernel_rfl) (by kernel_rfl) (by kernel_rfl) (fun _ _ _ h => h) (by rfl) hHeld ?_
            simp only [Act.put, List.setIfInBounds_toArray, List.set_cons_zero, List.set_cons_succ]
            refine takeN 5 (some 108) rfl rfl (by kernel_rfl) (by kernel_rfl) (by kernel_rfl) (fun _ _ _ h => h) (by rfl) hHeld ?_
            simp only [Act.put, List.setIfInBounds_toArray, List.set_cons_zero, List.set_cons_succ]
            refine takeN 6 (some 109) rfl rfl (by kernel_rfl) (by kernel_rfl) (by kernel_rfl) (fun _ _ _ h => h) (by rfl) hHeld ?_
            simp only [Act.put, List.setIfInBounds_toArray, List.set_cons_zero, List.set_cons_succ]
            refine takeN 7 (some 110) rfl rfl (by kernel_rfl) (by kernel_rfl) (by kernel_rfl) (fun _ _ _ h => h) (by rfl) hHeld ?_
            simp only [Act.put, List.setIfInBounds_toArray, List.set_cons_zero, List.set_cons_succ]
            refine takeN 8 (some 111) rfl rfl (by kernel_rfl) (by kernel_rfl) (by kernel_rfl) (fun _ _ _ h => h) (by rfl) hHeld ?_
            simp only [Act.put, List.setIfInBounds_toArray, List.set_cons_zero, List.set_cons_succ]
            refine takeN 9 (some 112) rfl rfl (by kernel_rfl) (by kernel_rfl) (by kernel_rfl) (fun _ _ _ h => h) (by rfl) hHeld ?_
            simp only [Act.put, List.setIfInBounds_toArray, List.set_cons_zero, List.set_cons_succ]
            refine takeY 10 (some 113) rfl rfl (by kernel_rfl) (by kernel_rfl) (by kernel_rfl) (fun _ _ _ h => h) (by rfl) (v := _) (by (intro _ hSw; (try dsimp only at hSw); go_simp; try with_reducible rfl)) hHeld ?_
            simp only [Act.put, List.setIfInBounds_toArray, List.set_cons_zero, List.set_cons_succ]
            refine takeY 11 (some 114) rfl rfl (by kernel_rfl) (by kernel_rfl) (by kernel_rfl) (fun _ _ _ h => h) (by rfl) (v := _) (by (intro _ hSw; (try dsimp only at hSw); go_simp; try with_reducible rfl)) hHeld ?_
            simp only [Act.put, List.setIfInBounds_toArray, List.set_cons_zero, List.set_cons_succ]
            refine wpAnyH_ready (rs := [12]) (by kernel_rfl) (by simp) ?_
            refine AllReadyH.cons rfl (fun K hK => ?_) AllReadyH.nil
            clear hHeld
            go_simp
            go_wp2_with (go_at_call 11; refine Calls.mono (works_any _) ?_; rintro e w10 ⟨rfl, hb10⟩; have hw10 := (Below.refl _ w).drew.trans hb10)
            refine hK.out _ _ trivial (fun hHeld => ?_)
            clear hK K
            refine takeY 13 (some 116) rfl rfl (by kernel_rfl) (by kernel_rfl) (by kernel_rfl) (fun _ _ _ h => h) (by rfl) (v := _) (by (intro _ hSw; (try dsimp only at hSw); go_simp; try with_reducible rfl)) hHeld ?_
            simp only [Act.put, List.setIfInBounds_toArray, List.set_cons_zero, List.set_cons_succ]
            refine takeY 14 (some 4) rfl rfl (by kernel_rfl) (by kernel_rfl) (by kernel_rfl) (fun _ _ _ h => h) (by rfl) (v := _) (by (intro _ hSw; (try dsimp only at hSw); go_simp; try with_reducible rfl)) hHeld ?_
            simp only [Act.put, List.setIfInBounds_toArray, List.set_cons_zero, List.set_cons_succ]
            refine wpAnyH_done (by kernel_rfl) ?_ _
            go_wp2_with fail
            go_ret
            exact ⟨rfl, hw10⟩
          · have hd0 : decide ((0 : Int) < (len : Int)) = false := by simp; omega
            go_wp2_with fail
            refine wp_region_held_drew (S := fun _ => True) (by kernel_rfl) trivial (fun hHeld => ?_)
            refine takeY 0 (some 103) rfl rfl (by kernel_rfl) (by kernel_rfl) (by kernel_rfl) (fun _ _ _ h => h) (by rfl) (v := _) (by (intro _ hSw; (try dsimp only at hSw); go_simp; try with_reducible rfl)) hHeld ?_
            simp only [Act.put, List.setIfInBounds_toArray, List.set_cons_zero, List.set_cons_succ]
            refine takeY 1 (some 104) rfl rfl (by kernel_rfl) (by kernel_rfl) (by kernel_rfl) (fun _ _ _ h => h) (by rfl) (v := _) (by (intro _ hSw; (try dsimp only at hSw); go_simp; try with_reducible rfl)) hHeld ?_
            simp only [Act.put, List.setIfInBounds_toArray, List.set_cons_zero, List.set_cons_succ]
            refine takeY 2 (some 105) rfl rfl (by kernel_rfl) (by kernel_rfl) (by kernel_rfl) (fun _ _ _ h => h) (by rfl) (v := _) (by (intro _ hSw; (try dsimp only at hSw); go_simp; try with_reducible rfl)) hHeld ?_
            simp only [Act.put, List.setIfInBounds_toArray, List.set_cons_zero, List.set_cons_succ]
            refine takeN 3 (some 106) rfl rfl (by kernel_rfl) (by kernel_rfl) (by kernel_rfl) (fun _ _ _ h => h) (by rfl) hHeld ?_
            simp only [Act.put, List.setIfInBounds_toArray, List.set_cons_zero, List.set_cons_succ]
            refine takeN 4 (some 107) rfl rfl (by kernel_rfl) (by kernel_rfl) (by kernel_rfl) (fun _ _ _ h => h) (by rfl) hHeld ?_
            simp only [Act.put, List.setIfInBounds_toArray, List.set_cons_zero, List.set_cons_succ]
            refine takeN 5 (some 108) rfl rfl (by kernel_rfl) (by kernel_rfl) (by kernel_rfl) (fun _ _ _ h => h) (by rfl) hHeld ?_
            simp only [Act.put, List.setIfInBounds_toArray, List.set_cons_zero, List.set_cons_succ]
            refine takeN 6 (some 109) rfl rfl (by kernel_rfl) (by kernel_rfl) (by kernel_rfl) (fun _ _ _ h => h) (by rfl) hHeld ?_
            simp only [Act.put, List.setIfInBounds_toArray, List.set_cons_zero, List.set_cons_succ]
            refine takeN 7 (some 110) rfl rfl (by kernel_rfl) (by kernel_rfl) (by kernel_rfl) (fun _ _ _ h => h) (by rfl) hHeld ?_
            simp only [Act.put, List.setIfInBounds_toArray, List.set_cons_zero, List.set_cons_succ]
            refine takeN 8 (some 111) rfl rfl (by kernel_rfl) (by kernel_rfl) (by kernel_rfl) (fun _ _ _ h => h) (by rfl) hHeld ?_
            simp only [Act.put, List.setIfInBounds_toArray, List.set_cons_zero, List.set_cons_succ]
            refine takeN 9 (some 112) rfl rfl (by kernel_rfl) (by kernel_rfl) (by kernel_rfl) (fun _ _ _ h => h) (by rfl) hHeld ?_
            simp only [Act.put, List.setIfInBounds_toArray, List.set_cons_zero, List.set_cons_succ]
            refine takeY 10 (some 113) rfl rfl (by kernel_rfl) (by kernel_rfl) (by kernel_rfl) (fun _ _ _ h => h) (by rfl) (v := _) (by (intro _ hSw; (try dsimp only at hSw); go_simp; try with_reducible rfl)) hHeld ?_
            simp only [Act.put, List.setIfInBounds_toArray, List.set_cons_zero, List.set_cons_succ]
            refine takeY 11 (some 114) rfl rfl (by kernel_rfl) (by kernel_rfl) (by kernel_rfl) (fun _ _ _ h => h) (by rfl) (v := _) (by (intro _ hSw; (try dsimp only at hSw); go_simp; try with_reducible rfl)) hHeld ?_
            simp only [Act.put, List.setIfInBounds_toArray, List.set_cons_zero, List.set_cons_succ]
            refine wpAnyH_ready (rs := [12]) (by kernel_rfl) (by simp) ?_
            refine AllReadyH.cons rfl (fun K hK => ?_) AllReadyH.nil
            clear hHeld
            go_simp
            go_wp2_with (go_at_call 11; refine Calls.mono (works_any _) ?_; rintro e w10 ⟨rfl, hb10⟩; have hw10 := (Below.refl _ w).drew.trans hb10)
            refine hK.out _ _ trivial (fun hHeld => ?_)
            clear hK K
            refine takeY 13 (some 116) rfl rfl (by kernel_rfl) (by kernel_rfl) (by kernel_rfl) (fun _ _ _ h => h) (by rfl) (v := _) (by (intro _ hSw; (try dsimp only at hSw); go_simp; try with_reducible rfl)) hHeld ?_
            simp only [Act.put, List.setIfInBounds_toArray, List.set_cons_zero, List.set_cons_succ]
            refine takeY 14 (some 4) rfl rfl (by kernel_rfl) (by kernel_rfl) (by kernel_rfl) (fun _ _ _ h => h) (by rfl) (v := _) (by (intro _ hSw; (try dsimp only at hSw); go_simp; try with_reducible rfl)) hHeld ?_
            simp only [Act.put, List.setIfInBounds_toArray, List.set_cons_zero, List.set_cons_succ]
            refine wpAnyH_done (by kernel_rfl) ?_ _
            go_wp2_with fail
            go_ret
            exact ⟨rfl, hw10⟩
  · rw [hv] at h0
    have H0 := Lib.hid h0
    clear hA h0 hv
    go_enter Try.func3, Try.ntmps3
    go_wp2_with fail
    refine H0.out.mono ?_
    rintro e w' ⟨rfl, rfl⟩
    go_wp2_with fail
    refine HW.out.mono ?_
    rintro e w2 ⟨rfl, hb⟩
    have HB := Lib.hid hb
    clear hb
    go_wp2_with fail
    go_ret
    exact ⟨rfl, HB.out⟩

end Go.Proofs.Ytdohfkblmadejaa
