/- The reference's Write. -/
import Derived.Test.YtobfglnopihibaaQ
import Derived.Lib.SmallJoins
namespace Go.Proofs.Ytobfglnopihibaa
open Go.RowKit Rcd

/-- The reference's Put, as it is called here. -/
theorem refput_at (g len cp x m : Nat) (bs : List UInt8) (z : Int) (w : World) (hz : z = (x : Int)) (hx : x < 18446744073709551616) (hR : Rw w g len cp bs) (hm : sizeB m = true) (hl : len ≤ 1000000) :
    Calls Try.prog 27 #[.slice (some ⟨g, 0, none⟩) len cp, .int .u64 z, .int .i64 m] w fun e w' => ∃ g' c', e = .returned (.slice (some ⟨g', 0, none⟩) (len + m) c') ∧ Rw w' g' (len + m) c' (bs ++ lePut x m) ∧ w.heap.size ≤ g' ∧ Below w.heap.size w w' := by
  subst hz
  refine (refput_any (some ⟨g, 0, none⟩) len cp x m bs w hR.long (by omega) hR.bytes hx).mono ?_
  rintro e w' ⟨v, q, rfl, hown, hb⟩
  have hpb : putBytes bs x m = bs ++ lePut x m := by unfold putBytes; rw [hm, if_pos rfl, Int.toNat_natCast]
  rw [hpb] at hown
  have hq : len + m = q := by
    have := hown.1
    rw [List.length_map, List.length_append, hR.long, lePut_length] at this
    simpa using this
  subst hq
  have hm8 := (sizeB_iff m).1 hm
  obtain ⟨g', c', rfl⟩ := Joins.ownsRow_form hown (by omega)
  refine ⟨g', c', rfl, Rw.of_own hown, ?_, hb⟩
  rcases hown.2 with ⟨e, _⟩ | ⟨_, _, _, e, hge, _⟩
  · cases e
  · injection e with e _ _; injection e with e; injection e with e; omega

set_option maxRecDepth 20000 in
set_option maxHeartbeats 4000000 in
theorem refwrite_any (k : UInt8) (tag : Int) (A : Option Addr) (n c : Nat) (t : List UInt8) (ws : List Wd) (w : World) (hn : ws.length = n) (hA : Words w A ws) (hl : n ≤ 100000) (htag : -9223372036854775808 ≤ tag ∧ tag < 9223372036854775808) (htl : t.length ≤ 4503599627370496) :
    Calls Try.prog 13 #[.agg #[bv k, .int .i64 tag, .slice A n c, .string (str t)]] w (WrP ⟨k, tag, ws, t⟩ w) := by
  have HN := Lib.hid hn
  obtain ⟨kn, hkn⟩ : ∃ kn, k.toNat = kn := ⟨_, rfl⟩
  have hbv : bv k = .int .u8 (kn : Int) := by rw [← hkn]; rfl
  have hklt : kn < 256 := by rw [← hkn]; exact k.toNat_lt
  have h1 := refmay_any k tag A n c t ws
  rw [hbv] at h1 ⊢
  obtain ⟨w0, hw0⟩ : ∃ w0, w.alloc (.cells #[.int .u8 (kn : Int), .int .i64 tag, .slice A n c, .string (str t)] 24) = w0 := ⟨_, rfl⟩
  have hB0 : Blk w0 w.heap.size 24 #[.int .u8 (kn : Int), .int .i64 tag, .slice A n c, .string (str t)] := by rw [← hw0]; exact Blk.new _ _ _
  have hb0 : Below w.heap.size w w0 := by rw [← hw0]; exact (Below.refl _ _).alloc (Nat.le_refl _) _
  have H1 := Lib.hid (h1 w0 hn (hA.below hb0) hl)
  have HB0 := Lib.hid hB0
  have HBL := Lib.hid hb0
  have HA := Lib.hid hA
  obtain ⟨tl, htl2⟩ : ∃ tl, t.length = tl := ⟨_, rfl⟩
  have hts : (str t).size = tl := by rw [str_size]; exact htl2
  have HTL := Lib.hid htl2
  rw [htl2] at htl
  obtain ⟨mb, hmb⟩ : ∃ mb, mayB ⟨k, tag, ws, t⟩ = mb := ⟨_, rfl⟩
  rw [hmb] at H1
  have HMB := Lib.hid hmb
  have HBV := Lib.hid hbv
  have d0 : w0.cell? ⟨w.heap.size, 0, none⟩ = some (.int .u8 (kn : Int)) := hB0.cell 0
  have d1 : w0.cell? ⟨w.heap.size, 1, none⟩ = some (.int .i64 tag) := hB0.cell 1
  have d2 : w0.cell? ⟨w.heap.size, 2, none⟩ = some (.slice A n c) := hB0.cell 2
  have d3 : w0.cell? ⟨w.heap.size, 3, none⟩ = some (.string (str t)) := hB0.cell 3
  have HQ : Hid (∀ W, Below w0.heap.size w0 W → W.cell? ⟨w.heap.size, 0, none⟩ = some (.int .u8 (kn : Int)) ∧ W.cell? ⟨w.heap.size, 1, none⟩ = some (.int .i64 tag) ∧ W.cell? ⟨w.heap.size, 2, none⟩ = some (.slice A n c) ∧ W.cell? ⟨w.heap.size, 3, none⟩ = some (.string (str t))) := Lib.hid (fun W hW =>
    ⟨(hW.cell (p := ⟨w.heap.size, 0, none⟩) hB0.lt).trans d0, (hW.cell (p := ⟨w.heap.size, 1, none⟩) hB0.lt).trans d1, (hW.cell (p := ⟨w.heap.size, 2, none⟩) hB0.lt).trans d2, (hW.cell (p := ⟨w.heap.size, 3, none⟩) hB0.lt).trans d3⟩)
  clear hA hn hbv hB0 hb0 h1 htl2 hmb
  go_enter Try.func13, Try.ntmps13
  cases mb
  · go_wp2_with (go_at_call 25; refine Calls.mono H1.out ?_; rintro e w1 ⟨rfl, hb1⟩)
    go_ret2
    have hE : writeE ⟨k, tag, ws, t⟩ = 1 := by unfold writeE; rw [HMB.out]; rfl
    exact .inl ⟨by rw [hE]; decide, by rw [hE]; rfl, HBL.out.trans (hb1.mono HBL.out.size)⟩
  obtain ⟨⟨ht1, ht2⟩, hft, hfw, hfr⟩ := may_facts HMB.out
  dsimp only at ht1 ht2 hft hfw hfr
  obtain ⟨m, rfl⟩ : ∃ m : Nat, tag = m := ⟨tag.toNat, by omega⟩
  have hm6 : m ≤ 65535 := by omega
  clear ht1 ht2 hft hfw hfr htag
  go_wp2_with fail
  refine H1.out.mono ?_
  rintro e w1 ⟨rfl, hb1⟩
  obtain ⟨c0, c1, c2, c3⟩ := HQ.out w1 hb1
  have HB1 := Lib.hid hb1
  have hsz : sizeO ⟨k, m, ws, t⟩ = 5 + 9 * n + tl := by unfold sizeO; dsimp only; rw [HN.out, HTL.out]
  have HSZ := Lib.hid hsz
  have h2 := size_any k m A n c t w1 tl HTL.out hl htl
  rw [HBV.out] at h2
  have H2 := Lib.hid h2
  clear h2 hsz hb1
  by_cases hbig : 8192 < 5 + 9 * n + tl
  · have hbi : decide ((8192 : Int) < 5 + 9 * (n : Int) + (tl : Int)) = true := by simp; omega
    go_wp2_with (go_at_call 26; refine Calls.mono H2.out ?_; rintro e w2 ⟨rfl, hb2⟩)
    go_ret2
    have hE : writeE ⟨k, m, ws, t⟩ = 6 := by unfold writeE; rw [HMB.out, HSZ.out, if_pos rfl, if_pos hbig]
    exact .inl ⟨by rw [hE]; decide, by rw [hE]; rfl, HBL.out.trans ((HB1.out.trans (hb2.mono HB1.out.size)).mono HBL.out.size)⟩
  have hbi : decide ((8192 : Int) < 5 + 9 * (n : Int) + (tl : Int)) = false := by simp; omega
  go_wp2_with fail
  refine H2.out.mono ?_
  rintro e w1' ⟨rfl, hb1'⟩
  have HB1' := Lib.hid (HB1.out.trans (hb1'.mono HB1.out.size))
  have hrk : Rw (w1'.alloc (.cells #[.int .u8 (kn : Int)] 5)) w1'.heap.size 1 1 [k] := Rw.of_row (by have := Blk.new w1' 5 (row8 [k]); unfold row8 at this ⊢; rw [List.map_cons, HBV.out] at this ⊢; exact this) rfl (by decide)
  have HP1 := Lib.hid (refput_at w1'.heap.size 1 1 m 2 [k] m (w1'.alloc (.cells #[.int .u8 (kn : Int)] 5)) rfl (by omega) hrk rfl (by decide))
  have HB1a : Hid (Below w0.heap.size w0 (w1'.alloc (.cells #[.int .u8 (kn : Int)] 5))) := Lib.hid (HB1'.out.alloc HB1'.out.size _)
  clear c0 c1 c2 c3 hb1' hrk H2
  obtain ⟨c0, c1, c2, c3⟩ := HQ.out w1' HB1'.out
  have c5 := Lib.cell?_alloc_some (.cells #[.int .u8 (kn : Int)] 5) c1
  go_wp2_with fail
  refine HP1.out.mono ?_
  rintro e w2 ⟨g2, d2', rfl, hR2, hg2, hb2⟩
  have HB2 : Hid (Below w0.heap.size w0 w2) := Lib.hid (HB1a.out.trans (hb2.mono HB1a.out.size))
  have HP2 := Lib.hid (refput_at g2 3 d2' (n + tl) 2 ([k] ++ lePut m 2) ((n : Int) + (tl : Int)) w2 (by omega) (by omega) hR2 rfl (by decide))
  clear c0 c1 c2 c3 c5 HP1 hR2 hb2 hg2 HB1a
  obtain ⟨c0, c1, c2, c3⟩ := HQ.out w2 HB2.out
  go_wp2_with fail
  refine HP2.out.mono ?_
  rintro e w3 ⟨g3, d3', rfl, hR3, hg3, hb3⟩
  have HB3 : Hid (Below w0.heap.size w0 w3) := Lib.hid (HB2.out.trans (hb3.mono HB2.out.size))
  have hfr : frontB ⟨k, m, ws, t⟩ = ([k] ++ lePut m 2) ++ lePut (n + tl) 2 := by
    unfold frontB; dsimp only; rw [HN.out, HTL.out, show u64 (m : Int) = m by unfold u64; omega]
  rw [← hfr] at hR3
  have HI : Hid (WrI w0 w3 g3 d3' ⟨k, m, ws, t⟩ 0) := Lib.hid ⟨by simpa [wordsB] using hR3, Nat.le_trans HB2.out.size hg3, HB3.out⟩
  clear c0 c1 c2 c3 HP2 hR3 hb3 hfr hg3
  obtain ⟨c0, c1, c2, c3⟩ := HQ.out w3 HB3.out
  go_wp2_with fail
  go_loopw [4, 5] (fun bvv iv wr => ∃ i g cp : Nat, i ≤ n ∧ iv = .int .i64 (i : Int) ∧ bvv = .slice (some ⟨g, 0, none⟩) (5 + i * 9) cp ∧ Hid (WrI w0 wr g cp ⟨k, m, ws, t⟩ i)) (fun _ iv _ => n - (intOf iv).toNat)
  case atStart => exact ⟨0, _, _, Nat.zero_le _, rfl, rfl, HI⟩
  case round =>
    clear c0 c1 c2 c3 HI
    obtain ⟨i, g, cp, hi, rfl, rfl, hI⟩ := hrel
    obtain ⟨c0, c1, c2, c3⟩ := HQ.out wr hI.out.bel
    by_cases hlt : i < n
    · have hd : decide ((i : Int) < (n : Int)) = true := by simpa using hlt
      obtain ⟨x, hx⟩ : ∃ x, ws[i]? = some x := ⟨_, List.getElem?_eq_getElem (by rw [HN.out]; exact hlt)⟩
      have hw := HBL.out.trans (hI.out.bel.mono HBL.out.size)
      obtain ⟨bx, off, rfl, hblt, e0, e1, hr⟩ := HA.out i x hx
      have hsucc := wordsB_succ hx
      obtain ⟨kx, nx⟩ := x
      dsimp only at e0 e1 hr
      obtain ⟨un, hun⟩ : ∃ un, kx.toNat = un := ⟨_, rfl⟩
      have hbv : bv kx = .int .u8 (un : Int) := by rw [← hun]; rfl
      rw [hbv] at e0
      have HCW : Hid (∀ W, Below w.heap.size w W → W.cell? ⟨bx, off + i * 2, none⟩ = some (.int .u8 (un : Int)) ∧ W.cell? ⟨bx, off + i * 2 + 1, none⟩ = some (.int .i64 nx)) := Lib.hid (fun W hW => ⟨(hW.cell (p := ⟨bx, off + i * 2, none⟩) hblt).trans e0, (hW.cell (p := ⟨bx, off + i * 2 + 1, none⟩) hblt).trans e1⟩)
      have e0' := (HCW.out wr hw).1
      obtain ⟨wB, hwB⟩ : ∃ wB, wr.alloc (.cells #[.int .u8 (un : Int)] 5) = wB := ⟨_, rfl⟩
      have hbB : Below wr.heap.size wr wB := by rw [← hwB]; exact (Below.refl _ _).alloc (Nat.le_refl _) _
      have hzB : wB.heap.size = wr.heap.size + 1 := by rw [← hwB]; simp
      have hcB : wB.cell? ⟨wr.heap.size, 0, none⟩ = some (bv kx) := by
        have := (Blk.new wr 5 #[.int .u8 (un : Int)]).cell 0
        rw [← hwB, hbv]; exact this
      have hrow := hI.out.row.below hbB
      obtain ⟨g5, c5, w5, hrun5, hR5, _, hor5, hfr5, hbel5⟩ := run_rwapp hrow wr.heap.size 0 1 1 (xs := [kx]) rfl (fun j u hu => by
        rcases j with _ | j
        · cases hu; exact hcB
        · simp at hu) (by omega)
      have hlo := hI.out.lo
      have hgs := hI.out.bel.size
      have hb05 : Below w0.heap.size w0 w5 := (hI.out.bel.trans (hbB.mono hgs)).trans (hbel5 _ hlo)
      have e1' := (HCW.out w5 (HBL.out.trans (hb05.mono HBL.out.size))).2
      have f2 := (HQ.out w5 hb05).2.2.1
      have HP := Lib.hid (refput_at g5 (5 + i * 9 + 1) c5 (u64 nx) 8 _ (IntKind.u64.wrap nx) w5 (u64_wrap nx) (u64_lt nx) hR5 rfl (by omega))
      rw [← hwB] at hrun5
      have HRUN5 := Lib.hid hrun5
      have HB05 := Lib.hid hb05
      have HS : Hid (frontB ⟨k, m, ws, t⟩ ++ wordsB (ws.take (i + 1)) = (frontB ⟨k, m, ws, t⟩ ++ wordsB (ws.take i)) ++ [kx] ++ lePut (u64 nx) 8) := Lib.hid (by rw [hsucc]; simp [wdB])
      clear hx hw hsucc hun hbv hbB hzB hcB hrow hrun5 hR5 hor5 hfr5 hbel5 hgs hb05 hlo hwB hI e0 e1
      go_wp2_with (at_builtin; refine wpList_app rfl _ _ 28 rfl _ _ _ _ rfl rfl HRUN5.out ?_; clear HRUN5)
      refine HP.out.mono ?_
      rintro e w6 ⟨g6, c6, rfl, hR6, hg6, hb6⟩
      rw [← HS.out, show 5 + i * 9 + 1 + 8 = 5 + (i + 1) * 9 by omega] at hR6
      have HI7 : Hid (WrI w0 w6 g6 c6 ⟨k, m, ws, t⟩ (i + 1)) := Lib.hid ⟨hR6, Nat.le_trans HB05.out.size hg6, HB05.out.trans (hb6.mono HB05.out.size)⟩
      have q9 : 5 + i * 9 + 1 + 8 = 5 + (i + 1) * 9 := by omega
      clear hR6 hg6 hb6 e1' f2 HP HB05 HS
      go_wp2_with fail
      go_roundw
      case rel => exact ⟨i + 1, g6, c6, by omega, by go_num, rfl, HI7⟩
      case measure => simp [intOf]; omega
    · obtain rfl : n = i := by omega
      have hd : decide ((n : Int) < (n : Int)) = false := by simp
      obtain ⟨g', c', w5, hrun, hR5, _, hor, _, hbel⟩ := run_rwappS hI.out.row (xs := t) tl HTL.out (by omega)
      have HRUN := Lib.hid hrun
      have hlo := hI.out.lo
      have HB5 : Hid (Below w0.heap.size w0 w5) := Lib.hid (hI.out.bel.trans (hbel _ hlo))
      have HG : Hid (w0.heap.size ≤ g') := Lib.hid (by
        rcases hor with ⟨h, _⟩ | h
        · omega
        · rw [h]; exact hI.out.bel.size)
      have hby : frontB ⟨k, m, ws, t⟩ ++ wordsB (ws.take n) ++ t = bytesO ⟨k, m, ws, t⟩ := by unfold bytesO; rw [List.take_of_length_le (by rw [HN.out]; exact Nat.le_refl _)]
      dsimp only at hR5
      rw [hby] at hR5
      have HR5 : Hid (Rw w5 g' (5 + n * 9 + tl) c' (bytesO ⟨k, m, ws, t⟩)) := Lib.hid hR5
      clear hrun hR5 hor hbel hby hI
      go_wp2_with (at_builtin; refine wpList_app2 rfl _ _ 28 9 rfl _ _ _ _ rfl rfl HRUN.out ?_; clear HRUN)
      go_ret2
      have hE : writeE ⟨k, m, ws, t⟩ = 0 := by unfold writeE; rw [HMB.out, HSZ.out, if_pos rfl, if_neg hbig]
      refine .inr ⟨g', c', hE, ?_, ?_, Nat.le_trans HBL.out.size HG.out, HBL.out.trans (HB5.out.mono HBL.out.size)⟩
      · rw [HSZ.out, show 5 + 9 * n + tl = 5 + n * 9 + tl by omega]; rfl
      · rw [HSZ.out, show 5 + 9 * n + tl = 5 + n * 9 + tl by omega]; exact HR5.out
end Go.Proofs.Ytobfglnopihibaa
