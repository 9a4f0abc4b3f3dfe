/- record.Write. -/
import Derived.Test.YtobfglnopihibaaI
namespace Go.Proofs.Ytobfglnopihibaa
open Go.RowKit Rcd

/-- What Write answers. -/
def WrP (o : Ob) (w : World) (e : Ending) (w' : World) : Prop :=
  (writeE o ≠ 0 ∧ e = .returned (.tuple #[.slice none 0 0, .int .i64 (writeE o)]) ∧ Below w.heap.size w w') ∨
  ∃ g c, writeE o = 0 ∧ e = .returned (.tuple #[.slice (some ⟨g, 0, none⟩) (sizeO o) c, .int .i64 0]) ∧ Rw w' g (sizeO o) c (bytesO o) ∧ w.heap.size ≤ g ∧ Below w.heap.size w w'

/-- octet.Put, as it is called here. -/
theorem put_at (g len x m : Nat) (bs : List UInt8) (z : Int) (w : World) (hz : z = (x : Int)) (hR : Rw w g len len bs) (hm : sizeB m = true) (hl : len ≤ 1000000) :
    Calls Try.prog 24 #[.slice (some ⟨g, 0, none⟩) len len, .int .u64 z, .int .i64 m] w fun e w' => e = .returned (.slice (some ⟨w.heap.size + 2, 0, none⟩) (len + m) (len + m)) ∧ Rw w' (w.heap.size + 2) (len + m) (len + m) (bs ++ lePut x m) ∧ Below w.heap.size w w' := by
  subst hz
  refine (put_okL (some ⟨g, 0, none⟩) len len m x bs w hR.long hm (by omega) hR.bytes).mono ?_
  rintro e w' ⟨h1, h2, h3⟩
  have hm8 := (sizeB_iff m).1 hm
  exact ⟨h1, Rw.of_row h2 (by rw [List.length_append, hR.long, lePut_length]) (by unfold maxLen; omega), h3⟩
theorem put_nil (x : Nat) (z : Int) (w : World) (hz : z = (x : Int)) :
    Calls Try.prog 24 #[.slice none 0 0, .int .u64 z, .int .i64 8] w fun e w' => e = .returned (.slice (some ⟨w.heap.size + 2, 0, none⟩) 8 8) ∧ Rw w' (w.heap.size + 2) 8 8 (lePut x 8) ∧ Below w.heap.size w w' := by
  subst hz
  refine (put_okL none 0 0 8 x [] w rfl rfl (by decide) (Bytes.nil _ _)).mono ?_
  rintro e w' ⟨h1, h2, h3⟩
  exact ⟨h1, Rw.of_row h2 (by simp [lePut_length]) (by decide), h3⟩
theorem u64_wrap (z : Int) : IntKind.u64.wrap z = (u64 z : Int) := by rw [IntKind.wrap_u64]; unfold u64; omega

/-- Between the rounds. -/
structure WrI (w0 wr : World) (g cp : Nat) (o : Ob) (i : Nat) : Prop where
  row : Rw wr g (5 + i * 9) cp (frontB o ++ wordsB (o.ws.take i))
  lo : w0.heap.size ≤ g
  bel : Below w0.heap.size w0 wr

set_option maxRecDepth 20000 in
set_option maxHeartbeats 4000000 in
theorem write_any (k : UInt8) (tag : Int) (A : Option Addr) (n c : Nat) (t : List UInt8) (ws : List Wd) (w : World) (hn : ws.length = n) (hA : Words w A ws) (hl : n ≤ 100000) (htag : -9223372036854775808 ≤ tag ∧ tag < 9223372036854775808) (htl : t.length ≤ 4503599627370496) :
    Calls Try.prog 12 #[.agg #[bv k, .int .i64 tag, .slice A n c, .string (str t)]] w (WrP ⟨k, tag, ws, t⟩ w) := by
  have HN := Lib.hid hn
  obtain ⟨kn, hkn⟩ : ∃ kn, k.toNat = kn := ⟨_, rfl⟩
  have hbv : bv k = .int .u8 (kn : Int) := by rw [← hkn]; rfl
  have hklt : kn < 256 := by rw [← hkn]; exact k.toNat_lt
  have h1 := maybe_any k tag A n c t ws
  rw [hbv] at h1 ⊢
  obtain ⟨w0, hw0⟩ : ∃ w0, w.alloc (.cells #[.int .u8 (kn : Int), .int .i64 tag, .slice A n c, .string (str t)] 24) = w0 := ⟨_, rfl⟩
  have hB0 : Blk w0 w.heap.size 24 #[.int .u8 (kn : Int), .int .i64 tag, .slice A n c, .string (str t)] := by rw [← hw0]; exact Blk.new _ _ _
  have hb0 : Below w.heap.size w w0 := by rw [← hw0]; exact (Below.refl _ _).alloc (Nat.le_refl _) _
  have H1 := Lib.hid (h1 w0 hn (hA.below hb0) hl)
  have HB0 := Lib.hid hB0
  have HBL := Lib.hid hb0
  have HA := Lib.hid hA
  obtain ⟨tl, htl2⟩ : ∃ tl, t.length = tl := ⟨_, rfl⟩
  have hts : (str t).size = tl := by rw [str_size]; exact htl2
  have HTL := Lib.hid htl2
  rw [htl2] at htl
  obtain ⟨mb, hmb⟩ : ∃ mb, mayB ⟨k, tag, ws, t⟩ = mb := ⟨_, rfl⟩
  rw [hmb] at H1
  have HMB := Lib.hid hmb
  have HBV := Lib.hid hbv
  have d0 : w0.cell? ⟨w.heap.size, 0, none⟩ = some (.int .u8 (kn : Int)) := hB0.cell 0
  have d1 : w0.cell? ⟨w.heap.size, 1, none⟩ = some (.int .i64 tag) := hB0.cell 1
  have d2 : w0.cell? ⟨w.heap.size, 2, none⟩ = some (.slice A n c) := hB0.cell 2
  have d3 : w0.cell? ⟨w.heap.size, 3, none⟩ = some (.string (str t)) := hB0.cell 3
  have HQ : Hid (∀ W, Below w0.heap.size w0 W → W.cell? ⟨w.heap.size, 0, none⟩ = some (.int .u8 (kn : Int)) ∧ W.cell? ⟨w.heap.size, 1, none⟩ = some (.int .i64 tag) ∧ W.cell? ⟨w.heap.size, 2, none⟩ = some (.slice A n c) ∧ W.cell? ⟨w.heap.size, 3, none⟩ = some (.string (str t))) := Lib.hid (fun W hW =>
    ⟨(hW.cell (p := ⟨w.heap.size, 0, none⟩) hB0.lt).trans d0, (hW.cell (p := ⟨w.heap.size, 1, none⟩) hB0.lt).trans d1, (hW.cell (p := ⟨w.heap.size, 2, none⟩) hB0.lt).trans d2, (hW.cell (p := ⟨w.heap.size, 3, none⟩) hB0.lt).trans d3⟩)
  clear hA hn hbv hB0 hb0 h1 htl2 hmb
  go_enter Try.func12, Try.ntmps12
  cases mb
  · go_wp2_with (go_at_call 23; refine Calls.mono H1.out ?_; rintro e w1 ⟨rfl, hb1⟩)
    go_ret2
    have hE : writeE ⟨k, tag, ws, t⟩ = 1 := by unfold writeE; rw [HMB.out]; rfl
    exact .inl ⟨by rw [hE]; decide, by rw [hE]; rfl, HBL.out.trans (hb1.mono HBL.out.size)⟩
  obtain ⟨⟨ht1, ht2⟩, hft, hfw, hfr⟩ := may_facts HMB.out
  dsimp only at ht1 ht2 hft hfw hfr
  obtain ⟨m, rfl⟩ : ∃ m : Nat, tag = m := ⟨tag.toNat, by omega⟩
  have hm6 : m ≤ 65535 := by omega
  clear ht1 ht2 hft hfw hfr htag
  go_wp2_with fail
  refine H1.out.mono ?_
  rintro e w1 ⟨rfl, hb1⟩
  obtain ⟨c0, c1, c2, c3⟩ := HQ.out w1 hb1
  have HB1 := Lib.hid hb1
  have hsz : sizeO ⟨k, m, ws, t⟩ = 5 + n * 9 + tl := by unfold sizeO; dsimp only; rw [HN.out, HTL.out]; omega
  have HSZ := Lib.hid hsz
  by_cases hbig : 8192 < 5 + n * 9 + tl
  · have hbi : (8192 : Int) < 5 + (n : Int) * 9 + (tl : Int) := by omega
    clear hsz
    go_wp2_with fail
    go_ret2
    have hE : writeE ⟨k, m, ws, t⟩ = 6 := by unfold writeE; rw [HMB.out, HSZ.out, if_pos rfl, if_pos hbig]
    exact .inl ⟨by rw [hE]; decide, by rw [hE]; rfl, HBL.out.trans (hb1.mono HBL.out.size)⟩
  have hbi : ¬ (8192 : Int) < 5 + (n : Int) * 9 + (tl : Int) := by omega
  have hp1 := put_at w1.heap.size 1 m 2 [k] m (w1.alloc (.cells #[.int .u8 (kn : Int)] 5)) rfl (Rw.of_row (by have := Blk.new w1 5 (row8 [k]); unfold row8 at this ⊢; rw [List.map_cons, HBV.out] at this ⊢; exact this) rfl (by decide)) rfl (by decide)
  rw [World.size_alloc] at hp1
  have HP1 := Lib.hid hp1
  have c5 := Lib.cell?_alloc_some (.cells #[.int .u8 (kn : Int)] 5) c1
  clear hsz hp1 hb1
  go_wp2_with fail
  refine HP1.out.mono ?_
  rintro e w2 ⟨rfl, hR2, hb2⟩
  have HB2 : Hid (Below w0.heap.size w0 w2) := Lib.hid ((HB1.out.alloc HB1.out.size _).trans (hb2.mono (by have := HB1.out.size; omega)))
  have hp2 := put_at (w1.heap.size + 1 + 2) 3 (n + tl) 2 ([k] ++ lePut m 2) ((n : Int) + (tl : Int)) w2 (by omega) hR2 rfl (by decide)
  have HP2 := Lib.hid hp2
  clear c0 c1 c2 c3 c5 HP1 hR2 hb2 hp2
  obtain ⟨c0, c1, c2, c3⟩ := HQ.out w2 HB2.out
  go_wp2_with fail
  refine HP2.out.mono ?_
  rintro e w3 ⟨rfl, hR3, hb3⟩
  have HB3 : Hid (Below w0.heap.size w0 w3) := Lib.hid (HB2.out.trans (hb3.mono HB2.out.size))
  have hfr : frontB ⟨k, m, ws, t⟩ = ([k] ++ lePut m 2) ++ lePut (n + tl) 2 := by
    unfold frontB; dsimp only; rw [HN.out, HTL.out, show u64 (m : Int) = m by unfold u64; omega]
  rw [← hfr] at hR3
  have HI : Hid (WrI w0 w3 (w2.heap.size + 2) 5 ⟨k, m, ws, t⟩ 0) := Lib.hid ⟨by simpa [wordsB] using hR3, by have := HB2.out.size; omega, HB3.out⟩
  clear c0 c1 c2 c3 HP2 hR3 hb3 hfr
  obtain ⟨c0, c1, c2, c3⟩ := HQ.out w3 HB3.out
  go_wp2_with fail
  go_loopw [4, 6, 40] (fun bvv xv iv wr => ∃ i g cp : Nat, i ≤ n ∧ iv = .int .i64 (i : Int) ∧ bvv = .slice (some ⟨g, 0, none⟩) (5 + i * 9) cp ∧ Hid (WrI w0 wr g cp ⟨k, m, ws, t⟩ i)) (fun _ _ iv _ => n - (intOf iv).toNat)
  case atStart => exact ⟨0, _, _, Nat.zero_le _, rfl, rfl, HI⟩
  case round =>
    clear c0 c1 c2 c3 HI
    obtain ⟨i, g, cp, hi, rfl, rfl, hI⟩ := hrel
    by_cases hlt : i < n
    · have hd : decide ((i : Int) < (n : Int)) = true := by simpa using hlt
      obtain ⟨x, hx⟩ : ∃ x, ws[i]? = some x := ⟨_, List.getElem?_eq_getElem (by rw [HN.out]; exact hlt)⟩
      have hw := HBL.out.trans (hI.out.bel.mono HBL.out.size)
      obtain ⟨bx, off, rfl, hblt, e0, e1, hr⟩ := HA.out.below hw i x hx
      have hsucc := wordsB_succ hx
      obtain ⟨kx, nx⟩ := x
      dsimp only at e0 e1 hr
      obtain ⟨un, hun⟩ : ∃ un, kx.toNat = un := ⟨_, rfl⟩
      have hbv : bv kx = .int .u8 (un : Int) := by rw [← hun]; rfl
      rw [hbv] at e0
      obtain ⟨wB, hwB⟩ : ∃ wB, (wr.alloc (.cells #[.int .u8 (un : Int), .int .i64 nx] 44)).alloc (.cells #[.int .u8 (un : Int)] 5) = wB := ⟨_, rfl⟩
      have hbB : Below wr.heap.size wr wB := by rw [← hwB]; exact ((Below.refl _ _).alloc (Nat.le_refl _) _).alloc (by rw [World.size_alloc]; omega) _
      have hzB : wB.heap.size = wr.heap.size + 2 := by rw [← hwB]; simp
      have hcB : wB.cell? ⟨wr.heap.size + 1, 0, none⟩ = some (bv kx) := by
        have := (Blk.new (wr.alloc (.cells #[.int .u8 (un : Int), .int .i64 nx] 44)) 5 #[.int .u8 (un : Int)]).cell 0
        rw [World.size_alloc] at this
        rw [← hwB, hbv]; exact this
      have hcW : Blk wB wr.heap.size 44 #[.int .u8 (un : Int), .int .i64 nx] := by rw [← hwB]; exact (Blk.new _ _ _).alloc _
      have hrow := hI.out.row.below hbB
      obtain ⟨g5, c5, w5, hrun5, hR5, _, hor5, hfr5, hbel5⟩ := run_rwapp hrow (wr.heap.size + 1) 0 1 1 (xs := [kx]) rfl (fun j u hu => by
        rcases j with _ | j
        · cases hu; exact hcB
        · simp at hu) (by omega)
      have hglt := hI.out.row.lt
      have hlo := hI.out.lo
      have hgs := hI.out.bel.size
      have hb05 : Below w0.heap.size w0 w5 := (hI.out.bel.trans (hbB.mono hgs)).trans (hbel5 _ hlo)
      have hlo5 : w0.heap.size ≤ g5 := by rcases hor5 with ⟨h, _⟩ | h <;> omega
      have hlt5 := hR5.lt
      have cw : w5.cell? ⟨wr.heap.size, 1, none⟩ = some (.int .i64 nx) := (World.cell?_of_block (a := ⟨wr.heap.size, 1, none⟩) (hfr5 wr.heap.size (by omega) (by omega))).trans (hcW.cell 1)
      have HP := Lib.hid (put_nil (u64 nx) (IntKind.u64.wrap nx) w5 (u64_wrap nx))
      rw [← hwB] at hrun5
      have HRUN5 := Lib.hid hrun5
      have HR5 := Lib.hid hR5
      have HB05 := Lib.hid hb05
      have HS : Hid (frontB ⟨k, m, ws, t⟩ ++ wordsB (ws.take (i + 1)) = (frontB ⟨k, m, ws, t⟩ ++ wordsB (ws.take i)) ++ [kx] ++ lePut (u64 nx) 8) := Lib.hid (by rw [hsucc]; simp [wdB])
      clear hx hw hsucc hun hbv hbB hzB hcB hcW hrow hrun5 hR5 hor5 hfr5 hbel5 hglt hgs hb05 hlt5 hlo hwB hI
      go_wp2_with (at_builtin; refine wpList_app rfl _ _ 28 rfl _ _ _ _ rfl rfl HRUN5.out ?_; clear HRUN5)
      refine HP.out.mono ?_
      rintro e w6 ⟨rfl, hR6, hb6⟩
      have hR56 := HR5.out.below hb6
      have hs5 := HB05.out.size
      have hs6 := hb6.size
      have hlt5 := HR5.out.lt
      obtain ⟨g7, c7, w7, hrun7, hR7, _, hor7, _, hbel7⟩ := run_rwapp hR56 (w5.heap.size + 2) 0 8 8 (xs := lePut (u64 nx) 8) (lePut_length _ _) (fun j u hu => by rw [Nat.zero_add]; exact hR6.holds j u hu) (by omega)
      have HRUN7 := Lib.hid hrun7
      have hb6' : Below w0.heap.size w0 w6 := HB05.out.trans (hb6.mono hs5)
      have hlo7 : w0.heap.size ≤ g7 := by rcases hor7 with ⟨h, _⟩ | h <;> omega
      rw [← HS.out] at hR7
      rw [show 5 + i * 9 + 1 + 8 = 5 + (i + 1) * 9 by omega] at hR7
      have HI7 : Hid (WrI w0 w7 g7 c7 ⟨k, m, ws, t⟩ (i + 1)) := Lib.hid ⟨hR7, hlo7, hb6'.trans (hbel7 _ hlo5)⟩
      have q9 : 5 + i * 9 + 1 + 8 = 5 + (i + 1) * 9 := by omega
      clear hR56 hs5 hs6 hlt5 hrun7 hR7 hor7 hbel7 hb6' hlo7 hR6 hb6 cw HP HR5 HB05 HS
      go_wp2_with (at_builtin; refine wpList_app rfl _ _ 28 rfl _ _ _ _ rfl rfl HRUN7.out ?_; clear HRUN7)
      go_roundw
      case rel => exact ⟨i + 1, g7, c7, by omega, by go_num, rfl, HI7⟩
      case measure => simp [intOf]; omega
    · obtain rfl : n = i := by omega
      have hd : decide ((n : Int) < (n : Int)) = false := by simp
      obtain ⟨c0, c1, c2, c3⟩ := HQ.out wr hI.out.bel
      obtain ⟨g', c', w5, hrun, hR5, _, hor, _, hbel⟩ := run_rwappS hI.out.row (xs := t) tl HTL.out (by omega)
      have HRUN := Lib.hid hrun
      have hlo := hI.out.lo
      have HB5 : Hid (Below w0.heap.size w0 w5) := Lib.hid (hI.out.bel.trans (hbel _ hlo))
      have HG : Hid (w0.heap.size ≤ g') := Lib.hid (by
        rcases hor with ⟨h, _⟩ | h
        · omega
        · rw [h]; exact hI.out.bel.size)
      have hby : frontB ⟨k, m, ws, t⟩ ++ wordsB (ws.take n) ++ t = bytesO ⟨k, m, ws, t⟩ := by unfold bytesO; rw [List.take_of_length_le (by rw [HN.out]; exact Nat.le_refl _)]
      dsimp only at hR5
      rw [hby] at hR5
      have HR5 : Hid (Rw w5 g' (5 + n * 9 + tl) c' (bytesO ⟨k, m, ws, t⟩)) := Lib.hid hR5
      clear hrun hR5 hor hbel hby hI
      go_wp2_with (at_builtin; refine wpList_app2 rfl _ _ 28 9 rfl _ _ _ _ rfl rfl HRUN.out ?_; clear HRUN)
      go_ret2
      have hE : writeE ⟨k, m, ws, t⟩ = 0 := by unfold writeE; rw [HMB.out, HSZ.out, if_pos rfl, if_neg hbig]
      refine .inr ⟨g', c', hE, ?_, ?_, Nat.le_trans HBL.out.size HG.out, HBL.out.trans (HB5.out.mono HBL.out.size)⟩
      · rw [HSZ.out]; rfl
      · rw [HSZ.out]; exact HR5.out
end Go.Proofs.Ytobfglnopihibaa
