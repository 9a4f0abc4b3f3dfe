/- RecordCuts. -/
import Derived.Test.YtobfglnopihibaaAn
namespace Go.Proofs.Ytobfglnopihibaa
open Go.RowKit Rcd

set_option maxRecDepth 20000 in
set_option maxHeartbeats 4000000 in
theorem cutslaw (k : UInt8) (tag : Int) (A : Option Addr) (n c : Nat) (t : List UInt8) (ws : List Wd) (cut mr : Nat) (w : World) (h : OArg w k tag A n c t ws) (hcut : cut < 65536) (hmr : mr < 256) :
    Calls Try.prog 8 #[.agg #[bv k, .int .i64 tag, .slice A n c, .string (str t)], .int .u16 (cut : Int), .int .u8 (mr : Int)] w fun e w' => e = .returned (.bool true) ∧ Below w.heap.size w w' := by
  obtain ⟨hn, hc, hm, hA, htg⟩ := h
  have HN := Lib.hid hn
  have HCM := Lib.hid (And.intro hc hm)
  obtain ⟨kn, hkn⟩ : ∃ kn, k.toNat = kn := ⟨_, rfl⟩
  have HKN := Lib.hid hkn
  have hbv : bv k = .int .u8 (kn : Int) := by rw [← hkn]; rfl
  have HBV := Lib.hid hbv
  obtain ⟨tl, htl⟩ : ∃ tl, t.length = tl := ⟨_, rfl⟩
  have HTL := Lib.hid htl
  rw [hbv]
  obtain ⟨w0, hw0⟩ : ∃ w0, w.alloc (.cells #[.int .u8 (kn : Int), .int .i64 tag, .slice A n c, .string (str t)] 24) = w0 := ⟨_, rfl⟩
  have hB0 : Blk w0 w.heap.size 24 #[.int .u8 (kn : Int), .int .i64 tag, .slice A n c, .string (str t)] := by rw [← hw0]; exact Blk.new _ _ _
  have hb0 : Below w.heap.size w w0 := by rw [← hw0]; exact (Below.refl _ _).alloc (Nat.le_refl _) _
  have HQ : Hid (∀ W, Below w0.heap.size w0 W → Words W A ws ∧ W.cell? ⟨w.heap.size, 0, none⟩ = some (.int .u8 (kn : Int)) ∧ W.cell? ⟨w.heap.size, 1, none⟩ = some (.int .i64 tag) ∧ W.cell? ⟨w.heap.size, 2, none⟩ = some (.slice A n c) ∧ W.cell? ⟨w.heap.size, 3, none⟩ = some (.string (str t))) := Lib.hid (fun W hW =>
    ⟨(hA.below hb0).below hW, (hW.cell (p := ⟨w.heap.size, 0, none⟩) hB0.lt).trans (hB0.cell 0), (hW.cell (p := ⟨w.heap.size, 1, none⟩) hB0.lt).trans (hB0.cell 1), (hW.cell (p := ⟨w.heap.size, 2, none⟩) hB0.lt).trans (hB0.cell 2), (hW.cell (p := ⟨w.heap.size, 3, none⟩) hB0.lt).trans (hB0.cell 3)⟩)
  have hlg := large_any k tag A n c t w0 tl htl
  rw [hbv] at hlg
  have HB0 := Lib.hid hb0
  have HA := Lib.hid hA
  clear hB0 hb0 hA hn hc hm hkn hbv htl
  obtain ⟨_, c0, c1, c2, c3⟩ := HQ.out w0 (Below.refl _ _)
  go_enter Try.func8, Try.ntmps8
  by_cases hbig : 2048 < n ∨ 32768 < tl
  · have hv : (decide (2048 < n) || decide (32768 < tl)) = true := by simpa using hbig
    rw [hv] at hlg
    have HLG := Lib.hid hlg
    clear hlg hv
    go_wp2_with fail
    refine HLG.out.mono ?_
    rintro e w1 ⟨rfl, hb1⟩
    have HB1 := Lib.hid (HB0.out.trans (hb1.mono HB0.out.size))
    have HW := Lib.hid (works_any w1)
    clear hb1 HLG c0 c1 c2 c3
    go_wp2_with fail
    refine HW.out.mono ?_
    rintro e w2 ⟨rfl, hb2⟩
    have HB2 := Lib.hid (HB1.out.trans (hb2.mono HB1.out.size))
    clear hb2
    go_wp2_with fail
    go_ret
    exact ⟨rfl, HB2.out⟩
  have hv : (decide (2048 < n) || decide (32768 < tl)) = false := by simpa using hbig
  rw [hv] at hlg
  have HLG := Lib.hid hlg
  have hn2 : n ≤ 2048 := by omega
  have ht3 : tl ≤ 32768 := by omega
  clear hlg hv hbig
  go_wp2_with fail
  refine HLG.out.mono ?_
  rintro e w1 ⟨rfl, hb1⟩
  have HB1 : Hid (Below w0.heap.size w0 w1) := Lib.hid hb1
  clear hb1 HLG c0 c1 c2 c3
  obtain ⟨hw1, c0, c1, c2, c3⟩ := HQ.out w1 HB1.out
  have h2 := write_any k tag A n c t ws w1 HN.out hw1 (by omega) htg (by rw [HTL.out]; omega)
  rw [HBV.out] at h2
  have H2 := Lib.hid h2
  clear h2 hw1
  go_wp2_with fail
  refine H2.out.mono ?_
  rintro e w2 (⟨hE, rfl, hb2⟩ | ⟨g, cp, hE, rfl, hR2, hg2, hb2⟩)
  · obtain ⟨ev, hev⟩ : ∃ ev, writeE ⟨k, tag, ws, t⟩ = ev := ⟨_, rfl⟩
    rw [hev] at hE ⊢
    have hE2 : (ev != 0) = true := by simpa using hE
    have HB2 : Hid (Below w0.heap.size w0 w2) := Lib.hid (HB1.out.trans (hb2.mono HB1.out.size))
    clear hE hev hb2 H2 c0 c1 c2 c3
    go_wp2_with fail
    have HW := Lib.hid (works_any w2)
    go_wp2_with fail
    refine HW.out.mono ?_
    rintro e wz ⟨rfl, hbz⟩
    have HBZ := Lib.hid (HB0.out.trans ((HB2.out.trans (hbz.mono HB2.out.size)).mono HB0.out.size))
    clear hbz
    go_wp2_with fail
    go_ret
    exact ⟨rfl, HBZ.out⟩
  · have HB2 : Hid (Below w0.heap.size w0 w2) := Lib.hid (HB1.out.trans (hb2.mono HB1.out.size))
    obtain ⟨hm0, hs0, _⟩ := writeE_ok hE
    have hrd := read_write hm0 hs0
    obtain ⟨X, hX⟩ : ∃ X, bytesO ⟨k, tag, ws, t⟩ = X := ⟨_, rfl⟩
    rw [hX] at hrd hR2
    have hsz5 : 5 ≤ sizeO ⟨k, tag, ws, t⟩ := by unfold sizeO; omega
    obtain ⟨sz, hsz⟩ : ∃ sz, sizeO ⟨k, tag, ws, t⟩ = sz := ⟨_, rfl⟩
    rw [hsz] at hs0 hR2 hsz5 ⊢
    obtain ⟨j, hj⟩ : ∃ j, cut % sz = j := ⟨_, rfl⟩
    have hjl : j < sz := by rw [← hj]; exact Nat.mod_lt _ (by omega)
    have q1 : (cut : Int).tmod (sz : Int) = (j : Int) := by rw [← hj, Int.tmod_eq_emod_of_nonneg (by omega)]; rfl
    have q2 : (cut : Int) % (sz : Int) = (j : Int) := by rw [← hj]; rfl
    have q3 : ((sz : Int) == 0) = false := by simp; omega
    have q4 : (0 : Int) ≤ (j : Int) := by omega
    have hRl := hR2.long
    have hcap := hR2.le
    have hmax := hR2.max
    have hby : Bytes w2 (some ⟨g, 0, none⟩) (X.take j) := fun k' c' hk' => by
      have hkj : k' < j := by have := (List.getElem?_eq_some_iff.1 hk').1; simp at this; omega
      rw [List.getElem?_take_of_lt hkj] at hk'
      exact hR2.bytes k' c' hk'
    have h3 := read_any (some ⟨g, 0, none⟩) j cp (X.take j) w2 (by rw [List.length_take, hRl]; omega) hby (by omega) hmax
    have H3 := Lib.hid h3
    have HC1 : Hid (readO (X.take j) = none) := Lib.hid (read_cut hrd j (by rw [hRl]; exact hjl))
    have HC2 : Hid (∀ u, readO (X ++ [u]) = none) := Lib.hid (fun u => read_more hrd (by simp))
    have HR2 := Lib.hid hR2
    have HG : Hid (w0.heap.size ≤ g) := Lib.hid (Nat.le_trans HB1.out.size hg2)
    have hcp : cp ≤ 9223372036854775807 := by unfold maxLen at hmax; omega
    have hcpj : (j : Int) ≤ (cp : Int) := by omega
    clear hby h3 hb2 hg2 hrd hX hsz hm0 hmax hRl hE H2 hj c0 c1 c2 c3
    go_wp2_with fail
    refine H3.out.mono ?_
    rintro e w3 (⟨_, rfl, hb3⟩ | ⟨o, v, h, _⟩)
    rotate_left
    · rw [HC1.out] at h; cases h
    have HB3 : Hid (Below w0.heap.size w0 w3) := Lib.hid (HB2.out.trans (hb3.mono HB2.out.size))
    have hR3 := HR2.out.below hb3
    have hmn : UInt8.toNat (UInt8.ofNat mr) = mr := by rw [UInt8.toNat_ofNat', Nat.mod_eq_of_lt (by omega)]
    obtain ⟨wz, hwz⟩ : ∃ wz, w3.alloc (.cells #[.int .u8 0, .int .i64 0, .slice none 0 0, .string ⟨#[]⟩] 24) = wz := ⟨_, rfl⟩
    obtain ⟨wB, hwB⟩ : ∃ wB, wz.alloc (.cells #[.int .u8 (mr : Int)] 5) = wB := ⟨_, rfl⟩
    have hb3z : Below w3.heap.size w3 wz := by rw [← hwz]; exact (Below.refl _ _).alloc (Nat.le_refl _) _
    have hbzB : Below wz.heap.size wz wB := by rw [← hwB]; exact (Below.refl _ _).alloc (Nat.le_refl _) _
    have hRB := (hR3.below hb3z).below hbzB
    have hcB : wB.cell? ⟨wz.heap.size, 0, none⟩ = some (bv (UInt8.ofNat mr)) := by
      have := (Blk.new wz 5 #[.int .u8 (mr : Int)]).cell 0
      unfold bv
      rw [hmn, ← hwB]
      exact this
    obtain ⟨g5, c5, w5, hrun5, hR5, _, hor5, _, hbel5⟩ := run_rwapp hRB wz.heap.size 0 1 1 (xs := [UInt8.ofNat mr]) rfl (fun j u hu => by
      rcases j with _ | j
      · cases hu; exact hcB
      · simp at hu) (by omega)
    have hg : w0.heap.size ≤ g := HG.out
    have HBz : Hid (Below w0.heap.size w0 wz) := Lib.hid (HB3.out.trans (hb3z.mono HB3.out.size))
    have HB5 : Hid (Below w0.heap.size w0 w5) := Lib.hid ((HBz.out.trans (hbzB.mono HBz.out.size)).trans (hbel5 _ hg))
    have HC3 : Hid (readO (X ++ [UInt8.ofNat mr]) = none) := Lib.hid (HC2.out _)
    have H6 := Lib.hid (read_any (some ⟨g5, 0, none⟩) (sz + 1) c5 (X ++ [UInt8.ofNat mr]) w5 hR5.long hR5.bytes hR5.le hR5.max)
    have HWZ := Lib.hid hwz
    rw [← hwB] at hrun5
    have HRUN := Lib.hid hrun5
    clear hb3 hR3 hb3z hbzB hRB hcB hrun5 hR5 hor5 hbel5 hg hwz hwB hmn q1 q2 hcut hR2 H3
    go_upto_region 9 with fail
    rw [HWZ.out]
    go_wp2_with (at_builtin; refine wpList_app rfl _ _ 28 rfl _ _ _ _ rfl rfl HRUN.out ?_; clear HRUN)
    refine H6.out.mono ?_
    rintro e w6 (⟨_, rfl, hb6⟩ | ⟨o, v, h, _⟩)
    rotate_left
    · rw [HC3.out] at h; cases h
    have HB6 : Hid (Below w0.heap.size w0 (w6.alloc (.cells #[.int .u8 0, .int .i64 0, .slice none 0 0, .string ⟨#[]⟩] 24))) := Lib.hid (by
      have h := HB5.out.trans (hb6.mono HB5.out.size)
      exact h.alloc h.size _)
    clear hb6 H6
    have HW := Lib.hid (works_any (w6.alloc (.cells #[.int .u8 0, .int .i64 0, .slice none 0 0, .string ⟨#[]⟩] 24)))
    go_wp2_with fail
    refine HW.out.mono ?_
    rintro e wz ⟨rfl, hbz⟩
    have HBZ := Lib.hid (HB0.out.trans ((HB6.out.trans (hbz.mono HB6.out.size)).mono HB0.out.size))
    clear hbz
    go_wp2_with fail
    go_ret
    exact ⟨rfl, HBZ.out⟩
end Go.Proofs.Ytobfglnopihibaa
