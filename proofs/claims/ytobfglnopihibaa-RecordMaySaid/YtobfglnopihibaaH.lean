/- mayBe. -/
import Derived.Test.YtobfglnopihibaaG
import Derived.Test.YtobfglnopihibaaW
import Derived.Deep.RegionHeld3
namespace Go.Proofs.Ytobfglnopihibaa
open Go.RowKit Rcd

theorem KPair.same {w w' : World} {b n : Nat} {S : Int → Option (Int × Int)} (h : KPair w b n S) (hb : w'.heap[b]? = w.heap[b]?) : KPair w' b n S := by
  obtain ⟨D, ⟨es, clock, h1, h2⟩, h3⟩ := h
  exact ⟨D, ⟨es, clock, hb.trans h1, h2⟩, h3⟩
theorem KPair.lt {w : World} {b n : Nat} {S : Int → Option (Int × Int)} (h : KPair w b n S) : b < w.heap.size := by obtain ⟨D, h1, _⟩ := h; exact h1.lt

theorem KPair.look2 {w : World} {b n : Nat} {S : Int → Option (Int × Int)} (h : KPair w b n S) (i : Int) (hi : (Lit.int .u8 i).wf = true) (o : Obj) :
    (Instr.lookup 60 (.map (some b)) (.int .u8 i) true).run Try.prog (w.alloc o) = .ok (.tuple #[.agg #[.int .i64 ((S i).getD (0, 0)).1, .int .i64 ((S i).getD (0, 0)).2], .bool (S i).isSome]) (w.alloc o) :=
  (h.same (w' := w.alloc o) (Below.heap_alloc w o b h.lt)).look i hi

/-- Behind the first lookup. -/
structure MayI (w wx : World) (kn : Nat) (tag : Int) (A : Option Addr) (n c : Nat) (t : List UInt8) (G : Nat) : Prop where
  box : Blk wx w.heap.size 24 #[.int .u8 (kn : Int), .int .i64 tag, .slice A n c, .string (str t)]
  arr : Blk wx G 58 #[.int .i64 ((kindS kn).getD (0, 0)).1, .int .i64 ((kindS kn).getD (0, 0)).2]
  bel : Below w.heap.size w wx
theorem MayI.frame {w wx w2 : World} {kn : Nat} {tag : Int} {A : Option Addr} {n c : Nat} {t : List UInt8} {G : Nat} (h : MayI w wx kn tag A n c t G) (hb : Below wx.heap.size wx w2) : MayI w w2 kn tag A n c t G :=
  ⟨h.box.below hb h.box.lt, h.arr.below hb h.arr.lt, h.bel.trans (hb.mono h.bel.size)⟩

theorem MayI.one {w w0 w1 : World} {kn : Nat} {tag : Int} {A : Option Addr} {n c : Nat} {t : List UInt8} (h0 : Blk w0 w.heap.size 24 #[.int .u8 (kn : Int), .int .i64 tag, .slice A n c, .string (str t)]) (hb : Below w.heap.size w w0) (h1 : Below w0.heap.size w0 w1) :
    MayI w (w1.alloc (.cells #[.int .i64 ((kindS kn).getD (0, 0)).1, .int .i64 ((kindS kn).getD (0, 0)).2] 58)) kn tag A n c t w1.heap.size :=
  ⟨(h0.below h1 h0.lt).alloc _, Blk.new _ _ _, (hb.trans (h1.mono hb.size)).alloc (Nat.le_trans hb.size h1.size) _⟩
theorem MayI.two {w w0 w1 : World} {kn : Nat} {tag : Int} {A : Option Addr} {n c : Nat} {t : List UInt8} (h0 : Blk w0 w.heap.size 24 #[.int .u8 (kn : Int), .int .i64 tag, .slice A n c, .string (str t)]) (hb : Below w.heap.size w w0) (h1 : Below w0.heap.size w0 w1) (hB : Blk w1 w0.heap.size 58 #[.int .i64 0, .int .i64 0]) :
    MayI w ((w1.setCell ⟨w0.heap.size, 0, none⟩ (.int .i64 ((kindS kn).getD (0, 0)).1)).setCell ⟨w0.heap.size, 1, none⟩ (.int .i64 ((kindS kn).getD (0, 0)).2)) kn tag A n c t w0.heap.size := by
  have h2 := (h1.setCell (p := ⟨w0.heap.size, 0, none⟩) (Nat.le_refl _) (.int .i64 ((kindS kn).getD (0, 0)).1)).setCell (p := ⟨w0.heap.size, 1, none⟩) (Nat.le_refl _) (.int .i64 ((kindS kn).getD (0, 0)).2)
  exact ⟨h0.below h2 h0.lt, (hB.set_ 0 _).set_ 1 _, hb.trans (h2.mono hb.size)⟩
theorem kind_fact (k : UInt8) (kn n : Nat) (hk : k.toNat = kn) :
    (!cntOk k n) = (!(kindS kn).isSome || (decide ((n : Int) < ((kindS kn).getD (0, 0)).1) || (decide (((kindS kn).getD (0, 0)).2 < (n : Int)) && decide (((kindS kn).getD (0, 0)).2 < 8192)))) := by
  have e : ∀ j : UInt8, k = j ↔ kn = j.toNat := fun j => by rw [← hk]; exact ⟨fun e => by rw [e], fun e => UInt8.toNat_inj.1 e⟩
  unfold cntOk kindS
  simp only [e]
  by_cases h1 : kn = 1
  · subst h1; rw [Bool.eq_iff_iff]; simp <;> omega
  by_cases h2 : kn = 2
  · subst h2; rw [Bool.eq_iff_iff]; simp <;> omega
  by_cases h3 : kn = 3
  · subst h3; rw [Bool.eq_iff_iff]; simp <;> omega
  by_cases h4 : kn = 4
  · subst h4; simp
  by_cases h5 : kn = 5
  · subst h5; rw [Bool.eq_iff_iff]; simp <;> omega
  have d1 : ¬ ((kn : Int) = 1) := by omega
  have d2 : ¬ ((kn : Int) = 2) := by omega
  have d3 : ¬ ((kn : Int) = 3) := by omega
  have d4 : ¬ ((kn : Int) = 4) := by omega
  have d5 : ¬ ((kn : Int) = 5) := by omega
  simp [h1, h2, h3, h4, h5, d1, d2, d3, d4, d5]

set_option maxRecDepth 20000 in
set_option maxHeartbeats 2000000 in
theorem maybe_any (k : UInt8) (tag : Int) (A : Option Addr) (n c : Nat) (t : List UInt8) (ws : List Wd) (w : World) (hn : ws.length = n) (hA : Words w A ws) (hl : n ≤ 100000) :
    Calls Try.prog 23 #[.agg #[bv k, .int .i64 tag, .slice A n c, .string (str t)]] w fun e w' => e = .returned (.bool (mayB ⟨k, tag, ws, t⟩)) ∧ Below w.heap.size w w' := by
  have HA := Lib.hid hA
  have HN := Lib.hid hn
  obtain ⟨kn, hkn⟩ : ∃ kn, k.toNat = kn := ⟨_, rfl⟩
  have hbv : bv k = .int .u8 (kn : Int) := by rw [← hkn]; rfl
  have hklt : kn < 256 := by rw [← hkn]; exact k.toNat_lt
  rw [hbv]
  obtain ⟨w0, hw0⟩ : ∃ w0, w.alloc (.cells #[.int .u8 (kn : Int), .int .i64 tag, .slice A n c, .string (str t)] 24) = w0 := ⟨_, rfl⟩
  have hB0 : Blk w0 w.heap.size 24 #[.int .u8 (kn : Int), .int .i64 tag, .slice A n c, .string (str t)] := by rw [← hw0]; exact Blk.new _ _ _
  have hb0 : Below w.heap.size w w0 := by rw [← hw0]; exact (Below.refl _ _).alloc (Nat.le_refl _) _
  have HC1 : Hid (Calls Try.prog 33 #[] w0.drew fun e w' => e = .returned (.map (some w0.heap.size)) ∧ KPair w' w0.heap.size 5 kindS ∧ Below w0.heap.size w0 w') := Lib.hid ((counts_any w0.drew).mono fun e w' h => ⟨h.1, h.2.1, (Below.refl _ w0).drew.trans h.2.2⟩)
  have HC2 : Hid (Calls Try.prog 33 #[] (w0.drew.alloc (.cells #[.int .i64 0, .int .i64 0] 58)) fun e w' => e = .returned (.map (some (w0.heap.size + 1))) ∧ KPair w' (w0.heap.size + 1) 5 kindS ∧ Below w0.heap.size w0 w' ∧ Blk w' w0.heap.size 58 #[.int .i64 0, .int .i64 0]) := Lib.hid ((counts_any _).mono fun e w' h => by
    have hz : (w0.drew.alloc (.cells #[.int .i64 0, .int .i64 0] 58)).heap.size = w0.heap.size + 1 := by rw [World.size_alloc]; rfl
    rw [hz] at h
    exact ⟨h.1, h.2.1, ((Below.refl _ w0).drew.alloc (Nat.le_refl _) _).trans (h.2.2.mono (Nat.le_succ _)), (Blk.new w0.drew _ _).below h.2.2 (Nat.lt_succ_self _)⟩)
  have HB0 := Lib.hid hB0
  have HBL := Lib.hid hb0
  clear hA hn hbv hB0 hb0
  have hwfk : (Lit.int .u8 (kn : Int)).wf = true := by simp [Lit.wf, IntKind.min, IntKind.max, IntKind.bits, IntKind.signed]; omega
  go_enter Try.func23, Try.ntmps23
  go_upto_region 1 with fail
  go_cut [3, 4] from 7 to 13 (fun p q wx => ∃ G, p = .pointer (some ⟨G, 0, none⟩) ∧ q = .bool (kindS kn).isSome ∧ Hid (MayI w wx kn tag A n c t G))
  case first =>
    have cb : w0.drew.cell? ⟨w.heap.size, 0, none⟩ = some (.int .u8 (kn : Int)) := HB0.out.cell 0
    have HX : Hid (∀ W, Below w0.heap.size w0 W → W.cell? ⟨w.heap.size, 0, none⟩ = some (.int .u8 (kn : Int))) := Lib.hid (fun W hW => (hW.cell (p := ⟨w.heap.size, 0, none⟩) HB0.out.lt).trans (HB0.out.cell 0))
    have hW0 : Below w0.heap.size w0 w0.drew := (Below.refl _ w0).drew
    go_region_held3 (fun W => W.cell? ⟨w.heap.size, 0, none⟩ = some (.int .u8 (kn : Int)))
      (first | exact cb | exact HX.out _ (hW0.alloc hW0.size _) | exact HX.out _ hb1 | exact HX.out _ (hb1.alloc hb1.size _) | exact HX.out _ (((hb1.alloc hb1.size _).setCell hb1.size _).setCell hb1.size _) | exact HX.out _ ((hb1.setCell (Nat.le_refl _) _).setCell (Nat.le_refl _) _))
      (first
        | (go_at_call 33; refine Calls.mono HC1.out ?_; rintro e w1 ⟨rfl, hk1, hb1⟩; have hlk := hk1.look kn hwfk; have hlk2 := hk1.look2 kn hwfk)
        | (go_at_call 33; refine Calls.mono HC2.out ?_; rintro e w1 ⟨rfl, hk1, hb1, hB⟩; have hlk := hk1.look kn hwfk; have z0 := hB.cell 0; have z1 := hB.cell 1; have f0 := hB.frozen 0; have f1 := hB.frozen 1))
    · have HM := Lib.hid (MayI.one HB0.out HBL.out hb1)
      clear hk1 hlk hlk2
      go_wp2_with fail
      go_meet
      exact ⟨_, rfl, rfl, HM⟩
    · have HM := Lib.hid (MayI.one HB0.out HBL.out hb1)
      clear hk1 hlk hlk2
      go_wp2_with fail
      go_meet
      exact ⟨_, rfl, rfl, HM⟩
    · have HM := Lib.hid (MayI.two HB0.out HBL.out hb1 hB)
      clear hk1 hlk hB z0 z1 f0 f1
      go_wp2_with fail
      go_meet
      exact ⟨_, rfl, rfl, HM⟩
  case rest =>
    obtain ⟨G, rfl, rfl, hI⟩ := hcut
    obtain ⟨w2, rfl⟩ : ∃ w2, w2 = wc := ⟨_, rfl⟩
    clear HB0 HBL HC1 HC2 hw0 hwfk
    have hkf := kind_fact k kn n hkn
    obtain ⟨ok, hok⟩ : ∃ ok, (kindS (kn : Int)).isSome = ok := ⟨_, rfl⟩
    obtain ⟨a, ha⟩ : ∃ a, ((kindS (kn : Int)).getD (0, 0)).1 = a := ⟨_, rfl⟩
    obtain ⟨b, hb⟩ : ∃ b, ((kindS (kn : Int)).getD (0, 0)).2 = b := ⟨_, rfl⟩
    have cA : w2.cell? ⟨G, 0, none⟩ = some (.int .i64 a) := by rw [← ha]; exact hI.out.arr.cell 0
    have cB : w2.cell? ⟨G, 1, none⟩ = some (.int .i64 b) := by rw [← hb]; exact hI.out.arr.cell 1
    have c0 : w2.cell? ⟨w.heap.size, 0, none⟩ = some (.int .u8 (kn : Int)) := hI.out.box.cell 0
    have c1 : w2.cell? ⟨w.heap.size, 1, none⟩ = some (.int .i64 tag) := hI.out.box.cell 1
    have c2 : w2.cell? ⟨w.heap.size, 2, none⟩ = some (.slice A n c) := hI.out.box.cell 2
    have c3 : w2.cell? ⟨w.heap.size, 3, none⟩ = some (.string (str t)) := hI.out.box.cell 3
    rw [hok, ha, hb] at hkf
    rw [hok]
    clear hok ha hb
    obtain ⟨p1, hp1⟩ : ∃ p, decide ((n : Int) < a) = p := ⟨_, rfl⟩
    obtain ⟨p2, hp2⟩ : ∃ p, decide (b < (n : Int)) = p := ⟨_, rfl⟩
    obtain ⟨p3, hp3⟩ : ∃ p, decide (b < 8192) = p := ⟨_, rfl⟩
    rw [hp1, hp2, hp3] at hkf
    obtain ⟨r1, hr1⟩ : ∃ r, cntOk k n = r := ⟨_, rfl⟩
    rw [hr1] at hkf
    have HR1 := Lib.hid hr1
    clear hr1
    go_upto_region 2 with fail
    go_cut [36] from 14 to 36 (fun s wx => s = .bool (!r1) ∧ wx = w2)
    case first =>
      cases ok
      · go_wp2_with fail
        go_meet
        exact ⟨by rw [hkf]; rfl, rfl⟩
      · cases p1
        · cases p2
          · go_wp2_with fail
            go_meet
            exact ⟨by rw [hkf]; rfl, rfl⟩
          · go_wp2_with fail
            go_meet
            exact ⟨by rw [hkf]; rfl, rfl⟩
        · go_wp2_with fail
          go_meet
          exact ⟨by rw [hkf]; rfl, rfl⟩
    case rest =>
      obtain ⟨rfl, hwc⟩ := hcut
      obtain rfl : w2 = wc := hwc.symm
      clear hkf hp1 hp2 hp3 cA cB
      cases r1
      · go_wp2_with fail
        go_ret
        have hm : mayB ⟨k, tag, ws, t⟩ = false := by unfold mayB headOk; dsimp only; rw [HN.out, HR1.out]; rfl
        exact ⟨by rw [hm]; rfl, hI.out.bel⟩
      obtain ⟨q1, hq1⟩ : ∃ q, ((kn : Int) != 5) = q := ⟨_, rfl⟩
      go_upto_region 4 with fail
      go_cut [44] from 37 to 44 (fun s wx => s = .bool (!(!q1 || t.isEmpty)) ∧ wx = w2)
      case first =>
        cases q1
        · go_wp2_with fail
          go_meet
          exact ⟨rfl, rfl⟩
        · go_wp2_with fail
          go_meet
          exact ⟨by rw [str_toList]; rfl, rfl⟩
      case rest =>
        obtain ⟨rfl, hwc⟩ := hcut
        obtain rfl : w2 = wc := hwc.symm
        have hq : Hid ((!q1) = decide (k = 5)) := Lib.hid (by
          rw [← hq1, ← hkn, Bool.eq_iff_iff]
          simp
          exact ⟨fun e => UInt8.toNat_inj.1 (by simpa using (by omega : k.toNat = 5)), fun e => by rw [e]; rfl⟩)
        obtain ⟨r2, hr2⟩ : ∃ r, (!q1 || t.isEmpty) = r := ⟨_, rfl⟩
        rw [hr2]
        have HR2 : Hid ((decide (k = 5) || t.isEmpty) = r2) := Lib.hid (by rw [← hq.out]; exact hr2)
        clear hr2 hq1 hq
        cases r2
        · go_wp2_with fail
          go_ret
          have hm : mayB ⟨k, tag, ws, t⟩ = false := by unfold mayB headOk; dsimp only; rw [HR2.out]; simp
          exact ⟨by rw [hm]; rfl, hI.out.bel⟩
        obtain ⟨g1, hg1⟩ : ∃ g, decide (tag < 0) = g := ⟨_, rfl⟩
        obtain ⟨g2, hg2⟩ : ∃ g, decide (65535 < tag) = g := ⟨_, rfl⟩
        obtain ⟨g3, hg3⟩ : ∃ g, ((kn : Int) != 2) = g := ⟨_, rfl⟩
        obtain ⟨g4, hg4⟩ : ∃ g, (tag != 0) = g := ⟨_, rfl⟩
        have HR3 : Hid (((decide (0 ≤ tag) && decide (tag ≤ 65535)) && (decide (k = 2) || decide (tag = 0))) = !(g1 || (g2 || (g3 && g4)))) := Lib.hid (by
          have e : k = 2 ↔ kn = 2 := by rw [← hkn]; exact ⟨fun e => by rw [e]; rfl, fun e => UInt8.toNat_inj.1 (by simpa using e)⟩
          rw [← hg1, ← hg2, ← hg3, ← hg4, Bool.eq_iff_iff]
          simp [e]
          omega)
        obtain ⟨r3, hr3⟩ : ∃ r, (g1 || (g2 || (g3 && g4))) = r := ⟨_, rfl⟩
        rw [hr3] at HR3
        go_upto_region 6 with fail
        go_cut [62] from 45 to 62 (fun s wx => s = .bool r3 ∧ wx = w2)
        case first =>
          cases g1
          · cases g2
            · cases g3
              · go_wp2_with fail
                go_meet
                exact ⟨by rw [← hr3]; rfl, rfl⟩
              · go_wp2_with fail
                go_meet
                exact ⟨by rw [← hr3]; rfl, rfl⟩
            · go_wp2_with fail
              go_meet
              exact ⟨by rw [← hr3]; rfl, rfl⟩
          · go_wp2_with fail
            go_meet
            exact ⟨by rw [← hr3]; rfl, rfl⟩
        case rest =>
          obtain ⟨rfl, hwc⟩ := hcut
          obtain rfl : w2 = wc := hwc.symm
          clear hg1 hg2 hg3 hg4 hr3
          cases r3
          · have HM : Hid (mayB ⟨k, tag, ws, t⟩ = ws.all wordB) := Lib.hid (by unfold mayB headOk; dsimp only; rw [HR2.out, HR3.out, HN.out, HR1.out]; rfl)
            have HB2 := Lib.hid hI.out.bel
            clear hI HR1 HR2 HR3
            go_wp2_with fail
            go_loopw [6, 66] (fun xv iv wr => ∃ i : Nat, i ≤ n ∧ iv = .int .i64 (i : Int) ∧ Hid (Below w.heap.size w wr ∧ ∀ x ∈ ws.take i, wordB x = true)) (fun _ iv _ => n - (intOf iv).toNat)
            case atStart => exact ⟨0, Nat.zero_le _, rfl, Lib.hid ⟨HB2.out, fun x hx => by simp at hx⟩⟩
            case round =>
              obtain ⟨i, hi, rfl, hJ⟩ := hrel
              clear HB2 c0 c1 c2 c3
              by_cases hlt : i < n
              · have hd : decide ((i : Int) < (n : Int)) = true := by simpa using hlt
                obtain ⟨x, hx⟩ : ∃ x, ws[i]? = some x := ⟨_, List.getElem?_eq_getElem (by rw [HN.out]; exact hlt)⟩
                obtain ⟨bx, off, rfl, hblt, e0, e1, hr⟩ := HA.out.below hJ.out.1 i x hx
                have HX := Lib.hid hx
                obtain ⟨kx, nx⟩ := x
                dsimp only at e0 e1 hr
                obtain ⟨un, hun⟩ : ∃ un, kx.toNat = un := ⟨_, rfl⟩
                have hbv : bv kx = .int .u8 (un : Int) := by rw [← hun]; rfl
                have hwd := word_any ⟨kx, nx⟩ (wr.alloc (.cells #[.int .u8 (un : Int), .int .i64 nx] 44))
                dsimp only at hwd
                rw [hbv] at e0 hwd
                have HW := Lib.hid hwd
                have HB3 := Lib.hid (hJ.out.1.alloc hJ.out.1.size (.cells #[.int .u8 (un : Int), .int .i64 nx] 44))
                have HJ2 := Lib.hid hJ.out.2
                obtain ⟨wb, hwb⟩ : ∃ wb, wordB ⟨kx, nx⟩ = wb := ⟨_, rfl⟩
                rw [hwb] at HW
                have HWB := Lib.hid hwb
                clear hx hbv hwd hJ hun hwb
                cases wb
                · go_wp2_with (go_at_call 34; refine Calls.mono HW.out ?_; rintro e w5 ⟨rfl, hb5⟩)
                  go_ret
                  have hm : ws.all wordB = false := by
                    rw [List.all_eq_false]
                    exact ⟨_, List.mem_of_getElem? HX.out, by rw [HWB.out]; simp⟩
                  exact ⟨by rw [HM.out, hm]; rfl, HB3.out.trans (hb5.mono HB3.out.size)⟩
                · go_wp2_with (go_at_call 34; refine Calls.mono HW.out ?_; rintro e w5 ⟨rfl, hb5⟩)
                  have HB5 := Lib.hid (HB3.out.trans (hb5.mono HB3.out.size))
                  have HJ5 : Hid (∀ x ∈ ws.take (i + 1), wordB x = true) := Lib.hid (fun x hx => by
                    obtain ⟨h1, h2⟩ := List.getElem?_eq_some_iff.1 HX.out
                    rw [List.take_succ_eq_append_getElem h1, h2] at hx
                    rcases List.mem_append.1 hx with h | h
                    · exact HJ2.out x h
                    · rw [List.mem_singleton.1 h]; exact HWB.out)
                  clear hb5
                  go_roundw
                  case rel => exact ⟨i + 1, by omega, by go_num, Lib.hid ⟨HB5.out, HJ5.out⟩⟩
                  case measure => simp [intOf]; omega
              · obtain rfl : n = i := by omega
                have hd : decide ((n : Int) < (n : Int)) = false := by simp
                have hm : Hid (ws.all wordB = true) := Lib.hid (by
                  rw [List.all_eq_true]
                  have := hJ.out.2
                  rw [List.take_of_length_le (by rw [HN.out]; exact Nat.le_refl _)] at this
                  exact this)
                have HB5 := Lib.hid hJ.out.1
                clear hJ
                go_wp2_with fail
                go_ret
                exact ⟨by rw [HM.out, hm.out]; rfl, HB5.out⟩
          · go_wp2_with fail
            go_ret
            have hm : mayB ⟨k, tag, ws, t⟩ = false := by unfold mayB headOk; dsimp only; rw [HR3.out]; simp
            exact ⟨by rw [hm]; rfl, hI.out.bel⟩
end Go.Proofs.Ytobfglnopihibaa
