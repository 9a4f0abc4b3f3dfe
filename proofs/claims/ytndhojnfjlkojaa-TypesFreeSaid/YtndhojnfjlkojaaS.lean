/- types: tooGreat, apply. -/
import Derived.Test.YtndhojnfjlkojaaR
import Derived.Test.YtndhojnfjlkojaaN
import Derived.Deep.RegionWith
import Derived.Laws.EntriesVeiled
namespace Go.Proofs.Ytndhojnfjlkojaa
open Go.RowKit
set_option linter.unusedVariables false
set_option linter.unusedSimpArgs false
attribute [local go_sem] Oper.semAt_some
open Ty
set_option maxRecDepth 20000 in
set_option maxHeartbeats 2000000 in
theorem great_any {B : Nat} {g : Nat} {Ab : Option Addr} {cb N : Nat} {σ : Int → Option Ty} {S : Int → Ty} (hS : Slv N σ S) (t : Ty) (A : Option Addr) (c : Nat) (w : World) (hg : good N t) (hT : Tb B w t A c) (hB : Bk B w g Ab cb N σ) :
    Calls Try.prog 41 #[.pointer (some ⟨g, 0, none⟩), t.val A c] w fun e w' => ∃ b, e = .returned (.bool b) ∧ (b = true ↔ great (t.sub S)) ∧ Below w.heap.size w w' := by
  obtain ⟨tl, htl⟩ : ∃ tl, t.ks.length = tl := ⟨_, rfl⟩
  obtain ⟨w0, hw0⟩ : ∃ w0, (((w.alloc (.cells #[.pointer (some ⟨g, 0, none⟩)] 32)).alloc (.cells #[.int .u8 (t.k : Int), .string (str t.nm), .int .i64 t.n, .slice A tl c] 24)).alloc (.cells #[.int .i64 0] 3)).alloc (.cells #[.nilFunc] 47) = w0 := ⟨_, rfl⟩
  have hb0 : Below w.heap.size w w0 := by rw [← hw0]; exact ((((Below.refl _ _).alloc (Nat.le_refl _) _).alloc (by simp) _).alloc (by simp; omega) _).alloc (by simp; omega) _
  have hP0 : Blk w0 w.heap.size 32 #[.pointer (some ⟨g, 0, none⟩)] := by rw [← hw0]; exact (((Blk.new _ _ _).alloc _).alloc _).alloc _
  have hT0 : Blk w0 (w.heap.size + 1) 24 #[.int .u8 (t.k : Int), .string (str t.nm), .int .i64 t.n, .slice A tl c] := by
    have := ((Blk.new (w.alloc (.cells #[.pointer (some ⟨g, 0, none⟩)] 32)) 24 #[.int .u8 (t.k : Int), .string (str t.nm), .int .i64 t.n, .slice A tl c]).alloc (.cells #[.int .i64 0] 3)).alloc (.cells #[.nilFunc] 47)
    rw [World.size_alloc] at this
    rw [← hw0]; exact this
  have hI0 : Blk w0 (w.heap.size + 1 + 1) 3 #[.int .i64 ((0 : Nat) : Int)] := by
    have := (Blk.new ((w.alloc (.cells #[.pointer (some ⟨g, 0, none⟩)] 32)).alloc (.cells #[.int .u8 (t.k : Int), .string (str t.nm), .int .i64 t.n, .slice A tl c] 24)) 3 #[.int .i64 0]).alloc (.cells #[.nilFunc] 47)
    rw [World.size_alloc, World.size_alloc] at this
    rw [← hw0]; exact this
  have hN0 : Blk w0 (w.heap.size + 1 + 1 + 1) 47 #[.nilFunc] := by
    have := Blk.new (((w.alloc (.cells #[.pointer (some ⟨g, 0, none⟩)] 32)).alloc (.cells #[.int .u8 (t.k : Int), .string (str t.nm), .int .i64 t.n, .slice A tl c] 24)).alloc (.cells #[.int .i64 0] 3)) 47 #[.nilFunc]
    rw [World.size_alloc, World.size_alloc, World.size_alloc] at this
    rw [← hw0]; exact this
  have f0 := hN0.cell 0
  have ff := hN0.frozen
  simp only [List.getElem?_toArray, List.getElem?_cons_zero, List.getElem?_cons_succ] at f0
  obtain ⟨w1, hw1⟩ : ∃ w1, w0.setCell ⟨w.heap.size + 1 + 1 + 1, 0, none⟩ (.func (.func 47) #[] #[.pointer (some ⟨w.heap.size + 1 + 1, 0, none⟩), .pointer (some ⟨w.heap.size, 0, none⟩), .pointer (some ⟨w.heap.size + 1 + 1 + 1, 0, none⟩)]) = w1 := ⟨_, rfl⟩
  have ho1 : Off (fun b => b = w.heap.size + 1 + 1 + 1) w0 w1 := by rw [← hw1]; exact Off.setc _ _ _ _
  have hF1 : Blk w1 (w.heap.size + 1 + 1 + 1) 47 #[.func (.func 47) #[] #[.pointer (some ⟨w.heap.size + 1 + 1, 0, none⟩), .pointer (some ⟨w.heap.size, 0, none⟩), .pointer (some ⟨w.heap.size + 1 + 1 + 1, 0, none⟩)]] := by
    have := hN0.set_ 0 (.func (.func 47) #[] #[.pointer (some ⟨w.heap.size + 1 + 1, 0, none⟩), .pointer (some ⟨w.heap.size, 0, none⟩), .pointer (some ⟨w.heap.size + 1 + 1 + 1, 0, none⟩)])
    rw [hw1] at this
    simpa using this
  have hb1 : Below w.heap.size w w1 := hb0.trans (ho1.below hb0.size (fun g e => by omega))
  have hbB := hb1.mono hB.Bs
  have hFt : Ft B w1 g (w.heap.size + 1 + 1) w.heap.size (w.heap.size + 1 + 1 + 1) 0 := ⟨hI0.off ho1 (by omega), hP0.off ho1 (by omega), hF1, by have := hB.Bs; omega, by omega, by omega⟩
  have HC := fits_any hS (meas N S t + 1) t A c 1 0 w1 (Nat.lt_succ_self _) hg (hT.bel hbB) (hB.bel hbB) hFt (by omega) (by omega) (by omega)
  have d0 := hT0.cell 0
  have d1 := hT0.cell 1
  have d2 := hT0.cell 2
  have d3 := hT0.cell 3
  simp only [List.getElem?_toArray, List.getElem?_cons_zero, List.getElem?_cons_succ] at d0 d1 d2 d3
  unfold Ty.val at HC ⊢
  rw [htl] at HC ⊢
  replace HC := Lib.hid HC
  have HB0 := Lib.hid hb1
  have HW0 := Lib.hid hw0
  have HW1 := Lib.hid hw1
  have HT1 := Lib.hid (And.intro (hT0.off ho1 (by omega)) hF1)
  have hmf := hmf17
  clear hb0 hb1 ho1 hF1 hN0 hw1 hP0 hT0 hI0 hbB hFt hS hg hT hB htl hw0
  go_enter Try.func41, Try.ntmps41
  go_upto_region 3 with fail
  rw [HW0.out]
  clear HW0
  go_upto_region 4 with fail
  (try rw [HW1.out])
  clear HW1 f0 ff d0 d1 d2 d3
  have d0 := HT1.out.1.cell 0
  have d1 := HT1.out.1.cell 1
  have d2 := HT1.out.1.cell 2
  have d3 := HT1.out.1.cell 3
  simp only [List.getElem?_toArray, List.getElem?_cons_zero, List.getElem?_cons_succ] at d0 d1 d2 d3
  have f0 := HT1.out.2.cell 0
  simp only [List.getElem?_toArray, List.getElem?_cons_zero, List.getElem?_cons_succ] at f0
  go_wp2_with fail
  refine HC.out.mono ?_
  rintro e w7 ⟨b, p', rfl, ho, _, hbi, _⟩
  have HR := Lib.hid (And.intro ho hbi)
  clear ho hbi HC hmf d0 d1 d2 d3 f0
  go_wp2_with fail
  go_ret
  refine ⟨!b, rfl, ?_, HB0.out.trans (HR.out.1.below HB0.out.size (fun g e => by omega))⟩
  have h1 := HR.out.2
  unfold great
  have h2 := parts_pos (t.sub S)
  cases b with
  | true =>
    have := h1.1 rfl
    simp
    omega
  | false =>
    simp
    by_cases h3 : 1000 < (t.sub S).parts
    · exact .inl h3
    · refine .inr (Nat.lt_of_not_le fun h4 => ?_)
      cases h1.2 ⟨by omega, by omega⟩
theorem ent_apply1 : Enters Try.prog 49 := enters_of Try.func49 (by kernel_rfl) rfl
theorem Made.from_ {B : Nat} {w w1 w' : World} {t : Ty} {A : Option Addr} {c : Nat} (h : Made w1 w' t A c) (hb : Below B w w1) (hB : B ≤ w1.heap.size) : Below B w w' := hb.trans (h.bel.mono hB)
set_option maxRecDepth 20000 in
set_option maxHeartbeats 4000000 in
theorem apply1_any {B : Nat} {g : Nat} {Ab : Option Addr} {cb N : Nat} {σ : Int → Option Ty} {S : Int → Ty} (hS : Slv N σ S) (n : Int) (w : World) (h0 : 0 ≤ n) (h1 : n < (N : Int)) {pb : Nat} (hp : Blk w pb 32 #[.pointer (some ⟨g, 0, none⟩)]) (hB : Bk B w g Ab cb N σ)
    (hap : ∀ (u : Ty) (A : Option Addr) (c : Nat) (W : World), σ n = some u → good N u → Tb B W u A c → Bk B W g Ab cb N σ → Calls Try.prog 42 #[.pointer (some ⟨g, 0, none⟩), u.val A c] W fun e w' => ∃ A2 c2, e = .returned ((u.sub S).val A2 c2) ∧ Made W w' (u.sub S) A2 c2) :
    Calls Try.prog 49 #[.int .i64 n, .pointer (some ⟨pb, 0, none⟩)] w fun e w' => Below w.heap.size w w' ∧ (((σ n).map (fun _ => S n) = none ∧ e = .returned (.tuple #[.agg #[.int .u8 0, .string ⟨#[]⟩, .int .i64 0, .slice none 0 0], .bool false])) ∨ ∃ u A c, (σ n).map (fun _ => S n) = some u ∧ e = .returned (.tuple #[u.val A c, .bool true]) ∧ Made w w' u A c) := by
  obtain ⟨x, rfl⟩ : ∃ x : Nat, n = (x : Int) := ⟨n.toNat, by omega⟩
  have hxN : x < N := by omega
  obtain ⟨w0, hw0⟩ : ∃ w0, w.alloc (.cells #[.int .u8 0, .string ⟨#[]⟩, .int .i64 0, .slice none 0 0] 24) = w0 := ⟨_, rfl⟩
  have hb0 : Below w.heap.size w w0 := by rw [← hw0]; exact (Below.refl _ _).alloc (Nat.le_refl _) _
  have hR0 : Blk w0 w.heap.size 24 #[.int .u8 0, .string ⟨#[]⟩, .int .i64 0, .slice none 0 0] := by rw [← hw0]; exact Blk.new _ _ _
  have hB0 := hB.bel (hb0.mono hB.Bs)
  have p0 := (hp.below hb0 hp.lt).cell 0
  have b0 := hB0.hd
  simp only [List.getElem?_toArray, List.getElem?_cons_zero, List.getElem?_cons_succ] at p0
  have r0 := hR0.cell 0
  have r1 := hR0.cell 1
  have r2 := hR0.cell 2
  have r3 := hR0.cell 3
  simp only [List.getElem?_toArray, List.getElem?_cons_zero, List.getElem?_cons_succ] at r0 r1 r2 r3
  have rf := hR0.frozen
  obtain ⟨bb, pv, rfl, hbb, b1, hcase⟩ := hB0.at_ x hxN
  have HR0 := Lib.hid (And.intro hR0 hb0)
  rcases hcase with ⟨hs, rfl⟩ | ⟨t2, p, A2, c2, hs, rfl, hpB, hBp, hAt2, hok2, hl2, hm2⟩
  · have HX : Hid ((σ (x : Int)).map (fun _ => S (x : Int)) = none) := Lib.hid (by rw [hs]; rfl)
    have HBB := Lib.hid hB0
    clear hB0 hB hap hs hbb hp hb0 hR0 h0 h1
    go_enter Try.func49, Try.ntmps49
    go_upto_region 1 with fail
    (try rw [hw0])
    clear hw0
    go_wp2_with fail
    have HB9 := HR0.out.1.set4 (.int .u8 0) (.string ⟨#[]⟩) (.int .i64 0) (.slice none 0 0)
    refine bodyPost_ret (results_cell_row2 rfl _ _ w.heap.size 24 _ (0, 0) _ rfl HB9 Try.underlying24 rfl (by kernel_rfl)) rfl ?_
    have ho := off4 w0 w.heap.size (.int .u8 0) (.string ⟨#[]⟩) (.int .i64 0) (.slice none 0 0)
    exact ⟨HR0.out.2.trans (ho.below HR0.out.2.size (fun g e => by omega)), .inl ⟨HX.out, rfl⟩⟩
  · have hdm := hS.dom (x : Int) t2 hs
    have HC := hap t2 A2 c2 w0.drew hs hdm.2.2.1 ((show Tb B w0 t2 A2 c2 from ⟨hAt2, hl2, hm2, hok2⟩).bel ((Below.refl _ _).drew)) (hB0.bel ((Below.refl _ _).drew))
    rw [← hdm.2.2.2.1] at HC
    obtain ⟨u, hu⟩ : ∃ u, S (x : Int) = u := ⟨_, rfl⟩
    have HX : Hid ((σ (x : Int)).map (fun _ => S (x : Int)) = some u) := Lib.hid (by rw [hs, ← hu]; rfl)
    rw [hu] at HC
    obtain ⟨ul, hul⟩ : ∃ ul, u.ks.length = ul := ⟨_, rfl⟩
    obtain ⟨l2, hl2e⟩ : ∃ l2, t2.ks.length = l2 := ⟨_, rfl⟩
    unfold Ty.val at HC
    rw [hul, hl2e] at HC
    replace HC := Lib.hid HC
    have HUL := Lib.hid hul
    have c0 := hBp.cell 0
    have c1 := hBp.cell 1
    have cc2 := hBp.cell 2
    have c3 := hBp.cell 3
    simp only [List.getElem?_toArray, List.getElem?_cons_zero, List.getElem?_cons_succ] at c0 c1 cc2 c3
    rw [hl2e] at c3
    have HBB := Lib.hid hB0
    clear hB0 hB hap hs hbb hp hb0 hR0 h0 h1 hdm hpB hBp hAt2 hok2 hl2 hm2 hu hul hl2e hS
    go_enter Try.func49, Try.ntmps49
    go_upto_region 1 with fail
    (try rw [hw0])
    clear hw0
    go_upto_region 3 with fail
    go_region_with (go_at_call 42; refine HC.out.mono ?_; rintro e w7 ⟨A9, c9, rfl, hM⟩; have hR7 := (Blk.drew HR0.out.1).below hM.bel HR0.out.1.lt; clear r0 r1 r2 r3 rf p0 b0 b1 c0 c1 cc2 c3; have r0 := hR7.cell 0; have r1 := hR7.cell 1; have r2 := hR7.cell 2; have r3 := hR7.cell 3; have rf := hR7.frozen; simp only [List.getElem?_toArray, List.getElem?_cons_zero, List.getElem?_cons_succ] at r0 r1 r2 r3; have HR7 := Lib.hid (And.intro hR7 hM); clear hR7 hM)
    all_goals go_wp2_with fail
    all_goals
      have HB9 := HR7.out.1.set4 (.int .u8 (u.k : Int)) (.string (str u.nm)) (.int .i64 u.n) (.slice A9 ul c9)
      refine bodyPost_ret (results_cell_row2 rfl _ _ w.heap.size 24 _ (0, 0) _ rfl HB9 Try.underlying24 rfl (by kernel_rfl)) rfl ?_
      have ho := off4 w7 w.heap.size (.int .u8 (u.k : Int)) (.string (str u.nm)) (.int .i64 u.n) (.slice A9 ul c9)
      have h1 := HR0.out.1.lt
      have h2 := HR7.out.2.bel.size
      have h3 := HR0.out.2.size
      have hdd : w0.drew.heap.size = w0.heap.size := rfl
      exact ⟨((show Below w.heap.size w w0.drew from HR0.out.2.drew).trans (HR7.out.2.bel.mono h3)).trans (ho.below (by omega) (fun g e => by omega)), .inr ⟨u, A9, c9, HX.out, by unfold Ty.val; rw [HUL.out]; rfl, (HR7.out.2.of_new (show Below w.heap.size w w0.drew from HR0.out.2.drew)).off ho (fun g e => by omega) HR7.out.2.at_ (by omega) (fun g e => by omega)⟩⟩
end Go.Proofs.Ytndhojnfjlkojaa
