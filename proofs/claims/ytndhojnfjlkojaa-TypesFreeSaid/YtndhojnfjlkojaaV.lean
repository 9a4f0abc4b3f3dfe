/- types: apply, Apply. -/
import Derived.Test.YtndhojnfjlkojaaS
namespace Go.Proofs.Ytndhojnfjlkojaa
open Go.RowKit
set_option linter.unusedVariables false
set_option linter.unusedSimpArgs false
attribute [local go_sem] Oper.semAt_some
open Ty
instance (N : Nat) (t : Ty) : Decidable (good N t) := by unfold good; infer_instance
set_option maxRecDepth 20000 in
set_option maxHeartbeats 4000000 in
theorem apply_any {B : Nat} {g : Nat} {Ab : Option Addr} {cb N : Nat} {σ : Int → Option Ty} {S : Int → Ty} (hS : Slv N σ S) : ∀ (M : Nat) (t : Ty) (A : Option Addr) (c : Nat) (w : World), meas N S t < M → good N t → (t.sub S).parts ≤ 100000 → Tb B w t A c → Bk B w g Ab cb N σ →
    Calls Try.prog 42 #[.pointer (some ⟨g, 0, none⟩), t.val A c] w fun e w' => ∃ A2 c2, e = .returned ((t.sub S).val A2 c2) ∧ Made w w' (t.sub S) A2 c2 := by
  intro M
  induction M with
  | zero => intro t A c w h; omega
  | succ M ih =>
  intro t A c w hM hg hp hT hB
  obtain ⟨tl, htl⟩ : ∃ tl, t.ks.length = tl := ⟨_, rfl⟩
  obtain ⟨w0, hw0⟩ : ∃ w0, ((w.alloc (.cells #[.pointer (some ⟨g, 0, none⟩)] 32)).alloc (.cells #[.int .u8 (t.k : Int), .string (str t.nm), .int .i64 t.n, .slice A tl c] 24)).alloc (.cells #[.int .u8 0, .string ⟨#[]⟩, .int .i64 0, .slice none 0 0] 24) = w0 := ⟨_, rfl⟩
  have hb0 : Below w.heap.size w w0 := by rw [← hw0]; exact (((Below.refl _ _).alloc (Nat.le_refl _) _).alloc (by simp) _).alloc (by simp; omega) _
  have hP0 : Blk w0 w.heap.size 32 #[.pointer (some ⟨g, 0, none⟩)] := by rw [← hw0]; exact ((Blk.new _ _ _).alloc _).alloc _
  have hT0 : Blk w0 (w.heap.size + 1) 24 #[.int .u8 (t.k : Int), .string (str t.nm), .int .i64 t.n, .slice A tl c] := by
    have := (Blk.new (w.alloc (.cells #[.pointer (some ⟨g, 0, none⟩)] 32)) 24 #[.int .u8 (t.k : Int), .string (str t.nm), .int .i64 t.n, .slice A tl c]).alloc (.cells #[.int .u8 0, .string ⟨#[]⟩, .int .i64 0, .slice none 0 0] 24)
    rw [World.size_alloc] at this
    rw [← hw0]; exact this
  have hR0 : Blk w0 (w.heap.size + 1 + 1) 24 #[.int .u8 0, .string ⟨#[]⟩, .int .i64 0, .slice none 0 0] := by
    have := Blk.new ((w.alloc (.cells #[.pointer (some ⟨g, 0, none⟩)] 32)).alloc (.cells #[.int .u8 (t.k : Int), .string (str t.nm), .int .i64 t.n, .slice A tl c] 24)) 24 #[.int .u8 0, .string ⟨#[]⟩, .int .i64 0, .slice none 0 0]
    rw [World.size_alloc, World.size_alloc] at this
    rw [← hw0]; exact this
  have hbB := hb0.mono hB.Bs
  have hT' := hT.bel hbB
  have HC := through_any (F := fun b => b < B) 49 ent_apply1 #[.pointer (some ⟨w.heap.size, 0, none⟩)] (fun n => (σ n).map fun _ => S n)
    (fun W => Blk W w.heap.size 32 #[.pointer (some ⟨g, 0, none⟩)] ∧ Bk B W g Ab cb N σ) (fun n => n ∈ t.nums)
    (fun W W' h hb => ⟨h.1.below hb h.1.lt, h.2.bel (hb.mono h.2.Bs)⟩)
    (fun n W hn h => apply1_any hS n W (nums_nonneg t hg.1 n hn) (hg.2 n hn) h.1 h.2 fun u A' c' W' hs hgu hTu hBu => ih u A' c' W' (by
      have h1 := meas_bound hS hs
      have h2 := meas_num (S := S) hg hn
      omega) hgu (by
      have h1 := (hS.dom n u hs).2.2.2.1
      have h2 := (parts_num S t n hn).1
      rw [h1] at h2
      omega) hTu hBu)
    t A c w0 hT'.at_ hT'.len hT'.cap hT'.ok (by have := (parts_ge S t hg.1).1; omega) (fun m hm => by rwa [allnums_right t hg.1] at hm) ⟨hP0, hB.bel hbB⟩
  rw [thr_sub hS t hg] at HC
  obtain ⟨u, hu⟩ : ∃ u, t.sub S = u := ⟨_, rfl⟩
  rw [hu] at HC ⊢
  obtain ⟨ul, hul⟩ : ∃ ul, u.ks.length = ul := ⟨_, rfl⟩
  have d0 := hT0.cell 0
  have d1 := hT0.cell 1
  have d2 := hT0.cell 2
  have d3 := hT0.cell 3
  simp only [List.getElem?_toArray, List.getElem?_cons_zero, List.getElem?_cons_succ] at d0 d1 d2 d3
  have HB0 := Lib.hid (And.intro hR0 hb0)
  unfold Ty.val at HC ⊢
  rw [hul] at HC ⊢
  rw [htl] at HC ⊢
  replace HC := Lib.hid HC
  have hmf := hmf17
  clear hb0 hT0 hP0 hR0 hbB hT' hS ih hM hg hp hT hB hu hul htl
  go_enter Try.func42, Try.ntmps42
  go_upto_region 1 with fail
  (try rw [hw0])
  clear hw0
  go_wp2_with fail
  refine HC.out.mono ?_
  rintro e w7 ⟨A2, c2, rfl, hM⟩
  have hR7 := HB0.out.1.below hM.bel HB0.out.1.lt
  clear d0 d1 d2 d3
  have r0 := hR7.cell 0
  have r1 := hR7.cell 1
  have r2 := hR7.cell 2
  have r3 := hR7.cell 3
  simp only [List.getElem?_toArray, List.getElem?_cons_zero, List.getElem?_cons_succ] at r0 r1 r2 r3
  have rf := hR7.frozen
  have HR := Lib.hid (And.intro hR7 hM)
  clear hR7 hM HC hmf
  go_wp2_with fail
  have HB9 := HR.out.1.set4 (.int .u8 (u.k : Int)) (.string (str u.nm)) (.int .i64 u.n) (.slice A2 ul c2)
  refine bodyPost_ret (results_cell_row rfl _ _ (w.heap.size + 1 + 1) 24 _ (0, 0) _ rfl HB9 Try.underlying24 rfl (by kernel_rfl)) rfl ?_
  have ho := off4 w7 (w.heap.size + 1 + 1) (.int .u8 (u.k : Int)) (.string (str u.nm)) (.int .i64 u.n) (.slice A2 ul c2)
  have h1 := HB0.out.1.lt
  exact ⟨A2, c2, rfl, (HR.out.2.of_new HB0.out.2).off ho (fun g e => by omega) HR.out.2.at_ (by omega) (fun g e => by omega)⟩
def zeroTy : Ty := .node 0 [] 0 []
/-- What Apply tells. -/
def applyT (N : Nat) (S : Int → Ty) (t : Ty) : Ty := if good N t then (if great (t.sub S) then zeroTy else t.sub S) else t
theorem Made.zero {w w' : World} (h : Below w.heap.size w w') : Made w w' zeroTy none 0 := ⟨Nat.le_refl _, Nat.zero_le _, .nil _, h, ⟨(by show (0 : Nat) < 256; omega), (by show (-9223372036854775808 : Int) ≤ 0; omega), (by show (0 : Int) < 9223372036854775808; omega)⟩⟩
set_option maxRecDepth 20000 in
set_option maxHeartbeats 4000000 in
theorem Apply_any {B : Nat} {g : Nat} {Ab : Option Addr} {cb N : Nat} {σ : Int → Option Ty} {S : Int → Ty} (hS : Slv N σ S) (t : Ty) (A : Option Addr) (c : Nat) (w : World) (hp : t.parts ≤ 100000) (hT : Tb B w t A c) (hB : Bk B w g Ab cb N σ) :
    Calls Try.prog 22 #[.pointer (some ⟨g, 0, none⟩), t.val A c] w fun e w' => ∃ A2 c2, e = .returned ((applyT N S t).val A2 c2) ∧ Made w w' (applyT N S t) A2 c2 := by
  obtain ⟨tl, htl⟩ : ∃ tl, t.ks.length = tl := ⟨_, rfl⟩
  obtain ⟨w0, hw0⟩ : ∃ w0, (w.alloc (.cells #[.int .u8 (t.k : Int), .string (str t.nm), .int .i64 t.n, .slice A tl c] 24)).alloc (.cells #[.int .u8 0, .string ⟨#[]⟩, .int .i64 0, .slice none 0 0] 24) = w0 := ⟨_, rfl⟩
  have hb0 : Below w.heap.size w w0 := by rw [← hw0]; exact ((Below.refl _ _).alloc (Nat.le_refl _) _).alloc (by simp) _
  have hT0 : Blk w0 w.heap.size 24 #[.int .u8 (t.k : Int), .string (str t.nm), .int .i64 t.n, .slice A tl c] := by rw [← hw0]; exact (Blk.new _ _ _).alloc _
  have hR0 : Blk w0 (w.heap.size + 1) 24 #[.int .u8 0, .string ⟨#[]⟩, .int .i64 0, .slice none 0 0] := by
    have := Blk.new (w.alloc (.cells #[.int .u8 (t.k : Int), .string (str t.nm), .int .i64 t.n, .slice A tl c] 24)) 24 #[.int .u8 0, .string ⟨#[]⟩, .int .i64 0, .slice none 0 0]
    rw [World.size_alloc] at this
    rw [← hw0]; exact this
  have hbB := hb0.mono hB.Bs
  have HK := knows_any t A c w0 (hT.bel hbB) (hB.bel hbB)
  have HI := Lib.hid (And.intro (hT.bel hbB) (And.intro (hB.bel hbB) (And.intro hS (And.intro hp htl))))
  have d0 := hT0.cell 0
  have d1 := hT0.cell 1
  have d2 := hT0.cell 2
  have d3 := hT0.cell 3
  simp only [List.getElem?_toArray, List.getElem?_cons_zero, List.getElem?_cons_succ] at d0 d1 d2 d3
  have HB0 := Lib.hid (And.intro hR0 (And.intro hb0 hT0))
  unfold Ty.val at HK
  rw [htl] at HK
  replace HK := Lib.hid HK
  show Calls Try.prog 22 #[.pointer (some ⟨g, 0, none⟩), .agg #[.int .u8 (t.k : Int), .string (str t.nm), .int .i64 t.n, .slice A t.ks.length c]] w _
  rw [htl]
  clear hb0 hT0 hR0 hbB hS hp hT hB htl
  go_enter Try.func22, Try.ntmps22
  go_upto_region 1 with fail
  (try rw [hw0])
  clear hw0
  go_wp2_with fail
  refine HK.out.mono ?_
  rintro e w1 ⟨b, rfl, hbi, hb1⟩
  have hT1 := HB0.out.2.2.below hb1 HB0.out.2.2.lt
  clear d0 d1 d2 d3
  have d0 := hT1.cell 0
  have d1 := hT1.cell 1
  have d2 := hT1.cell 2
  have d3 := hT1.cell 3
  simp only [List.getElem?_toArray, List.getElem?_cons_zero, List.getElem?_cons_succ] at d0 d1 d2 d3
  have HB1 : Hid (Blk w1 (w.heap.size + 1) 24 #[.int .u8 0, .string ⟨#[]⟩, .int .i64 0, .slice none 0 0] ∧ Below w.heap.size w w1 ∧ Tb B w1 t A c ∧ Bk B w1 g Ab cb N σ ∧ Blk w1 w.heap.size 24 #[.int .u8 (t.k : Int), .string (str t.nm), .int .i64 t.n, .slice A tl c]) := Lib.hid ⟨HB0.out.1.below hb1 HB0.out.1.lt, HB0.out.2.1.trans (hb1.mono HB0.out.2.1.size), HI.out.1.bel (hb1.mono HI.out.2.1.Bs), HI.out.2.1.bel (hb1.mono HI.out.2.1.Bs), hT1⟩
  have HS := Lib.hid (And.intro HI.out.2.2 hbi)
  clear hb1 hT1 hbi HK HI HB0
  cases b with
  | false =>
    have hng : ¬ good N t := fun h => by have := HS.out.2.2 h; cases this
    have HT : applyT N S t = t := if_neg hng
    have HC := same_any2 t A c w1 HB1.out.2.2.1.at_ HB1.out.2.2.1.len HB1.out.2.2.1.cap HB1.out.2.2.1.ok HS.out.1.2.1
    unfold Ty.val at HC
    rw [HS.out.1.2.2] at HC
    replace HC := Lib.hid HC
    have HT := Lib.hid HT
    clear hng
    go_wp2_with fail
    refine HC.out.mono ?_
    rintro e w7 ⟨A2, c2, rfl, hM⟩
    have hR7 := HB1.out.1.below hM.bel HB1.out.1.lt
    clear d0 d1 d2 d3
    have r0 := hR7.cell 0
    have r1 := hR7.cell 1
    have r2 := hR7.cell 2
    have r3 := hR7.cell 3
    simp only [List.getElem?_toArray, List.getElem?_cons_zero, List.getElem?_cons_succ] at r0 r1 r2 r3
    have rf := hR7.frozen
    have HR := Lib.hid (And.intro hR7 hM)
    clear hR7 hM HC
    go_wp2_with fail
    have HB9 := HR.out.1.set4 (.int .u8 (t.k : Int)) (.string (str t.nm)) (.int .i64 t.n) (.slice A2 tl c2)
    refine bodyPost_ret (results_cell_row rfl _ _ (w.heap.size + 1) 24 _ (0, 0) _ rfl HB9 Try.underlying24 rfl (by kernel_rfl)) rfl ?_
    have ho := off4 w7 (w.heap.size + 1) (.int .u8 (t.k : Int)) (.string (str t.nm)) (.int .i64 t.n) (.slice A2 tl c2)
    have h1 := HB1.out.1.lt
    exact ⟨A2, c2, by rw [HT.out]; unfold Ty.val; rw [HS.out.1.2.2], by rw [HT.out]; exact (HR.out.2.of_new HB1.out.2.1).off ho (fun g e => by omega) HR.out.2.at_ (by omega) (fun g e => by omega)⟩
  | true =>
    have hgd : good N t := HS.out.2.1 rfl
    have HC := great_any HS.out.1.1 t A c w1 hgd HB1.out.2.2.1 HB1.out.2.2.2.1
    unfold Ty.val at HC
    rw [HS.out.1.2.2] at HC
    replace HC := Lib.hid HC
    have HG := Lib.hid hgd
    clear hgd
    go_wp2_with fail
    refine HC.out.mono ?_
    rintro e w2 ⟨b2, rfl, hbi2, hb2⟩
    have hT2 := HB1.out.2.2.2.2.below hb2 HB1.out.2.2.2.2.lt
    have hR2 := HB1.out.1.below hb2 HB1.out.1.lt
    clear d0 d1 d2 d3
    have d0 := hT2.cell 0
    have d1 := hT2.cell 1
    have d2 := hT2.cell 2
    have d3 := hT2.cell 3
    simp only [List.getElem?_toArray, List.getElem?_cons_zero, List.getElem?_cons_succ] at d0 d1 d2 d3
    have r0 := hR2.cell 0
    have r1 := hR2.cell 1
    have r2 := hR2.cell 2
    have r3 := hR2.cell 3
    simp only [List.getElem?_toArray, List.getElem?_cons_zero, List.getElem?_cons_succ] at r0 r1 r2 r3
    have rf := hR2.frozen
    have HB2 : Hid (Blk w2 (w.heap.size + 1) 24 #[.int .u8 0, .string ⟨#[]⟩, .int .i64 0, .slice none 0 0] ∧ Below w.heap.size w w2 ∧ Tb B w2 t A c ∧ Bk B w2 g Ab cb N σ ∧ (b2 = true ↔ great (t.sub S))) := Lib.hid ⟨hR2, HB1.out.2.1.trans (hb2.mono HB1.out.2.1.size), HB1.out.2.2.1.bel (hb2.mono HB1.out.2.2.2.1.Bs), HB1.out.2.2.2.1.bel (hb2.mono HB1.out.2.2.2.1.Bs), hbi2⟩
    clear hb2 hT2 hR2 hbi2 HC HB1
    cases b2 with
    | true =>
      have HT : Hid (applyT N S t = zeroTy) := Lib.hid (by unfold applyT; rw [if_pos HG.out, if_pos (HB2.out.2.2.2.2.1 rfl)])
      go_wp2_with fail
      have HB9 := HB2.out.1.set4 (.int .u8 0) (.string ⟨#[]⟩) (.int .i64 0) (.slice none 0 0)
      refine bodyPost_ret (results_cell_row rfl _ _ (w.heap.size + 1) 24 _ (0, 0) _ rfl HB9 Try.underlying24 rfl (by kernel_rfl)) rfl ?_
      have ho := off4 w2 (w.heap.size + 1) (.int .u8 0) (.string ⟨#[]⟩) (.int .i64 0) (.slice none 0 0)
      exact ⟨none, 0, by rw [HT.out]; rfl, by rw [HT.out]; exact .zero (HB2.out.2.1.trans (ho.below HB2.out.2.1.size (fun g e => by omega)))⟩
    | false =>
      have hng : ¬ great (t.sub S) := fun h => by have := HB2.out.2.2.2.2.2 h; cases this
      have HT : Hid (applyT N S t = t.sub S) := Lib.hid (by unfold applyT; rw [if_pos HG.out, if_neg hng])
      have HC := apply_any HS.out.1.1 (meas N S t + 1) t A c w2 (Nat.lt_succ_self _) HG.out (by unfold great at hng; omega) HB2.out.2.2.1 HB2.out.2.2.2.1
      obtain ⟨u, hu⟩ : ∃ u, t.sub S = u := ⟨_, rfl⟩
      obtain ⟨ul, hul⟩ : ∃ ul, u.ks.length = ul := ⟨_, rfl⟩
      rw [hu] at HC HT
      unfold Ty.val at HC
      rw [hul, HS.out.1.2.2] at HC
      replace HC := Lib.hid HC
      have HUL := Lib.hid hul
      clear hng hu hul r0 r1 r2 r3 rf
      go_wp2_with fail
      refine HC.out.mono ?_
      rintro e w7 ⟨A2, c2, rfl, hM⟩
      have hR7 := HB2.out.1.below hM.bel HB2.out.1.lt
      clear d0 d1 d2 d3
      have r0 := hR7.cell 0
      have r1 := hR7.cell 1
      have r2 := hR7.cell 2
      have r3 := hR7.cell 3
      simp only [List.getElem?_toArray, List.getElem?_cons_zero, List.getElem?_cons_succ] at r0 r1 r2 r3
      have rf := hR7.frozen
      have HR := Lib.hid (And.intro hR7 hM)
      clear hR7 hM HC
      go_wp2_with fail
      have HB9 := HR.out.1.set4 (.int .u8 (u.k : Int)) (.string (str u.nm)) (.int .i64 u.n) (.slice A2 ul c2)
      refine bodyPost_ret (results_cell_row rfl _ _ (w.heap.size + 1) 24 _ (0, 0) _ rfl HB9 Try.underlying24 rfl (by kernel_rfl)) rfl ?_
      have ho := off4 w7 (w.heap.size + 1) (.int .u8 (u.k : Int)) (.string (str u.nm)) (.int .i64 u.n) (.slice A2 ul c2)
      have h1 := HB2.out.1.lt
      exact ⟨A2, c2, by rw [HT.out]; unfold Ty.val; rw [HUL.out], by rw [HT.out]; exact (HR.out.2.of_new HB2.out.2.1).off ho (fun g e => by omega) HR.out.2.at_ (by omega) (fun g e => by omega)⟩
end Go.Proofs.Ytndhojnfjlkojaa
