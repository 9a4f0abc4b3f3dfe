/- types: head, with what is told of the blocks. -/
import Derived.Test.YtndhojnfjlkojaaX
import Derived.BigQuiet
namespace Go.Proofs.Ytndhojnfjlkojaa
open Go.RowKit
set_option linter.unusedVariables false
set_option linter.unusedSimpArgs false
attribute [local go_sem] Oper.semAt_some
open Ty
theorem Ty.At.nowF {F : Nat → Prop} {w : World} {A : Option Addr} {ts : List Ty} (h : Ty.At F w A ts) : Ty.At (fun b => F b ∧ b < w.heap.size) w A ts := by
  induction h with
  | nil A => exact .nil A
  | mk b off ts Af cf hF hlt hc hk ih => exact .mk b off ts Af cf ⟨hF, hlt⟩ hlt hc fun r t ht => ih r t ht
/-- A book, as it is read: all of it below B, its types in F. -/
structure BkF (F : Nat → Prop) (B : Nat) (w : World) (g : Nat) (Ab : Option Addr) (cb N : Nat) (σ : Int → Option Ty) : Prop where
  hd : w.cell? ⟨g, 0, none⟩ = some (.slice Ab N cb)
  gB : g < B
  Bs : B ≤ w.heap.size
  len : N ≤ cb
  cap : cb ≤ maxLen
  fb : ∀ b, F b → b < B
  at_ : ∀ x : Nat, x < N → ∃ bb pv, Ab = some ⟨bb, 0, none⟩ ∧ bb < B ∧ w.cell? ⟨bb, x, none⟩ = some (.pointer pv) ∧
    ((σ (x : Int) = none ∧ pv = none) ∨ ∃ t p A c, σ (x : Int) = some t ∧ pv = some ⟨p, 0, none⟩ ∧ p < B ∧ Blk w p 24 #[.int .u8 (t.k : Int), .string (str t.nm), .int .i64 t.n, .slice A t.ks.length c] ∧ Ty.At F w A t.ks ∧ t.ok ∧ t.ks.length ≤ c ∧ c ≤ maxLen)
/-- A type in F. -/
structure TbF (F : Nat → Prop) (B : Nat) (w : World) (t : Ty) (A : Option Addr) (c : Nat) : Prop where
  at_ : Ty.At F w A t.ks
  len : t.ks.length ≤ c
  cap : c ≤ maxLen
  ok : t.ok
  fb : ∀ b, F b → b < B
section
variable {F : Nat → Prop} {B : Nat} {w w' : World} {g : Nat} {Ab : Option Addr} {cb N : Nat} {σ : Int → Option Ty}
theorem BkF.bel (h : BkF F B w g Ab cb N σ) (hb : Below B w w') : BkF F B w' g Ab cb N σ := by
  refine ⟨(hb.cell (p := ⟨g, 0, none⟩) h.gB).trans h.hd, h.gB, Nat.le_trans h.Bs hb.size, h.len, h.cap, h.fb, fun x hx => ?_⟩
  obtain ⟨bb, pv, h1, h2, h3, h4⟩ := h.at_ x hx
  refine ⟨bb, pv, h1, h2, (hb.cell (p := ⟨bb, x, none⟩) h2).trans h3, ?_⟩
  rcases h4 with h4 | ⟨t, p, A, c, k1, k2, k3, k4, k5, k6⟩
  · exact .inl h4
  · exact .inr ⟨t, p, A, c, k1, k2, k3, k4.below hb k3, k5.off (Off.of_below hb (fun g => B ≤ g) fun _ _ h => h) (fun b hb' hg => by have := h.fb b hb'; omega), k6⟩
theorem TbF.bel {t : Ty} {A : Option Addr} {c : Nat} (h : TbF F B w t A c) (hb : Below B w w') : TbF F B w' t A c := ⟨h.at_.off (Off.of_below hb (fun g => B ≤ g) fun _ _ h => h) (fun b hb' hg => by have := h.fb b hb'; omega), h.len, h.cap, h.ok, h.fb⟩
theorem TbF.tm {M : Nat → Prop} {t : Ty} {A : Option Addr} {c : Nat} (h : TbF F B w t A c) (hF : ∀ b, F b → ¬ M b) : Tm M w t A c := ⟨h.at_.mono hF, h.len, h.cap, h.ok⟩
end
/-- The blocks of what stands still. -/
def Still (g : Nat) (vb vt : Value) (B b : Nat) : Prop := ¬ Mut g vb vt b ∧ b < B
theorem Tm.tbF {g : Nat} {vb vt : Value} {w : World} {t : Ty} {A : Option Addr} {c : Nat} (h : Tm (Mut g vb vt) w t A c) : TbF (Still g vb vt w.heap.size) w.heap.size w t A c := ⟨h.at_.nowF, h.len, h.cap, h.ok, fun b h => h.2⟩
theorem BM.bkF {w : World} {g N : Nat} {l : List (Int × Ty)} {vt : Value} {Ab : Option Addr} {cb : Nat} (h : BM w g N l (.slice Ab N cb) vt) : BkF (Still g (.slice Ab N cb) vt w.heap.size) w.heap.size w g Ab cb N (look l) := by
  obtain ⟨ps, h1, h2⟩ := h.bnd
  obtain ⟨A1, c1, e, k1, k2⟩ := own_shape1 h1
  cases e
  refine ⟨h.blk.cell 0, h.blk.lt, Nat.le_refl _, k1, k2, fun b h => h.2, fun x hx => ?_⟩
  obtain ⟨pv, h3, h4⟩ := h2 x hx
  obtain ⟨b, c, e, hb, hc, _⟩ := own_get1 h1 hx
  cases e
  refine ⟨b, pv, rfl, hb, hc.trans h3, ?_⟩
  rcases h4 with h4 | ⟨t, p, A, c, k3, k4, k5, k6, k7⟩
  · exact .inl h4
  · exact .inr ⟨t, p, A, c, k3, k4, k5.lt, k5, k7.at_.nowF, k7.ok, k7.len, k7.cap⟩
/-- Between the rounds of head. -/
structure HdJ (F : Nat → Prop) (B : Nat) (N : Nat) (S : Int → Ty) (w wr : World) (t u : Ty) (A' : Option Addr) (c' : Nat) : Prop where
  box : Blk wr w.heap.size 24 #[.int .u8 (u.k : Int), .string (str u.nm), .int .i64 u.n, .slice A' u.ks.length c']
  res : Blk wr (w.heap.size + 1) 24 #[.int .u8 0, .string ⟨#[]⟩, .int .i64 0, .slice none 0 0]
  bel : Below w.heap.size w wr
  tb : TbF F B wr u A' c'
  good : good N u
  same : u.sub S = t.sub S
set_option maxRecDepth 20000 in
set_option maxHeartbeats 8000000 in
theorem headF_any {F : Nat → Prop} {B : Nat} {g : Nat} {Ab : Option Addr} {cb N : Nat} {σ : Int → Option Ty} {S : Int → Ty} (hS : Slv N σ S) (t : Ty) (A : Option Addr) (c : Nat) (w : World) (hg : good N t) (hT : TbF F B w t A c) (hB : BkF F B w g Ab cb N σ) :
    Calls Try.prog 48 #[.pointer (some ⟨g, 0, none⟩), t.val A c] w fun e w' => ∃ u A' c', e = .returned (u.val A' c') ∧ TbF F B w' u A' c' ∧ good N u ∧ u.sub S = t.sub S ∧ (u.k = 1 → σ u.n = none) ∧ Below w.heap.size w w' := by
  obtain ⟨tl, htl⟩ : ∃ tl, t.ks.length = tl := ⟨_, rfl⟩
  obtain ⟨w0, hw0⟩ : ∃ w0, (w.alloc (.cells #[.int .u8 (t.k : Int), .string (str t.nm), .int .i64 t.n, .slice A tl c] 24)).alloc (.cells #[.int .u8 0, .string ⟨#[]⟩, .int .i64 0, .slice none 0 0] 24) = w0 := ⟨_, rfl⟩
  have hb0 : Below w.heap.size w w0 := by rw [← hw0]; exact ((Below.refl _ _).alloc (Nat.le_refl _) _).alloc (by simp) _
  have hI0 : HdJ F B N S w w0 t t A c := by
    refine ⟨by rw [← hw0, htl]; exact (Blk.new _ _ _).alloc _, ?_, hb0, hT.bel (hb0.mono hB.Bs), hg, rfl⟩
    have := Blk.new (w.alloc (.cells #[.int .u8 (t.k : Int), .string (str t.nm), .int .i64 t.n, .slice A tl c] 24)) 24 #[.int .u8 0, .string ⟨#[]⟩, .int .i64 0, .slice none 0 0]
    rw [World.size_alloc] at this
    rw [← hw0]; exact this
  have HI0 := Lib.hid hI0
  have HB := Lib.hid (And.intro hB hS)
  unfold Ty.val
  rw [htl]
  clear hI0 hb0 hT hB hS hg htl
  go_enter Try.func48, Try.ntmps48
  go_upto_region 1 with fail
  (try rw [hw0])
  clear hw0
  go_loopw [18] (fun _ wr => ∃ (u : Ty) (A' : Option Addr) (c' : Nat), Hid (HdJ F B N S w wr t u A' c')) (fun _ wr => mcell wr w.heap.size)
  case atStart => exact ⟨t, A, c, HI0⟩
  case round =>
    clear HI0
    obtain ⟨u, A', c', hJ⟩ := hrel
    obtain ⟨ul, hul⟩ : ∃ ul, u.ks.length = ul := ⟨_, rfl⟩
    have d0 := hJ.out.box.cell 0
    have d1 := hJ.out.box.cell 1
    have d2 := hJ.out.box.cell 2
    have d3 := hJ.out.box.cell 3
    simp only [List.getElem?_toArray, List.getElem?_cons_zero, List.getElem?_cons_succ] at d0 d1 d2 d3
    rw [hul] at d3
    have HUL := Lib.hid hul
    clear hul
    by_cases e1 : u.k = 1
    · obtain ⟨eu, hx0, hx1⟩ := good_var hJ.out.good e1
      obtain ⟨x, hx⟩ : ∃ x : Nat, u.n = (x : Int) := ⟨u.n.toNat, by omega⟩
      have hxN : x < N := by omega
      rw [e1] at d0
      replace d0 : wr.cell? ⟨w.heap.size, 0, none⟩ = some (.int .u8 1) := d0
      rw [hx] at d2
      have hBr := HB.out.1.bel (hJ.out.bel.mono HB.out.1.Bs)
      have b0 := hBr.hd
      obtain ⟨bb, pv, rfl, hbb, b1, hcase⟩ := hBr.at_ x hxN
      have HN := Lib.hid (And.intro hBr.len hBr.cap)
      rcases hcase with ⟨hs, rfl⟩ | ⟨t2, p, A2, c2, hs, rfl, hpB, hBp, hAt2, hok2, hl2, hm2⟩
      · have HX := Lib.hid (And.intro e1 (And.intro hx hs))
        clear hBr hbb hs hx hx0 hx1 eu e1
        go_upto_region 1 with fail
        go_quiet (fail)
        go_upto_region 3 with fail
        have y0 := hJ.out.res.cell 0
        have y1 := hJ.out.res.cell 1
        have y2 := hJ.out.res.cell 2
        have y3 := hJ.out.res.cell 3
        have yf := hJ.out.res.frozen
        simp only [List.getElem?_toArray, List.getElem?_cons_zero, List.getElem?_cons_succ] at y0 y1 y2 y3
        go_wp2_with fail
        have HB9 := (Blk.drewN hJ.out.res nq).set4 (.int .u8 1) (.string (str u.nm)) (.int .i64 (x : Int)) (.slice A' ul c')
        refine bodyPost_ret (results_cell_row rfl _ _ (w.heap.size + 1) 24 _ (0, 0) _ rfl HB9 Try.underlying24 rfl (by kernel_rfl)) rfl ?_
        have ho := (Off.drewN _ wr nq).trans (off4 (wr.drewN nq) (w.heap.size + 1) (.int .u8 1) (.string (str u.nm)) (.int .i64 (x : Int)) (.slice A' ul c'))
        have hb := hJ.out.bel.trans (ho.below hJ.out.bel.size (fun g e => by omega))
        have hb2 : Below B wr _ := ho.below (Nat.le_trans HB.out.1.Bs hJ.out.bel.size) (fun g e => by have := HB.out.1.Bs; omega)
        exact ⟨u, A', c', by rw [HX.out.1, HX.out.2.1, HUL.out]; rfl, hJ.out.tb.bel hb2, hJ.out.good, hJ.out.same, fun _ => by rw [HX.out.2.1]; exact HX.out.2.2, hb⟩
      · have c0 := hBp.cell 0
        have c1 := hBp.cell 1
        have c2' := hBp.cell 2
        have c3 := hBp.cell 3
        simp only [List.getElem?_toArray, List.getElem?_cons_zero, List.getElem?_cons_succ] at c0 c1 c2' c3
        have hdm := HB.out.2.dom (x : Int) t2 hs
        obtain ⟨l2, hl2e⟩ : ∃ l2, t2.ks.length = l2 := ⟨_, rfl⟩
        rw [hl2e] at c3 hl2
        have df := hJ.out.box.frozen
        have HX : Hid (u.k = 1 ∧ u.n = (x : Int) ∧ u = tvar u.n ∧ good N t2 ∧ S (x : Int) = t2.sub S ∧ (t2.k = 1 → t2.n < (x : Int))) := Lib.hid ⟨e1, hx, eu, hdm.2.2.1, hdm.2.2.2.1, hdm.2.2.2.2⟩
        have HT2 : Hid (Ty.At F wr A2 t2.ks ∧ t2.ok ∧ l2 ≤ c2 ∧ c2 ≤ maxLen ∧ t2.ks.length = l2) := Lib.hid ⟨hAt2, hok2, hl2, hm2, hl2e⟩
        clear hBr hbb hs hx hx0 hx1 eu e1 hBp hAt2 hok2 hl2 hm2 hl2e hdm hpB
        go_upto_region 1 with fail
        go_quiet (fail)
        go_upto_region 2 with fail
        go_region
        obtain ⟨wz, hwz⟩ : ∃ wz, ((((wr.drewN (nq + 1)).setCell ⟨w.heap.size, 0, none⟩ (.int .u8 (t2.k : Int))).setCell ⟨w.heap.size, 1, none⟩ (.string (str t2.nm))).setCell ⟨w.heap.size, 2, none⟩ (.int .i64 t2.n)).setCell ⟨w.heap.size, 3, none⟩ (.slice A2 l2 c2) = wz := ⟨_, rfl⟩
        have HM : Hid (mcell wz w.heap.size < mcell wr w.heap.size) := Lib.hid (by
          have hz := (Blk.drewN hJ.out.box (nq + 1)).set4 (.int .u8 (t2.k : Int)) (.string (str t2.nm)) (.int .i64 t2.n) (.slice A2 l2 c2)
          rw [hwz] at hz
          have hz0 := hz.cell 0
          have hz2 := hz.cell 2
          simp only [List.getElem?_toArray, List.getElem?_cons_zero, List.getElem?_cons_succ] at hz0 hz2
          unfold mcell
          rw [hz0, hz2, d0, d2]
          dsimp only
          rw [if_pos rfl]
          split
          · rename_i h; have := HX.out.2.2.2.2.2 (by omega); have := (good_var HX.out.2.2.2.1 (by omega)).2; omega
          · omega)
        have HNX : Hid (HdJ F B N S w wz t t2 A2 c2) := Lib.hid (by
          have ho : Off (fun g => g = w.heap.size) wr wz := by rw [← hwz]; exact (Off.drewN _ wr (nq + 1)).trans (off4 (wr.drewN (nq + 1)) w.heap.size (.int .u8 (t2.k : Int)) (.string (str t2.nm)) (.int .i64 t2.n) (.slice A2 l2 c2))
          have hb2 : Below B wr wz := ho.below (Nat.le_trans HB.out.1.Bs hJ.out.bel.size) (fun g e => by have := HB.out.1.Bs; omega)
          refine ⟨?_, hJ.out.res.off ho (by omega), hJ.out.bel.trans (ho.below hJ.out.bel.size (fun g e => by omega)), (show TbF F B wr t2 A2 c2 from ⟨HT2.out.1, by rw [HT2.out.2.2.2.2]; exact HT2.out.2.2.1, HT2.out.2.2.2.1, HT2.out.2.1, HB.out.1.fb⟩).bel hb2, HX.out.2.2.2.1, ?_⟩
          · rw [← hwz, HT2.out.2.2.2.2]; exact (Blk.drewN hJ.out.box (nq + 1)).set4 _ _ _ _
          · rw [← hJ.out.same, HX.out.2.2.1, sub_tvar, HX.out.2.1]; exact HX.out.2.2.2.2.1.symm)
        (try rw [hwz])
        clear hwz d0 d1 d2 d3 c0 c1 c2' c3 b0 b1 df
        go_wp2_with fail
        go_roundw
        case rel => exact ⟨t2, A2, c2, HNX⟩
        case measure => exact HM.out
    · have hk1 : (((u.k : Nat) : Int) == 1) = false := by simp; omega
      go_upto_region 1 with fail
      go_quiet (fail)
      go_upto_region 3 with fail
      have y0 := hJ.out.res.cell 0
      have y1 := hJ.out.res.cell 1
      have y2 := hJ.out.res.cell 2
      have y3 := hJ.out.res.cell 3
      have yf := hJ.out.res.frozen
      simp only [List.getElem?_toArray, List.getElem?_cons_zero, List.getElem?_cons_succ] at y0 y1 y2 y3
      go_wp2_with fail
      have HB9 := (Blk.drewN hJ.out.res nq).set4 (.int .u8 (u.k : Int)) (.string (str u.nm)) (.int .i64 u.n) (.slice A' ul c')
      refine bodyPost_ret (results_cell_row rfl _ _ (w.heap.size + 1) 24 _ (0, 0) _ rfl HB9 Try.underlying24 rfl (by kernel_rfl)) rfl ?_
      have ho := (Off.drewN _ wr nq).trans (off4 (wr.drewN nq) (w.heap.size + 1) (.int .u8 (u.k : Int)) (.string (str u.nm)) (.int .i64 u.n) (.slice A' ul c'))
      have hb := hJ.out.bel.trans (ho.below hJ.out.bel.size (fun g e => by omega))
      have hb2 : Below B wr _ := ho.below (Nat.le_trans HB.out.1.Bs hJ.out.bel.size) (fun g e => by have := HB.out.1.Bs; omega)
      exact ⟨u, A', c', by rw [HUL.out], hJ.out.tb.bel hb2, hJ.out.good, hJ.out.same, fun h => absurd h e1, hb⟩
end Go.Proofs.Ytndhojnfjlkojaa
