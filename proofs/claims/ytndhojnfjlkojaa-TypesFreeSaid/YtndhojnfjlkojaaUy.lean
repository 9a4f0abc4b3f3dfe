/- types: Unify. -/
import Derived.Test.YtndhojnfjlkojaaU
import Derived.Test.YtndhojnfjlkojaaBk
namespace Go.Proofs.Ytndhojnfjlkojaa
open Go.RowKit
set_option linter.unusedVariables false
set_option linter.unusedSimpArgs false
attribute [local go_sem] Oper.semAt_some
open Ty
theorem UniT.of_arg {N : Nat} {s t : Ty} {l : List (Int × Ty)} {S : Int → Ty} (h : ¬ (good N s ∧ good N t)) : UniT N s t l S 1 l S := ⟨fun _ => ⟨rfl, rfl, rfl⟩, fun h1 h2 => absurd ⟨h1, h2⟩ h, fun h1 h2 => absurd ⟨h1, h2⟩ h⟩
theorem UniT.of_deep {N : Nat} {s t : Ty} {l : List (Int × Ty)} {S : Int → Ty} (h1 : good N s) (h2 : good N t) (h : great (s.sub S) ∨ great (t.sub S)) : UniT N s t l S 16 l S := ⟨fun h => absurd ⟨h1, h2⟩ h, fun _ _ _ => ⟨rfl, rfl, rfl⟩, fun _ _ k1 k2 => absurd h (by intro h; rcases h with h | h; exact k1 h; exact k2 h)⟩
/-- What comes of it, in memory. -/
def UnR (w : World) (g N : Nat) (vb vt : Value) (s t : Ty) (l : List (Int × Ty)) (S : Int → Ty) (en : Ending) (w' : World) : Prop :=
  ∃ (e : Nat) (l' : List (Int × Ty)) (S' : Int → Ty) (vt' : Value), en = .returned (.int .i64 (e : Int)) ∧ UniT N s t l S e l' S' ∧ Slv N (look l') S' ∧ BM w' g N l' vb vt' ∧ Go w g vb vt w' vb vt'
theorem set9 {w : World} {g : Nat} {T : TypeId} {a0 a1 a2 a3 a4 a5 a6 a7 a8 : Value} (h : Blk w g T #[a0, a1, a2, a3, a4, a5, a6, a7, a8]) (v0 v1 v2 v3 v4 v5 v6 v7 v8 : Value) :
    Blk (((((((((w.setCell ⟨g, 0, none⟩ v0).setCell ⟨g, 1, none⟩ v1).setCell ⟨g, 2, none⟩ v2).setCell ⟨g, 3, none⟩ v3).setCell ⟨g, 4, none⟩ v4).setCell ⟨g, 5, none⟩ v5).setCell ⟨g, 6, none⟩ v6).setCell ⟨g, 7, none⟩ v7).setCell ⟨g, 8, none⟩ v8) g T #[v0, v1, v2, v3, v4, v5, v6, v7, v8] := by
  have := ((((((((h.set_ 0 v0).set_ 1 v1).set_ 2 v2).set_ 3 v3).set_ 4 v4).set_ 5 v5).set_ 6 v6).set_ 7 v7).set_ 8 v8
  simpa using this
theorem off9 (w : World) (g : Nat) (v0 v1 v2 v3 v4 v5 v6 v7 v8 : Value) : Off (fun k => k = g) w (((((((((w.setCell ⟨g, 0, none⟩ v0).setCell ⟨g, 1, none⟩ v1).setCell ⟨g, 2, none⟩ v2).setCell ⟨g, 3, none⟩ v3).setCell ⟨g, 4, none⟩ v4).setCell ⟨g, 5, none⟩ v5).setCell ⟨g, 6, none⟩ v6).setCell ⟨g, 7, none⟩ v7).setCell ⟨g, 8, none⟩ v8) :=
  (((((((Off.setc _ _ _ _).trans (Off.setc _ _ _ _)).trans (Off.setc _ _ _ _)).trans (Off.setc _ _ _ _)).trans (Off.setc _ _ _ _)).trans (Off.setc _ _ _ _)).trans (Off.setc _ _ _ _)).trans (Off.setc _ _ _ _) |>.trans (Off.setc _ _ _ _)
theorem Made.tm {M : Nat → Prop} {w w' : World} {t : Ty} {A : Option Addr} {c : Nat} (h : Made w w' t A c) (hM : ∀ b, M b → b < w.heap.size) : Tm M w' t A c := ⟨h.at_.mono fun b hb hm => by have := hM b hm; omega, h.len, h.cap, h.ok⟩
/-- The unifier laid. -/
structure UR (w0 : World) (g : Nat) (s t : Ty) (wx : World) (pu : Nat) (A3 : Option Addr) (c3 : Nat) (A4 : Option Addr) (c4 : Nat) : Prop where
  blk : Blk wx pu 60 #[.pointer (some ⟨g, 0, none⟩), .int .u8 (s.k : Int), .string (str s.nm), .int .i64 s.n, .slice A3 s.ks.length c3, .int .u8 (t.k : Int), .string (str t.nm), .int .i64 t.n, .slice A4 t.ks.length c4]
  bel : Below w0.heap.size w0 wx
  new : w0.heap.size ≤ pu
  ta : Ty.At (fun b => w0.heap.size ≤ b) wx A3 s.ks ∧ s.ok ∧ s.ks.length ≤ c3 ∧ c3 ≤ maxLen
  tb : Ty.At (fun b => w0.heap.size ≤ b) wx A4 t.ks ∧ t.ok ∧ t.ks.length ≤ c4 ∧ c4 ≤ maxLen
theorem UR.of {w0 wl : World} {g pu : Nat} {s t : Ty} {A3 A4 : Option Addr} {c3 c4 al bl : Nat} {F3 F4 : Nat → Prop} {a0 a1 a2 a3 a4 a5 a6 a7 a8 : Value} (hz : Blk wl pu 60 #[a0, a1, a2, a3, a4, a5, a6, a7, a8]) (hb : Below w0.heap.size w0 wl) (hpu : w0.heap.size ≤ pu)
    (h3 : Ty.At F3 wl A3 s.ks ∧ s.ok ∧ s.ks.length ≤ c3 ∧ c3 ≤ maxLen) (n3 : ∀ b, F3 b → w0.heap.size ≤ b ∧ b ≠ pu) (h4 : Ty.At F4 wl A4 t.ks ∧ t.ok ∧ t.ks.length ≤ c4 ∧ c4 ≤ maxLen) (n4 : ∀ b, F4 b → w0.heap.size ≤ b ∧ b ≠ pu) (hal : s.ks.length = al) (hbl : t.ks.length = bl) :
    UR w0 g s t (((((((((wl.setCell ⟨pu, 0, none⟩ (.pointer (some ⟨g, 0, none⟩))).setCell ⟨pu, 1, none⟩ (.int .u8 (s.k : Int))).setCell ⟨pu, 2, none⟩ (.string (str s.nm))).setCell ⟨pu, 3, none⟩ (.int .i64 s.n)).setCell ⟨pu, 4, none⟩ (.slice A3 al c3)).setCell ⟨pu, 5, none⟩ (.int .u8 (t.k : Int))).setCell ⟨pu, 6, none⟩ (.string (str t.nm))).setCell ⟨pu, 7, none⟩ (.int .i64 t.n)).setCell ⟨pu, 8, none⟩ (.slice A4 bl c4)) pu A3 c3 A4 c4 := by
  subst hal hbl
  have ho := off9 wl pu (.pointer (some ⟨g, 0, none⟩)) (.int .u8 (s.k : Int)) (.string (str s.nm)) (.int .i64 s.n) (.slice A3 s.ks.length c3) (.int .u8 (t.k : Int)) (.string (str t.nm)) (.int .i64 t.n) (.slice A4 t.ks.length c4)
  exact ⟨set9 hz _ _ _ _ _ _ _ _ _, hb.trans (ho.below hb.size (fun k e => by omega)), hpu, ⟨(h3.1.off ho fun b hb e => (n3 b hb).2 e).mono fun b hb => (n3 b hb).1, h3.2⟩, ⟨(h4.1.off ho fun b hb e => (n4 b hb).2 e).mono fun b hb => (n4 b hb).1, h4.2⟩⟩
set_option maxRecDepth 20000 in
set_option maxHeartbeats 8000000 in
theorem Unify_any {w : World} {g N : Nat} {l : List (Int × Ty)} {S : Int → Ty} {vb vt : Value} (hS : Slv N (look l) S) (s t : Ty) (A B : Option Addr) (c d : Nat) (hTs : Tm (Mut g vb vt) w s A c) (hTt : Tm (Mut g vb vt) w t B d) (hB : BM w g N l vb vt) :
    Calls Try.prog 20 #[.pointer (some ⟨g, 0, none⟩), s.val A c, t.val B d] w (UnR w g N vb vt s t l S) := by
  obtain ⟨sl, hsl⟩ : ∃ sl, s.ks.length = sl := ⟨_, rfl⟩
  obtain ⟨tl, htl⟩ : ∃ tl, t.ks.length = tl := ⟨_, rfl⟩
  obtain ⟨w0, hw0⟩ : ∃ w0, (w.alloc (.cells #[.int .u8 (s.k : Int), .string (str s.nm), .int .i64 s.n, .slice A sl c] 24)).alloc (.cells #[.int .u8 (t.k : Int), .string (str t.nm), .int .i64 t.n, .slice B tl d] 24) = w0 := ⟨_, rfl⟩
  have hb0 : Below w.heap.size w w0 := by rw [← hw0]; exact ((Below.refl _ _).alloc (Nat.le_refl _) _).alloc (by simp) _
  have hD0 : Blk w0 w.heap.size 24 #[.int .u8 (s.k : Int), .string (str s.nm), .int .i64 s.n, .slice A sl c] := by rw [← hw0]; exact (Blk.new _ _ _).alloc _
  have hG0 : Blk w0 (w.heap.size + 1) 24 #[.int .u8 (t.k : Int), .string (str t.nm), .int .i64 t.n, .slice B tl d] := by
    have := Blk.new (w.alloc (.cells #[.int .u8 (s.k : Int), .string (str s.nm), .int .i64 s.n, .slice A sl c] 24)) 24 #[.int .u8 (t.k : Int), .string (str t.nm), .int .i64 t.n, .slice B tl d]
    rw [World.size_alloc] at this
    rw [← hw0]; exact this
  obtain ⟨Ab, cb, rfl, _, _⟩ := hB.shape
  have hBk := (hB.bel hb0).bk
  have hs0 := (hTs.bel hb0).tb
  have ht0 := (hTt.bel hb0).tb
  have hKn : ∀ (x : Ty) (Ax : Option Addr) (cx : Nat), Tb w0.heap.size w0 x Ax cx → ∀ W, Below w0.heap.size w0 W → Calls Try.prog 40 #[.pointer (some ⟨g, 0, none⟩), x.val Ax cx] W fun e w' => ∃ b, e = .returned (.bool b) ∧ (b = true ↔ good N x) ∧ Below w0.heap.size w0 w' := fun x Ax cx hx W hW => (knows_any x Ax cx W (hx.bel hW) (hBk.bel hW)).mono fun e w' ⟨b, h1, h2, h3⟩ => ⟨b, h1, h2, hW.trans (h3.mono hW.size)⟩
  have hGr : ∀ (x : Ty) (Ax : Option Addr) (cx : Nat), good N x → Tb w0.heap.size w0 x Ax cx → ∀ W, Below w0.heap.size w0 W → Calls Try.prog 41 #[.pointer (some ⟨g, 0, none⟩), x.val Ax cx] W fun e w' => ∃ b, e = .returned (.bool b) ∧ (b = true ↔ great (x.sub S)) ∧ Below w0.heap.size w0 w' := fun x Ax cx hg hx W hW => (great_any hS x Ax cx W hg (hx.bel hW) (hBk.bel hW)).mono fun e w' ⟨b, h1, h2, h3⟩ => ⟨b, h1, h2, hW.trans (h3.mono hW.size)⟩
  have hAp : ∀ (x : Ty) (Ax : Option Addr) (cx : Nat), good N x → (x.sub S).parts ≤ 100000 → Tb w0.heap.size w0 x Ax cx → ∀ W, Below w0.heap.size w0 W → Calls Try.prog 42 #[.pointer (some ⟨g, 0, none⟩), x.val Ax cx] W fun e w' => ∃ A2 c2, e = .returned ((x.sub S).val A2 c2) ∧ Made W w' (x.sub S) A2 c2 ∧ Below w0.heap.size w0 w' := fun x Ax cx hg hp hx W hW => (apply_any hS (meas N S x + 1) x Ax cx W (Nat.lt_succ_self _) hg hp (hx.bel hW) (hBk.bel hW)).mono fun e w' ⟨A2, c2, h1, h2⟩ => ⟨A2, c2, h1, h2, hW.trans (h2.bel.mono hW.size)⟩
  have hK1 := hKn s A c hs0
  have hK2 := hKn t B d ht0
  have hG1 := fun h => hGr s A c h hs0
  have hG2 := fun h => hGr t B d h ht0
  have hA1 := fun h h2 => hAp s A c h h2 hs0
  have hA2 := fun h h2 => hAp t B d h h2 ht0
  unfold Ty.val at hK1 hK2 hG1 hG2
  simp only [hsl] at hK1 hG1
  simp only [htl] at hK2 hG2
  have e1 : s.val A c = .agg #[.int .u8 (s.k : Int), .string (str s.nm), .int .i64 s.n, .slice A sl c] := by unfold Ty.val; rw [hsl]
  have e2 : t.val B d = .agg #[.int .u8 (t.k : Int), .string (str t.nm), .int .i64 t.n, .slice B tl d] := by unfold Ty.val; rw [htl]
  rw [e1] at hA1
  rw [e2] at hA2
  rw [e1, e2]
  have d0 := hD0.cell 0
  have d1 := hD0.cell 1
  have d2 := hD0.cell 2
  have d3 := hD0.cell 3
  have g0 := hG0.cell 0
  have g1 := hG0.cell 1
  have g2 := hG0.cell 2
  have g3 := hG0.cell 3
  simp only [List.getElem?_toArray, List.getElem?_cons_zero, List.getElem?_cons_succ] at d0 d1 d2 d3 g0 g1 g2 g3
  have HK := Lib.hid (And.intro hK1 hK2)
  have HG := Lib.hid (And.intro hG1 hG2)
  have HA := Lib.hid (And.intro hA1 hA2)
  have HI := Lib.hid (And.intro hS (And.intro hB (And.intro hTs (And.intro hTt (And.intro hb0 (And.intro hD0 hG0))))))
  have HSB : Hid (∀ W, Below w0.heap.size w0 W → BM W g N l (.slice Ab N cb) vt ∧ Go w g (.slice Ab N cb) vt W (.slice Ab N cb) vt ∧ Blk W w.heap.size 24 #[.int .u8 (s.k : Int), .string (str s.nm), .int .i64 s.n, .slice A sl c] ∧ Blk W (w.heap.size + 1) 24 #[.int .u8 (t.k : Int), .string (str t.nm), .int .i64 t.n, .slice B tl d]) := Lib.hid fun W hW =>
    ⟨(hB.bel hb0).bel hW, Go.bel _ _ _ (hb0.trans (hW.mono hb0.size)), hD0.below hW hD0.lt, hG0.below hW hG0.lt⟩
  have HRF := Lib.hid (Below.refl w0.heap.size w0)
  clear hb0 hD0 hG0 hBk hs0 ht0 hKn hGr hAp hK1 hK2 hG1 hG2 hA1 hA2 e1 e2 hS hTs hTt hB hsl htl
  by_cases hgs : good N s
  case neg =>
    have HR : Hid (UniT N s t l S 1 l S) := Lib.hid (.of_arg fun h => hgs h.1)
    have HC : Hid (Calls Try.prog 40 #[.pointer (some ⟨g, 0, none⟩), .agg #[.int .u8 (s.k : Int), .string (str s.nm), .int .i64 s.n, .slice A sl c]] w0 fun e w' => e = .returned (.bool false) ∧ Below w0.heap.size w0 w') := Lib.hid ((HK.out.1 w0 HRF.out).mono fun e w' ⟨b, h1, h2, h3⟩ => ⟨by rw [h1]; cases b with | false => rfl | true => exact absurd (h2.1 rfl) hgs, h3⟩)
    clear hgs HK HG HA
    go_enter Try.func20, Try.ntmps20
    go_upto_region 1 with fail
    (try rw [hw0])
    clear hw0
    go_wp2_with (go_at_call 40; refine HC.out.mono ?_; rintro e w1 ⟨rfl, hb1⟩; have HB1 := Lib.hid hb1; clear hb1)
    go_ret
    exact ⟨1, l, S, vt, rfl, HR.out, HI.out.1, (HSB.out _ HB1.out).1, (HSB.out _ HB1.out).2.1⟩
  -- LATER
  by_cases hgt : good N t
  case neg =>
    have HR : Hid (UniT N s t l S 1 l S) := Lib.hid (.of_arg fun h => hgt h.2)
    have HC1 : Hid (∀ W, Below w0.heap.size w0 W → Calls Try.prog 40 #[.pointer (some ⟨g, 0, none⟩), .agg #[.int .u8 (s.k : Int), .string (str s.nm), .int .i64 s.n, .slice A sl c]] W fun e w' => e = .returned (.bool true) ∧ Below w0.heap.size w0 w') := Lib.hid fun W hW => (HK.out.1 W hW).mono fun e w' ⟨b, h1, h2, h3⟩ => ⟨by rw [h1]; cases b with | true => rfl | false => exact absurd (h2.2 hgs) (by decide), h3⟩
    have HC2 : Hid (∀ W, Below w0.heap.size w0 W → Calls Try.prog 40 #[.pointer (some ⟨g, 0, none⟩), .agg #[.int .u8 (t.k : Int), .string (str t.nm), .int .i64 t.n, .slice B tl d]] W fun e w' => e = .returned (.bool false) ∧ Below w0.heap.size w0 w') := Lib.hid fun W hW => (HK.out.2 W hW).mono fun e w' ⟨b, h1, h2, h3⟩ => ⟨by rw [h1]; cases b with | false => rfl | true => exact absurd (h2.1 rfl) hgt, h3⟩
    clear hgs hgt HK HG HA
    go_enter Try.func20, Try.ntmps20
    go_upto_region 1 with fail
    (try rw [hw0])
    clear hw0
    go_wp2_with (first
      | (go_at_call_of 40 (Value.string (str s.nm)); refine (HC1.out _ HRF.out).mono ?_; rintro e w1 ⟨rfl, hb1⟩; have HB1 := Lib.hid hb1; clear hb1; clear d0 d1 d2 d3 g0 g1 g2 g3; have bx := (HSB.out _ HB1.out).2.2.1; have by_ := (HSB.out _ HB1.out).2.2.2; have z10 := bx.cell 0; have z11 := bx.cell 1; have z12 := bx.cell 2; have z13 := bx.cell 3; have y10 := by_.cell 0; have y11 := by_.cell 1; have y12 := by_.cell 2; have y13 := by_.cell 3; simp only [List.getElem?_toArray, List.getElem?_cons_zero, List.getElem?_cons_succ] at z10 z11 z12 z13 y10 y11 y12 y13; clear bx by_)
      | (go_at_call_of 40 (Value.string (str t.nm)); refine (HC2.out _ HB1.out).mono ?_; rintro e w2 ⟨rfl, hb2⟩; have HB2 := Lib.hid hb2; clear hb2; clear z10 z11 z12 z13 y10 y11 y12 y13; have bx := (HSB.out _ HB2.out).2.2.1; have by_ := (HSB.out _ HB2.out).2.2.2; have z20 := bx.cell 0; have z21 := bx.cell 1; have z22 := bx.cell 2; have z23 := bx.cell 3; have y20 := by_.cell 0; have y21 := by_.cell 1; have y22 := by_.cell 2; have y23 := by_.cell 3; simp only [List.getElem?_toArray, List.getElem?_cons_zero, List.getElem?_cons_succ] at z20 z21 z22 z23 y20 y21 y22 y23; clear bx by_))
    go_ret
    exact ⟨1, l, S, vt, rfl, HR.out, HI.out.1, (HSB.out _ HB2.out).1, (HSB.out _ HB2.out).2.1⟩
  by_cases hgrs : great (s.sub S)
  case pos =>
    have HR : Hid (UniT N s t l S 16 l S) := Lib.hid (.of_deep hgs hgt (.inl hgrs))
    have HC1 : Hid (∀ W, Below w0.heap.size w0 W → Calls Try.prog 40 #[.pointer (some ⟨g, 0, none⟩), .agg #[.int .u8 (s.k : Int), .string (str s.nm), .int .i64 s.n, .slice A sl c]] W fun e w' => e = .returned (.bool true) ∧ Below w0.heap.size w0 w') := Lib.hid fun W hW => (HK.out.1 W hW).mono fun e w' ⟨b, h1, h2, h3⟩ => ⟨by rw [h1]; cases b with | true => rfl | false => exact absurd (h2.2 hgs) (by decide), h3⟩
    have HC2 : Hid (∀ W, Below w0.heap.size w0 W → Calls Try.prog 40 #[.pointer (some ⟨g, 0, none⟩), .agg #[.int .u8 (t.k : Int), .string (str t.nm), .int .i64 t.n, .slice B tl d]] W fun e w' => e = .returned (.bool true) ∧ Below w0.heap.size w0 w') := Lib.hid fun W hW => (HK.out.2 W hW).mono fun e w' ⟨b, h1, h2, h3⟩ => ⟨by rw [h1]; cases b with | true => rfl | false => exact absurd (h2.2 hgt) (by decide), h3⟩
    have HC3 : Hid (∀ W, Below w0.heap.size w0 W → Calls Try.prog 41 #[.pointer (some ⟨g, 0, none⟩), .agg #[.int .u8 (s.k : Int), .string (str s.nm), .int .i64 s.n, .slice A sl c]] W fun e w' => e = .returned (.bool true) ∧ Below w0.heap.size w0 w') := Lib.hid fun W hW => (HG.out.1 hgs W hW).mono fun e w' ⟨b, h1, h2, h3⟩ => ⟨by rw [h1]; cases b with | true => rfl | false => exact absurd (h2.2 hgrs) (by decide), h3⟩
    clear hgs hgt hgrs HK HG HA
    go_enter Try.func20, Try.ntmps20
    go_upto_region 1 with fail
    (try rw [hw0])
    clear hw0
    go_wp2_with (first
      | (go_at_call_of 40 (Value.string (str s.nm)); refine (HC1.out _ HRF.out).mono ?_; rintro e w1 ⟨rfl, hb1⟩; have HB1 := Lib.hid hb1; clear hb1; clear d0 d1 d2 d3 g0 g1 g2 g3; have bx := (HSB.out _ HB1.out).2.2.1; have by_ := (HSB.out _ HB1.out).2.2.2; have z10 := bx.cell 0; have z11 := bx.cell 1; have z12 := bx.cell 2; have z13 := bx.cell 3; have y10 := by_.cell 0; have y11 := by_.cell 1; have y12 := by_.cell 2; have y13 := by_.cell 3; simp only [List.getElem?_toArray, List.getElem?_cons_zero, List.getElem?_cons_succ] at z10 z11 z12 z13 y10 y11 y12 y13; clear bx by_)
      | (go_at_call_of 40 (Value.string (str t.nm)); refine (HC2.out _ HB1.out).mono ?_; rintro e w2 ⟨rfl, hb2⟩; have HB2 := Lib.hid hb2; clear hb2; clear z10 z11 z12 z13 y10 y11 y12 y13; have bx := (HSB.out _ HB2.out).2.2.1; have by_ := (HSB.out _ HB2.out).2.2.2; have z20 := bx.cell 0; have z21 := bx.cell 1; have z22 := bx.cell 2; have z23 := bx.cell 3; have y20 := by_.cell 0; have y21 := by_.cell 1; have y22 := by_.cell 2; have y23 := by_.cell 3; simp only [List.getElem?_toArray, List.getElem?_cons_zero, List.getElem?_cons_succ] at z20 z21 z22 z23 y20 y21 y22 y23; clear bx by_)
      | (go_at_call_of 41 (Value.string (str s.nm)); refine (HC3.out _ HB2.out).mono ?_; rintro e w3 ⟨rfl, hb3⟩; have HB3 := Lib.hid hb3; clear hb3; clear z20 z21 z22 z23 y20 y21 y22 y23; have bx := (HSB.out _ HB3.out).2.2.1; have by_ := (HSB.out _ HB3.out).2.2.2; have z30 := bx.cell 0; have z31 := bx.cell 1; have z32 := bx.cell 2; have z33 := bx.cell 3; have y30 := by_.cell 0; have y31 := by_.cell 1; have y32 := by_.cell 2; have y33 := by_.cell 3; simp only [List.getElem?_toArray, List.getElem?_cons_zero, List.getElem?_cons_succ] at z30 z31 z32 z33 y30 y31 y32 y33; clear bx by_))
    go_ret
    exact ⟨16, l, S, vt, rfl, HR.out, HI.out.1, (HSB.out _ HB3.out).1, (HSB.out _ HB3.out).2.1⟩
  by_cases hgrt : great (t.sub S)
  case pos =>
    have HR : Hid (UniT N s t l S 16 l S) := Lib.hid (.of_deep hgs hgt (.inr hgrt))
    have HC1 : Hid (∀ W, Below w0.heap.size w0 W → Calls Try.prog 40 #[.pointer (some ⟨g, 0, none⟩), .agg #[.int .u8 (s.k : Int), .string (str s.nm), .int .i64 s.n, .slice A sl c]] W fun e w' => e = .returned (.bool true) ∧ Below w0.heap.size w0 w') := Lib.hid fun W hW => (HK.out.1 W hW).mono fun e w' ⟨b, h1, h2, h3⟩ => ⟨by rw [h1]; cases b with | true => rfl | false => exact absurd (h2.2 hgs) (by decide), h3⟩
    have HC2 : Hid (∀ W, Below w0.heap.size w0 W → Calls Try.prog 40 #[.pointer (some ⟨g, 0, none⟩), .agg #[.int .u8 (t.k : Int), .string (str t.nm), .int .i64 t.n, .slice B tl d]] W fun e w' => e = .returned (.bool true) ∧ Below w0.heap.size w0 w') := Lib.hid fun W hW => (HK.out.2 W hW).mono fun e w' ⟨b, h1, h2, h3⟩ => ⟨by rw [h1]; cases b with | true => rfl | false => exact absurd (h2.2 hgt) (by decide), h3⟩
    have HC3 : Hid (∀ W, Below w0.heap.size w0 W → Calls Try.prog 41 #[.pointer (some ⟨g, 0, none⟩), .agg #[.int .u8 (s.k : Int), .string (str s.nm), .int .i64 s.n, .slice A sl c]] W fun e w' => e = .returned (.bool false) ∧ Below w0.heap.size w0 w') := Lib.hid fun W hW => (HG.out.1 hgs W hW).mono fun e w' ⟨b, h1, h2, h3⟩ => ⟨by rw [h1]; cases b with | false => rfl | true => exact absurd (h2.1 rfl) hgrs, h3⟩
    have HC4 : Hid (∀ W, Below w0.heap.size w0 W → Calls Try.prog 41 #[.pointer (some ⟨g, 0, none⟩), .agg #[.int .u8 (t.k : Int), .string (str t.nm), .int .i64 t.n, .slice B tl d]] W fun e w' => e = .returned (.bool true) ∧ Below w0.heap.size w0 w') := Lib.hid fun W hW => (HG.out.2 hgt W hW).mono fun e w' ⟨b, h1, h2, h3⟩ => ⟨by rw [h1]; cases b with | true => rfl | false => exact absurd (h2.2 hgrt) (by decide), h3⟩
    clear hgs hgt hgrs hgrt HK HG HA
    go_enter Try.func20, Try.ntmps20
    go_upto_region 1 with fail
    (try rw [hw0])
    clear hw0
    go_wp2_with (first
      | (go_at_call_of 40 (Value.string (str s.nm)); refine (HC1.out _ HRF.out).mono ?_; rintro e w1 ⟨rfl, hb1⟩; have HB1 := Lib.hid hb1; clear hb1; clear d0 d1 d2 d3 g0 g1 g2 g3; have bx := (HSB.out _ HB1.out).2.2.1; have by_ := (HSB.out _ HB1.out).2.2.2; have z10 := bx.cell 0; have z11 := bx.cell 1; have z12 := bx.cell 2; have z13 := bx.cell 3; have y10 := by_.cell 0; have y11 := by_.cell 1; have y12 := by_.cell 2; have y13 := by_.cell 3; simp only [List.getElem?_toArray, List.getElem?_cons_zero, List.getElem?_cons_succ] at z10 z11 z12 z13 y10 y11 y12 y13; clear bx by_)
      | (go_at_call_of 40 (Value.string (str t.nm)); refine (HC2.out _ HB1.out).mono ?_; rintro e w2 ⟨rfl, hb2⟩; have HB2 := Lib.hid hb2; clear hb2; clear z10 z11 z12 z13 y10 y11 y12 y13; have bx := (HSB.out _ HB2.out).2.2.1; have by_ := (HSB.out _ HB2.out).2.2.2; have z20 := bx.cell 0; have z21 := bx.cell 1; have z22 := bx.cell 2; have z23 := bx.cell 3; have y20 := by_.cell 0; have y21 := by_.cell 1; have y22 := by_.cell 2; have y23 := by_.cell 3; simp only [List.getElem?_toArray, List.getElem?_cons_zero, List.getElem?_cons_succ] at z20 z21 z22 z23 y20 y21 y22 y23; clear bx by_)
      | (go_at_call_of 41 (Value.string (str s.nm)); refine (HC3.out _ HB2.out).mono ?_; rintro e w3 ⟨rfl, hb3⟩; have HB3 := Lib.hid hb3; clear hb3; clear z20 z21 z22 z23 y20 y21 y22 y23; have bx := (HSB.out _ HB3.out).2.2.1; have by_ := (HSB.out _ HB3.out).2.2.2; have z30 := bx.cell 0; have z31 := bx.cell 1; have z32 := bx.cell 2; have z33 := bx.cell 3; have y30 := by_.cell 0; have y31 := by_.cell 1; have y32 := by_.cell 2; have y33 := by_.cell 3; simp only [List.getElem?_toArray, List.getElem?_cons_zero, List.getElem?_cons_succ] at z30 z31 z32 z33 y30 y31 y32 y33; clear bx by_)
      | (go_at_call_of 41 (Value.string (str t.nm)); refine (HC4.out _ HB3.out).mono ?_; rintro e w4 ⟨rfl, hb4⟩; have HB4 := Lib.hid hb4; clear hb4; clear z30 z31 z32 z33 y30 y31 y32 y33; have bx := (HSB.out _ HB4.out).2.2.1; have by_ := (HSB.out _ HB4.out).2.2.2; have z40 := bx.cell 0; have z41 := bx.cell 1; have z42 := bx.cell 2; have z43 := bx.cell 3; have y40 := by_.cell 0; have y41 := by_.cell 1; have y42 := by_.cell 2; have y43 := by_.cell 3; simp only [List.getElem?_toArray, List.getElem?_cons_zero, List.getElem?_cons_succ] at z40 z41 z42 z43 y40 y41 y42 y43; clear bx by_))
    go_ret
    exact ⟨16, l, S, vt, rfl, HR.out, HI.out.1, (HSB.out _ HB4.out).1, (HSB.out _ HB4.out).2.1⟩
  have HC1 : Hid (∀ W, Below w0.heap.size w0 W → Calls Try.prog 40 #[.pointer (some ⟨g, 0, none⟩), .agg #[.int .u8 (s.k : Int), .string (str s.nm), .int .i64 s.n, .slice A sl c]] W fun e w' => e = .returned (.bool true) ∧ Below w0.heap.size w0 w') := Lib.hid fun W hW => (HK.out.1 W hW).mono fun e w' ⟨b, h1, h2, h3⟩ => ⟨by rw [h1]; cases b with | true => rfl | false => exact absurd (h2.2 hgs) (by decide), h3⟩
  have HC2 : Hid (∀ W, Below w0.heap.size w0 W → Calls Try.prog 40 #[.pointer (some ⟨g, 0, none⟩), .agg #[.int .u8 (t.k : Int), .string (str t.nm), .int .i64 t.n, .slice B tl d]] W fun e w' => e = .returned (.bool true) ∧ Below w0.heap.size w0 w') := Lib.hid fun W hW => (HK.out.2 W hW).mono fun e w' ⟨b, h1, h2, h3⟩ => ⟨by rw [h1]; cases b with | true => rfl | false => exact absurd (h2.2 hgt) (by decide), h3⟩
  have HC3 : Hid (∀ W, Below w0.heap.size w0 W → Calls Try.prog 41 #[.pointer (some ⟨g, 0, none⟩), .agg #[.int .u8 (s.k : Int), .string (str s.nm), .int .i64 s.n, .slice A sl c]] W fun e w' => e = .returned (.bool false) ∧ Below w0.heap.size w0 w') := Lib.hid fun W hW => (HG.out.1 hgs W hW).mono fun e w' ⟨b, h1, h2, h3⟩ => ⟨by rw [h1]; cases b with | false => rfl | true => exact absurd (h2.1 rfl) hgrs, h3⟩
  have HC4 : Hid (∀ W, Below w0.heap.size w0 W → Calls Try.prog 41 #[.pointer (some ⟨g, 0, none⟩), .agg #[.int .u8 (t.k : Int), .string (str t.nm), .int .i64 t.n, .slice B tl d]] W fun e w' => e = .returned (.bool false) ∧ Below w0.heap.size w0 w') := Lib.hid fun W hW => (HG.out.2 hgt W hW).mono fun e w' ⟨b, h1, h2, h3⟩ => ⟨by rw [h1]; cases b with | false => rfl | true => exact absurd (h2.1 rfl) hgrt, h3⟩
  have hps : (s.sub S).parts ≤ 100000 := by unfold great at hgrs; omega
  have hpt : (t.sub S).parts ≤ 100000 := by unfold great at hgrt; omega
  have HA1 := Lib.hid (HA.out.1 hgs hps)
  have HA2 := Lib.hid (HA.out.2 hgt hpt)
  have HGD := Lib.hid (And.intro hgs (And.intro hgt (And.intro hgrs hgrt)))
  clear hgs hgt hgrs hgrt hps hpt HK HG HA
  go_enter Try.func20, Try.ntmps20
  go_upto_region 1 with fail
  (try rw [hw0])
  clear hw0
  go_upto_region 7 with (first
      | (go_at_call_of 40 (Value.string (str s.nm)); refine (HC1.out _ HRF.out).mono ?_; rintro e w1 ⟨rfl, hb1⟩; have HB1 := Lib.hid hb1; clear hb1; clear d0 d1 d2 d3 g0 g1 g2 g3; have bx := (HSB.out _ HB1.out).2.2.1; have by_ := (HSB.out _ HB1.out).2.2.2; have z10 := bx.cell 0; have z11 := bx.cell 1; have z12 := bx.cell 2; have z13 := bx.cell 3; have y10 := by_.cell 0; have y11 := by_.cell 1; have y12 := by_.cell 2; have y13 := by_.cell 3; simp only [List.getElem?_toArray, List.getElem?_cons_zero, List.getElem?_cons_succ] at z10 z11 z12 z13 y10 y11 y12 y13; clear bx by_)
      | (go_at_call_of 40 (Value.string (str t.nm)); refine (HC2.out _ HB1.out).mono ?_; rintro e w2 ⟨rfl, hb2⟩; have HB2 := Lib.hid hb2; clear hb2; clear z10 z11 z12 z13 y10 y11 y12 y13; have bx := (HSB.out _ HB2.out).2.2.1; have by_ := (HSB.out _ HB2.out).2.2.2; have z20 := bx.cell 0; have z21 := bx.cell 1; have z22 := bx.cell 2; have z23 := bx.cell 3; have y20 := by_.cell 0; have y21 := by_.cell 1; have y22 := by_.cell 2; have y23 := by_.cell 3; simp only [List.getElem?_toArray, List.getElem?_cons_zero, List.getElem?_cons_succ] at z20 z21 z22 z23 y20 y21 y22 y23; clear bx by_)
      | (go_at_call_of 41 (Value.string (str s.nm)); refine (HC3.out _ HB2.out).mono ?_; rintro e w3 ⟨rfl, hb3⟩; have HB3 := Lib.hid hb3; clear hb3; clear z20 z21 z22 z23 y20 y21 y22 y23; have bx := (HSB.out _ HB3.out).2.2.1; have by_ := (HSB.out _ HB3.out).2.2.2; have z30 := bx.cell 0; have z31 := bx.cell 1; have z32 := bx.cell 2; have z33 := bx.cell 3; have y30 := by_.cell 0; have y31 := by_.cell 1; have y32 := by_.cell 2; have y33 := by_.cell 3; simp only [List.getElem?_toArray, List.getElem?_cons_zero, List.getElem?_cons_succ] at z30 z31 z32 z33 y30 y31 y32 y33; clear bx by_)
      | (go_at_call_of 41 (Value.string (str t.nm)); refine (HC4.out _ HB3.out).mono ?_; rintro e w4 ⟨rfl, hb4⟩; have HB4 := Lib.hid hb4; clear hb4; clear z30 z31 z32 z33 y30 y31 y32 y33; have bx := (HSB.out _ HB4.out).2.2.1; have by_ := (HSB.out _ HB4.out).2.2.2; have z40 := bx.cell 0; have z41 := bx.cell 1; have z42 := bx.cell 2; have z43 := bx.cell 3; have y40 := by_.cell 0; have y41 := by_.cell 1; have y42 := by_.cell 2; have y43 := by_.cell 3; simp only [List.getElem?_toArray, List.getElem?_cons_zero, List.getElem?_cons_succ] at z40 z41 z42 z43 y40 y41 y42 y43; clear bx by_))
  clear HC1 HC2 HC3 HC4 HB1 HB2 HB3
  have HM := Lib.hid (mark_any (HSB.out _ HB4.out).1)
  go_upto_region 8 with (go_at_call 21; refine HM.out.mono ?_; rintro e w5 ⟨rfl, rfl⟩)
  -- REGION8
  go_cut [8] from 35 to 42 (fun s8 wx => ∃ (pu : Nat) (A3 : Option Addr) (c3 : Nat) (A4 : Option Addr) (c4 : Nat), s8 = .pointer (some ⟨pu, 0, none⟩) ∧ Hid (UR w0 g (Ty.sub S s) (Ty.sub S t) wx pu A3 c3 A4 c4))
  case first =>
    have HBc := Lib.hid HB4.out.drew
    have HB5 : Hid (w5.drew.heap.size = w5.heap.size) := Lib.hid rfl
    refine wp_region_held_drew (S := (fun W => W.cell? ⟨w.heap.size, 0, none⟩ = some (.int .u8 (s.k : Int)) ∧ W.cell? ⟨w.heap.size, 1, none⟩ = some (.string (str s.nm)) ∧ W.cell? ⟨w.heap.size, 2, none⟩ = some (.int .i64 s.n) ∧ W.cell? ⟨w.heap.size, 3, none⟩ = some (.slice A sl c) ∧ W.cell? ⟨w.heap.size + 1, 0, none⟩ = some (.int .u8 (t.k : Int)) ∧ W.cell? ⟨w.heap.size + 1, 1, none⟩ = some (.string (str t.nm)) ∧ W.cell? ⟨w.heap.size + 1, 2, none⟩ = some (.int .i64 t.n) ∧ W.cell? ⟨w.heap.size + 1, 3, none⟩ = some (.slice B tl d))) (by kernel_rfl) ⟨z40, z41, z42, z43, y40, y41, y42, y43⟩ (fun hHeld => ?_)
    refine takeY 0 (some 35) rfl rfl (by kernel_rfl) (by kernel_rfl) (by kernel_rfl) (fun _ _ _ h => h) (by rfl) (v := _) (by (intro _ hSw; (try dsimp only at hSw); go_simp; try with_reducible rfl)) hHeld ?_
    simp only [Act.put, List.setIfInBounds_toArray, List.set_cons_zero, List.set_cons_succ]
    refine takeY 1 (some 36) rfl rfl (by kernel_rfl) (by kernel_rfl) (by kernel_rfl) (fun _ _ _ h => h) (by rfl) (v := _) (by (intro _ hSw; (try dsimp only at hSw); go_simp; try with_reducible rfl)) hHeld ?_
    simp only [Act.put, List.setIfInBounds_toArray, List.set_cons_zero, List.set_cons_succ]
    refine takeY 2 (some 37) rfl rfl (by kernel_rfl) (by kernel_rfl) (by kernel_rfl) (fun _ _ _ h => h) (by rfl) (v := _) (by (intro _ hSw; (try dsimp only at hSw); go_simp; try with_reducible rfl)) hHeld ?_
    simp only [Act.put, List.setIfInBounds_toArray, List.set_cons_zero, List.set_cons_succ]
    refine takeY 4 (some 39) rfl rfl (by kernel_rfl) (by kernel_rfl) (by kernel_rfl) (fun _ _ _ h => h) (by rfl) (v := _) (by (intro _ hSw; (try dsimp only at hSw); go_simp; try with_reducible rfl)) hHeld ?_
    simp only [Act.put, List.setIfInBounds_toArray, List.set_cons_zero, List.set_cons_succ]
    refine takeY 5 (some 40) rfl rfl (by kernel_rfl) (by kernel_rfl) (by kernel_rfl) (fun _ _ _ h => h) (by rfl) (v := _) (by (intro _ hSw; (try dsimp only at hSw); go_simp; try with_reducible rfl)) hHeld ?_
    simp only [Act.put, List.setIfInBounds_toArray, List.set_cons_zero, List.set_cons_succ]
    refine wpAnyH_ready (rs := [3, 8]) (by kernel_rfl) (by simp) ?_
    refine AllReadyH.cons rfl (fun K hK => ?_) (AllReadyH.cons rfl (fun K hK => ?_) AllReadyH.nil)
    · clear hHeld
      go_simp
      go_wp2_with (go_at_call 42; refine Calls.mono (HA1.out _ HBc.out) ?_; rintro e w6 ⟨A3, c3, rfl, hm, hb⟩; have HT3 := Lib.hid (And.intro hm.at_ (And.intro hm.ok (And.intro hm.len hm.cap))); have HZ3 := Lib.hid (And.intro HBc.out.size hm.bel.size); have HBc := Lib.hid hb; clear hm hb; have bx := (HSB.out _ HBc.out).2.2.1; have by_ := (HSB.out _ HBc.out).2.2.2; have z60 := bx.cell 0; have z61 := bx.cell 1; have z62 := bx.cell 2; have z63 := bx.cell 3; have y60 := by_.cell 0; have y61 := by_.cell 1; have y62 := by_.cell 2; have y63 := by_.cell 3; simp only [List.getElem?_toArray, List.getElem?_cons_zero, List.getElem?_cons_succ] at z60 z61 z62 z63 y60 y61 y62 y63; clear bx by_)
      refine hK.out _ _ ⟨z60, z61, z62, z63, y60, y61, y62, y63⟩ (fun hHeld => ?_)
      clear hK K
      refine wpAnyH_ready (rs := [6, 8]) (by kernel_rfl) (by simp) ?_
      refine AllReadyH.cons rfl (fun K hK => ?_) (AllReadyH.cons rfl (fun K hK => ?_) AllReadyH.nil)
      · clear hHeld
        go_simp
        go_wp2_with (go_at_call 42; refine Calls.mono (HA2.out _ HBc.out) ?_; rintro e w7 ⟨A4, c4, rfl, hm, hb⟩; have HT3 := Lib.hid (And.intro (HT3.out.1.bel hm.bel) HT3.out.2); have HT4 := Lib.hid (And.intro hm.at_ (And.intro hm.ok (And.intro hm.len hm.cap))); have HZ4 := Lib.hid (And.intro HBc.out.size hm.bel.size); have HBc := Lib.hid hb; clear hm hb; have bx := (HSB.out _ HBc.out).2.2.1; have by_ := (HSB.out _ HBc.out).2.2.2; have z70 := bx.cell 0; have z71 := bx.cell 1; have z72 := bx.cell 2; have z73 := bx.cell 3; have y70 := by_.cell 0; have y71 := by_.cell 1; have y72 := by_.cell 2; have y73 := by_.cell 3; simp only [List.getElem?_toArray, List.getElem?_cons_zero, List.getElem?_cons_succ] at z70 z71 z72 z73 y70 y71 y72 y73; clear bx by_)
        refine hK.out _ _ ⟨z70, z71, z72, z73, y70, y71, y72, y73⟩ (fun hHeld => ?_)
        clear hK K
        obtain ⟨al, hal⟩ : ∃ al, (Ty.sub S s).ks.length = al := ⟨_, rfl⟩
        obtain ⟨bl, hbl⟩ : ∃ bl, (Ty.sub S t).ks.length = bl := ⟨_, rfl⟩
        unfold Ty.val
        rw [hal, hbl]
        have HAB := Lib.hid (And.intro hal hbl)
        clear hal hbl
        refine takeY 7 (some 42) rfl rfl (by kernel_rfl) (by kernel_rfl) (by kernel_rfl) (fun _ _ _ h => h) (by rfl) (v := _) (by (intro _ hSw; (try dsimp only at hSw); go_simp; try with_reducible rfl)) hHeld ?_
        simp only [Act.put, List.setIfInBounds_toArray, List.set_cons_zero, List.set_cons_succ]
        refine wpAnyH_ready (rs := [8]) (by kernel_rfl) (by simp) ?_
        refine AllReadyH.cons rfl (fun K hK => ?_) AllReadyH.nil
        clear hHeld
        obtain ⟨w8, hw8⟩ : ∃ w8, w7.alloc (.cells #[.pointer none, .int .u8 0, .string ⟨#[]⟩, .int .i64 0, .slice none 0 0, .int .u8 0, .string ⟨#[]⟩, .int .i64 0, .slice none 0 0] 60) = w8 := ⟨_, rfl⟩
        have hba : Below w7.heap.size w7 w8 := by rw [← hw8]; exact (Below.refl _ _).alloc (Nat.le_refl _) _
        have hlt : w7.heap.size < w8.heap.size := by rw [← hw8]; simp
        have HT3 := Lib.hid (And.intro (HT3.out.1.bel hba) HT3.out.2)
        have HT4 := Lib.hid (And.intro (HT4.out.1.bel hba) HT4.out.2)
        have HU : Hid (Blk w8 w7.heap.size 60 #[.pointer none, .int .u8 0, .string ⟨#[]⟩, .int .i64 0, .slice none 0 0, .int .u8 0, .string ⟨#[]⟩, .int .i64 0, .slice none 0 0]) := Lib.hid (by rw [← hw8]; exact Blk.new _ _ _)
        have HZU := Lib.hid (And.intro HBc.out.size hlt)
        have HBc := Lib.hid (HBc.out.trans (hba.mono HBc.out.size))
        clear hba hlt
        have bx := (HSB.out _ HBc.out).2.2.1
        have by_ := (HSB.out _ HBc.out).2.2.2
        have z80 := bx.cell 0
        have z81 := bx.cell 1
        have z82 := bx.cell 2
        have z83 := bx.cell 3
        have y80 := by_.cell 0
        have y81 := by_.cell 1
        have y82 := by_.cell 2
        have y83 := by_.cell 3
        simp only [List.getElem?_toArray, List.getElem?_cons_zero, List.getElem?_cons_succ] at z80 z81 z82 z83 y80 y81 y82 y83
        clear bx by_
        go_simp
        (try rw [hw8])
        refine hK.out _ _ ⟨z80, z81, z82, z83, y80, y81, y82, y83⟩ (fun hHeld => ?_)
        clear hK K hw8
        have u0 := HU.out.cell 0
        have u1 := HU.out.cell 1
        have u2 := HU.out.cell 2
        have u3 := HU.out.cell 3
        have u4 := HU.out.cell 4
        have u5 := HU.out.cell 5
        have u6 := HU.out.cell 6
        have u7 := HU.out.cell 7
        have u8 := HU.out.cell 8
        have uf := HU.out.frozen
        simp only [List.getElem?_toArray, List.getElem?_cons_zero, List.getElem?_cons_succ] at u0 u1 u2 u3 u4 u5 u6 u7 u8
        have hfz : UR w0 g (Ty.sub S s) (Ty.sub S t) _ w7.heap.size A3 c3 A4 c4 := UR.of HU.out HBc.out HZU.out.1 HT3.out (fun b hb => by have k1 := HZ3.out; have k2 := HZ4.out; have k3 := HZU.out; have k4 := HB5.out; have k5 := hb.1; have k6 := hb.2; omega) HT4.out (fun b hb => by have k1 := HZ3.out; have k2 := HZ4.out; have k3 := HZU.out; have k4 := HB5.out; have k5 := hb.1; have k6 := hb.2; omega) HAB.out.1 HAB.out.2
        have HF := Lib.hid hfz
        have bx := (HSB.out _ hfz.bel).2.2.1
        have by_ := (HSB.out _ hfz.bel).2.2.2
        have z90 := bx.cell 0
        have z91 := bx.cell 1
        have z92 := bx.cell 2
        have z93 := bx.cell 3
        have y90 := by_.cell 0
        have y91 := by_.cell 1
        have y92 := by_.cell 2
        have y93 := by_.cell 3
        simp only [List.getElem?_toArray, List.getElem?_cons_zero, List.getElem?_cons_succ] at z90 z91 z92 z93 y90 y91 y92 y93
        clear bx by_
        clear hfz
        refine wpAnyH_ready (rs := [9]) (by kernel_rfl) (by simp) ?_
        refine AllReadyH.cons rfl (fun K hK => ?_) AllReadyH.nil
        clear hHeld
        go_simp
        refine hK.out _ _ ⟨z90, z91, z92, z93, y90, y91, y92, y93⟩ (fun hHeld => ?_)
        clear hK K
        refine wpAnyH_done (by kernel_rfl) ?_ _
        clear hHeld
        go_wp2_with fail
        go_meet
        exact ⟨w7.heap.size, A3, c3, A4, c4, rfl, HF⟩
      · clear hHeld
        obtain ⟨w7, hw7⟩ : ∃ w7, w6.alloc (.cells #[.pointer none, .int .u8 0, .string ⟨#[]⟩, .int .i64 0, .slice none 0 0, .int .u8 0, .string ⟨#[]⟩, .int .i64 0, .slice none 0 0] 60) = w7 := ⟨_, rfl⟩
        have hba : Below w6.heap.size w6 w7 := by rw [← hw7]; exact (Below.refl _ _).alloc (Nat.le_refl _) _
        have hlt : w6.heap.size < w7.heap.size := by rw [← hw7]; simp
        have HT3 := Lib.hid (And.intro (HT3.out.1.bel hba) HT3.out.2)
        have HU : Hid (Blk w7 w6.heap.size 60 #[.pointer none, .int .u8 0, .string ⟨#[]⟩, .int .i64 0, .slice none 0 0, .int .u8 0, .string ⟨#[]⟩, .int .i64 0, .slice none 0 0]) := Lib.hid (by rw [← hw7]; exact Blk.new _ _ _)
        have HZU := Lib.hid (And.intro HBc.out.size hlt)
        have HBc := Lib.hid (HBc.out.trans (hba.mono HBc.out.size))
        clear hba hlt
        have bx := (HSB.out _ HBc.out).2.2.1
        have by_ := (HSB.out _ HBc.out).2.2.2
        have z70 := bx.cell 0
        have z71 := bx.cell 1
        have z72 := bx.cell 2
        have z73 := bx.cell 3
        have y70 := by_.cell 0
        have y71 := by_.cell 1
        have y72 := by_.cell 2
        have y73 := by_.cell 3
        simp only [List.getElem?_toArray, List.getElem?_cons_zero, List.getElem?_cons_succ] at z70 z71 z72 z73 y70 y71 y72 y73
        clear bx by_
        go_simp
        (try rw [hw7])
        refine hK.out _ _ ⟨z70, z71, z72, z73, y70, y71, y72, y73⟩ (fun hHeld => ?_)
        clear hK K hw7
        refine wpAnyH_ready (rs := [6]) (by kernel_rfl) (by simp) ?_
        refine AllReadyH.cons rfl (fun K hK => ?_) AllReadyH.nil
        clear hHeld
        go_simp
        go_wp2_with (go_at_call 42; refine Calls.mono (HA2.out _ HBc.out) ?_; rintro e w8 ⟨A4, c4, rfl, hm, hb⟩; have HT3 := Lib.hid (And.intro (HT3.out.1.bel hm.bel) HT3.out.2); have HU := Lib.hid (HU.out.below hm.bel HU.out.lt); have HT4 := Lib.hid (And.intro hm.at_ (And.intro hm.ok (And.intro hm.len hm.cap))); have HZ4 := Lib.hid (And.intro HBc.out.size hm.bel.size); have HBc := Lib.hid hb; clear hm hb; have bx := (HSB.out _ HBc.out).2.2.1; have by_ := (HSB.out _ HBc.out).2.2.2; have z80 := bx.cell 0; have z81 := bx.cell 1; have z82 := bx.cell 2; have z83 := bx.cell 3; have y80 := by_.cell 0; have y81 := by_.cell 1; have y82 := by_.cell 2; have y83 := by_.cell 3; simp only [List.getElem?_toArray, List.getElem?_cons_zero, List.getElem?_cons_succ] at z80 z81 z82 z83 y80 y81 y82 y83; clear bx by_)
        refine hK.out _ _ ⟨z80, z81, z82, z83, y80, y81, y82, y83⟩ (fun hHeld => ?_)
        clear hK K
        obtain ⟨al, hal⟩ : ∃ al, (Ty.sub S s).ks.length = al := ⟨_, rfl⟩
        obtain ⟨bl, hbl⟩ : ∃ bl, (Ty.sub S t).ks.length = bl := ⟨_, rfl⟩
        unfold Ty.val
        rw [hal, hbl]
        have HAB := Lib.hid (And.intro hal hbl)
        clear hal hbl
        refine takeY 7 (some 42) rfl rfl (by kernel_rfl) (by kernel_rfl) (by kernel_rfl) (fun _ _ _ h => h) (by rfl) (v := _) (by (intro _ hSw; (try dsimp only at hSw); go_simp; try with_reducible rfl)) hHeld ?_
        simp only [Act.put, List.setIfInBounds_toArray, List.set_cons_zero, List.set_cons_succ]
        have u0 := HU.out.cell 0
        have u1 := HU.out.cell 1
        have u2 := HU.out.cell 2
        have u3 := HU.out.cell 3
        have u4 := HU.out.cell 4
        have u5 := HU.out.cell 5
        have u6 := HU.out.cell 6
        have u7 := HU.out.cell 7
        have u8 := HU.out.cell 8
        have uf := HU.out.frozen
        simp only [List.getElem?_toArray, List.getElem?_cons_zero, List.getElem?_cons_succ] at u0 u1 u2 u3 u4 u5 u6 u7 u8
        have hfz : UR w0 g (Ty.sub S s) (Ty.sub S t) _ w6.heap.size A3 c3 A4 c4 := UR.of HU.out HBc.out HZU.out.1 HT3.out (fun b hb => by have k1 := HZ3.out; have k2 := HZ4.out; have k3 := HZU.out; have k4 := HB5.out; have k5 := hb.1; have k6 := hb.2; omega) HT4.out (fun b hb => by have k1 := HZ3.out; have k2 := HZ4.out; have k3 := HZU.out; have k4 := HB5.out; have k5 := hb.1; have k6 := hb.2; omega) HAB.out.1 HAB.out.2
        have HF := Lib.hid hfz
        have bx := (HSB.out _ hfz.bel).2.2.1
        have by_ := (HSB.out _ hfz.bel).2.2.2
        have z90 := bx.cell 0
        have z91 := bx.cell 1
        have z92 := bx.cell 2
        have z93 := bx.cell 3
        have y90 := by_.cell 0
        have y91 := by_.cell 1
        have y92 := by_.cell 2
        have y93 := by_.cell 3
        simp only [List.getElem?_toArray, List.getElem?_cons_zero, List.getElem?_cons_succ] at z90 z91 z92 z93 y90 y91 y92 y93
        clear bx by_
        clear hfz
        refine wpAnyH_ready (rs := [9]) (by kernel_rfl) (by simp) ?_
        refine AllReadyH.cons rfl (fun K hK => ?_) AllReadyH.nil
        clear hHeld
        go_simp
        refine hK.out _ _ ⟨z90, z91, z92, z93, y90, y91, y92, y93⟩ (fun hHeld => ?_)
        clear hK K
        refine wpAnyH_done (by kernel_rfl) ?_ _
        clear hHeld
        go_wp2_with fail
        go_meet
        exact ⟨w6.heap.size, A3, c3, A4, c4, rfl, HF⟩
    · clear hHeld
      obtain ⟨w6, hw6⟩ : ∃ w6, w5.drew.alloc (.cells #[.pointer none, .int .u8 0, .string ⟨#[]⟩, .int .i64 0, .slice none 0 0, .int .u8 0, .string ⟨#[]⟩, .int .i64 0, .slice none 0 0] 60) = w6 := ⟨_, rfl⟩
      have hba : Below w5.drew.heap.size w5.drew w6 := by rw [← hw6]; exact (Below.refl _ _).alloc (Nat.le_refl _) _
      have hlt : w5.heap.size < w6.heap.size := by rw [← hw6]; simp
      have HU : Hid (Blk w6 w5.heap.size 60 #[.pointer none, .int .u8 0, .string ⟨#[]⟩, .int .i64 0, .slice none 0 0, .int .u8 0, .string ⟨#[]⟩, .int .i64 0, .slice none 0 0]) := Lib.hid (by rw [← hw6]; exact Blk.new _ _ _)
      have HZU := Lib.hid (And.intro HBc.out.size hlt)
      have HBc := Lib.hid (HBc.out.trans (hba.mono HBc.out.size))
      clear hba hlt
      have bx := (HSB.out _ HBc.out).2.2.1
      have by_ := (HSB.out _ HBc.out).2.2.2
      have z60 := bx.cell 0
      have z61 := bx.cell 1
      have z62 := bx.cell 2
      have z63 := bx.cell 3
      have y60 := by_.cell 0
      have y61 := by_.cell 1
      have y62 := by_.cell 2
      have y63 := by_.cell 3
      simp only [List.getElem?_toArray, List.getElem?_cons_zero, List.getElem?_cons_succ] at z60 z61 z62 z63 y60 y61 y62 y63
      clear bx by_
      go_simp
      (try rw [hw6])
      refine hK.out _ _ ⟨z60, z61, z62, z63, y60, y61, y62, y63⟩ (fun hHeld => ?_)
      clear hK K hw6
      refine wpAnyH_ready (rs := [3]) (by kernel_rfl) (by simp) ?_
      refine AllReadyH.cons rfl (fun K hK => ?_) AllReadyH.nil
      clear hHeld
      go_simp
      go_wp2_with (go_at_call 42; refine Calls.mono (HA1.out _ HBc.out) ?_; rintro e w7 ⟨A3, c3, rfl, hm, hb⟩; have HU := Lib.hid (HU.out.below hm.bel HU.out.lt); have HT3 := Lib.hid (And.intro hm.at_ (And.intro hm.ok (And.intro hm.len hm.cap))); have HZ3 := Lib.hid (And.intro HBc.out.size hm.bel.size); have HBc := Lib.hid hb; clear hm hb; have bx := (HSB.out _ HBc.out).2.2.1; have by_ := (HSB.out _ HBc.out).2.2.2; have z70 := bx.cell 0; have z71 := bx.cell 1; have z72 := bx.cell 2; have z73 := bx.cell 3; have y70 := by_.cell 0; have y71 := by_.cell 1; have y72 := by_.cell 2; have y73 := by_.cell 3; simp only [List.getElem?_toArray, List.getElem?_cons_zero, List.getElem?_cons_succ] at z70 z71 z72 z73 y70 y71 y72 y73; clear bx by_)
      refine hK.out _ _ ⟨z70, z71, z72, z73, y70, y71, y72, y73⟩ (fun hHeld => ?_)
      clear hK K
      refine wpAnyH_ready (rs := [6]) (by kernel_rfl) (by simp) ?_
      refine AllReadyH.cons rfl (fun K hK => ?_) AllReadyH.nil
      clear hHeld
      go_simp
      go_wp2_with (go_at_call 42; refine Calls.mono (HA2.out _ HBc.out) ?_; rintro e w8 ⟨A4, c4, rfl, hm, hb⟩; have HU := Lib.hid (HU.out.below hm.bel HU.out.lt); have HT3 := Lib.hid (And.intro (HT3.out.1.bel hm.bel) HT3.out.2); have HT4 := Lib.hid (And.intro hm.at_ (And.intro hm.ok (And.intro hm.len hm.cap))); have HZ4 := Lib.hid (And.intro HBc.out.size hm.bel.size); have HBc := Lib.hid hb; clear hm hb; have bx := (HSB.out _ HBc.out).2.2.1; have by_ := (HSB.out _ HBc.out).2.2.2; have z80 := bx.cell 0; have z81 := bx.cell 1; have z82 := bx.cell 2; have z83 := bx.cell 3; have y80 := by_.cell 0; have y81 := by_.cell 1; have y82 := by_.cell 2; have y83 := by_.cell 3; simp only [List.getElem?_toArray, List.getElem?_cons_zero, List.getElem?_cons_succ] at z80 z81 z82 z83 y80 y81 y82 y83; clear bx by_)
      refine hK.out _ _ ⟨z80, z81, z82, z83, y80, y81, y82, y83⟩ (fun hHeld => ?_)
      clear hK K
      obtain ⟨al, hal⟩ : ∃ al, (Ty.sub S s).ks.length = al := ⟨_, rfl⟩
      obtain ⟨bl, hbl⟩ : ∃ bl, (Ty.sub S t).ks.length = bl := ⟨_, rfl⟩
      unfold Ty.val
      rw [hal, hbl]
      have HAB := Lib.hid (And.intro hal hbl)
      clear hal hbl
      refine takeY 7 (some 42) rfl rfl (by kernel_rfl) (by kernel_rfl) (by kernel_rfl) (fun _ _ _ h => h) (by rfl) (v := _) (by (intro _ hSw; (try dsimp only at hSw); go_simp; try with_reducible rfl)) hHeld ?_
      simp only [Act.put, List.setIfInBounds_toArray, List.set_cons_zero, List.set_cons_succ]
      have u0 := HU.out.cell 0
      have u1 := HU.out.cell 1
      have u2 := HU.out.cell 2
      have u3 := HU.out.cell 3
      have u4 := HU.out.cell 4
      have u5 := HU.out.cell 5
      have u6 := HU.out.cell 6
      have u7 := HU.out.cell 7
      have u8 := HU.out.cell 8
      have uf := HU.out.frozen
      simp only [List.getElem?_toArray, List.getElem?_cons_zero, List.getElem?_cons_succ] at u0 u1 u2 u3 u4 u5 u6 u7 u8
      have hfz : UR w0 g (Ty.sub S s) (Ty.sub S t) _ w5.heap.size A3 c3 A4 c4 := UR.of HU.out HBc.out HZU.out.1 HT3.out (fun b hb => by have k1 := HZ3.out; have k2 := HZ4.out; have k3 := HZU.out; have k4 := HB5.out; have k5 := hb.1; have k6 := hb.2; omega) HT4.out (fun b hb => by have k1 := HZ3.out; have k2 := HZ4.out; have k3 := HZU.out; have k4 := HB5.out; have k5 := hb.1; have k6 := hb.2; omega) HAB.out.1 HAB.out.2
      have HF := Lib.hid hfz
      have bx := (HSB.out _ hfz.bel).2.2.1
      have by_ := (HSB.out _ hfz.bel).2.2.2
      have z90 := bx.cell 0
      have z91 := bx.cell 1
      have z92 := bx.cell 2
      have z93 := bx.cell 3
      have y90 := by_.cell 0
      have y91 := by_.cell 1
      have y92 := by_.cell 2
      have y93 := by_.cell 3
      simp only [List.getElem?_toArray, List.getElem?_cons_zero, List.getElem?_cons_succ] at z90 z91 z92 z93 y90 y91 y92 y93
      clear bx by_
      clear hfz
      refine wpAnyH_ready (rs := [9]) (by kernel_rfl) (by simp) ?_
      refine AllReadyH.cons rfl (fun K hK => ?_) AllReadyH.nil
      clear hHeld
      go_simp
      refine hK.out _ _ ⟨z90, z91, z92, z93, y90, y91, y92, y93⟩ (fun hHeld => ?_)
      clear hK K
      refine wpAnyH_done (by kernel_rfl) ?_ _
      clear hHeld
      go_wp2_with fail
      go_meet
      exact ⟨w5.heap.size, A3, c3, A4, c4, rfl, HF⟩
  case rest =>
    clear z40 z41 z42 z43 y40 y41 y42 y43
    obtain ⟨pu, A3, c3, A4, c4, rfl, hX⟩ := hcut
    have hm := HSB.out wc hX.out.bel
    have hBl : ∀ b, Mut g (.slice Ab N cb) vt b → b < w0.heap.size := fun b hb => by have h1 := HI.out.2.1.lt hb; have h2 := HI.out.2.2.2.2.1.size; omega
    have hU : Un (Mut g (.slice Ab N cb) vt) wc g pu N (Ty.sub S s) (Ty.sub S t) A3 c3 A4 c4 := ⟨hX.out.blk, fun h => by have h1 := hBl _ h; have h2 := hX.out.new; omega, ⟨hX.out.ta.1.mono fun b hb h => by have h1 := hBl _ h; omega, hX.out.ta.2.2.1, hX.out.ta.2.2.2, hX.out.ta.2.1⟩, ⟨hX.out.tb.1.mono fun b hb h => by have h1 := hBl _ h; omega, hX.out.tb.2.2.1, hX.out.tb.2.2.2, hX.out.tb.2.1⟩, (HI.out.1.good_sub HGD.out.1).1, (HI.out.1.good_sub HGD.out.2.1).1⟩
    have HC := unify_any (nfree N (look l) + 1) (((s.sub S).sub S).parts + 1) l S _ _ (s.sub S) (t.sub S) A3 A4 c3 c4 wc HI.out.1 (Nat.lt_succ_self _) (Nat.lt_succ_self _) hU.ga hU.gb hU.ta hU.tb hm.1 hU
    unfold Ty.val at HC
    have u1 := hX.out.blk.cell 1
    have u2 := hX.out.blk.cell 2
    have u3 := hX.out.blk.cell 3
    have u4 := hX.out.blk.cell 4
    have u5 := hX.out.blk.cell 5
    have u6 := hX.out.blk.cell 6
    have u7 := hX.out.blk.cell 7
    have u8 := hX.out.blk.cell 8
    simp only [List.getElem?_toArray, List.getElem?_cons_zero, List.getElem?_cons_succ] at u1 u2 u3 u4 u5 u6 u7 u8
    obtain ⟨al, hal⟩ : ∃ al, (Ty.sub S s).ks.length = al := ⟨_, rfl⟩
    obtain ⟨bl, hbl⟩ : ∃ bl, (Ty.sub S t).ks.length = bl := ⟨_, rfl⟩
    rw [hal] at HC u4
    rw [hbl] at HC u8
    replace HC := Lib.hid HC
    have HGO := Lib.hid hm.2.1
    clear hal hbl hU hm hBl
    go_upto_region 10 with (go_at_call 43; refine HC.out.mono ?_; rintro en w7 ⟨e, l2, S2, vt2, rfl, h1, h2, h3⟩; have HR := Lib.hid (And.intro h1 (And.intro h2 (HGO.out.trans h3))); clear h1 h2 h3 HC u1 u2 u3 u4 u5 u6 u7 u8)
    by_cases he : e = 0
    · have he0 : ((e : Int) != 0) = false := by simp [he]
      have HN : Hid (UniT N s t l S e l2 S2) := Lib.hid ⟨fun h => absurd ⟨HGD.out.1, HGD.out.2.1⟩ h, fun _ _ h => absurd h (by intro h; rcases h with h | h; exact HGD.out.2.2.1 h; exact HGD.out.2.2.2 h), fun _ _ _ _ => ⟨l2, S2, HR.out.1, fun _ => ⟨rfl, rfl⟩, fun h => absurd he h⟩⟩
      go_wp2_with fail
      go_ret
      exact ⟨e, l2, S2, vt2, rfl, HN.out, HR.out.1.slv, HR.out.2.1, HR.out.2.2⟩
    · have he0 : ((e : Int) != 0) = true := by unfold bne; simp [he]
      have HN : Hid (UniT N s t l S e l S) := Lib.hid ⟨fun h => absurd ⟨HGD.out.1, HGD.out.2.1⟩ h, fun _ _ h => absurd h (by intro h; rcases h with h | h; exact HGD.out.2.2.1 h; exact HGD.out.2.2.2 h), fun _ _ _ _ => ⟨l2, S2, HR.out.1, fun h => absurd h he, fun _ => ⟨rfl, rfl⟩⟩⟩
      obtain ⟨m, hm⟩ := HR.out.1.grow
      have HC : Hid (Calls Try.prog 26 #[.pointer (some ⟨g, 0, none⟩), .int .i64 (l.length : Int)] w7 fun e w' => e = .returned (.tuple #[]) ∧ ∃ vt', BM w' g N l (.slice Ab N cb) vt' ∧ Go w7 g (.slice Ab N cb) vt2 w' (.slice Ab N cb) vt') := Lib.hid (back_any (m := m) (by rw [← hm]; exact HR.out.2.1))
      clear hm
      go_wp2_with (go_at_call 26; refine HC.out.mono ?_; rintro en w8 ⟨rfl, vt8, h1, h2⟩; have HR8 := Lib.hid (And.intro h1 (HR.out.2.2.trans h2)); clear h1 h2)
      go_ret
      exact ⟨e, l, S, vt8, rfl, HN.out, HI.out.1, HR8.out.1, HR8.out.2⟩
end Go.Proofs.Ytndhojnfjlkojaa
