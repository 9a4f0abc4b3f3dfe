/- types: unify. -/
import Derived.Test.YtndhojnfjlkojaaY
import Derived.Test.YtndhojnfjlkojaaHf
import Derived.Test.YtndhojnfjlkojaaTake
import Derived.StillTailTactics
import Derived.Deep.CutRange
import Derived.Deep.RegionHeld
namespace Go.Proofs.Ytndhojnfjlkojaa
open Go.RowKit
set_option linter.unusedVariables false
set_option linter.unusedSimpArgs false
attribute [local go_sem] Oper.semAt_some
open Ty
theorem Below.drewN1 {B : Nat} {w w' : World} (h : Below B w w') (n : Nat) : Below B w (w'.drewN n) := ⟨h.os, h.tape, h.output, h.size, h.block⟩
section
variable {N : Nat} {a b s t u v x y : Ty} {l l1 l2 : List (Int × Ty)} {S S1 S2 : Int → Ty} {i e : Nat}
theorem uni_apart2 (hS : Slv N (look l) S) (hu : u.sub S = s.sub S) (hv : v.sub S = t.sub S) (hk : u.k ≠ 1) (hk' : v.k ≠ 1) (h : u.k ≠ v.k ∨ u.nm ≠ v.nm ∨ u.ks.length ≠ v.ks.length) : Uni N a b s t l S 13 l S := by
  obtain ⟨k, nm, n, ks⟩ := u
  obtain ⟨k', nm', n', ks'⟩ := v
  exact (uni_apart hS hk hk' h).heads hu.symm hv.symm
theorem uni_fail2 (hu : u.sub S = s.sub S) (hv : v.sub S = t.sub S) (hgu : good N u) (hgv : good N v) (hk : u.k ≠ 1) (e1 : u.k = v.k) (e2 : u.nm = v.nm) (h : UniK N a b u.ks v.ks l S i l1 S1) (hx : u.ks[i]? = some x) (hy : v.ks[i]? = some y) (hxy : Uni N a b x y l1 S1 e l2 S2) (he : e ≠ 0) : Uni N a b s t l S e l2 S2 := by
  obtain ⟨k, nm, n, ks⟩ := u
  obtain ⟨k', nm', n', ks'⟩ := v
  obtain rfl : k = k' := e1
  obtain rfl : nm = nm' := e2
  obtain rfl : n = 0 := (right_kids hgu.1 hk).2
  obtain rfl : n' = 0 := (right_kids hgv.1 hk).2
  exact (UniK.fail (k := k) (nm := nm) (n := 0) hk h hx hy hxy he).heads hu.symm hv.symm
theorem uni_done2 (hu : u.sub S = s.sub S) (hv : v.sub S = t.sub S) (hgu : good N u) (hgv : good N v) (hk : u.k ≠ 1) (e1 : u.k = v.k) (e2 : u.nm = v.nm) (hl1 : u.ks.length = i) (hl2 : v.ks.length = i) (h : UniK N a b u.ks v.ks l S i l1 S1) : Uni N a b s t l S 0 l1 S1 := by
  obtain ⟨k, nm, n, ks⟩ := u
  obtain ⟨k', nm', n', ks'⟩ := v
  obtain rfl : k = k' := e1
  obtain rfl : nm = nm' := e2
  obtain rfl : n = 0 := (right_kids hgu.1 hk).2
  obtain rfl : n' = 0 := (right_kids hgv.1 hk).2
  exact (UniK.done (k := k) (nm := nm) (n := 0) hk hl1 hl2 h).heads hu.symm hv.symm
theorem kid_parts (hgu : good N u) (hk : u.k ≠ 1) (hx : x ∈ u.ks) : (x.sub S).parts < (u.sub S).parts ∧ good N x := by
  obtain ⟨k, nm, n, ks⟩ := u
  exact ⟨parts_kid S hk nm n hx, good_kid hgu hk hx⟩
end
theorem set4_far (w : World) {g gu : Nat} (v0 v1 v2 v3 : Value) (h : gu ≠ g) : ((((w.setCell ⟨g, 0, none⟩ v0).setCell ⟨g, 1, none⟩ v1).setCell ⟨g, 2, none⟩ v2).setCell ⟨g, 3, none⟩ v3).cell? ⟨gu, 0, none⟩ = w.cell? ⟨gu, 0, none⟩ := by
  rw [World.cell?_setCell_far _ _ _ _ (fun e => h e.symm), World.cell?_setCell_far _ _ _ _ (fun e => h e.symm), World.cell?_setCell_far _ _ _ _ (fun e => h e.symm), World.cell?_setCell_far _ _ _ _ (fun e => h e.symm)]
/-- What head gave. -/
structure Hd (N : Nat) (l : List (Int × Ty)) (S : Int → Ty) (F : Nat → Prop) (B : Nat) (w : World) (t u : Ty) (A : Option Addr) (c : Nat) : Prop where
  tb : TbF F B w u A c
  good : good N u
  same : u.sub S = t.sub S
  free : u.k = 1 → look l u.n = none
theorem Hd.bel {N : Nat} {l : List (Int × Ty)} {S : Int → Ty} {F : Nat → Prop} {B : Nat} {w w' : World} {t u : Ty} {A : Option Addr} {c : Nat} (h : Hd N l S F B w t u A c) (hb : Below B w w') : Hd N l S F B w' t u A c := ⟨h.tb.bel hb, h.good, h.same, h.free⟩
/-- Both heads, in their boxes. -/
structure UH (N : Nat) (l : List (Int × Ty)) (S : Int → Ty) (F : Nat → Prop) (B : Nat) (w : World) (s t u v : Ty) (A' B' : Option Addr) (c' d' : Nat) (wx : World) : Prop where
  d : Blk wx B 24 #[.int .u8 (u.k : Int), .string (str u.nm), .int .i64 u.n, .slice A' u.ks.length c']
  g : Blk wx (B + 1) 24 #[.int .u8 (v.k : Int), .string (str v.nm), .int .i64 v.n, .slice B' v.ks.length d']
  bel : Below B w wx
  hu : Hd N l S F B wx s u A' c'
  hv : Hd N l S F B wx t v B' d'
theorem UH.of {N : Nat} {l : List (Int × Ty)} {S : Int → Ty} {F : Nat → Prop} {B : Nat} {w : World} {s t u v : Ty} {A' B' : Option Addr} {c' d' ul vl : Nat} {wf : World} {a0 a1 a2 a3 b0 b1 b2 b3 : Value} (hBs : B ≤ w.heap.size) (d : Blk wf B 24 #[a0, a1, a2, a3]) (g : Blk wf (B + 1) 24 #[b0, b1, b2, b3]) (hb : Below B w wf)
    (hu : Hd N l S F B wf s u A' c') (hv : Hd N l S F B wf t v B' d') (hul : u.ks.length = ul) (hvl : v.ks.length = vl) :
    UH N l S F B w s t u v A' B' c' d' ((((((((wf.setCell ⟨B, 0, none⟩ (.int .u8 (u.k : Int))).setCell ⟨B, 1, none⟩ (.string (str u.nm))).setCell ⟨B, 2, none⟩ (.int .i64 u.n)).setCell ⟨B, 3, none⟩ (.slice A' ul c')).setCell ⟨B + 1, 0, none⟩ (.int .u8 (v.k : Int))).setCell ⟨B + 1, 1, none⟩ (.string (str v.nm))).setCell ⟨B + 1, 2, none⟩ (.int .i64 v.n)).setCell ⟨B + 1, 3, none⟩ (.slice B' vl d')) := by
  subst hul hvl
  have ho1 := off4 wf B (.int .u8 (u.k : Int)) (.string (str u.nm)) (.int .i64 u.n) (.slice A' u.ks.length c')
  have hd1 := d.set4 (.int .u8 (u.k : Int)) (.string (str u.nm)) (.int .i64 u.n) (.slice A' u.ks.length c')
  have hg1 := g.off ho1 (by omega)
  obtain ⟨w1, hw1⟩ : ∃ w1, ((((wf.setCell ⟨B, 0, none⟩ (.int .u8 (u.k : Int))).setCell ⟨B, 1, none⟩ (.string (str u.nm))).setCell ⟨B, 2, none⟩ (.int .i64 u.n)).setCell ⟨B, 3, none⟩ (.slice A' u.ks.length c')) = w1 := ⟨_, rfl⟩
  rw [hw1] at ho1 hd1 hg1 ⊢
  have ho2 := off4 w1 (B + 1) (.int .u8 (v.k : Int)) (.string (str v.nm)) (.int .i64 v.n) (.slice B' v.ks.length d')
  have hg2 := hg1.set4 (.int .u8 (v.k : Int)) (.string (str v.nm)) (.int .i64 v.n) (.slice B' v.ks.length d')
  have hd2 := hd1.off ho2 (by omega)
  have hbs : B ≤ wf.heap.size := by have := d.lt; omega
  have hb1 : Below B wf w1 := ho1.below hbs (fun k e => by omega)
  have hb2 := hb1.trans (ho2.below (Nat.le_trans hbs hb1.size) (fun k e => by omega))
  exact ⟨hd2, hg2, hb.trans hb2, hu.bel hb2, hv.bel hb2⟩
set_option maxRecDepth 20000 in
set_option maxHeartbeats 8000000 in
theorem unify_any {g gu N : Nat} {a b : Ty} {Aa : Option Addr} {ca : Nat} {Aw : Option Addr} {cw : Nat} : ∀ (K M : Nat) (l : List (Int × Ty)) (S : Int → Ty) (vb vt : Value) (s t : Ty) (A B : Option Addr) (c d : Nat) (w : World), Slv N (look l) S → nfree N (look l) < K → (s.sub S).parts < M → good N s → good N t → Tm (Mut g vb vt) w s A c → Tm (Mut g vb vt) w t B d → BM w g N l vb vt → Un (Mut g vb vt) w g gu N a b Aa ca Aw cw →
    Calls Try.prog 43 #[.pointer (some ⟨gu, 0, none⟩), s.val A c, t.val B d] w fun en w' => ∃ e : Nat, ∃ l' S' vt', en = .returned (.int .i64 (e : Int)) ∧ Uni N a b s t l S e l' S' ∧ BM w' g N l' vb vt' ∧ Go w g vb vt w' vb vt' := by
  intro K
  induction K with
  | zero => intro M l S vb vt s t A B c d w _ h; omega
  | succ K ihK =>
  intro M
  induction M with
  | zero => intro l S vb vt s t A B c d w _ _ h; omega
  | succ M ihM =>
  intro l S vb vt s t A B c d w hS hK hM hgs hgt hTs hTt hBm hU
  obtain ⟨sl, hsl⟩ : ∃ sl, s.ks.length = sl := ⟨_, rfl⟩
  obtain ⟨tl, htl⟩ : ∃ tl, t.ks.length = tl := ⟨_, rfl⟩
  obtain ⟨w0, hw0⟩ : ∃ w0, (w.alloc (.cells #[.int .u8 (s.k : Int), .string (str s.nm), .int .i64 s.n, .slice A sl c] 24)).alloc (.cells #[.int .u8 (t.k : Int), .string (str t.nm), .int .i64 t.n, .slice B tl d] 24) = w0 := ⟨_, rfl⟩
  have hb0 : Below w.heap.size w w0 := by rw [← hw0]; exact ((Below.refl _ _).alloc (Nat.le_refl _) _).alloc (by simp) _
  have hD0 : Blk w0 w.heap.size 24 #[.int .u8 (s.k : Int), .string (str s.nm), .int .i64 s.n, .slice A sl c] := by rw [← hw0]; exact (Blk.new _ _ _).alloc _
  have hG0 : Blk w0 (w.heap.size + 1) 24 #[.int .u8 (t.k : Int), .string (str t.nm), .int .i64 t.n, .slice B tl d] := by
    have := Blk.new (w.alloc (.cells #[.int .u8 (s.k : Int), .string (str s.nm), .int .i64 s.n, .slice A sl c] 24)) 24 #[.int .u8 (t.k : Int), .string (str t.nm), .int .i64 t.n, .slice B tl d]
    rw [World.size_alloc] at this
    rw [← hw0]; exact this
  obtain ⟨Ab, cb, rfl, _, _⟩ := hBm.shape
  obtain ⟨F, hF⟩ : ∃ F, Still g (.slice Ab N cb) vt w.heap.size = F := ⟨_, rfl⟩
  have hBk := hBm.bkF
  have hFs := hTs.tbF
  have hFt := hTt.tbF
  rw [hF] at hBk hFs hFt
  have hFm : ∀ b, F b → ¬ Mut g (.slice Ab N cb) vt b := fun b h => by rw [← hF] at h; exact h.1
  have HH : ∀ (x : Ty) (Ax : Option Addr) (cx : Nat) (W : World), Ty.good N x → TbF F w.heap.size w x Ax cx → Below w0.heap.size w0 W → Calls Try.prog 48 #[.pointer (some ⟨g, 0, none⟩), x.val Ax cx] W fun e w' => ∃ u A' c', e = .returned (u.val A' c') ∧ Hd N l S F w.heap.size w' x u A' c' ∧ Below w0.heap.size w0 w' ∧ Below w.heap.size W w' := fun x Ax cx W hgx hTx hW =>
    (headF_any hS x Ax cx W hgx (hTx.bel (hb0.trans (hW.mono hb0.size))) (hBk.bel (hb0.trans (hW.mono hb0.size)))).mono fun e w' ⟨u, A', c', h1, h2, h3, h4, h5, h6⟩ => ⟨u, A', c', h1, ⟨h2, h3, h4, h5⟩, hW.trans (h6.mono hW.size), h6.mono (Nat.le_trans hb0.size hW.size)⟩
  have HC1 := fun W hW => HH s A c W hgs hFs hW
  have HC2 := fun W hW => HH t B d W hgt hFt hW
  unfold Ty.val at HC1 HC2 ⊢
  rw [hsl, htl]
  simp only [hsl] at HC1
  simp only [htl] at HC2
  replace HC1 := Lib.hid HC1
  replace HC2 := Lib.hid HC2
  have hU0 := hU.bel hb0
  have u0 := hU0.blk.cell 0
  simp only [List.getElem?_toArray, List.getElem?_cons_zero] at u0
  have d0 := hD0.cell 0
  have d1 := hD0.cell 1
  have d2 := hD0.cell 2
  have d3 := hD0.cell 3
  have g0 := hG0.cell 0
  have g1 := hG0.cell 1
  have g2 := hG0.cell 2
  have g3 := hG0.cell 3
  simp only [List.getElem?_toArray, List.getElem?_cons_zero, List.getElem?_cons_succ] at d0 d1 d2 d3 g0 g1 g2 g3
  have hdr : Below w0.heap.size w0 w0.drew := (Below.refl _ _).drew
  have HS := Lib.hid (And.intro hS (And.intro hK (And.intro hM (And.intro ihK ihM))))
  have HI := Lib.hid (And.intro hBm (And.intro hU (And.intro hFm (And.intro hb0 (And.intro hD0 hG0)))))
  have hgul : gu < w0.heap.size := hU0.blk.lt
  have hgn : gu ≠ w.heap.size ∧ gu ≠ w.heap.size + 1 := by have := hU.blk.lt; omega
  have HDR := Lib.hid (And.intro hdr (And.intro hgn.1 (And.intro hgn.2 hgul)))
  have HU0 := Lib.hid u0
  clear hb0 hD0 hG0 hF hBk hFs hFt hFm HH hU0 hS hK hM hgs hgt hTs hTt hBm hU ihK ihM hsl htl hdr hgul hgn
  go_enter Try.func43, Try.ntmps43
  go_upto_region 1 with fail
  (try rw [hw0])
  clear hw0
  go_cut [11] from 11 to 22 (fun s1 wx => s1 = .pointer (some ⟨gu, 0, none⟩) ∧ ∃ (u v : Ty) (A' B' : Option Addr) (c' d' : Nat), Hid (UH N l S F w.heap.size w s t u v A' B' c' d' wx))
  case first =>
    -- REGION
    refine wp_region_held_drew (S := (fun W => W.cell? ⟨gu, 0, none⟩ = some (.pointer (some ⟨g, 0, none⟩)))) (by kernel_rfl) u0 (fun hHeld => ?_)
    refine takeY 0 (some 11) rfl rfl (by kernel_rfl) (by kernel_rfl) (by kernel_rfl) (fun _ _ _ h => h) (by rfl) (v := _) (by (intro _ hSw; (try dsimp only at hSw); go_simp; try with_reducible rfl)) hHeld ?_
    simp only [Act.put, List.setIfInBounds_toArray, List.set_cons_zero, List.set_cons_succ]
    refine takeY 1 (some 12) rfl rfl (by kernel_rfl) (by kernel_rfl) (by kernel_rfl) (fun _ _ _ h => h) (by rfl) (v := _) (by (intro _ hSw; (try dsimp only at hSw); go_simp; try with_reducible rfl)) hHeld ?_
    simp only [Act.put, List.setIfInBounds_toArray, List.set_cons_zero, List.set_cons_succ]
    refine takeY 2 (some 13) rfl rfl (by kernel_rfl) (by kernel_rfl) (by kernel_rfl) (fun _ _ _ h => h) (by rfl) (v := _) (by (intro _ hSw; (try dsimp only at hSw); go_simp; try with_reducible rfl)) hHeld ?_
    simp only [Act.put, List.setIfInBounds_toArray, List.set_cons_zero, List.set_cons_succ]
    refine takeY 3 (some 14) rfl rfl (by kernel_rfl) (by kernel_rfl) (by kernel_rfl) (fun _ _ _ h => h) (by rfl) (v := _) (by (intro _ hSw; (try dsimp only at hSw); go_simp; try with_reducible rfl)) hHeld ?_
    simp only [Act.put, List.setIfInBounds_toArray, List.set_cons_zero, List.set_cons_succ]
    refine takeY 6 (some 17) rfl rfl (by kernel_rfl) (by kernel_rfl) (by kernel_rfl) (fun _ _ _ h => h) (by rfl) (v := _) (by (intro _ hSw; (try dsimp only at hSw); go_simp; try with_reducible rfl)) hHeld ?_
    simp only [Act.put, List.setIfInBounds_toArray, List.set_cons_zero, List.set_cons_succ]
    refine takeY 7 (some 18) rfl rfl (by kernel_rfl) (by kernel_rfl) (by kernel_rfl) (fun _ _ _ h => h) (by rfl) (v := _) (by (intro _ hSw; (try dsimp only at hSw); go_simp; try with_reducible rfl)) hHeld ?_
    simp only [Act.put, List.setIfInBounds_toArray, List.set_cons_zero, List.set_cons_succ]
    refine takeY 8 (some 19) rfl rfl (by kernel_rfl) (by kernel_rfl) (by kernel_rfl) (fun _ _ _ h => h) (by rfl) (v := _) (by (intro _ hSw; (try dsimp only at hSw); go_simp; try with_reducible rfl)) hHeld ?_
    simp only [Act.put, List.setIfInBounds_toArray, List.set_cons_zero, List.set_cons_succ]
    refine takeY 9 (some 20) rfl rfl (by kernel_rfl) (by kernel_rfl) (by kernel_rfl) (fun _ _ _ h => h) (by rfl) (v := _) (by (intro _ hSw; (try dsimp only at hSw); go_simp; try with_reducible rfl)) hHeld ?_
    simp only [Act.put, List.setIfInBounds_toArray, List.set_cons_zero, List.set_cons_succ]
    refine wpAnyH_ready (rs := [4, 10]) (by kernel_rfl) (by simp) ?_
    refine AllReadyH.cons rfl (fun K hK => ?_) (AllReadyH.cons rfl (fun K hK => ?_) AllReadyH.nil)
    · go_simp
      refine hK.out _ _ hHeld (fun hHeld => ?_)
      clear hK K
      refine wpAnyH_ready (rs := [5, 10]) (by kernel_rfl) (by simp) ?_
      refine AllReadyH.cons rfl (fun K hK => ?_) (AllReadyH.cons rfl (fun K hK => ?_) AllReadyH.nil)
      · clear hHeld
        go_simp
        go_wp2_with (go_at_call 48; refine (HC1.out _ HDR.out.1).mono ?_; rintro e w5 ⟨u, A', c', rfl, hdn, hbn, _⟩; obtain ⟨ul, hul⟩ : ∃ ul, u.ks.length = ul := ⟨_, rfl⟩; rw [hul]; have bx := HI.out.2.2.2.2.1.below hbn HI.out.2.2.2.2.1.lt; have by_ := HI.out.2.2.2.2.2.below hbn HI.out.2.2.2.2.2.lt; have z0 := bx.cell 0; have z1 := bx.cell 1; have z2 := bx.cell 2; have z3 := bx.cell 3; have zf := bx.frozen; have y0 := by_.cell 0; have y1 := by_.cell 1; have y2 := by_.cell 2; have y3 := by_.cell 3; have yf := by_.frozen; have x0 := (Below.cell hbn (p := ⟨gu, 0, none⟩) HDR.out.2.2.2).trans HU0.out; simp only [List.getElem?_toArray, List.getElem?_cons_zero, List.getElem?_cons_succ] at z0 z1 z2 z3 y0 y1 y2 y3; clear bx by_; have HB5 := Lib.hid (And.intro hdn (And.intro hbn hul)); clear hdn hbn hul d0 d1 d2 d3 g0 g1 g2 g3 u0)
        refine hK.out _ _ x0 (fun hHeld => ?_)
        clear hK K
        refine wpAnyH_ready (rs := [10]) (by kernel_rfl) (by simp) ?_
        refine AllReadyH.cons rfl (fun K hK => ?_) AllReadyH.nil
        go_simp
        refine hK.out _ _ hHeld (fun hHeld => ?_)
        clear hK K
        refine wpAnyH_ready (rs := [11]) (by kernel_rfl) (by simp) ?_
        refine AllReadyH.cons rfl (fun K hK => ?_) AllReadyH.nil
        clear hHeld
        go_simp
        go_wp2_with (go_at_call 48; refine (HC2.out _ HB5.out.2.1).mono ?_; rintro e wf ⟨v, B', d', rfl, hdn, hbn, hbm⟩; clear z0 z1 z2 z3 zf y0 y1 y2 y3 yf x0; obtain ⟨vl, hvl⟩ : ∃ vl, v.ks.length = vl := ⟨_, rfl⟩; rw [hvl]; have bx := HI.out.2.2.2.2.1.below hbn HI.out.2.2.2.2.1.lt; have by_ := HI.out.2.2.2.2.2.below hbn HI.out.2.2.2.2.2.lt; have z0 := bx.cell 0; have z1 := bx.cell 1; have z2 := bx.cell 2; have z3 := bx.cell 3; have zf := bx.frozen; have y0 := by_.cell 0; have y1 := by_.cell 1; have y2 := by_.cell 2; have y3 := by_.cell 3; have yf := by_.frozen; have x0 := (Below.cell hbn (p := ⟨gu, 0, none⟩) HDR.out.2.2.2).trans HU0.out; simp only [List.getElem?_toArray, List.getElem?_cons_zero, List.getElem?_cons_succ] at z0 z1 z2 z3 y0 y1 y2 y3; clear bx by_; have HF : Hid (Hd N l S F w.heap.size wf s u A' c' ∧ Hd N l S F w.heap.size wf t v B' d' ∧ Below w0.heap.size w0 wf ∧ u.ks.length = ul ∧ v.ks.length = vl) := Lib.hid ⟨HB5.out.1.bel hbm, hdn, hbn, HB5.out.2.2, hvl⟩; clear hdn hbn hbm hvl)
        refine hK.out _ _ x0 (fun hHeld => ?_)
        clear hK K
        refine wpAnyH_ready (rs := [12]) (by kernel_rfl) (by simp) ?_
        refine AllReadyH.cons rfl (fun K hK => ?_) AllReadyH.nil
        clear hHeld
        go_simp
        refine hK.out _ _ ((set4_far _ _ _ _ _ HDR.out.2.1).trans x0) (fun hHeld => ?_)
        clear hK K
        refine wpAnyH_ready (rs := [13]) (by kernel_rfl) (by simp) ?_
        refine AllReadyH.cons rfl (fun K hK => ?_) AllReadyH.nil
        clear hHeld
        go_simp
        refine hK.out _ _ ((set4_far _ _ _ _ _ HDR.out.2.2.1).trans ((set4_far _ _ _ _ _ HDR.out.2.1).trans x0)) (fun hHeld => ?_)
        clear hK K
        refine wpAnyH_done (by kernel_rfl) ?_ _
        clear hHeld
        go_wp2_with fail
        go_meet
        exact ⟨rfl, u, v, A', B', c', d', Lib.hid (UH.of (Nat.le_refl _) (HI.out.2.2.2.2.1.below HF.out.2.2.1 HI.out.2.2.2.2.1.lt) (HI.out.2.2.2.2.2.below HF.out.2.2.1 HI.out.2.2.2.2.2.lt) (HI.out.2.2.2.1.trans (HF.out.2.2.1.mono HI.out.2.2.2.1.size)) HF.out.1 HF.out.2.1 HF.out.2.2.2.1 HF.out.2.2.2.2)⟩
      · go_simp
        refine hK.out _ _ hHeld (fun hHeld => ?_)
        clear hK K
        refine wpAnyH_ready (rs := [5]) (by kernel_rfl) (by simp) ?_
        refine AllReadyH.cons rfl (fun K hK => ?_) AllReadyH.nil
        clear hHeld
        go_simp
        go_wp2_with (go_at_call 48; refine (HC1.out _ HDR.out.1).mono ?_; rintro e w5 ⟨u, A', c', rfl, hdn, hbn, _⟩; obtain ⟨ul, hul⟩ : ∃ ul, u.ks.length = ul := ⟨_, rfl⟩; rw [hul]; have bx := HI.out.2.2.2.2.1.below hbn HI.out.2.2.2.2.1.lt; have by_ := HI.out.2.2.2.2.2.below hbn HI.out.2.2.2.2.2.lt; have z0 := bx.cell 0; have z1 := bx.cell 1; have z2 := bx.cell 2; have z3 := bx.cell 3; have zf := bx.frozen; have y0 := by_.cell 0; have y1 := by_.cell 1; have y2 := by_.cell 2; have y3 := by_.cell 3; have yf := by_.frozen; have x0 := (Below.cell hbn (p := ⟨gu, 0, none⟩) HDR.out.2.2.2).trans HU0.out; simp only [List.getElem?_toArray, List.getElem?_cons_zero, List.getElem?_cons_succ] at z0 z1 z2 z3 y0 y1 y2 y3; clear bx by_; have HB5 := Lib.hid (And.intro hdn (And.intro hbn hul)); clear hdn hbn hul d0 d1 d2 d3 g0 g1 g2 g3 u0)
        refine hK.out _ _ x0 (fun hHeld => ?_)
        clear hK K
        refine wpAnyH_ready (rs := [11]) (by kernel_rfl) (by simp) ?_
        refine AllReadyH.cons rfl (fun K hK => ?_) AllReadyH.nil
        clear hHeld
        go_simp
        go_wp2_with (go_at_call 48; refine (HC2.out _ HB5.out.2.1).mono ?_; rintro e wf ⟨v, B', d', rfl, hdn, hbn, hbm⟩; clear z0 z1 z2 z3 zf y0 y1 y2 y3 yf x0; obtain ⟨vl, hvl⟩ : ∃ vl, v.ks.length = vl := ⟨_, rfl⟩; rw [hvl]; have bx := HI.out.2.2.2.2.1.below hbn HI.out.2.2.2.2.1.lt; have by_ := HI.out.2.2.2.2.2.below hbn HI.out.2.2.2.2.2.lt; have z0 := bx.cell 0; have z1 := bx.cell 1; have z2 := bx.cell 2; have z3 := bx.cell 3; have zf := bx.frozen; have y0 := by_.cell 0; have y1 := by_.cell 1; have y2 := by_.cell 2; have y3 := by_.cell 3; have yf := by_.frozen; have x0 := (Below.cell hbn (p := ⟨gu, 0, none⟩) HDR.out.2.2.2).trans HU0.out; simp only [List.getElem?_toArray, List.getElem?_cons_zero, List.getElem?_cons_succ] at z0 z1 z2 z3 y0 y1 y2 y3; clear bx by_; have HF : Hid (Hd N l S F w.heap.size wf s u A' c' ∧ Hd N l S F w.heap.size wf t v B' d' ∧ Below w0.heap.size w0 wf ∧ u.ks.length = ul ∧ v.ks.length = vl) := Lib.hid ⟨HB5.out.1.bel hbm, hdn, hbn, HB5.out.2.2, hvl⟩; clear hdn hbn hbm hvl)
        refine hK.out _ _ x0 (fun hHeld => ?_)
        clear hK K
        refine wpAnyH_ready (rs := [12]) (by kernel_rfl) (by simp) ?_
        refine AllReadyH.cons rfl (fun K hK => ?_) AllReadyH.nil
        clear hHeld
        go_simp
        refine hK.out _ _ ((set4_far _ _ _ _ _ HDR.out.2.1).trans x0) (fun hHeld => ?_)
        clear hK K
        refine wpAnyH_ready (rs := [13]) (by kernel_rfl) (by simp) ?_
        refine AllReadyH.cons rfl (fun K hK => ?_) AllReadyH.nil
        clear hHeld
        go_simp
        refine hK.out _ _ ((set4_far _ _ _ _ _ HDR.out.2.2.1).trans ((set4_far _ _ _ _ _ HDR.out.2.1).trans x0)) (fun hHeld => ?_)
        clear hK K
        refine wpAnyH_done (by kernel_rfl) ?_ _
        clear hHeld
        go_wp2_with fail
        go_meet
        exact ⟨rfl, u, v, A', B', c', d', Lib.hid (UH.of (Nat.le_refl _) (HI.out.2.2.2.2.1.below HF.out.2.2.1 HI.out.2.2.2.2.1.lt) (HI.out.2.2.2.2.2.below HF.out.2.2.1 HI.out.2.2.2.2.2.lt) (HI.out.2.2.2.1.trans (HF.out.2.2.1.mono HI.out.2.2.2.1.size)) HF.out.1 HF.out.2.1 HF.out.2.2.2.1 HF.out.2.2.2.2)⟩
    · go_simp
      refine hK.out _ _ hHeld (fun hHeld => ?_)
      clear hK K
      refine wpAnyH_ready (rs := [4]) (by kernel_rfl) (by simp) ?_
      refine AllReadyH.cons rfl (fun K hK => ?_) AllReadyH.nil
      go_simp
      refine hK.out _ _ hHeld (fun hHeld => ?_)
      clear hK K
      refine wpAnyH_ready (rs := [5]) (by kernel_rfl) (by simp) ?_
      refine AllReadyH.cons rfl (fun K hK => ?_) AllReadyH.nil
      clear hHeld
      go_simp
      go_wp2_with (go_at_call 48; refine (HC1.out _ HDR.out.1).mono ?_; rintro e w5 ⟨u, A', c', rfl, hdn, hbn, _⟩; obtain ⟨ul, hul⟩ : ∃ ul, u.ks.length = ul := ⟨_, rfl⟩; rw [hul]; have bx := HI.out.2.2.2.2.1.below hbn HI.out.2.2.2.2.1.lt; have by_ := HI.out.2.2.2.2.2.below hbn HI.out.2.2.2.2.2.lt; have z0 := bx.cell 0; have z1 := bx.cell 1; have z2 := bx.cell 2; have z3 := bx.cell 3; have zf := bx.frozen; have y0 := by_.cell 0; have y1 := by_.cell 1; have y2 := by_.cell 2; have y3 := by_.cell 3; have yf := by_.frozen; have x0 := (Below.cell hbn (p := ⟨gu, 0, none⟩) HDR.out.2.2.2).trans HU0.out; simp only [List.getElem?_toArray, List.getElem?_cons_zero, List.getElem?_cons_succ] at z0 z1 z2 z3 y0 y1 y2 y3; clear bx by_; have HB5 := Lib.hid (And.intro hdn (And.intro hbn hul)); clear hdn hbn hul d0 d1 d2 d3 g0 g1 g2 g3 u0)
      refine hK.out _ _ x0 (fun hHeld => ?_)
      clear hK K
      refine wpAnyH_ready (rs := [11]) (by kernel_rfl) (by simp) ?_
      refine AllReadyH.cons rfl (fun K hK => ?_) AllReadyH.nil
      clear hHeld
      go_simp
      go_wp2_with (go_at_call 48; refine (HC2.out _ HB5.out.2.1).mono ?_; rintro e wf ⟨v, B', d', rfl, hdn, hbn, hbm⟩; clear z0 z1 z2 z3 zf y0 y1 y2 y3 yf x0; obtain ⟨vl, hvl⟩ : ∃ vl, v.ks.length = vl := ⟨_, rfl⟩; rw [hvl]; have bx := HI.out.2.2.2.2.1.below hbn HI.out.2.2.2.2.1.lt; have by_ := HI.out.2.2.2.2.2.below hbn HI.out.2.2.2.2.2.lt; have z0 := bx.cell 0; have z1 := bx.cell 1; have z2 := bx.cell 2; have z3 := bx.cell 3; have zf := bx.frozen; have y0 := by_.cell 0; have y1 := by_.cell 1; have y2 := by_.cell 2; have y3 := by_.cell 3; have yf := by_.frozen; have x0 := (Below.cell hbn (p := ⟨gu, 0, none⟩) HDR.out.2.2.2).trans HU0.out; simp only [List.getElem?_toArray, List.getElem?_cons_zero, List.getElem?_cons_succ] at z0 z1 z2 z3 y0 y1 y2 y3; clear bx by_; have HF : Hid (Hd N l S F w.heap.size wf s u A' c' ∧ Hd N l S F w.heap.size wf t v B' d' ∧ Below w0.heap.size w0 wf ∧ u.ks.length = ul ∧ v.ks.length = vl) := Lib.hid ⟨HB5.out.1.bel hbm, hdn, hbn, HB5.out.2.2, hvl⟩; clear hdn hbn hbm hvl)
      refine hK.out _ _ x0 (fun hHeld => ?_)
      clear hK K
      refine wpAnyH_ready (rs := [12]) (by kernel_rfl) (by simp) ?_
      refine AllReadyH.cons rfl (fun K hK => ?_) AllReadyH.nil
      clear hHeld
      go_simp
      refine hK.out _ _ ((set4_far _ _ _ _ _ HDR.out.2.1).trans x0) (fun hHeld => ?_)
      clear hK K
      refine wpAnyH_ready (rs := [13]) (by kernel_rfl) (by simp) ?_
      refine AllReadyH.cons rfl (fun K hK => ?_) AllReadyH.nil
      clear hHeld
      go_simp
      refine hK.out _ _ ((set4_far _ _ _ _ _ HDR.out.2.2.1).trans ((set4_far _ _ _ _ _ HDR.out.2.1).trans x0)) (fun hHeld => ?_)
      clear hK K
      refine wpAnyH_done (by kernel_rfl) ?_ _
      clear hHeld
      go_wp2_with fail
      go_meet
      exact ⟨rfl, u, v, A', B', c', d', Lib.hid (UH.of (Nat.le_refl _) (HI.out.2.2.2.2.1.below HF.out.2.2.1 HI.out.2.2.2.2.1.lt) (HI.out.2.2.2.2.2.below HF.out.2.2.1 HI.out.2.2.2.2.2.lt) (HI.out.2.2.2.1.trans (HF.out.2.2.1.mono HI.out.2.2.2.1.size)) HF.out.1 HF.out.2.1 HF.out.2.2.2.1 HF.out.2.2.2.2)⟩
  case rest =>
    obtain ⟨rfl, u, v, A', B', c', d', hX⟩ := hcut
    clear d0 d1 d2 d3 g0 g1 g2 g3 u0 HC1 HC2 HU0
    obtain ⟨ul, hul⟩ : ∃ ul, u.ks.length = ul := ⟨_, rfl⟩
    obtain ⟨vl, hvl⟩ : ∃ vl, v.ks.length = vl := ⟨_, rfl⟩
    have HW : Hid (∀ W, Below wc.heap.size wc W → BM W g N l (.slice Ab N cb) vt ∧ Un (Mut g (.slice Ab N cb) vt) W g gu N a b Aa ca Aw cw ∧ Tm (Mut g (.slice Ab N cb) vt) W u A' c' ∧ Tm (Mut g (.slice Ab N cb) vt) W v B' d') := Lib.hid fun W hW =>
      ⟨(HI.out.1.bel hX.out.bel).bel hW, (HI.out.2.1.bel hX.out.bel).bel hW, (hX.out.hu.tb.tm HI.out.2.2.1).bel hW, (hX.out.hv.tb.tm HI.out.2.2.1).bel hW⟩
    have d0 := hX.out.d.cell 0
    have d1 := hX.out.d.cell 1
    have d2 := hX.out.d.cell 2
    have d3 := hX.out.d.cell 3
    have g0 := hX.out.g.cell 0
    have g1 := hX.out.g.cell 1
    have g2 := hX.out.g.cell 2
    have g3 := hX.out.g.cell 3
    simp only [List.getElem?_toArray, List.getElem?_cons_zero, List.getElem?_cons_succ] at d0 d1 d2 d3 g0 g1 g2 g3
    rw [hul] at d3
    rw [hvl] at g3
    have HL := Lib.hid (And.intro hul hvl)
    clear hul hvl
    by_cases e1 : u.k = 1
    · by_cases e2 : v.k = 1
      · obtain ⟨eu, hx0, hx1⟩ := good_var hX.out.hu.good e1
        obtain ⟨x, hx⟩ : ∃ x : Nat, u.n = (x : Int) := ⟨u.n.toNat, by omega⟩
        have hlx := hX.out.hu.free e1
        have hxN : x < N := by omega
        rw [hx] at hlx eu
        rw [e1] at d0
        replace d0 : wc.cell? ⟨w.heap.size, 0, none⟩ = some (.int .u8 1) := d0
        rw [hx] at d2
        obtain ⟨ev, hy0, hy1⟩ := good_var hX.out.hv.good e2
        obtain ⟨y, hy⟩ : ∃ y : Nat, v.n = (y : Int) := ⟨v.n.toNat, by omega⟩
        have hly := hX.out.hv.free e2
        have hyN : y < N := by omega
        rw [hy] at hly ev
        rw [e2] at g0
        replace g0 : wc.cell? ⟨w.heap.size + 1, 0, none⟩ = some (.int .u8 1) := g0
        rw [hy] at g2
        rcases Int.lt_trichotomy u.n v.n with hlt | heq | hgt
        · have q1 : ((x : Int) == (y : Int)) = false := by simp; omega
          have q2 : decide ((x : Int) > (y : Int)) = false := by simp; omega
          have q2n : decide (y < x) = false := by simp; omega
          have q2i : decide ((y : Int) < (x : Int)) = false := by simp; omega
          have HC : Hid (∀ W, Below wc.heap.size wc W → Calls Try.prog 50 #[.pointer (some ⟨gu, 0, none⟩), .int .i64 (y : Int), .agg #[.int .u8 (u.k : Int), .string (str u.nm), .int .i64 u.n, .slice A' ul c']] W fun en w' => ∃ e : Nat, ∃ l' S' vt', en = .returned (.int .i64 (e : Int)) ∧ Uni N a b (tvar (y : Int)) u l S e l' S' ∧ BM w' g N l' (.slice Ab N cb) vt' ∧ Go W g (.slice Ab N cb) vt w' (.slice Ab N cb) vt') := Lib.hid fun W hW => by
            have h := bind_any HS.out.1 y hyN hly u A' c' W hX.out.hu.good (fun _ => ⟨by omega, by rw [hx]; exact hlx⟩) (HW.out W hW).2.2.1 (HW.out W hW).1 (HW.out W hW).2.1
            unfold Ty.val at h
            rw [HL.out.1] at h
            exact h
          rw [e1, hx] at HC
          have HE := Lib.hid ev
          have HE2 := Lib.hid (And.intro e1 e2)
          clear hlt hx hy hlx hly eu ev hx0 hx1 hy0 hy1 hxN hyN e1 e2
          go_upto_region 2 with fail
          go_quiet (fail)
          have hq : Below wc.heap.size wc (wc.drewN nq) := Below.drewN1 (Below.refl _ _) nq
          have HQ := Lib.hid hq
          clear hq
          go_wp2_with fail
          refine (HC.out _ HQ.out).mono ?_
          rintro en w7 ⟨e, l', S', vt', rfl, h1, h2, h3⟩
          have h4 : Uni N a b s t l S e l' S' := (h1.heads (by rw [← hX.out.hv.same]; exact congrArg (Ty.sub S) HE.out) hX.out.hu.same.symm).symm
          have HR := Lib.hid (And.intro h4 (And.intro h2 h3))
          clear h1 h2 h3 h4 HC d0 d1 d2 d3 g0 g1 g2 g3
          go_wp2_with fail
          go_ret
          exact ⟨e, l', S', vt', rfl, HR.out.1, HR.out.2.1, (Go.bel _ _ _ (hX.out.bel.trans (HQ.out.mono hX.out.bel.size))).trans HR.out.2.2⟩
        · have hxy : (x : Int) = (y : Int) := by omega
          rw [← hxy] at g2
          have q1 : ((x : Int) == (x : Int)) = true := by simp
          have HU0 : Hid (Uni N a b s t l S 0 l S) := Lib.hid (Uni.refl HS.out.1 (by rw [← hX.out.hu.same, ← hX.out.hv.same, eu, ev, hxy]))
          clear heq hxy hx hy hlx hly eu ev hx0 hx1 hy0 hy1 hxN hyN e1 e2
          go_upto_region 2 with fail
          go_quiet (fail)
          have hq : Below wc.heap.size wc (wc.drewN nq) := Below.drewN1 (Below.refl _ _) nq
          have HQ := Lib.hid hq
          clear hq
          go_wp2_with fail
          go_ret
          exact ⟨0, l, S, vt, rfl, HU0.out, (HW.out _ HQ.out).1, Go.bel _ _ _ (hX.out.bel.trans (HQ.out.mono hX.out.bel.size))⟩
        · have q1 : ((x : Int) == (y : Int)) = false := by simp; omega
          have q2 : decide ((x : Int) > (y : Int)) = true := by simp; omega
          have q2n : decide (y < x) = true := by simp; omega
          have q2i : decide ((y : Int) < (x : Int)) = true := by simp; omega
          have HC : Hid (∀ W, Below wc.heap.size wc W → Calls Try.prog 50 #[.pointer (some ⟨gu, 0, none⟩), .int .i64 (x : Int), .agg #[.int .u8 (v.k : Int), .string (str v.nm), .int .i64 v.n, .slice B' vl d']] W fun en w' => ∃ e : Nat, ∃ l' S' vt', en = .returned (.int .i64 (e : Int)) ∧ Uni N a b (tvar (x : Int)) v l S e l' S' ∧ BM w' g N l' (.slice Ab N cb) vt' ∧ Go W g (.slice Ab N cb) vt w' (.slice Ab N cb) vt') := Lib.hid fun W hW => by
            have h := bind_any HS.out.1 x hxN hlx v B' d' W hX.out.hv.good (fun _ => ⟨by omega, by rw [hy]; exact hly⟩) (HW.out W hW).2.2.2 (HW.out W hW).1 (HW.out W hW).2.1
            unfold Ty.val at h
            rw [HL.out.2] at h
            exact h
          rw [e2, hy] at HC
          have HE := Lib.hid eu
          have HE2 := Lib.hid (And.intro e1 e2)
          clear hgt hx hy hlx hly eu ev hx0 hx1 hy0 hy1 hxN hyN e1 e2
          go_upto_region 2 with fail
          go_quiet (fail)
          have hq : Below wc.heap.size wc (wc.drewN nq) := Below.drewN1 (Below.refl _ _) nq
          have HQ := Lib.hid hq
          clear hq
          go_wp2_with fail
          refine (HC.out _ HQ.out).mono ?_
          rintro en w7 ⟨e, l', S', vt', rfl, h1, h2, h3⟩
          have h4 : Uni N a b s t l S e l' S' := h1.heads (by rw [← hX.out.hu.same]; exact congrArg (Ty.sub S) HE.out) hX.out.hv.same.symm
          have HR := Lib.hid (And.intro h4 (And.intro h2 h3))
          clear h1 h2 h3 h4 HC d0 d1 d2 d3 g0 g1 g2 g3
          go_wp2_with fail
          go_ret
          exact ⟨e, l', S', vt', rfl, HR.out.1, HR.out.2.1, (Go.bel _ _ _ (hX.out.bel.trans (HQ.out.mono hX.out.bel.size))).trans HR.out.2.2⟩
      · obtain ⟨eu, hx0, hx1⟩ := good_var hX.out.hu.good e1
        obtain ⟨x, hx⟩ : ∃ x : Nat, u.n = (x : Int) := ⟨u.n.toNat, by omega⟩
        have hlx := hX.out.hu.free e1
        have hxN : x < N := by omega
        rw [hx] at hlx eu
        rw [e1] at d0
        replace d0 : wc.cell? ⟨w.heap.size, 0, none⟩ = some (.int .u8 1) := d0
        rw [hx] at d2
        have hk2 : (((v.k : Nat) : Int) == 1) = false := by simp; omega
        have HC : Hid (∀ W, Below wc.heap.size wc W → Calls Try.prog 50 #[.pointer (some ⟨gu, 0, none⟩), .int .i64 (x : Int), .agg #[.int .u8 (v.k : Int), .string (str v.nm), .int .i64 v.n, .slice B' vl d']] W fun en w' => ∃ e : Nat, ∃ l' S' vt', en = .returned (.int .i64 (e : Int)) ∧ Uni N a b (tvar (x : Int)) v l S e l' S' ∧ BM w' g N l' (.slice Ab N cb) vt' ∧ Go W g (.slice Ab N cb) vt w' (.slice Ab N cb) vt') := Lib.hid fun W hW => by
          have h := bind_any HS.out.1 x hxN hlx v B' d' W hX.out.hv.good (fun h => absurd h e2) (HW.out W hW).2.2.2 (HW.out W hW).1 (HW.out W hW).2.1
          unfold Ty.val at h
          rw [HL.out.2] at h
          exact h
        have HE := Lib.hid eu
        have HE2 := Lib.hid (And.intro e1 e2)
        clear hx hlx eu hx0 hx1 hxN e1 e2
        go_upto_region 2 with fail
        go_quiet (fail)
        have hq : Below wc.heap.size wc (wc.drewN nq) := Below.drewN1 (Below.refl _ _) nq
        have HQ := Lib.hid hq
        clear hq
        go_wp2_with fail
        refine (HC.out _ HQ.out).mono ?_
        rintro en w7 ⟨e, l', S', vt', rfl, h1, h2, h3⟩
        have h4 : Uni N a b s t l S e l' S' := h1.heads (by rw [← hX.out.hu.same]; exact congrArg (Ty.sub S) HE.out) hX.out.hv.same.symm
        have HR := Lib.hid (And.intro h4 (And.intro h2 h3))
        clear h1 h2 h3 h4 HC d0 d1 d2 d3 g0 g1 g2 g3
        go_wp2_with fail
        go_ret
        exact ⟨e, l', S', vt', rfl, HR.out.1, HR.out.2.1, (Go.bel _ _ _ (hX.out.bel.trans (HQ.out.mono hX.out.bel.size))).trans HR.out.2.2⟩
    · by_cases e2 : v.k = 1
      · obtain ⟨ev, hy0, hy1⟩ := good_var hX.out.hv.good e2
        obtain ⟨y, hy⟩ : ∃ y : Nat, v.n = (y : Int) := ⟨v.n.toNat, by omega⟩
        have hly := hX.out.hv.free e2
        have hyN : y < N := by omega
        rw [hy] at hly ev
        rw [e2] at g0
        replace g0 : wc.cell? ⟨w.heap.size + 1, 0, none⟩ = some (.int .u8 1) := g0
        rw [hy] at g2
        have hk1 : (((u.k : Nat) : Int) == 1) = false := by simp; omega
        have HC : Hid (∀ W, Below wc.heap.size wc W → Calls Try.prog 50 #[.pointer (some ⟨gu, 0, none⟩), .int .i64 (y : Int), .agg #[.int .u8 (u.k : Int), .string (str u.nm), .int .i64 u.n, .slice A' ul c']] W fun en w' => ∃ e : Nat, ∃ l' S' vt', en = .returned (.int .i64 (e : Int)) ∧ Uni N a b (tvar (y : Int)) u l S e l' S' ∧ BM w' g N l' (.slice Ab N cb) vt' ∧ Go W g (.slice Ab N cb) vt w' (.slice Ab N cb) vt') := Lib.hid fun W hW => by
          have h := bind_any HS.out.1 y hyN hly u A' c' W hX.out.hu.good (fun h => absurd h e1) (HW.out W hW).2.2.1 (HW.out W hW).1 (HW.out W hW).2.1
          unfold Ty.val at h
          rw [HL.out.1] at h
          exact h
        have HE := Lib.hid ev
        have HE2 := Lib.hid (And.intro e1 e2)
        clear hy hly ev hy0 hy1 hyN e1 e2
        go_upto_region 2 with fail
        go_quiet (fail)
        have hq : Below wc.heap.size wc (wc.drewN nq) := Below.drewN1 (Below.refl _ _) nq
        have HQ := Lib.hid hq
        clear hq
        go_wp2_with fail
        refine (HC.out _ HQ.out).mono ?_
        rintro en w7 ⟨e, l', S', vt', rfl, h1, h2, h3⟩
        have h4 : Uni N a b s t l S e l' S' := (h1.heads (by rw [← hX.out.hv.same]; exact congrArg (Ty.sub S) HE.out) hX.out.hu.same.symm).symm
        have HR := Lib.hid (And.intro h4 (And.intro h2 h3))
        clear h1 h2 h3 h4 HC d0 d1 d2 d3 g0 g1 g2 g3
        go_wp2_with fail
        go_ret
        exact ⟨e, l', S', vt', rfl, HR.out.1, HR.out.2.1, (Go.bel _ _ _ (hX.out.bel.trans (HQ.out.mono hX.out.bel.size))).trans HR.out.2.2⟩
      · have hk1 : (((u.k : Nat) : Int) == 1) = false := by simp; omega
        have hk2 : (((v.k : Nat) : Int) == 1) = false := by simp; omega
        by_cases e3 : u.k = v.k
        case neg =>
          have q1 : ((u.k : Int) != (v.k : Int)) = true := by unfold bne; simp; omega
          have HU0 : Hid (Uni N a b s t l S 13 l S) := Lib.hid (uni_apart2 HS.out.1 hX.out.hu.same hX.out.hv.same e1 e2 (.inl e3))
          clear e1 e2 e3
          go_upto_region 2 with fail
          go_quiet (fail)
          have hq : Below wc.heap.size wc (wc.drewN nq) := Below.drewN1 (Below.refl _ _) nq
          have HQ := Lib.hid hq
          clear hq
          go_wp2_with fail
          go_ret
          exact ⟨13, l, S, vt, rfl, HU0.out, (HW.out _ HQ.out).1, Go.bel _ _ _ (hX.out.bel.trans (HQ.out.mono hX.out.bel.size))⟩
        rw [← e3] at g0
        have E3 := Lib.hid e3
        clear e3
        have q1 : ((u.k : Int) != (u.k : Int)) = false := by simp
        by_cases e3 : u.nm = v.nm
        case neg =>
          have q3 : ((str u.nm).toList == (str v.nm).toList) = false := by rw [str_toList, str_toList]; simp [e3]
          have HU0 : Hid (Uni N a b s t l S 13 l S) := Lib.hid (uni_apart2 HS.out.1 hX.out.hu.same hX.out.hv.same e1 e2 (.inr (.inl e3)))
          clear e1 e2 e3
          go_upto_region 2 with fail
          go_quiet (fail)
          have hq : Below wc.heap.size wc (wc.drewN nq) := Below.drewN1 (Below.refl _ _) nq
          have HQ := Lib.hid hq
          clear hq
          go_wp2_with fail
          go_ret
          exact ⟨13, l, S, vt, rfl, HU0.out, (HW.out _ HQ.out).1, Go.bel _ _ _ (hX.out.bel.trans (HQ.out.mono hX.out.bel.size))⟩
        rw [← e3] at g1
        have E4 := Lib.hid e3
        clear e3
        by_cases e3 : ul = vl
        case neg =>
          have q4 : ((ul : Int) != (vl : Int)) = true := by unfold bne; simp; omega
          have HU0 : Hid (Uni N a b s t l S 13 l S) := Lib.hid (uni_apart2 HS.out.1 hX.out.hu.same hX.out.hv.same e1 e2 (.inr (.inr (by rw [HL.out.1, HL.out.2]; exact e3))))
          clear e1 e2 e3
          go_upto_region 2 with fail
          go_quiet (fail)
          have hq : Below wc.heap.size wc (wc.drewN nq) := Below.drewN1 (Below.refl _ _) nq
          have HQ := Lib.hid hq
          clear hq
          go_wp2_with fail
          go_ret
          exact ⟨13, l, S, vt, rfl, HU0.out, (HW.out _ HQ.out).1, Go.bel _ _ _ (hX.out.bel.trans (HQ.out.mono hX.out.bel.size))⟩
        subst e3
        have q4 : ((ul : Int) != (ul : Int)) = false := by simp
        have E1 := Lib.hid (And.intro e1 e2)
        have hmx : ul ≤ 9223372036854775807 := by have h1 := hX.out.hu.tb.len; have h2 := hX.out.hu.tb.cap; have h3 := HL.out.1; unfold maxLen at h2; omega
        clear e1 e2
        go_upto_region 2 with fail
        go_quiet (fail)
        have hq : Below wc.heap.size wc (wc.drewN nq) := Below.drewN1 (Below.refl _ _) nq
        have HQ := Lib.hid hq
        clear hq
        go_wp2_with fail
        clear d0 d1 d2 d3 g0 g1 g2 g3 q1 q4 hk1 hk2
        go_loopw [90] (fun iv wr => ∃ (i : Nat) (l1 : List (Int × Ty)) (S1 : Int → Ty) (vt1 : Value), i ≤ ul ∧ iv = .int .i64 (i : Int) ∧ Hid (UniK N a b u.ks v.ks l S i l1 S1 ∧ BM wr g N l1 (.slice Ab N cb) vt1 ∧ Go wc g (.slice Ab N cb) vt wr (.slice Ab N cb) vt1)) (fun iv _ => ul - (intOf iv).toNat)
        case atStart => exact ⟨0, l, S, vt, Nat.zero_le _, rfl, Lib.hid ⟨UniK.start HS.out.1, (HW.out _ HQ.out).1, Go.bel _ _ _ HQ.out⟩⟩
        case round =>
          obtain ⟨i, l1, S1, vt1, hi, rfl, hJ⟩ := hrel
          by_cases hli : i < ul
          · have hd : decide ((i : Int) < (ul : Int)) = true := by simpa using hli
            have hwc := HW.out wc (Below.refl _ _)
            have hDr := hJ.out.2.2.blk hX.out.d (fun h => by have := HI.out.1.lt h; omega)
            have hGr := hJ.out.2.2.blk hX.out.g (fun h => by have := HI.out.1.lt h; omega)
            have d3 := hDr.cell 3
            have g3 := hGr.cell 3
            simp only [List.getElem?_toArray, List.getElem?_cons_zero, List.getElem?_cons_succ] at d3 g3
            rw [HL.out.1] at d3
            rw [HL.out.2] at g3
            obtain ⟨x, hx⟩ : ∃ x, u.ks[i]? = some x := ⟨_, List.getElem?_eq_getElem (by rw [HL.out.1]; exact hli)⟩
            obtain ⟨y, hy⟩ : ∃ y, v.ks[i]? = some y := ⟨_, List.getElem?_eq_getElem (by rw [HL.out.2]; exact hli)⟩
            obtain ⟨b1, o1, A2, c2, rfl, _, _, z0, z1, z2, z3, hok, hlc, hcm, hAt⟩ := (hJ.out.2.2.tm hwc.2.2.1).at_.get hx
            obtain ⟨b2, o2, B2, d2, rfl, _, _, y0, y1, y2, y3, hok', hlc', hcm', hBt⟩ := (hJ.out.2.2.tm hwc.2.2.2).at_.get hy
            have hkx := kid_parts (S := S) hX.out.hu.good E1.out.1 (List.mem_of_getElem? hx)
            have hky := kid_parts (S := S) hX.out.hv.good E1.out.2 (List.mem_of_getElem? hy)
            have hpx : (x.sub S).parts < M := by have h1 := hkx.1; rw [hX.out.hu.same] at h1; have := HS.out.2.2.1; omega
            have hC : ∀ W, Below wr.heap.size wr W → Calls Try.prog 43 #[.pointer (some ⟨gu, 0, none⟩), x.val A2 c2, y.val B2 d2] W fun en w' => ∃ e : Nat, ∃ l' S' vt', en = .returned (.int .i64 (e : Int)) ∧ Uni N a b x y l1 S1 e l' S' ∧ BM w' g N l' (.slice Ab N cb) vt' ∧ Go W g (.slice Ab N cb) vt1 w' (.slice Ab N cb) vt' := fun W hW => by
              have k1 := hJ.out.2.1.bel hW
              have k2 := (hwc.2.1.go hJ.out.2.2).bel hW
              have k3 : Tm (Mut g (.slice Ab N cb) vt1) W x A2 c2 := Tm.bel ⟨hAt, hlc, hcm, hok⟩ hW
              have k4 : Tm (Mut g (.slice Ab N cb) vt1) W y B2 d2 := Tm.bel ⟨hBt, hlc', hcm', hok'⟩ hW
              have k5 := HS.out.2.1
              rcases hJ.out.1.less with ⟨f1, f2⟩ | hl
              · subst f1 f2
                exact HS.out.2.2.2.2 _ _ _ _ x y A2 B2 c2 d2 W hJ.out.1.slv k5 hpx hkx.2 hky.2 k3 k4 k1 k2
              · exact HS.out.2.2.2.1 ((x.sub S1).parts + 1) _ _ _ _ x y A2 B2 c2 d2 W hJ.out.1.slv (by omega) (Nat.lt_succ_self _) hkx.2 hky.2 k3 k4 k1 k2
            unfold Ty.val at hC
            obtain ⟨xl, hxl⟩ : ∃ xl, x.ks.length = xl := ⟨_, rfl⟩
            obtain ⟨yl, hyl⟩ : ∃ yl, y.ks.length = yl := ⟨_, rfl⟩
            simp only [hxl, hyl] at hC
            rw [hxl] at z3
            rw [hyl] at y3
            have HC := Lib.hid hC
            have HXY := Lib.hid (And.intro hx hy)
            have HD := Lib.hid (And.intro (Below.drew (Below.refl wr.heap.size wr)) (Below.drewN1 (Below.refl wr.heap.size wr) 1))
            clear hwc hDr hGr hx hy hok hlc hcm hAt hok' hlc' hcm' hBt hkx hky hpx hC hxl hyl
            go_upto_region 14 with fail
            go_still_tail 11, (by kernel_rfl)
            go_wp2_with fail
            refine (HC.out _ (by first | exact HD.out.1 | exact HD.out.2)).mono ?_
            rintro en w7 ⟨e, l2, S2, vt2, rfl, h1, h2, h3⟩
            have HR := Lib.hid (And.intro h1 (And.intro h2 ((hJ.out.2.2.trans (Go.bel _ _ _ HD.out.1)).trans h3)))
            clear h1 h2 h3 HC d3 g3 z0 z1 z2 z3 y0 y1 y2 y3
            by_cases he : e = 0
            · have he0 : ((e : Int) != 0) = false := by simp [he]
              have HN : Hid (UniK N a b u.ks v.ks l S (i + 1) l2 S2 ∧ BM w7 g N l2 (.slice Ab N cb) vt2 ∧ Go wc g (.slice Ab N cb) vt w7 (.slice Ab N cb) vt2) := Lib.hid ⟨hJ.out.1.step HXY.out.1 HXY.out.2 (by rw [← he]; exact HR.out.1), HR.out.2⟩
              clear hJ HR he HXY HD
              go_wp2_with fail
              go_roundw
              case rel => exact ⟨i + 1, l2, S2, vt2, by omega, by go_num, HN⟩
              case measure => simp [intOf]; omega
            · have he0 : ((e : Int) != 0) = true := by unfold bne; simp [he]
              have HN : Hid (Uni N a b s t l S e l2 S2 ∧ BM w7 g N l2 (.slice Ab N cb) vt2 ∧ Go w g (.slice Ab N cb) vt w7 (.slice Ab N cb) vt2) := Lib.hid ⟨uni_fail2 hX.out.hu.same hX.out.hv.same hX.out.hu.good hX.out.hv.good E1.out.1 E3.out E4.out hJ.out.1 HXY.out.1 HXY.out.2 HR.out.1 he, HR.out.2.1, (Go.bel _ _ _ hX.out.bel).trans HR.out.2.2⟩
              clear hJ HR he HXY HD
              go_wp2_with fail
              go_ret
              exact ⟨e, l2, S2, vt2, rfl, HN.out⟩
          · obtain rfl : ul = i := by omega
            have hd : decide ((ul : Int) < (ul : Int)) = false := by simp
            have HN : Hid (Uni N a b s t l S 0 l1 S1 ∧ BM wr g N l1 (.slice Ab N cb) vt1 ∧ Go w g (.slice Ab N cb) vt wr (.slice Ab N cb) vt1) := Lib.hid ⟨uni_done2 hX.out.hu.same hX.out.hv.same hX.out.hu.good hX.out.hv.good E1.out.1 E3.out E4.out HL.out.1 HL.out.2 hJ.out.1, hJ.out.2.1, (Go.bel _ _ _ hX.out.bel).trans hJ.out.2.2⟩
            clear hJ
            go_wp2_with fail
            go_ret
            exact ⟨0, l1, S1, vt1, rfl, HN.out⟩
end Go.Proofs.Ytndhojnfjlkojaa
