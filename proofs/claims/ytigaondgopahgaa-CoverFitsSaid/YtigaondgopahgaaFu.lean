/- cover: CoverFits. -/
import Derived.Test.YtigaondgopahgaaFt
namespace Go.Proofs.Ytigaondgopahgaa
open Go.RowKit Ty
set_option linter.unusedVariables false
set_option linter.unusedSimpArgs false
attribute [local go_sem] Oper.semAt_some
theorem infos_dr (w : World) (o : Obj) : Calls Try.prog 16 #[] (w.alloc o).drew fun e w' => e = .returned (.slice (some ⟨w.heap.size + 1, 0, none⟩) 8 8) ∧ IAt Everywhere w' (some ⟨w.heap.size + 1, 0, none⟩) 8 8 infosX ∧ Below (w.heap.size + 1) (w.alloc o).drew w' := by
  have h := infos_any (w.alloc o).drew
  have hs : (w.alloc o).drew.heap.size = w.heap.size + 1 := World.size_alloc _ _
  rw [hs] at h
  exact h
theorem blk_dr {w u : World} {cs : Array Value} {t : Nat} (h : Below (w.heap.size + 1) (w.alloc (.cells cs t)).drew u) : Blk u w.heap.size t cs := (Blk.drew (Blk.new w t cs)).below h (Nat.lt_succ_self _)
theorem bel_dr {w u : World} {o : Obj} (h : Below (w.heap.size + 1) (w.alloc o).drew u) : Below w.heap.size w u := ((Below.refl w.heap.size w).alloc (Nat.le_refl _) o).drew.trans (h.mono (Nat.le_succ _))
theorem bel_drewN {B : Nat} {w w' : World} (h : Below B w w') (n : Nat) : Below B w (w'.drewN n) := by
  exact ⟨h.os, h.tape, h.output, h.size, h.block⟩
theorem lFn_get (es : List Te) (h : es.map Te.t = lF) {i : Nat} (hi : i < 8) : ∃ e, es[i]? = some e ∧ e.t = lFn i := by
  have hl : es.length = 8 := by rw [← List.length_map (f := Te.t), h]; rfl
  have he : es[i]? = some es[i] := List.getElem?_eq_getElem (by omega)
  refine ⟨es[i], he, ?_⟩
  have h2 : (es.map Te.t)[i]? = some (es[i]).t := by rw [List.getElem?_map, he]; rfl
  rw [h] at h2
  unfold lFn
  rw [h2]; rfl
/-- The row of eight, in memory. -/
structure Row8 (w : World) (g : Nat) (es : List Te) : Prop where
  blk : Blk w g 40 (flatE es).toArray
  map : es.map Te.t = lF
  kids : ∀ e ∈ es, e.in_ (fun b => b < w.heap.size) w
theorem Row8.bel {w w' : World} {g : Nat} {es : List Te} (h : Row8 w g es) (hb : Below w.heap.size w w') : Row8 w' g es := ⟨h.blk.below hb h.blk.lt, h.map, fun e he => ((h.kids e he).bel hb).mono fun b hb2 => Nat.lt_of_lt_of_le hb2 hb.size⟩
theorem Row8.get {w : World} {g : Nat} {es : List Te} (h : Row8 w g es) {i : Nat} (hi : i < 8) : ∃ (A : Option Addr) (c tl : Nat), (lFn i).ks.length = tl ∧ Te.in_ (fun b => b < w.heap.size) w ⟨lFn i, A, c⟩ ∧ w.cell? ⟨g, i * 4, none⟩ = some (.int .u8 ((lFn i).k : Int)) ∧ w.cell? ⟨g, i * 4 + 1, none⟩ = some (.string (str (lFn i).nm)) ∧ w.cell? ⟨g, i * 4 + 2, none⟩ = some (.int .i64 (lFn i).n) ∧ w.cell? ⟨g, i * 4 + 3, none⟩ = some (.slice A tl c) := by
  obtain ⟨⟨t, A, c⟩, he, ht⟩ := lFn_get es h.map hi
  simp only at ht
  subst ht
  refine ⟨A, c, _, rfl, h.kids _ (List.mem_of_getElem? he), ?_⟩
  have key : ∀ (j : Nat) (v : Value), (Te.cells ⟨lFn i, A, c⟩)[j]? = some v → w.cell? ⟨g, i * 4 + j, none⟩ = some v := fun j v hj => by
    rw [h.blk.cell, List.getElem?_toArray]
    exact flatE_get he hj
  exact ⟨key 0 _ rfl, key 1 _ rfl, key 2 _ rfl, key 3 _ rfl⟩
set_option maxRecDepth 100000 in
set_option maxHeartbeats 16000000 in
theorem fits_law (o tw dp : Nat) (ho : o < 256) (htw : tw < 256) (hdp : dp < 256) (w : World) :
    Calls Try.prog 8 #[.int .u8 (o : Int), .int .u8 (tw : Int), .int .u8 (dp : Int)] w fun e w' => e = .returned (.bool true) ∧ Below w.heap.size w w' := by
  obtain ⟨i, hi⟩ : ∃ i, o % 8 = i := ⟨_, rfl⟩
  obtain ⟨j, hj⟩ : ∃ j, tw % 8 = j := ⟨_, rfl⟩
  obtain ⟨dm, hdm⟩ : ∃ d, dp % 9 = d := ⟨_, rfl⟩
  have hi8 : i < 8 := by omega
  have hj8 : j < 8 := by omega
  have hd9 : dm < 9 := by omega
  have him : (o : Int) % 8 = (i : Int) := by omega
  have hjm : (tw : Int) % 8 = (j : Int) := by omega
  have hdmm : (dp : Int) % 9 = (dm : Int) := by omega
  have HIJ := Lib.hid (And.intro him (And.intro hjm hdmm))
  clear hi hj hdm him hjm hdmm
  go_enter Try.func8, Try.ntmps8
  go_wp2_with fail
  refine (wild_any w).mono ?_
  rintro e w1 ⟨rfl, hb1⟩
  go_wp2_with fail
  refine (wild_any w1).mono ?_
  rintro e w2 ⟨rfl, hb2⟩
  obtain ⟨w3, hw3⟩ : ∃ W, w2.alloc (.cells #[.int .u8 1, .string ⟨#[]⟩, .int .i64 0, .slice none 0 0, .int .u8 1, .string ⟨#[]⟩, .int .i64 0, .slice none 0 0] 40) = W := ⟨_, rfl⟩
  have hbw3 : Below w2.heap.size w2 w3 := by rw [← hw3]; exact (Below.refl _ _).alloc (Nat.le_refl _) _
  have hBw3 : Blk w3 w2.heap.size 40 #[.int .u8 1, .string ⟨#[]⟩, .int .i64 0, .slice none 0 0, .int .u8 1, .string ⟨#[]⟩, .int .i64 0, .slice none 0 0] := by rw [← hw3]; exact Blk.new _ _ _
  obtain ⟨g2, hg2⟩ : ∃ g, w2.heap.size = g := ⟨_, rfl⟩
  rw [hg2] at hBw3
  have h2w := Lib.hid hb1
  clear hb1
  go_wp2_with fail
  refine (wild_any w3).mono ?_
  rintro e w4 ⟨rfl, hb4⟩
  go_wp2_with fail
  refine (wild_any w4).mono ?_
  rintro e w5 ⟨rfl, hb5⟩
  go_wp2_with fail
  refine (wild_any w5).mono ?_
  rintro e w6 ⟨rfl, hb6⟩
  obtain ⟨w7, hw7⟩ : ∃ W, w6.alloc (.cells #[.int .u8 1, .string ⟨#[]⟩, .int .i64 0, .slice none 0 0, .int .u8 1, .string ⟨#[]⟩, .int .i64 0, .slice none 0 0, .int .u8 1, .string ⟨#[]⟩, .int .i64 0, .slice none 0 0] 40) = W := ⟨_, rfl⟩
  have hbw7 : Below w6.heap.size w6 w7 := by rw [← hw7]; exact (Below.refl _ _).alloc (Nat.le_refl _) _
  have hBw7 : Blk w7 w6.heap.size 40 #[.int .u8 1, .string ⟨#[]⟩, .int .i64 0, .slice none 0 0, .int .u8 1, .string ⟨#[]⟩, .int .i64 0, .slice none 0 0, .int .u8 1, .string ⟨#[]⟩, .int .i64 0, .slice none 0 0] := by rw [← hw7]; exact Blk.new _ _ _
  obtain ⟨g3, hg3⟩ : ∃ g, w6.heap.size = g := ⟨_, rfl⟩
  rw [hg3] at hBw7
  go_wp2_with fail
  refine (con_any ⟨#[116, 114, 117, 101]⟩ none 0 0 w7).mono ?_
  rintro e w8 ⟨rfl, hb8⟩
  go_wp2_with fail
  refine (con_any ⟨#[78, 111, 110, 101]⟩ none 0 0 w8).mono ?_
  rintro e w9 ⟨rfl, hb9⟩
  go_wp2_with fail
  refine (con_any ⟨#[69]⟩ none 0 0 w9).mono ?_
  rintro e w10 ⟨rfl, hb10⟩
  go_wp2_with fail
  refine (wild_any w10).mono ?_
  rintro e w11 ⟨rfl, hb11⟩
  obtain ⟨w12, hw12⟩ : ∃ W, w11.alloc (.cells #[.int .u8 1, .string ⟨#[]⟩, .int .i64 0, .slice none 0 0] 40) = W := ⟨_, rfl⟩
  have hbw12 : Below w11.heap.size w11 w12 := by rw [← hw12]; exact (Below.refl _ _).alloc (Nat.le_refl _) _
  have hBw12 : Blk w12 w11.heap.size 40 #[.int .u8 1, .string ⟨#[]⟩, .int .i64 0, .slice none 0 0] := by rw [← hw12]; exact Blk.new _ _ _
  obtain ⟨g7, hg7⟩ : ∃ g, w11.heap.size = g := ⟨_, rfl⟩
  rw [hg7] at hBw12
  go_wp2_with fail
  refine (con_any ⟨#[67, 111, 110, 115]⟩ (some ⟨g7, 0, none⟩) 1 1 w12).mono ?_
  rintro e w13 ⟨rfl, hb13⟩
  obtain ⟨w14, hw14⟩ : ∃ W, w13.alloc (.cells #[.int .u8 3, .string ⟨#[]⟩, .int .i64 0, .slice none 0 0, .int .u8 4, .string ⟨#[]⟩, .int .i64 0, .slice none 0 0, .int .u8 5, .string ⟨#[]⟩, .int .i64 0, .slice (some ⟨g2, 0, none⟩) 2 2, .int .u8 5, .string ⟨#[]⟩, .int .i64 0, .slice (some ⟨g3, 0, none⟩) 3 3, .int .u8 6, .string ⟨#[116, 114, 117, 101]⟩, .int .i64 0, .slice none 0 0, .int .u8 6, .string ⟨#[78, 111, 110, 101]⟩, .int .i64 0, .slice none 0 0, .int .u8 6, .string ⟨#[69]⟩, .int .i64 0, .slice none 0 0, .int .u8 6, .string ⟨#[67, 111, 110, 115]⟩, .int .i64 0, .slice (some ⟨g7, 0, none⟩) 1 1] 40) = W := ⟨_, rfl⟩
  have hb14 : Below w13.heap.size w13 w14 := by rw [← hw14]; exact (Below.refl _ _).alloc (Nat.le_refl _) _
  have hB14 : Blk w14 w13.heap.size 40 #[.int .u8 3, .string ⟨#[]⟩, .int .i64 0, .slice none 0 0, .int .u8 4, .string ⟨#[]⟩, .int .i64 0, .slice none 0 0, .int .u8 5, .string ⟨#[]⟩, .int .i64 0, .slice (some ⟨g2, 0, none⟩) 2 2, .int .u8 5, .string ⟨#[]⟩, .int .i64 0, .slice (some ⟨g3, 0, none⟩) 3 3, .int .u8 6, .string ⟨#[116, 114, 117, 101]⟩, .int .i64 0, .slice none 0 0, .int .u8 6, .string ⟨#[78, 111, 110, 101]⟩, .int .i64 0, .slice none 0 0, .int .u8 6, .string ⟨#[69]⟩, .int .i64 0, .slice none 0 0, .int .u8 6, .string ⟨#[67, 111, 110, 115]⟩, .int .i64 0, .slice (some ⟨g7, 0, none⟩) 1 1] := by rw [← hw14]; exact Blk.new _ _ _
  obtain ⟨gl, hgl⟩ : ∃ g, w13.heap.size = g := ⟨_, rfl⟩
  have hs1 := h2w.out.size
  have hs2 := hb2.size
  have hs3 := hbw3.size
  have hs4 := hb4.size
  have hs5 := hb5.size
  have hs6 := hb6.size
  have hs7 := hbw7.size
  have hs8 := hb8.size
  have hs9 := hb9.size
  have hs10 := hb10.size
  have hs11 := hb11.size
  have hs12 := hbw12.size
  have hs13 := hb13.size
  have hs14 := hb14.size
  have h12_14 : Below w12.heap.size w12 w14 := hb13.trans (hb14.mono hs13)
  have h7_14 : Below w7.heap.size w7 w14 := hb8.trans ((hb9.trans ((hb10.trans ((hb11.trans ((hbw12.trans (h12_14.mono hs12)).mono hs11)).mono hs10)).mono hs9)).mono hs8)
  have h3_14 : Below w3.heap.size w3 w14 := hb4.trans ((hb5.trans ((hb6.trans ((hbw7.trans (h7_14.mono hs7)).mono hs6)).mono hs5)).mono hs4)
  have hww14 : Below w.heap.size w w14 := h2w.out.trans ((hb2.trans ((hbw3.trans (h3_14.mono hs3)).mono hs2)).mono hs1)
  have k2 := hBw3.below h3_14 hBw3.lt
  have k3 := hBw7.below h7_14 hBw7.lt
  have k7 := hBw12.below h12_14 hBw12.lt
  have hR8 : Row8 w14 gl [⟨.node 3 [] 0 [], none, 0⟩, ⟨.node 4 [] 0 [], none, 0⟩, ⟨tup [any, any], some ⟨g2, 0, none⟩, 2⟩, ⟨tup [any, any, any], some ⟨g3, 0, none⟩, 3⟩, tE pT, tE pNone, tE pE, ⟨pCons, some ⟨g7, 0, none⟩, 1⟩] := by
    refine ⟨by rw [← hgl]; exact hB14, rfl, fun e he => ?_⟩
    have o3 : (Ty.node 3 [] 0 []).ok := ⟨by decide, by decide, by decide⟩
    have o4 : (Ty.node 4 [] 0 []).ok := ⟨by decide, by decide, by decide⟩
    have oN : pNone.ok := ⟨by decide, by decide, by decide⟩
    have oE : pE.ok := ⟨by decide, by decide, by decide⟩
    have oC : pCons.ok := ⟨by decide, by decide, by decide⟩
    simp only [List.mem_cons, List.not_mem_nil, or_false] at he
    rcases he with rfl | rfl | rfl | rfl | rfl | rfl | rfl | rfl
    · exact tE_in (t := .node 3 [] 0 []) rfl o3
    · exact tE_in (t := .node 4 [] 0 []) rfl o4
    · exact ⟨At_two (e := tE any) (f := tE any) k2 (tE_in rfl ok_any) (tE_in rfl ok_any) k2.lt, ok_tup _, Nat.le_refl _, (show 2 ≤ maxLen by decide)⟩
    · exact ⟨At_three (e := tE any) (f := tE any) (h := tE any) k3 (tE_in rfl ok_any) (tE_in rfl ok_any) (tE_in rfl ok_any) k3.lt, ok_tup _, Nat.le_refl _, (show 3 ≤ maxLen by decide)⟩
    · exact tE_in rfl ok_T
    · exact tE_in rfl oN
    · exact tE_in rfl oE
    · exact ⟨At_single (p := any) k7 rfl (.nil _) ok_any (Nat.le_refl _) (by decide) k7.lt, oC, Nat.le_refl _, (show 1 ≤ maxLen by decide)⟩
  have HR8 := Lib.hid (And.intro hR8 hww14)
  have HW14 := Lib.hid (And.intro hw14 hgl)
  clear hs1 hs2 hs3 hs4 hs5 hs6 hs7 hs8 hs9 hs10 hs11 hs12 hs13 hs14 h12_14 h7_14 h3_14 hww14 k2 k3 k7 hR8 hb2 hbw3 hb4 hb5 hb6 hbw7 hb8 hb9 hb10 hb11 hbw12 hb13 hb14 hB14 hBw3 hBw7 hBw12 hw14 hgl
  go_upto_region 2 with fail
  clear hw3 hw7 hw12 hg2 hg3 hg7
  (try rw [HW14.out.2])
  (try rw [HW14.out.1])
  clear HW14
  obtain ⟨Aa, ca, ta, hta, hina, z0, z1, z2, z3⟩ := HR8.out.1.get hi8
  obtain ⟨pa, hpa⟩ : ∃ p, lFn i = p := ⟨_, rfl⟩
  rw [hpa] at hta hina z0 z1 z2
  have hmod := HIJ.out.1
  obtain ⟨w15, hw15⟩ : ∃ W, w14.alloc (.cells #[.int .u8 (pa.k : Int), .string (str pa.nm), .int .i64 pa.n, .slice Aa ta ca] 40) = W := ⟨_, rfl⟩
  have hbw15 : Below w14.heap.size w14 w15 := by rw [← hw15]; exact (Below.refl _ _).alloc (Nat.le_refl _) _
  have hBw15 : Blk w15 w14.heap.size 40 #[.int .u8 (pa.k : Int), .string (str pa.nm), .int .i64 pa.n, .slice Aa ta ca] := by rw [← hw15]; exact Blk.new _ _ _
  obtain ⟨qa, hqa⟩ : ∃ g, w14.heap.size = g := ⟨_, rfl⟩
  rw [hqa] at hBw15
  have HZa := Lib.hid (And.intro hpa (And.intro hta (And.intro hina (And.intro hbw15 (And.intro hBw15 hqa)))))
  have HWw15 := Lib.hid (And.intro hqa hw15)
  clear hpa hta hina hbw15 hBw15 hqa hw15
  go_upto_region 3 with fail
  (try rw [HWw15.out.1])
  (try rw [HWw15.out.2])
  clear z0 z1 z2 z3 hmod
  obtain ⟨Ab, cb, tb, htb, hinb, z0', z1', z2', z3'⟩ := HR8.out.1.get hj8
  have z0 := (HZa.out.2.2.2.1.cell (p := ⟨gl, _, none⟩) HR8.out.1.blk.lt).trans z0'
  have z1 := (HZa.out.2.2.2.1.cell (p := ⟨gl, _, none⟩) HR8.out.1.blk.lt).trans z1'
  have z2 := (HZa.out.2.2.2.1.cell (p := ⟨gl, _, none⟩) HR8.out.1.blk.lt).trans z2'
  have z3 := (HZa.out.2.2.2.1.cell (p := ⟨gl, _, none⟩) HR8.out.1.blk.lt).trans z3'
  clear z0' z1' z2' z3'
  obtain ⟨pb, hpb⟩ : ∃ p, lFn j = p := ⟨_, rfl⟩
  rw [hpb] at htb hinb z0 z1 z2
  have hmod := HIJ.out.2.1
  obtain ⟨w16, hw16⟩ : ∃ W, w15.alloc (.cells #[.int .u8 (pb.k : Int), .string (str pb.nm), .int .i64 pb.n, .slice Ab tb cb] 40) = W := ⟨_, rfl⟩
  have hbw16 : Below w15.heap.size w15 w16 := by rw [← hw16]; exact (Below.refl _ _).alloc (Nat.le_refl _) _
  have hBw16 : Blk w16 w15.heap.size 40 #[.int .u8 (pb.k : Int), .string (str pb.nm), .int .i64 pb.n, .slice Ab tb cb] := by rw [← hw16]; exact Blk.new _ _ _
  obtain ⟨qb, hqb⟩ : ∃ g, w15.heap.size = g := ⟨_, rfl⟩
  rw [hqb] at hBw16
  have HZb := Lib.hid (And.intro hpb (And.intro htb (And.intro hinb (And.intro hbw16 (And.intro hBw16 hqb)))))
  have HWw16 := Lib.hid (And.intro hqb hw16)
  clear hpb htb hinb hbw16 hBw16 hqb hw16
  go_upto_region 4 with fail
  (try rw [HWw16.out.1])
  (try rw [HWw16.out.2])
  clear z0 z1 z2 z3 hmod
  go_wp2_with fail
  refine (wild_any w16).mono ?_
  rintro e w17 ⟨rfl, hb17⟩
  obtain ⟨w18, hw18⟩ : ∃ W, w17.alloc (.cells #[.int .u8 1, .string ⟨#[]⟩, .int .i64 0, .slice none 0 0] 40) = W := ⟨_, rfl⟩
  have hb18 : Below w17.heap.size w17 w18 := by rw [← hw18]; exact (Below.refl _ _).alloc (Nat.le_refl _) _
  have hB18 : Blk w18 w17.heap.size 40 #[.int .u8 1, .string ⟨#[]⟩, .int .i64 0, .slice none 0 0] := by rw [← hw18]; exact Blk.new _ _ _
  have hn18 : w18.heap.size = w17.heap.size + 1 := by rw [← hw18]; simp
  obtain ⟨gc, hgc⟩ : ∃ g, w17.heap.size = g := ⟨_, rfl⟩
  rw [hgc] at hB18 hn18
  go_wp2_with fail
  refine (con_any ⟨#[116, 114, 117, 101]⟩ (some ⟨gc, 0, none⟩) 1 1 w18).mono ?_
  rintro e w19 ⟨rfl, hb19⟩
  clear hw18
  obtain ⟨w20, hw20⟩ : ∃ W, w19.alloc (.cells #[.int .u8 6, .string ⟨#[116, 114, 117, 101]⟩, .int .i64 0, .slice (some ⟨gc, 0, none⟩) 1 1] 40) = W := ⟨_, rfl⟩
  have hb20 : Below w19.heap.size w19 w20 := by rw [← hw20]; exact (Below.refl _ _).alloc (Nat.le_refl _) _
  have hB20 : Blk w20 w19.heap.size 40 #[.int .u8 6, .string ⟨#[116, 114, 117, 101]⟩, .int .i64 0, .slice (some ⟨gc, 0, none⟩) 1 1] := by rw [← hw20]; exact Blk.new _ _ _
  have hn20 : w20.heap.size = w19.heap.size + 1 := by rw [← hw20]; simp
  obtain ⟨qc, hqc⟩ : ∃ g, w19.heap.size = g := ⟨_, rfl⟩
  rw [hqc] at hB20 hn20
  have HC := Lib.hid (And.intro hb17 (And.intro hb18 (And.intro hB18 (And.intro hb19 (And.intro hb20 (And.intro hB20 (And.intro hqc (And.intro hgc (And.intro hn18 hn20)))))))))
  have HW20 := Lib.hid (And.intro hqc hw20)
  clear hb17 hb18 hB18 hb19 hb20 hB20 hqc hw20 hgc hn18 hn20
  go_upto_region 5 with fail
  (try rw [HW20.out.1])
  (try rw [HW20.out.2])
  clear HW20
  go_wp2_with fail
  refine (con_any ⟨#[83, 111, 109, 101]⟩ none 0 0 w20).mono ?_
  rintro e w21 ⟨rfl, hb21⟩
  obtain ⟨w22, hw22⟩ : ∃ W, w21.alloc (.cells #[.int .u8 6, .string ⟨#[83, 111, 109, 101]⟩, .int .i64 0, .slice none 0 0] 40) = W := ⟨_, rfl⟩
  have hb22 : Below w21.heap.size w21 w22 := by rw [← hw22]; exact (Below.refl _ _).alloc (Nat.le_refl _) _
  have hB22 : Blk w22 w21.heap.size 40 #[.int .u8 6, .string ⟨#[83, 111, 109, 101]⟩, .int .i64 0, .slice none 0 0] := by rw [← hw22]; exact Blk.new _ _ _
  have hn22 : w22.heap.size = w21.heap.size + 1 := by rw [← hw22]; simp
  obtain ⟨qd, hqd⟩ : ∃ g, w21.heap.size = g := ⟨_, rfl⟩
  rw [hqd] at hB22 hn22
  have HD := Lib.hid (And.intro hb21 (And.intro hb22 (And.intro hB22 (And.intro hqd hn22))))
  have HW22 := Lib.hid (And.intro hqd hw22)
  clear hb21 hb22 hB22 hqd hw22 hn22
  go_upto_region 6 with fail
  (try rw [HW22.out.1])
  (try rw [HW22.out.2])
  clear HW22
  go_wp2_with fail
  refine (con_any ⟨#[90]⟩ none 0 0 w22).mono ?_
  rintro e w23 ⟨rfl, hb23⟩
  obtain ⟨w24, hw24⟩ : ∃ W, w23.alloc (.cells #[.int .u8 6, .string ⟨#[90]⟩, .int .i64 0, .slice none 0 0] 40) = W := ⟨_, rfl⟩
  have hb24 : Below w23.heap.size w23 w24 := by rw [← hw24]; exact (Below.refl _ _).alloc (Nat.le_refl _) _
  have hB24 : Blk w24 w23.heap.size 40 #[.int .u8 6, .string ⟨#[90]⟩, .int .i64 0, .slice none 0 0] := by rw [← hw24]; exact Blk.new _ _ _
  have hn24 : w24.heap.size = w23.heap.size + 1 := by rw [← hw24]; simp
  obtain ⟨qz, hqz⟩ : ∃ g, w23.heap.size = g := ⟨_, rfl⟩
  rw [hqz] at hB24 hn24
  have HW24 := Lib.hid (And.intro hqz hw24)
  have HP : Hid (FtP w w24 qa qb qc qd qz (lFn i) (lFn j) cF dF zF) := Lib.hid (by
    obtain ⟨epa, eta, eina, hb15, hB15, eqa⟩ := HZa.out
    obtain ⟨epb, etb, einb, hb16, hB16, eqb⟩ := HZb.out
    obtain ⟨hb17, hb18, hB18, hb19, hb20, hB20, eqc, egc, hn18, hn20⟩ := HC.out
    obtain ⟨hb21, hb22, hB22, eqd, hn22⟩ := HD.out
    have s14 := HR8.out.2.size
    have s15 := hb15.size
    have s16 := hb16.size
    have s17 := hb17.size
    have s19 := hb19.size
    have s21 := hb21.size
    have s23 := hb23.size
    have l15 := hB15.lt
    have l16 := hB16.lt
    have x22 : Below w22.heap.size w22 w24 := hb23.trans (hb24.mono s23)
    have x20 : Below w20.heap.size w20 w24 := hb21.trans ((hb22.trans (x22.mono (by omega))).mono s21)
    have x18 : Below w18.heap.size w18 w24 := hb19.trans ((hb20.trans (x20.mono (by omega))).mono s19)
    have x16 : Below w16.heap.size w16 w24 := hb17.trans ((hb18.trans (x18.mono (by omega))).mono s17)
    have x15 : Below w15.heap.size w15 w24 := hb16.trans (x16.mono s16)
    have x14 : Below w14.heap.size w14 w24 := hb15.trans (x15.mono s15)
    have okc : cF.ok := ⟨by decide, by decide, by decide⟩
    have hx : ∀ b, X5 qa qb qc qd qz b → qa ≤ b := fun b hb => by unfold X5 at hb; omega
    refine ⟨HR8.out.2.trans (x14.mono s14), by omega, ⟨Aa, ca, ta, hB15.below x15 l15 |> fun h => by rw [epa]; exact h, by rw [epa]; exact eta, by rw [epa]; exact (eina.bel x14).mono fun b hb h2 => by have := hx b h2; omega⟩, ⟨Ab, cb, tb, hB16.below x16 l16 |> fun h => by rw [epb]; exact h, by rw [epb]; exact etb, by rw [epb]; exact (einb.bel x14).mono fun b hb h2 => by have := hx b h2; omega⟩, ⟨some ⟨gc, 0, none⟩, 1, 1, hB20.below x20 hB20.lt, rfl, ⟨(At_single (F := fun b => b = gc) (p := any) hB18 rfl (.nil _) ok_any (Nat.le_refl _) (by decide) rfl).bel x18 |>.mono fun b hb h2 => by unfold X5 at h2; omega, okc, Nat.le_refl _, (show 1 ≤ maxLen by decide)⟩⟩, ⟨none, 0, 0, hB22.below x22 hB22.lt, rfl, tE_in (t := dF) rfl ⟨by decide, by decide, by decide⟩⟩, ⟨none, 0, 0, hB24, rfl, tE_in (t := zF) rfl ⟨by decide, by decide, by decide⟩⟩⟩)
  clear hb23 hb24 hB24 hqz hw24 hn24 HZa HZb HC HD HWw15 HWw16
  go_upto_region 7 with fail
  (try rw [HW24.out.1])
  (try rw [HW24.out.2])
  clear HW24
  go_wp2_with fail
  go_loopw [13] (fun kv wr => ∃ k : Nat, k ≤ dm ∧ kv = .int .i64 (k : Int) ∧ Hid (FtP w wr qa qb qc qd qz (itF someT k (lFn i)) (itF someT k (lFn j)) (itF (fun c => tup [any, c]) k cF) (itF someT k dF) (itF someT k zF))) (fun kv _ => dm - (intOf kv).toNat)
  case atStart => exact ⟨0, Nat.zero_le _, rfl, HP⟩
  case round =>
    clear HP
    obtain ⟨k, hk, rfl, hX⟩ := hrel
    have hdmm := HIJ.out.2.2
    by_cases hlk : k < dm
    · have hd : decide ((k : Int) < (dm : Int)) = true := by simpa using hlk
      obtain ⟨pa, hpa⟩ : ∃ p, itF someT k (lFn i) = p := ⟨_, rfl⟩
      obtain ⟨pb, hpb⟩ : ∃ p, itF someT k (lFn j) = p := ⟨_, rfl⟩
      obtain ⟨pc, hpc⟩ : ∃ p, itF (fun c => tup [any, c]) k cF = p := ⟨_, rfl⟩
      obtain ⟨pd, hpd⟩ : ∃ p, itF someT k dF = p := ⟨_, rfl⟩
      obtain ⟨pz, hpz⟩ : ∃ p, itF someT k zF = p := ⟨_, rfl⟩
      rw [hpa, hpb, hpc, hpd, hpz] at hX
      have HF0 := hX
      have HPX := Lib.hid (And.intro hpa (And.intro hpb (And.intro hpc (And.intro hpd hpz))))
      clear hX hpa hpb hpc hpd hpz
      go_upto_region 10 with fail
      clear hdmm
      obtain ⟨Ax, cx, tx, hBx⟩ := HF0.out.ba
      have y0 := hBx.blk.cell 0
      have y1 := hBx.blk.cell 1
      have y2 := hBx.blk.cell 2
      have y3 := hBx.blk.cell 3
      simp only [List.getElem?_toArray, List.getElem?_cons_zero, List.getElem?_cons_succ] at y0 y1 y2 y3
      obtain ⟨u1, hu1⟩ : ∃ u, wr.alloc (.cells #[.int .u8 (pa.k : Int), .string (str pa.nm), .int .i64 pa.n, .slice Ax tx cx] 40) = u := ⟨_, rfl⟩
      have hsx : Below wr.heap.size wr u1 := by rw [← hu1]; exact (Below.refl _ _).alloc (Nat.le_refl _) _
      have hBx1 : Blk u1 wr.heap.size 40 #[.int .u8 (pa.k : Int), .string (str pa.nm), .int .i64 pa.n, .slice Ax tx cx] := by rw [← hu1]; exact Blk.new _ _ _
      have HV := Lib.hid (And.intro hsx (And.intro hBx1 hBx))
      clear hsx hBx1 hBx
      go_wp2_with fail
      refine (con_any ⟨#[83, 111, 109, 101]⟩ (some ⟨wr.heap.size, 0, none⟩) 1 1 u1).mono ?_
      rintro e u2 ⟨rfl, hsy⟩
      clear y0 y1 y2 y3 hu1
      obtain ⟨v1, hv1⟩ : ∃ u, (((u2.setCell ⟨qa, 0, none⟩ (.int .u8 6)).setCell ⟨qa, 1, none⟩ (.string ⟨#[83, 111, 109, 101]⟩)).setCell ⟨qa, 2, none⟩ (.int .i64 0)).setCell ⟨qa, 3, none⟩ (.slice (some ⟨wr.heap.size, 0, none⟩) 1 1) = u := ⟨_, rfl⟩
      have hu02 : Below wr.heap.size wr u2 := HV.out.1.trans (hsy.mono HV.out.1.size)
      have hP2 := HF0.out.next hu02
      have hBq := HV.out.2.2.bel hu02
      have x0 := hBq.blk.cell 0
      have x1 := hBq.blk.cell 1
      have x2 := hBq.blk.cell 2
      have x3 := hBq.blk.cell 3
      have xf := hBq.blk.frozen
      simp only [List.getElem?_toArray, List.getElem?_cons_zero, List.getElem?_cons_succ] at x0 x1 x2 x3
      have HF1 : Hid (FtP w v1 qa qb qc qd qz (someT pa) pb pc pd pz) := Lib.hid (hP2.set_a (someT pa) (some ⟨wr.heap.size, 0, none⟩) 1 1 rfl ⟨(HV.out.2.2.one HV.out.1 HV.out.2.1 (HF0.out.new (Nat.le_refl _))).bel hsy, ok_some _, Nat.le_refl _, (show 1 ≤ maxLen by decide)⟩ hv1)
      have HW := Lib.hid hv1
      clear hsy hu02 hP2 hBq HV hv1 HF0
      go_upto_region 11 with fail
      (try rw [HW.out])
      clear HW x0 x1 x2 x3 xf
      obtain ⟨Ax, cx, tx, hBx⟩ := HF1.out.bb
      have y0 := hBx.blk.cell 0
      have y1 := hBx.blk.cell 1
      have y2 := hBx.blk.cell 2
      have y3 := hBx.blk.cell 3
      simp only [List.getElem?_toArray, List.getElem?_cons_zero, List.getElem?_cons_succ] at y0 y1 y2 y3
      obtain ⟨u1, hu1⟩ : ∃ u, v1.alloc (.cells #[.int .u8 (pb.k : Int), .string (str pb.nm), .int .i64 pb.n, .slice Ax tx cx] 40) = u := ⟨_, rfl⟩
      have hsx : Below v1.heap.size v1 u1 := by rw [← hu1]; exact (Below.refl _ _).alloc (Nat.le_refl _) _
      have hBx1 : Blk u1 v1.heap.size 40 #[.int .u8 (pb.k : Int), .string (str pb.nm), .int .i64 pb.n, .slice Ax tx cx] := by rw [← hu1]; exact Blk.new _ _ _
      have HV := Lib.hid (And.intro hsx (And.intro hBx1 hBx))
      clear hsx hBx1 hBx
      go_wp2_with fail
      refine (con_any ⟨#[83, 111, 109, 101]⟩ (some ⟨v1.heap.size, 0, none⟩) 1 1 u1).mono ?_
      rintro e u2 ⟨rfl, hsy⟩
      clear y0 y1 y2 y3 hu1
      obtain ⟨v2, hv2⟩ : ∃ u, (((u2.setCell ⟨qb, 0, none⟩ (.int .u8 6)).setCell ⟨qb, 1, none⟩ (.string ⟨#[83, 111, 109, 101]⟩)).setCell ⟨qb, 2, none⟩ (.int .i64 0)).setCell ⟨qb, 3, none⟩ (.slice (some ⟨v1.heap.size, 0, none⟩) 1 1) = u := ⟨_, rfl⟩
      have hu02 : Below v1.heap.size v1 u2 := HV.out.1.trans (hsy.mono HV.out.1.size)
      have hP2 := HF1.out.next hu02
      have hBq := HV.out.2.2.bel hu02
      have x0 := hBq.blk.cell 0
      have x1 := hBq.blk.cell 1
      have x2 := hBq.blk.cell 2
      have x3 := hBq.blk.cell 3
      have xf := hBq.blk.frozen
      simp only [List.getElem?_toArray, List.getElem?_cons_zero, List.getElem?_cons_succ] at x0 x1 x2 x3
      have HF2 : Hid (FtP w v2 qa qb qc qd qz (someT pa) (someT pb) pc pd pz) := Lib.hid (hP2.set_b (someT pb) (some ⟨v1.heap.size, 0, none⟩) 1 1 rfl ⟨(HV.out.2.2.one HV.out.1 HV.out.2.1 (HF1.out.new (Nat.le_refl _))).bel hsy, ok_some _, Nat.le_refl _, (show 1 ≤ maxLen by decide)⟩ hv2)
      have HW := Lib.hid hv2
      clear hsy hu02 hP2 hBq HV hv2 HF1
      go_upto_region 12 with fail
      (try rw [HW.out])
      clear HW x0 x1 x2 x3 xf
      obtain ⟨Ax, cx, tx, hBx⟩ := HF2.out.bc
      have y0 : v2.cell? ⟨qc, 0, none⟩ = some (.int .u8 (pc.k : Int)) := hBx.blk.cell 0
      have y1 : v2.cell? ⟨qc, 1, none⟩ = some (.string (str pc.nm)) := hBx.blk.cell 1
      have y2 : v2.cell? ⟨qc, 2, none⟩ = some (.int .i64 pc.n) := hBx.blk.cell 2
      have y3 : v2.cell? ⟨qc, 3, none⟩ = some (.slice Ax tx cx) := hBx.blk.cell 3
      have HBX := Lib.hid hBx
      clear hBx
      go_cut [75] from 72 to 75 (fun _ wx => Hid (FtP w wx qa qb qc qd qz (someT pa) (someT pb) (tup [any, pc]) pd pz))
      case first =>
        go_region_with (go_at_call 18; refine Calls.mono (wild_any v2.drew) ?_; rintro e u1 ⟨rfl, hk1⟩; obtain ⟨u2, hu2⟩ : ∃ u, u1.alloc (.cells #[.int .u8 1, .string ⟨#[]⟩, .int .i64 0, .slice none 0 0, .int .u8 (pc.k : Int), .string (str pc.nm), .int .i64 pc.n, .slice Ax tx cx] 40) = u := ⟨_, rfl⟩; have hk2 : Below u1.heap.size u1 u2 := (by rw [← hu2]; exact (Below.refl _ _).alloc (Nat.le_refl _) _); have hK2 : Blk u2 u1.heap.size 40 #[.int .u8 1, .string ⟨#[]⟩, .int .i64 0, .slice none 0 0, .int .u8 (pc.k : Int), .string (str pc.nm), .int .i64 pc.n, .slice Ax tx cx] := (by rw [← hu2]; exact Blk.new _ _ _); have hw2 : Below v2.heap.size v2 u2 := ((Below.refl _ v2).drew.trans hk1).trans (hk2.mono ((Below.refl _ v2).drew.trans hk1).size); have hq2 := HBX.out.bel hw2; have t0 : u1.cell? ⟨qc, 0, none⟩ = some (.int .u8 (pc.k : Int)) := (HBX.out.bel ((Below.refl _ v2).drew.trans hk1)).blk.cell 0; have t1 : u1.cell? ⟨qc, 1, none⟩ = some (.string (str pc.nm)) := (HBX.out.bel ((Below.refl _ v2).drew.trans hk1)).blk.cell 1; have t2 : u1.cell? ⟨qc, 2, none⟩ = some (.int .i64 pc.n) := (HBX.out.bel ((Below.refl _ v2).drew.trans hk1)).blk.cell 2; have t3 : u1.cell? ⟨qc, 3, none⟩ = some (.slice Ax tx cx) := (HBX.out.bel ((Below.refl _ v2).drew.trans hk1)).blk.cell 3; have x0 : u2.cell? ⟨qc, 0, none⟩ = some (.int .u8 (pc.k : Int)) := hq2.blk.cell 0; have x1 : u2.cell? ⟨qc, 1, none⟩ = some (.string (str pc.nm)) := hq2.blk.cell 1; have x2 : u2.cell? ⟨qc, 2, none⟩ = some (.int .i64 pc.n) := hq2.blk.cell 2; have x3 : u2.cell? ⟨qc, 3, none⟩ = some (.slice Ax tx cx) := hq2.blk.cell 3; have xf := hq2.blk.frozen)
        all_goals
          have hP2 := HF2.out.next hw2
          have hin : Te.in_ (fun b => ¬ X5 qa qb qc qd qz b) u2 ⟨tup [any, pc], some ⟨u1.heap.size, 0, none⟩, 2⟩ := ⟨At_two (e := tE any) (f := ⟨pc, Ax, cx⟩) (by have := hK2; rw [← HBX.out.len] at this; exact this) (tE_in rfl ok_any) (HBX.out.in_.bel hw2) (HF2.out.new ((Below.refl _ v2).drew.trans hk1).size), ok_tup _, Nat.le_refl _, (show 2 ≤ maxLen by decide)⟩
          have HN : Hid (FtP w ((((u2.setCell ⟨qc, 0, none⟩ (.int .u8 5)).setCell ⟨qc, 1, none⟩ (.string ⟨#[]⟩)).setCell ⟨qc, 2, none⟩ (.int .i64 0)).setCell ⟨qc, 3, none⟩ (.slice (some ⟨u1.heap.size, 0, none⟩) 2 2)) qa qb qc qd qz (someT pa) (someT pb) (tup [any, pc]) pd pz) := Lib.hid (hP2.set_c (tup [any, pc]) (some ⟨u1.heap.size, 0, none⟩) 2 2 rfl hin rfl)
          clear hP2 hin hk1 hk2 hK2 hw2 hq2 t0 t1 t2 t3 x0 x1 x2 x3 xf
          go_wp2_with fail
          go_meet
          exact HN
      case rest =>
        have HF3 := hcut
        obtain ⟨v3, rfl⟩ : ∃ v3, v3 = wc := ⟨_, rfl⟩
        clear y0 y1 y2 y3 HBX hcut HF2
        obtain ⟨Ax, cx, tx, hBx⟩ := HF3.out.bd
        have y0 := hBx.blk.cell 0
        have y1 := hBx.blk.cell 1
        have y2 := hBx.blk.cell 2
        have y3 := hBx.blk.cell 3
        simp only [List.getElem?_toArray, List.getElem?_cons_zero, List.getElem?_cons_succ] at y0 y1 y2 y3
        obtain ⟨u1, hu1⟩ : ∃ u, v3.alloc (.cells #[.int .u8 (pd.k : Int), .string (str pd.nm), .int .i64 pd.n, .slice Ax tx cx] 40) = u := ⟨_, rfl⟩
        have hsx : Below v3.heap.size v3 u1 := by rw [← hu1]; exact (Below.refl _ _).alloc (Nat.le_refl _) _
        have hBx1 : Blk u1 v3.heap.size 40 #[.int .u8 (pd.k : Int), .string (str pd.nm), .int .i64 pd.n, .slice Ax tx cx] := by rw [← hu1]; exact Blk.new _ _ _
        have HV := Lib.hid (And.intro hsx (And.intro hBx1 hBx))
        clear hsx hBx1 hBx
        go_wp2_with fail
        refine (con_any ⟨#[83, 111, 109, 101]⟩ (some ⟨v3.heap.size, 0, none⟩) 1 1 u1).mono ?_
        rintro e u2 ⟨rfl, hsy⟩
        clear y0 y1 y2 y3 hu1
        obtain ⟨v4, hv4⟩ : ∃ u, (((u2.setCell ⟨qd, 0, none⟩ (.int .u8 6)).setCell ⟨qd, 1, none⟩ (.string ⟨#[83, 111, 109, 101]⟩)).setCell ⟨qd, 2, none⟩ (.int .i64 0)).setCell ⟨qd, 3, none⟩ (.slice (some ⟨v3.heap.size, 0, none⟩) 1 1) = u := ⟨_, rfl⟩
        have hu02 : Below v3.heap.size v3 u2 := HV.out.1.trans (hsy.mono HV.out.1.size)
        have hP2 := HF3.out.next hu02
        have hBq := HV.out.2.2.bel hu02
        have x0 := hBq.blk.cell 0
        have x1 := hBq.blk.cell 1
        have x2 := hBq.blk.cell 2
        have x3 := hBq.blk.cell 3
        have xf := hBq.blk.frozen
        simp only [List.getElem?_toArray, List.getElem?_cons_zero, List.getElem?_cons_succ] at x0 x1 x2 x3
        have HF4 : Hid (FtP w v4 qa qb qc qd qz (someT pa) (someT pb) (tup [any, pc]) (someT pd) pz) := Lib.hid (hP2.set_d (someT pd) (some ⟨v3.heap.size, 0, none⟩) 1 1 rfl ⟨(HV.out.2.2.one HV.out.1 HV.out.2.1 (HF3.out.new (Nat.le_refl _))).bel hsy, ok_some _, Nat.le_refl _, (show 1 ≤ maxLen by decide)⟩ hv4)
        have HW := Lib.hid hv4
        clear hsy hu02 hP2 hBq HV hv4 HF3
        go_upto_region 14 with fail
        (try rw [HW.out])
        clear HW x0 x1 x2 x3 xf
        obtain ⟨Ax, cx, tx, hBx⟩ := HF4.out.bz
        have y0 := hBx.blk.cell 0
        have y1 := hBx.blk.cell 1
        have y2 := hBx.blk.cell 2
        have y3 := hBx.blk.cell 3
        simp only [List.getElem?_toArray, List.getElem?_cons_zero, List.getElem?_cons_succ] at y0 y1 y2 y3
        obtain ⟨u1, hu1⟩ : ∃ u, v4.alloc (.cells #[.int .u8 (pz.k : Int), .string (str pz.nm), .int .i64 pz.n, .slice Ax tx cx] 40) = u := ⟨_, rfl⟩
        have hsx : Below v4.heap.size v4 u1 := by rw [← hu1]; exact (Below.refl _ _).alloc (Nat.le_refl _) _
        have hBx1 : Blk u1 v4.heap.size 40 #[.int .u8 (pz.k : Int), .string (str pz.nm), .int .i64 pz.n, .slice Ax tx cx] := by rw [← hu1]; exact Blk.new _ _ _
        have HV := Lib.hid (And.intro hsx (And.intro hBx1 hBx))
        clear hsx hBx1 hBx
        go_wp2_with fail
        refine (con_any ⟨#[83, 111, 109, 101]⟩ (some ⟨v4.heap.size, 0, none⟩) 1 1 u1).mono ?_
        rintro e u2 ⟨rfl, hsy⟩
        clear y0 y1 y2 y3 hu1
        obtain ⟨v5, hv5⟩ : ∃ u, (((u2.setCell ⟨qz, 0, none⟩ (.int .u8 6)).setCell ⟨qz, 1, none⟩ (.string ⟨#[83, 111, 109, 101]⟩)).setCell ⟨qz, 2, none⟩ (.int .i64 0)).setCell ⟨qz, 3, none⟩ (.slice (some ⟨v4.heap.size, 0, none⟩) 1 1) = u := ⟨_, rfl⟩
        have hu02 : Below v4.heap.size v4 u2 := HV.out.1.trans (hsy.mono HV.out.1.size)
        have hP2 := HF4.out.next hu02
        have hBq := HV.out.2.2.bel hu02
        have x0 := hBq.blk.cell 0
        have x1 := hBq.blk.cell 1
        have x2 := hBq.blk.cell 2
        have x3 := hBq.blk.cell 3
        have xf := hBq.blk.frozen
        simp only [List.getElem?_toArray, List.getElem?_cons_zero, List.getElem?_cons_succ] at x0 x1 x2 x3
        have HF5 : Hid (FtP w v5 qa qb qc qd qz (someT pa) (someT pb) (tup [any, pc]) (someT pd) (someT pz)) := Lib.hid (hP2.set_z (someT pz) (some ⟨v4.heap.size, 0, none⟩) 1 1 rfl ⟨(HV.out.2.2.one HV.out.1 HV.out.2.1 (HF4.out.new (Nat.le_refl _))).bel hsy, ok_some _, Nat.le_refl _, (show 1 ≤ maxLen by decide)⟩ hv5)
        have HW := Lib.hid hv5
        clear hsy hu02 hP2 hBq HV hv5 HF4
        go_upto_region 9 with fail
        (try rw [HW.out])
        clear HW x0 x1 x2 x3 xf
        have HN : Hid (FtP w v5 qa qb qc qd qz (itF someT (k + 1) (lFn i)) (itF someT (k + 1) (lFn j)) (itF (fun c => tup [any, c]) (k + 1) cF) (itF someT (k + 1) dF) (itF someT (k + 1) zF)) := Lib.hid (by
          show FtP w v5 qa qb qc qd qz (someT (itF someT k (lFn i))) (someT (itF someT k (lFn j))) (tup [any, itF (fun c => tup [any, c]) k cF]) (someT (itF someT k dF)) (someT (itF someT k zF))
          rw [HPX.out.1, HPX.out.2.1, HPX.out.2.2.1, HPX.out.2.2.2.1, HPX.out.2.2.2.2]
          exact HF5.out)
        go_wp2_with fail
        go_roundw
        case rel => exact ⟨k + 1, by omega, by go_num, HN⟩
        case measure => simp [intOf]; omega
    · obtain rfl : k = dm := by omega
      have hd : decide ((k : Int) < (k : Int)) = false := by simp
      obtain ⟨pa, hpa⟩ : ∃ p, itF someT k (lFn i) = p := ⟨_, rfl⟩
      obtain ⟨pb, hpb⟩ : ∃ p, itF someT k (lFn j) = p := ⟨_, rfl⟩
      obtain ⟨pc, hpc⟩ : ∃ p, itF (fun c => tup [any, c]) k cF = p := ⟨_, rfl⟩
      obtain ⟨pd, hpd⟩ : ∃ p, itF someT k dF = p := ⟨_, rfl⟩
      obtain ⟨pz, hpz⟩ : ∃ p, itF someT k zF = p := ⟨_, rfl⟩
      have hE := fits_e i hi8 j hj8 k hd9
      have hF := fits_f k hd9
      have hG := fits_g k hd9
      have hH := fits_h i hi8 j hj8 k hd9
      rw [hpa, hpb] at hE
      rw [hpc] at hF
      rw [hpd] at hG
      rw [hpa, hpb, hpz] at hH
      rw [hpa, hpb, hpc, hpd, hpz] at hX
      have HF0 := hX
      have HT := Lib.hid (And.intro hF (And.intro hG hH))
      clear hX hpa hpb hpc hpd hpz hF hG hH
      by_cases hij : i = j
      · rw [if_pos hij] at hE
        have HE := Lib.hid hE
        have HIJE := Lib.hid hij
        clear hE hij
        obtain ⟨A0, c0, t0, h0⟩ := HF0.out.ba
        obtain ⟨A1, c1, t1, h1⟩ := HF0.out.bb
        have HX : Hid (∀ V : World, Below wr.heap.size wr V → V.cell? ⟨qa, 0, none⟩ = some (.int .u8 (pa.k : Int)) ∧ V.cell? ⟨qa, 1, none⟩ = some (.string (str pa.nm)) ∧ V.cell? ⟨qa, 2, none⟩ = some (.int .i64 pa.n) ∧ V.cell? ⟨qa, 3, none⟩ = some (.slice A0 t0 c0) ∧ V.cell? ⟨qb, 0, none⟩ = some (.int .u8 (pb.k : Int)) ∧ V.cell? ⟨qb, 1, none⟩ = some (.string (str pb.nm)) ∧ V.cell? ⟨qb, 2, none⟩ = some (.int .i64 pb.n) ∧ V.cell? ⟨qb, 3, none⟩ = some (.slice A1 t1 c1)) := Lib.hid fun V hV => ⟨(h0.bel hV).blk.cell 0, (h0.bel hV).blk.cell 1, (h0.bel hV).blk.cell 2, (h0.bel hV).blk.cell 3, (h1.bel hV).blk.cell 0, (h1.bel hV).blk.cell 1, (h1.bel hV).blk.cell 2, (h1.bel hV).blk.cell 3⟩
        have HCK : Hid (∀ (V : World) (g : Nat) (B : Option Addr), Below wr.heap.size wr V → Blk V g 40 #[.int .u8 (pa.k : Int), .string (str pa.nm), .int .i64 pa.n, .slice A0 t0 c0, .int .u8 (pb.k : Int), .string (str pb.nm), .int .i64 pb.n, .slice A1 t1 c1] → IAt Everywhere V B 8 8 infosX → Calls Try.prog 11 #[.slice (some ⟨g, 0, none⟩) 2 2, .slice B 8 8, .bool false] V fun e w' => e = .returned (.int .i64 14) ∧ Below V.heap.size V w') := Lib.hid fun V g B hV hB hI => checkI [pa, pb] _ 2 2 B false 4 14 V ⟨rfl, Nat.le_refl _, (by decide), At_two (e := ⟨pa, A0, c0⟩) (f := ⟨pb, A1, c1⟩) (by have := hB; rw [← h0.len] at this; rw [← h1.len] at this; exact this) ((h0.in_.bel hV).mono fun _ _ => trivial) ((h1.in_.bel hV).mono fun _ _ => trivial) trivial⟩ hI HE.out rfl
        clear h0 h1
        go_upto_region 15 with fail
        (try clear hdmm)
        (try clear hijI hbb)
        go_cut [14] from 82 to 86 (fun s wx => s = .int .i64 14 ∧ Hid (Below wr.heap.size wr wx))
        case first =>
          go_region_held3 (fun V => V.cell? ⟨qa, 0, none⟩ = some (.int .u8 (pa.k : Int)) ∧ V.cell? ⟨qa, 1, none⟩ = some (.string (str pa.nm)) ∧ V.cell? ⟨qa, 2, none⟩ = some (.int .i64 pa.n) ∧ V.cell? ⟨qa, 3, none⟩ = some (.slice A0 t0 c0) ∧ V.cell? ⟨qb, 0, none⟩ = some (.int .u8 (pb.k : Int)) ∧ V.cell? ⟨qb, 1, none⟩ = some (.string (str pb.nm)) ∧ V.cell? ⟨qb, 2, none⟩ = some (.int .i64 pb.n) ∧ V.cell? ⟨qb, 3, none⟩ = some (.slice A1 t1 c1))
            (first | with_reducible exact HX.out _ (Below.refl _ wr) | with_reducible exact HX.out _ (Below.refl _ wr).drew | with_reducible exact HX.out _ hk2 | with_reducible exact HX.out _ hk1 | with_reducible exact HX.out _ ((Below.refl _ wr).alloc (Nat.le_refl _) _) | with_reducible exact HX.out _ ((Below.refl _ wr).alloc (Nat.le_refl _) _).drew | with_reducible exact HX.out _ (hk1.alloc hk1.size _))
            (first
              | (go_at_call 16; refine Calls.mono (infos_dr wr (.cells #[.int .u8 (pa.k : Int), .string (str pa.nm), .int .i64 pa.n, .slice A0 t0 c0, .int .u8 (pb.k : Int), .string (str pb.nm), .int .i64 pb.n, .slice A1 t1 c1] 40)) ?_; rintro e u1 ⟨rfl, hI1, hb1⟩; have hk1 : Below wr.heap.size wr u1 := bel_dr hb1; have hBlk := blk_dr hb1)
              | (go_at_call 16; refine Calls.mono (infos_any wr.drew) ?_; rintro e u1 ⟨rfl, hI1, hb1⟩; have hk1 : Below wr.heap.size wr u1 := (Below.refl _ wr).drew.trans hb1; have htok := True.intro)
              | (go_at_call 11; have _t := htok; refine Calls.mono (HCK.out (u1.alloc (.cells #[.int .u8 (pa.k : Int), .string (str pa.nm), .int .i64 pa.n, .slice A0 t0 c0, .int .u8 (pb.k : Int), .string (str pb.nm), .int .i64 pb.n, .slice A1 t1 c1] 40)) u1.heap.size _ (hk1.alloc hk1.size _) (Blk.new u1 _ _) (hI1.bel ((Below.refl _ _).alloc (Nat.le_refl _) _))) ?_; rintro e u2 ⟨rfl, hb2⟩; have hk2 : Below wr.heap.size wr u2 := (hk1.alloc hk1.size _).trans (hb2.mono (by have := hk1.size; simp; omega)))
              | (go_at_call 11; refine Calls.mono (HCK.out u1 wr.heap.size _ hk1 hBlk hI1) ?_; rintro e u2 ⟨rfl, hb2⟩; have hk2 : Below wr.heap.size wr u2 := hk1.trans (hb2.mono hk1.size)))
          all_goals
            have HW := Lib.hid hk2
            clear hk2
            go_wp2_with fail
            go_meet
            exact ⟨rfl, HW⟩
        case rest =>
          obtain ⟨rfl, hcb⟩ := hcut
          obtain ⟨v1, rfl⟩ : ∃ v, v = wc := ⟨_, rfl⟩
          have HF1 := Lib.hid (HF0.out.next hcb.out)
          clear HX HCK hcb
          have hmi := HIJ.out.1
          have hmj := HIJ.out.2.1
          have hijI : (i : Int) = (j : Int) := by have := HIJE.out; omega
          go_upto_region 16 with fail
          go_quiet (fail)
          go_wp2_with (go_at_call 10; refine (works_any _).mono ?_; rintro e w9 ⟨rfl, hb9⟩)
          go_ret
          exact ⟨rfl, HF1.out.bel.trans (((bel_drewN (Below.refl _ v1) nq).trans hb9).mono HF1.out.bel.size)⟩
      · rw [if_neg hij] at hE
        have HE := Lib.hid hE
        have HIJE := Lib.hid hij
        clear hE hij
        obtain ⟨A0, c0, t0, h0⟩ := HF0.out.ba
        obtain ⟨A1, c1, t1, h1⟩ := HF0.out.bb
        have HX : Hid (∀ V : World, Below wr.heap.size wr V → V.cell? ⟨qa, 0, none⟩ = some (.int .u8 (pa.k : Int)) ∧ V.cell? ⟨qa, 1, none⟩ = some (.string (str pa.nm)) ∧ V.cell? ⟨qa, 2, none⟩ = some (.int .i64 pa.n) ∧ V.cell? ⟨qa, 3, none⟩ = some (.slice A0 t0 c0) ∧ V.cell? ⟨qb, 0, none⟩ = some (.int .u8 (pb.k : Int)) ∧ V.cell? ⟨qb, 1, none⟩ = some (.string (str pb.nm)) ∧ V.cell? ⟨qb, 2, none⟩ = some (.int .i64 pb.n) ∧ V.cell? ⟨qb, 3, none⟩ = some (.slice A1 t1 c1)) := Lib.hid fun V hV => ⟨(h0.bel hV).blk.cell 0, (h0.bel hV).blk.cell 1, (h0.bel hV).blk.cell 2, (h0.bel hV).blk.cell 3, (h1.bel hV).blk.cell 0, (h1.bel hV).blk.cell 1, (h1.bel hV).blk.cell 2, (h1.bel hV).blk.cell 3⟩
        have HCK : Hid (∀ (V : World) (g : Nat) (B : Option Addr), Below wr.heap.size wr V → Blk V g 40 #[.int .u8 (pa.k : Int), .string (str pa.nm), .int .i64 pa.n, .slice A0 t0 c0, .int .u8 (pb.k : Int), .string (str pb.nm), .int .i64 pb.n, .slice A1 t1 c1] → IAt Everywhere V B 8 8 infosX → Calls Try.prog 11 #[.slice (some ⟨g, 0, none⟩) 2 2, .slice B 8 8, .bool false] V fun e w' => e = .returned (.int .i64 13) ∧ Below V.heap.size V w') := Lib.hid fun V g B hV hB hI => checkI [pa, pb] _ 2 2 B false 3 13 V ⟨rfl, Nat.le_refl _, (by decide), At_two (e := ⟨pa, A0, c0⟩) (f := ⟨pb, A1, c1⟩) (by have := hB; rw [← h0.len] at this; rw [← h1.len] at this; exact this) ((h0.in_.bel hV).mono fun _ _ => trivial) ((h1.in_.bel hV).mono fun _ _ => trivial) trivial⟩ hI HE.out rfl
        clear h0 h1
        go_upto_region 15 with fail
        (try clear hdmm)
        (try clear hijI hbb)
        go_cut [14] from 82 to 86 (fun s wx => s = .int .i64 13 ∧ Hid (Below wr.heap.size wr wx))
        case first =>
          go_region_held3 (fun V => V.cell? ⟨qa, 0, none⟩ = some (.int .u8 (pa.k : Int)) ∧ V.cell? ⟨qa, 1, none⟩ = some (.string (str pa.nm)) ∧ V.cell? ⟨qa, 2, none⟩ = some (.int .i64 pa.n) ∧ V.cell? ⟨qa, 3, none⟩ = some (.slice A0 t0 c0) ∧ V.cell? ⟨qb, 0, none⟩ = some (.int .u8 (pb.k : Int)) ∧ V.cell? ⟨qb, 1, none⟩ = some (.string (str pb.nm)) ∧ V.cell? ⟨qb, 2, none⟩ = some (.int .i64 pb.n) ∧ V.cell? ⟨qb, 3, none⟩ = some (.slice A1 t1 c1))
            (first | with_reducible exact HX.out _ (Below.refl _ wr) | with_reducible exact HX.out _ (Below.refl _ wr).drew | with_reducible exact HX.out _ hk2 | with_reducible exact HX.out _ hk1 | with_reducible exact HX.out _ ((Below.refl _ wr).alloc (Nat.le_refl _) _) | with_reducible exact HX.out _ ((Below.refl _ wr).alloc (Nat.le_refl _) _).drew | with_reducible exact HX.out _ (hk1.alloc hk1.size _))
            (first
              | (go_at_call 16; refine Calls.mono (infos_dr wr (.cells #[.int .u8 (pa.k : Int), .string (str pa.nm), .int .i64 pa.n, .slice A0 t0 c0, .int .u8 (pb.k : Int), .string (str pb.nm), .int .i64 pb.n, .slice A1 t1 c1] 40)) ?_; rintro e u1 ⟨rfl, hI1, hb1⟩; have hk1 : Below wr.heap.size wr u1 := bel_dr hb1; have hBlk := blk_dr hb1)
              | (go_at_call 16; refine Calls.mono (infos_any wr.drew) ?_; rintro e u1 ⟨rfl, hI1, hb1⟩; have hk1 : Below wr.heap.size wr u1 := (Below.refl _ wr).drew.trans hb1; have htok := True.intro)
              | (go_at_call 11; have _t := htok; refine Calls.mono (HCK.out (u1.alloc (.cells #[.int .u8 (pa.k : Int), .string (str pa.nm), .int .i64 pa.n, .slice A0 t0 c0, .int .u8 (pb.k : Int), .string (str pb.nm), .int .i64 pb.n, .slice A1 t1 c1] 40)) u1.heap.size _ (hk1.alloc hk1.size _) (Blk.new u1 _ _) (hI1.bel ((Below.refl _ _).alloc (Nat.le_refl _) _))) ?_; rintro e u2 ⟨rfl, hb2⟩; have hk2 : Below wr.heap.size wr u2 := (hk1.alloc hk1.size _).trans (hb2.mono (by have := hk1.size; simp; omega)))
              | (go_at_call 11; refine Calls.mono (HCK.out u1 wr.heap.size _ hk1 hBlk hI1) ?_; rintro e u2 ⟨rfl, hb2⟩; have hk2 : Below wr.heap.size wr u2 := hk1.trans (hb2.mono hk1.size)))
          all_goals
            have HW := Lib.hid hk2
            clear hk2
            go_wp2_with fail
            go_meet
            exact ⟨rfl, HW⟩
        case rest =>
          obtain ⟨rfl, hcb⟩ := hcut
          obtain ⟨v1, rfl⟩ : ∃ v, v = wc := ⟨_, rfl⟩
          have HF1 := Lib.hid (HF0.out.next hcb.out)
          clear HX HCK hcb
          have hmi := HIJ.out.1
          have hmj := HIJ.out.2.1
          have hijI : ¬ (i : Int) = (j : Int) := by have := HIJE.out; omega
          have hbb : ((i : Int) == (j : Int)) = false := by simpa using hijI
          go_upto_region 16 with fail
          go_quiet (fail)
          have HF2 := Lib.hid (HF1.out.next (bel_drewN (Below.refl _ v1) nq))
          revert HF2
          generalize v1.drewN nq = v2
          intro HF2
          clear hmi hmj
          (try simp only [hbb])
          obtain ⟨A0, c0, t0, h0⟩ := HF2.out.bc
          have HX : Hid (∀ V : World, Below v2.heap.size v2 V → V.cell? ⟨qc, 0, none⟩ = some (.int .u8 (pc.k : Int)) ∧ V.cell? ⟨qc, 1, none⟩ = some (.string (str pc.nm)) ∧ V.cell? ⟨qc, 2, none⟩ = some (.int .i64 pc.n) ∧ V.cell? ⟨qc, 3, none⟩ = some (.slice A0 t0 c0)) := Lib.hid fun V hV => ⟨(h0.bel hV).blk.cell 0, (h0.bel hV).blk.cell 1, (h0.bel hV).blk.cell 2, (h0.bel hV).blk.cell 3⟩
          have HCK : Hid (∀ (V : World) (g : Nat) (B : Option Addr), Below v2.heap.size v2 V → Blk V g 40 #[.int .u8 (pc.k : Int), .string (str pc.nm), .int .i64 pc.n, .slice A0 t0 c0] → IAt Everywhere V B 8 8 infosX → Calls Try.prog 11 #[.slice (some ⟨g, 0, none⟩) 1 1, .slice B 8 8, .bool false] V fun e w' => e = .returned (.int .i64 13) ∧ Below V.heap.size V w') := Lib.hid fun V g B hV hB hI => checkI [pc] _ 1 1 B false 3 13 V ⟨rfl, Nat.le_refl _, (by decide), At_single (p := pc) hB h0.len ((h0.in_.bel hV).mono fun _ _ => trivial).1 (h0.in_).2.1 (h0.in_).2.2.1 (h0.in_).2.2.2 trivial⟩ hI HT.out.1 rfl
          clear h0
          go_upto_region 18 with fail
          (try clear hdmm)
          (try clear hijI hbb)
          go_cut [15] from 103 to 106 (fun s wx => s = .int .i64 13 ∧ Hid (Below v2.heap.size v2 wx))
          case first =>
            go_region_held3 (fun V => V.cell? ⟨qc, 0, none⟩ = some (.int .u8 (pc.k : Int)) ∧ V.cell? ⟨qc, 1, none⟩ = some (.string (str pc.nm)) ∧ V.cell? ⟨qc, 2, none⟩ = some (.int .i64 pc.n) ∧ V.cell? ⟨qc, 3, none⟩ = some (.slice A0 t0 c0))
              (first | with_reducible exact HX.out _ (Below.refl _ v2) | with_reducible exact HX.out _ (Below.refl _ v2).drew | with_reducible exact HX.out _ hk2 | with_reducible exact HX.out _ hk1 | with_reducible exact HX.out _ ((Below.refl _ v2).alloc (Nat.le_refl _) _) | with_reducible exact HX.out _ ((Below.refl _ v2).alloc (Nat.le_refl _) _).drew | with_reducible exact HX.out _ (hk1.alloc hk1.size _))
              (first
                | (go_at_call 16; refine Calls.mono (infos_dr v2 (.cells #[.int .u8 (pc.k : Int), .string (str pc.nm), .int .i64 pc.n, .slice A0 t0 c0] 40)) ?_; rintro e u1 ⟨rfl, hI1, hb1⟩; have hk1 : Below v2.heap.size v2 u1 := bel_dr hb1; have hBlk := blk_dr hb1)
                | (go_at_call 16; refine Calls.mono (infos_any v2.drew) ?_; rintro e u1 ⟨rfl, hI1, hb1⟩; have hk1 : Below v2.heap.size v2 u1 := (Below.refl _ v2).drew.trans hb1; have htok := True.intro)
                | (go_at_call 11; have _t := htok; refine Calls.mono (HCK.out (u1.alloc (.cells #[.int .u8 (pc.k : Int), .string (str pc.nm), .int .i64 pc.n, .slice A0 t0 c0] 40)) u1.heap.size _ (hk1.alloc hk1.size _) (Blk.new u1 _ _) (hI1.bel ((Below.refl _ _).alloc (Nat.le_refl _) _))) ?_; rintro e u2 ⟨rfl, hb2⟩; have hk2 : Below v2.heap.size v2 u2 := (hk1.alloc hk1.size _).trans (hb2.mono (by have := hk1.size; simp; omega)))
                | (go_at_call 11; refine Calls.mono (HCK.out u1 v2.heap.size _ hk1 hBlk hI1) ?_; rintro e u2 ⟨rfl, hb2⟩; have hk2 : Below v2.heap.size v2 u2 := hk1.trans (hb2.mono hk1.size)))
            all_goals
              have HW := Lib.hid hk2
              clear hk2
              go_wp2_with fail
              go_meet
              exact ⟨rfl, HW⟩
          case rest =>
            obtain ⟨rfl, hcb⟩ := hcut
            obtain ⟨v3, rfl⟩ : ∃ v, v = wc := ⟨_, rfl⟩
            have HF3 := Lib.hid (HF2.out.next hcb.out)
            clear HX HCK hcb
            obtain ⟨A0, c0, t0, h0⟩ := HF3.out.bd
            have HX : Hid (∀ V : World, Below v3.heap.size v3 V → V.cell? ⟨qd, 0, none⟩ = some (.int .u8 (pd.k : Int)) ∧ V.cell? ⟨qd, 1, none⟩ = some (.string (str pd.nm)) ∧ V.cell? ⟨qd, 2, none⟩ = some (.int .i64 pd.n) ∧ V.cell? ⟨qd, 3, none⟩ = some (.slice A0 t0 c0)) := Lib.hid fun V hV => ⟨(h0.bel hV).blk.cell 0, (h0.bel hV).blk.cell 1, (h0.bel hV).blk.cell 2, (h0.bel hV).blk.cell 3⟩
            have HCK : Hid (∀ (V : World) (g : Nat) (B : Option Addr), Below v3.heap.size v3 V → Blk V g 40 #[.int .u8 (pd.k : Int), .string (str pd.nm), .int .i64 pd.n, .slice A0 t0 c0] → IAt Everywhere V B 8 8 infosX → Calls Try.prog 11 #[.slice (some ⟨g, 0, none⟩) 1 1, .slice B 8 8, .bool false] V fun e w' => e = .returned (.int .i64 13) ∧ Below V.heap.size V w') := Lib.hid fun V g B hV hB hI => checkI [pd] _ 1 1 B false 3 13 V ⟨rfl, Nat.le_refl _, (by decide), At_single (p := pd) hB h0.len ((h0.in_.bel hV).mono fun _ _ => trivial).1 (h0.in_).2.1 (h0.in_).2.2.1 (h0.in_).2.2.2 trivial⟩ hI HT.out.2.1 rfl
            clear h0
            go_upto_region 19 with fail
            (try clear hdmm)
            (try clear hijI hbb)
            go_cut [16] from 107 to 110 (fun s wx => s = .int .i64 13 ∧ Hid (Below v3.heap.size v3 wx))
            case first =>
              go_region_held3 (fun V => V.cell? ⟨qd, 0, none⟩ = some (.int .u8 (pd.k : Int)) ∧ V.cell? ⟨qd, 1, none⟩ = some (.string (str pd.nm)) ∧ V.cell? ⟨qd, 2, none⟩ = some (.int .i64 pd.n) ∧ V.cell? ⟨qd, 3, none⟩ = some (.slice A0 t0 c0))
                (first | with_reducible exact HX.out _ (Below.refl _ v3) | with_reducible exact HX.out _ (Below.refl _ v3).drew | with_reducible exact HX.out _ hk2 | with_reducible exact HX.out _ hk1 | with_reducible exact HX.out _ ((Below.refl _ v3).alloc (Nat.le_refl _) _) | with_reducible exact HX.out _ ((Below.refl _ v3).alloc (Nat.le_refl _) _).drew | with_reducible exact HX.out _ (hk1.alloc hk1.size _))
                (first
                  | (go_at_call 16; refine Calls.mono (infos_dr v3 (.cells #[.int .u8 (pd.k : Int), .string (str pd.nm), .int .i64 pd.n, .slice A0 t0 c0] 40)) ?_; rintro e u1 ⟨rfl, hI1, hb1⟩; have hk1 : Below v3.heap.size v3 u1 := bel_dr hb1; have hBlk := blk_dr hb1)
                  | (go_at_call 16; refine Calls.mono (infos_any v3.drew) ?_; rintro e u1 ⟨rfl, hI1, hb1⟩; have hk1 : Below v3.heap.size v3 u1 := (Below.refl _ v3).drew.trans hb1; have htok := True.intro)
                  | (go_at_call 11; have _t := htok; refine Calls.mono (HCK.out (u1.alloc (.cells #[.int .u8 (pd.k : Int), .string (str pd.nm), .int .i64 pd.n, .slice A0 t0 c0] 40)) u1.heap.size _ (hk1.alloc hk1.size _) (Blk.new u1 _ _) (hI1.bel ((Below.refl _ _).alloc (Nat.le_refl _) _))) ?_; rintro e u2 ⟨rfl, hb2⟩; have hk2 : Below v3.heap.size v3 u2 := (hk1.alloc hk1.size _).trans (hb2.mono (by have := hk1.size; simp; omega)))
                  | (go_at_call 11; refine Calls.mono (HCK.out u1 v3.heap.size _ hk1 hBlk hI1) ?_; rintro e u2 ⟨rfl, hb2⟩; have hk2 : Below v3.heap.size v3 u2 := hk1.trans (hb2.mono hk1.size)))
              all_goals
                have HW := Lib.hid hk2
                clear hk2
                go_wp2_with fail
                go_meet
                exact ⟨rfl, HW⟩
            case rest =>
              obtain ⟨rfl, hcb⟩ := hcut
              obtain ⟨v4, rfl⟩ : ∃ v, v = wc := ⟨_, rfl⟩
              have HF4 := Lib.hid (HF3.out.next hcb.out)
              clear HX HCK hcb
              obtain ⟨A0, c0, t0, h0⟩ := HF4.out.ba
              obtain ⟨A1, c1, t1, h1⟩ := HF4.out.bb
              obtain ⟨A2, c2, t2, h2⟩ := HF4.out.bz
              have HX : Hid (∀ V : World, Below v4.heap.size v4 V → V.cell? ⟨qa, 0, none⟩ = some (.int .u8 (pa.k : Int)) ∧ V.cell? ⟨qa, 1, none⟩ = some (.string (str pa.nm)) ∧ V.cell? ⟨qa, 2, none⟩ = some (.int .i64 pa.n) ∧ V.cell? ⟨qa, 3, none⟩ = some (.slice A0 t0 c0) ∧ V.cell? ⟨qb, 0, none⟩ = some (.int .u8 (pb.k : Int)) ∧ V.cell? ⟨qb, 1, none⟩ = some (.string (str pb.nm)) ∧ V.cell? ⟨qb, 2, none⟩ = some (.int .i64 pb.n) ∧ V.cell? ⟨qb, 3, none⟩ = some (.slice A1 t1 c1) ∧ V.cell? ⟨qz, 0, none⟩ = some (.int .u8 (pz.k : Int)) ∧ V.cell? ⟨qz, 1, none⟩ = some (.string (str pz.nm)) ∧ V.cell? ⟨qz, 2, none⟩ = some (.int .i64 pz.n) ∧ V.cell? ⟨qz, 3, none⟩ = some (.slice A2 t2 c2)) := Lib.hid fun V hV => ⟨(h0.bel hV).blk.cell 0, (h0.bel hV).blk.cell 1, (h0.bel hV).blk.cell 2, (h0.bel hV).blk.cell 3, (h1.bel hV).blk.cell 0, (h1.bel hV).blk.cell 1, (h1.bel hV).blk.cell 2, (h1.bel hV).blk.cell 3, (h2.bel hV).blk.cell 0, (h2.bel hV).blk.cell 1, (h2.bel hV).blk.cell 2, (h2.bel hV).blk.cell 3⟩
              have HCK : Hid (∀ (V : World) (g : Nat) (B : Option Addr), Below v4.heap.size v4 V → Blk V g 40 #[.int .u8 (pa.k : Int), .string (str pa.nm), .int .i64 pa.n, .slice A0 t0 c0, .int .u8 (pb.k : Int), .string (str pb.nm), .int .i64 pb.n, .slice A1 t1 c1, .int .u8 (pz.k : Int), .string (str pz.nm), .int .i64 pz.n, .slice A2 t2 c2] → IAt Everywhere V B 8 8 infosX → Calls Try.prog 11 #[.slice (some ⟨g, 0, none⟩) 3 3, .slice B 8 8, .bool false] V fun e w' => e = .returned (.int .i64 12) ∧ Below V.heap.size V w') := Lib.hid fun V g B hV hB hI => checkI [pa, pb, pz] _ 3 3 B false 2 12 V ⟨rfl, Nat.le_refl _, (by decide), At_three (e := ⟨pa, A0, c0⟩) (f := ⟨pb, A1, c1⟩) (h := ⟨pz, A2, c2⟩) (by have := hB; rw [← h0.len] at this; rw [← h1.len] at this; rw [← h2.len] at this; exact this) ((h0.in_.bel hV).mono fun _ _ => trivial) ((h1.in_.bel hV).mono fun _ _ => trivial) ((h2.in_.bel hV).mono fun _ _ => trivial) trivial⟩ hI HT.out.2.2 rfl
              clear h0 h1 h2
              go_upto_region 20 with fail
              (try clear hdmm)
              (try clear hijI hbb)
              go_cut [17] from 111 to 116 (fun s wx => s = .int .i64 12 ∧ Hid (Below v4.heap.size v4 wx))
              case first =>
                go_region_held3 (fun V => V.cell? ⟨qa, 0, none⟩ = some (.int .u8 (pa.k : Int)) ∧ V.cell? ⟨qa, 1, none⟩ = some (.string (str pa.nm)) ∧ V.cell? ⟨qa, 2, none⟩ = some (.int .i64 pa.n) ∧ V.cell? ⟨qa, 3, none⟩ = some (.slice A0 t0 c0) ∧ V.cell? ⟨qb, 0, none⟩ = some (.int .u8 (pb.k : Int)) ∧ V.cell? ⟨qb, 1, none⟩ = some (.string (str pb.nm)) ∧ V.cell? ⟨qb, 2, none⟩ = some (.int .i64 pb.n) ∧ V.cell? ⟨qb, 3, none⟩ = some (.slice A1 t1 c1) ∧ V.cell? ⟨qz, 0, none⟩ = some (.int .u8 (pz.k : Int)) ∧ V.cell? ⟨qz, 1, none⟩ = some (.string (str pz.nm)) ∧ V.cell? ⟨qz, 2, none⟩ = some (.int .i64 pz.n) ∧ V.cell? ⟨qz, 3, none⟩ = some (.slice A2 t2 c2))
                  (first | with_reducible exact HX.out _ (Below.refl _ v4) | with_reducible exact HX.out _ (Below.refl _ v4).drew | with_reducible exact HX.out _ hk2 | with_reducible exact HX.out _ hk1 | with_reducible exact HX.out _ ((Below.refl _ v4).alloc (Nat.le_refl _) _) | with_reducible exact HX.out _ ((Below.refl _ v4).alloc (Nat.le_refl _) _).drew | with_reducible exact HX.out _ (hk1.alloc hk1.size _))
                  (first
                    | (go_at_call 16; refine Calls.mono (infos_dr v4 (.cells #[.int .u8 (pa.k : Int), .string (str pa.nm), .int .i64 pa.n, .slice A0 t0 c0, .int .u8 (pb.k : Int), .string (str pb.nm), .int .i64 pb.n, .slice A1 t1 c1, .int .u8 (pz.k : Int), .string (str pz.nm), .int .i64 pz.n, .slice A2 t2 c2] 40)) ?_; rintro e u1 ⟨rfl, hI1, hb1⟩; have hk1 : Below v4.heap.size v4 u1 := bel_dr hb1; have hBlk := blk_dr hb1)
                    | (go_at_call 16; refine Calls.mono (infos_any v4.drew) ?_; rintro e u1 ⟨rfl, hI1, hb1⟩; have hk1 : Below v4.heap.size v4 u1 := (Below.refl _ v4).drew.trans hb1; have htok := True.intro)
                    | (go_at_call 11; have _t := htok; refine Calls.mono (HCK.out (u1.alloc (.cells #[.int .u8 (pa.k : Int), .string (str pa.nm), .int .i64 pa.n, .slice A0 t0 c0, .int .u8 (pb.k : Int), .string (str pb.nm), .int .i64 pb.n, .slice A1 t1 c1, .int .u8 (pz.k : Int), .string (str pz.nm), .int .i64 pz.n, .slice A2 t2 c2] 40)) u1.heap.size _ (hk1.alloc hk1.size _) (Blk.new u1 _ _) (hI1.bel ((Below.refl _ _).alloc (Nat.le_refl _) _))) ?_; rintro e u2 ⟨rfl, hb2⟩; have hk2 : Below v4.heap.size v4 u2 := (hk1.alloc hk1.size _).trans (hb2.mono (by have := hk1.size; simp; omega)))
                    | (go_at_call 11; refine Calls.mono (HCK.out u1 v4.heap.size _ hk1 hBlk hI1) ?_; rintro e u2 ⟨rfl, hb2⟩; have hk2 : Below v4.heap.size v4 u2 := hk1.trans (hb2.mono hk1.size)))
                all_goals
                  have HW := Lib.hid hk2
                  clear hk2
                  go_wp2_with fail
                  go_meet
                  exact ⟨rfl, HW⟩
              case rest =>
                obtain ⟨rfl, hcb⟩ := hcut
                obtain ⟨v5, rfl⟩ : ∃ v, v = wc := ⟨_, rfl⟩
                have HF5 := Lib.hid (HF4.out.next hcb.out)
                clear HX HCK hcb
                go_upto_region 21 with fail
                obtain ⟨x1, hx1⟩ : ∃ W, v5.alloc (.cells #[.int .u8 7, .string ⟨#[]⟩, .int .i64 0, .slice none 0 0] 40) = W := ⟨_, rfl⟩
                have b1 : Below v5.heap.size v5 x1 := by rw [← hx1]; exact (Below.refl _ _).alloc (Nat.le_refl _) _
                have k1 : Blk x1 v5.heap.size 40 #[.int .u8 7, .string ⟨#[]⟩, .int .i64 0, .slice none 0 0] := by rw [← hx1]; exact Blk.new _ _ _
                go_wp2_with fail
                refine (infos_any x1).mono ?_
                rintro e x2 ⟨rfl, hI2, b2⟩
                go_wp2_with fail
                refine (checkI [Ty.node 7 [] 0 []] _ 1 1 _ false 3 13 x2 ⟨rfl, Nat.le_refl _, (by decide), At_single (p := Ty.node 7 [] 0 []) (k1.below b2 k1.lt) rfl (.nil _) ⟨by decide, by decide, by decide⟩ (Nat.le_refl _) (by decide) trivial⟩ hI2 fits_k rfl).mono ?_
                rintro e x3 ⟨rfl, b3⟩
                have B3 : Below w.heap.size w x3 := HF5.out.bel.trans ((b1.trans ((b2.trans (b3.mono b2.size)).mono b1.size)).mono HF5.out.bel.size)
                have HB3 := Lib.hid B3
                clear B3 b1 b2 b3 k1 hx1 hI2
                go_upto_region 22 with fail
                go_wp2_with fail
                refine (wild_any x3).mono ?_
                rintro e x4 ⟨rfl, b4⟩
                obtain ⟨x5, hx5⟩ : ∃ W, x4.alloc (.cells #[.int .u8 1, .string ⟨#[]⟩, .int .i64 0, .slice none 0 0] 40) = W := ⟨_, rfl⟩
                have b5 : Below x4.heap.size x4 x5 := by rw [← hx5]; exact (Below.refl _ _).alloc (Nat.le_refl _) _
                have k5 : Blk x5 x4.heap.size 40 #[.int .u8 1, .string ⟨#[]⟩, .int .i64 0, .slice none 0 0] := by rw [← hx5]; exact Blk.new _ _ _
                obtain ⟨g5, hg5⟩ : ∃ g, x4.heap.size = g := ⟨_, rfl⟩
                rw [hg5] at k5
                obtain ⟨x6, hx6⟩ : ∃ W, x5.alloc (.cells #[.int .u8 5, .string ⟨#[]⟩, .int .i64 0, .slice (some ⟨g5, 0, none⟩) 1 1] 40) = W := ⟨_, rfl⟩
                have b6 : Below x5.heap.size x5 x6 := by rw [← hx6]; exact (Below.refl _ _).alloc (Nat.le_refl _) _
                have k6 : Blk x6 x5.heap.size 40 #[.int .u8 5, .string ⟨#[]⟩, .int .i64 0, .slice (some ⟨g5, 0, none⟩) 1 1] := by rw [← hx6]; exact Blk.new _ _ _
                go_wp2_with fail
                refine (infos_any x6).mono ?_
                rintro e x7 ⟨rfl, hI7, b7⟩
                go_wp2_with fail
                refine (checkI [tup [any]] _ 1 1 _ false 3 13 x7 ⟨rfl, Nat.le_refl _, (by decide), At_single (p := tup [any]) (k6.below b7 k6.lt) rfl (At_single (p := any) ((k5.below b6 k5.lt).below b7 (Nat.lt_of_lt_of_le k5.lt b6.size)) rfl (.nil _) ok_any (Nat.le_refl _) (by decide) trivial) (ok_tup _) (Nat.le_refl _) (by decide) trivial⟩ hI7 fits_m rfl).mono ?_
                rintro e x8 ⟨rfl, b8⟩
                have s4 := b4.size
                have s5 := b5.size
                have s6 := b6.size
                have s7 := b7.size
                have B8 : Below w.heap.size w x8 := HB3.out.trans ((b4.trans ((b5.trans ((b6.trans ((b7.trans (b8.mono s7)).mono s6)).mono s5)).mono s4)).mono HB3.out.size)
                have HB8 := Lib.hid B8
                clear B8 b4 b5 b6 b7 b8 k5 k6 hx5 hx6 hI7 hg5 s4 s5 s6 s7
                go_upto_region 23 with fail
                go_wp2_with (go_at_call 10; refine (works_any _).mono ?_; rintro e w9 ⟨rfl, hb9⟩)
                go_ret
                exact ⟨rfl, HB8.out.trans (hb9.mono HB8.out.size)⟩
end Go.Proofs.Ytigaondgopahgaa
