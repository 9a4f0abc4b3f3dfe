/- types: knows, tooGreat. -/
import Derived.Test.YtndhojnfjlkojaaQ
namespace Go.Proofs.Ytndhojnfjlkojaa
open Go.RowKit
set_option linter.unusedVariables false
set_option linter.unusedSimpArgs false
attribute [local go_sem] Oper.semAt_some
open Ty
theorem ent_knows1 : Enters Try.prog 46 := enters_of Try.func46 (by kernel_rfl) rfl
set_option maxRecDepth 20000 in
set_option maxHeartbeats 2000000 in
theorem knows1_any {B : Nat} {g : Nat} {Ab : Option Addr} {cb N : Nat} {σ : Int → Option Ty} (n : Int) (w : World) {pb : Nat} (hp : Blk w pb 32 #[.pointer (some ⟨g, 0, none⟩)]) (hB : Bk B w g Ab cb N σ) :
    Calls Try.prog 46 #[.int .i64 n, .pointer (some ⟨pb, 0, none⟩)] w fun e w' => e = .returned (.bool (decide (n < (N : Int)))) ∧ Below w.heap.size w w' := by
  have p0 := hp.cell 0
  simp only [List.getElem?_toArray, List.getElem?_cons_zero, List.getElem?_cons_succ] at p0
  have b0 := hB.hd
  have HB := Lib.hid hB
  clear hp hB
  go_enter Try.func46, Try.ntmps46
  go_wp2_with fail
  go_ret
  exact ⟨rfl, Below.refl _ _⟩
set_option maxRecDepth 20000 in
set_option maxHeartbeats 2000000 in
theorem knows_any {B : Nat} {g : Nat} {Ab : Option Addr} {cb N : Nat} {σ : Int → Option Ty} (t : Ty) (A : Option Addr) (c : Nat) (w : World) (hT : Tb B w t A c) (hB : Bk B w g Ab cb N σ) :
    Calls Try.prog 40 #[.pointer (some ⟨g, 0, none⟩), t.val A c] w fun e w' => ∃ b, e = .returned (.bool b) ∧ (b = true ↔ good N t) ∧ Below w.heap.size w w' := by
  obtain ⟨tl, htl⟩ : ∃ tl, t.ks.length = tl := ⟨_, rfl⟩
  obtain ⟨w0, hw0⟩ : ∃ w0, (w.alloc (.cells #[.pointer (some ⟨g, 0, none⟩)] 32)).alloc (.cells #[.int .u8 (t.k : Int), .string (str t.nm), .int .i64 t.n, .slice A tl c] 24) = w0 := ⟨_, rfl⟩
  have hb0 : Below w.heap.size w w0 := by rw [← hw0]; exact ((Below.refl _ _).alloc (Nat.le_refl _) _).alloc (by simp) _
  have hP0 : Blk w0 w.heap.size 32 #[.pointer (some ⟨g, 0, none⟩)] := by rw [← hw0]; exact (Blk.new _ _ _).alloc _
  have hT0 : Blk w0 (w.heap.size + 1) 24 #[.int .u8 (t.k : Int), .string (str t.nm), .int .i64 t.n, .slice A tl c] := by
    have := Blk.new (w.alloc (.cells #[.pointer (some ⟨g, 0, none⟩)] 32)) 24 #[.int .u8 (t.k : Int), .string (str t.nm), .int .i64 t.n, .slice A tl c]
    rw [World.size_alloc] at this
    rw [← hw0]; exact this
  have hBB := hB.bel (hb0.mono hB.Bs)
  have hTT := hT.bel (hb0.mono hB.Bs)
  have HC := right_any t A c w0 hTT.at_ hTT.len hTT.cap
  have d0 := hT0.cell 0
  have d1 := hT0.cell 1
  have d2 := hT0.cell 2
  have d3 := hT0.cell 3
  simp only [List.getElem?_toArray, List.getElem?_cons_zero, List.getElem?_cons_succ] at d0 d1 d2 d3
  have hEA := fun w1 (hb1 : Below w0.heap.size w0 w1) => each_any (F := fun b => b < B) 46 ent_knows1 #[.pointer (some ⟨w.heap.size, 0, none⟩)]
    (fun d W => Below w0.heap.size w0 W ∧ ∀ m ∈ d, m < (N : Int)) (fun W => Below w0.heap.size w0 W ∧ ¬ ∀ m ∈ t.nums, m < (N : Int)) (fun m => m ∈ t.nums)
    (fun d W W' h hb => ⟨h.1.trans (hb.mono h.1.size), h.2⟩)
    (fun n d W hn h => (show Calls Try.prog 46 #[.int .i64 n, .pointer (some ⟨w.heap.size, 0, none⟩)] W _ from knows1_any n W (hP0.below h.1 hP0.lt) (hBB.bel (h.1.mono hBB.Bs))).mono (fun e W' h2 => ⟨decide (n < (N : Int)), h2.1, Off.of_new h2.2 _, fun hd => ⟨h.1.trans (h2.2.mono h.1.size), fun m hm => by
      rcases List.mem_append.1 hm with hm | hm
      · exact h.2 m hm
      · rw [List.mem_singleton.1 hm]; simpa using hd⟩, fun hd => ⟨h.1.trans (h2.2.mono h.1.size), fun ha => by
      have := ha n hn
      simp at hd
      omega⟩⟩)) t A c [] w1 (hTT.at_.belB (hb1.mono hBB.Bs)) hTT.len hTT.cap (fun m hm => hm) ⟨hb1, fun m hm => by cases hm⟩
  unfold Ty.val at HC hEA ⊢
  rw [htl] at HC ⊢
  simp only [htl] at hEA
  have HE := Lib.hid hEA
  replace HC := Lib.hid HC
  have HB0 := Lib.hid hb0
  have hmf : ∀ (fn : Fn) (first cap : Array Value) (w : World), (Instr.makeFunc fn first cap).run Try.prog w = .ok (.func fn first cap) w := fun _ _ _ _ => rfl
  obtain ⟨rt, hrt⟩ : ∃ rt, t.right = rt := ⟨_, rfl⟩
  rw [hrt] at HC
  have HRT := Lib.hid hrt
  have HT0 := Lib.hid hT0
  clear hb0 hP0 hT0 hBB hTT hEA hT hB htl hrt
  go_enter Try.func40, Try.ntmps40
  go_upto_region 1 with fail
  (try rw [hw0])
  clear hw0
  go_wp2_with fail
  refine HC.out.mono ?_
  rintro e w1 ⟨rfl, hb1⟩
  have hT1 := HT0.out.below hb1 HT0.out.lt
  clear d0 d1 d2 d3
  have d0 := hT1.cell 0
  have d1 := hT1.cell 1
  have d2 := hT1.cell 2
  have d3 := hT1.cell 3
  simp only [List.getElem?_toArray, List.getElem?_cons_zero, List.getElem?_cons_succ] at d0 d1 d2 d3
  have HB1 := Lib.hid hb1
  clear hT1 hb1 HC
  cases rt with
  | false =>
    clear hmf
    go_wp2_with fail
    go_ret
    exact ⟨false, rfl, ⟨(fun h => by cases h), fun h => by have := h.1; rw [HRT.out] at this; cases this⟩, HB0.out.trans (HB1.out.mono HB0.out.size)⟩
  | true =>
    have HC := Lib.hid (HE.out w1 HB1.out)
    go_wp2_with fail
    refine HC.out.mono ?_
    rintro e w2 ⟨b, rfl, _, h1, h2⟩
    have HR := Lib.hid (And.intro h1 h2)
    clear h1 h2 HC hmf d0 d1 d2 d3
    go_wp2_with fail
    go_ret
    cases b with
    | true => exact ⟨true, rfl, ⟨fun _ => ⟨HRT.out, by simpa using (HR.out.1 rfl).2⟩, fun _ => rfl⟩, HB0.out.trans ((HR.out.1 rfl).1.mono HB0.out.size)⟩
    | false => exact ⟨false, rfl, ⟨fun h => (by cases h), fun h => absurd h.2 (HR.out.2 rfl).2⟩, HB0.out.trans ((HR.out.2 rfl).1.mono HB0.out.size)⟩
/-- What fits captured. -/
structure Ft (B : Nat) (w : World) (g pp pb pf : Nat) (p : Nat) : Prop where
  parts : Blk w pp 3 #[.int .i64 (p : Int)]
  book : Blk w pb 32 #[.pointer (some ⟨g, 0, none⟩)]
  fn : Blk w pf 47 #[.func (.func 47) #[] #[.pointer (some ⟨pp, 0, none⟩), .pointer (some ⟨pb, 0, none⟩), .pointer (some ⟨pf, 0, none⟩)]]
  le : B ≤ pp
  nb : pb ≠ pp
  nf : pf ≠ pp
theorem Ft.bel {B : Nat} {w w' : World} {g pp pb pf p : Nat} (h : Ft B w g pp pb pf p) (hb : Below w.heap.size w w') : Ft B w' g pp pb pf p := ⟨h.parts.below hb h.parts.lt, h.book.below hb h.book.lt, h.fn.below hb h.fn.lt, h.le, h.nb, h.nf⟩
theorem Ft.off {B : Nat} {w w' : World} {g pp pb pf p q : Nat} (h : Ft B w g pp pb pf p) (ho : Off (fun b => b = pp) w w') (hq : Blk w' pp 3 #[.int .i64 (q : Int)]) : Ft B w' g pp pb pf q := ⟨hq, h.book.off ho h.nb, h.fn.off ho h.nf, h.le, h.nb, h.nf⟩
theorem head_parts {N : Nat} {σ : Int → Option Ty} {S : Int → Ty} (hS : Slv N σ S) {u : Ty} (hg : good N u) (hu : u.k = 1 → σ u.n = none) : (u.sub S).parts = 1 + partss (u.ks.map (Ty.sub S)) ∧ (u.sub S).depth = 1 + depths (u.ks.map (Ty.sub S)) := by
  by_cases e : u.k = 1
  · obtain ⟨e2, _⟩ := good_var hg e
    have : u.ks = [] := by rw [e2]; rfl
    rw [this, e2, sub_tvar, hS.free _ (hu e)]
    unfold tvar
    rw [Ty.parts, partss, depth, depths]
    simp [partss, depths]
  · obtain ⟨k, nm, n, ks⟩ := u
    rw [sub_node S (show k ≠ 1 from e), Ty.parts, depth]
    exact ⟨Nat.add_comm _ _, Nat.add_comm _ _⟩
theorem meas_head {N : Nat} {S : Int → Ty} {t u : Ty} (h : u.sub S = t.sub S) (hu : u.k ≠ 1) : meas N S u ≤ meas N S t := by
  unfold meas
  rw [h, if_neg hu]
  omega
theorem partss_take (S : Int → Ty) {ks : List Ty} {i : Nat} {t : Ty} (ht : ks[i]? = some t) : partss ((ks.take (i + 1)).map (Ty.sub S)) = partss ((ks.take i).map (Ty.sub S)) + (t.sub S).parts := by
  rw [List.take_add_one, ht]
  simp [List.map_append, Ty.partss_push]
theorem partss_le_take (S : Int → Ty) : ∀ (ks : List Ty) (i : Nat), partss ((ks.take i).map (Ty.sub S)) ≤ partss (ks.map (Ty.sub S))
  | [], i => by simp
  | t :: ks, 0 => by simp [partss]
  | t :: ks, i + 1 => by
    have := partss_le_take S ks i
    simp only [List.take_succ_cons, List.map_cons, partss]
    omega
set_option maxRecDepth 20000 in
set_option maxHeartbeats 8000000 in
theorem fits_any {B : Nat} {g : Nat} {Ab : Option Addr} {cb N : Nat} {σ : Int → Option Ty} {S : Int → Ty} (hS : Slv N σ S) {pp pb pf : Nat} : ∀ (M : Nat) (t : Ty) (A : Option Addr) (c d p : Nat) (w : World), meas N S t < M → good N t → Tb B w t A c → Bk B w g Ab cb N σ → Ft B w g pp pb pf p → p ≤ 1000 → 1 ≤ d → d ≤ 101 →
    Calls Try.prog 47 #[t.val A c, .int .i64 (d : Int), .pointer (some ⟨pp, 0, none⟩), .pointer (some ⟨pb, 0, none⟩), .pointer (some ⟨pf, 0, none⟩)] w fun e w' => ∃ (b : Bool) (p' : Nat), e = .returned (.bool b) ∧ Off (fun b => b = pp) w w' ∧ Blk w' pp 3 #[.int .i64 (p' : Int)] ∧ (b = true ↔ p + (t.sub S).parts ≤ 1000 ∧ d + (t.sub S).depth ≤ 101) ∧ (b = true → p' = p + (t.sub S).parts) := by
  intro M
  induction M with
  | zero => intro t A c d p w h; omega
  | succ M ih =>
  intro t A c d p w hM hg hT hB hF hp hd hd2
  obtain ⟨tl, htl⟩ : ∃ tl, t.ks.length = tl := ⟨_, rfl⟩
  obtain ⟨w0, hw0⟩ : ∃ w0, w.alloc (.cells #[.int .u8 (t.k : Int), .string (str t.nm), .int .i64 t.n, .slice A tl c] 24) = w0 := ⟨_, rfl⟩
  have hb0 : Below w.heap.size w w0 := by rw [← hw0]; exact (Below.refl _ _).alloc (Nat.le_refl _) _
  have hT0 : Blk w0 w.heap.size 24 #[.int .u8 (t.k : Int), .string (str t.nm), .int .i64 t.n, .slice A tl c] := by rw [← hw0]; exact Blk.new _ _ _
  have hF0 := hF.bel hb0
  have p0 := hF0.parts.cell 0
  have pfz := hF0.parts.frozen
  simp only [List.getElem?_toArray, List.getElem?_cons_zero, List.getElem?_cons_succ] at p0
  obtain ⟨p1, hp1⟩ : ∃ p1, p + 1 = p1 := ⟨_, rfl⟩
  obtain ⟨w1, hw1⟩ : ∃ w1, w0.setCell ⟨pp, 0, none⟩ (.int .i64 ((p : Int) + 1)) = w1 := ⟨_, rfl⟩
  have ho1 : Off (fun b => b = pp) w0 w1 := by rw [← hw1]; exact Off.setc _ _ _ _
  have hP1 : Blk w1 pp 3 #[.int .i64 (p1 : Int)] := by
    have := hF0.parts.set_ 0 (.int .i64 ((p : Int) + 1))
    rw [hw1] at this
    rw [show (p1 : Int) = (p : Int) + 1 by omega]
    simpa using this
  have hF1 := hF0.off ho1 hP1
  have hpp : pp ≠ w.heap.size := fun e => by have := hF.parts.lt; omega
  have hT1 := hT0.off ho1 (fun e => hpp e.symm)
  have how : Off (fun b => b = pp) w w1 := (Off.of_new hb0 _).trans ho1
  have hb1 : Below B w w1 := how.below hB.Bs (fun g e => by have := hF.le; omega)
  have hB1 := hB.bel hb1
  have hTb1 := hT.bel hb1
  have d0 := hT1.cell 0
  have d1 := hT1.cell 1
  have d2 := hT1.cell 2
  have d3 := hT1.cell 3
  have b0 := hF1.book.cell 0
  have q0 := hF1.parts.cell 0
  simp only [List.getElem?_toArray, List.getElem?_cons_zero, List.getElem?_cons_succ] at d0 d1 d2 d3 b0 q0
  have HC := head_any hS t A c w1 hg hTb1 hB1
  have HS := Lib.hid (And.intro hS (And.intro ih (And.intro hM hp1)))
  have HF1 := Lib.hid (And.intro hF1 (And.intro how (And.intro hB1 hP1)))
  unfold Ty.val at HC ⊢
  rw [htl] at HC ⊢
  replace HC := Lib.hid HC
  have hpos : Hid (1 ≤ (t.sub S).parts ∧ 1 ≤ (t.sub S).depth) := Lib.hid ⟨parts_pos _, depth_pos _⟩
  have HD := Lib.hid (And.intro hp (And.intro hd hd2))
  clear hb0 hT0 hF0 ho1 hP1 hF1 hT1 how hb1 hB1 hTb1 hS ih hM hg hT hB hF htl
  by_cases e1 : 1000 < p1
  · have q1 : decide ((p1 : Int) > 1000) = true := by simp; omega
    have q1n : decide (1000 < p1) = true := by simpa using e1
    clear HC hp1 b0 d0 d1 d2 d3
    go_enter Try.func47, Try.ntmps47
    go_upto_region 1 with fail
    (try rw [hw0])
    clear hw0
    go_upto_region 2 with fail
    (try rw [hw1])
    clear hw1 p0 pfz
    go_wp2_with fail
    go_ret
    exact ⟨false, p1, rfl, HF1.out.2.1, HF1.out.2.2.2, ⟨(fun h => by cases h), fun h => by have := hpos.out; have := HS.out.2.2.2; omega⟩, fun h => by cases h⟩
  have q1 : decide ((p1 : Int) > 1000) = false := by simp; omega
  have q1n : decide (1000 < p1) = false := by simp; omega
  by_cases e2 : 100 < d
  · have q2 : decide ((d : Int) > 100) = true := by simp; omega
    have q2n : decide (100 < d) = true := by simpa using e2
    clear HC hp1 b0 d0 d1 d2 d3
    go_enter Try.func47, Try.ntmps47
    go_upto_region 1 with fail
    (try rw [hw0])
    clear hw0
    go_upto_region 2 with fail
    (try rw [hw1])
    clear hw1 p0 pfz
    go_wp2_with fail
    go_ret
    exact ⟨false, p1, rfl, HF1.out.2.1, HF1.out.2.2.2, ⟨(fun h => by cases h), fun h => by have := hpos.out; omega⟩, fun h => by cases h⟩
  have q2 : decide ((d : Int) > 100) = false := by simp; omega
  have q2n : decide (100 < d) = false := by simp; omega
  go_enter Try.func47, Try.ntmps47
  go_upto_region 1 with fail
  (try rw [hw0])
  clear hw0
  go_upto_region 2 with fail
  (try rw [hw1])
  clear hw1 p0 pfz hp1
  go_wp2_with fail
  refine HC.out.mono ?_
  rintro e w2 ⟨u, A', c', rfl, hTb, hgu, hsu, hvu, hb2⟩
  obtain ⟨ul, hul⟩ : ∃ ul, u.ks.length = ul := ⟨_, rfl⟩
  rw [hul]
  have hmx : ul ≤ 9223372036854775807 := by have := hTb.len; have := hTb.cap; unfold maxLen at this; omega
  have HU := Lib.hid (And.intro hTb (And.intro hgu (And.intro hsu (And.intro hvu hul))))
  have HI2 : Hid (Off (fun b => b = pp) w w2 ∧ Ft B w2 g pp pb pf p1 ∧ Bk B w2 g Ab cb N σ) := Lib.hid ⟨HF1.out.2.1.trans (Off.of_new hb2 _), HF1.out.1.bel hb2, HF1.out.2.2.1.bel (hb2.mono HF1.out.2.2.1.Bs)⟩
  have HPP : Hid ((t.sub S).parts = 1 + partss (u.ks.map (Ty.sub S)) ∧ (t.sub S).depth = 1 + depths (u.ks.map (Ty.sub S))) := Lib.hid (by rw [← hsu]; exact head_parts HS.out.1 hgu hvu)
  clear hTb hgu hsu hvu hb2 hul HC HF1 b0 d0 d1 d2 d3 q0 q1 q1n q2 q2n
  have hfd : ∀ W : World, (Instr.field 24 (.agg #[.int .u8 (u.k : Int), .string (str u.nm), .int .i64 u.n, .slice A' ul c']) 3).run Try.prog W = .ok (.slice A' ul c') W := fun W => by kernel_rfl
  go_wp2_with fail
  clear hfd
  go_loopw [23] (fun iv wr => ∃ (i pi : Nat), i ≤ ul ∧ iv = .int .i64 (i : Int) ∧ Hid (pi = p1 + partss ((u.ks.take i).map (Ty.sub S)) ∧ pi ≤ 1000 ∧ (∀ (r : Nat) (x : Ty), r < i → u.ks[r]? = some x → d + 1 + (x.sub S).depth ≤ 101) ∧ Off (fun b => b = pp) w wr ∧ Ft B wr g pp pb pf pi ∧ Bk B wr g Ab cb N σ ∧ Tb B wr u A' c')) (fun iv _ => ul - (intOf iv).toNat)
  case atStart => exact ⟨0, p1, Nat.zero_le _, rfl, Lib.hid ⟨by rw [List.take_zero]; rfl, by omega, fun r x h => by omega, HI2.out.1, HI2.out.2.1, HI2.out.2.2, HU.out.1⟩⟩
  case round =>
    clear HI2
    obtain ⟨i, pi, hi, rfl, hJ⟩ := hrel
    by_cases hli : i < ul
    · have hdl : decide ((i : Int) < (ul : Int)) = true := by simpa using hli
      obtain ⟨x, hx⟩ : ∃ x, u.ks[i]? = some x := ⟨_, List.getElem?_eq_getElem (by rw [HU.out.2.2.2.2]; exact hli)⟩
      obtain ⟨b, off, A2, c2, rfl, _, hbl, z0, z1, z2, z3, hok, hlc, hcm, hAt⟩ := hJ.out.2.2.2.2.2.2.at_.get hx
      obtain ⟨xl, hxl⟩ : ∃ xl, x.ks.length = xl := ⟨_, rfl⟩
      obtain ⟨w6, hw6⟩ : ∃ w6, wr.alloc (.cells #[.int .u8 (x.k : Int), .string (str x.nm), .int .i64 x.n, .slice A2 xl c2] 24) = w6 := ⟨_, rfl⟩
      have hb6 : Below wr.heap.size wr w6 := by rw [← hw6]; exact (Below.refl _ _).alloc (Nat.le_refl _) _
      have hB6 : Blk w6 wr.heap.size 24 #[.int .u8 (x.k : Int), .string (str x.nm), .int .i64 x.n, .slice A2 xl c2] := by rw [← hw6]; exact Blk.new _ _ _
      have y0 := hB6.cell 0
      have y1 := hB6.cell 1
      have y2 := hB6.cell 2
      have y3 := hB6.cell 3
      simp only [List.getElem?_toArray, List.getElem?_cons_zero, List.getElem?_cons_succ] at y0 y1 y2 y3
      have hbb6 := hb6.mono hJ.out.2.2.2.2.2.1.Bs
      have hF6 := hJ.out.2.2.2.2.1.bel hb6
      have f0 := hF6.fn.cell 0
      simp only [List.getElem?_toArray, List.getElem?_cons_zero, List.getElem?_cons_succ] at f0
      have hu1 : u.k ≠ 1 := fun e => by
        obtain ⟨e2, _⟩ := good_var HU.out.2.1 e
        have : u.ks = [] := by rw [e2]; rfl
        rw [this] at hx
        cases hx
      have hxm := List.mem_of_getElem? hx
      have hgx : good N x := by
        obtain ⟨k, nm, n, ks⟩ := u
        exact good_kid HU.out.2.1 hu1 hxm
      have hms : meas N S x < M := by
        have h1 := meas_head (N := N) HU.out.2.2.1 hu1
        have h2 : meas N S x < meas N S u := by
          obtain ⟨k, nm, n, ks⟩ := u
          exact meas_kid hu1 hxm hgx
        have := HS.out.2.2.1
        omega
      have HC := HS.out.2.1 x A2 c2 (d + 1) pi w6 hms hgx ⟨hAt.belB hbb6, hlc, hcm, hok⟩ (hJ.out.2.2.2.2.2.1.bel hbb6) hF6 hJ.out.2.1 (by omega) (by omega)
      unfold Ty.val at HC
      rw [hxl] at HC z3
      replace HC := Lib.hid HC
      have HX : Hid (u.ks[i]? = some x ∧ Below wr.heap.size wr w6 ∧ Ft B w6 g pp pb pf pi) := Lib.hid ⟨hx, hb6, hF6⟩
      clear hx hxm hms hgx hAt hlc hcm hok hxl hb6 hB6 hbb6 hF6 hbl
      go_upto_region 7 with fail
      (try rw [hw6])
      clear hw6 z0 z1 z2 z3
      go_wp2_with fail
      refine HC.out.mono ?_
      rintro e w7 ⟨bt, p7, rfl, ho7, hP7, hbi, hbp⟩
      have HR := Lib.hid (And.intro ho7 (And.intro hP7 (And.intro hbi hbp)))
      clear ho7 hP7 hbi hbp HC y0 y1 y2 y3 f0
      cases bt with
      | true =>
        have HN : Hid (p7 = p1 + partss ((u.ks.take (i + 1)).map (Ty.sub S)) ∧ p7 ≤ 1000 ∧ (∀ (r : Nat) (x : Ty), r < i + 1 → u.ks[r]? = some x → d + 1 + (x.sub S).depth ≤ 101) ∧ Off (fun b => b = pp) w w7 ∧ Ft B w7 g pp pb pf p7 ∧ Bk B w7 g Ab cb N σ ∧ Tb B w7 u (some ⟨b, off, none⟩) c') := Lib.hid (by
          have h1 := HR.out.2.2.1.1 rfl
          have h2 := HR.out.2.2.2 rfl
          have hle := HX.out.2.2.le
          have hbx : Below B wr w7 := (HX.out.2.1.mono hJ.out.2.2.2.2.2.1.Bs).trans (HR.out.1.below (Nat.le_trans hJ.out.2.2.2.2.2.1.Bs HX.out.2.1.size) (fun g e => by omega))
          refine ⟨by rw [partss_take S HX.out.1, h2, hJ.out.1]; omega, by omega, fun r y hr hy => ?_, (hJ.out.2.2.2.1.trans (Off.of_new HX.out.2.1 _)).trans HR.out.1, HX.out.2.2.off HR.out.1 HR.out.2.1, hJ.out.2.2.2.2.2.1.bel hbx, hJ.out.2.2.2.2.2.2.bel hbx⟩
          by_cases e : r = i
          · subst e
            rw [HX.out.1] at hy
            cases hy
            exact h1.2
          · exact hJ.out.2.2.1 r y (by omega) hy)
        clear HR HX hJ
        go_wp2_with fail
        go_roundw
        case rel => exact ⟨i + 1, p7, by omega, by go_num, HN⟩
        case measure => simp [intOf]; omega
      | false =>
        have HN : Hid (Off (fun b => b = pp) w w7 ∧ Blk w7 pp 3 #[.int .i64 (p7 : Int)] ∧ ¬ (p + (t.sub S).parts ≤ 1000 ∧ d + (t.sub S).depth ≤ 101)) := Lib.hid ⟨(hJ.out.2.2.2.1.trans (Off.of_new HX.out.2.1 _)).trans HR.out.1, HR.out.2.1, fun h => by
          have h1 := partss_take S HX.out.1
          have h2 := partss_le_take S u.ks (i + 1)
          have h3 := depths_mem (List.mem_map.2 ⟨x, List.mem_of_getElem? HX.out.1, rfl⟩ : x.sub S ∈ u.ks.map (Ty.sub S))
          have h4 := HPP.out
          have h5 := HS.out.2.2.2
          have h6 := hJ.out.1
          have h7 := HR.out.2.2.1.2 ⟨by omega, by omega⟩
          cases h7⟩
        clear HR HX hJ
        go_wp2_with fail
        go_ret
        exact ⟨false, p7, rfl, HN.out.1, HN.out.2.1, ⟨(fun h => by cases h), fun h => absurd h HN.out.2.2⟩, fun h => by cases h⟩
    · obtain rfl : ul = i := by omega
      have hdl : decide ((ul : Int) < (ul : Int)) = false := by simp
      go_wp2_with fail
      go_ret
      have h4 := HPP.out
      have h5 := HS.out.2.2.2
      have h6 := hJ.out.1
      rw [List.take_of_length_le (by rw [HU.out.2.2.2.2]; exact Nat.le_refl _)] at h6
      have h7 : depths (u.ks.map (Ty.sub S)) ≤ 100 - d := Ty.depths_le _ _ fun y hy => by
        obtain ⟨z, hz, rfl⟩ := List.mem_map.1 hy
        obtain ⟨r, hr⟩ := List.getElem?_of_mem hz
        have := hJ.out.2.2.1 r z (by rw [← HU.out.2.2.2.2]; exact (List.getElem?_eq_some_iff.1 hr).1) hr
        omega
      have h8 := hJ.out.2.1
      have h9 : d ≤ 100 := by omega
      exact ⟨true, pi, rfl, hJ.out.2.2.2.1, hJ.out.2.2.2.2.1.parts, ⟨fun _ => ⟨by omega, by omega⟩, fun _ => rfl⟩, fun _ => by omega⟩
end Go.Proofs.Ytndhojnfjlkojaa
