/- heap: meant: the document's answers. -/
import Derived.Test.YtclkkfffecmjnaaWb
import Derived.Test.YtclkkfffecmjnaaWc
import Derived.Test.YtclkkfffecmjnaaAh
namespace Go.Proofs.Ytclkkfffecmjnaa
open Go.RowKit
set_option linter.unusedVariables false
set_option linter.unusedSimpArgs false
attribute [local go_sem] Oper.semAt_some
section
variable {w W W' W'' : World} {r t : Nat} {R : Nat → Lab} {H H' : HS} {cs xs : Array Value} {G : Nat → Prop}
theorem Dz.off (h : Dz w W cs xs) (ho : Off G W W') (hG : ∀ b, G b → b < w.heap.size) : Dz w W' cs xs := ⟨h.op.off ho (fun e => by have := hG _ e; omega), h.r.off ho (fun e => by have := hG _ e; omega), h.x.off ho (fun e => by have := hG _ e; omega)⟩
theorem Stp.fin (h : Stp W W' r R H') (hb : Below w.heap.size w W) (hs : W.heap.size = w.heap.size + 3) (hR : ∀ b, R b ≠ .no → b < w.heap.size) (ho : Off (fun k => k = w.heap.size + 1 ∨ k = w.heap.size + 1 + 1) W' W'') : Stp w W'' r R H' := by
  obtain ⟨R', h1, h2, h3⟩ := h
  have hR' : ∀ b, R' b ≠ .no → ¬ (b = w.heap.size + 1 ∨ b = w.heap.size + 1 + 1) := fun b hb' e => by
    rcases h3 b hb' with h4 | h4
    · have := hR b h4; omega
    · omega
  refine ⟨R', h1.keep ho.size (fun b hb' => ho.block b (h1.lt b hb') (hR' b hb')), ?_, fun b hb' => ?_⟩
  · exact ((Off.of_new hb _).trans h2).then ho (fun j hj e => by omega)
  · rcases h3 b hb' with h4 | h4
    · exact .inl h4
    · exact .inr (by omega)
theorem Stp.off (h : Stp W W' r R H') : Off (fun b => R b ≠ .no) W W' := by obtain ⟨R', _, h2, _⟩ := h; exact h2
end
section
variable {w : World} {r t : Nat} {R : Nat → Lab} {H : HS} {o : Ov} {A Rr : Option Addr} {c d : Nat}
set_option maxRecDepth 20000 in
set_option maxHeartbeats 4000000 in
theorem meant_alloc (h : RX w r R H) (hok : H.Ok t) (hcn : H.count ≤ 100000) (hll : H.L.length ≤ 100000) (hv : OpV w o A c Rr d) (hf : Fits o) (hk : o.kind = 0) :
    Calls Try.prog 17 #[.pointer (some ⟨r, 0, none⟩), .agg #[.int .i64 o.kind, .int .i64 o.k, .int .i64 o.i, .int .u8 (o.o.k : Int), .int .i64 o.o.tag, .slice A o.o.ws.length c, .string (str o.o.t), .int .u8 (o.w.k : Int), .int .i64 o.w.n, .slice Rr o.roots.length d]] w fun e w' => e = .returned (.agg (toldC (doF H o).2 none 0)) ∧ Stp w w' r R (doF H o).1 := by
  have hz := Dz.new w #[.int .i64 o.kind, .int .i64 o.k, .int .i64 o.i, .int .u8 (o.o.k : Int), .int .i64 o.o.tag, .slice A o.o.ws.length c, .string (str o.o.t), .int .u8 (o.w.k : Int), .int .i64 o.w.n, .slice Rr o.roots.length d]
  have hb := wD_below w #[.int .i64 o.kind, .int .i64 o.k, .int .i64 o.i, .int .u8 (o.o.k : Int), .int .i64 o.o.tag, .slice A o.o.ws.length c, .string (str o.o.t), .int .u8 (o.w.k : Int), .int .i64 o.w.n, .slice Rr o.roots.length d]
  have hs := wD_size w #[.int .i64 o.kind, .int .i64 o.k, .int .i64 o.i, .int .u8 (o.o.k : Int), .int .i64 o.o.tag, .slice A o.o.ws.length c, .string (str o.o.t), .int .u8 (o.w.k : Int), .int .i64 o.w.n, .slice Rr o.roots.length d]
  have hX := h.below hb
  have hsm : Hp.small o.o := ⟨by have := hf.1; omega, by have := hf.2.1; omega, hv.ok⟩
  have hoa : OArg (wD w #[.int .i64 o.kind, .int .i64 o.k, .int .i64 o.i, .int .u8 (o.o.k : Int), .int .i64 o.o.tag, .slice A o.o.ws.length c, .string (str o.o.t), .int .u8 (o.w.k : Int), .int .i64 o.w.n, .slice Rr o.roots.length d]) o.o A := ⟨hv.words.below hb, hsm, hv.tag⟩
  have hro := hv.roots.below hb
  have HC := ralloc_any hX hok hcn o.o A c hoa
  have hdo : doF H o = ((allocF H o.o).1, { noT with n := (allocF H o.o).2.1, e := (allocF H o.o).2.2 }) := by
    unfold doF
    rw [if_pos hk]
  rw [hdo]
  clear hdo
  obtain ⟨⟨H2, en, ee⟩, hF⟩ : ∃ p, allocF H o.o = p := ⟨_, rfl⟩
  rw [hF] at HC ⊢
  dsimp only at HC ⊢
  clear hF
  obtain ⟨n, hn⟩ : ∃ n, o.o.ws.length = n := ⟨_, rfl⟩
  obtain ⟨m, hm⟩ : ∃ m, o.roots.length = m := ⟨_, rfl⟩
  have hrs : obv o.o A c = .agg #[.int .u8 (o.o.k : Int), .int .i64 o.o.tag, .slice A o.o.ws.length c, .string (str o.o.t)] := rfl
  rw [hrs] at HC
  rw [hk, hn, hm] at HC hz hb hs ⊢
  replace HC := Lib.hid HC
  have HZ := Lib.hid (And.intro hz (And.intro hb (And.intro hs h.lt)))
  have e0 := hz.op.cell 0
  have e1 := hz.op.cell 1
  have e2 := hz.op.cell 2
  have e3 := hz.op.cell 3
  have e4 := hz.op.cell 4
  have e5 := hz.op.cell 5
  have e6 := hz.op.cell 6
  have e7 := hz.op.cell 7
  have e8 := hz.op.cell 8
  have e9 := hz.op.cell 9
  simp only [List.getElem?_toArray, List.getElem?_cons_zero, List.getElem?_cons_succ] at e0 e1 e2 e3 e4 e5 e6 e7 e8 e9
  clear hz hb hs hX hsm hoa hro h hok hcn hll hv hf hn hm
  go_enter Try.func17, Try.ntmps17
  go_wp2_with fail
  refine HC.out.mono ?_
  rintro e w2 ⟨rfl, hst⟩
  have hz2 := HZ.out.1.off hst.off HZ.out.2.2.2
  have x0 := hz2.x.cell 0
  have x1 := hz2.x.cell 1
  have x2 := hz2.x.cell 2
  have x3 := hz2.x.cell 3
  have x4 := hz2.x.cell 4
  have x5 := hz2.x.cell 5
  have x6 := hz2.x.cell 6
  have x7 := hz2.x.cell 7
  have x8 := hz2.x.cell 8
  have xf := hz2.x.frozen
  have y0 := hz2.r.cell 0
  have y1 := hz2.r.cell 1
  have y2 := hz2.r.cell 2
  have y3 := hz2.r.cell 3
  have y4 := hz2.r.cell 4
  have y5 := hz2.r.cell 5
  have y6 := hz2.r.cell 6
  have y7 := hz2.r.cell 7
  have y8 := hz2.r.cell 8
  have yf := hz2.r.frozen
  simp only [told0, List.getElem?_toArray, List.getElem?_cons_zero, List.getElem?_cons_succ] at x0 y0 x1 y1 x2 y2 x3 y3 x4 y4 x5 y5 x6 y6 x7 y7 x8 y8
  have HS2 := Lib.hid (And.intro hz2 hst)
  clear hz2 hst HC e0 e1 e2 e3 e4 e5 e6 e7 e8 e9
  go_wp2_with fail
  obtain ⟨hz2, hst⟩ := HS2.out
  have HB9 := ((hz2.r.far (p := ⟨w.heap.size + 1 + 1, 6, none⟩) (by show w.heap.size + 1 ≠ w.heap.size + 1 + 1; omega) (.int .i64 (en : Int))).far (p := ⟨w.heap.size + 1 + 1, 8, none⟩) (by show w.heap.size + 1 ≠ w.heap.size + 1 + 1; omega) (.int .i64 (ee : Int))).set9 (.int .u8 0) (.int .i64 0) (.slice none 0 0) (.string ⟨#[]⟩) (.int .u8 0) (.int .i64 0) (.int .i64 (en : Int)) (.bool false) (.int .i64 (ee : Int))
  refine bodyPost_ret (results_cell_row rfl _ _ (w.heap.size + 1) 39 _ (0, 0) _ rfl HB9 Try.underlying39 rfl (by kernel_rfl)) rfl ?_
  exact ⟨rfl, hst.fin HZ.out.2.1 HZ.out.2.2.1 HZ.out.2.2.2 ((offS (Off.setc _ _ _ _) _ _ _ rfl).mono (fun k _ e => .inr e)|>.trans ((off9 _ _ _ _ _ _ _ _ _ _ _).mono fun k _ e => .inl e))⟩
set_option maxRecDepth 20000 in
set_option maxHeartbeats 4000000 in
theorem meant_word (h : RX w r R H) (hok : H.Ok t) (hcn : H.count ≤ 100000) (hll : H.L.length ≤ 100000) (hv : OpV w o A c Rr d) (hf : Fits o) (hk : o.kind = 2) :
    Calls Try.prog 17 #[.pointer (some ⟨r, 0, none⟩), .agg #[.int .i64 o.kind, .int .i64 o.k, .int .i64 o.i, .int .u8 (o.o.k : Int), .int .i64 o.o.tag, .slice A o.o.ws.length c, .string (str o.o.t), .int .u8 (o.w.k : Int), .int .i64 o.w.n, .slice Rr o.roots.length d]] w fun e w' => e = .returned (.agg (toldC (doF H o).2 none 0)) ∧ Stp w w' r R (doF H o).1 := by
  have hz := Dz.new w #[.int .i64 o.kind, .int .i64 o.k, .int .i64 o.i, .int .u8 (o.o.k : Int), .int .i64 o.o.tag, .slice A o.o.ws.length c, .string (str o.o.t), .int .u8 (o.w.k : Int), .int .i64 o.w.n, .slice Rr o.roots.length d]
  have hb := wD_below w #[.int .i64 o.kind, .int .i64 o.k, .int .i64 o.i, .int .u8 (o.o.k : Int), .int .i64 o.o.tag, .slice A o.o.ws.length c, .string (str o.o.t), .int .u8 (o.w.k : Int), .int .i64 o.w.n, .slice Rr o.roots.length d]
  have hs := wD_size w #[.int .i64 o.kind, .int .i64 o.k, .int .i64 o.i, .int .u8 (o.o.k : Int), .int .i64 o.o.tag, .slice A o.o.ws.length c, .string (str o.o.t), .int .u8 (o.w.k : Int), .int .i64 o.w.n, .slice Rr o.roots.length d]
  have hX := h.below hb
  have hsm : Hp.small o.o := ⟨by have := hf.1; omega, by have := hf.2.1; omega, hv.ok⟩
  have hoa : OArg (wD w #[.int .i64 o.kind, .int .i64 o.k, .int .i64 o.i, .int .u8 (o.o.k : Int), .int .i64 o.o.tag, .slice A o.o.ws.length c, .string (str o.o.t), .int .u8 (o.w.k : Int), .int .i64 o.w.n, .slice Rr o.roots.length d]) o.o A := ⟨hv.words.below hb, hsm, hv.tag⟩
  have hro := hv.roots.below hb
  have HC := (rword_any hX hok o.k o.i).mono fun e w' h => (⟨h.1, Stp.of_below hX h.2⟩ : _ ∧ Stp (wD w #[.int .i64 o.kind, .int .i64 o.k, .int .i64 o.i, .int .u8 (o.o.k : Int), .int .i64 o.o.tag, .slice A o.o.ws.length c, .string (str o.o.t), .int .u8 (o.w.k : Int), .int .i64 o.w.n, .slice Rr o.roots.length d]) w' r R H)
  have hdo : doF H o = (H, { noT with w := (wordF H o.k o.i).1, is := (wordF H o.k o.i).2 }) := by
    unfold doF
    rw [if_neg (by omega), if_neg (by omega), if_pos hk]
  rw [hdo]
  clear hdo
  obtain ⟨⟨z, is⟩, hF⟩ : ∃ p, wordF H o.k o.i = p := ⟨_, rfl⟩
  rw [hF] at HC ⊢
  dsimp only at HC ⊢
  clear hF
  obtain ⟨n, hn⟩ : ∃ n, o.o.ws.length = n := ⟨_, rfl⟩
  obtain ⟨m, hm⟩ : ∃ m, o.roots.length = m := ⟨_, rfl⟩

  rw [hk, hn, hm] at HC hz hb hs ⊢
  replace HC := Lib.hid HC
  have HZ := Lib.hid (And.intro hz (And.intro hb (And.intro hs h.lt)))
  have e0 := hz.op.cell 0
  have e1 := hz.op.cell 1
  have e2 := hz.op.cell 2
  have e3 := hz.op.cell 3
  have e4 := hz.op.cell 4
  have e5 := hz.op.cell 5
  have e6 := hz.op.cell 6
  have e7 := hz.op.cell 7
  have e8 := hz.op.cell 8
  have e9 := hz.op.cell 9
  simp only [List.getElem?_toArray, List.getElem?_cons_zero, List.getElem?_cons_succ] at e0 e1 e2 e3 e4 e5 e6 e7 e8 e9
  clear hz hb hs hX hsm hoa hro h hok hcn hll hv hf hn hm
  go_enter Try.func17, Try.ntmps17
  go_wp2_with fail
  refine HC.out.mono ?_
  rintro e w2 ⟨rfl, hst⟩
  have hz2 := HZ.out.1.off hst.off HZ.out.2.2.2
  have x0 := hz2.x.cell 0
  have x1 := hz2.x.cell 1
  have x2 := hz2.x.cell 2
  have x3 := hz2.x.cell 3
  have x4 := hz2.x.cell 4
  have x5 := hz2.x.cell 5
  have x6 := hz2.x.cell 6
  have x7 := hz2.x.cell 7
  have x8 := hz2.x.cell 8
  have xf := hz2.x.frozen
  have y0 := hz2.r.cell 0
  have y1 := hz2.r.cell 1
  have y2 := hz2.r.cell 2
  have y3 := hz2.r.cell 3
  have y4 := hz2.r.cell 4
  have y5 := hz2.r.cell 5
  have y6 := hz2.r.cell 6
  have y7 := hz2.r.cell 7
  have y8 := hz2.r.cell 8
  have yf := hz2.r.frozen
  simp only [told0, List.getElem?_toArray, List.getElem?_cons_zero, List.getElem?_cons_succ] at x0 y0 x1 y1 x2 y2 x3 y3 x4 y4 x5 y5 x6 y6 x7 y7 x8 y8
  have HS2 := Lib.hid (And.intro hz2 hst)
  clear hz2 hst HC e0 e1 e2 e3 e4 e5 e6 e7 e8 e9
  go_wp2_with fail
  obtain ⟨hz2, hst⟩ := HS2.out
  have HB9 := (((hz2.r.far (p := ⟨w.heap.size + 1 + 1, 4, none⟩) (by show w.heap.size + 1 ≠ w.heap.size + 1 + 1; omega) (.int .u8 (z.k : Int))).far (p := ⟨w.heap.size + 1 + 1, 5, none⟩) (by show w.heap.size + 1 ≠ w.heap.size + 1 + 1; omega) (.int .i64 z.n)).far (p := ⟨w.heap.size + 1 + 1, 7, none⟩) (by show w.heap.size + 1 ≠ w.heap.size + 1 + 1; omega) (.bool is)).set9 (.int .u8 0) (.int .i64 0) (.slice none 0 0) (.string ⟨#[]⟩) (.int .u8 (z.k : Int)) (.int .i64 z.n) (.int .i64 0) (.bool is) (.int .i64 0)
  refine bodyPost_ret (results_cell_row rfl _ _ (w.heap.size + 1) 39 _ (0, 0) _ rfl HB9 Try.underlying39 rfl (by kernel_rfl)) rfl ?_
  exact ⟨rfl, hst.fin HZ.out.2.1 HZ.out.2.2.1 HZ.out.2.2.2 ((offS (offS (Off.setc _ _ _ _) _ _ _ rfl) _ _ _ rfl).mono (fun k _ e => .inr e)|>.trans ((off9 _ _ _ _ _ _ _ _ _ _ _).mono fun k _ e => .inl e))⟩
set_option maxRecDepth 20000 in
set_option maxHeartbeats 4000000 in
theorem meant_set (h : RX w r R H) (hok : H.Ok t) (hcn : H.count ≤ 100000) (hll : H.L.length ≤ 100000) (hv : OpV w o A c Rr d) (hf : Fits o) (hk : o.kind = 3) :
    Calls Try.prog 17 #[.pointer (some ⟨r, 0, none⟩), .agg #[.int .i64 o.kind, .int .i64 o.k, .int .i64 o.i, .int .u8 (o.o.k : Int), .int .i64 o.o.tag, .slice A o.o.ws.length c, .string (str o.o.t), .int .u8 (o.w.k : Int), .int .i64 o.w.n, .slice Rr o.roots.length d]] w fun e w' => e = .returned (.agg (toldC (doF H o).2 none 0)) ∧ Stp w w' r R (doF H o).1 := by
  have hz := Dz.new w #[.int .i64 o.kind, .int .i64 o.k, .int .i64 o.i, .int .u8 (o.o.k : Int), .int .i64 o.o.tag, .slice A o.o.ws.length c, .string (str o.o.t), .int .u8 (o.w.k : Int), .int .i64 o.w.n, .slice Rr o.roots.length d]
  have hb := wD_below w #[.int .i64 o.kind, .int .i64 o.k, .int .i64 o.i, .int .u8 (o.o.k : Int), .int .i64 o.o.tag, .slice A o.o.ws.length c, .string (str o.o.t), .int .u8 (o.w.k : Int), .int .i64 o.w.n, .slice Rr o.roots.length d]
  have hs := wD_size w #[.int .i64 o.kind, .int .i64 o.k, .int .i64 o.i, .int .u8 (o.o.k : Int), .int .i64 o.o.tag, .slice A o.o.ws.length c, .string (str o.o.t), .int .u8 (o.w.k : Int), .int .i64 o.w.n, .slice Rr o.roots.length d]
  have hX := h.below hb
  have hsm : Hp.small o.o := ⟨by have := hf.1; omega, by have := hf.2.1; omega, hv.ok⟩
  have hoa : OArg (wD w #[.int .i64 o.kind, .int .i64 o.k, .int .i64 o.i, .int .u8 (o.o.k : Int), .int .i64 o.o.tag, .slice A o.o.ws.length c, .string (str o.o.t), .int .u8 (o.w.k : Int), .int .i64 o.w.n, .slice Rr o.roots.length d]) o.o A := ⟨hv.words.below hb, hsm, hv.tag⟩
  have hro := hv.roots.below hb
  have HC := rset_any hX hok o.k o.i o.w hv.wd
  have hdo : doF H o = ((setF H o.k o.i o.w).1, { noT with is := (setF H o.k o.i o.w).2 }) := by
    unfold doF
    rw [if_neg (by omega), if_neg (by omega), if_neg (by omega), if_pos hk]
  rw [hdo]
  clear hdo
  obtain ⟨⟨H2, is⟩, hF⟩ : ∃ p, setF H o.k o.i o.w = p := ⟨_, rfl⟩
  rw [hF] at HC ⊢
  dsimp only at HC ⊢
  clear hF
  obtain ⟨n, hn⟩ : ∃ n, o.o.ws.length = n := ⟨_, rfl⟩
  obtain ⟨m, hm⟩ : ∃ m, o.roots.length = m := ⟨_, rfl⟩

  rw [hk, hn, hm] at HC hz hb hs ⊢
  replace HC := Lib.hid HC
  have HZ := Lib.hid (And.intro hz (And.intro hb (And.intro hs h.lt)))
  have e0 := hz.op.cell 0
  have e1 := hz.op.cell 1
  have e2 := hz.op.cell 2
  have e3 := hz.op.cell 3
  have e4 := hz.op.cell 4
  have e5 := hz.op.cell 5
  have e6 := hz.op.cell 6
  have e7 := hz.op.cell 7
  have e8 := hz.op.cell 8
  have e9 := hz.op.cell 9
  simp only [List.getElem?_toArray, List.getElem?_cons_zero, List.getElem?_cons_succ] at e0 e1 e2 e3 e4 e5 e6 e7 e8 e9
  clear hz hb hs hX hsm hoa hro h hok hcn hll hv hf hn hm
  go_enter Try.func17, Try.ntmps17
  go_wp2_with fail
  refine HC.out.mono ?_
  rintro e w2 ⟨rfl, hst⟩
  have hz2 := HZ.out.1.off hst.off HZ.out.2.2.2
  have x0 := hz2.x.cell 0
  have x1 := hz2.x.cell 1
  have x2 := hz2.x.cell 2
  have x3 := hz2.x.cell 3
  have x4 := hz2.x.cell 4
  have x5 := hz2.x.cell 5
  have x6 := hz2.x.cell 6
  have x7 := hz2.x.cell 7
  have x8 := hz2.x.cell 8
  have xf := hz2.x.frozen
  have y0 := hz2.r.cell 0
  have y1 := hz2.r.cell 1
  have y2 := hz2.r.cell 2
  have y3 := hz2.r.cell 3
  have y4 := hz2.r.cell 4
  have y5 := hz2.r.cell 5
  have y6 := hz2.r.cell 6
  have y7 := hz2.r.cell 7
  have y8 := hz2.r.cell 8
  have yf := hz2.r.frozen
  simp only [told0, List.getElem?_toArray, List.getElem?_cons_zero, List.getElem?_cons_succ] at x0 y0 x1 y1 x2 y2 x3 y3 x4 y4 x5 y5 x6 y6 x7 y7 x8 y8
  have HS2 := Lib.hid (And.intro hz2 hst)
  clear hz2 hst HC e0 e1 e2 e3 e4 e5 e6 e7 e8 e9
  go_wp2_with fail
  obtain ⟨hz2, hst⟩ := HS2.out
  have HB9 := (hz2.r.far (p := ⟨w.heap.size + 1 + 1, 7, none⟩) (by show w.heap.size + 1 ≠ w.heap.size + 1 + 1; omega) (.bool is)).set9 (.int .u8 0) (.int .i64 0) (.slice none 0 0) (.string ⟨#[]⟩) (.int .u8 0) (.int .i64 0) (.int .i64 0) (.bool is) (.int .i64 0)
  refine bodyPost_ret (results_cell_row rfl _ _ (w.heap.size + 1) 39 _ (0, 0) _ rfl HB9 Try.underlying39 rfl (by kernel_rfl)) rfl ?_
  exact ⟨rfl, hst.fin HZ.out.2.1 HZ.out.2.2.1 HZ.out.2.2.2 ((Off.setc _ _ _ _).mono (fun k _ e => .inr e)|>.trans ((off9 _ _ _ _ _ _ _ _ _ _ _).mono fun k _ e => .inl e))⟩
set_option maxRecDepth 20000 in
set_option maxHeartbeats 4000000 in
theorem meant_tie (h : RX w r R H) (hok : H.Ok t) (hcn : H.count ≤ 100000) (hll : H.L.length ≤ 100000) (hv : OpV w o A c Rr d) (hf : Fits o) (hk : o.kind = 4) :
    Calls Try.prog 17 #[.pointer (some ⟨r, 0, none⟩), .agg #[.int .i64 o.kind, .int .i64 o.k, .int .i64 o.i, .int .u8 (o.o.k : Int), .int .i64 o.o.tag, .slice A o.o.ws.length c, .string (str o.o.t), .int .u8 (o.w.k : Int), .int .i64 o.w.n, .slice Rr o.roots.length d]] w fun e w' => e = .returned (.agg (toldC (doF H o).2 none 0)) ∧ Stp w w' r R (doF H o).1 := by
  have hz := Dz.new w #[.int .i64 o.kind, .int .i64 o.k, .int .i64 o.i, .int .u8 (o.o.k : Int), .int .i64 o.o.tag, .slice A o.o.ws.length c, .string (str o.o.t), .int .u8 (o.w.k : Int), .int .i64 o.w.n, .slice Rr o.roots.length d]
  have hb := wD_below w #[.int .i64 o.kind, .int .i64 o.k, .int .i64 o.i, .int .u8 (o.o.k : Int), .int .i64 o.o.tag, .slice A o.o.ws.length c, .string (str o.o.t), .int .u8 (o.w.k : Int), .int .i64 o.w.n, .slice Rr o.roots.length d]
  have hs := wD_size w #[.int .i64 o.kind, .int .i64 o.k, .int .i64 o.i, .int .u8 (o.o.k : Int), .int .i64 o.o.tag, .slice A o.o.ws.length c, .string (str o.o.t), .int .u8 (o.w.k : Int), .int .i64 o.w.n, .slice Rr o.roots.length d]
  have hX := h.below hb
  have hsm : Hp.small o.o := ⟨by have := hf.1; omega, by have := hf.2.1; omega, hv.ok⟩
  have hoa : OArg (wD w #[.int .i64 o.kind, .int .i64 o.k, .int .i64 o.i, .int .u8 (o.o.k : Int), .int .i64 o.o.tag, .slice A o.o.ws.length c, .string (str o.o.t), .int .u8 (o.w.k : Int), .int .i64 o.w.n, .slice Rr o.roots.length d]) o.o A := ⟨hv.words.below hb, hsm, hv.tag⟩
  have hro := hv.roots.below hb
  have HC := rtie_any hX hok hcn o.k o.i
  have hdo : doF H o = ((tieF H o.k o.i).1, { noT with e := (tieF H o.k o.i).2 }) := by
    unfold doF
    rw [if_neg (by omega), if_neg (by omega), if_neg (by omega), if_neg (by omega), if_pos hk]
  rw [hdo]
  clear hdo
  obtain ⟨⟨H2, ee⟩, hF⟩ : ∃ p, tieF H o.k o.i = p := ⟨_, rfl⟩
  rw [hF] at HC ⊢
  dsimp only at HC ⊢
  clear hF
  obtain ⟨n, hn⟩ : ∃ n, o.o.ws.length = n := ⟨_, rfl⟩
  obtain ⟨m, hm⟩ : ∃ m, o.roots.length = m := ⟨_, rfl⟩

  rw [hk, hn, hm] at HC hz hb hs ⊢
  replace HC := Lib.hid HC
  have HZ := Lib.hid (And.intro hz (And.intro hb (And.intro hs h.lt)))
  have e0 := hz.op.cell 0
  have e1 := hz.op.cell 1
  have e2 := hz.op.cell 2
  have e3 := hz.op.cell 3
  have e4 := hz.op.cell 4
  have e5 := hz.op.cell 5
  have e6 := hz.op.cell 6
  have e7 := hz.op.cell 7
  have e8 := hz.op.cell 8
  have e9 := hz.op.cell 9
  simp only [List.getElem?_toArray, List.getElem?_cons_zero, List.getElem?_cons_succ] at e0 e1 e2 e3 e4 e5 e6 e7 e8 e9
  clear hz hb hs hX hsm hoa hro h hok hcn hll hv hf hn hm
  go_enter Try.func17, Try.ntmps17
  go_wp2_with fail
  refine HC.out.mono ?_
  rintro e w2 ⟨rfl, hst⟩
  have hz2 := HZ.out.1.off hst.off HZ.out.2.2.2
  have x0 := hz2.x.cell 0
  have x1 := hz2.x.cell 1
  have x2 := hz2.x.cell 2
  have x3 := hz2.x.cell 3
  have x4 := hz2.x.cell 4
  have x5 := hz2.x.cell 5
  have x6 := hz2.x.cell 6
  have x7 := hz2.x.cell 7
  have x8 := hz2.x.cell 8
  have xf := hz2.x.frozen
  have y0 := hz2.r.cell 0
  have y1 := hz2.r.cell 1
  have y2 := hz2.r.cell 2
  have y3 := hz2.r.cell 3
  have y4 := hz2.r.cell 4
  have y5 := hz2.r.cell 5
  have y6 := hz2.r.cell 6
  have y7 := hz2.r.cell 7
  have y8 := hz2.r.cell 8
  have yf := hz2.r.frozen
  simp only [told0, List.getElem?_toArray, List.getElem?_cons_zero, List.getElem?_cons_succ] at x0 y0 x1 y1 x2 y2 x3 y3 x4 y4 x5 y5 x6 y6 x7 y7 x8 y8
  have HS2 := Lib.hid (And.intro hz2 hst)
  clear hz2 hst HC e0 e1 e2 e3 e4 e5 e6 e7 e8 e9
  go_wp2_with fail
  obtain ⟨hz2, hst⟩ := HS2.out
  have HB9 := (hz2.r.far (p := ⟨w.heap.size + 1 + 1, 8, none⟩) (by show w.heap.size + 1 ≠ w.heap.size + 1 + 1; omega) (.int .i64 (ee : Int))).set9 (.int .u8 0) (.int .i64 0) (.slice none 0 0) (.string ⟨#[]⟩) (.int .u8 0) (.int .i64 0) (.int .i64 0) (.bool false) (.int .i64 (ee : Int))
  refine bodyPost_ret (results_cell_row rfl _ _ (w.heap.size + 1) 39 _ (0, 0) _ rfl HB9 Try.underlying39 rfl (by kernel_rfl)) rfl ?_
  exact ⟨rfl, hst.fin HZ.out.2.1 HZ.out.2.2.1 HZ.out.2.2.2 ((Off.setc _ _ _ _).mono (fun k _ e => .inr e)|>.trans ((off9 _ _ _ _ _ _ _ _ _ _ _).mono fun k _ e => .inl e))⟩
set_option maxRecDepth 20000 in
set_option maxHeartbeats 4000000 in
theorem meant_untie (h : RX w r R H) (hok : H.Ok t) (hcn : H.count ≤ 100000) (hll : H.L.length ≤ 100000) (hv : OpV w o A c Rr d) (hf : Fits o) (hk : o.kind = 5) :
    Calls Try.prog 17 #[.pointer (some ⟨r, 0, none⟩), .agg #[.int .i64 o.kind, .int .i64 o.k, .int .i64 o.i, .int .u8 (o.o.k : Int), .int .i64 o.o.tag, .slice A o.o.ws.length c, .string (str o.o.t), .int .u8 (o.w.k : Int), .int .i64 o.w.n, .slice Rr o.roots.length d]] w fun e w' => e = .returned (.agg (toldC (doF H o).2 none 0)) ∧ Stp w w' r R (doF H o).1 := by
  have hz := Dz.new w #[.int .i64 o.kind, .int .i64 o.k, .int .i64 o.i, .int .u8 (o.o.k : Int), .int .i64 o.o.tag, .slice A o.o.ws.length c, .string (str o.o.t), .int .u8 (o.w.k : Int), .int .i64 o.w.n, .slice Rr o.roots.length d]
  have hb := wD_below w #[.int .i64 o.kind, .int .i64 o.k, .int .i64 o.i, .int .u8 (o.o.k : Int), .int .i64 o.o.tag, .slice A o.o.ws.length c, .string (str o.o.t), .int .u8 (o.w.k : Int), .int .i64 o.w.n, .slice Rr o.roots.length d]
  have hs := wD_size w #[.int .i64 o.kind, .int .i64 o.k, .int .i64 o.i, .int .u8 (o.o.k : Int), .int .i64 o.o.tag, .slice A o.o.ws.length c, .string (str o.o.t), .int .u8 (o.w.k : Int), .int .i64 o.w.n, .slice Rr o.roots.length d]
  have hX := h.below hb
  have hsm : Hp.small o.o := ⟨by have := hf.1; omega, by have := hf.2.1; omega, hv.ok⟩
  have hoa : OArg (wD w #[.int .i64 o.kind, .int .i64 o.k, .int .i64 o.i, .int .u8 (o.o.k : Int), .int .i64 o.o.tag, .slice A o.o.ws.length c, .string (str o.o.t), .int .u8 (o.w.k : Int), .int .i64 o.w.n, .slice Rr o.roots.length d]) o.o A := ⟨hv.words.below hb, hsm, hv.tag⟩
  have hro := hv.roots.below hb
  have HC := runtie_any hX hok o.k
  have hdo : doF H o = ((untieF H o.k).1, { noT with is := (untieF H o.k).2 }) := by
    unfold doF
    rw [if_neg (by omega), if_neg (by omega), if_neg (by omega), if_neg (by omega), if_neg (by omega), if_pos hk]
  rw [hdo]
  clear hdo
  obtain ⟨⟨H2, is⟩, hF⟩ : ∃ p, untieF H o.k = p := ⟨_, rfl⟩
  rw [hF] at HC ⊢
  dsimp only at HC ⊢
  clear hF
  obtain ⟨n, hn⟩ : ∃ n, o.o.ws.length = n := ⟨_, rfl⟩
  obtain ⟨m, hm⟩ : ∃ m, o.roots.length = m := ⟨_, rfl⟩

  rw [hk, hn, hm] at HC hz hb hs ⊢
  replace HC := Lib.hid HC
  have HZ := Lib.hid (And.intro hz (And.intro hb (And.intro hs h.lt)))
  have e0 := hz.op.cell 0
  have e1 := hz.op.cell 1
  have e2 := hz.op.cell 2
  have e3 := hz.op.cell 3
  have e4 := hz.op.cell 4
  have e5 := hz.op.cell 5
  have e6 := hz.op.cell 6
  have e7 := hz.op.cell 7
  have e8 := hz.op.cell 8
  have e9 := hz.op.cell 9
  simp only [List.getElem?_toArray, List.getElem?_cons_zero, List.getElem?_cons_succ] at e0 e1 e2 e3 e4 e5 e6 e7 e8 e9
  clear hz hb hs hX hsm hoa hro h hok hcn hll hv hf hn hm
  go_enter Try.func17, Try.ntmps17
  go_wp2_with fail
  refine HC.out.mono ?_
  rintro e w2 ⟨rfl, hst⟩
  have hz2 := HZ.out.1.off hst.off HZ.out.2.2.2
  have x0 := hz2.x.cell 0
  have x1 := hz2.x.cell 1
  have x2 := hz2.x.cell 2
  have x3 := hz2.x.cell 3
  have x4 := hz2.x.cell 4
  have x5 := hz2.x.cell 5
  have x6 := hz2.x.cell 6
  have x7 := hz2.x.cell 7
  have x8 := hz2.x.cell 8
  have xf := hz2.x.frozen
  have y0 := hz2.r.cell 0
  have y1 := hz2.r.cell 1
  have y2 := hz2.r.cell 2
  have y3 := hz2.r.cell 3
  have y4 := hz2.r.cell 4
  have y5 := hz2.r.cell 5
  have y6 := hz2.r.cell 6
  have y7 := hz2.r.cell 7
  have y8 := hz2.r.cell 8
  have yf := hz2.r.frozen
  simp only [told0, List.getElem?_toArray, List.getElem?_cons_zero, List.getElem?_cons_succ] at x0 y0 x1 y1 x2 y2 x3 y3 x4 y4 x5 y5 x6 y6 x7 y7 x8 y8
  have HS2 := Lib.hid (And.intro hz2 hst)
  clear hz2 hst HC e0 e1 e2 e3 e4 e5 e6 e7 e8 e9
  go_wp2_with fail
  obtain ⟨hz2, hst⟩ := HS2.out
  have HB9 := (hz2.r.far (p := ⟨w.heap.size + 1 + 1, 7, none⟩) (by show w.heap.size + 1 ≠ w.heap.size + 1 + 1; omega) (.bool is)).set9 (.int .u8 0) (.int .i64 0) (.slice none 0 0) (.string ⟨#[]⟩) (.int .u8 0) (.int .i64 0) (.int .i64 0) (.bool is) (.int .i64 0)
  refine bodyPost_ret (results_cell_row rfl _ _ (w.heap.size + 1) 39 _ (0, 0) _ rfl HB9 Try.underlying39 rfl (by kernel_rfl)) rfl ?_
  exact ⟨rfl, hst.fin HZ.out.2.1 HZ.out.2.2.1 HZ.out.2.2.2 ((Off.setc _ _ _ _).mono (fun k _ e => .inr e)|>.trans ((off9 _ _ _ _ _ _ _ _ _ _ _).mono fun k _ e => .inl e))⟩
end
end Go.Proofs.Ytclkkfffecmjnaa
namespace Go.Proofs.Ytclkkfffecmjnaa
open Go.RowKit
set_option linter.unusedVariables false
set_option linter.unusedSimpArgs false
attribute [local go_sem] Oper.semAt_some
section
variable {w : World} {r t : Nat} {R : Nat → Lab} {H : HS} {o : Ov} {A Rr : Option Addr} {c d : Nat}
set_option maxRecDepth 20000 in
set_option maxHeartbeats 4000000 in
theorem meant_oid (h : RX w r R H) (hok : H.Ok t) (hcn : H.count ≤ 100000) (hll : H.L.length ≤ 100000) (hv : OpV w o A c Rr d) (hf : Fits o) (hk : o.kind = 6) :
    Calls Try.prog 17 #[.pointer (some ⟨r, 0, none⟩), .agg #[.int .i64 o.kind, .int .i64 o.k, .int .i64 o.i, .int .u8 (o.o.k : Int), .int .i64 o.o.tag, .slice A o.o.ws.length c, .string (str o.o.t), .int .u8 (o.w.k : Int), .int .i64 o.w.n, .slice Rr o.roots.length d]] w fun e w' => e = .returned (.agg (toldC (doF H o).2 none 0)) ∧ Stp w w' r R (doF H o).1 := by
  have hz := Dz.new w #[.int .i64 o.kind, .int .i64 o.k, .int .i64 o.i, .int .u8 (o.o.k : Int), .int .i64 o.o.tag, .slice A o.o.ws.length c, .string (str o.o.t), .int .u8 (o.w.k : Int), .int .i64 o.w.n, .slice Rr o.roots.length d]
  have hb := wD_below w #[.int .i64 o.kind, .int .i64 o.k, .int .i64 o.i, .int .u8 (o.o.k : Int), .int .i64 o.o.tag, .slice A o.o.ws.length c, .string (str o.o.t), .int .u8 (o.w.k : Int), .int .i64 o.w.n, .slice Rr o.roots.length d]
  have hs := wD_size w #[.int .i64 o.kind, .int .i64 o.k, .int .i64 o.i, .int .u8 (o.o.k : Int), .int .i64 o.o.tag, .slice A o.o.ws.length c, .string (str o.o.t), .int .u8 (o.w.k : Int), .int .i64 o.w.n, .slice Rr o.roots.length d]
  have hX := h.below hb
  have hsm : Hp.small o.o := ⟨by have := hf.1; omega, by have := hf.2.1; omega, hv.ok⟩
  have hoa : OArg (wD w #[.int .i64 o.kind, .int .i64 o.k, .int .i64 o.i, .int .u8 (o.o.k : Int), .int .i64 o.o.tag, .slice A o.o.ws.length c, .string (str o.o.t), .int .u8 (o.w.k : Int), .int .i64 o.w.n, .slice Rr o.roots.length d]) o.o A := ⟨hv.words.below hb, hsm, hv.tag⟩
  have hro := hv.roots.below hb
  have HC := (roid_any hX hok o.k).mono fun e w' h => (⟨h.1, h.2 ▸ Stp.id hX⟩ : _ ∧ Stp (wD w #[.int .i64 o.kind, .int .i64 o.k, .int .i64 o.i, .int .u8 (o.o.k : Int), .int .i64 o.o.tag, .slice A o.o.ws.length c, .string (str o.o.t), .int .u8 (o.w.k : Int), .int .i64 o.w.n, .slice Rr o.roots.length d]) w' r R H)
  have hdo : doF H o = (H, { noT with n := (H.oidOf o.k).getD 0, is := (H.oidOf o.k).isSome }) := by
    unfold doF
    rw [if_neg (by omega), if_neg (by omega), if_neg (by omega), if_neg (by omega), if_neg (by omega), if_neg (by omega), if_pos hk]
  rw [hdo]
  clear hdo
  obtain ⟨en, hen⟩ : ∃ n, (H.oidOf o.k).getD 0 = n := ⟨_, rfl⟩
  obtain ⟨is, his⟩ : ∃ b, (H.oidOf o.k).isSome = b := ⟨_, rfl⟩
  rw [hen, his] at HC ⊢
  clear hen his
  obtain ⟨n, hn⟩ : ∃ n, o.o.ws.length = n := ⟨_, rfl⟩
  obtain ⟨m, hm⟩ : ∃ m, o.roots.length = m := ⟨_, rfl⟩

  rw [hk, hn, hm] at HC hz hb hs ⊢
  replace HC := Lib.hid HC
  have HZ := Lib.hid (And.intro hz (And.intro hb (And.intro hs h.lt)))
  have e0 := hz.op.cell 0
  have e1 := hz.op.cell 1
  have e2 := hz.op.cell 2
  have e3 := hz.op.cell 3
  have e4 := hz.op.cell 4
  have e5 := hz.op.cell 5
  have e6 := hz.op.cell 6
  have e7 := hz.op.cell 7
  have e8 := hz.op.cell 8
  have e9 := hz.op.cell 9
  simp only [List.getElem?_toArray, List.getElem?_cons_zero, List.getElem?_cons_succ] at e0 e1 e2 e3 e4 e5 e6 e7 e8 e9
  clear hz hb hs hX hsm hoa hro h hok hcn hll hv hf hn hm
  go_enter Try.func17, Try.ntmps17
  go_wp2_with fail
  refine HC.out.mono ?_
  rintro e w2 ⟨rfl, hst⟩
  have hz2 := HZ.out.1.off hst.off HZ.out.2.2.2
  have x0 := hz2.x.cell 0
  have x1 := hz2.x.cell 1
  have x2 := hz2.x.cell 2
  have x3 := hz2.x.cell 3
  have x4 := hz2.x.cell 4
  have x5 := hz2.x.cell 5
  have x6 := hz2.x.cell 6
  have x7 := hz2.x.cell 7
  have x8 := hz2.x.cell 8
  have xf := hz2.x.frozen
  have y0 := hz2.r.cell 0
  have y1 := hz2.r.cell 1
  have y2 := hz2.r.cell 2
  have y3 := hz2.r.cell 3
  have y4 := hz2.r.cell 4
  have y5 := hz2.r.cell 5
  have y6 := hz2.r.cell 6
  have y7 := hz2.r.cell 7
  have y8 := hz2.r.cell 8
  have yf := hz2.r.frozen
  simp only [told0, List.getElem?_toArray, List.getElem?_cons_zero, List.getElem?_cons_succ] at x0 y0 x1 y1 x2 y2 x3 y3 x4 y4 x5 y5 x6 y6 x7 y7 x8 y8
  have HS2 := Lib.hid (And.intro hz2 hst)
  clear hz2 hst HC e0 e1 e2 e3 e4 e5 e6 e7 e8 e9
  go_wp2_with fail
  obtain ⟨hz2, hst⟩ := HS2.out
  have HB9 := ((hz2.r.far (p := ⟨w.heap.size + 1 + 1, 6, none⟩) (by show w.heap.size + 1 ≠ w.heap.size + 1 + 1; omega) (.int .i64 (en : Int))).far (p := ⟨w.heap.size + 1 + 1, 7, none⟩) (by show w.heap.size + 1 ≠ w.heap.size + 1 + 1; omega) (.bool is)).set9 (.int .u8 0) (.int .i64 0) (.slice none 0 0) (.string ⟨#[]⟩) (.int .u8 0) (.int .i64 0) (.int .i64 (en : Int)) (.bool is) (.int .i64 0)
  refine bodyPost_ret (results_cell_row rfl _ _ (w.heap.size + 1) 39 _ (0, 0) _ rfl HB9 Try.underlying39 rfl (by kernel_rfl)) rfl ?_
  exact ⟨rfl, hst.fin HZ.out.2.1 HZ.out.2.2.1 HZ.out.2.2.2 ((offS (Off.setc _ _ _ _) _ _ _ rfl).mono (fun k _ e => .inr e)|>.trans ((off9 _ _ _ _ _ _ _ _ _ _ _).mono fun k _ e => .inl e))⟩
set_option maxRecDepth 20000 in
set_option maxHeartbeats 4000000 in
theorem meant_of (h : RX w r R H) (hok : H.Ok t) (hcn : H.count ≤ 100000) (hll : H.L.length ≤ 100000) (hv : OpV w o A c Rr d) (hf : Fits o) (hk : o.kind = 7) :
    Calls Try.prog 17 #[.pointer (some ⟨r, 0, none⟩), .agg #[.int .i64 o.kind, .int .i64 o.k, .int .i64 o.i, .int .u8 (o.o.k : Int), .int .i64 o.o.tag, .slice A o.o.ws.length c, .string (str o.o.t), .int .u8 (o.w.k : Int), .int .i64 o.w.n, .slice Rr o.roots.length d]] w fun e w' => e = .returned (.agg (toldC (doF H o).2 none 0)) ∧ Stp w w' r R (doF H o).1 := by
  have hz := Dz.new w #[.int .i64 o.kind, .int .i64 o.k, .int .i64 o.i, .int .u8 (o.o.k : Int), .int .i64 o.o.tag, .slice A o.o.ws.length c, .string (str o.o.t), .int .u8 (o.w.k : Int), .int .i64 o.w.n, .slice Rr o.roots.length d]
  have hb := wD_below w #[.int .i64 o.kind, .int .i64 o.k, .int .i64 o.i, .int .u8 (o.o.k : Int), .int .i64 o.o.tag, .slice A o.o.ws.length c, .string (str o.o.t), .int .u8 (o.w.k : Int), .int .i64 o.w.n, .slice Rr o.roots.length d]
  have hs := wD_size w #[.int .i64 o.kind, .int .i64 o.k, .int .i64 o.i, .int .u8 (o.o.k : Int), .int .i64 o.o.tag, .slice A o.o.ws.length c, .string (str o.o.t), .int .u8 (o.w.k : Int), .int .i64 o.w.n, .slice Rr o.roots.length d]
  have hX := h.below hb
  have hsm : Hp.small o.o := ⟨by have := hf.1; omega, by have := hf.2.1; omega, hv.ok⟩
  have hoa : OArg (wD w #[.int .i64 o.kind, .int .i64 o.k, .int .i64 o.i, .int .u8 (o.o.k : Int), .int .i64 o.o.tag, .slice A o.o.ws.length c, .string (str o.o.t), .int .u8 (o.w.k : Int), .int .i64 o.w.n, .slice Rr o.roots.length d]) o.o A := ⟨hv.words.below hb, hsm, hv.tag⟩
  have hro := hv.roots.below hb
  have HC := (rof_rx hX hok hcn o.i).mono fun e w' h => (⟨h.1, h.2 ▸ Stp.id hX⟩ : _ ∧ Stp (wD w #[.int .i64 o.kind, .int .i64 o.k, .int .i64 o.i, .int .u8 (o.o.k : Int), .int .i64 o.o.tag, .slice A o.o.ws.length c, .string (str o.o.t), .int .u8 (o.w.k : Int), .int .i64 o.w.n, .slice Rr o.roots.length d]) w' r R H)
  have hdo : doF H o = (H, { noT with n := (H.ofOid o.i).getD 0, is := (H.ofOid o.i).isSome }) := by
    unfold doF
    rw [if_neg (by omega), if_neg (by omega), if_neg (by omega), if_neg (by omega), if_neg (by omega), if_neg (by omega), if_neg (by omega), if_pos hk]
  rw [hdo]
  clear hdo
  obtain ⟨en, hen⟩ : ∃ n, (H.ofOid o.i).getD 0 = n := ⟨_, rfl⟩
  obtain ⟨is, his⟩ : ∃ b, (H.ofOid o.i).isSome = b := ⟨_, rfl⟩
  rw [hen, his] at HC ⊢
  clear hen his
  obtain ⟨n, hn⟩ : ∃ n, o.o.ws.length = n := ⟨_, rfl⟩
  obtain ⟨m, hm⟩ : ∃ m, o.roots.length = m := ⟨_, rfl⟩

  rw [hk, hn, hm] at HC hz hb hs ⊢
  replace HC := Lib.hid HC
  have HZ := Lib.hid (And.intro hz (And.intro hb (And.intro hs h.lt)))
  have e0 := hz.op.cell 0
  have e1 := hz.op.cell 1
  have e2 := hz.op.cell 2
  have e3 := hz.op.cell 3
  have e4 := hz.op.cell 4
  have e5 := hz.op.cell 5
  have e6 := hz.op.cell 6
  have e7 := hz.op.cell 7
  have e8 := hz.op.cell 8
  have e9 := hz.op.cell 9
  simp only [List.getElem?_toArray, List.getElem?_cons_zero, List.getElem?_cons_succ] at e0 e1 e2 e3 e4 e5 e6 e7 e8 e9
  clear hz hb hs hX hsm hoa hro h hok hcn hll hv hf hn hm
  go_enter Try.func17, Try.ntmps17
  go_wp2_with fail
  refine HC.out.mono ?_
  rintro e w2 ⟨rfl, hst⟩
  have hz2 := HZ.out.1.off hst.off HZ.out.2.2.2
  have x0 := hz2.x.cell 0
  have x1 := hz2.x.cell 1
  have x2 := hz2.x.cell 2
  have x3 := hz2.x.cell 3
  have x4 := hz2.x.cell 4
  have x5 := hz2.x.cell 5
  have x6 := hz2.x.cell 6
  have x7 := hz2.x.cell 7
  have x8 := hz2.x.cell 8
  have xf := hz2.x.frozen
  have y0 := hz2.r.cell 0
  have y1 := hz2.r.cell 1
  have y2 := hz2.r.cell 2
  have y3 := hz2.r.cell 3
  have y4 := hz2.r.cell 4
  have y5 := hz2.r.cell 5
  have y6 := hz2.r.cell 6
  have y7 := hz2.r.cell 7
  have y8 := hz2.r.cell 8
  have yf := hz2.r.frozen
  simp only [told0, List.getElem?_toArray, List.getElem?_cons_zero, List.getElem?_cons_succ] at x0 y0 x1 y1 x2 y2 x3 y3 x4 y4 x5 y5 x6 y6 x7 y7 x8 y8
  have HS2 := Lib.hid (And.intro hz2 hst)
  clear hz2 hst HC e0 e1 e2 e3 e4 e5 e6 e7 e8 e9
  go_wp2_with fail
  obtain ⟨hz2, hst⟩ := HS2.out
  have HB9 := ((hz2.r.far (p := ⟨w.heap.size + 1 + 1, 6, none⟩) (by show w.heap.size + 1 ≠ w.heap.size + 1 + 1; omega) (.int .i64 (en : Int))).far (p := ⟨w.heap.size + 1 + 1, 7, none⟩) (by show w.heap.size + 1 ≠ w.heap.size + 1 + 1; omega) (.bool is)).set9 (.int .u8 0) (.int .i64 0) (.slice none 0 0) (.string ⟨#[]⟩) (.int .u8 0) (.int .i64 0) (.int .i64 (en : Int)) (.bool is) (.int .i64 0)
  refine bodyPost_ret (results_cell_row rfl _ _ (w.heap.size + 1) 39 _ (0, 0) _ rfl HB9 Try.underlying39 rfl (by kernel_rfl)) rfl ?_
  exact ⟨rfl, hst.fin HZ.out.2.1 HZ.out.2.2.1 HZ.out.2.2.2 ((offS (Off.setc _ _ _ _) _ _ _ rfl).mono (fun k _ e => .inr e)|>.trans ((off9 _ _ _ _ _ _ _ _ _ _ _).mono fun k _ e => .inl e))⟩
set_option maxRecDepth 20000 in
set_option maxHeartbeats 4000000 in
theorem meant_fill (h : RX w r R H) (hok : H.Ok t) (hcn : H.count ≤ 100000) (hll : H.L.length ≤ 100000) (hv : OpV w o A c Rr d) (hf : Fits o) (hk : o.kind = 8) :
    Calls Try.prog 17 #[.pointer (some ⟨r, 0, none⟩), .agg #[.int .i64 o.kind, .int .i64 o.k, .int .i64 o.i, .int .u8 (o.o.k : Int), .int .i64 o.o.tag, .slice A o.o.ws.length c, .string (str o.o.t), .int .u8 (o.w.k : Int), .int .i64 o.w.n, .slice Rr o.roots.length d]] w fun e w' => e = .returned (.agg (toldC (doF H o).2 none 0)) ∧ Stp w w' r R (doF H o).1 := by
  have hz := Dz.new w #[.int .i64 o.kind, .int .i64 o.k, .int .i64 o.i, .int .u8 (o.o.k : Int), .int .i64 o.o.tag, .slice A o.o.ws.length c, .string (str o.o.t), .int .u8 (o.w.k : Int), .int .i64 o.w.n, .slice Rr o.roots.length d]
  have hb := wD_below w #[.int .i64 o.kind, .int .i64 o.k, .int .i64 o.i, .int .u8 (o.o.k : Int), .int .i64 o.o.tag, .slice A o.o.ws.length c, .string (str o.o.t), .int .u8 (o.w.k : Int), .int .i64 o.w.n, .slice Rr o.roots.length d]
  have hs := wD_size w #[.int .i64 o.kind, .int .i64 o.k, .int .i64 o.i, .int .u8 (o.o.k : Int), .int .i64 o.o.tag, .slice A o.o.ws.length c, .string (str o.o.t), .int .u8 (o.w.k : Int), .int .i64 o.w.n, .slice Rr o.roots.length d]
  have hX := h.below hb
  have hsm : Hp.small o.o := ⟨by have := hf.1; omega, by have := hf.2.1; omega, hv.ok⟩
  have hoa : OArg (wD w #[.int .i64 o.kind, .int .i64 o.k, .int .i64 o.i, .int .u8 (o.o.k : Int), .int .i64 o.o.tag, .slice A o.o.ws.length c, .string (str o.o.t), .int .u8 (o.w.k : Int), .int .i64 o.w.n, .slice Rr o.roots.length d]) o.o A := ⟨hv.words.below hb, hsm, hv.tag⟩
  have hro := hv.roots.below hb
  have HC := rfill_any hX hok hcn o.k o.o A c hoa
  have hdo : doF H o = ((fillF H o.k o.o).1, { noT with e := (fillF H o.k o.o).2 }) := by
    unfold doF
    rw [if_neg (by omega), if_neg (by omega), if_neg (by omega), if_neg (by omega), if_neg (by omega), if_neg (by omega), if_neg (by omega), if_neg (by omega), if_pos hk]
  rw [hdo]
  clear hdo
  obtain ⟨⟨H2, ee⟩, hF⟩ : ∃ p, fillF H o.k o.o = p := ⟨_, rfl⟩
  rw [hF] at HC ⊢
  dsimp only at HC ⊢
  clear hF
  obtain ⟨n, hn⟩ : ∃ n, o.o.ws.length = n := ⟨_, rfl⟩
  obtain ⟨m, hm⟩ : ∃ m, o.roots.length = m := ⟨_, rfl⟩
  have hrs : obv o.o A c = .agg #[.int .u8 (o.o.k : Int), .int .i64 o.o.tag, .slice A o.o.ws.length c, .string (str o.o.t)] := rfl
  rw [hrs] at HC
  rw [hk, hn, hm] at HC hz hb hs ⊢
  replace HC := Lib.hid HC
  have HZ := Lib.hid (And.intro hz (And.intro hb (And.intro hs h.lt)))
  have e0 := hz.op.cell 0
  have e1 := hz.op.cell 1
  have e2 := hz.op.cell 2
  have e3 := hz.op.cell 3
  have e4 := hz.op.cell 4
  have e5 := hz.op.cell 5
  have e6 := hz.op.cell 6
  have e7 := hz.op.cell 7
  have e8 := hz.op.cell 8
  have e9 := hz.op.cell 9
  simp only [List.getElem?_toArray, List.getElem?_cons_zero, List.getElem?_cons_succ] at e0 e1 e2 e3 e4 e5 e6 e7 e8 e9
  clear hz hb hs hX hsm hoa hro h hok hcn hll hv hf hn hm
  go_enter Try.func17, Try.ntmps17
  go_wp2_with fail
  refine HC.out.mono ?_
  rintro e w2 ⟨rfl, hst⟩
  have hz2 := HZ.out.1.off hst.off HZ.out.2.2.2
  have x0 := hz2.x.cell 0
  have x1 := hz2.x.cell 1
  have x2 := hz2.x.cell 2
  have x3 := hz2.x.cell 3
  have x4 := hz2.x.cell 4
  have x5 := hz2.x.cell 5
  have x6 := hz2.x.cell 6
  have x7 := hz2.x.cell 7
  have x8 := hz2.x.cell 8
  have xf := hz2.x.frozen
  have y0 := hz2.r.cell 0
  have y1 := hz2.r.cell 1
  have y2 := hz2.r.cell 2
  have y3 := hz2.r.cell 3
  have y4 := hz2.r.cell 4
  have y5 := hz2.r.cell 5
  have y6 := hz2.r.cell 6
  have y7 := hz2.r.cell 7
  have y8 := hz2.r.cell 8
  have yf := hz2.r.frozen
  simp only [told0, List.getElem?_toArray, List.getElem?_cons_zero, List.getElem?_cons_succ] at x0 y0 x1 y1 x2 y2 x3 y3 x4 y4 x5 y5 x6 y6 x7 y7 x8 y8
  have HS2 := Lib.hid (And.intro hz2 hst)
  clear hz2 hst HC e0 e1 e2 e3 e4 e5 e6 e7 e8 e9
  go_wp2_with fail
  obtain ⟨hz2, hst⟩ := HS2.out
  have HB9 := (hz2.r.far (p := ⟨w.heap.size + 1 + 1, 8, none⟩) (by show w.heap.size + 1 ≠ w.heap.size + 1 + 1; omega) (.int .i64 (ee : Int))).set9 (.int .u8 0) (.int .i64 0) (.slice none 0 0) (.string ⟨#[]⟩) (.int .u8 0) (.int .i64 0) (.int .i64 0) (.bool false) (.int .i64 (ee : Int))
  refine bodyPost_ret (results_cell_row rfl _ _ (w.heap.size + 1) 39 _ (0, 0) _ rfl HB9 Try.underlying39 rfl (by kernel_rfl)) rfl ?_
  exact ⟨rfl, hst.fin HZ.out.2.1 HZ.out.2.2.1 HZ.out.2.2.2 ((Off.setc _ _ _ _).mono (fun k _ e => .inr e)|>.trans ((off9 _ _ _ _ _ _ _ _ _ _ _).mono fun k _ e => .inl e))⟩
set_option maxRecDepth 20000 in
set_option maxHeartbeats 4000000 in
theorem meant_clean (h : RX w r R H) (hok : H.Ok t) (hcn : H.count ≤ 100000) (hll : H.L.length ≤ 100000) (hv : OpV w o A c Rr d) (hf : Fits o) (hk : o.kind = 9) :
    Calls Try.prog 17 #[.pointer (some ⟨r, 0, none⟩), .agg #[.int .i64 o.kind, .int .i64 o.k, .int .i64 o.i, .int .u8 (o.o.k : Int), .int .i64 o.o.tag, .slice A o.o.ws.length c, .string (str o.o.t), .int .u8 (o.w.k : Int), .int .i64 o.w.n, .slice Rr o.roots.length d]] w fun e w' => e = .returned (.agg (toldC (doF H o).2 none 0)) ∧ Stp w w' r R (doF H o).1 := by
  have hz := Dz.new w #[.int .i64 o.kind, .int .i64 o.k, .int .i64 o.i, .int .u8 (o.o.k : Int), .int .i64 o.o.tag, .slice A o.o.ws.length c, .string (str o.o.t), .int .u8 (o.w.k : Int), .int .i64 o.w.n, .slice Rr o.roots.length d]
  have hb := wD_below w #[.int .i64 o.kind, .int .i64 o.k, .int .i64 o.i, .int .u8 (o.o.k : Int), .int .i64 o.o.tag, .slice A o.o.ws.length c, .string (str o.o.t), .int .u8 (o.w.k : Int), .int .i64 o.w.n, .slice Rr o.roots.length d]
  have hs := wD_size w #[.int .i64 o.kind, .int .i64 o.k, .int .i64 o.i, .int .u8 (o.o.k : Int), .int .i64 o.o.tag, .slice A o.o.ws.length c, .string (str o.o.t), .int .u8 (o.w.k : Int), .int .i64 o.w.n, .slice Rr o.roots.length d]
  have hX := h.below hb
  have hsm : Hp.small o.o := ⟨by have := hf.1; omega, by have := hf.2.1; omega, hv.ok⟩
  have hoa : OArg (wD w #[.int .i64 o.kind, .int .i64 o.k, .int .i64 o.i, .int .u8 (o.o.k : Int), .int .i64 o.o.tag, .slice A o.o.ws.length c, .string (str o.o.t), .int .u8 (o.w.k : Int), .int .i64 o.w.n, .slice Rr o.roots.length d]) o.o A := ⟨hv.words.below hb, hsm, hv.tag⟩
  have hro := hv.roots.below hb
  have HC := rclean_any hX hok o.k
  have hdo : doF H o = ((cleanF H o.k).1, { noT with is := (cleanF H o.k).2 }) := by
    unfold doF
    rw [if_neg (by omega), if_neg (by omega), if_neg (by omega), if_neg (by omega), if_neg (by omega), if_neg (by omega), if_neg (by omega), if_neg (by omega), if_neg (by omega), if_pos hk]
  rw [hdo]
  clear hdo
  obtain ⟨⟨H2, is⟩, hF⟩ : ∃ p, cleanF H o.k = p := ⟨_, rfl⟩
  rw [hF] at HC ⊢
  dsimp only at HC ⊢
  clear hF
  obtain ⟨n, hn⟩ : ∃ n, o.o.ws.length = n := ⟨_, rfl⟩
  obtain ⟨m, hm⟩ : ∃ m, o.roots.length = m := ⟨_, rfl⟩

  rw [hk, hn, hm] at HC hz hb hs ⊢
  replace HC := Lib.hid HC
  have HZ := Lib.hid (And.intro hz (And.intro hb (And.intro hs h.lt)))
  have e0 := hz.op.cell 0
  have e1 := hz.op.cell 1
  have e2 := hz.op.cell 2
  have e3 := hz.op.cell 3
  have e4 := hz.op.cell 4
  have e5 := hz.op.cell 5
  have e6 := hz.op.cell 6
  have e7 := hz.op.cell 7
  have e8 := hz.op.cell 8
  have e9 := hz.op.cell 9
  simp only [List.getElem?_toArray, List.getElem?_cons_zero, List.getElem?_cons_succ] at e0 e1 e2 e3 e4 e5 e6 e7 e8 e9
  clear hz hb hs hX hsm hoa hro h hok hcn hll hv hf hn hm
  go_enter Try.func17, Try.ntmps17
  go_wp2_with fail
  refine HC.out.mono ?_
  rintro e w2 ⟨rfl, hst⟩
  have hz2 := HZ.out.1.off hst.off HZ.out.2.2.2
  have x0 := hz2.x.cell 0
  have x1 := hz2.x.cell 1
  have x2 := hz2.x.cell 2
  have x3 := hz2.x.cell 3
  have x4 := hz2.x.cell 4
  have x5 := hz2.x.cell 5
  have x6 := hz2.x.cell 6
  have x7 := hz2.x.cell 7
  have x8 := hz2.x.cell 8
  have xf := hz2.x.frozen
  have y0 := hz2.r.cell 0
  have y1 := hz2.r.cell 1
  have y2 := hz2.r.cell 2
  have y3 := hz2.r.cell 3
  have y4 := hz2.r.cell 4
  have y5 := hz2.r.cell 5
  have y6 := hz2.r.cell 6
  have y7 := hz2.r.cell 7
  have y8 := hz2.r.cell 8
  have yf := hz2.r.frozen
  simp only [told0, List.getElem?_toArray, List.getElem?_cons_zero, List.getElem?_cons_succ] at x0 y0 x1 y1 x2 y2 x3 y3 x4 y4 x5 y5 x6 y6 x7 y7 x8 y8
  have HS2 := Lib.hid (And.intro hz2 hst)
  clear hz2 hst HC e0 e1 e2 e3 e4 e5 e6 e7 e8 e9
  go_wp2_with fail
  obtain ⟨hz2, hst⟩ := HS2.out
  have HB9 := (hz2.r.far (p := ⟨w.heap.size + 1 + 1, 7, none⟩) (by show w.heap.size + 1 ≠ w.heap.size + 1 + 1; omega) (.bool is)).set9 (.int .u8 0) (.int .i64 0) (.slice none 0 0) (.string ⟨#[]⟩) (.int .u8 0) (.int .i64 0) (.int .i64 0) (.bool is) (.int .i64 0)
  refine bodyPost_ret (results_cell_row rfl _ _ (w.heap.size + 1) 39 _ (0, 0) _ rfl HB9 Try.underlying39 rfl (by kernel_rfl)) rfl ?_
  exact ⟨rfl, hst.fin HZ.out.2.1 HZ.out.2.2.1 HZ.out.2.2.2 ((Off.setc _ _ _ _).mono (fun k _ e => .inr e)|>.trans ((off9 _ _ _ _ _ _ _ _ _ _ _).mono fun k _ e => .inl e))⟩
set_option maxRecDepth 20000 in
set_option maxHeartbeats 4000000 in
theorem meant_collect (h : RX w r R H) (hok : H.Ok t) (hcn : H.count ≤ 100000) (hll : H.L.length ≤ 100000) (hv : OpV w o A c Rr d) (hf : Fits o) (hk : o.kind = 10) :
    Calls Try.prog 17 #[.pointer (some ⟨r, 0, none⟩), .agg #[.int .i64 o.kind, .int .i64 o.k, .int .i64 o.i, .int .u8 (o.o.k : Int), .int .i64 o.o.tag, .slice A o.o.ws.length c, .string (str o.o.t), .int .u8 (o.w.k : Int), .int .i64 o.w.n, .slice Rr o.roots.length d]] w fun e w' => e = .returned (.agg (toldC (doF H o).2 none 0)) ∧ Stp w w' r R (doF H o).1 := by
  have hz := Dz.new w #[.int .i64 o.kind, .int .i64 o.k, .int .i64 o.i, .int .u8 (o.o.k : Int), .int .i64 o.o.tag, .slice A o.o.ws.length c, .string (str o.o.t), .int .u8 (o.w.k : Int), .int .i64 o.w.n, .slice Rr o.roots.length d]
  have hb := wD_below w #[.int .i64 o.kind, .int .i64 o.k, .int .i64 o.i, .int .u8 (o.o.k : Int), .int .i64 o.o.tag, .slice A o.o.ws.length c, .string (str o.o.t), .int .u8 (o.w.k : Int), .int .i64 o.w.n, .slice Rr o.roots.length d]
  have hs := wD_size w #[.int .i64 o.kind, .int .i64 o.k, .int .i64 o.i, .int .u8 (o.o.k : Int), .int .i64 o.o.tag, .slice A o.o.ws.length c, .string (str o.o.t), .int .u8 (o.w.k : Int), .int .i64 o.w.n, .slice Rr o.roots.length d]
  have hX := h.below hb
  have hsm : Hp.small o.o := ⟨by have := hf.1; omega, by have := hf.2.1; omega, hv.ok⟩
  have hoa : OArg (wD w #[.int .i64 o.kind, .int .i64 o.k, .int .i64 o.i, .int .u8 (o.o.k : Int), .int .i64 o.o.tag, .slice A o.o.ws.length c, .string (str o.o.t), .int .u8 (o.w.k : Int), .int .i64 o.w.n, .slice Rr o.roots.length d]) o.o A := ⟨hv.words.below hb, hsm, hv.tag⟩
  have hro := hv.roots.below hb
  have HC := rcollect_any hX hok hcn hll Rr o.roots.length d o.roots rfl (by have := hf.2.2; omega) hro
  have hdo : doF H o = (collectH H o.roots, { noT with n := H.L.length - (collectH H o.roots).L.length }) := by
    unfold doF
    rw [if_neg (by omega), if_neg (by omega), if_neg (by omega), if_neg (by omega), if_neg (by omega), if_neg (by omega), if_neg (by omega), if_neg (by omega), if_neg (by omega), if_neg (by omega), if_pos hk]
  rw [hdo]
  clear hdo
  obtain ⟨en, hen⟩ : ∃ n, H.L.length - (collectH H o.roots).L.length = n := ⟨_, rfl⟩
  rw [hen] at HC ⊢
  clear hen
  obtain ⟨n, hn⟩ : ∃ n, o.o.ws.length = n := ⟨_, rfl⟩
  obtain ⟨m, hm⟩ : ∃ m, o.roots.length = m := ⟨_, rfl⟩

  rw [hk, hn, hm] at HC hz hb hs ⊢
  replace HC := Lib.hid HC
  have HZ := Lib.hid (And.intro hz (And.intro hb (And.intro hs h.lt)))
  have e0 := hz.op.cell 0
  have e1 := hz.op.cell 1
  have e2 := hz.op.cell 2
  have e3 := hz.op.cell 3
  have e4 := hz.op.cell 4
  have e5 := hz.op.cell 5
  have e6 := hz.op.cell 6
  have e7 := hz.op.cell 7
  have e8 := hz.op.cell 8
  have e9 := hz.op.cell 9
  simp only [List.getElem?_toArray, List.getElem?_cons_zero, List.getElem?_cons_succ] at e0 e1 e2 e3 e4 e5 e6 e7 e8 e9
  clear hz hb hs hX hsm hoa hro h hok hcn hll hv hf hn hm
  go_enter Try.func17, Try.ntmps17
  go_wp2_with fail
  refine HC.out.mono ?_
  rintro e w2 ⟨rfl, hst⟩
  have hz2 := HZ.out.1.off hst.off HZ.out.2.2.2
  have x0 := hz2.x.cell 0
  have x1 := hz2.x.cell 1
  have x2 := hz2.x.cell 2
  have x3 := hz2.x.cell 3
  have x4 := hz2.x.cell 4
  have x5 := hz2.x.cell 5
  have x6 := hz2.x.cell 6
  have x7 := hz2.x.cell 7
  have x8 := hz2.x.cell 8
  have xf := hz2.x.frozen
  have y0 := hz2.r.cell 0
  have y1 := hz2.r.cell 1
  have y2 := hz2.r.cell 2
  have y3 := hz2.r.cell 3
  have y4 := hz2.r.cell 4
  have y5 := hz2.r.cell 5
  have y6 := hz2.r.cell 6
  have y7 := hz2.r.cell 7
  have y8 := hz2.r.cell 8
  have yf := hz2.r.frozen
  simp only [told0, List.getElem?_toArray, List.getElem?_cons_zero, List.getElem?_cons_succ] at x0 y0 x1 y1 x2 y2 x3 y3 x4 y4 x5 y5 x6 y6 x7 y7 x8 y8
  have HS2 := Lib.hid (And.intro hz2 hst)
  clear hz2 hst HC e0 e1 e2 e3 e4 e5 e6 e7 e8 e9
  go_wp2_with fail
  obtain ⟨hz2, hst⟩ := HS2.out
  have HB9 := (hz2.r.far (p := ⟨w.heap.size + 1 + 1, 6, none⟩) (by show w.heap.size + 1 ≠ w.heap.size + 1 + 1; omega) (.int .i64 (en : Int))).set9 (.int .u8 0) (.int .i64 0) (.slice none 0 0) (.string ⟨#[]⟩) (.int .u8 0) (.int .i64 0) (.int .i64 (en : Int)) (.bool false) (.int .i64 0)
  refine bodyPost_ret (results_cell_row rfl _ _ (w.heap.size + 1) 39 _ (0, 0) _ rfl HB9 Try.underlying39 rfl (by kernel_rfl)) rfl ?_
  exact ⟨rfl, hst.fin HZ.out.2.1 HZ.out.2.2.1 HZ.out.2.2.2 ((Off.setc _ _ _ _).mono (fun k _ e => .inr e)|>.trans ((off9 _ _ _ _ _ _ _ _ _ _ _).mono fun k _ e => .inl e))⟩
end
end Go.Proofs.Ytclkkfffecmjnaa
namespace Go.Proofs.Ytclkkfffecmjnaa
open Go.RowKit
set_option linter.unusedVariables false
set_option linter.unusedSimpArgs false
attribute [local go_sem] Oper.semAt_some
section
variable {w : World} {r t : Nat} {R : Nat → Lab} {H : HS} {o : Ov} {A Rr : Option Addr} {c d : Nat}
set_option maxRecDepth 20000 in
set_option maxHeartbeats 4000000 in
theorem meant_get (h : RX w r R H) (hok : H.Ok t) (hcn : H.count ≤ 100000) (hll : H.L.length ≤ 100000) (hv : OpV w o A c Rr d) (hf : Fits o) (hk : o.kind = 1) :
    Calls Try.prog 17 #[.pointer (some ⟨r, 0, none⟩), .agg #[.int .i64 o.kind, .int .i64 o.k, .int .i64 o.i, .int .u8 (o.o.k : Int), .int .i64 o.o.tag, .slice A o.o.ws.length c, .string (str o.o.t), .int .u8 (o.w.k : Int), .int .i64 o.w.n, .slice Rr o.roots.length d]] w fun e w' => ∃ T c2, e = .returned (.agg (toldC (doF H o).2 T c2)) ∧ WRow w.heap.size w' T (doF H o).2.o.ws.length c2 (doF H o).2.o.ws ∧ Stp w w' r R (doF H o).1 := by
  have hz := Dz.new w #[.int .i64 o.kind, .int .i64 o.k, .int .i64 o.i, .int .u8 (o.o.k : Int), .int .i64 o.o.tag, .slice A o.o.ws.length c, .string (str o.o.t), .int .u8 (o.w.k : Int), .int .i64 o.w.n, .slice Rr o.roots.length d]
  have hb := wD_below w #[.int .i64 o.kind, .int .i64 o.k, .int .i64 o.i, .int .u8 (o.o.k : Int), .int .i64 o.o.tag, .slice A o.o.ws.length c, .string (str o.o.t), .int .u8 (o.w.k : Int), .int .i64 o.w.n, .slice Rr o.roots.length d]
  have hs := wD_size w #[.int .i64 o.kind, .int .i64 o.k, .int .i64 o.i, .int .u8 (o.o.k : Int), .int .i64 o.o.tag, .slice A o.o.ws.length c, .string (str o.o.t), .int .u8 (o.w.k : Int), .int .i64 o.w.n, .slice Rr o.roots.length d]
  have hX := h.below hb
  have hsm : Hp.small o.o := ⟨by have := hf.1; omega, by have := hf.2.1; omega, hv.ok⟩
  have hoa : OArg (wD w #[.int .i64 o.kind, .int .i64 o.k, .int .i64 o.i, .int .u8 (o.o.k : Int), .int .i64 o.o.tag, .slice A o.o.ws.length c, .string (str o.o.t), .int .u8 (o.w.k : Int), .int .i64 o.w.n, .slice Rr o.roots.length d]) o.o A := ⟨hv.words.below hb, hsm, hv.tag⟩
  have hro := hv.roots.below hb
  have HC := rget_any hX hok o.k
  have hdo : doF H o = (H, { noT with o := getO H o.k, is := (H.obj o.k).isSome }) := by
    unfold doF
    rw [if_neg (by omega), if_pos hk]
  rw [hdo]
  clear hdo
  obtain ⟨⟨gk, gtag, gws, gt⟩, hF⟩ : ∃ p, getO H o.k = p := ⟨_, rfl⟩
  rw [hF] at HC ⊢
  clear hF
  obtain ⟨is, his⟩ : ∃ b, (H.obj o.k).isSome = b := ⟨_, rfl⟩
  rw [his] at HC ⊢
  clear his
  obtain ⟨gm, hgm⟩ : ∃ gm, gws.length = gm := ⟨_, rfl⟩
  obtain ⟨n, hn⟩ : ∃ n, o.o.ws.length = n := ⟨_, rfl⟩
  obtain ⟨m, hm⟩ : ∃ m, o.roots.length = m := ⟨_, rfl⟩

  rw [hk, hn, hm] at HC hz hb hs hX ⊢
  have HGM := Lib.hid hgm
  have HXX := Lib.hid hX
  replace HC := Lib.hid HC
  have HZ := Lib.hid (And.intro hz (And.intro hb (And.intro hs h.lt)))
  have e0 := hz.op.cell 0
  have e1 := hz.op.cell 1
  have e2 := hz.op.cell 2
  have e3 := hz.op.cell 3
  have e4 := hz.op.cell 4
  have e5 := hz.op.cell 5
  have e6 := hz.op.cell 6
  have e7 := hz.op.cell 7
  have e8 := hz.op.cell 8
  have e9 := hz.op.cell 9
  simp only [List.getElem?_toArray, List.getElem?_cons_zero, List.getElem?_cons_succ] at e0 e1 e2 e3 e4 e5 e6 e7 e8 e9
  clear hz hb hs hX hsm hoa hro h hok hcn hll hv hf hn hm
  go_enter Try.func17, Try.ntmps17
  go_wp2_with fail
  refine HC.out.mono ?_
  rintro e w2 ⟨v, T, c2, rfl, hob, hb2⟩
  obtain ⟨rfl, hrw⟩ := hob
  dsimp only at hrw ⊢
  rw [HGM.out] at hrw ⊢
  have hst := Stp.of_below HXX.out hb2
  have HRW := Lib.hid hrw
  clear hrw hb2
  have hz2 := HZ.out.1.off hst.off HZ.out.2.2.2
  have x0 := hz2.x.cell 0
  have x1 := hz2.x.cell 1
  have x2 := hz2.x.cell 2
  have x3 := hz2.x.cell 3
  have x4 := hz2.x.cell 4
  have x5 := hz2.x.cell 5
  have x6 := hz2.x.cell 6
  have x7 := hz2.x.cell 7
  have x8 := hz2.x.cell 8
  have xf := hz2.x.frozen
  have y0 := hz2.r.cell 0
  have y1 := hz2.r.cell 1
  have y2 := hz2.r.cell 2
  have y3 := hz2.r.cell 3
  have y4 := hz2.r.cell 4
  have y5 := hz2.r.cell 5
  have y6 := hz2.r.cell 6
  have y7 := hz2.r.cell 7
  have y8 := hz2.r.cell 8
  have yf := hz2.r.frozen
  simp only [told0, List.getElem?_toArray, List.getElem?_cons_zero, List.getElem?_cons_succ] at x0 y0 x1 y1 x2 y2 x3 y3 x4 y4 x5 y5 x6 y6 x7 y7 x8 y8
  have HS2 := Lib.hid (And.intro hz2 hst)
  clear hz2 hst HC e0 e1 e2 e3 e4 e5 e6 e7 e8 e9
  go_wp2_with fail
  obtain ⟨hz2, hst⟩ := HS2.out
  have HB9 := (((((hz2.r.far (p := ⟨w.heap.size + 1 + 1, 0, none⟩) (by show w.heap.size + 1 ≠ w.heap.size + 1 + 1; omega) (.int .u8 (gk : Int))).far (p := ⟨w.heap.size + 1 + 1, 1, none⟩) (by show w.heap.size + 1 ≠ w.heap.size + 1 + 1; omega) (.int .i64 gtag)).far (p := ⟨w.heap.size + 1 + 1, 2, none⟩) (by show w.heap.size + 1 ≠ w.heap.size + 1 + 1; omega) (.slice T gm c2)).far (p := ⟨w.heap.size + 1 + 1, 3, none⟩) (by show w.heap.size + 1 ≠ w.heap.size + 1 + 1; omega) (.string (str gt))).far (p := ⟨w.heap.size + 1 + 1, 7, none⟩) (by show w.heap.size + 1 ≠ w.heap.size + 1 + 1; omega) (.bool is)).set9 (.int .u8 (gk : Int)) (.int .i64 gtag) (.slice T gm c2) (.string (str gt)) (.int .u8 0) (.int .i64 0) (.int .i64 0) (.bool is) (.int .i64 0)
  refine bodyPost_ret (results_cell_row rfl _ _ (w.heap.size + 1) 39 _ (0, 0) _ rfl HB9 Try.underlying39 rfl (by kernel_rfl)) rfl ?_
  have key : ∀ Wf, Off (fun k => k = w.heap.size + 1 ∨ k = w.heap.size + 1 + 1) w2 Wf → ∃ T' c2', Ending.returned (.agg #[.int .u8 (gk : Int), .int .i64 gtag, .slice T gm c2, .string (str gt), .int .u8 0, .int .i64 0, .int .i64 0, .bool is, .int .i64 0]) = Ending.returned (.agg (toldC ({ noT with o := ⟨gk, gtag, gws, gt⟩, is := is } : Tv) T' c2')) ∧ WRow w.heap.size Wf T' ({ noT with o := ⟨gk, gtag, gws, gt⟩, is := is } : Tv).o.ws.length c2' ({ noT with o := ⟨gk, gtag, gws, gt⟩, is := is } : Tv).o.ws ∧ Stp w Wf r R H := fun Wf hoff => by
    refine ⟨T, c2, ?_, ?_, hst.fin HZ.out.2.1 HZ.out.2.2.1 HZ.out.2.2.2 hoff⟩
    · unfold toldC
      dsimp only
      rw [HGM.out]
      rfl
    · show WRow w.heap.size _ T gws.length c2 gws
      rw [HGM.out]
      have hs3 := HZ.out.2.2.1
      exact (HRW.out.same hoff.size fun p e => hoff.block _ (HRW.out.blk p e).2.2.2 fun e' => by have := (HRW.out.blk p e).2.2.1; omega).mono (by omega)
  exact key _ ((offS (offS (offS (offS (Off.setc _ _ _ _) _ _ _ rfl) _ _ _ rfl) _ _ _ rfl) _ _ _ rfl).mono (fun k _ e => .inr e)|>.trans ((off9 _ _ _ _ _ _ _ _ _ _ _).mono fun k _ e => .inl e))
set_option maxRecDepth 20000 in
set_option maxHeartbeats 4000000 in
theorem meant_other (h : RX w r R H) (hok : H.Ok t) (hcn : H.count ≤ 100000) (hll : H.L.length ≤ 100000) (hv : OpV w o A c Rr d) (hf : Fits o) (hk : o.kind < 0 ∨ 10 < o.kind) :
    Calls Try.prog 17 #[.pointer (some ⟨r, 0, none⟩), .agg #[.int .i64 o.kind, .int .i64 o.k, .int .i64 o.i, .int .u8 (o.o.k : Int), .int .i64 o.o.tag, .slice A o.o.ws.length c, .string (str o.o.t), .int .u8 (o.w.k : Int), .int .i64 o.w.n, .slice Rr o.roots.length d]] w fun e w' => e = .returned (.agg (toldC (doF H o).2 none 0)) ∧ Stp w w' r R (doF H o).1 := by
  have hz := Dz.new w #[.int .i64 o.kind, .int .i64 o.k, .int .i64 o.i, .int .u8 (o.o.k : Int), .int .i64 o.o.tag, .slice A o.o.ws.length c, .string (str o.o.t), .int .u8 (o.w.k : Int), .int .i64 o.w.n, .slice Rr o.roots.length d]
  have hb := wD_below w #[.int .i64 o.kind, .int .i64 o.k, .int .i64 o.i, .int .u8 (o.o.k : Int), .int .i64 o.o.tag, .slice A o.o.ws.length c, .string (str o.o.t), .int .u8 (o.w.k : Int), .int .i64 o.w.n, .slice Rr o.roots.length d]
  have hs := wD_size w #[.int .i64 o.kind, .int .i64 o.k, .int .i64 o.i, .int .u8 (o.o.k : Int), .int .i64 o.o.tag, .slice A o.o.ws.length c, .string (str o.o.t), .int .u8 (o.w.k : Int), .int .i64 o.w.n, .slice Rr o.roots.length d]
  have hX := h.below hb
  have hsm : Hp.small o.o := ⟨by have := hf.1; omega, by have := hf.2.1; omega, hv.ok⟩
  have hoa : OArg (wD w #[.int .i64 o.kind, .int .i64 o.k, .int .i64 o.i, .int .u8 (o.o.k : Int), .int .i64 o.o.tag, .slice A o.o.ws.length c, .string (str o.o.t), .int .u8 (o.w.k : Int), .int .i64 o.w.n, .slice Rr o.roots.length d]) o.o A := ⟨hv.words.below hb, hsm, hv.tag⟩
  have hro := hv.roots.below hb
  have HC := Stp.id hX
  have hdo : doF H o = (H, noT) := by
    unfold doF
    rw [if_neg (by omega), if_neg (by omega), if_neg (by omega), if_neg (by omega), if_neg (by omega), if_neg (by omega), if_neg (by omega), if_neg (by omega), if_neg (by omega), if_neg (by omega), if_neg (by omega)]
  rw [hdo]
  clear hdo

  obtain ⟨n, hn⟩ : ∃ n, o.o.ws.length = n := ⟨_, rfl⟩
  obtain ⟨m, hm⟩ : ∃ m, o.roots.length = m := ⟨_, rfl⟩

  rw [hn, hm] at HC hz hb hs ⊢
  have d0 : (o.kind == 0) = false := by simp; omega
  have d1 : (o.kind == 1) = false := by simp; omega
  have d2 : (o.kind == 2) = false := by simp; omega
  have d3 : (o.kind == 3) = false := by simp; omega
  have d4 : (o.kind == 4) = false := by simp; omega
  have d5 : (o.kind == 5) = false := by simp; omega
  have d6 : (o.kind == 6) = false := by simp; omega
  have d7 : (o.kind == 7) = false := by simp; omega
  have d8 : (o.kind == 8) = false := by simp; omega
  have d9 : (o.kind == 9) = false := by simp; omega
  have d10 : (o.kind == 10) = false := by simp; omega
  replace HC := Lib.hid HC
  have HZ := Lib.hid (And.intro hz (And.intro hb (And.intro hs h.lt)))
  clear hz hb hs hX hsm hoa hro h hok hcn hll hv hf hn hm hk
  go_enter Try.func17, Try.ntmps17
  go_upto_region 2 with fail
  obtain ⟨w2, hw2⟩ : ∃ w2, ((w.alloc (.cells #[.int .i64 o.kind, .int .i64 o.k, .int .i64 o.i, .int .u8 (o.o.k : Int), .int .i64 o.o.tag, .slice A n c, .string (str o.o.t), .int .u8 (o.w.k : Int), .int .i64 o.w.n, .slice Rr m d] 43)).alloc (.cells #[.int .u8 0, .int .i64 0, .slice none 0 0, .string ⟨#[]⟩, .int .u8 0, .int .i64 0, .int .i64 0, .bool false, .int .i64 0] 39)).alloc (.cells #[.int .u8 0, .int .i64 0, .slice none 0 0, .string ⟨#[]⟩, .int .u8 0, .int .i64 0, .int .i64 0, .bool false, .int .i64 0] 39) = w2 := ⟨_, rfl⟩
  have hww : wD w #[.int .i64 o.kind, .int .i64 o.k, .int .i64 o.i, .int .u8 (o.o.k : Int), .int .i64 o.o.tag, .slice A n c, .string (str o.o.t), .int .u8 (o.w.k : Int), .int .i64 o.w.n, .slice Rr m d] = w2 := hw2
  rw [hw2]
  rw [hww] at HZ HC
  have hz2 := HZ.out.1
  have hst := HC.out
  have e0 := hz2.op.cell 0
  simp only [List.getElem?_toArray, List.getElem?_cons_zero, List.getElem?_cons_succ] at e0
  have x0 := hz2.x.cell 0
  have x1 := hz2.x.cell 1
  have x2 := hz2.x.cell 2
  have x3 := hz2.x.cell 3
  have x4 := hz2.x.cell 4
  have x5 := hz2.x.cell 5
  have x6 := hz2.x.cell 6
  have x7 := hz2.x.cell 7
  have x8 := hz2.x.cell 8
  have xf := hz2.x.frozen
  have y0 := hz2.r.cell 0
  have y1 := hz2.r.cell 1
  have y2 := hz2.r.cell 2
  have y3 := hz2.r.cell 3
  have y4 := hz2.r.cell 4
  have y5 := hz2.r.cell 5
  have y6 := hz2.r.cell 6
  have y7 := hz2.r.cell 7
  have y8 := hz2.r.cell 8
  have yf := hz2.r.frozen
  simp only [told0, List.getElem?_toArray, List.getElem?_cons_zero, List.getElem?_cons_succ] at x0 y0 x1 y1 x2 y2 x3 y3 x4 y4 x5 y5 x6 y6 x7 y7 x8 y8
  have HS2 := Lib.hid (And.intro hz2 hst)
  clear hz2 hst hw2 hww HC
  go_wp2_with fail
  obtain ⟨hz2, hst⟩ := HS2.out
  have HB9 := hz2.r.set9 (.int .u8 0) (.int .i64 0) (.slice none 0 0) (.string ⟨#[]⟩) (.int .u8 0) (.int .i64 0) (.int .i64 0) (.bool false) (.int .i64 0)
  refine bodyPost_ret (results_cell_row rfl _ _ (w.heap.size + 1) 39 _ (0, 0) _ rfl HB9 Try.underlying39 rfl (by kernel_rfl)) rfl ?_
  exact ⟨rfl, hst.fin HZ.out.2.1 HZ.out.2.2.1 HZ.out.2.2.2 ((off9 _ _ _ _ _ _ _ _ _ _ _).mono fun k _ e => .inl e)⟩
end
end Go.Proofs.Ytclkkfffecmjnaa
