/- types: Put, of the code and of the reference. -/
import Derived.Test.YtndhojnfjlkojaaM
namespace Go.Proofs.Ytndhojnfjlkojaa
open Go.RowKit
set_option linter.unusedVariables false
set_option linter.unusedSimpArgs false
attribute [local go_sem] Oper.semAt_some
/-- A row of types of the call's own: all of it in blocks from B on. -/
structure TyG (F : Nat → Prop) (B : Nat) (w : World) (v : Value) (es : List Te) : Prop where
  own : w.ownsRow B 24 4 v es.length (flatE es)
  kids : ∀ e ∈ es, e.in_ (fun b => F b ∨ (B ≤ b ∧ b < w.heap.size ∧ v.ownBlock ≠ some b)) w
section
variable {F : Nat → Prop} {B : Nat} {w w' : World} {v : Value} {es : List Te}
theorem TyG.nil (F : Nat → Prop) (B : Nat) (w : World) : TyG F B w (.slice none 0 0) [] := ⟨World.ownsRow_nil _ _ _ _, fun e h => by cases h⟩
theorem TyG.below (h : TyG F B w v es) (hb : Below w.heap.size w w') : TyG F B w' v es :=
  ⟨own_below h.own hb, fun e he => ⟨((h.kids e he).1.bel hb).mono fun b hb' => hb'.imp id fun hb' => ⟨hb'.1, Nat.lt_of_lt_of_le hb'.2.1 hb.size, hb'.2.2⟩, (h.kids e he).2⟩⟩
theorem TyG.shape (h : TyG F B w v es) : ∃ A c, v = .slice A es.length c ∧ es.length ≤ c ∧ c ≤ maxLen ∧ Ty.At (fun b => F b ∨ (B ≤ b ∧ b < w.heap.size)) w A (es.map Te.t) := by
  rcases h.own.2 with ⟨rfl, h0⟩ | ⟨g, cap, cur, rfl, hB, hg, h1, h2, h3, h4⟩
  · have : es = [] := List.eq_nil_of_length_eq_zero h0
    subst this
    exact ⟨none, 0, rfl, Nat.le_refl _, Nat.zero_le _, .nil _⟩
  · have hbk : Blk w g 24 cur := hg
    refine ⟨_, _, rfl, h1, h2, .mk g 0 _ (fun r => (es[r]?.map Te.A).getD none) (fun r => (es[r]?.map Te.c).getD 0) (.inr ⟨hB, hbk.lt⟩) hbk.lt (fun r t ht => ?_) fun r t ht => ?_⟩
    · rw [List.getElem?_map] at ht
      cases he : es[r]? with
      | none => rw [he] at ht; cases ht
      | some e =>
        rw [he] at ht
        cases ht
        obtain ⟨_, k2, k3, k4⟩ := h.kids e (List.mem_of_getElem? he)
        refine ⟨fun j u hj => ?_, k2, k3, k4⟩
        have hj4 : j < 4 := by rw [← Te.cells_len e]; exact (List.getElem?_eq_some_iff.1 hj).1
        have hr := (List.getElem?_eq_some_iff.1 he).1
        have h5 := flatE_get he hj
        rw [← h4, List.getElem?_take_of_lt (by omega)] at h5
        rw [Nat.zero_add, hbk.cell]
        simpa using h5
    · rw [List.getElem?_map] at ht
      cases he : es[r]? with
      | none => rw [he] at ht; cases ht
      | some e =>
        rw [he] at ht
        cases ht
        exact (h.kids e (List.mem_of_getElem? he)).1.mono fun b hb => hb.imp id fun hb => ⟨hb.1, hb.2.1⟩
/-- One more. -/
theorem TyG.push (h : TyG F B w v es) (hB : B ≤ w.heap.size) (hFB : ∀ b, F b → b < B) (e : Te) (b : Nat) (hb : ∀ (j : Nat) (u : Value), e.cells[j]? = some u → w.cell? ⟨b, j, none⟩ = some u) (hin : e.in_ (fun k => F k ∨ (B ≤ k ∧ k < w.heap.size ∧ v.ownBlock ≠ some k)) w) (hl : es.length < 1000000) :
    ∃ v' w', (Builtin.append_ #[22, 22] 22 #[v, .slice (some ⟨b, 0, none⟩) 1 1]).run Try.prog w = .ok v' w' ∧ TyG F B w' v' (es ++ [e]) ∧ w.grownBy w' v.ownBlock ∧ (v'.ownBlock = v.ownBlock ∨ v'.ownBlock = some w.heap.size) := by
  have hI : (Try.prog.info? 24).map (fun i => (i.zero, i.size, i.bytes)) = some (some (.agg #[.int .u8 0, .string ⟨#[]⟩, .int .i64 0, .slice none 0 0]), 4, 56) := by kernel_rfl
  obtain ⟨i0, hi, hz0, hz1, hz2⟩ := info_parts hI
  have hcell : ∀ (j : Nat) (u : Value), e.cells[j]? = some u → w.cell? ((⟨b, 0, none⟩ : Addr).add j) = some u := fun j u hj => by
    have e2 : (⟨b, 0, none⟩ : Addr).add j = ⟨b, 0 + j, none⟩ := by unfold Addr.add; split <;> simp_all
    rw [e2, Nat.zero_add]
    exact hb j u hj
  obtain ⟨v', w', hrun, h2, h3, _, h5⟩ := run_append_own_at (P := Try.prog) w B 22 22 24 i0 (.agg #[.int .u8 0, .string ⟨#[]⟩, .int .i64 0, .slice none 0 0]) 4 56 Try.underlying22 hi hz0 hz1 hz2 rfl (by decide) v es.length _ h.own ⟨b, 0, none⟩ 1 1 e.cells (by simp [Te.cells, Ty.cells]) hcell
    (fun u hu => by unfold Te.cells Ty.cells at hu; simp at hu; rcases hu with rfl | rfl | rfl | rfl <;> rfl) (by unfold maxLen; omega) (by omega) hB
  have ho : Off (fun k => v.ownBlock = some k) w w' := Off.of_grown h3
  refine ⟨v', w', hrun, ⟨by rw [List.length_append, List.length_singleton, flatE_app]; simpa [flatE] using h2, fun x hx => ?_⟩, h3, h5⟩
  have hmv : ∀ {A : Option Addr} {ts : List Ty}, Ty.At (fun k => F k ∨ (B ≤ k ∧ k < w.heap.size ∧ v.ownBlock ≠ some k)) w A ts → Ty.At (fun k => F k ∨ (B ≤ k ∧ k < w'.heap.size ∧ v'.ownBlock ≠ some k)) w' A ts := fun hA => (hA.off ho fun k hk hg => by
    rcases hk with hk | hk
    · have := hFB k hk; have := (h.own.lt k hg).1; omega
    · exact hk.2.2 hg).mono fun k hk => hk.imp id fun hk => ⟨hk.1, Nat.lt_of_lt_of_le hk.2.1 ho.size, fun e' => by
    rcases h5 with h5 | h5
    · exact hk.2.2 (h5 ▸ e')
    · rw [h5] at e'
      injection e' with e'
      omega⟩
  rcases List.mem_append.1 hx with hx | hx
  · exact ⟨hmv (h.kids x hx).1, (h.kids x hx).2⟩
  · rw [List.mem_singleton.1 hx]
    exact ⟨hmv hin.1, hin.2⟩
end
theorem hmf17 : ∀ (fn : Fn) (first cap : Array Value) (w : World), (Instr.makeFunc fn first cap).run Try.prog w = .ok (.func fn first cap) w := fun _ _ _ _ => rfl
set_option maxRecDepth 20000 in
set_option maxHeartbeats 2000000 in
theorem put_any {F G : Nat → Prop} (t : Ty) (A : Option Addr) (c : Nat) (l : List Ty) (Al : Option Addr) (cl : Nat) (w : World) (hA : Ty.At F w A t.ks) (hc : t.ks.length ≤ c) (hm : c ≤ maxLen) (hok : t.ok) (hp : t.parts ≤ 100000)
    (hAl : Ty.At G w Al l) (hcl : l.length ≤ cl) (hml : cl ≤ maxLen) (hpl : ∀ u ∈ l, u.parts ≤ 100000) :
    Calls Try.prog 17 #[t.val A c, .slice Al l.length cl] w fun e w' => ∃ A2 c2, e = .returned ((Ty.put l t).val A2 c2) ∧ Made w w' (Ty.put l t) A2 c2 := by
  obtain ⟨w0, hw0⟩ : ∃ w0, ((w.alloc (.cells #[.int .u8 (t.k : Int), .string (str t.nm), .int .i64 t.n, .slice A t.ks.length c] 24)).alloc (.cells #[.slice Al l.length cl] 22)).alloc (.cells #[.int .u8 0, .string ⟨#[]⟩, .int .i64 0, .slice none 0 0] 24) = w0 := ⟨_, rfl⟩
  have hb0 : Below w.heap.size w w0 := by rw [← hw0]; exact (((Below.refl _ _).alloc (Nat.le_refl _) _).alloc (by simp) _).alloc (by simp; omega) _
  have hT0 : Blk w0 w.heap.size 24 #[.int .u8 (t.k : Int), .string (str t.nm), .int .i64 t.n, .slice A t.ks.length c] := by rw [← hw0]; exact ((Blk.new _ _ _).alloc _).alloc _
  have hL0 : Blk w0 (w.heap.size + 1) 22 #[.slice Al l.length cl] := by
    have := (Blk.new (w.alloc (.cells #[.int .u8 (t.k : Int), .string (str t.nm), .int .i64 t.n, .slice A t.ks.length c] 24)) 22 #[.slice Al l.length cl]).alloc (.cells #[.int .u8 0, .string ⟨#[]⟩, .int .i64 0, .slice none 0 0] 24)
    rw [World.size_alloc] at this
    rw [← hw0]; exact this
  have hR0 : Blk w0 (w.heap.size + 1 + 1) 24 #[.int .u8 0, .string ⟨#[]⟩, .int .i64 0, .slice none 0 0] := by
    have := Blk.new ((w.alloc (.cells #[.int .u8 (t.k : Int), .string (str t.nm), .int .i64 t.n, .slice A t.ks.length c] 24)).alloc (.cells #[.slice Al l.length cl] 22)) 24 #[.int .u8 0, .string ⟨#[]⟩, .int .i64 0, .slice none 0 0]
    rw [World.size_alloc, World.size_alloc] at this
    rw [← hw0]; exact this
  have hLB : LBox G w0 (w.heap.size + 1) Al cl l := ⟨hL0, hAl.bel hb0, hcl, hml, hpl⟩
  have HC := through_any (F := F) 35 ent_put1 #[.pointer (some ⟨w.heap.size + 1, 0, none⟩)] (plOf l) (fun W => LBox G W (w.heap.size + 1) Al cl l) (fun _ => True) (fun _ _ h hb => h.bel hb) (fun n W _ h => put1_any n W h) t A c w0 (hA.bel hb0) hc hm hok hp (fun _ _ => trivial) hLB
  rw [thr_put] at HC
  obtain ⟨u, hu⟩ : ∃ u, Ty.put l t = u := ⟨_, rfl⟩
  rw [hu] at HC ⊢
  obtain ⟨ul, hul⟩ : ∃ ul, u.ks.length = ul := ⟨_, rfl⟩
  obtain ⟨tl, htl⟩ : ∃ tl, t.ks.length = tl := ⟨_, rfl⟩
  obtain ⟨ll, hll⟩ : ∃ ll, l.length = ll := ⟨_, rfl⟩
  have d0 := hT0.cell 0
  have d1 := hT0.cell 1
  have d2 := hT0.cell 2
  have d3 := hT0.cell 3
  simp only [List.getElem?_toArray, List.getElem?_cons_zero, List.getElem?_cons_succ] at d0 d1 d2 d3
  have HB0 := Lib.hid (And.intro hR0 hb0)
  unfold Ty.val at HC ⊢
  rw [hul] at HC ⊢
  rw [htl] at HC d3 hw0 ⊢
  rw [hll] at hw0 ⊢
  replace HC := Lib.hid HC
  have hmf := hmf17
  clear hb0 hT0 hL0 hR0 hLB hA hc hm hok hp hAl hcl hml hpl hu hul htl hll
  go_enter Try.func17, Try.ntmps17
  go_upto_region 1 with fail
  (try rw [hw0])
  clear hw0
  go_wp2_with fail
  refine HC.out.mono ?_
  rintro e w7 ⟨A2, c2, rfl, hM⟩
  have hR7 := HB0.out.1.below hM.bel HB0.out.1.lt
  clear d0 d1 d2 d3
  have r0 := hR7.cell 0
  have r1 := hR7.cell 1
  have r2 := hR7.cell 2
  have r3 := hR7.cell 3
  simp only [List.getElem?_toArray, List.getElem?_cons_zero, List.getElem?_cons_succ] at r0 r1 r2 r3
  have rf := hR7.frozen
  have HR := Lib.hid (And.intro hR7 hM)
  clear hR7 hM HC hmf
  go_wp2_with fail
  have HB9 := HR.out.1.set4 (.int .u8 (u.k : Int)) (.string (str u.nm)) (.int .i64 u.n) (.slice A2 ul c2)
  refine bodyPost_ret (results_cell_row rfl _ _ (w.heap.size + 1 + 1) 24 _ (0, 0) _ rfl HB9 Try.underlying24 rfl (by kernel_rfl)) rfl ?_
  have ho := off4 w7 (w.heap.size + 1 + 1) (.int .u8 (u.k : Int)) (.string (str u.nm)) (.int .i64 u.n) (.slice A2 ul c2)
  have h1 := HB0.out.1.lt
  exact ⟨A2, c2, rfl, (HR.out.2.of_new HB0.out.2).off ho (fun g e => by omega) HR.out.2.at_ (by omega) (fun g e => by omega)⟩
set_option maxRecDepth 20000 in
set_option maxHeartbeats 2000000 in
theorem rkids_any (k : Nat) (nm : List UInt8) (n : Int) (A : Option Addr) (kl c : Nat) (Av : Option Addr) (lv cv : Nat) (w : World) : Calls Try.prog 37 #[.agg #[.int .u8 (k : Int), .string (str nm), .int .i64 n, .slice A kl c], .slice Av lv cv] w fun e w' => e = .returned (.agg #[.int .u8 (k : Int), .string (str nm), .int .i64 n, .slice Av lv cv]) ∧ Below w.heap.size w w' := by
  obtain ⟨w0, hw0⟩ : ∃ w0, (w.alloc (.cells #[.int .u8 (k : Int), .string (str nm), .int .i64 n, .slice A kl c] 24)).alloc (.cells #[.int .u8 0, .string ⟨#[]⟩, .int .i64 0, .slice none 0 0] 24) = w0 := ⟨_, rfl⟩
  have hb0 : Below w.heap.size w w0 := by rw [← hw0]; exact ((Below.refl _ _).alloc (Nat.le_refl _) _).alloc (by simp) _
  have hB0 : Blk w0 w.heap.size 24 #[.int .u8 (k : Int), .string (str nm), .int .i64 n, .slice A kl c] := by rw [← hw0]; exact (Blk.new _ _ _).alloc _
  have hR0 : Blk w0 (w.heap.size + 1) 24 #[.int .u8 0, .string ⟨#[]⟩, .int .i64 0, .slice none 0 0] := by
    have := Blk.new (w.alloc (.cells #[.int .u8 (k : Int), .string (str nm), .int .i64 n, .slice A kl c] 24)) 24 #[.int .u8 0, .string ⟨#[]⟩, .int .i64 0, .slice none 0 0]
    rw [World.size_alloc] at this
    rw [← hw0]; exact this
  have d0 := hB0.cell 0
  have d1 := hB0.cell 1
  have d2 := hB0.cell 2
  have d3 := hB0.cell 3
  simp only [List.getElem?_toArray, List.getElem?_cons_zero, List.getElem?_cons_succ] at d0 d1 d2 d3
  have r0 := hR0.cell 0
  have r1 := hR0.cell 1
  have r2 := hR0.cell 2
  have r3 := hR0.cell 3
  simp only [List.getElem?_toArray, List.getElem?_cons_zero, List.getElem?_cons_succ] at r0 r1 r2 r3
  have rf := hR0.frozen
  have HR := Lib.hid (And.intro hR0 hb0)
  clear hB0 hR0 hb0
  go_enter Try.func37, Try.ntmps37
  go_upto_region 1 with fail
  (try rw [hw0])
  clear hw0
  go_wp2_with fail
  have HB9 := HR.out.1.set4 (.int .u8 (k : Int)) (.string (str nm)) (.int .i64 n) (.slice Av lv cv)
  refine bodyPost_ret (results_cell_row rfl _ _ (w.heap.size + 1) 24 _ (0, 0) _ rfl HB9 Try.underlying24 rfl (by kernel_rfl)) rfl ?_
  have ho := off4 w0 (w.heap.size + 1) (.int .u8 (k : Int)) (.string (str nm)) (.int .i64 n) (.slice Av lv cv)
  exact ⟨rfl, HR.out.2.trans (ho.below HR.out.2.size (fun g e => by omega))⟩
/-- A type of a call's own, parts of which may lie in F. -/
structure MadeF (F : Nat → Prop) (w w' : World) (t : Ty) (A : Option Addr) (c : Nat) : Prop where
  len : t.ks.length ≤ c
  cap : c ≤ maxLen
  at_ : Ty.At (fun b => F b ∨ (w.heap.size ≤ b ∧ b < w'.heap.size)) w' A t.ks
  bel : Below w.heap.size w w'
  ok : t.ok
/-- Between the rounds of the reference's Put. -/
structure RpI (F : Nat → Prop) (w wr : World) (k : Nat) (nm : List UInt8) (n : Int) (A : Option Addr) (kl c : Nat) (ks l : List Ty) (i : Nat) (v : Value) : Prop where
  box : Blk wr w.heap.size 24 #[.int .u8 (k : Int), .string (str nm), .int .i64 n, .slice A kl c]
  res : Blk wr (w.heap.size + 1) 24 #[.int .u8 0, .string ⟨#[]⟩, .int .i64 0, .slice none 0 0]
  bel : Below w.heap.size w wr
  row : ∃ es : List Te, es.map Te.t = (ks.take i).map (Ty.put l) ∧ TyG F (w.heap.size + 2) wr v es
theorem RpI.push {F : Nat → Prop} {w wr w7 : World} {k : Nat} {nm : List UInt8} {n : Int} {A A2 : Option Addr} {kl c i ul c2 : Nat} {ks l : List Ty} {t u : Ty} {v : Value} (h : RpI F w wr k nm n A kl c ks l i v) (hF : ∀ b, F b → b < w.heap.size) (ht : ks[i]? = some t) (hu : Ty.put l t = u) (hul : u.ks.length = ul) (hM : MadeF F wr w7 u A2 c2) (hks : ks.length ≤ 100000) :
    ∃ v' w9, (Builtin.append_ #[22, 22] 22 #[v, .slice (some ⟨w7.heap.size, 0, none⟩) 1 1]).run Try.prog (w7.alloc (.cells #[.int .u8 (u.k : Int), .string (str u.nm), .int .i64 u.n, .slice A2 ul c2] 24)) = .ok v' w9 ∧ RpI F w w9 k nm n A kl c ks l (i + 1) v' := by
  obtain ⟨es, hes, hto⟩ := h.row
  have hir := (List.getElem?_eq_some_iff.1 ht).1
  have hel : es.length = i := by rw [← List.length_map (f := Te.t), hes, List.length_map, List.length_take]; omega
  have hb : Below w7.heap.size w7 (w7.alloc (.cells #[.int .u8 (u.k : Int), .string (str u.nm), .int .i64 u.n, .slice A2 ul c2] 24)) := (Below.refl _ _).alloc (Nat.le_refl _) _
  have hb7 : Below wr.heap.size wr (w7.alloc (.cells #[.int .u8 (u.k : Int), .string (str u.nm), .int .i64 u.n, .slice A2 ul c2] 24)) := hM.bel.trans (hb.mono hM.bel.size)
  have hx := h.res.lt
  have hs7 := hM.bel.size
  have hvl : ∀ g, v.ownBlock = some g → w.heap.size + 2 ≤ g ∧ g < wr.heap.size := fun g hg => hto.own.lt g hg
  obtain ⟨v', w9, hrun, hto', hg, hv⟩ := (hto.below hb7).push (by have := hb7.size; omega) (fun b hb => by have := hF b hb; omega) ⟨u, A2, c2⟩ w7.heap.size (fun j x hj => by
    rw [(Blk.new w7 24 #[.int .u8 (u.k : Int), .string (str u.nm), .int .i64 u.n, .slice A2 ul c2]).cell]
    unfold Te.cells Ty.cells at hj
    dsimp only at hj
    rw [hul] at hj
    simpa using hj) ⟨(hM.at_.bel hb).mono fun g hg => by
      rcases hg with hg | hg
      · exact .inl hg
      · exact .inr ⟨by have := hg.1; omega, Nat.lt_of_lt_of_le hg.2 hb.size, fun e => by have := (hvl g e).2; have := hg.1; omega⟩, hM.ok, hM.len, hM.cap⟩ (by omega)
  have ho := Off.of_grown hg
  have hn : ∀ g, g < w.heap.size + 2 → ¬ v.ownBlock = some g := fun g h e => by have := (hvl _ e).1; omega
  refine ⟨v', w9, hrun, (h.box.below hb7 h.box.lt).off ho (hn _ (by omega)), (h.res.below hb7 h.res.lt).off ho (hn _ (by omega)), (h.bel.trans (hb7.mono h.bel.size)).trans (ho.below (by have := hb7.size; have := h.bel.size; omega) (fun g e => by have := (hvl _ e).1; omega)), _, ?_, hto'⟩
  rw [List.map_append, hes, List.take_add_one, ht]
  simp [hu]
set_option maxRecDepth 20000 in
set_option maxHeartbeats 8000000 in
theorem rput_any {F : Nat → Prop} (l : List Ty) (Al : Option Addr) (cl : Nat) : ∀ (t : Ty) (A : Option Addr) (c : Nat) (w : World), Ty.At F w A t.ks → t.ks.length ≤ c → c ≤ maxLen → t.ok → t.parts ≤ 100000 → (∀ b, F b → b < w.heap.size) → Ty.At F w Al l →
    Calls Try.prog 18 #[t.val A c, .slice Al l.length cl] w fun e w' => ∃ A2 c2, e = .returned ((Ty.put l t).val A2 c2) ∧ MadeF F w w' (Ty.put l t) A2 c2 := Ty.ind fun k nm n ks ih A c w hA hc hm hok hp hF hAl => by
  have hA : Ty.At F w A ks := hA
  have hc : ks.length ≤ c := hc
  rw [Ty.parts] at hp
  have hkp0 := Ty.partss_len ks
  obtain ⟨kl, hkl⟩ : ∃ kl, ks.length = kl := ⟨_, rfl⟩
  obtain ⟨ll, hll⟩ : ∃ ll, l.length = ll := ⟨_, rfl⟩
  rw [hkl] at hc hkp0
  have hmx : kl ≤ 100000 := by omega
  have HOK : Hid ((Ty.node k nm n (ks.map (Ty.put l))).ok) := Lib.hid hok
  have HA := Lib.hid (And.intro hA (And.intro hAl (And.intro hF hll)))
  have HK := Lib.hid (And.intro hkl (And.intro ih hp))
  have hk1 : (((k : Nat) : Int) == 1) = decide (k = 1) := by
    by_cases e : k = 1
    · subst e; rfl
    · rw [decide_eq_false e]; simp; omega
  obtain ⟨w0, hw0⟩ : ∃ w0, (w.alloc (.cells #[.int .u8 (k : Int), .string (str nm), .int .i64 n, .slice A kl c] 24)).alloc (.cells #[.int .u8 0, .string ⟨#[]⟩, .int .i64 0, .slice none 0 0] 24) = w0 := ⟨_, rfl⟩
  have hb0 : Below w.heap.size w w0 := by rw [← hw0]; exact ((Below.refl _ _).alloc (Nat.le_refl _) _).alloc (by simp) _
  have hB0 : Blk w0 w.heap.size 24 #[.int .u8 (k : Int), .string (str nm), .int .i64 n, .slice A kl c] := by rw [← hw0]; exact (Blk.new _ _ _).alloc _
  have hR0 : Blk w0 (w.heap.size + 1) 24 #[.int .u8 0, .string ⟨#[]⟩, .int .i64 0, .slice none 0 0] := by
    have := Blk.new (w.alloc (.cells #[.int .u8 (k : Int), .string (str nm), .int .i64 n, .slice A kl c] 24)) 24 #[.int .u8 0, .string ⟨#[]⟩, .int .i64 0, .slice none 0 0]
    rw [World.size_alloc] at this
    rw [← hw0]; exact this
  have d0 := hB0.cell 0
  have d1 := hB0.cell 1
  have d2 := hB0.cell 2
  have d3 := hB0.cell 3
  simp only [List.getElem?_toArray, List.getElem?_cons_zero, List.getElem?_cons_succ] at d0 d1 d2 d3
  have HI0 : Hid (RpI F w w0 k nm n A kl c ks l 0 (.slice none 0 0)) := Lib.hid ⟨hB0, hR0, hb0, [], by simp, TyG.nil _ _ _⟩
  show Calls Try.prog 18 #[.agg #[.int .u8 (k : Int), .string (str nm), .int .i64 n, .slice A ks.length c], .slice Al l.length cl] w _
  rw [hkl, hll]
  clear hb0 hB0 hA hAl ih hm hc hok hp hkp0 hF
  by_cases e1 : k = 1
  · subst e1
    replace hw0 : (w.alloc (.cells #[.int .u8 1, .string (str nm), .int .i64 n, .slice A kl c] 24)).alloc (.cells #[.int .u8 0, .string ⟨#[]⟩, .int .i64 0, .slice none 0 0] 24) = w0 := hw0
    replace d0 : w0.cell? ⟨w.heap.size, 0, none⟩ = some (.int .u8 1) := d0
    clear hk1
    by_cases h0 : n < 0
    · have q0 : decide (n ≥ 0) = false := by simpa using h0
      have q0' : decide (0 ≤ n) = false := by simpa using h0
      clear hkl hll hR0
      have HT : Ty.put l (.node 1 nm n ks) = .node 1 nm n (ks.map (Ty.put l)) := by rw [Ty.put, Ty.puts_map, if_neg (fun h => by have := h.2.1; omega)]
      rw [HT]
      show Calls Try.prog 18 #[.agg #[.int .u8 1, .string (str nm), .int .i64 n, .slice A kl c], .slice Al ll cl] w fun e w' => ∃ A2 c2, e = .returned (.agg #[.int .u8 1, .string (str nm), .int .i64 n, .slice A2 (ks.map (Ty.put l)).length c2]) ∧ MadeF F w w' (.node 1 nm n (ks.map (Ty.put l))) A2 c2
      rw [List.length_map, HK.out.1]
      clear HT
      go_enter Try.func18, Try.ntmps18
      go_upto_region 1 with fail
      (try rw [hw0])
      clear hw0
      go_upto_region 5 with fail
      clear d0 d1 d2 d3
      go_loopw [5, 6] (fun sv iv wr => ∃ (i : Nat) (vv : Value), i ≤ kl ∧ iv = .int .i64 (i : Int) ∧ vv = sv ∧ Hid (RpI F w wr 1 nm n A kl c ks l i vv)) (fun _ iv _ => kl - (intOf iv).toNat)
      case atStart => exact ⟨0, _, Nat.zero_le _, rfl, rfl, HI0⟩
      case round =>
        clear HI0
        obtain ⟨i, vv, hi, rfl, rfl, hJ⟩ := hrel
        have d3 := hJ.out.box.cell 3
        simp only [List.getElem?_toArray, List.getElem?_cons_zero, List.getElem?_cons_succ] at d3
        by_cases hli : i < kl
        · have hd : decide ((i : Int) < (kl : Int)) = true := by simpa using hli
          obtain ⟨t, ht⟩ : ∃ t, ks[i]? = some t := ⟨_, List.getElem?_eq_getElem (by rw [HK.out.1]; exact hli)⟩
          obtain ⟨b, off, A', c', rfl, _, hbl, z0, z1, z2, z3, hok, hlc, hcm, hAt⟩ := (HA.out.1.bel hJ.out.bel).get ht
          obtain ⟨tl, htl⟩ : ∃ tl, t.ks.length = tl := ⟨_, rfl⟩
          obtain ⟨u, hu⟩ : ∃ u, Ty.put l t = u := ⟨_, rfl⟩
          have HC := HK.out.2.1 t (List.mem_of_getElem? ht) A' c' wr hAt hlc hcm hok (by have := Ty.partss_mem (List.mem_of_getElem? ht); have := HK.out.2.2; omega) (fun b hb => Nat.lt_of_lt_of_le (HA.out.2.2.1 b hb) hJ.out.bel.size) (HA.out.2.1.bel hJ.out.bel)
          unfold Ty.val at HC
          rw [hu] at HC
          rw [htl] at HC z3
          obtain ⟨ul, hul⟩ : ∃ ul, u.ks.length = ul := ⟨_, rfl⟩
          rw [hul, HA.out.2.2.2] at HC
          replace HC := Lib.hid HC
          have HP : Hid (∀ (w7 : World) (A2 : Option Addr) (c2 : Nat), MadeF F wr w7 u A2 c2 → ∃ v' w9, (Builtin.append_ #[22, 22] 22 #[vv, .slice (some ⟨w7.heap.size, 0, none⟩) 1 1]).run Try.prog (w7.alloc (.cells #[.int .u8 (u.k : Int), .string (str u.nm), .int .i64 u.n, .slice A2 ul c2] 24)) = .ok v' w9 ∧ RpI F w w9 1 nm n (some ⟨b, off, none⟩) kl c ks l (i + 1) v') := Lib.hid fun w7 A2 c2 hM => hJ.out.push (fun b hb => HA.out.2.2.1 b hb) ht hu hul hM (by have := HK.out.2.2; have := Ty.partss_len ks; omega)
          clear ht hAt hlc hcm htl hbl hok hu hul hJ
          go_upto_region 7 with fail
          go_wp2_with fail
          refine HC.out.mono ?_
          rintro e w7 ⟨A2, c2, rfl, hM⟩
          obtain ⟨v', w9, hrun, hnx⟩ := HP.out w7 A2 c2 hM
          have HRUN := Lib.hid hrun
          have HNX := Lib.hid hnx
          clear hM hrun hnx HC HP z0 z1 z2 z3 d3
          go_wp2_with (at_builtin; refine wpList_app rfl _ _ 22 rfl _ _ _ _ rfl rfl HRUN.out ?_)
          go_roundw
          case rel => exact ⟨i + 1, _, by omega, by go_num, rfl, HNX⟩
          case measure => simp [intOf]; omega
        · obtain rfl : kl = i := by omega
          have hd : decide ((kl : Int) < (kl : Int)) = false := by simp
          obtain ⟨es, hes, hto⟩ := hJ.out.row
          have hel : es.length = kl := by rw [← List.length_map (f := Te.t), hes, List.length_map, List.length_take, HK.out.1]; omega
          obtain ⟨A2, c2, hvv, hl2, hm2, hA2⟩ := hto.shape
          rw [hes, List.take_of_length_le (by rw [HK.out.1]; exact Nat.le_refl _)] at hA2
          rw [hel] at hvv hl2
          subst hvv
          have x0 := hJ.out.box.cell 0
          have x1 := hJ.out.box.cell 1
          have x2 := hJ.out.box.cell 2
          simp only [List.getElem?_toArray, List.getElem?_cons_zero, List.getElem?_cons_succ] at x0 x1 x2
          have HC := Lib.hid (rkids_any 1 nm n A kl c A2 kl c2 wr)
          have HR := Lib.hid (And.intro hJ.out.res (And.intro hJ.out.bel (And.intro hl2 (And.intro hm2 hA2))))
          clear hJ hto hA2 hes hl2 hm2
          go_wp2_with fail
          refine HC.out.mono ?_
          rintro e w7 ⟨rfl, hb7⟩
          have hR7 := HR.out.1.below hb7 HR.out.1.lt
          clear d3 x0 x1 x2
          have r0 := hR7.cell 0
          have r1 := hR7.cell 1
          have r2 := hR7.cell 2
          have r3 := hR7.cell 3
          simp only [List.getElem?_toArray, List.getElem?_cons_zero, List.getElem?_cons_succ] at r0 r1 r2 r3
          have rf := hR7.frozen
          have HR7 := Lib.hid (And.intro hR7 hb7)
          clear hR7 hb7 HC
          go_wp2_with fail
          have HB9 := HR7.out.1.set4 (.int .u8 1) (.string (str nm)) (.int .i64 n) (.slice A2 kl c2)
          refine bodyPost_ret (results_cell_row rfl _ _ (w.heap.size + 1) 24 _ (0, 0) _ rfl HB9 Try.underlying24 rfl (by kernel_rfl)) rfl ?_
          have ho := off4 w7 (w.heap.size + 1) (.int .u8 1) (.string (str nm)) (.int .i64 n) (.slice A2 kl c2)
          have h1 := HR.out.2.1.size
          have h2 := HR.out.1.lt
          have h3 := HR7.out.2.size
          exact ⟨A2, c2, rfl, ⟨by show (ks.map (Ty.put l)).length ≤ c2; rw [List.length_map, HK.out.1]; exact HR.out.2.2.1, HR.out.2.2.2.1, ((HR.out.2.2.2.2.bel HR7.out.2).off ho (fun g h e => by rcases h with h | h; have := HA.out.2.2.1 g h; omega; have := h.1; omega)).mono (fun g h => h.imp id fun h => ⟨by have := h.1; omega, by have := h.2; have := ho.size; omega⟩), (HR.out.2.1.trans (HR7.out.2.mono h1)).trans (ho.below (by omega) (fun g e => by omega)), HOK.out⟩⟩
    have q0 : decide (n ≥ 0) = true := by simpa using h0
    have q0' : decide (0 ≤ n) = true := by simpa using h0
    by_cases h1 : (ll : Int) ≤ n
    · have q1 : decide (n < (ll : Int)) = false := by simpa using h1
      clear hkl hR0
      have HT : Ty.put l (.node 1 nm n ks) = .node 1 nm n (ks.map (Ty.put l)) := by rw [Ty.put, Ty.puts_map, if_neg (fun h => by have := h.2.2; omega)]
      rw [HT]
      show Calls Try.prog 18 #[.agg #[.int .u8 1, .string (str nm), .int .i64 n, .slice A kl c], .slice Al ll cl] w fun e w' => ∃ A2 c2, e = .returned (.agg #[.int .u8 1, .string (str nm), .int .i64 n, .slice A2 (ks.map (Ty.put l)).length c2]) ∧ MadeF F w w' (.node 1 nm n (ks.map (Ty.put l))) A2 c2
      rw [List.length_map, HK.out.1]
      clear HT hll
      go_enter Try.func18, Try.ntmps18
      go_upto_region 1 with fail
      (try rw [hw0])
      clear hw0
      go_upto_region 5 with fail
      clear d0 d1 d2 d3
      go_loopw [5, 6] (fun sv iv wr => ∃ (i : Nat) (vv : Value), i ≤ kl ∧ iv = .int .i64 (i : Int) ∧ vv = sv ∧ Hid (RpI F w wr 1 nm n A kl c ks l i vv)) (fun _ iv _ => kl - (intOf iv).toNat)
      case atStart => exact ⟨0, _, Nat.zero_le _, rfl, rfl, HI0⟩
      case round =>
        clear HI0
        obtain ⟨i, vv, hi, rfl, rfl, hJ⟩ := hrel
        have d3 := hJ.out.box.cell 3
        simp only [List.getElem?_toArray, List.getElem?_cons_zero, List.getElem?_cons_succ] at d3
        by_cases hli : i < kl
        · have hd : decide ((i : Int) < (kl : Int)) = true := by simpa using hli
          obtain ⟨t, ht⟩ : ∃ t, ks[i]? = some t := ⟨_, List.getElem?_eq_getElem (by rw [HK.out.1]; exact hli)⟩
          obtain ⟨b, off, A', c', rfl, _, hbl, z0, z1, z2, z3, hok, hlc, hcm, hAt⟩ := (HA.out.1.bel hJ.out.bel).get ht
          obtain ⟨tl, htl⟩ : ∃ tl, t.ks.length = tl := ⟨_, rfl⟩
          obtain ⟨u, hu⟩ : ∃ u, Ty.put l t = u := ⟨_, rfl⟩
          have HC := HK.out.2.1 t (List.mem_of_getElem? ht) A' c' wr hAt hlc hcm hok (by have := Ty.partss_mem (List.mem_of_getElem? ht); have := HK.out.2.2; omega) (fun b hb => Nat.lt_of_lt_of_le (HA.out.2.2.1 b hb) hJ.out.bel.size) (HA.out.2.1.bel hJ.out.bel)
          unfold Ty.val at HC
          rw [hu] at HC
          rw [htl] at HC z3
          obtain ⟨ul, hul⟩ : ∃ ul, u.ks.length = ul := ⟨_, rfl⟩
          rw [hul, HA.out.2.2.2] at HC
          replace HC := Lib.hid HC
          have HP : Hid (∀ (w7 : World) (A2 : Option Addr) (c2 : Nat), MadeF F wr w7 u A2 c2 → ∃ v' w9, (Builtin.append_ #[22, 22] 22 #[vv, .slice (some ⟨w7.heap.size, 0, none⟩) 1 1]).run Try.prog (w7.alloc (.cells #[.int .u8 (u.k : Int), .string (str u.nm), .int .i64 u.n, .slice A2 ul c2] 24)) = .ok v' w9 ∧ RpI F w w9 1 nm n (some ⟨b, off, none⟩) kl c ks l (i + 1) v') := Lib.hid fun w7 A2 c2 hM => hJ.out.push (fun b hb => HA.out.2.2.1 b hb) ht hu hul hM (by have := HK.out.2.2; have := Ty.partss_len ks; omega)
          clear ht hAt hlc hcm htl hbl hok hu hul hJ
          go_upto_region 7 with fail
          go_wp2_with fail
          refine HC.out.mono ?_
          rintro e w7 ⟨A2, c2, rfl, hM⟩
          obtain ⟨v', w9, hrun, hnx⟩ := HP.out w7 A2 c2 hM
          have HRUN := Lib.hid hrun
          have HNX := Lib.hid hnx
          clear hM hrun hnx HC HP z0 z1 z2 z3 d3
          go_wp2_with (at_builtin; refine wpList_app rfl _ _ 22 rfl _ _ _ _ rfl rfl HRUN.out ?_)
          go_roundw
          case rel => exact ⟨i + 1, _, by omega, by go_num, rfl, HNX⟩
          case measure => simp [intOf]; omega
        · obtain rfl : kl = i := by omega
          have hd : decide ((kl : Int) < (kl : Int)) = false := by simp
          obtain ⟨es, hes, hto⟩ := hJ.out.row
          have hel : es.length = kl := by rw [← List.length_map (f := Te.t), hes, List.length_map, List.length_take, HK.out.1]; omega
          obtain ⟨A2, c2, hvv, hl2, hm2, hA2⟩ := hto.shape
          rw [hes, List.take_of_length_le (by rw [HK.out.1]; exact Nat.le_refl _)] at hA2
          rw [hel] at hvv hl2
          subst hvv
          have x0 := hJ.out.box.cell 0
          have x1 := hJ.out.box.cell 1
          have x2 := hJ.out.box.cell 2
          simp only [List.getElem?_toArray, List.getElem?_cons_zero, List.getElem?_cons_succ] at x0 x1 x2
          have HC := Lib.hid (rkids_any 1 nm n A kl c A2 kl c2 wr)
          have HR := Lib.hid (And.intro hJ.out.res (And.intro hJ.out.bel (And.intro hl2 (And.intro hm2 hA2))))
          clear hJ hto hA2 hes hl2 hm2
          go_wp2_with fail
          refine HC.out.mono ?_
          rintro e w7 ⟨rfl, hb7⟩
          have hR7 := HR.out.1.below hb7 HR.out.1.lt
          clear d3 x0 x1 x2
          have r0 := hR7.cell 0
          have r1 := hR7.cell 1
          have r2 := hR7.cell 2
          have r3 := hR7.cell 3
          simp only [List.getElem?_toArray, List.getElem?_cons_zero, List.getElem?_cons_succ] at r0 r1 r2 r3
          have rf := hR7.frozen
          have HR7 := Lib.hid (And.intro hR7 hb7)
          clear hR7 hb7 HC
          go_wp2_with fail
          have HB9 := HR7.out.1.set4 (.int .u8 1) (.string (str nm)) (.int .i64 n) (.slice A2 kl c2)
          refine bodyPost_ret (results_cell_row rfl _ _ (w.heap.size + 1) 24 _ (0, 0) _ rfl HB9 Try.underlying24 rfl (by kernel_rfl)) rfl ?_
          have ho := off4 w7 (w.heap.size + 1) (.int .u8 1) (.string (str nm)) (.int .i64 n) (.slice A2 kl c2)
          have h1 := HR.out.2.1.size
          have h2 := HR.out.1.lt
          have h3 := HR7.out.2.size
          exact ⟨A2, c2, rfl, ⟨by show (ks.map (Ty.put l)).length ≤ c2; rw [List.length_map, HK.out.1]; exact HR.out.2.2.1, HR.out.2.2.2.1, ((HR.out.2.2.2.2.bel HR7.out.2).off ho (fun g h e => by rcases h with h | h; have := HA.out.2.2.1 g h; omega; have := h.1; omega)).mono (fun g h => h.imp id fun h => ⟨by have := h.1; omega, by have := h.2; have := ho.size; omega⟩), (HR.out.2.1.trans (HR7.out.2.mono h1)).trans (ho.below (by omega) (fun g e => by omega)), HOK.out⟩⟩
    have q1 : decide (n < (ll : Int)) = true := by simp; omega
    obtain ⟨i, rfl⟩ : ∃ i : Nat, n = (i : Int) := ⟨n.toNat, by omega⟩
    have hli : i < ll := by omega
    obtain ⟨u, hu⟩ : ∃ u, l[i]? = some u := ⟨_, List.getElem?_eq_getElem (by rw [hll]; exact hli)⟩
    have HT : Ty.put l (.node 1 nm (i : Int) ks) = u := by rw [Ty.put, if_pos ⟨rfl, by omega, by omega⟩]; simp [hu]
    rw [HT]
    obtain ⟨ul, hul⟩ : ∃ ul, u.ks.length = ul := ⟨_, rfl⟩
    obtain ⟨b, off, A2, c2, rfl, _, hbl, z0, z1, z2, z3, hok, hlc, hcm, hAt⟩ := (HA.out.2.1.bel HI0.out.bel).get hu
    rw [hul] at z3
    show Calls Try.prog 18 #[.agg #[.int .u8 1, .string (str nm), .int .i64 (i : Int), .slice A kl c], .slice (some ⟨b, off, none⟩) ll cl] w _
    have r0 := hR0.cell 0
    have r1 := hR0.cell 1
    have r2 := hR0.cell 2
    have r3 := hR0.cell 3
    have rf := hR0.frozen
    simp only [List.getElem?_toArray, List.getElem?_cons_zero, List.getElem?_cons_succ] at r0 r1 r2 r3
    have HR := Lib.hid (And.intro hR0 (And.intro hok (And.intro hlc (And.intro hcm (And.intro hAt hul)))))
    clear hkl hR0 hll hu HT hok hlc hcm hAt hul hbl
    go_enter Try.func18, Try.ntmps18
    go_upto_region 1 with fail
    (try rw [hw0])
    clear hw0
    go_wp2_with fail
    have HB9 := HR.out.1.set4 (.int .u8 (u.k : Int)) (.string (str u.nm)) (.int .i64 u.n) (.slice A2 ul c2)
    refine bodyPost_ret (results_cell_row rfl _ _ (w.heap.size + 1) 24 _ (0, 0) _ rfl HB9 Try.underlying24 rfl (by kernel_rfl)) rfl ?_
    have ho := off4 w0 (w.heap.size + 1) (.int .u8 (u.k : Int)) (.string (str u.nm)) (.int .i64 u.n) (.slice A2 ul c2)
    have h1 := HR.out.1.lt
    exact ⟨A2, c2, by unfold Ty.val; rw [HR.out.2.2.2.2.2], ⟨HR.out.2.2.1, HR.out.2.2.2.1, (HR.out.2.2.2.2.1.off ho (fun g h e => by have := HA.out.2.2.1 g h; omega)).mono (fun g h => .inl h), HI0.out.bel.trans (ho.below HI0.out.bel.size (fun g e => by omega)), HR.out.2.1⟩⟩
  · rw [decide_eq_false e1] at hk1
    clear hkl hll hR0
    have HT : Ty.put l (.node k nm n ks) = .node k nm n (ks.map (Ty.put l)) := by rw [Ty.put, Ty.puts_map, if_neg (fun h => e1 h.1)]
    rw [HT]
    show Calls Try.prog 18 #[.agg #[.int .u8 (k : Int), .string (str nm), .int .i64 n, .slice A kl c], .slice Al ll cl] w fun e w' => ∃ A2 c2, e = .returned (.agg #[.int .u8 (k : Int), .string (str nm), .int .i64 n, .slice A2 (ks.map (Ty.put l)).length c2]) ∧ MadeF F w w' (.node k nm n (ks.map (Ty.put l))) A2 c2
    rw [List.length_map, HK.out.1]
    clear HT
    go_enter Try.func18, Try.ntmps18
    go_upto_region 1 with fail
    (try rw [hw0])
    clear hw0
    go_upto_region 5 with fail
    clear d0 d1 d2 d3
    go_loopw [5, 6] (fun sv iv wr => ∃ (i : Nat) (vv : Value), i ≤ kl ∧ iv = .int .i64 (i : Int) ∧ vv = sv ∧ Hid (RpI F w wr k nm n A kl c ks l i vv)) (fun _ iv _ => kl - (intOf iv).toNat)
    case atStart => exact ⟨0, _, Nat.zero_le _, rfl, rfl, HI0⟩
    case round =>
      clear HI0
      obtain ⟨i, vv, hi, rfl, rfl, hJ⟩ := hrel
      have d3 := hJ.out.box.cell 3
      simp only [List.getElem?_toArray, List.getElem?_cons_zero, List.getElem?_cons_succ] at d3
      by_cases hli : i < kl
      · have hd : decide ((i : Int) < (kl : Int)) = true := by simpa using hli
        obtain ⟨t, ht⟩ : ∃ t, ks[i]? = some t := ⟨_, List.getElem?_eq_getElem (by rw [HK.out.1]; exact hli)⟩
        obtain ⟨b, off, A', c', rfl, _, hbl, z0, z1, z2, z3, hok, hlc, hcm, hAt⟩ := (HA.out.1.bel hJ.out.bel).get ht
        obtain ⟨tl, htl⟩ : ∃ tl, t.ks.length = tl := ⟨_, rfl⟩
        obtain ⟨u, hu⟩ : ∃ u, Ty.put l t = u := ⟨_, rfl⟩
        have HC := HK.out.2.1 t (List.mem_of_getElem? ht) A' c' wr hAt hlc hcm hok (by have := Ty.partss_mem (List.mem_of_getElem? ht); have := HK.out.2.2; omega) (fun b hb => Nat.lt_of_lt_of_le (HA.out.2.2.1 b hb) hJ.out.bel.size) (HA.out.2.1.bel hJ.out.bel)
        unfold Ty.val at HC
        rw [hu] at HC
        rw [htl] at HC z3
        obtain ⟨ul, hul⟩ : ∃ ul, u.ks.length = ul := ⟨_, rfl⟩
        rw [hul, HA.out.2.2.2] at HC
        replace HC := Lib.hid HC
        have HP : Hid (∀ (w7 : World) (A2 : Option Addr) (c2 : Nat), MadeF F wr w7 u A2 c2 → ∃ v' w9, (Builtin.append_ #[22, 22] 22 #[vv, .slice (some ⟨w7.heap.size, 0, none⟩) 1 1]).run Try.prog (w7.alloc (.cells #[.int .u8 (u.k : Int), .string (str u.nm), .int .i64 u.n, .slice A2 ul c2] 24)) = .ok v' w9 ∧ RpI F w w9 k nm n (some ⟨b, off, none⟩) kl c ks l (i + 1) v') := Lib.hid fun w7 A2 c2 hM => hJ.out.push (fun b hb => HA.out.2.2.1 b hb) ht hu hul hM (by have := HK.out.2.2; have := Ty.partss_len ks; omega)
        clear ht hAt hlc hcm htl hbl hok hu hul hJ
        go_upto_region 7 with fail
        go_wp2_with fail
        refine HC.out.mono ?_
        rintro e w7 ⟨A2, c2, rfl, hM⟩
        obtain ⟨v', w9, hrun, hnx⟩ := HP.out w7 A2 c2 hM
        have HRUN := Lib.hid hrun
        have HNX := Lib.hid hnx
        clear hM hrun hnx HC HP z0 z1 z2 z3 d3
        go_wp2_with (at_builtin; refine wpList_app rfl _ _ 22 rfl _ _ _ _ rfl rfl HRUN.out ?_)
        go_roundw
        case rel => exact ⟨i + 1, _, by omega, by go_num, rfl, HNX⟩
        case measure => simp [intOf]; omega
      · obtain rfl : kl = i := by omega
        have hd : decide ((kl : Int) < (kl : Int)) = false := by simp
        obtain ⟨es, hes, hto⟩ := hJ.out.row
        have hel : es.length = kl := by rw [← List.length_map (f := Te.t), hes, List.length_map, List.length_take, HK.out.1]; omega
        obtain ⟨A2, c2, hvv, hl2, hm2, hA2⟩ := hto.shape
        rw [hes, List.take_of_length_le (by rw [HK.out.1]; exact Nat.le_refl _)] at hA2
        rw [hel] at hvv hl2
        subst hvv
        have x0 := hJ.out.box.cell 0
        have x1 := hJ.out.box.cell 1
        have x2 := hJ.out.box.cell 2
        simp only [List.getElem?_toArray, List.getElem?_cons_zero, List.getElem?_cons_succ] at x0 x1 x2
        have HC := Lib.hid (rkids_any k nm n A kl c A2 kl c2 wr)
        have HR := Lib.hid (And.intro hJ.out.res (And.intro hJ.out.bel (And.intro hl2 (And.intro hm2 hA2))))
        clear hJ hto hA2 hes hl2 hm2
        go_wp2_with fail
        refine HC.out.mono ?_
        rintro e w7 ⟨rfl, hb7⟩
        have hR7 := HR.out.1.below hb7 HR.out.1.lt
        clear d3 x0 x1 x2
        have r0 := hR7.cell 0
        have r1 := hR7.cell 1
        have r2 := hR7.cell 2
        have r3 := hR7.cell 3
        simp only [List.getElem?_toArray, List.getElem?_cons_zero, List.getElem?_cons_succ] at r0 r1 r2 r3
        have rf := hR7.frozen
        have HR7 := Lib.hid (And.intro hR7 hb7)
        clear hR7 hb7 HC
        go_wp2_with fail
        have HB9 := HR7.out.1.set4 (.int .u8 (k : Int)) (.string (str nm)) (.int .i64 n) (.slice A2 kl c2)
        refine bodyPost_ret (results_cell_row rfl _ _ (w.heap.size + 1) 24 _ (0, 0) _ rfl HB9 Try.underlying24 rfl (by kernel_rfl)) rfl ?_
        have ho := off4 w7 (w.heap.size + 1) (.int .u8 (k : Int)) (.string (str nm)) (.int .i64 n) (.slice A2 kl c2)
        have h1 := HR.out.2.1.size
        have h2 := HR.out.1.lt
        have h3 := HR7.out.2.size
        exact ⟨A2, c2, rfl, ⟨by show (ks.map (Ty.put l)).length ≤ c2; rw [List.length_map, HK.out.1]; exact HR.out.2.2.1, HR.out.2.2.2.1, ((HR.out.2.2.2.2.bel HR7.out.2).off ho (fun g h e => by rcases h with h | h; have := HA.out.2.2.1 g h; omega; have := h.1; omega)).mono (fun g h => h.imp id fun h => ⟨by have := h.1; omega, by have := h.2; have := ho.size; omega⟩), (HR.out.2.1.trans (HR7.out.2.mono h1)).trans (ho.below (by omega) (fun g e => by omega)), HOK.out⟩⟩
end Go.Proofs.Ytndhojnfjlkojaa
