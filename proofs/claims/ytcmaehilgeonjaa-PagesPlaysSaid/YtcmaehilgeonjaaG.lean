/- Pages and Sectors. -/
import Derived.Test.YtcmaehilgeonjaaE
import Derived.Test.YtcmaehilgeonjaaOR
namespace Go.Proofs.Ytcmaehilgeonjaa
open Go.RowKit Go.Shelf Pgs
attribute [local go_sem] Oper.semAt_some

theorem wpListIn_app {F : Fence} {n : Nat} {P : Program} {w : World} {ops : Array Oper} {rest : List Oper} {o : Oper} {a : Act} {Q : Exit → Act → World → Prop} (hgd : o.guard = none) (s x : Operand) (t : TypeId)
    (ho : o.op = .call { callee := .builtin .append, args := #[s, x], argTypes := #[t, t] }) (v xv v' : Value) (w' : World) (hs : a.eval s = v) (hx : a.eval x = xv)
    (hrun : (Builtin.append_ #[t, t] o.type #[v, xv]).run P w = .ok v' w') (h : wpListIn F n P ops Q rest (a.put o.dst v') w') : wpListIn F n P ops Q (o :: rest) a w := by
  refine wpListIn_plain hgd fun K hK => ?_
  unfold Oper.wpIn
  refine ⟨by simp [Oper.about, ho, resolve, Target.leads, Sem.run_pure], ?_⟩
  rw [Oper.semAt_plain F _ _ (by rw [ho]; intro c hc'; cases hc')]
  unfold execOp
  simp only [ho, resolve, invoke, builtin, Sem.run_bind, Sem.run_pure, Result.andThen_ok, List.map_toArray, List.map_cons, List.map_nil, hs, hx, hrun]
  exact hK _ _ h

theorem EInv.off {Bp g : Nat} {L : List Nat} {W W' : World} (h : EInv Bp g L W) (hb : W'.heap[Bp]? = W.heap[Bp]?) (hk : W'.heap[g]? = W.heap[g]?) : EInv Bp g L W' :=
  ⟨(World.cell?_of_block (a := ⟨Bp, 0, none⟩) hb).trans h.box, fun i x hx => (World.cell?_of_block (a := ⟨g, i, none⟩) hk).trans (h.by_ i x hx)⟩
/-- Numbers that were appended. -/
structure IntsO (W : World) (sv : Value) (zs : List Nat) : Prop where
  own : W.ownsRow 0 3 1 sv zs.length (zs.map fun (z : Nat) => Value.int .i64 (z : Int))
theorem IntsO.nil (W : World) : IntsO W (.slice none 0 0) [] := ⟨World.ownsRow_nil _ _ _ _⟩
theorem IntsO.shape {W : World} {sv : Value} {zs : List Nat} (h : IntsO W sv zs) : ∃ A c, sv = .slice A zs.length c ∧ zs.length ≤ c ∧ c ≤ maxLen := by
  rcases h.own.2 with ⟨rfl, h0⟩ | ⟨g, cap, cur, rfl, _, _, h1, h2, _⟩
  · exact ⟨none, 0, by rw [h0], by omega, Nat.zero_le _⟩
  · exact ⟨_, _, rfl, h1, h2⟩
theorem IntsO.lt {W : World} {sv : Value} {zs : List Nat} (h : IntsO W sv zs) (k : Nat) (hk : sv.ownBlock = some k) : k < W.heap.size := (h.own.lt k hk).2
theorem IntsO.same {W W' : World} {sv : Value} {zs : List Nat} (h : IntsO W sv zs) (hr : ∀ k, sv.ownBlock = some k → W'.heap[k]? = W.heap[k]?) : IntsO W' sv zs := by
  refine ⟨h.own.1, ?_⟩
  rcases h.own.2 with h0 | ⟨g, cap, cur, rfl, h1, h2, h3⟩
  · exact .inl h0
  · exact .inr ⟨g, cap, cur, rfl, h1, (hr g rfl).trans h2, h3⟩
theorem IntsO.cells {W : World} {sv : Value} {zs : List Nat} (h : IntsO W sv zs) (k : Nat) (hk : sv.ownBlock = some k) : ∃ o : Obj, W.heap[k]? = some o ∧ o.isCells = true := by
  rcases h.own.2 with ⟨rfl, _⟩ | ⟨g, cap, cur, rfl, _, h1, _⟩
  · cases hk
  · injection hk with hk; subst hk; exact ⟨_, h1, rfl⟩
theorem IntsO.get {W : World} {sv : Value} {zs : List Nat} (h : IntsO W sv zs) (k z : Nat) (hz : zs[k]? = some z) : ∃ g c, sv = .slice (some ⟨g, 0, none⟩) zs.length c ∧ g < W.heap.size ∧ W.cell? ⟨g, k, none⟩ = some (.int .i64 (z : Int)) := by
  have hk := (List.getElem?_eq_some_iff.1 hz).1
  rcases h.own.2 with ⟨rfl, e⟩ | ⟨g, cap, cur, rfl, _, h1, _⟩
  · omega
  · have c1 := h.own.cellAt k (by omega)
    rw [List.getElem?_map, hz] at c1
    exact ⟨g, cap, rfl, h.lt g rfl, c1⟩
theorem IntsO.push {W : World} {sv : Value} {zs : List Nat} (h : IntsO W sv zs) (z b : Nat) (h0 : W.cell? ⟨b, 0, none⟩ = some (.int .i64 (z : Int))) (hl : zs.length < 1000000) :
    ∃ v' w', (Builtin.append_ #[37, 37] 37 #[sv, .slice (some ⟨b, 0, none⟩) 1 1]).run Try.prog W = .ok v' w' ∧ IntsO w' v' (zs ++ [z]) ∧ W.grownBy w' sv.ownBlock ∧ (v'.ownBlock = sv.ownBlock ∨ v'.ownBlock = some W.heap.size) := by
  have hI : (Try.prog.info? 3).map (fun i => (i.zero, i.size, i.bytes)) = some (some (.int .i64 0), 1, 8) := by kernel_rfl
  obtain ⟨i0, hi, hz0, hz1, hz2⟩ := info_parts hI
  have hcell : ∀ (j : Nat) (u : Value), [Value.int .i64 (z : Int)][j]? = some u → W.cell? ((⟨b, 0, none⟩ : Addr).add j) = some u := fun j u hj => by
    have e2 : (⟨b, 0, none⟩ : Addr).add j = ⟨b, 0 + j, none⟩ := by unfold Addr.add; split <;> simp_all
    rw [e2, Nat.zero_add]
    rcases j with _ | j
    · cases hj; exact h0
    · simp at hj
  obtain ⟨v', w', hrun, h2, h3, _, h5⟩ := run_append_own_at (P := Try.prog) W 0 37 37 3 i0 (.int .i64 0) 1 8 Try.underlying37 hi hz0 hz1 hz2 rfl (by decide) sv zs.length _ h.own ⟨b, 0, none⟩ 1 1 [.int .i64 (z : Int)] (by simp) hcell
    (fun u hu => by rw [List.mem_singleton.1 hu]; rfl) (by unfold maxLen; omega) (by omega) (Nat.zero_le _)
  exact ⟨v', w', hrun, ⟨by rw [List.length_append, List.length_singleton, List.map_append]; exact h2⟩, h3, h5⟩

structure ZInv (w : World) (zs : List Nat) (W : World) : Prop where
  ex : ∃ sv, Blk W w.heap.size 37 #[sv] ∧ IntsO W sv zs ∧ ∀ j, sv.ownBlock = some j → w.heap.size + 2 ≤ j
  bel : Below w.heap.size w W
  sz : w.heap.size + 2 ≤ W.heap.size
theorem ZInv.own {β : Type} (w : World) (f : β → List Nat) : OwnFrom (w.heap.size + 2) (fun (s : β) W => ZInv w (f s) W) := fun s W W' row hs hg hr => by
  obtain ⟨sv, h1, h2, h3⟩ := hs.ex
  have hb := hs.bel.size
  refine ⟨⟨sv, h1.kept hg (fun r e => (hr r e).2), h2.same fun k hk => hg.block k (h2.lt k hk) (fun e => ?_), h3⟩, hs.bel.grown hg hb (fun k e => by have := (hr k e).1; omega), Nat.le_trans hs.sz hg.size⟩
  obtain ⟨_, o, ho, hc⟩ := hr k e.symm
  obtain ⟨o', ho', hc'⟩ := h2.cells k hk
  rw [ho] at ho'; cases ho'; rw [hc] at hc'; cases hc'
theorem ZInv.push {w W : World} {zs : List Nat} (h : ZInv w zs W) (hl : zs.length < 1000000) (z : Nat) :
    ∃ As cS, W.cell? ⟨w.heap.size, 0, none⟩ = some (.slice As zs.length cS) ∧ W.frozen? ⟨w.heap.size, 0, none⟩ = false ∧ w.heap.size < W.heap.size ∧ ∃ v' w5, (∃ A5 n5 c5, v' = .slice A5 n5 c5) ∧ (Builtin.append_ #[37, 37] 37 #[.slice As zs.length cS, .slice (some ⟨W.heap.size, 0, none⟩) 1 1]).run Try.prog (W.alloc (.cells #[.int .i64 (z : Int)] 3)) = .ok v' w5 ∧
      w5.cell? ⟨w.heap.size, 0, none⟩ = some (.slice As zs.length cS) ∧ w5.frozen? ⟨w.heap.size, 0, none⟩ = false ∧
      KeepsOthers W (w5.setCell ⟨w.heap.size, 0, none⟩ v') ∧ ZInv w (zs ++ [z]) (w5.setCell ⟨w.heap.size, 0, none⟩ v') ∧
      ∀ (g : Nat) (L : List Nat), g < w.heap.size → EInv (w.heap.size + 1) g L W → EInv (w.heap.size + 1) g L (w5.setCell ⟨w.heap.size, 0, none⟩ v') := by
  obtain ⟨sv, h1, h2, h3⟩ := h.ex
  obtain ⟨As, cS, hsv, _, _⟩ := h2.shape
  have hsz := h.sz
  have hb : Below W.heap.size W (W.alloc (.cells #[.int .i64 (z : Int)] 3)) := (Below.refl _ _).alloc (Nat.le_refl _) _
  have h2' : IntsO (W.alloc (.cells #[.int .i64 (z : Int)] 3)) sv zs := h2.same (fun k hk => hb.block k (h2.lt k hk))
  obtain ⟨v', w5, hrun, hp, hg, ho⟩ := h2'.push z W.heap.size ((Blk.new W 3 #[.int .i64 (z : Int)]).cell 0) (by omega)
  have hgs := hg.size
  rw [World.size_alloc] at hgs ho
  have nw : sv.ownBlock ≠ some w.heap.size := fun e => by have := h3 _ e; omega
  have hB5 : Blk w5 w.heap.size 37 #[sv] := (h1.alloc _).grown hg (fun e => nw e.symm)
  have hvb : ∀ j, v'.ownBlock = some j → w.heap.size + 2 ≤ j := fun j hj => by
    rcases ho with ho | ho
    · exact h3 j (ho ▸ hj)
    · rw [ho] at hj; injection hj with hj; omega
  have st : ∀ j, j ≠ w.heap.size → (w5.setCell ⟨w.heap.size, 0, none⟩ v').heap[j]? = w5.heap[j]? := fun j hj => Below.heap_setCell _ _ _ _ hj
  have ssz : w5.heap.size = (w5.setCell ⟨w.heap.size, 0, none⟩ v').heap.size := by simp [World.setCell]
  have hko : KeepsOthers W (w5.setCell ⟨w.heap.size, 0, none⟩ v') := ((KeepsOthers.alloc W _).trans (KeepsOthers.of_grownBy hg fun j o hj ho => by
    obtain ⟨o', ho', hc'⟩ := h2'.cells j hj
    rw [ho] at ho'; cases ho'; exact hc')).trans (KeepsOthers.setCell _ _ _)
  subst hsv
  refine ⟨As, cS, h1.cell 0, h1.frozen 0, by omega, v', w5, (by obtain ⟨A5, c5, e5, _⟩ := hp.shape; exact ⟨_, _, _, e5⟩), hrun, hB5.cell 0, hB5.frozen 0, hko, ⟨⟨v', ?_, ?_, hvb⟩, ?_, by rw [← ssz]; omega⟩, fun g L hgl hI => ?_⟩
  · have := hB5.set_ 0 v'
    simpa using this
  · exact hp.same (fun k hk => st k (by have := hvb k hk; omega))
  · exact ((h.bel.trans (hb.mono h.bel.size)).grown hg (by rw [World.size_alloc]; have := h.bel.size; omega) (fun k hk => by have := h3 k hk; omega)).setCell (p := ⟨w.heap.size, 0, none⟩) (Nat.le_refl _) _
  · refine hI.off ((st _ (by omega)).trans ((hg.block _ (by rw [World.size_alloc]; omega) (fun e => by have := h3 _ e.symm; omega)).trans (hb.block _ (by omega)))) ((st _ (by omega)).trans ((hg.block _ (by rw [World.size_alloc]; omega) (fun e => by have := h3 _ e.symm; omega)).trans (hb.block _ (by omega))))


def gPages (L : List Nat) {n : Nat} (pre : List (Slot n)) : List Nat := pre.map fun x => pgK L x.1
def gSectors (L : List Nat) {n : Nat} (pre : List (Slot n)) : List Nat := pre.map fun x => L.getD (pgK L x.1) 0
theorem come_pages {L : List Nat} {n : Nat} (hn : (pagesL L).length = n) {ys : List (Slot n)} (h : Come n ys) : gPages L ys = pagesL L := by
  have e : gPages L ys = (ys.map (·.1)).map (pgK L) := by unfold gPages; simp only [List.map_map, Function.comp_def]
  rw [e, h]
  apply List.ext_getElem?
  intro i
  rcases Nat.lt_or_ge i n with hi | hi
  · rw [List.getElem?_map, List.getElem?_range hi, Option.map_some, List.getElem?_eq_getElem (show i < (pagesL L).length by omega)]
    unfold pgK
    rw [List.getD_eq_getElem?_getD, List.getElem?_eq_getElem (show i < (pagesL L).length by omega), Option.getD_some]
  · rw [List.getElem?_eq_none (by rw [List.length_map, List.length_range]; exact hi), List.getElem?_eq_none (by omega)]
theorem come_sectors {L : List Nat} {n : Nat} (hn : (pagesL L).length = n) {ys : List (Slot n)} (h : Come n ys) : gSectors L ys = sectorsL L := by
  have e : gSectors L ys = (gPages L ys).map fun i => L.getD i 0 := by unfold gSectors gPages; simp only [List.map_map, Function.comp_def]
  rw [e, come_pages hn h]
  unfold sectorsL
  exact Eq.refl _

set_option maxRecDepth 100000 in
set_option maxHeartbeats 1000000 in
theorem pages_some (g : Nat) (L : List Nat) (w : World) (h : PM w g L) :
    Calls Try.prog 20 #[.pointer (some ⟨g, 0, none⟩)] w fun e W' => ∃ sv, e = .returned sv ∧ IntsO W' sv (pagesL L) ∧ (∀ j, sv.ownBlock = some j → w.heap.size ≤ j) ∧ Below w.heap.size w W' := by
  obtain ⟨n, hn⟩ : ∃ n, (pagesL L).length = n := ⟨_, rfl⟩
  have hglt := h.blk.lt
  refine (callsIn_wide (n := 5)).1 ?_
  have hro : (Fence.wide).round = none := rfl
  refine callsIn_of_wp_marks Try.func20 rfl trivial ?_ hro
  simp only [Try.ntmps20, List.size_toArray, List.length_cons, List.length_nil, Nat.reduceAdd, Nat.reduceSub, Array.replicate_succ, Array.replicate_zero, List.push_toArray, List.append_toArray, List.nil_append, List.cons_append]
  gi_wp2_with fail
  refine ⟨trivial, ?_⟩
  refine (callsIn_wide.2 (each_any _ _)).mono ?_
  rintro e w' ⟨rfl, rfl⟩
  gi_wp2_with fail
  obtain ⟨ws, hws⟩ : ∃ ws, ((w.alloc (.cells #[.slice none 0 0] 37)).alloc (.cells #[.pointer (some ⟨g, 0, none⟩)] 25)) = ws := ⟨_, rfl⟩
  have bX : Blk ws w.heap.size 37 #[.slice none 0 0] := by rw [← hws]; exact (Blk.new w _ _).alloc _
  have bP : Blk ws (w.heap.size + 1) 25 #[.pointer (some ⟨g, 0, none⟩)] := by
    have := Blk.new (w.alloc (.cells #[.slice none 0 0] 37)) 25 #[.pointer (some ⟨g, 0, none⟩)]
    rw [World.size_alloc] at this
    rw [← hws]; exact this
  have hB0 : Below w.heap.size w ws := by
    rw [← hws]; exact ((Below.refl _ w).alloc (Nat.le_refl _) _).alloc (by simp) _
  have hsz : ws.heap.size = w.heap.size + 2 := by rw [← hws]; simp
  have hE0 : EInv (w.heap.size + 1) g L ws := ⟨bP.cell 0, fun i x hx => (h.below hB0).cell hx⟩
  have hI0 : ZInv w [] ws := ⟨⟨_, bX, IntsO.nil _, fun j hj => (by cases hj)⟩, hB0, by omega⟩
  rw [hws]
  clear hws
  have HN := Lib.hid hn
  have HG := Lib.hid hglt
  have hn24 : n ≤ 1024 := by rw [← hn]; exact pagesTo_len L 1024
  have hown := ZInv.own w (fun (pre : List (Slot n)) => gPages L pre)
  rw [← hsz] at hown
  have hst := each1_stops 4 (by omega) _ g n L h.ok hn ws hE0
  clear hn h
  refine wpIn_rangeFunc_ownG hro (by omega) (gf := 40) (lb := #[.pointer (some ⟨w.heap.size + 1, 0, none⟩)]) rfl trivial (enters_of Try.func40 (by kernel_rfl) rfl)
    hst einv_t (fun W l o o' _ h hc _ => einv_b W l o o' h hc) (Below.refl _ _) (fun _ => rfl)
    (fun (pre : List (Slot n)) W => ZInv w (gPages L pre) W)
    (fun _ _ _ => False)
    hown
    (fun _ _ _ _ _ hs _ _ => hs)
    hI0
    (fun x => { tmps := #[.pointer (some ⟨g, 0, none⟩), undef, .slice none 0 0, .pointer (some ⟨w.heap.size, 0, none⟩), .int .i64 (pgK L x.1 : Int), .pointer (some ⟨g, 0, none⟩), .func (.func 40) #[] #[.pointer (some ⟨w.heap.size + 1, 0, none⟩)], .int .i64 (pgK L x.1 : Int), .int .i64 (L.getD (pgK L x.1) 0 : Int), undef, undef, undef, undef, undef], defers := [] }) ?assign ?body ?done ?stop
  case assign =>
    intro l x W K hK
    dsimp only [epair]
    gi_wp2
    exact hK
  case body =>
    rintro l pre x W hI hlp
    have hlen9 : (gPages L pre).length < 1000000 := by
      unfold gPages
      rw [List.length_map]
      omega
    have hsn : gPages L (pre ++ [x]) = gPages L pre ++ [pgK L x.1] := by unfold gPages; simp
    obtain ⟨As, cS, hc, hf, hlt, v', w5, ⟨A5, n5, c5, rfl⟩, hrun, hc5, hf5, hko, hR, hEI⟩ := hI.push hlen9 (pgK L x.1)
    obtain ⟨nS, hnS⟩ : ∃ nS, (gPages L pre).length = nS := ⟨_, rfl⟩
    rw [hnS] at hrun
    rw [hnS] at hc hc5 hlen9
    have HFIN : Hid (KeepsFrom ws.heap.size W (w5.setCell ⟨w.heap.size, 0, none⟩ (.slice A5 n5 c5)) ∧ (EInv (w.heap.size + 1) g L W → EInv (w.heap.size + 1) g L (w5.setCell ⟨w.heap.size, 0, none⟩ (.slice A5 n5 c5))) ∧ ZInv w (gPages L (pre ++ [x])) (w5.setCell ⟨w.heap.size, 0, none⟩ (.slice A5 n5 c5))) :=
      Lib.hid ⟨hko.from _, hEI g L HG.out, by rw [hsn]; exact hR⟩
    have HRUN := Lib.hid hrun
    clear hrun hko hR hEI hI hlen9 hnS hsn
    gi_wp2_with (gi_at_builtin; refine wpListIn_app rfl _ _ 37 rfl _ _ _ _ rfl rfl HRUN.out ?_; clear HRUN)
    exact HFIN.out
  case done =>
    rintro D ys W hD hS hI hK
    obtain ⟨sv, h1, h2, h3⟩ := hI.ex
    rw [show gPages L ys = pagesL L from come_pages HN.out hS] at h2
    have hc := h1.cell 0
    have HF : Hid (IntsO W sv (pagesL L) ∧ (∀ j, sv.ownBlock = some j → w.heap.size ≤ j) ∧ Below w.heap.size w W) := Lib.hid ⟨h2, fun j hj => by have := h3 j hj; omega, hI.bel⟩
    clear h1 h2 h3 hI
    gi_wp2
    refine ⟨by simp, .inl ⟨_, _, rfl, run_takeDeferred hK, ?_⟩⟩
    obtain ⟨g1, g2, g3⟩ := HF.out
    have hb := belowK_b (w := w) (Nat.le_refl _) W D _ (.deferred none) (by omega) hK rfl rfl
    refine ⟨_, results_tmp rfl _ _ _, sv, rfl, ?_, g2, g3.trans hb⟩
    refine g1.same fun k hk => (grownBy_putObj' W D (.deferred none)).block k (g1.lt k hk) fun e => ?_
    injection e with e
    obtain ⟨o, ho, hc⟩ := g1.cells k hk
    rw [e, hK] at ho; cases ho; cases hc
  case stop =>
    rintro D c pre W _ _ h _
    exact h.elim

set_option maxRecDepth 100000 in
set_option maxHeartbeats 1000000 in
theorem sectors_some (g : Nat) (L : List Nat) (w : World) (h : PM w g L) :
    Calls Try.prog 22 #[.pointer (some ⟨g, 0, none⟩)] w fun e W' => ∃ sv, e = .returned sv ∧ IntsO W' sv (sectorsL L) ∧ (∀ j, sv.ownBlock = some j → w.heap.size ≤ j) ∧ Below w.heap.size w W' := by
  obtain ⟨n, hn⟩ : ∃ n, (pagesL L).length = n := ⟨_, rfl⟩
  have hglt := h.blk.lt
  refine (callsIn_wide (n := 5)).1 ?_
  have hro : (Fence.wide).round = none := rfl
  refine callsIn_of_wp_marks Try.func22 rfl trivial ?_ hro
  simp only [Try.ntmps22, List.size_toArray, List.length_cons, List.length_nil, Nat.reduceAdd, Nat.reduceSub, Array.replicate_succ, Array.replicate_zero, List.push_toArray, List.append_toArray, List.nil_append, List.cons_append]
  gi_wp2_with fail
  refine ⟨trivial, ?_⟩
  refine (callsIn_wide.2 (each_any _ _)).mono ?_
  rintro e w' ⟨rfl, rfl⟩
  gi_wp2_with fail
  obtain ⟨ws, hws⟩ : ∃ ws, ((w.alloc (.cells #[.slice none 0 0] 37)).alloc (.cells #[.pointer (some ⟨g, 0, none⟩)] 25)) = ws := ⟨_, rfl⟩
  have bX : Blk ws w.heap.size 37 #[.slice none 0 0] := by rw [← hws]; exact (Blk.new w _ _).alloc _
  have bP : Blk ws (w.heap.size + 1) 25 #[.pointer (some ⟨g, 0, none⟩)] := by
    have := Blk.new (w.alloc (.cells #[.slice none 0 0] 37)) 25 #[.pointer (some ⟨g, 0, none⟩)]
    rw [World.size_alloc] at this
    rw [← hws]; exact this
  have hB0 : Below w.heap.size w ws := by
    rw [← hws]; exact ((Below.refl _ w).alloc (Nat.le_refl _) _).alloc (by simp) _
  have hsz : ws.heap.size = w.heap.size + 2 := by rw [← hws]; simp
  have hE0 : EInv (w.heap.size + 1) g L ws := ⟨bP.cell 0, fun i x hx => (h.below hB0).cell hx⟩
  have hI0 : ZInv w [] ws := ⟨⟨_, bX, IntsO.nil _, fun j hj => (by cases hj)⟩, hB0, by omega⟩
  rw [hws]
  clear hws
  have HN := Lib.hid hn
  have HG := Lib.hid hglt
  have hn24 : n ≤ 1024 := by rw [← hn]; exact pagesTo_len L 1024
  have hown := ZInv.own w (fun (pre : List (Slot n)) => gSectors L pre)
  rw [← hsz] at hown
  have hst := each1_stops 4 (by omega) _ g n L h.ok hn ws hE0
  clear hn h
  refine wpIn_rangeFunc_ownG hro (by omega) (gf := 40) (lb := #[.pointer (some ⟨w.heap.size + 1, 0, none⟩)]) rfl trivial (enters_of Try.func40 (by kernel_rfl) rfl)
    hst einv_t (fun W l o o' _ h hc _ => einv_b W l o o' h hc) (Below.refl _ _) (fun _ => rfl)
    (fun (pre : List (Slot n)) W => ZInv w (gSectors L pre) W)
    (fun _ _ _ => False)
    hown
    (fun _ _ _ _ _ hs _ _ => hs)
    hI0
    (fun x => { tmps := #[.pointer (some ⟨g, 0, none⟩), undef, .slice none 0 0, .pointer (some ⟨w.heap.size, 0, none⟩), undef, .int .i64 (L.getD (pgK L x.1) 0 : Int), .pointer (some ⟨g, 0, none⟩), .func (.func 40) #[] #[.pointer (some ⟨w.heap.size + 1, 0, none⟩)], .int .i64 (pgK L x.1 : Int), .int .i64 (L.getD (pgK L x.1) 0 : Int), undef, undef, undef, undef, undef], defers := [] }) ?assign ?body ?done ?stop
  case assign =>
    intro l x W K hK
    dsimp only [epair]
    gi_wp2
    exact hK
  case body =>
    rintro l pre x W hI hlp
    have hlen9 : (gSectors L pre).length < 1000000 := by
      unfold gSectors
      rw [List.length_map]
      omega
    have hsn : gSectors L (pre ++ [x]) = gSectors L pre ++ [L.getD (pgK L x.1) 0] := by unfold gSectors; simp
    obtain ⟨As, cS, hc, hf, hlt, v', w5, ⟨A5, n5, c5, rfl⟩, hrun, hc5, hf5, hko, hR, hEI⟩ := hI.push hlen9 (L.getD (pgK L x.1) 0)
    obtain ⟨nS, hnS⟩ : ∃ nS, (gSectors L pre).length = nS := ⟨_, rfl⟩
    rw [hnS] at hrun
    rw [hnS] at hc hc5 hlen9
    have HFIN : Hid (KeepsFrom ws.heap.size W (w5.setCell ⟨w.heap.size, 0, none⟩ (.slice A5 n5 c5)) ∧ (EInv (w.heap.size + 1) g L W → EInv (w.heap.size + 1) g L (w5.setCell ⟨w.heap.size, 0, none⟩ (.slice A5 n5 c5))) ∧ ZInv w (gSectors L (pre ++ [x])) (w5.setCell ⟨w.heap.size, 0, none⟩ (.slice A5 n5 c5))) :=
      Lib.hid ⟨hko.from _, hEI g L HG.out, by rw [hsn]; exact hR⟩
    have HRUN := Lib.hid hrun
    clear hrun hko hR hEI hI hlen9 hnS hsn
    gi_wp2_with (gi_at_builtin; refine wpListIn_app rfl _ _ 37 rfl _ _ _ _ rfl rfl HRUN.out ?_; clear HRUN)
    exact HFIN.out
  case done =>
    rintro D ys W hD hS hI hK
    obtain ⟨sv, h1, h2, h3⟩ := hI.ex
    rw [show gSectors L ys = sectorsL L from come_sectors HN.out hS] at h2
    have hc := h1.cell 0
    have HF : Hid (IntsO W sv (sectorsL L) ∧ (∀ j, sv.ownBlock = some j → w.heap.size ≤ j) ∧ Below w.heap.size w W) := Lib.hid ⟨h2, fun j hj => by have := h3 j hj; omega, hI.bel⟩
    clear h1 h2 h3 hI
    gi_wp2
    refine ⟨by simp, .inl ⟨_, _, rfl, run_takeDeferred hK, ?_⟩⟩
    obtain ⟨g1, g2, g3⟩ := HF.out
    have hb := belowK_b (w := w) (Nat.le_refl _) W D _ (.deferred none) (by omega) hK rfl rfl
    refine ⟨_, results_tmp rfl _ _ _, sv, rfl, ?_, g2, g3.trans hb⟩
    refine g1.same fun k hk => (grownBy_putObj' W D (.deferred none)).block k (g1.lt k hk) fun e => ?_
    injection e with e
    obtain ⟨o, ho, hc⟩ := g1.cells k hk
    rw [e, hK] at ho; cases ho; cases hc
  case stop =>
    rintro D c pre W _ _ h _
    exact h.elim
end Go.Proofs.Ytcmaehilgeonjaa
