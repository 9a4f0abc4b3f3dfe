/- slots.Slots. -/
import Derived.Test.YtipjokbkgcepbaaE
namespace Go.Proofs.Ytipjokbkgcepbaa
open Go.RowKit Go.Shelf Slt
attribute [local go_sem] Oper.semAt_some

/-- Numbers that were appended. -/
structure IntsO (W : World) (sv : Value) (zs : List Nat) : Prop where
  own : W.ownsRow 0 3 1 sv zs.length (zs.map fun (z : Nat) => Value.int .i64 (z : Int))
theorem IntsO.nil (W : World) : IntsO W (.slice none 0 0) [] := ⟨World.ownsRow_nil _ _ _ _⟩
theorem IntsO.shape {W : World} {sv : Value} {zs : List Nat} (h : IntsO W sv zs) : ∃ A c, sv = .slice A zs.length c ∧ zs.length ≤ c ∧ c ≤ maxLen := by
  rcases h.own.2 with ⟨rfl, h0⟩ | ⟨g, cap, cur, rfl, _, _, h1, h2, _⟩
  · exact ⟨none, 0, by rw [h0], by omega, Nat.zero_le _⟩
  · exact ⟨_, _, rfl, h1, h2⟩
theorem IntsO.lt {W : World} {sv : Value} {zs : List Nat} (h : IntsO W sv zs) (k : Nat) (hk : sv.ownBlock = some k) : k < W.heap.size := (h.own.lt k hk).2
theorem IntsO.same {W W' : World} {sv : Value} {zs : List Nat} (h : IntsO W sv zs) (hr : ∀ k, sv.ownBlock = some k → W'.heap[k]? = W.heap[k]?) : IntsO W' sv zs := by
  refine ⟨h.own.1, ?_⟩
  rcases h.own.2 with h0 | ⟨g, cap, cur, rfl, h1, h2, h3⟩
  · exact .inl h0
  · exact .inr ⟨g, cap, cur, rfl, h1, (hr g rfl).trans h2, h3⟩
theorem IntsO.cells {W : World} {sv : Value} {zs : List Nat} (h : IntsO W sv zs) (k : Nat) (hk : sv.ownBlock = some k) : ∃ o : Obj, W.heap[k]? = some o ∧ o.isCells = true := by
  rcases h.own.2 with ⟨rfl, _⟩ | ⟨g, cap, cur, rfl, _, h1, _⟩
  · cases hk
  · injection hk with hk; subst hk; exact ⟨_, h1, rfl⟩
theorem IntsO.get {W : World} {sv : Value} {zs : List Nat} (h : IntsO W sv zs) (k z : Nat) (hz : zs[k]? = some z) : ∃ g c, sv = .slice (some ⟨g, 0, none⟩) zs.length c ∧ g < W.heap.size ∧ W.cell? ⟨g, k, none⟩ = some (.int .i64 (z : Int)) := by
  have hk := (List.getElem?_eq_some_iff.1 hz).1
  rcases h.own.2 with ⟨rfl, e⟩ | ⟨g, cap, cur, rfl, _, h1, _⟩
  · omega
  · have c1 := h.own.cellAt k (by omega)
    rw [List.getElem?_map, hz] at c1
    exact ⟨g, cap, rfl, h.lt g rfl, c1⟩
theorem IntsO.push {W : World} {sv : Value} {zs : List Nat} (h : IntsO W sv zs) (z b : Nat) (h0 : W.cell? ⟨b, 0, none⟩ = some (.int .i64 (z : Int))) (hl : zs.length < 1000000) :
    ∃ v' w', (Builtin.append_ #[29, 29] 29 #[sv, .slice (some ⟨b, 0, none⟩) 1 1]).run Try.prog W = .ok v' w' ∧ IntsO w' v' (zs ++ [z]) ∧ W.grownBy w' sv.ownBlock ∧ (v'.ownBlock = sv.ownBlock ∨ v'.ownBlock = some W.heap.size) := by
  have hI : (Try.prog.info? 3).map (fun i => (i.zero, i.size, i.bytes)) = some (some (.int .i64 0), 1, 8) := by kernel_rfl
  obtain ⟨i0, hi, hz0, hz1, hz2⟩ := info_parts hI
  have hcell : ∀ (j : Nat) (u : Value), [Value.int .i64 (z : Int)][j]? = some u → W.cell? ((⟨b, 0, none⟩ : Addr).add j) = some u := fun j u hj => by
    have e2 : (⟨b, 0, none⟩ : Addr).add j = ⟨b, 0 + j, none⟩ := by unfold Addr.add; split <;> simp_all
    rw [e2, Nat.zero_add]
    rcases j with _ | j
    · cases hj; exact h0
    · simp at hj
  obtain ⟨v', w', hrun, h2, h3, _, h5⟩ := run_append_own_at (P := Try.prog) W 0 29 29 3 i0 (.int .i64 0) 1 8 Try.underlying29 hi hz0 hz1 hz2 rfl (by decide) sv zs.length _ h.own ⟨b, 0, none⟩ 1 1 [.int .i64 (z : Int)] (by simp) hcell
    (fun u hu => by rw [List.mem_singleton.1 hu]; rfl) (by unfold maxLen; omega) (by omega) (Nat.zero_le _)
  exact ⟨v', w', hrun, ⟨by rw [List.length_append, List.length_singleton, List.map_append]; exact h2⟩, h3, h5⟩

structure ZInv (w : World) (zs : List Nat) (W : World) : Prop where
  ex : ∃ sv, Blk W w.heap.size 29 #[sv] ∧ IntsO W sv zs ∧ ∀ j, sv.ownBlock = some j → w.heap.size + 2 ≤ j
  bel : Below w.heap.size w W
  sz : w.heap.size + 2 ≤ W.heap.size
theorem ZInv.own {β : Type} (w : World) (f : β → List Nat) : OwnFrom (w.heap.size + 2) (fun (s : β) W => ZInv w (f s) W) := fun s W W' row hs hg hr => by
  obtain ⟨sv, h1, h2, h3⟩ := hs.ex
  have hb := hs.bel.size
  refine ⟨⟨sv, h1.kept hg (fun r e => (hr r e).2), h2.same fun k hk => hg.block k (h2.lt k hk) (fun e => ?_), h3⟩, hs.bel.grown hg hb (fun k e => by have := (hr k e).1; omega), Nat.le_trans hs.sz hg.size⟩
  obtain ⟨_, o, ho, hc⟩ := hr k e.symm
  obtain ⟨o', ho', hc'⟩ := h2.cells k hk
  rw [ho] at ho'; cases ho'; rw [hc] at hc'; cases hc'
theorem ZInv.push {w W : World} {zs : List Nat} (h : ZInv w zs W) (hl : zs.length < 1000000) (z : Nat) :
    ∃ As cS, W.cell? ⟨w.heap.size, 0, none⟩ = some (.slice As zs.length cS) ∧ W.frozen? ⟨w.heap.size, 0, none⟩ = false ∧ w.heap.size < W.heap.size ∧ ∃ v' w5, (∃ A5 n5 c5, v' = .slice A5 n5 c5) ∧ (Builtin.append_ #[29, 29] 29 #[.slice As zs.length cS, .slice (some ⟨W.heap.size, 0, none⟩) 1 1]).run Try.prog (W.alloc (.cells #[.int .i64 (z : Int)] 3)) = .ok v' w5 ∧
      w5.cell? ⟨w.heap.size, 0, none⟩ = some (.slice As zs.length cS) ∧ w5.frozen? ⟨w.heap.size, 0, none⟩ = false ∧
      KeepsOthers W (w5.setCell ⟨w.heap.size, 0, none⟩ v') ∧ ZInv w (zs ++ [z]) (w5.setCell ⟨w.heap.size, 0, none⟩ v') ∧
      ∀ (A : Option Addr) (len cap : Nat) (p : List UInt8), (∀ j, PgE A j → j < w.heap.size) → EInv (w.heap.size + 1) A len cap p W → EInv (w.heap.size + 1) A len cap p (w5.setCell ⟨w.heap.size, 0, none⟩ v') := by
  obtain ⟨sv, h1, h2, h3⟩ := h.ex
  obtain ⟨As, cS, hsv, _, _⟩ := h2.shape
  have hsz := h.sz
  have hb : Below W.heap.size W (W.alloc (.cells #[.int .i64 (z : Int)] 3)) := (Below.refl _ _).alloc (Nat.le_refl _) _
  have h2' : IntsO (W.alloc (.cells #[.int .i64 (z : Int)] 3)) sv zs := h2.same (fun k hk => hb.block k (h2.lt k hk))
  obtain ⟨v', w5, hrun, hp, hg, ho⟩ := h2'.push z W.heap.size ((Blk.new W 3 #[.int .i64 (z : Int)]).cell 0) (by omega)
  have hgs := hg.size
  rw [World.size_alloc] at hgs ho
  have nw : sv.ownBlock ≠ some w.heap.size := fun e => by have := h3 _ e; omega
  have hB5 : Blk w5 w.heap.size 29 #[sv] := (h1.alloc _).grown hg (fun e => nw e.symm)
  have hvb : ∀ j, v'.ownBlock = some j → w.heap.size + 2 ≤ j := fun j hj => by
    rcases ho with ho | ho
    · exact h3 j (ho ▸ hj)
    · rw [ho] at hj; injection hj with hj; omega
  have st : ∀ j, j ≠ w.heap.size → (w5.setCell ⟨w.heap.size, 0, none⟩ v').heap[j]? = w5.heap[j]? := fun j hj => Below.heap_setCell _ _ _ _ hj
  have ssz : w5.heap.size = (w5.setCell ⟨w.heap.size, 0, none⟩ v').heap.size := by simp [World.setCell]
  have hko : KeepsOthers W (w5.setCell ⟨w.heap.size, 0, none⟩ v') := ((KeepsOthers.alloc W _).trans (KeepsOthers.of_grownBy hg fun j o hj ho => by
    obtain ⟨o', ho', hc'⟩ := h2'.cells j hj
    rw [ho] at ho'; cases ho'; exact hc')).trans (KeepsOthers.setCell _ _ _)
  subst hsv
  refine ⟨As, cS, h1.cell 0, h1.frozen 0, by omega, v', w5, (by obtain ⟨A5, c5, e5, _⟩ := hp.shape; exact ⟨_, _, _, e5⟩), hrun, hB5.cell 0, hB5.frozen 0, hko, ⟨⟨v', ?_, ?_, hvb⟩, ?_, by rw [← ssz]; omega⟩, fun A len cap p hA hI => ?_⟩
  · have := hB5.set_ 0 v'
    simpa using this
  · exact hp.same (fun k hk => st k (by have := hvb k hk; omega))
  · exact ((h.bel.trans (hb.mono h.bel.size)).grown hg (by rw [World.size_alloc]; have := h.bel.size; omega) (fun k hk => by have := h3 k hk; omega)).setCell (p := ⟨w.heap.size, 0, none⟩) (Nat.le_refl _) _
  · refine hI.off (by rw [← ssz]; omega) ((st _ (by omega)).trans ((hg.block _ (by rw [World.size_alloc]; omega) (fun e => by have := h3 _ e.symm; omega)).trans (hb.block _ (by omega)))) (fun j hj hjl => ?_)
    have := hA j hj
    exact (st j (by omega)).trans ((hg.block j (by rw [World.size_alloc]; omega) (fun e => by have := h3 _ e.symm; omega)).trans (hb.block j hjl))

/-- The slots that have a record. -/
def usedK (l : List (List UInt8)) : List Nat := (List.range l.length).filter fun k => decide (0 < (l.getD k []).length)
def usedS (p : List UInt8) {n : Nat} (pre : List (Slot n)) : List Nat := (pre.filter fun x => decide (0 < (recAt p x).length)).map (·.1)
theorem usedS_length (p : List UInt8) {n : Nat} (pre : List (Slot n)) : (usedS p pre).length ≤ pre.length := by unfold usedS; rw [List.length_map]; exact List.length_filter_le _ _
theorem usedS_snoc (p : List UInt8) {n : Nat} (pre : List (Slot n)) (x : Slot n) : usedS p (pre ++ [x]) = if 0 < (recAt p x).length then usedS p pre ++ [x.1] else usedS p pre := by
  unfold usedS
  rw [List.filter_append, List.map_append]
  by_cases h : 0 < (recAt p x).length
  · rw [if_pos h]; simp [h]
  · rw [if_neg h]; simp [h]
theorem usedS_come {p : List UInt8} {n : Nat} (hn : (recs p).length = n) {ys : List (Slot n)} (h : Come n ys) : usedS p ys = usedK (recs p) := by
  have hm := come_recs hn h
  unfold usedK
  rw [hn, ← h, List.filter_map]
  unfold usedS
  congr 1
  apply List.filter_congr
  intro x hx
  obtain ⟨j, hj, e⟩ := List.getElem_of_mem hx
  have hg : (recs p)[x.1]? = some (recAt p x) := by
    have e1 := congrArg (fun l => l[j]?) h
    have hl := h.length
    simp only [List.getElem?_map, List.getElem?_range (show j < n by omega), List.getElem?_eq_getElem hj, Option.map_some] at e1
    injection e1 with e1
    rw [e] at e1
    rw [e1, ← hm, List.getElem?_map, List.getElem?_eq_getElem hj, e]; rfl
  simp [Function.comp, List.getD, hg]

set_option maxRecDepth 100000 in
set_option maxHeartbeats 1000000 in
theorem slots_any (A : Option Addr) (len cap : Nat) (p : List UInt8) (w : World) (hlen : p.length = len) (hA : Bytes w A p) (hcap : len ≤ cap) (hcm : cap ≤ maxLen) :
    Calls Try.prog 16 #[.slice A len cap] w fun e W' => ∃ sv, e = .returned sv ∧ IntsO W' sv (usedK (recs p)) ∧ (∀ j, sv.ownBlock = some j → w.heap.size ≤ j) ∧ Below w.heap.size w W' := by
  obtain ⟨n, hn⟩ : ∃ n, (recs p).length = n := ⟨_, rfl⟩
  refine (callsIn_wide (n := 5)).1 ?_
  have hro : (Fence.wide).round = none := rfl
  refine callsIn_of_wp_marks Try.func16 rfl trivial ?_ hro
  simp only [Try.ntmps16, List.size_toArray, List.length_cons, List.length_nil, Nat.reduceAdd, Nat.reduceSub, Array.replicate_succ, Array.replicate_zero, List.push_toArray, List.append_toArray, List.nil_append, List.cons_append]
  gi_wp2_with fail
  refine ⟨trivial, ?_⟩
  refine (callsIn_wide.2 (each_any _ _ _ _)).mono ?_
  rintro e w' ⟨rfl, rfl⟩
  gi_wp2_with fail
  obtain ⟨ws, hws⟩ : ∃ ws, ((w.alloc (.cells #[.slice none 0 0] 29)).alloc (.cells #[.slice A len cap] 22)) = ws := ⟨_, rfl⟩
  have bX : Blk ws w.heap.size 29 #[.slice none 0 0] := by rw [← hws]; exact (Blk.new w _ _).alloc _
  have bP : Blk ws (w.heap.size + 1) 22 #[.slice A len cap] := by
    have := Blk.new (w.alloc (.cells #[.slice none 0 0] 29)) 22 #[.slice A len cap]
    rw [World.size_alloc] at this
    rw [← hws]; exact this
  have hB0 : Below w.heap.size w ws := by
    rw [← hws]; exact ((Below.refl _ w).alloc (Nat.le_refl _) _).alloc (by simp) _
  have hsz : ws.heap.size = w.heap.size + 2 := by rw [← hws]; simp
  have hE0 : EInv (w.heap.size + 1) A len cap p ws := ⟨bP.cell 0, hA.below hB0⟩
  have hI0 : ZInv w [] ws := ⟨⟨_, bX, IntsO.nil _, fun j hj => (by cases hj)⟩, hB0, by omega⟩
  rw [hws]
  clear hws
  have HOK : Hid (0 < n → Ok p) := Lib.hid (fun h0 => by
    by_cases e : Ok p
    · exact e
    · rw [recs_no e] at hn; simp at hn; omega)
  have HPE := Lib.hid (fun h0 : 0 < n => hA.blk_lt (HOK.out h0).ne)
  have HA := Lib.hid (And.intro hlen (And.intro hcap hcm))
  have HN := Lib.hid hn
  have hown := ZInv.own w (fun (pre : List (Slot n)) => usedS p pre)
  rw [← hsz] at hown
  have hst := each1_stops 4 (by omega) _ A len cap n p hlen hcap hcm hn ws hE0
  clear hlen hcap hcm hn
  refine wpIn_rangeFunc_ownG hro (by omega) (gf := 39) (lb := #[.pointer (some ⟨w.heap.size + 1, 0, none⟩)]) rfl trivial (enters_of Try.func39 (by kernel_rfl) rfl)
    hst einv_t (fun W l o o' _ h hc _ => einv_b W l o o' h hc) (Below.refl _ _) (fun _ => rfl)
    (fun (pre : List (Slot n)) W => ZInv w (usedS p pre) W)
    (fun _ _ _ => False)
    hown
    (fun _ _ _ _ _ hs _ _ => hs)
    hI0
    (fun x => { tmps := #[.slice A len cap, undef, .slice none 0 0, .pointer (some ⟨w.heap.size, 0, none⟩), .int .i64 (x.1 : Int), yv A cap p x.1, .slice A len cap, .func (.func 39) #[] #[.pointer (some ⟨w.heap.size + 1, 0, none⟩)], .int .i64 (x.1 : Int), yv A cap p x.1, undef, undef, undef, undef, undef, undef, undef, undef], defers := [] }) ?assign ?body ?done ?stop
  case assign =>
    intro l x W K hK
    dsimp only [epair]
    gi_wp2
    exact hK
  case body =>
    rintro l pre x W hI hlp
    have hn0 : 0 < n := by have := x.2; omega
    have hok := HOK.out hn0
    have hxc : x.1 < cnt p := by rw [← recs_length hok, HN.out]; exact x.2
    have hrl : (recAt p x).length = lonK p x.1 := hok.rec_len hxc
    have hlen9 : (usedS p pre).length < 1000000 := by
      have := usedS_length p pre
      have := cnt_lt p
      have := recs_length hok
      have := HN.out
      omega
    have hsn := usedS_snoc p pre x
    have hyv : ∃ Ay C, yv A cap p x.1 = .slice Ay (lonK p x.1) C := ⟨_, _, rfl⟩
    obtain ⟨Ay, C, hyv⟩ := hyv
    obtain ⟨L, hL⟩ : ∃ L, lonK p x.1 = L := ⟨_, rfl⟩
    rw [hL] at hyv hrl
    rw [hrl] at hsn
    rw [hyv]
    by_cases h0 : 0 < L
    · have d1 : decide ((0 : Int) < (L : Int)) = true := by simpa using h0
      rw [if_pos h0] at hsn
      obtain ⟨As, cS, hc, hf, hlt, v', w5, ⟨A5, n5, c5, rfl⟩, hrun, hc5, hf5, hko, hR, hEI⟩ := hI.push hlen9 x.1
      obtain ⟨nS, hnS⟩ : ∃ nS, (usedS p pre).length = nS := ⟨_, rfl⟩
      rw [hnS] at hrun
      rw [hnS] at hc hc5 hlen9
      have HFIN : Hid (KeepsFrom ws.heap.size W (w5.setCell ⟨w.heap.size, 0, none⟩ (.slice A5 n5 c5)) ∧ (EInv (w.heap.size + 1) A len cap p W → EInv (w.heap.size + 1) A len cap p (w5.setCell ⟨w.heap.size, 0, none⟩ (.slice A5 n5 c5))) ∧ ZInv w (usedS p (pre ++ [x])) (w5.setCell ⟨w.heap.size, 0, none⟩ (.slice A5 n5 c5))) :=
        Lib.hid ⟨hko.from _, hEI A len cap p (HPE.out hn0), by rw [hsn]; exact hR⟩
      have HRUN := Lib.hid hrun
      clear hrun hko hR hEI hyv hI hlen9 hnS hsn hL hrl hok
      gi_wp2_with (gi_at_builtin; refine wpListIn_app rfl _ _ 29 rfl _ _ _ _ rfl rfl HRUN.out ?_; clear HRUN)
      exact HFIN.out
    · have d1 : decide ((0 : Int) < (L : Int)) = false := by simp; omega
      rw [if_neg h0] at hsn
      have HFIN : Hid (KeepsFrom ws.heap.size W W ∧ (EInv (w.heap.size + 1) A len cap p W → EInv (w.heap.size + 1) A len cap p W) ∧ ZInv w (usedS p (pre ++ [x])) W) :=
        Lib.hid ⟨KeepsFrom.refl _ _, id, by rw [hsn]; exact hI⟩
      clear hyv hI hlen9 hsn hL hrl hok
      gi_wp2
      exact HFIN.out
  case done =>
    rintro D ys W hD hS hI hK
    obtain ⟨sv, h1, h2, h3⟩ := hI.ex
    rw [usedS_come HN.out hS] at h2
    have hc := h1.cell 0
    have HF : Hid (IntsO W sv (usedK (recs p)) ∧ (∀ j, sv.ownBlock = some j → w.heap.size ≤ j) ∧ Below w.heap.size w W) := Lib.hid ⟨h2, fun j hj => by have := h3 j hj; omega, hI.bel⟩
    clear h1 h2 h3 hI
    gi_wp2
    refine ⟨by simp, .inl ⟨_, _, rfl, run_takeDeferred hK, ?_⟩⟩
    obtain ⟨g1, g2, g3⟩ := HF.out
    have hb := belowK_b (w := w) (Nat.le_refl _) W D _ (.deferred none) (by omega) hK rfl rfl
    refine ⟨_, results_tmp rfl _ _ _, sv, rfl, ?_, g2, g3.trans hb⟩
    refine g1.same fun k hk => (grownBy_putObj' W D (.deferred none)).block k (g1.lt k hk) fun e => ?_
    injection e with e
    obtain ⟨o, ho, hc⟩ := g1.cells k hk
    rw [e, hK] at ho; cases ho; cases hc
  case stop =>
    rintro D c pre W _ _ h _
    exact h.elim
end Go.Proofs.Ytipjokbkgcepbaa
