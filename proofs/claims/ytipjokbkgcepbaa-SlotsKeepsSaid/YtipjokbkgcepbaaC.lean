/- slots: the rows of a page gathered. -/
import Derived.Test.YtipjokbkgcepbaaB
namespace Go.Proofs.Ytipjokbkgcepbaa
open Go.RowKit Go.Shelf Slt
attribute [local go_sem] Oper.semAt_some

theorem wpListIn_app {F : Fence} {n : Nat} {P : Program} {w : World} {ops : Array Oper} {rest : List Oper} {o : Oper} {a : Act} {Q : Exit → Act → World → Prop} (hgd : o.guard = none) (s x : Operand) (t : TypeId)
    (ho : o.op = .call { callee := .builtin .append, args := #[s, x], argTypes := #[t, t] }) (v xv v' : Value) (w' : World) (hs : a.eval s = v) (hx : a.eval x = xv)
    (hrun : (Builtin.append_ #[t, t] o.type #[v, xv]).run P w = .ok v' w') (h : wpListIn F n P ops Q rest (a.put o.dst v') w') : wpListIn F n P ops Q (o :: rest) a w := by
  refine wpListIn_plain hgd fun K hK => ?_
  unfold Oper.wpIn
  refine ⟨by simp [Oper.about, ho, resolve, Target.leads, Sem.run_pure], ?_⟩
  rw [Oper.semAt_plain F _ _ (by rw [ho]; intro c hc'; cases hc')]
  unfold execOp
  simp only [ho, resolve, invoke, builtin, Sem.run_bind, Sem.run_pure, Result.andThen_ok, List.map_toArray, List.map_cons, List.map_nil, hs, hx, hrun]
  exact hK _ _ h

/-- The blocks of a page's bytes. -/
def PgE (A : Option Addr) : Nat → Prop := fun j => ∃ ad : Addr, A = some ad ∧ ad.block = j
theorem Bytes.blk_lt {w : World} {A : Option Addr} {p : List UInt8} (h : Bytes w A p) (hp : 0 < p.length) : ∀ j, PgE A j → j < w.heap.size := fun j ⟨ad, e, hj⟩ => by
  obtain ⟨b, off, e', hb⟩ := h.ex hp
  rw [e] at e'; cases e'; rw [← hj]; exact hb

theorem EInv.off {Bp : Nat} {A : Option Addr} {len cap : Nat} {p : List UInt8} {W W' : World} (h : EInv Bp A len cap p W) (hs : W.heap.size ≤ W'.heap.size) (hb : W'.heap[Bp]? = W.heap[Bp]?) (hk : ∀ j, PgE A j → j < W.heap.size → W'.heap[j]? = W.heap[j]?) : EInv Bp A len cap p W' :=
  ⟨(World.cell?_of_block (a := ⟨Bp, 0, none⟩) hb).trans h.box, h.by_.same hs fun q e hq => hk _ ⟨q, e, rfl⟩ hq⟩

theorem SecsO.kept {W W' : World} {E : Nat → Prop} {sv : Value} {S : List (List UInt8)} {row : Option Nat} (h : SecsO W E sv S) (hg : W.grownBy W' row) (hr : ∀ r, row = some r → ∃ o : Obj, W.heap[r]? = some o ∧ o.isCells = false) (hE : ∀ k, E k → row ≠ some k) : SecsO W' E sv S := by
  refine h.same hg.size (fun k hk hl => hg.block k hl (fun e => hE k hk e.symm)) (fun k hk => ?_)
  refine hg.block k (h.lt k hk) (fun e => ?_)
  obtain ⟨o, ho, hc⟩ := hr k e.symm
  obtain ⟨vs, hw, _⟩ := h.own
  rcases hw.2 with ⟨rfl, _⟩ | ⟨g, cap, cur, rfl, _, h1, _⟩
  · cases hk
  · injection hk with hk; subst hk
    rw [h1] at ho; cases ho; cases hc

/-- Between the rounds of records: the variable, and the rows gathered. -/
structure RInv (w : World) (E : Nat → Prop) (S : List (List UInt8)) (W : World) : Prop where
  ex : ∃ sv, Blk W w.heap.size 34 #[sv] ∧ SecsO W E sv S ∧ ∀ j, sv.ownBlock = some j → w.heap.size + 2 ≤ j
  bel : Below w.heap.size w W
  sz : w.heap.size + 2 ≤ W.heap.size

theorem RInv.own {β : Type} (w : World) (E : Nat → Prop) (hE : ∀ j, E j → j < w.heap.size) (f : β → List (List UInt8)) : OwnFrom (w.heap.size + 2) (fun (s : β) W => RInv w E (f s) W) := fun s W W' row hs hg hr => by
  obtain ⟨sv, h1, h2, h3⟩ := hs.ex
  have hb := hs.bel.size
  exact ⟨⟨sv, h1.kept hg (fun r e => (hr r e).2), h2.kept hg (fun r e => (hr r e).2) (fun k hk e => by have := (hr k e).1; have := hE k hk; omega), h3⟩,
    hs.bel.grown hg hb (fun k e => by have := (hr k e).1; omega), Nat.le_trans hs.sz hg.size⟩

/-- A row more. -/
theorem RInv.push {w W : World} {E : Nat → Prop} {S : List (List UInt8)} (h : RInv w E S W) (hE : ∀ j, E j → j < w.heap.size) (hl : S.length < 1000000) (v : Value) (bs : List UInt8) (hv : Sec W E v bs) :
    ∃ As cS, W.cell? ⟨w.heap.size, 0, none⟩ = some (.slice As S.length cS) ∧ W.frozen? ⟨w.heap.size, 0, none⟩ = false ∧ w.heap.size < W.heap.size ∧ ∃ v' w5, (∃ A5 n5 c5, v' = .slice A5 n5 c5) ∧ (Builtin.append_ #[34, 34] 34 #[.slice As S.length cS, .slice (some ⟨W.heap.size, 0, none⟩) 1 1]).run Try.prog (W.alloc (.cells #[v] 22)) = .ok v' w5 ∧
      w5.cell? ⟨w.heap.size, 0, none⟩ = some (.slice As S.length cS) ∧ w5.frozen? ⟨w.heap.size, 0, none⟩ = false ∧
      KeepsOthers W (w5.setCell ⟨w.heap.size, 0, none⟩ v') ∧ RInv w E (S ++ [bs]) (w5.setCell ⟨w.heap.size, 0, none⟩ v') ∧
      ∀ (A : Option Addr) (len cap : Nat) (p : List UInt8), (∀ j, PgE A j → j < w.heap.size) → EInv (w.heap.size + 1) A len cap p W → EInv (w.heap.size + 1) A len cap p (w5.setCell ⟨w.heap.size, 0, none⟩ v') := by
  obtain ⟨sv, h1, h2, h3⟩ := h.ex
  obtain ⟨As, cS, hsv, _, _⟩ := h2.shape
  have hsz := h.sz
  have hb : Below W.heap.size W (W.alloc (.cells #[v] 22)) := (Below.refl _ _).alloc (Nat.le_refl _) _
  have h2' : SecsO (W.alloc (.cells #[v] 22)) E sv S := h2.same hb.size (fun k _ hl => hb.block k hl) (fun k hk => hb.block k (h2.lt k hk))
  have hv' : Sec (W.alloc (.cells #[v] 22)) E v bs := hv.same hb.size fun k _ hl => hb.block k hl
  have hn : ∀ k, sv.ownBlock = some k → ¬ E k := fun k hk he => by have := h3 k hk; have := hE k he; omega
  obtain ⟨v', w5, hrun, hp, hg, ho⟩ := h2'.push bs v hv' W.heap.size ((Blk.new W 22 #[v]).cell 0) hn (by omega)
  have hgs := hg.size
  rw [World.size_alloc] at hgs ho
  have nw : sv.ownBlock ≠ some w.heap.size := fun e => by have := h3 _ e; omega
  have hB5 : Blk w5 w.heap.size 34 #[sv] := (h1.alloc _).grown hg (fun e => nw e.symm)
  have hvb : ∀ j, v'.ownBlock = some j → w.heap.size + 2 ≤ j := fun j hj => by
    rcases ho with ho | ho
    · exact h3 j (ho ▸ hj)
    · rw [ho] at hj; injection hj with hj; omega
  have st : ∀ j, j ≠ w.heap.size → (w5.setCell ⟨w.heap.size, 0, none⟩ v').heap[j]? = w5.heap[j]? := fun j hj => Below.heap_setCell _ _ _ _ hj
  have ssz : w5.heap.size = (w5.setCell ⟨w.heap.size, 0, none⟩ v').heap.size := by simp [World.setCell]
  have hko : KeepsOthers W (w5.setCell ⟨w.heap.size, 0, none⟩ v') := ((KeepsOthers.alloc W _).trans (KeepsOthers.of_grownBy hg fun j o hj ho => by
    obtain ⟨vs, hw, _⟩ := h2'.own
    rcases hw.2 with ⟨rfl, _⟩ | ⟨g, cap, cur, rfl, _, q1, _⟩
    · cases hj
    · injection hj with hj; subst hj
      rw [q1] at ho; cases ho; rfl)).trans (KeepsOthers.setCell _ _ _)
  subst hsv
  refine ⟨As, cS, h1.cell 0, h1.frozen 0, by omega, v', w5, (by obtain ⟨A5, c5, e5, _⟩ := hp.shape; exact ⟨_, _, _, e5⟩), hrun, hB5.cell 0, hB5.frozen 0, hko, ⟨⟨v', ?_, ?_, hvb⟩, ?_, by rw [← ssz]; omega⟩, fun A len cap p hA hI => ?_⟩
  · have := hB5.set_ 0 v'
    simpa using this
  · exact hp.same (Nat.le_of_eq ssz) (fun k hk _ => st k (by have := hE k hk; omega)) (fun k hk => st k (by have := hvb k hk; omega))
  · exact ((h.bel.trans (hb.mono h.bel.size)).grown hg (by rw [World.size_alloc]; have := h.bel.size; omega) (fun k hk => by have := h3 k hk; omega)).setCell (p := ⟨w.heap.size, 0, none⟩) (Nat.le_refl _) _
  · refine hI.off (by rw [← ssz]; omega) ((st _ (by omega)).trans ((hg.block _ (by rw [World.size_alloc]; omega) (fun e => by have := h3 _ e.symm; omega)).trans (hb.block _ (by omega)))) (fun j hj hjl => ?_)
    have := hA j hj
    exact (st j (by omega)).trans ((hg.block j (by rw [World.size_alloc]; omega) (fun e => by have := h3 _ e.symm; omega)).trans (hb.block j hjl))

/-- The record of a slot. -/
def recAt (p : List UInt8) {n : Nat} (x : Slot n) : List UInt8 := (p.drop (atK p x.1)).take (lonK p x.1)
theorem come_recs {p : List UInt8} {n : Nat} (hn : (recs p).length = n) {ys : List (Slot n)} (h : Come n ys) : ys.map (recAt p) = recs p := by
  have hl := h.length
  apply List.ext_getElem?
  intro k
  rcases Nat.lt_or_ge k n with hk | hk
  · have hok : Ok p := by
      by_cases e : Ok p
      · exact e
      · rw [recs_no e] at hn; simp at hn; omega
    rw [hok.rec_get (by rw [← recs_length hok, hn]; exact hk), List.getElem?_map, List.getElem?_eq_getElem (by omega)]
    have e := congrArg (fun l => l[k]?) h
    simp only [List.getElem?_map, List.getElem?_range hk, List.getElem?_eq_getElem (show k < ys.length by omega), Option.map_some] at e
    injection e with e
    simp only [Option.map_some, recAt, e]
  · rw [List.getElem?_eq_none (by simp; omega), List.getElem?_eq_none (by omega)]

set_option maxRecDepth 100000 in
set_option maxHeartbeats 1000000 in
theorem records_any (A : Option Addr) (len cap : Nat) (p : List UInt8) (w : World) (hlen : p.length = len) (hA : Bytes w A p) (hcap : len ≤ cap) (hcm : cap ≤ maxLen) :
    Calls Try.prog 36 #[.slice A len cap] w fun e W' => ∃ sv, e = .returned sv ∧ SecsO W' (PgE A) sv (recs p) ∧ (∀ j, sv.ownBlock = some j → w.heap.size ≤ j) ∧ Below w.heap.size w W' := by
  obtain ⟨n, hn⟩ : ∃ n, (recs p).length = n := ⟨_, rfl⟩
  refine (callsIn_wide (n := 5)).1 ?_
  have hro : (Fence.wide).round = none := rfl
  refine callsIn_of_wp_marks Try.func36 rfl trivial ?_ hro
  simp only [Try.ntmps36, List.size_toArray, List.length_cons, List.length_nil, Nat.reduceAdd, Nat.reduceSub, Array.replicate_succ, Array.replicate_zero, List.push_toArray, List.append_toArray, List.nil_append, List.cons_append]
  gi_wp2_with fail
  refine ⟨trivial, ?_⟩
  refine (callsIn_wide.2 (each_any _ _ _ _)).mono ?_
  rintro e w' ⟨rfl, rfl⟩
  gi_wp2_with fail
  obtain ⟨ws, hws⟩ : ∃ ws, ((w.alloc (.cells #[.slice none 0 0] 34)).alloc (.cells #[.slice A len cap] 22)) = ws := ⟨_, rfl⟩
  have bX : Blk ws w.heap.size 34 #[.slice none 0 0] := by rw [← hws]; exact (Blk.new w _ _).alloc _
  have bP : Blk ws (w.heap.size + 1) 22 #[.slice A len cap] := by
    have := Blk.new (w.alloc (.cells #[.slice none 0 0] 34)) 22 #[.slice A len cap]
    rw [World.size_alloc] at this
    rw [← hws]; exact this
  have hB0 : Below w.heap.size w ws := by
    rw [← hws]; exact ((Below.refl _ w).alloc (Nat.le_refl _) _).alloc (by simp) _
  have hsz : ws.heap.size = w.heap.size + 2 := by rw [← hws]; simp
  have hE0 : EInv (w.heap.size + 1) A len cap p ws := ⟨bP.cell 0, hA.below hB0⟩
  have hI0 : RInv w (fun j => PgE A j ∧ j < w.heap.size) [] ws := ⟨⟨_, bX, SecsO.nil _ _, fun j hj => (by cases hj)⟩, hB0, by omega⟩
  rw [hws]
  clear hws
  have hPE : 0 < n → ∀ j, PgE A j → j < w.heap.size := fun h0 => hA.blk_lt (by
    by_cases e : Ok p
    · exact e.ne
    · rw [recs_no e] at hn; simp at hn; omega)
  have HPE := Lib.hid hPE
  have HOK : Hid (0 < n → Ok p) := Lib.hid (fun h0 => by
    by_cases e : Ok p
    · exact e
    · rw [recs_no e] at hn; simp at hn; omega)
  have HA := Lib.hid (And.intro hlen (And.intro hcap hcm))
  have HN := Lib.hid hn
  have hown := RInv.own w (fun j => PgE A j ∧ j < w.heap.size) (fun _ h => h.2) (fun (pre : List (Slot n)) => pre.map (recAt p))
  rw [← hsz] at hown
  have hst := each1_stops 4 (by omega) _ A len cap n p hlen hcap hcm hn ws hE0
  clear hPE hlen hcap hcm hn
  refine wpIn_rangeFunc_ownG hro (by omega) (gf := 39) (lb := #[.pointer (some ⟨w.heap.size + 1, 0, none⟩)]) rfl trivial (enters_of Try.func39 (by kernel_rfl) rfl)
    hst einv_t (fun W l o o' _ h hc _ => einv_b W l o o' h hc) (Below.refl _ _) (fun _ => rfl)
    (fun pre W => RInv w (fun j => PgE A j ∧ j < w.heap.size) (pre.map (recAt p)) W)
    (fun _ _ _ => False)
    hown
    (fun _ _ _ _ _ hs _ _ => hs)
    hI0
    (fun x => { tmps := #[.slice A len cap, undef, .slice none 0 0, .pointer (some ⟨w.heap.size, 0, none⟩), undef, yv A cap p x.1, .slice A len cap, .func (.func 39) #[] #[.pointer (some ⟨w.heap.size + 1, 0, none⟩)], .int .i64 (x.1 : Int), yv A cap p x.1, undef, undef, undef, undef, undef], defers := [] }) ?assign ?body ?done ?stop
  case assign =>
    intro l x W K hK
    dsimp only [epair]
    gi_wp2
    exact hK
  case body =>
    rintro l pre x W hI hlp
    have hn0 : 0 < n := by have := x.2; omega
    have hxc : x.1 < cnt p := by rw [← recs_length (HOK.out hn0), HN.out]; exact x.2
    have hlen9 : (pre.map (recAt p)).length < 1000000 := by
      rw [List.length_map]
      have := cnt_lt p
      have := recs_length (HOK.out hn0)
      have := HN.out
      omega
    have hsec := (yv_sec (HOK.out hn0) HA.out.1 HA.out.2.1 HA.out.2.2 (hA.below hI.bel) hxc).mono (E' := fun j => PgE A j ∧ j < w.heap.size) (fun j hj => ⟨hj, HPE.out hn0 j hj⟩)
    have hyv : ∃ Ay L C, yv A cap p x.1 = .slice Ay L C := ⟨_, _, _, rfl⟩
    obtain ⟨Ay, L, C, hyv⟩ := hyv
    obtain ⟨As, cS, hc, hf, hlt, v', w5, ⟨A5, n5, c5, rfl⟩, hrun, hc5, hf5, hko, hR, hEI⟩ := hI.push (fun _ h => h.2) hlen9 _ _ hsec
    obtain ⟨nS, hnS⟩ : ∃ nS, (pre.map (recAt p)).length = nS := ⟨_, rfl⟩
    rw [hyv, hnS] at hrun
    rw [hnS] at hc hc5 hlen9
    rw [hyv]
    have hap : (pre ++ [x]).map (recAt p) = pre.map (recAt p) ++ [recAt p x] := by simp
    have hR' : RInv w (fun j => PgE A j ∧ j < w.heap.size) ((pre ++ [x]).map (recAt p)) (w5.setCell ⟨w.heap.size, 0, none⟩ (.slice A5 n5 c5)) := by rw [hap]; exact hR
    have HFIN : Hid (KeepsFrom ws.heap.size W (w5.setCell ⟨w.heap.size, 0, none⟩ (.slice A5 n5 c5)) ∧ (EInv (w.heap.size + 1) A len cap p W → EInv (w.heap.size + 1) A len cap p (w5.setCell ⟨w.heap.size, 0, none⟩ (.slice A5 n5 c5))) ∧ RInv w (fun j => PgE A j ∧ j < w.heap.size) ((pre ++ [x]).map (recAt p)) (w5.setCell ⟨w.heap.size, 0, none⟩ (.slice A5 n5 c5))) :=
      Lib.hid ⟨hko.from _, hEI A len cap p (HPE.out hn0), hR'⟩
    have HRUN := Lib.hid hrun
    clear hrun hko hR hEI hR' hap hyv hsec hI hlen9 hnS
    gi_wp2_with (gi_at_builtin; refine wpListIn_app rfl _ _ 34 rfl _ _ _ _ rfl rfl HRUN.out ?_; clear HRUN)
    exact HFIN.out
  case done =>
    rintro D ys W hD hS hI hK
    obtain ⟨sv, h1, h2, h3⟩ := hI.ex
    rw [come_recs HN.out hS] at h2
    have hc := h1.cell 0
    have HF : Hid (SecsO W (fun j => PgE A j ∧ j < w.heap.size) sv (recs p) ∧ (∀ j, sv.ownBlock = some j → w.heap.size ≤ j) ∧ Below w.heap.size w W) := Lib.hid ⟨h2, fun j hj => by have := h3 j hj; omega, hI.bel⟩
    clear h1 h2 h3 hI
    gi_wp2
    refine ⟨by simp, .inl ⟨_, _, rfl, run_takeDeferred hK, ?_⟩⟩
    obtain ⟨g1, g2, g3⟩ := HF.out
    have hb := belowK_b (w := w) (Nat.le_refl _) W D _ (.deferred none) (by omega) hK rfl rfl
    refine ⟨_, results_tmp rfl _ _ _, sv, rfl, ?_, g2, g3.trans hb⟩
    exact (g1.kept (grownBy_putObj' W D _) (fun r e => by cases e; exact ⟨_, hK, rfl⟩) (fun k hk e => by injection e with e; have := hk.2; omega)).mono fun _ h => h.1
  case stop =>
    rintro D c pre W _ _ h _
    exact h.elim
end Go.Proofs.Ytipjokbkgcepbaa
