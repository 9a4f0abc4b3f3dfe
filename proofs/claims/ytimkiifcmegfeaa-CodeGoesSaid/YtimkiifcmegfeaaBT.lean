/- Contracts, part BT. -/
import Derived.Test.YtimkiifcmegfeaaBS
import Derived.Defers
import Derived.Recover
/- code: what Check leans on. -/
namespace Go.Proofs.Ytimkiifcmegfeaa
open Go.RowKit
set_option linter.unusedVariables false
set_option linter.unusedSimpArgs false
attribute [local go_sem] Oper.semAt_some
theorem catch_panicking (p : Addr) (x : Int) (u : TypeId) (pv : Value) (older : List PanicEntry) (w : World) (hc : w.cell? p = some (.int .i64 x)) (hz : w.frozen? p = false) :
    CallsD Try.prog 38 #[.pointer (some p)] (.panicking ({ v := .iface u pv, recovered := false } :: older)) w fun e u' w' =>
      e = .returned (.tuple #[]) ∧ u' = .panicking ({ v := .iface u pv, recovered := true } :: older) ∧ w' = w.setCell p (.int .i64 17) := by
  refine callsD_of_wpS Try.func38 rfl fun c₀ cs hu => ?_
  apply wpS_seq
  apply wpS_region
  simp [wpOpsS, go_sem, recoverD, hu, Try.ntmps38, Exit.thenS]
  refine wpS_cond (t := true) (by simp [Act.eval, Array.replicate]) ?_
  simp only [if_true]
  apply wpS_region
  simp [wpOpsS, go_sem, hc, hz, bodyPostS, results, Try.results38]
theorem catch_idle (p : Addr) (w : World) :
    CallsD Try.prog 38 #[.pointer (some p)] .returning w fun e u' w' => e = .returned (.tuple #[]) ∧ u' = .returning ∧ w' = w := by
  refine callsD_of_wpS Try.func38 rfl fun c₀ cs hu => ?_
  apply wpS_seq
  apply wpS_region
  simp [wpOpsS, go_sem, recoverD, hu, Try.ntmps38, Exit.thenS]
  refine wpS_cond (t := false) (by simp [Act.eval, Array.replicate]) ?_
  simp only [Bool.false_eq_true, if_false]
  refine wpS_of_wp (wp_skip ?_)
  cases c₀
  simp_all [bodyPostS, results, Try.results38]
theorem infoGrp : (Try.prog.info? 124).map (fun i => (i.zero, i.size, i.bytes)) = some (some (.agg #[.int .i64 0, .int .i64 0]), 2, 16) := by kernel_rfl
theorem infoSt : (Try.prog.info? 139).map (fun i => (i.zero, i.size, i.bytes)) = some (some (.agg #[.bool false, .int .i64 0, .int .i64 0]), 3, 24) := by kernel_rfl
theorem gl_rep : ∀ n : Nat, (gl (List.replicate n (0, 0))) = (List.range (n * 2)).map fun i => if i % 2 = 0 then .int .i64 0 else .int .i64 0
  | n => by
    apply List.ext_getElem?
    intro j
    rw [List.getElem?_map]
    by_cases h : j < n * 2
    · rw [List.getElem?_range h]
      have hq := gl_get (List.replicate n ((0 : Int), (0 : Int))) (j / 2) (0, 0) (by rw [List.getElem?_replicate, if_pos (by omega)])
      rcases Nat.mod_two_eq_zero_or_one j with e | e
      · rw [show j = j / 2 * 2 by omega, hq.1]; simp
      · rw [show j = j / 2 * 2 + 1 by omega, hq.2]; simp
    · rw [List.getElem?_eq_none (by rw [gl_len, List.length_replicate]; omega), List.getElem?_eq_none (by simp; omega)]; rfl
theorem mk_grp (n : Nat) : madeCells #[.int .i64 0, .int .i64 0] (n * 2) = gcells (List.replicate n (0, 0)) := by
  apply Array.ext'
  rw [show (gcells (List.replicate n (0, 0))).toList = gl (List.replicate n (0, 0)) from rfl, gl_rep]
  apply List.ext_getElem
  · simp [madeCells]
  · intro i h1 h2
    simp [madeCells]
    rcases Nat.mod_two_eq_zero_or_one i with e | e <;> simp [e]
theorem sl_rep (n j : Nat) (h : j < n * 3) : (sl (List.replicate n none))[j]? = some (if j % 3 = 0 then .bool false else .int .i64 0) := by
  have hq := fun i hi => sl_get (List.replicate n none) (j / 3) none i (by rw [List.getElem?_replicate, if_pos (by omega)]) hi
  have e : j = j / 3 * 3 + j % 3 := by omega
  have h3 : j % 3 < 3 := Nat.mod_lt _ (by omega)
  have := hq (j % 3) h3
  rw [← e] at this
  rw [this]
  have : j % 3 = 0 ∨ j % 3 = 1 ∨ j % 3 = 2 := by omega
  rcases this with e | e | e <;> rw [e] <;> rfl
theorem mk_st (n : Nat) : madeCells #[.bool false, .int .i64 0, .int .i64 0] (n * 3) = (sl (List.replicate n none)).toArray := by
  apply Array.ext'
  show _ = sl (List.replicate n none)
  apply List.ext_getElem?
  intro j
  by_cases h : j < n * 3
  · rw [sl_rep n j h]
    rw [List.getElem?_eq_getElem (by simp [madeCells]; omega)]
    simp [madeCells]
    have : j % 3 = 0 ∨ j % 3 = 1 ∨ j % 3 = 2 := by omega
    rcases this with e | e | e <;> simp [e]
  · rw [List.getElem?_eq_none (by simp [madeCells]; omega), List.getElem?_eq_none (by rw [sl_len, List.length_replicate]; omega)]
theorem run_mkg (n : Nat) (hn : n ≤ 1000000) (w : World) :
    (Instr.makeSlice 78 (.int .i64 (n : Int)) (.int .i64 (n : Int))).run Try.prog w = .ok (.slice (some ⟨w.heap.size, 0, none⟩) n n) (w.alloc (.cells (gcells (List.replicate n (0, 0))) 124)) := by
  obtain ⟨i0, hi, hz0, hz1, hz2⟩ := info_parts infoGrp
  have h := run_make (P := Try.prog) w 78 124 i0 (.agg #[.int .i64 0, .int .i64 0]) Try.underlying78 hi hz0 .i64 .i64 (n : Int) (n : Int) (by omega) (by omega) (by rw [hz2]; omega) (by omega)
  rw [← mk_grp]
  simpa [Value.cells, hz1] using h
theorem run_mks (n : Nat) (hn : n ≤ 1000000) (w : World) :
    (Instr.makeSlice 85 (.int .i64 (n : Int)) (.int .i64 (n : Int))).run Try.prog w = .ok (.slice (some ⟨w.heap.size, 0, none⟩) n n) (w.alloc (.cells (sl (List.replicate n none)).toArray 139)) := by
  obtain ⟨i0, hi, hz0, hz1, hz2⟩ := info_parts infoSt
  have h := run_make (P := Try.prog) w 85 139 i0 (.agg #[.bool false, .int .i64 0, .int .i64 0]) Try.underlying85 hi hz0 .i64 .i64 (n : Int) (n : Int) (by omega) (by omega) (by rw [hz2]; omega) (by omega)
  rw [← mk_st]
  simpa [Value.cells, hz1] using h
end Go.Proofs.Ytimkiifcmegfeaa
/- code: Check. -/
namespace Go.Proofs.Ytimkiifcmegfeaa
open Go.RowKit
set_option linter.unusedVariables false
set_option linter.unusedSimpArgs false
attribute [local go_sem] Oper.semAt_some
/-- A checker that is begun. -/
structure CkS (w wx : World) (cl : Cl) (q1 gk gg pm : Nat) : Prop where
  ck : CkB wx gk cl (.slice (some ⟨gg, 0, none⟩) cl.fs.length cl.fs.length) pm
  gb : GBlk wx gg (List.replicate cl.fs.length (0, 0))
  pr : PrMap wx pm 0
  e : Blk wx q1 31 #[.int .i64 0]
  c : Blk wx w.heap.size 25 #[.slice cl.fA cl.fs.length cl.fc, .slice cl.rA cl.rs.length cl.rc]
  q : q1 = w.heap.size + 1
  d : q1 < gk ∧ q1 < gg ∧ q1 < pm ∧ gk ≠ pm ∧ gk ≠ gg ∧ gg ≠ pm
  b : Below w.heap.size w wx
/-- A checker under way. -/
structure CkJ (cl : Cl) (w : World) (q q1 gk gg pm m : Nat) (wx : World) (N : Nat) : Prop where
  ck : CkB wx gk cl (.slice (some ⟨gg, 0, none⟩) m m) pm
  pr : PrMap wx pm N
  e : Blk wx q1 31 #[.int .i64 0]
  c : Blk wx q 25 #[.slice cl.fA m cl.fc, .slice cl.rA cl.rs.length cl.rc]
  b : Below w.heap.size w wx
/-- Either way of making it. -/
theorem cks_of {w w2 wx : World} {cl : Cl} {m : Nat} {gk gg pm : Nat} (hm : cl.fs.length = m) (hb : Below w.heap.size w w2) (hc : Blk w2 w.heap.size 25 #[.slice cl.fA m cl.fc, .slice cl.rA cl.rs.length cl.rc]) (he : Blk w2 (w.heap.size + 1) 31 #[.int .i64 0]) (hs : w2.heap.size = w.heap.size + 2)
    (h : (gg = w.heap.size + 2 ∧ pm = w.heap.size + 3 ∧ gk = w.heap.size + 4 ∧ wx = (((w2.alloc (.cells (gcells (List.replicate m (0, 0))) 124)).alloc (.map #[] 0)).alloc (.cells #[.slice cl.fA m cl.fc, .slice cl.rA cl.rs.length cl.rc, .slice (some ⟨gg, 0, none⟩) m m, .map (some pm)] 81)).drew) ∨
      (pm = w.heap.size + 2 ∧ gg = w.heap.size + 3 ∧ gk = w.heap.size + 4 ∧ wx = (((w2.alloc (.map #[] 0)).alloc (.cells (gcells (List.replicate m (0, 0))) 124)).alloc (.cells #[.slice cl.fA m cl.fc, .slice cl.rA cl.rs.length cl.rc, .slice (some ⟨gg, 0, none⟩) m m, .map (some pm)] 81)).drew)) : CkS w wx cl (w.heap.size + 1) gk gg pm := by
  subst hm
  rcases h with ⟨e1, e2, e3, rfl⟩ | ⟨e1, e2, e3, rfl⟩
  · obtain ⟨wa, hwa⟩ : ∃ V, w2.alloc (.cells (gcells (List.replicate cl.fs.length (0, 0))) 124) = V := ⟨_, rfl⟩
    obtain ⟨wb, hwb⟩ : ∃ V, wa.alloc (.map #[] 0) = V := ⟨_, rfl⟩
    rw [hwa, hwb]
    have ba : Below w2.heap.size w2 wa := by rw [← hwa]; exact (Below.refl _ _).alloc (Nat.le_refl _) _
    have bb : Below wa.heap.size wa wb := by rw [← hwb]; exact (Below.refl _ _).alloc (Nat.le_refl _) _
    have sa : wa.heap.size = w.heap.size + 3 := by rw [← hwa]; simp [hs]
    have sb : wb.heap.size = w.heap.size + 4 := by rw [← hwb]; simp [sa]
    have Ga : Blk wa gg 124 (gcells (List.replicate cl.fs.length (0, 0))) := by rw [← hwa, e1, ← hs]; exact Blk.new _ _ _
    have Pb : PrMap wb pm 0 := by rw [← hwb, e2, ← sa]; exact PrMap.made wa
    have hbx : Below wb.heap.size wb (wb.alloc (.cells #[.slice cl.fA cl.fs.length cl.fc, .slice cl.rA cl.rs.length cl.rc, .slice (some ⟨gg, 0, none⟩) cl.fs.length cl.fs.length, .map (some pm)] 81)).drew := ((Below.refl _ _).alloc (Nat.le_refl _) _).drew
    have h2x : Below w2.heap.size w2 (wb.alloc (.cells #[.slice cl.fA cl.fs.length cl.fc, .slice cl.rA cl.rs.length cl.rc, .slice (some ⟨gg, 0, none⟩) cl.fs.length cl.fs.length, .map (some pm)] 81)).drew := ba.trans ((bb.trans (hbx.mono bb.size)).mono ba.size)
    have K : Blk (wb.alloc (.cells #[.slice cl.fA cl.fs.length cl.fc, .slice cl.rA cl.rs.length cl.rc, .slice (some ⟨gg, 0, none⟩) cl.fs.length cl.fs.length, .map (some pm)] 81)).drew gk 81 #[.slice cl.fA cl.fs.length cl.fc, .slice cl.rA cl.rs.length cl.rc, .slice (some ⟨gg, 0, none⟩) cl.fs.length cl.fs.length, .map (some pm)] := by rw [e3, ← sb]; exact (Blk.new _ _ _).drew
    exact ⟨K, Blk.below Ga (bb.trans (hbx.mono bb.size)) Ga.lt, Pb.bel hbx, he.below h2x he.lt, hc.below h2x hc.lt, rfl, by omega, hb.trans (h2x.mono hb.size)⟩
  · obtain ⟨wa, hwa⟩ : ∃ V, w2.alloc (.map #[] 0) = V := ⟨_, rfl⟩
    obtain ⟨wb, hwb⟩ : ∃ V, wa.alloc (.cells (gcells (List.replicate cl.fs.length (0, 0))) 124) = V := ⟨_, rfl⟩
    rw [hwa, hwb]
    have ba : Below w2.heap.size w2 wa := by rw [← hwa]; exact (Below.refl _ _).alloc (Nat.le_refl _) _
    have bb : Below wa.heap.size wa wb := by rw [← hwb]; exact (Below.refl _ _).alloc (Nat.le_refl _) _
    have sa : wa.heap.size = w.heap.size + 3 := by rw [← hwa]; simp [hs]
    have sb : wb.heap.size = w.heap.size + 4 := by rw [← hwb]; simp [sa]
    have Ga : Blk wb gg 124 (gcells (List.replicate cl.fs.length (0, 0))) := by rw [← hwb, e2, ← sa]; exact Blk.new _ _ _
    have Pb : PrMap wa pm 0 := by rw [← hwa, e1, ← hs]; exact PrMap.made w2
    have hbx : Below wb.heap.size wb (wb.alloc (.cells #[.slice cl.fA cl.fs.length cl.fc, .slice cl.rA cl.rs.length cl.rc, .slice (some ⟨gg, 0, none⟩) cl.fs.length cl.fs.length, .map (some pm)] 81)).drew := ((Below.refl _ _).alloc (Nat.le_refl _) _).drew
    have h2x : Below w2.heap.size w2 (wb.alloc (.cells #[.slice cl.fA cl.fs.length cl.fc, .slice cl.rA cl.rs.length cl.rc, .slice (some ⟨gg, 0, none⟩) cl.fs.length cl.fs.length, .map (some pm)] 81)).drew := ba.trans ((bb.trans (hbx.mono bb.size)).mono ba.size)
    have K : Blk (wb.alloc (.cells #[.slice cl.fA cl.fs.length cl.fc, .slice cl.rA cl.rs.length cl.rc, .slice (some ⟨gg, 0, none⟩) cl.fs.length cl.fs.length, .map (some pm)] 81)).drew gk 81 #[.slice cl.fA cl.fs.length cl.fc, .slice cl.rA cl.rs.length cl.rc, .slice (some ⟨gg, 0, none⟩) cl.fs.length cl.fs.length, .map (some pm)] := by rw [e3, ← sb]; exact (Blk.new _ _ _).drew
    exact ⟨K, Blk.below Ga hbx Ga.lt, Pb.bel (bb.trans (hbx.mono bb.size)), he.below h2x he.lt, hc.below h2x hc.lt, rfl, by omega, hb.trans (h2x.mono hb.size)⟩
theorem CkJ.bel {cl : Cl} {w : World} {q q1 gk gg pm m : Nat} {wx wy : World} {N : Nat} (h : CkJ cl w q q1 gk gg pm m wx N) (hb : Below wx.heap.size wx wy) : CkJ cl w q q1 gk gg pm m wy N := ⟨Blk.below h.ck hb (Blk.lt h.ck), h.pr.bel hb, h.e.below hb h.e.lt, h.c.below hb h.c.lt, h.b.trans (hb.mono h.b.size)⟩
theorem CkJ.off {cl : Cl} {w : World} {q q1 gk gg pm m : Nat} {wx wy : World} {N N' : Nat} (h : CkJ cl w q q1 gk gg pm m wx N) (ho : Off (fun k => k = pm) wx wy) (hp : PrMap wy pm N') (hd : q1 < gk ∧ q1 < gg ∧ q1 < pm ∧ gk ≠ pm ∧ gk ≠ gg ∧ gg ≠ pm) (hq : q < pm ∧ w.heap.size ≤ q1) : CkJ cl w q q1 gk gg pm m wy N' :=
  ⟨Blk.off h.ck ho hd.2.2.2.1, hp, h.e.off ho (by show ¬ q1 = pm; omega), h.c.off ho (by show ¬ q = pm; omega), h.b.trans (ho.below h.b.size fun k e => by have e' : k = pm := e; omega)⟩
theorem take_sum_le (l : List Fe) (i : Nat) : ((l.take i).map fun f => f.is.length).sum ≤ (l.map fun f => f.is.length).sum := by
  conv => rhs; rw [← List.take_append_drop i l]
  rw [List.map_append, List.sum_append]
  omega
theorem opnds_app (m k : Int) (a b : List (List Ins)) : opnds m k (a ++ b) = (opnds m k a && opnds m k b) := by unfold opnds; rw [List.all_append]
theorem opnds_no (m k : Int) {fs : List Fe} {i j : Nat} {f : Fe} {x : Ins} (hf : fs[i]? = some f) (hx : f.is[j]? = some x) (h : opnd m k (f.is.length : Int) x = false) : opnds m k (fs.map Fe.is) = false := by
  unfold opnds
  rw [List.all_eq_false]
  refine ⟨f.is, List.mem_map.2 ⟨f, List.mem_of_getElem? hf, rfl⟩, ?_⟩
  rw [Bool.not_eq_true, List.all_eq_false]
  exact ⟨x, List.mem_of_getElem? hx, by rw [h]; simp⟩

theorem opnds_mem {m k : Int} {fs : List Fe} (h : opnds m k (fs.map Fe.is) = true) {f : Fe} (hf : f ∈ fs) {i : Ins} (hi : i ∈ f.is) : opnd m k (f.is.length : Int) i = true := by
  unfold opnds at h
  rw [List.all_eq_true] at h
  have := h f.is (List.mem_map.2 ⟨f, hf, rfl⟩)
  rw [List.all_eq_true] at this
  exact this i hi
theorem opnd6 {m k n : Int} {i : Ins} (h : opnd m k n i = true) (h6 : i.op = 6) : 1 ≤ i.a ∧ 1 ≤ i.b ∧ i.a + i.b ≤ m := by
  simp [opnd, h6, wi] at h
  omega
theorem sum_ge : ∀ {l : List Fe} {f : Fe}, f ∈ l → f.is.length ≤ (l.map fun f => f.is.length).sum
  | x :: l, f, h => by
    rw [List.map_cons, List.sum_cons]
    rcases List.mem_cons.1 h with rfl | h
    · omega
    · have := sum_ge h; omega
theorem madeL_len : ∀ {is : List Ins} {g g' : List (Int × Int)}, madeL is g = some g' → g'.length = g.length
  | [], g, g', h => by rw [madeL] at h; injection h with h; rw [h]
  | i :: is, g, g', h => by
    rw [madeL] at h
    split at h
    · cases hm : markN i.c i.b i.b.toNat i.a.toNat g with
      | none => rw [hm] at h; cases h
      | some x => rw [hm] at h; rw [madeL_len (is := is) h, markN_len hm]
    · exact madeL_len h
theorem madeFs_len : ∀ {fs : List (List Ins)} {g g' : List (Int × Int)}, madeFs fs g = some g' → g'.length = g.length
  | [], g, g', h => by rw [madeFs] at h; injection h with h; rw [h]
  | i :: is, g, g', h => by
    rw [madeFs] at h
    cases hm : madeL i g with
    | none => rw [hm] at h; cases h
    | some x => rw [hm] at h; rw [madeFs_len (fs := is) h, madeL_len hm]
theorem CkJ.ogg {cl : Cl} {w : World} {q q1 gk gg pm m : Nat} {wx wy : World} {N : Nat} (h : CkJ cl w q q1 gk gg pm m wx N) (ho : Off (fun k => k = gg) wx wy) (hd : q1 < gk ∧ q1 < gg ∧ q1 < pm ∧ gk ≠ pm ∧ gk ≠ gg ∧ gg ≠ pm) (hq : q < gg ∧ w.heap.size ≤ q1) : CkJ cl w q q1 gk gg pm m wy N :=
  ⟨Blk.off h.ck ho hd.2.2.2.2.1, h.pr.off ho (by show ¬ pm = gg; omega), h.e.off ho (by show ¬ q1 = gg; omega), h.c.off ho (by show ¬ q = gg; omega), h.b.trans (ho.below h.b.size fun k e => by have e' : k = gg := e; omega)⟩
theorem CkJ.obig {cl : Cl} {w : World} {q q1 gk gg pm m B : Nat} {wx wy : World} {N N' : Nat} (h : CkJ cl w q q1 gk gg pm m wx N) (ho : Off (fun k => k = pm ∨ B ≤ k) wx wy) (hp : PrMap wy pm N') (hd : q1 < gk ∧ q1 < gg ∧ q1 < pm ∧ gk ≠ pm ∧ gk ≠ gg ∧ gg ≠ pm) (hq : q < pm ∧ w.heap.size ≤ q1 ∧ q < B ∧ q1 < B ∧ gk < B) : CkJ cl w q q1 gk gg pm m wy N' :=
  ⟨Blk.off h.ck ho (by rintro (e | e) <;> omega), hp, h.e.off ho (by rintro (e | e) <;> omega), h.c.off ho (by rintro (e | e) <;> omega), h.b.trans (ho.below h.b.size fun k e => by rcases e with e | e <;> omega)⟩
theorem HMap.made_at {β : Type} {K : KeyK β} {w : World} {b : Nat} (hb : w.heap[b]? = some (.map #[] 0)) : HMap K w b 0 (fun _ => none) := by
  obtain ⟨D, ⟨es, clock, h1, h2⟩, h3⟩ := HMap.made K w
  have h4 : (w.alloc (.map #[] 0)).heap[w.heap.size]? = some (.map #[] 0) := (MapKept.heap_alloc w _).1
  rw [h4] at h1
  injection h1 with h1
  injection h1 with h1 h5
  subst h1
  subst h5
  exact ⟨D, ⟨#[], 0, hb, h2⟩, h3⟩
theorem HMap.mono {β : Type} {K : KeyK β} {w : World} {b n n' : Nat} {S : β → Option Value} (h : HMap K w b n S) (hn : n ≤ n') : HMap K w b n' S := by
  obtain ⟨D, h1, h2⟩ := h
  exact ⟨D, h1.mono hn, h2⟩
/-- A walk that is begun, whatever was made first. -/
theorem wk_start {w wx : World} {gk fn n gw ga gb kb : Nat} (hgk : gk < w.heap.size)
    (B1 : Blk wx gw 92 #[.pointer (some ⟨gk, 0, none⟩), .int .i64 (fn : Int), .slice (some ⟨ga, 0, none⟩) n n, .slice none 0 0, .slice (some ⟨gb, 0, none⟩) 1 1, .map (some kb)])
    (B2 : Blk wx ga 139 (sl (List.replicate n none)).toArray) (B3 : Blk wx gb 87 #[.int .i64 0, .int .i64 0]) (B4 : wx.heap[kb]? = some (.map #[] 0))
    (h : w.heap.size ≤ gw ∧ w.heap.size ≤ ga ∧ w.heap.size ≤ gb ∧ w.heap.size ≤ kb) (d : gw ≠ ga ∧ gw ≠ gb ∧ gw ≠ kb ∧ ga ≠ gb ∧ ga ≠ kb ∧ gb ≠ kb) :
    Wkm wx ⟨w.heap.size, gw, ga, kb, gk, fn, n⟩ (.slice none 0 0) (.slice (some ⟨gb, 0, none⟩) 1 1) (Wk.start n) := by
  have hk : knS (Wk.start n) = fun _ => none := by
    funext p
    unfold knS
    split <;> rfl
  refine ⟨B1, B2, World.ownsRow_nil _ _ _ _, ⟨rfl, .inr ⟨gb, 1, _, rfl, h.2.2.1, B3, Nat.le_refl _, by decide, rfl, rfl⟩⟩, ?_, ⟨hgk, h.1, h.2.1, h.2.2.2⟩, ⟨d.1, d.2.2.1, d.2.2.2.2.1⟩, fun k e => (by cases e), fun k e => ?_, fun k e => (by cases e)⟩
  · rw [hk]
    exact (HMap.made_at B4).mono (Nat.zero_le _)
  · have e : some gb = some k := e
    injection e with e
    subst e
    exact ⟨fun e => d.2.1 e.symm, fun e => d.2.2.2.1 e.symm, d.2.2.2.2.2⟩
theorem alloc_at (w wx : World) (o : Obj) (hb : Below (w.alloc o).heap.size (w.alloc o) wx) : wx.heap[w.heap.size]? = some o := (hb.block _ (by simp)).trans (MapKept.heap_alloc w o).1
theorem four (w : World) (o1 o2 o3 o4 : Obj) {V : World} (hV : (((w.alloc o1).alloc o2).alloc o3).alloc o4 = V) : (V.heap[w.heap.size]? = some o1 ∧ V.heap[w.heap.size + 1]? = some o2 ∧ V.heap[w.heap.size + 1 + 1]? = some o3 ∧ V.heap[w.heap.size + 1 + 1 + 1]? = some o4) ∧ Below w.heap.size w V := by
  obtain ⟨a, ha⟩ : ∃ V, w.alloc o1 = V := ⟨_, rfl⟩
  obtain ⟨b, hb⟩ : ∃ V, a.alloc o2 = V := ⟨_, rfl⟩
  obtain ⟨c, hc⟩ : ∃ V, b.alloc o3 = V := ⟨_, rfl⟩
  have k : ∀ (x y : World) (o : Obj), x.alloc o = y → Below x.heap.size x y ∧ y.heap.size = x.heap.size + 1 := fun x y o h => by subst h; exact ⟨(Below.refl _ _).alloc (Nat.le_refl _) _, by simp⟩
  rw [ha, hb, hc] at hV
  have ka := k _ _ _ ha
  have kb := k _ _ _ hb
  have kc := k _ _ _ hc
  have kd := k _ _ _ hV
  have cv := kd.1
  have bv := kc.1.trans (cv.mono kc.1.size)
  have av := kb.1.trans (bv.mono kb.1.size)
  have wv := ka.1.trans (av.mono ka.1.size)
  refine ⟨⟨?_, ?_, ?_, ?_⟩, wv⟩
  · exact alloc_at w V o1 (by rw [ha]; exact av)
  · rw [← ka.2]; exact alloc_at a V o2 (by rw [hb]; exact bv)
  · rw [← ka.2, ← kb.2]; exact alloc_at b V o3 (by rw [hc]; exact cv)
  · rw [← ka.2, ← kb.2, ← kc.2]; exact alloc_at c V o4 (by rw [hV]; exact Below.refl _ _)
theorem below_of {w : World} {a : Nat} {wx : World} (h : Below w.heap.size w wx) (ha : a < w.heap.size) : a < wx.heap.size := Nat.lt_of_lt_of_le ha h.size
def madeB : Option (List (Int × Int)) → List (List Ins) → Bool
  | none, _ => false
  | some gs, fs => madeOK gs && allFs gs fs 0
theorem madeAns_no {R : Option (List (Int × Int))} {fs : List (List Ins)} (h : madeAns R = false) : madeB R fs = false := by
  cases R with
  | none => rfl
  | some gs =>
    have h : madeOK gs = false := h
    simp [madeB, h]
theorem madeB_eq {R : Option (List (Int × Int))} {fs : List (List Ins)} : (match R with | none => false | some gs => madeOK gs && allFs gs fs 0) = madeB R fs := by cases R <;> rfl
theorem madeAns_yes {R : Option (List (Int × Int))} (h : madeAns R = true) : ∃ gs, R = some gs ∧ madeOK gs = true := by
  cases R with
  | none => cases h
  | some gs => exact ⟨gs, rfl, h⟩
theorem drop_at {cl : Cl} {n : Nat} {f : Fe} (h : cl.fs[n]? = some f) : (cl.fs.drop n).map Fe.is = f.is :: (cl.fs.drop (n + 1)).map Fe.is := by
  obtain ⟨h1, h2⟩ := List.getElem?_eq_some_iff.1 h
  rw [List.drop_eq_getElem_cons h1, h2]; rfl
set_option maxRecDepth 20000 in
set_option maxHeartbeats 8000000 in
theorem check_any (cl : Cl) (w : World) (hC : cl.At (fun b => b < w.heap.size) w) (hm : cl.fs.length ≤ 1000000) (hr : cl.rs.length ≤ 1000000) (hT : (cl.fs.map fun f => f.is.length).sum ≤ 400000) :
    Calls Try.prog 20 #[.agg #[.slice cl.fA cl.fs.length cl.fc, .slice cl.rA cl.rs.length cl.rc]] w fun e w' => e = .returned (.int .i64 (if checkB cl.cd = true then 0 else 17)) ∧ Below w.heap.size w w' := by
  have hmf : ∀ (fn : Fn) (first cap : Array Value) (w : World), (Instr.makeFunc fn first cap).run Try.prog w = .ok (.func fn first cap) w := fun _ _ _ _ => rfl
  obtain ⟨ans, hans⟩ : ∃ z : Int, (if checkB cl.cd = true then 0 else 17) = z := ⟨_, rfl⟩
  rw [hans]
  obtain ⟨m, hml⟩ : ∃ z, cl.fs.length = z := ⟨_, rfl⟩
  obtain ⟨w1, hw1⟩ : ∃ V, w.alloc (.cells #[.slice cl.fA m cl.fc, .slice cl.rA cl.rs.length cl.rc] 25) = V := ⟨_, rfl⟩
  obtain ⟨w2, hw2⟩ : ∃ V, w1.alloc (.cells #[.int .i64 0] 31) = V := ⟨_, rfl⟩
  have hb1 : Below w.heap.size w w1 := by rw [← hw1]; exact (Below.refl _ _).alloc (Nat.le_refl _) _
  have hb2 : Below w1.heap.size w1 w2 := by rw [← hw2]; exact (Below.refl _ _).alloc (Nat.le_refl _) _
  have B1 : Blk w1 w.heap.size 25 #[.slice cl.fA m cl.fc, .slice cl.rA cl.rs.length cl.rc] := by rw [← hw1]; exact Blk.new _ _ _
  have B2 : Blk w2 w1.heap.size 31 #[.int .i64 0] := by rw [← hw2]; exact Blk.new _ _ _
  have s1 : w1.heap.size = w.heap.size + 1 := by rw [← hw1]; simp
  have s2 : w2.heap.size = w.heap.size + 2 := by rw [← hw2]; simp [s1]
  have B12 := B1.below hb2 B1.lt
  rw [hml] at hm ⊢
  have HW := Lib.hid (And.intro hw1 (And.intro hw2 (And.intro s1 s2)))
  have HI := Lib.hid (And.intro hC (And.intro hm (And.intro hr (And.intro hT (And.intro hans (And.intro hml (And.intro (hb1.trans (hb2.mono hb1.size)) (And.intro B12 B2))))))))
  have x0 := B12.cell 0
  have x1 := B12.cell 1
  have hmk := run_mkg m hm
  have hmm := @run_makeMap Try.prog
  have hbz : Below w2.heap.size w2 (w2.alloc (.map #[] 0)) := (Below.refl _ _).alloc (Nat.le_refl _) _
  have hby : Below w2.heap.size w2 (w2.alloc (.cells (gcells (List.replicate m (0, 0))) 124)) := (Below.refl _ _).alloc (Nat.le_refl _) _
  have n0 := (hbz.cell (World.block_lt_of_cell? w2 _ x0)).trans x0
  have n1 := (hbz.cell (World.block_lt_of_cell? w2 _ x1)).trans x1
  have n2 := (hby.cell (World.block_lt_of_cell? w2 _ x0)).trans x0
  have n3 := (hby.cell (World.block_lt_of_cell? w2 _ x1)).trans x1
  have hxx : ((w2.alloc (.cells (gcells (List.replicate m (0, 0))) 124)).alloc (.map #[] 0)).cell? ⟨w.heap.size, 0, none⟩ = _ := (((Below.refl _ _).alloc (Nat.le_refl _) _).cell (World.block_lt_of_cell? _ _ n2)).trans n2
  have hxy : ((w2.alloc (.cells (gcells (List.replicate m (0, 0))) 124)).alloc (.map #[] 0)).cell? ⟨w.heap.size, 1, none⟩ = _ := (((Below.refl _ _).alloc (Nat.le_refl _) _).cell (World.block_lt_of_cell? _ _ n3)).trans n3
  have hyx : ((w2.alloc (.map #[] 0)).alloc (.cells (gcells (List.replicate m (0, 0))) 124)).cell? ⟨w.heap.size, 0, none⟩ = _ := (((Below.refl _ _).alloc (Nat.le_refl _) _).cell (World.block_lt_of_cell? _ _ n0)).trans n0
  have hyy : ((w2.alloc (.map #[] 0)).alloc (.cells (gcells (List.replicate m (0, 0))) 124)).cell? ⟨w.heap.size, 1, none⟩ = _ := (((Below.refl _ _).alloc (Nat.le_refl _) _).cell (World.block_lt_of_cell? _ _ n1)).trans n1
  clear hC hr hT hans hml hb1 hb2 B1 B2 s1 s2 B12 hw1 hw2 hbz hby
  go_enter_defers Try.func20, Try.ntmps20
  go_upto_region 2 with fail
  (try rw [HW.out.1])
  (try rw [HW.out.2.1])
  go_cut [3] from 11 to 18 (fun s wx => ∃ gk gg pm, s = .pointer (some ⟨gk, 0, none⟩) ∧ Hid (CkS w wx cl (w.heap.size + 1) gk gg pm))
  case first =>
    go_region
    · go_wp2_with fail
      go_meet
      exact ⟨_, _, _, rfl, Lib.hid (cks_of (gg := w2.heap.size) (pm := w2.heap.size + 1) (gk := w2.heap.size + 1 + 1) HI.out.2.2.2.2.2.1 HI.out.2.2.2.2.2.2.1 HI.out.2.2.2.2.2.2.2.1 (by have h := HI.out.2.2.2.2.2.2.2.2; rw [HW.out.2.2.1] at h; exact h) HW.out.2.2.2 (.inl ⟨HW.out.2.2.2, by rw [HW.out.2.2.2], by rw [HW.out.2.2.2], rfl⟩))⟩
    · go_wp2_with fail
      go_meet
      exact ⟨_, _, _, rfl, Lib.hid (cks_of (pm := w2.heap.size) (gg := w2.heap.size + 1) (gk := w2.heap.size + 1 + 1) HI.out.2.2.2.2.2.1 HI.out.2.2.2.2.2.2.1 HI.out.2.2.2.2.2.2.2.1 (by have h := HI.out.2.2.2.2.2.2.2.2; rw [HW.out.2.2.1] at h; exact h) HW.out.2.2.2 (.inr ⟨HW.out.2.2.2, by rw [HW.out.2.2.2], by rw [HW.out.2.2.2], rfl⟩))⟩
  case rest =>
    obtain ⟨gk, gg, pm, rfl, HK⟩ := hcut
    clear n0 n1 n2 n3 hxx hxy hyx hyy x0 x1 hmk hmm
    obtain ⟨q, hq⟩ : ∃ z, w.heap.size = z := ⟨_, rfl⟩
    obtain ⟨q1, hq1⟩ : ∃ z, q + 1 = z := ⟨_, rfl⟩
    have HQ := Lib.hid (And.intro hq hq1)
    have hk := HK.out
    rw [hq, hq1] at hk
    have HK1 := Lib.hid hk
    have x0 : wc.cell? ⟨q, 0, none⟩ = some (.slice cl.fA m cl.fc) := by have := hk.c.cell 0; rw [HI.out.2.2.2.2.2.1, hq] at this; exact this
    have x1 : wc.cell? ⟨q, 1, none⟩ = some (.slice cl.rA cl.rs.length cl.rc) := by have := hk.c.cell 1; rw [hq] at this; exact this
    rw [hq, hq1]
    obtain ⟨fA, hfA⟩ : ∃ a, cl.fA = a := ⟨_, rfl⟩
    rw [hfA] at x0 ⊢
    have HFA := Lib.hid hfA
    clear hk hq hq1 HK hfA
    have HAN := Lib.hid (fun V => ask_no (.pointer (some ⟨gk, 0, none⟩)) V)
    have HAY := Lib.hid (fun V => ask_yes (.pointer (some ⟨gk, 0, none⟩)) V)
    have HANS : Hid (ans = if checkB cl.cd = true then 0 else 17) := Lib.hid HI.out.2.2.2.2.1.symm
    have HCB : Hid (checkB cl.cd = (decide (0 < m) && (rootsOK cl.rs && (opnds (m : Int) (cl.rs.length : Int) (cl.fs.map Fe.is) && (match madeFs (cl.fs.map Fe.is) (List.replicate m (0, 0)) with | none => false | some gs => madeOK gs && allFs gs (cl.fs.map Fe.is) 0))))) := Lib.hid (by
      unfold checkB Cl.cd
      simp only [List.length_map, HI.out.2.2.2.2.2.1]
      rfl)
    have hF0 : Below w.heap.size w wc := HK1.out.b
    have HFS : Hid (∀ V, Below w.heap.size w V → FsAt (fun b => b < w.heap.size) V cl.fA cl.fs ∧ RsAt (fun b => b < w.heap.size) V cl.rA cl.rs) := Lib.hid fun V hV => ⟨HI.out.1.fs.bel hV, HI.out.1.rs.bel hV⟩
    clear hF0
    rcases Nat.eq_zero_or_pos m with hm0 | hm0
    · have e0 : ¬ 0 < m := by omega
      have e1 : decide ((m : Int) > 0) = false := by rw [decide_eq_false_iff_not]; omega
      have HZ : Hid (ans = 17) := Lib.hid (by rw [HANS.out, HCB.out, decide_eq_false e0]; rfl)
      clear hm0
      go_wp2_with fail
      refine (HAN.out _).mono ?_
      rintro e w' ⟨rfl, rfl⟩
      refine leaves_cons (f := 38) (args := #[.pointer (some ⟨q1, 0, none⟩)]) (by simp) (by simp [go_sem]) ?_
      refine (catch_panicking ⟨q1, 0, none⟩ 0 _ _ [] _ (Blk.cell (HK1.out.e) 0) (Blk.frozen (HK1.out.e) 0)).mono ?_
      rintro e u' w'' ⟨rfl, rfl, rfl⟩
      simp [Leaves, settle, results, Try.results20, go_sem]
      rw [show (World.setCell wc ⟨q1, 0, none⟩ (.int .i64 17)).cell? ⟨q1, 0, none⟩ = some (.int .i64 17) from Blk.cell (Blk.set_ (HK1.out.e) 0 _) 0]
      exact ⟨_, rfl, by rw [HZ.out], below_set (HK1.out.b) _ _ _ (by have h1 := HQ.out.1; have h2 := HQ.out.2; omega)⟩
    have e1 : decide ((m : Int) > 0) = true := by rw [decide_eq_true_eq]; omega
    have HM0 : Hid (decide (0 < m) = true) := Lib.hid (decide_eq_true hm0)
    go_wp2_with fail
    refine (HAY.out _).mono ?_
    rintro e w' ⟨rfl, rfl⟩
    have HRT := Lib.hid (roots_any gk pm cl _ (fun b => b < w.heap.size) wc HK1.out.ck (HFS.out wc HK1.out.b).2 HI.out.2.2.1)
    cases hrt : rootsOK cl.rs with
    | false =>
      have HC := Lib.hid (HRT.out.mono (R' := fun e w' => e = .panicked [wr] ∧ Below wc.heap.size wc w') fun e w' k => ⟨by rw [k.1, hrt]; rfl, k.2⟩)
      have HZ : Hid (ans = 17) := Lib.hid (by rw [HANS.out, HCB.out, hrt, HM0.out]; rfl)
      go_wp2_with fail
      refine HC.out.mono ?_
      rintro e w4 ⟨rfl, hb4⟩
      refine leaves_cons (f := 38) (args := #[.pointer (some ⟨q1, 0, none⟩)]) (by simp) (by simp [go_sem]) ?_
      refine (catch_panicking ⟨q1, 0, none⟩ 0 _ _ [] _ (Blk.cell (HK1.out.e.below hb4 HK1.out.e.lt) 0) (Blk.frozen (HK1.out.e.below hb4 HK1.out.e.lt) 0)).mono ?_
      rintro e u' w'' ⟨rfl, rfl, rfl⟩
      simp [Leaves, settle, results, Try.results20, go_sem]
      rw [show (World.setCell w4 ⟨q1, 0, none⟩ (.int .i64 17)).cell? ⟨q1, 0, none⟩ = some (.int .i64 17) from Blk.cell (Blk.set_ (HK1.out.e.below hb4 HK1.out.e.lt) 0 _) 0]
      exact ⟨_, rfl, by rw [HZ.out], below_set (HK1.out.b.trans (hb4.mono HK1.out.b.size)) _ _ _ (by have h1 := HQ.out.1; have h2 := HQ.out.2; omega)⟩
    | true =>
      have HC := Lib.hid (HRT.out.mono (R' := fun e w' => e = .returned (.tuple #[]) ∧ Below wc.heap.size wc w') fun e w' k => ⟨by rw [k.1, hrt]; rfl, k.2⟩)
      have HCB2 : Hid (checkB cl.cd = (opnds (m : Int) (cl.rs.length : Int) (cl.fs.map Fe.is) && (match madeFs (cl.fs.map Fe.is) (List.replicate m (0, 0)) with | none => false | some gs => madeOK gs && allFs gs (cl.fs.map Fe.is) 0))) := Lib.hid (by rw [HCB.out, hrt, HM0.out]; rfl)
      clear HRT hrt
      go_wp2_with fail
      refine HC.out.mono ?_
      rintro e w4 ⟨rfl, hb4⟩
      have HJ0 : Hid (CkJ cl w q q1 gk gg pm m w4 0) := Lib.hid ⟨by rw [← HI.out.2.2.2.2.2.1]; exact Blk.below HK1.out.ck hb4 (Blk.lt HK1.out.ck), HK1.out.pr.bel hb4, HK1.out.e.below hb4 HK1.out.e.lt, by have := HK1.out.c.below hb4 HK1.out.c.lt; rw [HI.out.2.2.2.2.2.1, HQ.out.1] at this; exact this, HK1.out.b.trans (hb4.mono HK1.out.b.size)⟩
      have HG0 : Hid (GBlk w4 gg (List.replicate m (0, 0))) := Lib.hid (by have := HK1.out.gb.below hb4 (Blk.lt HK1.out.gb); rw [HI.out.2.2.2.2.2.1] at this; exact this)
      have HD : Hid (q1 < gk ∧ q1 < gg ∧ q1 < pm ∧ gk ≠ pm ∧ gk ≠ gg ∧ gg ≠ pm) := Lib.hid HK1.out.d
      clear HC hb4
      have x0 : w4.cell? ⟨q, 0, none⟩ = some (.slice fA m cl.fc) := by rw [← HFA.out]; exact HJ0.out.c.cell 0
      have x1 := HJ0.out.c.cell 1
      have HOA := Lib.hid (fun (i : Ins) (hi : i.ok) (n N : Nat) (hn : n ≤ 1000000) (V : World) (h1 : CkB V gk cl (.slice (some ⟨gg, 0, none⟩) m m) pm) (h2 : PrMap V pm N) (h3 : N < 1000000) => operands_any i hi gk pm N cl _ m cl.rs.length n HI.out.2.2.2.2.2.1 rfl HI.out.2.1 HI.out.2.2.1 hn V h1 h2 h3)
      have hmx : m ≤ 1000000 := hm
      go_wp2_with fail
      go_loopw [30] (fun v30 wr => ∃ (i N : Nat), i ≤ m ∧ v30 = .int .i64 (i : Int) ∧ Hid (CkJ cl w q q1 gk gg pm m wr N ∧ N ≤ ((cl.fs.take i).map fun f => f.is.length).sum ∧ opnds (m : Int) (cl.rs.length : Int) ((cl.fs.take i).map Fe.is) = true ∧ GBlk wr gg (List.replicate m (0, 0)))) (fun v30 _ => m - (intOf v30).toNat)
      case atStart => exact ⟨0, 0, Nat.zero_le _, rfl, Lib.hid ⟨HJ0.out, Nat.le_refl _, rfl, HG0.out⟩⟩
      case round =>
        clear HJ0 HG0 x0 x1
        obtain ⟨i, N, hi, rfl, HJ⟩ := hrel
        obtain ⟨w5, rfl⟩ : ∃ v, v = wr := ⟨_, rfl⟩
        have x0 : w5.cell? ⟨q, 0, none⟩ = some (.slice fA m cl.fc) := by rw [← HFA.out]; exact HJ.out.1.c.cell 0
        have x1 := HJ.out.1.c.cell 1
        by_cases hli : i < m
        · have hd : decide ((i : Int) < (m : Int)) = true := by simpa using hli
          obtain ⟨f, hf⟩ : ∃ x, cl.fs[i]? = some x := ⟨_, List.getElem?_eq_getElem (by rw [HI.out.2.2.2.2.2.1]; exact hli)⟩
          obtain ⟨fb, fo, eA, _, _, z0, hfe⟩ := (HFS.out w5 HJ.out.1.b).1.get hf
          have eA2 : fA = some ⟨fb, fo, none⟩ := by rw [← HFA.out]; exact eA
          subst eA2
          obtain ⟨l, hl⟩ : ∃ l, f.is.length = l := ⟨_, rfl⟩
          rw [hl] at z0
          obtain ⟨A', hA'⟩ : ∃ A, f.A = A := ⟨_, rfl⟩
          rw [hA'] at z0
          have hsum : ((cl.fs.take (i + 1)).map fun f => f.is.length).sum = ((cl.fs.take i).map fun f => f.is.length).sum + l := by rw [List.take_add_one, hf]; simp [hl]
          have hle : ((cl.fs.take (i + 1)).map fun f => f.is.length).sum ≤ 400000 := Nat.le_trans (take_sum_le _ _) HI.out.2.2.2.1
          have hlx : l ≤ 400000 := by omega
          have HFI := Lib.hid (And.intro hf (And.intro hl (And.intro hA' (And.intro hsum (And.intro hle hli)))))
          clear hfe hf hl hA' hsum hle eA
          go_wp2_with fail
          go_loopw [36] (fun v36 wr => ∃ (j N : Nat), j ≤ l ∧ v36 = .int .i64 (j : Int) ∧ Hid (CkJ cl w q q1 gk gg pm m wr N ∧ N ≤ ((cl.fs.take i).map fun f => f.is.length).sum + j ∧ (f.is.take j).all (fun x => opnd (m : Int) (cl.rs.length : Int) (l : Int) x) = true ∧ GBlk wr gg (List.replicate m (0, 0)))) (fun v36 _ => l - (intOf v36).toNat)
          case atStart => exact ⟨0, N, Nat.zero_le _, rfl, Lib.hid ⟨HJ.out.1, by have := HJ.out.2.1; omega, rfl, HJ.out.2.2.2⟩⟩
          case round =>
            have HOLD := Lib.hid HJ.out.2.2.1
            clear HJ x0 x1 z0
            obtain ⟨j, N, hj, rfl, HJ⟩ := hrel
            obtain ⟨w6, rfl⟩ : ∃ v, v = wr := ⟨_, rfl⟩
            by_cases hlj : j < l
            · have hd : decide ((j : Int) < (l : Int)) = true := by simpa using hlj
              obtain ⟨x, hx⟩ : ∃ x, f.is[j]? = some x := ⟨_, List.getElem?_eq_getElem (by rw [HFI.out.2.1]; exact hlj)⟩
              have hfin := (HFS.out w6 HJ.out.1.b).1.fs f (List.mem_of_getElem? HFI.out.1)
              obtain ⟨bi, oi, eI, _, _, z0, z1, z2, z3, z4, hok⟩ := hfin.ins.get hx
              rw [HFI.out.2.2.1] at eI
              subst eI
              obtain ⟨k, a, b, c, tx⟩ := x
              replace z0 : w6.cell? ⟨bi, oi + j * 5, none⟩ = some (.int .u8 (k : Int)) := z0
              replace z1 : w6.cell? ⟨bi, oi + j * 5 + 1, none⟩ = some (.int .i64 a) := z1
              replace z2 : w6.cell? ⟨bi, oi + j * 5 + 2, none⟩ = some (.int .i64 b) := z2
              replace z3 : w6.cell? ⟨bi, oi + j * 5 + 3, none⟩ = some (.int .i64 c) := z3
              replace z4 : w6.cell? ⟨bi, oi + j * 5 + 4, none⟩ = some (.string (str tx)) := z4
              obtain ⟨w3, hw3⟩ : ∃ W, w6.alloc (.cells #[.int .u8 (k : Int), .int .i64 a, .int .i64 b, .int .i64 c, .string (str tx)] 46) = W := ⟨_, rfl⟩
              have hb3 : Below w6.heap.size w6 w3 := by rw [← hw3]; exact (Below.refl _ _).alloc (Nat.le_refl _) _
              have B3 : Blk w3 w6.heap.size 46 #[.int .u8 (k : Int), .int .i64 a, .int .i64 b, .int .i64 c, .string (str tx)] := by rw [← hw3]; exact Blk.new _ _ _
              obtain ⟨q3, hq3⟩ : ∃ q, w6.heap.size = q := ⟨_, rfl⟩
              have hJ3 := HJ.out.1.bel hb3
              have hG3 : GBlk w3 gg (List.replicate m (0, 0)) := Blk.below HJ.out.2.2.2 hb3 (Blk.lt HJ.out.2.2.2)
              rw [hq3] at B3
              have y0 := B3.cell 0
              have y1 := B3.cell 1
              have y2 := B3.cell 2
              have y3 := B3.cell 3
              have y4 := B3.cell 4
              have hN9 : N < 1000000 := by have h1 := HJ.out.2.1; have h2 := HFI.out.2.2.2.1; have h3 := HFI.out.2.2.2.2.1; omega
              have hC : Calls Try.prog 41 #[.pointer (some ⟨gk, 0, none⟩), .agg #[.int .u8 (k : Int), .int .i64 a, .int .i64 b, .int .i64 c, .string (str tx)], .int .i64 (l : Int)] w3 _ := HOA.out ⟨k, a, b, c, tx⟩ hok l N (by omega) w3 hJ3.ck hJ3.pr hN9
              have HO3 := Lib.hid (And.intro hw3 (And.intro hq3 (And.intro hJ3 (And.intro hG3 (And.intro hx hlj)))))
              cases hop : opnd (m : Int) (cl.rs.length : Int) (l : Int) ⟨k, a, b, c, tx⟩ with
              | false =>
                have HC := Lib.hid (hC.mono (R' := fun e w' => e = .panicked [wr] ∧ PrMap w' pm (N + 1) ∧ Off (fun k => k = pm) w3 w') fun e w' j => ⟨by rw [j.1, hop]; rfl, j.2⟩)
                have HZ : Hid (ans = 17) := Lib.hid (by
                  rw [HANS.out, HCB2.out, opnds_no (m : Int) (cl.rs.length : Int) HFI.out.1 hx (by rw [HFI.out.2.1]; exact hop)]; rfl)
                clear hC hfin hx hok hw3 hb3 B3 hq3 hJ3 hG3 hop hN9
                go_upto_region 11 with fail
                rw [HO3.out.1, HO3.out.2.1]
                clear z0 z1 z2 z3 z4
                go_wp2_with fail
                refine HC.out.mono ?_
                rintro e w7 ⟨rfl, hp7, ho7⟩
                have hJ7 := HO3.out.2.2.1.off ho7 hp7 HD.out (by have h1 := HQ.out.1; have h2 := HQ.out.2; have h3 := HD.out; omega)
                refine leaves_cons (f := 38) (args := #[.pointer (some ⟨q1, 0, none⟩)]) (by simp) (by simp [go_sem]) ?_
                refine (catch_panicking ⟨q1, 0, none⟩ 0 _ _ [] _ (Blk.cell (hJ7.e) 0) (Blk.frozen (hJ7.e) 0)).mono ?_
                rintro e u' w'' ⟨rfl, rfl, rfl⟩
                simp [Leaves, settle, results, Try.results20, go_sem]
                rw [show (World.setCell w7 ⟨q1, 0, none⟩ (.int .i64 17)).cell? ⟨q1, 0, none⟩ = some (.int .i64 17) from Blk.cell (Blk.set_ (hJ7.e) 0 _) 0]
                exact ⟨_, rfl, by rw [HZ.out], below_set (hJ7.b) _ _ _ (by have h1 := HQ.out.1; have h2 := HQ.out.2; omega)⟩
              | true =>
                have HC := Lib.hid (hC.mono (R' := fun e w' => e = .returned (.tuple #[]) ∧ PrMap w' pm (N + 1) ∧ Off (fun k => k = pm) w3 w') fun e w' j => ⟨by rw [j.1, hop]; rfl, j.2⟩)
                have HOP : Hid ((f.is.take (j + 1)).all (fun x => opnd (m : Int) (cl.rs.length : Int) (l : Int) x) = true) := Lib.hid (by rw [List.take_add_one, hx, List.all_append, HJ.out.2.2.1]; simp [hop])
                clear hC hfin hx hok hw3 hb3 B3 hq3 hJ3 hG3 hop hN9
                go_upto_region 11 with fail
                rw [HO3.out.1, HO3.out.2.1]
                clear z0 z1 z2 z3 z4
                go_wp2_with fail
                refine HC.out.mono ?_
                rintro e w7 ⟨rfl, hp7, ho7⟩
                have HJ7 := Lib.hid (HO3.out.2.2.1.off ho7 hp7 HD.out (by have h1 := HQ.out.1; have h2 := HQ.out.2; have h3 := HD.out; omega))
                have HG7 : Hid (GBlk w7 gg (List.replicate m (0, 0))) := Lib.hid (Blk.off HO3.out.2.2.2.1 ho7 (fun e => HD.out.2.2.2.2.2 e))
                clear hp7 ho7 HC
                go_wp2_with fail
                go_roundw
                case rel => exact ⟨j + 1, N + 1, by omega, by go_num, Lib.hid ⟨HJ7.out, by have := HJ.out.2.1; omega, HOP.out, HG7.out⟩⟩
                case measure => simp [intOf]; omega
            · obtain rfl : l = j := by omega
              have hd : decide ((l : Int) < (l : Int)) = false := by simp
              have HN : Hid (opnds (m : Int) (cl.rs.length : Int) ((cl.fs.take (i + 1)).map Fe.is) = true) := Lib.hid (by
                rw [List.take_add_one, HFI.out.1, List.map_append, opnds_app, HOLD.out]
                have h1 := HJ.out.2.2.1
                rw [List.take_of_length_le (by rw [HFI.out.2.1]; exact Nat.le_refl _)] at h1
                show (true && opnds _ _ [f.is]) = true
                unfold opnds
                simp only [List.all_cons, List.all_nil, HFI.out.2.1, h1, Bool.and_true])
              go_wp2_with fail
              go_roundw
              case rel => exact ⟨i + 1, N, by have := HFI.out.2.2.2.2.2; omega, by go_num, Lib.hid ⟨HJ.out.1, by rw [HFI.out.2.2.2.1]; exact HJ.out.2.1, HN.out, HJ.out.2.2.2⟩⟩
              case measure => have := HFI.out.2.2.2.2.2; simp [intOf]; omega
        · obtain rfl : m = i := by omega
          have hd : decide ((m : Int) < (m : Int)) = false := by simp
          go_wp2_with fail
          have HT : Hid (opnds (m : Int) (cl.rs.length : Int) (cl.fs.map Fe.is) = true ∧ N ≤ (cl.fs.map fun f => f.is.length).sum) := Lib.hid (by
            have h1 := HJ.out.2.2.1
            have h2 := HJ.out.2.1
            rw [List.take_of_length_le (by rw [HI.out.2.2.2.2.2.1]; exact Nat.le_refl _)] at h1 h2
            exact ⟨h1, h2⟩)
          obtain ⟨R, hR⟩ : ∃ r, madeFs (cl.fs.map Fe.is) (List.replicate m (0, 0)) = r := ⟨_, rfl⟩
          have hqq := HQ.out
          have hdd := HD.out
          have hHM := made_any gk pm gg cl m HI.out.2.2.2.2.2.1 hmx (fun b => b < w.heap.size) w5 HJ.out.1.ck (HFS.out w5 HJ.out.1.b).1 (by show ¬ gg < w.heap.size; omega) hdd.2.2.2.2.1 HJ.out.2.2.2 (fun f hf i hi h6 => opnd6 (opnds_mem HT.out.1 hf hi) h6) (fun f hf => by have := sum_ge hf; have := HI.out.2.2.2.1; omega) _ _ hR.symm rfl
          clear hqq hdd
          cases hma : madeAns R with
          | false =>
            have HC := Lib.hid (hHM.mono (R' := fun e w' => e = .panicked [wr] ∧ Off (fun k => k = gg) w5 w') fun e w' k => ⟨by rw [k.1, hma]; rfl, k.2.2⟩)
            have HZ : Hid (ans = 17) := Lib.hid (by rw [HANS.out, HCB2.out, madeB_eq, hR, madeAns_no hma, Bool.and_false]; rfl)
            clear hHM hR hma
            go_wp2_with fail
            refine HC.out.mono ?_
            rintro e w7 ⟨rfl, ho7⟩
            have hJ7 := HJ.out.1.ogg ho7 HD.out (by have h1 := HQ.out.1; have h2 := HQ.out.2; have h3 := HD.out; omega)
            refine leaves_cons (f := 38) (args := #[.pointer (some ⟨q1, 0, none⟩)]) (by simp) (by simp [go_sem]) ?_
            refine (catch_panicking ⟨q1, 0, none⟩ 0 _ _ [] _ (Blk.cell (hJ7.e) 0) (Blk.frozen (hJ7.e) 0)).mono ?_
            rintro e u' w'' ⟨rfl, rfl, rfl⟩
            simp [Leaves, settle, results, Try.results20, go_sem]
            rw [show (World.setCell w7 ⟨q1, 0, none⟩ (.int .i64 17)).cell? ⟨q1, 0, none⟩ = some (.int .i64 17) from Blk.cell (Blk.set_ (hJ7.e) 0 _) 0]
            exact ⟨_, rfl, by rw [HZ.out], below_set (hJ7.b) _ _ _ (by have h1 := HQ.out.1; have h2 := HQ.out.2; omega)⟩
          | true =>
            obtain ⟨gs, rfl, hgs⟩ := madeAns_yes hma
            have HC := Lib.hid (hHM.mono (R' := fun e w' => e = .returned (.tuple #[]) ∧ GBlk w' gg gs ∧ Off (fun k => k = gg) w5 w') fun e w' k => ⟨by rw [k.1, hma]; rfl, k.2.1 gs rfl hma, k.2.2⟩)
            have HCB3 : Hid (checkB cl.cd = allFs gs (cl.fs.map Fe.is) 0) := Lib.hid (by rw [HCB2.out, madeB_eq, HT.out.1, hR, Bool.true_and]; show (madeOK gs && allFs gs (cl.fs.map Fe.is) 0) = _; rw [hgs, Bool.true_and])
            have HGL : Hid (gs.length = m) := Lib.hid (by rw [madeFs_len hR, List.length_replicate])
            clear hHM hR hma hgs
            go_wp2_with fail
            refine HC.out.mono ?_
            rintro e w6 ⟨rfl, hg6, ho6⟩
            have HJ6 : Hid (CkJ cl w q q1 gk gg pm m w6 N ∧ GBlk w6 gg gs) := Lib.hid ⟨HJ.out.1.ogg ho6 HD.out (by have h1 := HQ.out.1; have h2 := HQ.out.2; have h3 := HD.out; omega), hg6⟩
            clear HC HJ hg6 ho6 x0 x1 HOA
            have x0 : w6.cell? ⟨q, 0, none⟩ = some (.slice fA m cl.fc) := by rw [← HFA.out]; exact HJ6.out.1.c.cell 0
            have x1 := HJ6.out.1.c.cell 1
            go_wp2_with fail
            go_loopw [52] (fun v52 wr => ∃ (n N : Nat), n ≤ m ∧ v52 = .int .i64 (n : Int) ∧ Hid (CkJ cl w q q1 gk gg pm m wr N ∧ GBlk wr gg gs ∧ N ≤ (cl.fs.map fun f => f.is.length).sum + ((cl.fs.take n).map fun f => f.is.length).sum ∧ allFs gs ((cl.fs.drop n).map Fe.is) n = checkB cl.cd)) (fun v52 _ => m - (intOf v52).toNat)
            case atStart => exact ⟨0, N, Nat.zero_le _, rfl, Lib.hid ⟨HJ6.out.1, HJ6.out.2, by have := HT.out.2; omega, HCB3.out.symm⟩⟩
            case round =>
              clear HJ6 x0 x1
              obtain ⟨n, N, hn, rfl, HJ⟩ := hrel
              obtain ⟨w7, rfl⟩ : ∃ v, v = wr := ⟨_, rfl⟩
              have x0 : w7.cell? ⟨q, 0, none⟩ = some (.slice fA m cl.fc) := by rw [← HFA.out]; exact HJ.out.1.c.cell 0
              have x1 := HJ.out.1.c.cell 1
              by_cases hli : n < m
              · have hd : decide ((n : Int) < (m : Int)) = true := by simpa using hli
                obtain ⟨f, hf⟩ : ∃ x, cl.fs[n]? = some x := ⟨_, List.getElem?_eq_getElem (by rw [HI.out.2.2.2.2.2.1]; exact hli)⟩
                obtain ⟨fb, fo, eA, _, _, z0, hfe⟩ := (HFS.out w7 HJ.out.1.b).1.get hf
                have eA2 : fA = some ⟨fb, fo, none⟩ := by rw [← HFA.out]; exact eA
                subst eA2
                obtain ⟨l, hl⟩ : ∃ l, f.is.length = l := ⟨_, rfl⟩
                rw [hl] at z0
                obtain ⟨A', hA'⟩ : ∃ A, f.A = A := ⟨_, rfl⟩
                rw [hA'] at z0
                have hsum : ((cl.fs.take (n + 1)).map fun f => f.is.length).sum = ((cl.fs.take n).map fun f => f.is.length).sum + l := by rw [List.take_add_one, hf]; simp [hl]
                have hle : ((cl.fs.take (n + 1)).map fun f => f.is.length).sum ≤ 400000 := Nat.le_trans (take_sum_le _ _) HI.out.2.2.2.1
                have hlx : l ≤ 400000 := by omega
                have HFI := Lib.hid (And.intro hf (And.intro hl (And.intro hA' (And.intro hsum (And.intro hle hli)))))
                clear hfe hf hl hA' hsum hle eA
                have hms := run_mks l (by omega)
                have hmm := @run_makeMap Try.prog
                obtain ⟨w8, hw8⟩ : ∃ V, (((w7.alloc (.cells (sl (List.replicate l none)).toArray 139)).alloc (.cells #[.int .i64 0, .int .i64 0] 87)).alloc (.map #[] 0)).alloc (.cells #[.pointer (some ⟨gk, 0, none⟩), .int .i64 (n : Int), .slice (some ⟨w7.heap.size, 0, none⟩) l l, .slice none 0 0, .slice (some ⟨w7.heap.size + 1, 0, none⟩) 1 1, .map (some (w7.heap.size + 1 + 1))] 92) = V := ⟨_, rfl⟩
                obtain ⟨⟨k1, k2, k3, k4⟩, hb8⟩ := four w7 _ _ _ _ hw8
                obtain ⟨g, hg⟩ : ∃ g, gs[n]? = some g := ⟨_, List.getElem?_eq_getElem (by rw [HGL.out]; exact hli)⟩
                have hgk7 : gk < w7.heap.size := Blk.lt HJ.out.1.ck
                have hgg7 : gg < w7.heap.size := Blk.lt HJ.out.2.1
                have hpm7 : pm < w7.heap.size := HJ.out.1.pr.lt
                have hq7 : q < w7.heap.size := HJ.out.1.c.lt
                have hq17 : q1 < w7.heap.size := HJ.out.1.e.lt
                have hJ8 := HJ.out.1.bel hb8
                have hwk := wk_start (w := w7) (fn := n) (gb := w7.heap.size + 1) (kb := w7.heap.size + 1 + 1) hgk7 k4 k1 k2 k3 ⟨by omega, Nat.le_refl _, by omega, by omega⟩ (by omega)
                have hN8 : N + l ≤ (cl.fs.map fun f => f.is.length).sum + ((cl.fs.take (n + 1)).map fun f => f.is.length).sum := by have h1 := HJ.out.2.2.1; rw [HFI.out.2.2.2.1]; omega
                have hN9 : N + l < 900000 := by have h1 := HI.out.2.2.2.1; have h2 := HFI.out.2.2.2.2.1; omega
                have HLT := Lib.hid (And.intro hb8 (And.intro hgk7 (And.intro hgg7 (And.intro hpm7 (And.intro hq7 (And.intro hq17 (And.intro hN8 (And.intro hg hJ8))))))))
                have hAM : AllM w8 ⟨w7.heap.size, w7.heap.size + 1 + 1 + 1, w7.heap.size, w7.heap.size + 1 + 1, gk, n, l⟩ (fun b => b < w.heap.size) gg m cl.rs.length pm N cl gs :=
                  ⟨hJ8.ck, Blk.below HJ.out.2.1 hb8 hgg7, HGL.out, (HFS.out w8 hJ8.b).1, HI.out.2.2.2.2.2.1, ⟨hmx, HI.out.2.2.1⟩, hJ8.pr, ⟨hgk7, hgg7, hpm7, HD.out.2.2.2.1, HD.out.2.2.2.2.2⟩, fun b (h : b < w.heap.size) => by show b < w7.heap.size ∧ b ≠ pm; have h1 := HQ.out.1; have h2 := HQ.out.2; have h3 := HD.out; omega⟩
                have hAA := all_any ⟨w7.heap.size, w7.heap.size + 1 + 1 + 1, w7.heap.size, w7.heap.size + 1 + 1, gk, n, l⟩ (fun b => b < w.heap.size) gg m cl.rs.length pm N cl gs g f _ _ w8 hwk hAM HFI.out.1 HFI.out.2.1 (by show l ≤ 800000; omega) hg (fun i hi => by have := opnds_mem HT.out.1 (List.mem_of_getElem? HFI.out.1) hi; rw [HFI.out.2.1] at this; exact this) hN9
                replace hAA : Calls Try.prog 43 #[.pointer (some ⟨w7.heap.size + 1 + 1 + 1, 0, none⟩)] w8 fun e w' => e = askE (Wk.all (decide (n = 0)) g f.is) ∧ PrMap w' pm (N + l) ∧ Off (fun k => k = pm ∨ w7.heap.size ≤ k) w8 w' := hAA
                have HAC : Hid (checkB cl.cd = (Wk.all (decide (n = 0)) g f.is && allFs gs ((cl.fs.drop (n + 1)).map Fe.is) (n + 1))) := Lib.hid (by
                  rw [← HJ.out.2.2.2, drop_at HFI.out.1, allFs, hg]; rfl)
                cases hal : Wk.all (decide (n = 0)) g f.is with
                | false =>
                  have HC := Lib.hid (hAA.mono (R' := fun e w' => e = .panicked [wr] ∧ PrMap w' pm (N + l) ∧ Off (fun k => k = pm ∨ w7.heap.size ≤ k) w8 w') fun e w' k => ⟨by rw [k.1, hal]; rfl, k.2⟩)
                  have HZ : Hid (ans = 17) := Lib.hid (by rw [HANS.out, HAC.out, hal]; rfl)
                  clear hAA hAM hwk hJ8 hb8 hgk7 hgg7 hpm7 hq7 hq17 hN8 hN9 k1 k2 k3 k4 hg hal
                  go_wp2_with fail
                  refine HC.out.mono ?_
                  rintro e w9 ⟨rfl, hp9, ho9⟩
                  have hJ9 := HLT.out.2.2.2.2.2.2.2.2.obig ho9 hp9 HD.out (by have h1 := HQ.out.1; have h2 := HQ.out.2; have h3 := HD.out; have h4 := HLT.out; omega)
                  refine leaves_cons (f := 38) (args := #[.pointer (some ⟨q1, 0, none⟩)]) (by simp) (by simp [go_sem]) ?_
                  refine (catch_panicking ⟨q1, 0, none⟩ 0 _ _ [] _ (Blk.cell (hJ9.e) 0) (Blk.frozen (hJ9.e) 0)).mono ?_
                  rintro e u' w'' ⟨rfl, rfl, rfl⟩
                  simp [Leaves, settle, results, Try.results20, go_sem]
                  rw [show (World.setCell w9 ⟨q1, 0, none⟩ (.int .i64 17)).cell? ⟨q1, 0, none⟩ = some (.int .i64 17) from Blk.cell (Blk.set_ (hJ9.e) 0 _) 0]
                  exact ⟨_, rfl, by rw [HZ.out], below_set (hJ9.b) _ _ _ (by have h1 := HQ.out.1; have h2 := HQ.out.2; omega)⟩
                | true =>
                  have HC := Lib.hid (hAA.mono (R' := fun e w' => e = .returned (.tuple #[]) ∧ PrMap w' pm (N + l) ∧ Off (fun k => k = pm ∨ w7.heap.size ≤ k) w8 w') fun e w' k => ⟨by rw [k.1, hal]; rfl, k.2⟩)
                  have HN : Hid (allFs gs ((cl.fs.drop (n + 1)).map Fe.is) (n + 1) = checkB cl.cd) := Lib.hid (by rw [HAC.out, hal, Bool.true_and])
                  clear hAA hAM hwk hJ8 hb8 hgk7 hgg7 hpm7 hq7 hq17 hN8 hN9 k1 k2 k3 k4 hg hal
                  go_wp2_with fail
                  refine HC.out.mono ?_
                  rintro e w9 ⟨rfl, hp9, ho9⟩
                  have HJ9 := Lib.hid (HLT.out.2.2.2.2.2.2.2.2.obig ho9 hp9 HD.out (by have h1 := HQ.out.1; have h2 := HQ.out.2; have h3 := HD.out; have h4 := HLT.out; omega))
                  have HG9 : Hid (GBlk w9 gg gs) := Lib.hid (Blk.off (Blk.below HJ.out.2.1 HLT.out.1 HLT.out.2.2.1) ho9 (by have h3 := HD.out; have h4 := HLT.out.2.2.1; rintro (e | e) <;> omega))
                  clear hp9 ho9 HC
                  go_wp2_with fail
                  go_roundw
                  case rel => exact ⟨n + 1, N + l, by have := HFI.out.2.2.2.2.2; omega, by go_num, Lib.hid ⟨HJ9.out, HG9.out, HLT.out.2.2.2.2.2.2.1, HN.out⟩⟩
                  case measure => have := HFI.out.2.2.2.2.2; simp [intOf]; omega
              · obtain rfl : m = n := by omega
                have hd : decide ((m : Int) < (m : Int)) = false := by simp
                have HZ : Hid (ans = 0) := Lib.hid (by
                  have h := HJ.out.2.2.2
                  rw [List.drop_of_length_le (by rw [HI.out.2.2.2.2.2.1]; exact Nat.le_refl _)] at h
                  rw [HANS.out, ← h]; rfl)
                have x2 := Blk.cell HJ.out.1.e 0
                have x3 := Blk.frozen HJ.out.1.e 0
                go_wp2_with fail
                refine leaves_cons (f := 38) (args := #[.pointer (some ⟨q1, 0, none⟩)]) (by simp) (by simp [go_sem]) ?_
                refine (catch_idle ⟨q1, 0, none⟩ _).mono ?_
                rintro e u' w'' ⟨rfl, rfl, rfl⟩
                simp [Leaves, settle, results, Try.results20, go_sem]
                rw [show (World.setCell w7 ⟨q1, 0, none⟩ (.int .i64 0)).cell? ⟨q1, 0, none⟩ = some (.int .i64 0) from Blk.cell (Blk.set_ HJ.out.1.e 0 _) 0]
                exact ⟨_, rfl, by rw [HZ.out], below_set HJ.out.1.b _ _ _ (by have h1 := HQ.out.1; have h2 := HQ.out.2; omega)⟩
end Go.Proofs.Ytimkiifcmegfeaa
