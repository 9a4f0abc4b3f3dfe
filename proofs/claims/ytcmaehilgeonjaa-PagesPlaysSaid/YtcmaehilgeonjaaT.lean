/- pages: Pages, Sectors of a map that is none. -/
import Derived.Test.YtcmaehilgeonjaaS
namespace Go.Proofs.Ytcmaehilgeonjaa
open Go.RowKit Go.Shelf Pgs
attribute [local go_sem] Oper.semAt_some
theorem pagesL_none : pagesL none_ = [] := by
  unfold pagesL
  rw [List.filter_eq_nil_iff]
  intro i hi
  have : none_.getD i 0 = 0 := by
    unfold none_
    rw [List.getD_eq_getElem?_getD, List.getElem?_replicate]
    split <;> rfl
  rw [this]; simp
/-- The iterator's box, without a map. -/
def ENil (Bp : Nat) (W : World) : Prop := W.cell? ⟨Bp, 0, none⟩ = some (.pointer none)
theorem enil_t {Bp : Nat} {X Y Z : World} (h : ENil Bp X → ENil Bp Y) (k : ENil Bp Y → ENil Bp Z) : ENil Bp X → ENil Bp Z := fun x => k (h x)
theorem enil_b {Bp : Nat} (W : World) (l : Nat) (o o' : Obj) (h : W.heap[l]? = some o) (hc : o.isCells = false) : ENil Bp W → ENil Bp (W.putObj l o') := fun h0 =>
  cell_kept h0 (grownBy_putObj' W l o') (fun r e => by cases e; exact ⟨o, h, hc⟩)
set_option maxHeartbeats 1000000 in
theorem each1n_in (m : Nat) (l Bp : Nat) (J Jx : List (Slot 0) → World → Prop) (W : World) (hbx : W.cell? ⟨Bp, 0, none⟩ = some (.pointer none)) (h0 : J [] W) :
    CallsIn Fence.wide m Try.prog 40 #[.func (.yield l) #[] #[], .pointer (some ⟨Bp, 0, none⟩)] W fun e W' => (∃ v, e = .returned v) ∧
      ((∃ ys, Come 0 ys ∧ J ys W') ∨ (∃ pre, Come pre.length pre ∧ Jx pre W')) := by
  have HST := Lib.hid h0
  clear h0
  refine callsIn_of_wp Try.func40 rfl trivial ?_ rfl
  simp only [Try.ntmps40, List.size_toArray, List.length_cons, List.length_nil, Nat.reduceAdd, Nat.reduceSub, Array.replicate_succ, Array.replicate_zero, List.push_toArray, List.append_toArray, List.nil_append, List.cons_append]
  gi_wp2_with fail
  refine bodyPost_ret (results_none rfl _ _ _) rfl ?_
  exact ⟨⟨_, rfl⟩, .inl ⟨[], Come.nil, HST.out⟩⟩
theorem each1n_stops (m : Nat) (Bp : Nat) (w : World) (hI : ENil Bp w) :
    SeqStopsK Fence.wide m Try.prog 40 #[.pointer (some ⟨Bp, 0, none⟩)] (epair none_ (n := 0))
      (fun W W' => ENil Bp W → ENil Bp W') (Come 0) (fun pre => Come pre.length pre) 0 w := fun l J Jx W hW _ _ _ h0 => by
  have hI' : ENil Bp W := (hW.cell (World.block_lt_of_cell? w _ hI)).trans hI
  exact each1n_in m l Bp J Jx W hI' h0

set_option maxRecDepth 100000 in
set_option maxHeartbeats 1000000 in
theorem pages_nil (w : World) :
    Calls Try.prog 20 #[.pointer none] w fun e W' => ∃ sv, e = .returned sv ∧ IntsO W' sv (pagesL none_) ∧ (∀ j, sv.ownBlock = some j → w.heap.size ≤ j) ∧ Below w.heap.size w W' := by
  have hn : (pagesL none_).length = 0 := by rw [pagesL_none]; rfl
  refine (callsIn_wide (n := 5)).1 ?_
  have hro : (Fence.wide).round = none := rfl
  refine callsIn_of_wp_marks Try.func20 rfl trivial ?_ hro
  simp only [Try.ntmps20, List.size_toArray, List.length_cons, List.length_nil, Nat.reduceAdd, Nat.reduceSub, Array.replicate_succ, Array.replicate_zero, List.push_toArray, List.append_toArray, List.nil_append, List.cons_append]
  gi_wp2_with fail
  refine ⟨trivial, ?_⟩
  refine (callsIn_wide.2 (each_any _ _)).mono ?_
  rintro e w' ⟨rfl, rfl⟩
  gi_wp2_with fail
  obtain ⟨ws, hws⟩ : ∃ ws, ((w.alloc (.cells #[.slice none 0 0] 37)).alloc (.cells #[.pointer none] 25)) = ws := ⟨_, rfl⟩
  have bX : Blk ws w.heap.size 37 #[.slice none 0 0] := by rw [← hws]; exact (Blk.new w _ _).alloc _
  have bP : Blk ws (w.heap.size + 1) 25 #[.pointer none] := by
    have := Blk.new (w.alloc (.cells #[.slice none 0 0] 37)) 25 #[.pointer none]
    rw [World.size_alloc] at this
    rw [← hws]; exact this
  have hB0 : Below w.heap.size w ws := by
    rw [← hws]; exact ((Below.refl _ w).alloc (Nat.le_refl _) _).alloc (by simp) _
  have hsz : ws.heap.size = w.heap.size + 2 := by rw [← hws]; simp
  have hE0 : ENil (w.heap.size + 1) ws := bP.cell 0
  have hI0 : ZInv w [] ws := ⟨⟨_, bX, IntsO.nil _, fun j hj => (by cases hj)⟩, hB0, by omega⟩
  rw [hws]
  clear hws
  have HN := Lib.hid hn
  have hown := ZInv.own w (fun (pre : List (Slot 0)) => gPages none_ pre)
  rw [← hsz] at hown
  have hst := each1n_stops 4 _ ws hE0
  clear hn
  refine wpIn_rangeFunc_ownG hro (by omega) (gf := 40) (lb := #[.pointer (some ⟨w.heap.size + 1, 0, none⟩)]) rfl trivial (enters_of Try.func40 (by kernel_rfl) rfl)
    hst enil_t (fun W l o o' _ h hc _ => enil_b W l o o' h hc) (Below.refl _ _) (fun _ => rfl)
    (fun (pre : List (Slot 0)) W => ZInv w (gPages none_ pre) W)
    (fun _ _ _ => False)
    hown
    (fun _ _ _ _ _ hs _ _ => hs)
    hI0
    (fun x => { tmps := #[.pointer none, undef, .slice none 0 0, .pointer (some ⟨w.heap.size, 0, none⟩), .int .i64 (pgK none_ x.1 : Int), .pointer none, .func (.func 40) #[] #[.pointer (some ⟨w.heap.size + 1, 0, none⟩)], .int .i64 (pgK none_ x.1 : Int), .int .i64 (none_.getD (pgK none_ x.1) 0 : Int), undef, undef, undef, undef, undef], defers := [] }) ?assign ?body ?done ?stop
  case assign =>
    intro l x W K hK
    dsimp only [epair]
    gi_wp2
    exact hK
  case body =>
    rintro l pre x W hI hlp
    exact absurd x.2 (Nat.not_lt_zero _)
  case done =>
    rintro D ys W hD hS hI hK
    obtain ⟨sv, h1, h2, h3⟩ := hI.ex
    rw [show gPages none_ ys = pagesL none_ from come_pages HN.out hS] at h2
    have hc := h1.cell 0
    have HF : Hid (IntsO W sv (pagesL none_) ∧ (∀ j, sv.ownBlock = some j → w.heap.size ≤ j) ∧ Below w.heap.size w W) := Lib.hid ⟨h2, fun j hj => by have := h3 j hj; omega, hI.bel⟩
    clear h1 h2 h3 hI
    gi_wp2
    refine ⟨by simp, .inl ⟨_, _, rfl, run_takeDeferred hK, ?_⟩⟩
    obtain ⟨g1, g2, g3⟩ := HF.out
    have hb := belowK_b (w := w) (Nat.le_refl _) W D _ (.deferred none) (by omega) hK rfl rfl
    refine ⟨_, results_tmp rfl _ _ _, sv, rfl, ?_, g2, g3.trans hb⟩
    refine g1.same fun k hk => (grownBy_putObj' W D (.deferred none)).block k (g1.lt k hk) fun e => ?_
    injection e with e
    obtain ⟨o, ho, hc⟩ := g1.cells k hk
    rw [e, hK] at ho; cases ho; cases hc
  case stop =>
    rintro D c pre W _ _ h _
    exact h.elim

set_option maxRecDepth 100000 in
set_option maxHeartbeats 1000000 in
theorem sectors_nil (w : World) :
    Calls Try.prog 22 #[.pointer none] w fun e W' => ∃ sv, e = .returned sv ∧ IntsO W' sv (sectorsL none_) ∧ (∀ j, sv.ownBlock = some j → w.heap.size ≤ j) ∧ Below w.heap.size w W' := by
  have hn : (pagesL none_).length = 0 := by rw [pagesL_none]; rfl
  refine (callsIn_wide (n := 5)).1 ?_
  have hro : (Fence.wide).round = none := rfl
  refine callsIn_of_wp_marks Try.func22 rfl trivial ?_ hro
  simp only [Try.ntmps22, List.size_toArray, List.length_cons, List.length_nil, Nat.reduceAdd, Nat.reduceSub, Array.replicate_succ, Array.replicate_zero, List.push_toArray, List.append_toArray, List.nil_append, List.cons_append]
  gi_wp2_with fail
  refine ⟨trivial, ?_⟩
  refine (callsIn_wide.2 (each_any _ _)).mono ?_
  rintro e w' ⟨rfl, rfl⟩
  gi_wp2_with fail
  obtain ⟨ws, hws⟩ : ∃ ws, ((w.alloc (.cells #[.slice none 0 0] 37)).alloc (.cells #[.pointer none] 25)) = ws := ⟨_, rfl⟩
  have bX : Blk ws w.heap.size 37 #[.slice none 0 0] := by rw [← hws]; exact (Blk.new w _ _).alloc _
  have bP : Blk ws (w.heap.size + 1) 25 #[.pointer none] := by
    have := Blk.new (w.alloc (.cells #[.slice none 0 0] 37)) 25 #[.pointer none]
    rw [World.size_alloc] at this
    rw [← hws]; exact this
  have hB0 : Below w.heap.size w ws := by
    rw [← hws]; exact ((Below.refl _ w).alloc (Nat.le_refl _) _).alloc (by simp) _
  have hsz : ws.heap.size = w.heap.size + 2 := by rw [← hws]; simp
  have hE0 : ENil (w.heap.size + 1) ws := bP.cell 0
  have hI0 : ZInv w [] ws := ⟨⟨_, bX, IntsO.nil _, fun j hj => (by cases hj)⟩, hB0, by omega⟩
  rw [hws]
  clear hws
  have HN := Lib.hid hn
  have hown := ZInv.own w (fun (pre : List (Slot 0)) => gSectors none_ pre)
  rw [← hsz] at hown
  have hst := each1n_stops 4 _ ws hE0
  clear hn
  refine wpIn_rangeFunc_ownG hro (by omega) (gf := 40) (lb := #[.pointer (some ⟨w.heap.size + 1, 0, none⟩)]) rfl trivial (enters_of Try.func40 (by kernel_rfl) rfl)
    hst enil_t (fun W l o o' _ h hc _ => enil_b W l o o' h hc) (Below.refl _ _) (fun _ => rfl)
    (fun (pre : List (Slot 0)) W => ZInv w (gSectors none_ pre) W)
    (fun _ _ _ => False)
    hown
    (fun _ _ _ _ _ hs _ _ => hs)
    hI0
    (fun x => { tmps := #[.pointer none, undef, .slice none 0 0, .pointer (some ⟨w.heap.size, 0, none⟩), undef, .int .i64 (none_.getD (pgK none_ x.1) 0 : Int), .pointer none, .func (.func 40) #[] #[.pointer (some ⟨w.heap.size + 1, 0, none⟩)], .int .i64 (pgK none_ x.1 : Int), .int .i64 (none_.getD (pgK none_ x.1) 0 : Int), undef, undef, undef, undef, undef], defers := [] }) ?assign ?body ?done ?stop
  case assign =>
    intro l x W K hK
    dsimp only [epair]
    gi_wp2
    exact hK
  case body =>
    rintro l pre x W hI hlp
    exact absurd x.2 (Nat.not_lt_zero _)
  case done =>
    rintro D ys W hD hS hI hK
    obtain ⟨sv, h1, h2, h3⟩ := hI.ex
    rw [show gSectors none_ ys = sectorsL none_ from come_sectors HN.out hS] at h2
    have hc := h1.cell 0
    have HF : Hid (IntsO W sv (sectorsL none_) ∧ (∀ j, sv.ownBlock = some j → w.heap.size ≤ j) ∧ Below w.heap.size w W) := Lib.hid ⟨h2, fun j hj => by have := h3 j hj; omega, hI.bel⟩
    clear h1 h2 h3 hI
    gi_wp2
    refine ⟨by simp, .inl ⟨_, _, rfl, run_takeDeferred hK, ?_⟩⟩
    obtain ⟨g1, g2, g3⟩ := HF.out
    have hb := belowK_b (w := w) (Nat.le_refl _) W D _ (.deferred none) (by omega) hK rfl rfl
    refine ⟨_, results_tmp rfl _ _ _, sv, rfl, ?_, g2, g3.trans hb⟩
    refine g1.same fun k hk => (grownBy_putObj' W D (.deferred none)).block k (g1.lt k hk) fun e => ?_
    injection e with e
    obtain ⟨o, ho, hc⟩ := g1.cells k hk
    rw [e, hK] at ho; cases ho; cases hc
  case stop =>
    rintro D c pre W _ _ h _
    exact h.elim
end Go.Proofs.Ytcmaehilgeonjaa
