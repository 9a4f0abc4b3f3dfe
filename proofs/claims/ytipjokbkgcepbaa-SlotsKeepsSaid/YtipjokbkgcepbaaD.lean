/- slots.lowest. -/
import Derived.Test.YtipjokbkgcepbaaC
namespace Go.Proofs.Ytipjokbkgcepbaa
open Go.RowKit Go.Shelf Slt
attribute [local go_sem] Oper.semAt_some

/-- The first free slot; how many there are, if none is. -/
def lowK (l : List (List UInt8)) : Nat := l.findIdx fun r => r.length == 0
theorem lowK_le (l : List (List UInt8)) : lowK l ≤ l.length := List.findIdx_le_length
theorem lowK_none {l : List (List UInt8)} (h : ∀ r ∈ l, r.length ≠ 0) : lowK l = l.length := List.findIdx_eq_length.2 fun r hr => by simpa using h r hr
theorem lowK_some {l : List (List UInt8)} {k : Nat} {r : List UInt8} (h : ∀ s ∈ l.take k, s.length ≠ 0) (hk : l[k]? = some r) (hr : r.length = 0) : lowK l = k := by
  obtain ⟨hlt, e⟩ := List.getElem?_eq_some_iff.1 hk
  refine (List.findIdx_eq hlt).2 ⟨by rw [e]; simpa using hr, fun j hj => ?_⟩
  have : l[j] ∈ l.take k := by
    rw [List.mem_take_iff_getElem]
    exact ⟨j, by omega, rfl⟩
  simpa using h _ this

theorem come_init {p : List UInt8} {n : Nat} (hn : (recs p).length = n) {ys : List (Slot n)} {k : Nat} (h : Come k ys) : ys.map (recAt p) = (recs p).take k := by
  have hl := h.length
  apply List.ext_getElem?
  intro j
  rcases Nat.lt_or_ge j k with hj | hj
  · have hjn : j < n := by
      have e := congrArg (fun l => l[j]?) h
      simp only [List.getElem?_map, List.getElem?_range hj, List.getElem?_eq_getElem (show j < ys.length by omega), Option.map_some] at e
      injection e with e
      rw [← e]; exact ys[j].2
    have hok : Ok p := by
      by_cases e : Ok p
      · exact e
      · rw [recs_no e] at hn; simp at hn; omega
    rw [List.getElem?_take_of_lt hj, hok.rec_get (by rw [← recs_length hok, hn]; exact hjn), List.getElem?_map, List.getElem?_eq_getElem (by omega)]
    have e := congrArg (fun l => l[j]?) h
    simp only [List.getElem?_map, List.getElem?_range hj, List.getElem?_eq_getElem (show j < ys.length by omega), Option.map_some] at e
    injection e with e
    simp only [Option.map_some, recAt, e]
  · rw [List.getElem?_eq_none (by simp; omega), List.getElem?_eq_none (by simp; omega)]
theorem come_last {n : Nat} {pre : List (Slot n)} {x : Slot n} (h : Come (pre ++ [x]).length (pre ++ [x])) : Come pre.length pre ∧ x.1 = pre.length := by
  unfold Come at h ⊢
  rw [List.length_append, List.length_singleton, List.range_succ, List.map_append] at h
  have := List.append_inj h (by simp)
  exact ⟨this.1, by simpa using this.2⟩

/-- Two result variables, and the page. -/
structure LInv (w : World) (v1 v2 : Value) (W : World) : Prop where
  b1 : Blk W w.heap.size 3 #[v1]
  b2 : Blk W (w.heap.size + 1) 4 #[v2]
  bel : Below w.heap.size w W
  sz : w.heap.size + 3 ≤ W.heap.size
theorem LInv.grown {w W W' : World} {v1 v2 : Value} {row : Option Nat} (h : LInv w v1 v2 W) (hg : W.grownBy W' row) (hr : ∀ r, row = some r → w.heap.size + 3 ≤ r ∧ ∃ o : Obj, W.heap[r]? = some o ∧ o.isCells = false) : LInv w v1 v2 W' :=
  ⟨h.b1.kept hg fun r e => (hr r e).2, h.b2.kept hg fun r e => (hr r e).2, h.bel.grown hg h.bel.size (fun k e => by have := (hr k e).1; omega), Nat.le_trans h.sz hg.size⟩
theorem LInv.set_ {w W : World} {v1 v2 : Value} (h : LInv w v1 v2 W) (u1 u2 : Value) : LInv w u1 u2 ((W.setCell ⟨w.heap.size, 0, none⟩ u1).setCell ⟨w.heap.size + 1, 0, none⟩ u2) := by
  refine ⟨?_, ?_, (h.bel.setCell (p := ⟨w.heap.size, 0, none⟩) (Nat.le_refl _) _).setCell (p := ⟨w.heap.size + 1, 0, none⟩) (Nat.le_succ _) _, by simp [World.setCell]; exact h.sz⟩
  · have := (h.b1.set_ 0 u1).far (p := ⟨w.heap.size + 1, 0, none⟩) (by show w.heap.size ≠ w.heap.size + 1; omega) u2
    simpa using this
  · have := (h.b2.far (p := ⟨w.heap.size, 0, none⟩) (by show w.heap.size + 1 ≠ w.heap.size; omega) u1).set_ 0 u2
    simpa using this

theorem LInv.fin {w W : World} {v1 v2 : Value} (h : LInv w v1 v2 W) {D : Nat} (hD : w.heap.size + 3 ≤ D) (hK : W.heap[D]? = some (.deferred (some []))) :
    (W.putObj D (.deferred none)).cell? ⟨w.heap.size, 0, none⟩ = some v1 ∧ (W.putObj D (.deferred none)).cell? ⟨w.heap.size + 1, 0, none⟩ = some v2 ∧ Below w.heap.size w (W.putObj D (.deferred none)) := by
  have h2 := h.grown (grownBy_putObj' W D (.deferred none)) (fun r e => by cases e; exact ⟨hD, _, hK, rfl⟩)
  exact ⟨h2.b1.cell 0, h2.b2.cell 0, h2.bel⟩
theorem far2 {W : World} {a b D : Nat} {o : Obj} (u v : Value) (h : W.heap[D]? = some o) (ha : D ≠ a) (hb : D ≠ b) : ((W.setCell ⟨a, 0, none⟩ u).setCell ⟨b, 0, none⟩ v).heap[D]? = some o :=
  (Below.heap_setCell _ ⟨b, 0, none⟩ _ _ hb).trans ((Below.heap_setCell _ ⟨a, 0, none⟩ _ _ ha).trans h)

/-- Between the rounds of lowest; where it stops. -/
def LowI (p : List UInt8) (w : World) {n : Nat} (pre : List (Slot n)) (W : World) : Prop := (∀ r ∈ pre.map (recAt p), r.length ≠ 0) ∧ LInv w (.int .i64 0) (.bool false) W
def LowX (p : List UInt8) (w : World) {n : Nat} (c : Code) (pre : List (Slot n)) (W : World) : Prop := c = .ret ∧ ∃ init x, pre = init ++ [x] ∧ (∀ r ∈ init.map (recAt p), r.length ≠ 0) ∧ (recAt p x).length = 0 ∧ LInv w (.int .i64 (x.1 : Int)) (.bool false) W

set_option maxRecDepth 100000 in
set_option maxHeartbeats 1000000 in
theorem lowest_any (A : Option Addr) (len cap : Nat) (p : List UInt8) (w : World) (hok : Ok p) (hlen : p.length = len) (hA : Bytes w A p) (hcap : len ≤ cap) (hcm : cap ≤ maxLen) :
    Calls Try.prog 34 #[.slice A len cap] w fun e W' => e = .returned (.tuple #[.int .i64 (lowK (recs p) : Int), .bool (decide (lowK (recs p) = cnt p))]) ∧ Below w.heap.size w W' := by
  obtain ⟨n, hn⟩ : ∃ n, (recs p).length = n := ⟨_, rfl⟩
  refine (callsIn_wide (n := 5)).1 ?_
  have hro : (Fence.wide).round = none := rfl
  refine callsIn_of_wp_marks Try.func34 rfl trivial ?_ hro
  simp only [Try.ntmps34, List.size_toArray, List.length_cons, List.length_nil, Nat.reduceAdd, Nat.reduceSub, Array.replicate_succ, Array.replicate_zero, List.push_toArray, List.append_toArray, List.nil_append, List.cons_append]
  gi_wp2_with fail
  refine ⟨trivial, ?_⟩
  refine (callsIn_wide.2 (each_any _ _ _ _)).mono ?_
  rintro e w' ⟨rfl, rfl⟩
  gi_wp2_with fail
  obtain ⟨ws, hws⟩ : ∃ ws, (((w.alloc (.cells #[.int .i64 0] 3)).alloc (.cells #[.bool false] 4)).alloc (.cells #[.slice A len cap] 22)) = ws := ⟨_, rfl⟩
  have b1 : Blk ws w.heap.size 3 #[.int .i64 0] := by rw [← hws]; exact ((Blk.new w _ _).alloc _).alloc _
  have b2 : Blk ws (w.heap.size + 1) 4 #[.bool false] := by
    have := Blk.new (w.alloc (.cells #[.int .i64 0] 3)) 4 #[.bool false]
    rw [World.size_alloc] at this
    rw [← hws]; exact this.alloc _
  have bP : Blk ws (w.heap.size + 2) 22 #[.slice A len cap] := by
    have := Blk.new ((w.alloc (.cells #[.int .i64 0] 3)).alloc (.cells #[.bool false] 4)) 22 #[.slice A len cap]
    rw [World.size_alloc, World.size_alloc] at this
    rw [← hws]; exact this
  have hB0 : Below w.heap.size w ws := by
    rw [← hws]; exact (((Below.refl _ w).alloc (Nat.le_refl _) _).alloc (by simp) _).alloc (by simp; omega) _
  have hsz : ws.heap.size = w.heap.size + 3 := by rw [← hws]; simp
  have hE0 : EInv (w.heap.size + 2) A len cap p ws := ⟨bP.cell 0, hA.below hB0⟩
  have hI0 : LInv w (.int .i64 0) (.bool false) ws := ⟨b1, b2, hB0, by omega⟩
  rw [hws]
  clear hws
  obtain ⟨b, off, rfl, hbl⟩ := hA.ex hok.ne
  have c0 := hA.cellAt rfl (k := 0) hok.ne
  rw [Nat.add_zero, show (p.getD 0 0).toNat = cnt p from rfl] at c0
  have hc256 := cnt_lt p
  have HC0 := Lib.hid c0
  have HOK := Lib.hid hok
  have HA := Lib.hid (And.intro hlen (And.intro hcap hcm))
  have HN := Lib.hid hn
  have hcn : cnt p = n := by rw [← recs_length hok, hn]
  have hst := each1_stops 4 (by omega) _ _ len cap n p hlen hcap hcm hn ws hE0
  have hl0 : 0 < len := by have := hok.ne; omega
  have HCN := Lib.hid hcn
  clear hcap hcm hn c0 hlen hcn
  refine wpIn_rangeFunc_ownG hro (by omega) (gf := 39) (lb := #[.pointer (some ⟨w.heap.size + 2, 0, none⟩)]) rfl trivial (enters_of Try.func39 (by kernel_rfl) rfl)
    hst einv_t (fun W l o o' _ h hc _ => einv_b W l o o' h hc) (Below.refl _ _) (fun _ => rfl)
    (fun (pre : List (Slot n)) W => LowI p w pre W)
    (fun c (pre : List (Slot n)) W => LowX p w c pre W)
    (fun s W W' row hs hg hr => ⟨hs.1, hs.2.grown hg (fun r e => ⟨by have := (hr r e).1; omega, (hr r e).2⟩)⟩)
    (fun c s W W' row hs hg hr => by
      obtain ⟨e, init, x, h1, h2, h3, h4⟩ := hs
      exact ⟨e, init, x, h1, h2, h3, h4.grown hg (fun r e => ⟨by have := (hr r e).1; omega, (hr r e).2⟩)⟩)
    ⟨fun r hr => by simp at hr, hI0⟩
    (fun x => { tmps := #[.slice (some ⟨b, off, none⟩) len cap, undef, .pointer (some ⟨w.heap.size, 0, none⟩), .pointer (some ⟨w.heap.size + 1, 0, none⟩), .int .i64 (x.1 : Int), yv (some ⟨b, off, none⟩) cap p x.1, .slice (some ⟨b, off, none⟩) len cap, .func (.func 39) #[] #[.pointer (some ⟨w.heap.size + 2, 0, none⟩)], .int .i64 (x.1 : Int), yv (some ⟨b, off, none⟩) cap p x.1, undef, undef, undef, undef, undef, undef, undef, undef], defers := [] }) ?assign ?body ?done ?stop
  case assign =>
    intro l x W K hK
    dsimp only [epair]
    gi_wp2
    exact hK
  case body =>
    rintro l pre x W ⟨hne, hI⟩ hlp
    have hxc : x.1 < cnt p := by rw [HCN.out]; exact x.2
    have hrl : (recAt p x).length = lonK p x.1 := HOK.out.rec_len hxc
    have hyv : ∃ Ay C, yv (some ⟨b, off, none⟩) cap p x.1 = .slice Ay (lonK p x.1) C := ⟨_, _, rfl⟩
    obtain ⟨Ay, C, hyv⟩ := hyv
    obtain ⟨L, hL⟩ : ∃ L, lonK p x.1 = L := ⟨_, rfl⟩
    rw [hL] at hyv hrl
    rw [hyv]
    by_cases h0 : L = 0
    · have hd : ((L : Int) == 0) = true := by simp; omega
      have f1 := hI.b1.frozen 0
      have k1 := hI.b1.cell 0
      have k2 : (W.setCell ⟨w.heap.size, 0, none⟩ (.int .i64 (x.1 : Int))).cell? ⟨w.heap.size + 1, 0, none⟩ = some (.bool false) := by
        rw [World.cell?_setCell_other W _ _ _ (fun e => by injection e with e _ _; omega)]; exact hI.b2.cell 0
      have f2 : (W.setCell ⟨w.heap.size, 0, none⟩ (.int .i64 (x.1 : Int))).frozen? ⟨w.heap.size + 1, 0, none⟩ = false := by
        rw [World.frozen?_setCell]; exact hI.b2.frozen 0
      have hs2 := hI.set_ (.int .i64 (x.1 : Int)) (.bool false)
      have HFIN : Hid (KeepsFrom ws.heap.size W ((W.setCell ⟨w.heap.size, 0, none⟩ (.int .i64 (x.1 : Int))).setCell ⟨w.heap.size + 1, 0, none⟩ (.bool false)) ∧ LowX p w .ret (pre ++ [x]) ((W.setCell ⟨w.heap.size, 0, none⟩ (.int .i64 (x.1 : Int))).setCell ⟨w.heap.size + 1, 0, none⟩ (.bool false))) :=
        Lib.hid ⟨((KeepsOthers.setCell _ _ _).trans (KeepsOthers.setCell _ _ _)).from _, rfl, pre, x, rfl, hne, by rw [hrl]; exact h0, hs2⟩
      clear hyv hne hs2 hrl hL h0 hI
      gi_wp2
      exact HFIN.out
    · have hd : ((L : Int) == 0) = false := by simp; omega
      have HFIN : Hid (KeepsFrom ws.heap.size W W ∧ (EInv (w.heap.size + 2) (some ⟨b, off, none⟩) len cap p W → EInv (w.heap.size + 2) (some ⟨b, off, none⟩) len cap p W) ∧ LowI p w (pre ++ [x]) W) :=
        Lib.hid ⟨KeepsFrom.refl _ _, id, fun r hr => by
          rw [List.map_append] at hr
          rcases List.mem_append.1 hr with hr | hr
          · exact hne r hr
          · simp at hr; rw [hr, hrl]; exact h0, hI⟩
      clear hyv hne hrl hL h0 hI
      gi_wp2
      exact HFIN.out
  case done =>
    rintro D ys W hD hS ⟨hne, hI⟩ hK
    rw [come_recs HN.out hS] at hne
    have hlo := lowK_none hne
    rw [HN.out] at hlo
    have hc0' := (hI.bel.cell (p := ⟨b, off, none⟩) hbl).trans HC0.out
    rw [HCN.out] at hc0'
    have HLO := Lib.hid hlo
    have f1 := hI.b1.frozen 0
    have k1 := hI.b1.cell 0
    have k2 : (W.setCell ⟨w.heap.size, 0, none⟩ (.int .i64 (n : Int))).cell? ⟨w.heap.size + 1, 0, none⟩ = some (.bool false) := by
      rw [World.cell?_setCell_other W _ _ _ (fun e => by injection e with e _ _; omega)]; exact hI.b2.cell 0
    have f2 : (W.setCell ⟨w.heap.size, 0, none⟩ (.int .i64 (n : Int))).frozen? ⟨w.heap.size + 1, 0, none⟩ = false := by
      rw [World.frozen?_setCell]; exact hI.b2.frozen 0
    have hn256 : n < 256 := by rw [← HCN.out]; exact hc256
    have HS2 := Lib.hid (hI.set_ (.int .i64 (n : Int)) (.bool true))
    have HNE := Lib.hid hne
    clear hne hI hlo hc256 HNE
    gi_wp2
    have hK2 := far2 (a := w.heap.size) (b := w.heap.size + 1) (.int .i64 (n : Int)) (.bool true) hK (by omega) (by omega)
    refine ⟨by simp, .inl ⟨_, _, rfl, run_takeDeferred hK2, ?_⟩⟩
    obtain ⟨g1, g2, g3⟩ := HS2.out.fin (by omega) hK2
    exact ⟨.tuple #[.int .i64 (n : Int), .bool true], by simp [results, Try.results34, go_sem, g1, g2], by rw [HLO.out, HCN.out, decide_eq_true (rfl : n = n)], g3⟩
  case stop =>
    rintro D c pre W hD hS ⟨rfl, init, x, rfl, h2, h3, h4⟩ hK
    obtain ⟨hc1, hx⟩ := come_last hS
    rw [come_init HN.out hc1] at h2
    have hlo : lowK (recs p) = x.1 := by
      rw [← hx] at h2
      exact lowK_some h2 (HOK.out.rec_get (by rw [HCN.out]; exact x.2)) h3
    have hne : x.1 ≠ n := by have := x.2; omega
    have HLO := Lib.hid hlo
    have HNE := Lib.hid hne
    have HL4 := Lib.hid h4
    clear h2 h3 h4 hlo hne hx hc1
    gi_wp2
    refine ⟨by simp, .inl ⟨_, _, rfl, run_takeDeferred hK, ?_⟩⟩
    obtain ⟨g1, g2, g3⟩ := HL4.out.fin (by omega) hK
    exact ⟨.tuple #[.int .i64 (x.1 : Int), .bool false], by simp [results, Try.results34, go_sem, g1, g2], by rw [HLO.out, HCN.out, decide_eq_false HNE.out], g3⟩
end Go.Proofs.Ytipjokbkgcepbaa
