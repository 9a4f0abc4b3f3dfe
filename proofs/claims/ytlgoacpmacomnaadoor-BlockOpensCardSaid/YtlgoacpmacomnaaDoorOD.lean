/- octet.Cut. -/
import Derived.Test.YtlgoacpmacomnaaDoorOC
namespace Go.Proofs.YtlgoacpmacomnaaDoor
open Go.RowKit Go.Shelf
attribute [local go_sem] Oper.semAt_some

/-- The row when some bytes have been laid. -/
def laid {n : Nat} (m : Nat) (pre : List (BPair n)) : List Value := pre.foldl (fun L x => L.set x.1.1 (bv x.1.2)) (List.replicate m (bv 0))
theorem laid_snoc {n m : Nat} (pre : List (BPair n)) (x : BPair n) : laid m (pre ++ [x]) = (laid m pre).set x.1.1 (bv x.1.2) := by simp [laid]
theorem laid_length {n m : Nat} (pre : List (BPair n)) : (laid m pre).length = m := by
  suffices h : ∀ (l : List (BPair n)) (L : List Value), (l.foldl (fun L x => L.set x.1.1 (bv x.1.2)) L).length = L.length by
    unfold laid; rw [h]; simp
  intro l
  induction l with
  | nil => intro L; rfl
  | cons x l ih => intro L; simp only [List.foldl_cons]; rw [ih]; simp

theorem came_snoc_inv {n : Nat} {G : Nat → UInt8 → Prop} {k : Nat} {ys : List (BPair n)} (h : Came G (k + 1) ys) : ∃ pre x, ys = pre ++ [x] ∧ Came G k pre ∧ x.1.1 = k ∧ G k x.1.2 := by
  have h1 := h.1
  rw [List.range_succ] at h1
  obtain ⟨pre, last, rfl, hp, hl⟩ := List.map_eq_append_iff.1 h1
  obtain ⟨x, r, rfl, hx, hr⟩ := List.map_eq_cons_iff.1 hl
  have hr' : r = [] := List.map_eq_nil_iff.1 hr
  subst hr'
  have hG := h.2 x (by simp)
  exact ⟨pre, x, rfl, ⟨hp, fun y hy => h.2 y (List.mem_append_left _ hy)⟩, hx, by rw [← hx]; exact hG⟩

theorem laid_came {n : Nat} (bs : List UInt8) (m : Nat) : ∀ (k : Nat) (ys : List (BPair n)), k ≤ m → Came (fun k c => bs[k]? = some c) k ys → laid m ys = (bs.take k).map bv ++ List.replicate (m - k) (bv 0) := by
  intro k
  induction k with
  | zero =>
    intro ys _ h
    have : ys = [] := List.eq_nil_of_length_eq_zero h.length
    subst this; simp [laid]
  | succ k ih =>
    intro ys hm h
    obtain ⟨pre, x, rfl, hp, hx, hG⟩ := came_snoc_inv h
    have hkl : k < bs.length := (List.getElem?_eq_some_iff.1 hG).1
    have hxe : bs[k] = x.1.2 := (List.getElem?_eq_some_iff.1 hG).2
    rw [laid_snoc, ih pre (by omega) hp, hx, List.take_succ_eq_append_getElem hkl, hxe]
    have hl : ((bs.take k).map bv).length = k := by simp; omega
    obtain ⟨r, hr⟩ : ∃ r, m - k = r + 1 := ⟨m - k - 1, by omega⟩
    rw [hr, show m - (k + 1) = r by omega, List.set_append, hl, if_neg (Nat.lt_irrefl _), Nat.sub_self]
    simp [List.replicate_succ, List.set_cons_zero]

theorem cut_fin {w ws W : World} {A : Option Addr} {len cap at_ n : Nat} {G : Nat → UInt8 → Prop} {pre : List (BPair n)} {x : BPair n} {tb : TypeId} (hb : 0 < n → ∀ ad : Addr, A = some ad → ad.block < w.heap.size)
    (hR : Blk W w.heap.size tb (laid n pre).toArray) (bX : Boxed W (w.heap.size + 1) 22 (.slice (some ⟨w.heap.size, 0, none⟩) n n)) (hB : Below w.heap.size w W) :
    let W2 := W.setCell ⟨w.heap.size, x.1.1, none⟩ (.int .u8 (x.1.2.toNat : Int))
    KeepsFrom ws.heap.size W W2 ∧ (FInv (w.heap.size + 1 + 1 + 2) (w.heap.size + 1 + 1) (w.heap.size + 1 + 1 + 1) A len cap at_ n G W → FInv (w.heap.size + 1 + 1 + 2) (w.heap.size + 1 + 1) (w.heap.size + 1 + 1 + 1) A len cap at_ n G W2) ∧
    (Blk W2 w.heap.size tb (laid n (pre ++ [x])).toArray ∧ Boxed W2 (w.heap.size + 1) 22 (.slice (some ⟨w.heap.size, 0, none⟩) n n)) ∧ Below w.heap.size w W2 := by
  intro W2
  refine ⟨(KeepsOthers.setCell _ _ _).from _, fun h => h.far (X := w.heap.size) (by omega) (by omega) (by omega) (fun h0 ad e => by have := hb h0 ad e; omega) (fun p hp => ?_), ⟨?_, ?_⟩, ?_⟩
  · exact World.cell?_setCell_other W _ p _ (fun e => hp (by rw [← e]))
  · have := hR.set_ x.1.1 (bv x.1.2)
    rw [laid_snoc]
    rw [List.setIfInBounds_toArray] at this
    exact this
  · exact Blk.far (cs := #[_]) bX (p := ⟨w.heap.size, x.1.1, none⟩) (by simp) _
  · exact hB.setCell (p := ⟨w.heap.size, x.1.1, none⟩) (Nat.le_refl _) _

set_option maxRecDepth 100000 in
set_option maxHeartbeats 1000000 in
theorem cut_in (A : Option Addr) (len cap at_ n : Nat) (bs : List UInt8) (w : World) (hle : at_ + n ≤ len) (hlm : len ≤ 281474976710656) (hbl : bs.length = len) (hA : Bytes w A bs) :
    Calls Tryd.prog 31 #[.slice A len cap, .int .i64 at_, .int .i64 n] w fun e W' => e = .returned (.tuple #[.slice (some ⟨w.heap.size, 0, none⟩) n n, .bool true]) ∧
      Blk W' w.heap.size 5 (((bs.drop at_).take n).map bv).toArray ∧ Below w.heap.size w W' := by
  have hins : insideB len at_ n = true := by simp [insideB]; omega
  have hmk := run_mk8 n (by omega)
  refine (callsIn_wide (n := 5)).1 ?_
  have hro : (Fence.wide).round = none := rfl
  refine callsIn_of_wp_marks Tryd.func31 rfl trivial ?_ hro
  simp only [Tryd.ntmps31, List.size_toArray, List.length_cons, List.length_nil, Nat.reduceAdd, Nat.reduceSub, Array.replicate_succ, Array.replicate_zero, List.push_toArray, List.append_toArray, List.nil_append, List.cons_append]
  gi_wp2_with (first
    | (refine ⟨trivial, ?_⟩; gi_at_call 41; refine (callsIn_wide.2 (within_any _ _ _ _ _ _ (by unfold maxLen; omega) (by omega) (by omega))).mono ?_; rintro e w' ⟨rfl, rfl⟩)
    | (refine ⟨trivial, ?_⟩; gi_at_call 38; refine (callsIn_wide.2 (field_any _ _ _ _ _ _)).mono ?_; rintro e w' ⟨rfl, rfl⟩))
  obtain ⟨ws, hws⟩ : ∃ ws, (((((w.alloc (.cells (mk8 n) 5)).alloc (.cells #[.slice (some ⟨w.heap.size, 0, none⟩) n n] 22)).alloc (.cells #[.slice A len cap] 22)).alloc (.cells #[.int .i64 (at_ : Int)] 3)).alloc (.cells #[.int .i64 (n : Int)] 3)) = ws := ⟨_, rfl⟩
  have bR : Blk ws w.heap.size 5 (laid (n := n) n []).toArray := by
    have := Blk.new w 5 (mk8 n)
    rw [mk8_eq] at this
    rw [← hws, mk8_eq]; exact (((this.alloc _).alloc _).alloc _).alloc _
  have bX : Boxed ws (w.heap.size + 1) 22 (.slice (some ⟨w.heap.size, 0, none⟩) n n) := by
    have := Boxed.new (w.alloc (.cells (mk8 n) 5)) 22 (.slice (some ⟨w.heap.size, 0, none⟩) n n)
    rw [World.size_alloc] at this
    rw [← hws]; exact ((this.alloc _).alloc _).alloc _
  have bB : Boxed ws (w.heap.size + 1 + 1) 22 (.slice A len cap) := by
    have := Boxed.new ((w.alloc (.cells (mk8 n) 5)).alloc (.cells #[.slice (some ⟨w.heap.size, 0, none⟩) n n] 22)) 22 (.slice A len cap)
    rw [World.size_alloc, World.size_alloc] at this
    rw [← hws]; exact (this.alloc _).alloc _
  have bA : Boxed ws (w.heap.size + 1 + 1 + 1) 3 (.int .i64 (at_ : Int)) := by
    have := Boxed.new (((w.alloc (.cells (mk8 n) 5)).alloc (.cells #[.slice (some ⟨w.heap.size, 0, none⟩) n n] 22)).alloc (.cells #[.slice A len cap] 22)) 3 (.int .i64 (at_ : Int))
    rw [World.size_alloc, World.size_alloc, World.size_alloc] at this
    rw [← hws]; exact this.alloc _
  have bN : Boxed ws (w.heap.size + 1 + 1 + 2) 3 (.int .i64 (n : Int)) := by
    have := Boxed.new ((((w.alloc (.cells (mk8 n) 5)).alloc (.cells #[.slice (some ⟨w.heap.size, 0, none⟩) n n] 22)).alloc (.cells #[.slice A len cap] 22)).alloc (.cells #[.int .i64 (at_ : Int)] 3)) 3 (.int .i64 (n : Int))
    rw [World.size_alloc, World.size_alloc, World.size_alloc, World.size_alloc] at this
    rw [← hws]; exact this
  have hB0 : Below w.heap.size w ws := by
    rw [← hws]; exact (((((Below.refl _ w).alloc (Nat.le_refl _) _).alloc (by simp) _).alloc (by simp; omega) _).alloc (by simp; omega) _).alloc (by simp; omega) _
  have hsz : w.heap.size + 5 ≤ ws.heap.size := by rw [← hws]; simp
  rw [hws]
  clear hws hmk
  have hbs : ∀ k, k < n → ∃ c, ((bs.drop at_).take n)[k]? = some c ∧ bs[at_ + k]? = some c := fun k hk => by
    have h1 : at_ + k < bs.length := by omega
    exact ⟨bs[at_ + k], by rw [List.getElem?_take_of_lt hk, List.getElem?_drop]; exact List.getElem?_eq_getElem h1, List.getElem?_eq_getElem h1⟩
  have hF0 : FInv (w.heap.size + 1 + 1 + 2) (w.heap.size + 1 + 1) (w.heap.size + 1 + 1 + 1) A len cap at_ n (fun k c => ((bs.drop at_).take n)[k]? = some c) ws :=
    ⟨bN.cell, bB.cell, bA.cell, fun k hk => by
      obtain ⟨c, h1, h2⟩ := hbs k hk
      obtain ⟨b, off, e, hb, hc⟩ := hA _ _ h2
      exact ⟨b, off, c, e, h1, (hB0.cell (p := ⟨b, off + (at_ + k), none⟩) hb).trans hc⟩⟩
  have hAb : 0 < n → ∀ ad : Addr, A = some ad → ad.block < w.heap.size := fun h0 ad e => by
    obtain ⟨c, h1, h2⟩ := hbs 0 h0
    obtain ⟨b, off, e', hb, hc⟩ := hA _ _ h2
    rw [e] at e'; cases e'; exact hb
  have HL := Lib.hid (laid_came (n := n) ((bs.drop at_).take n) n n)
  have HA := Lib.hid hAb
  clear hbs hAb
  refine wpIn_rangeFunc_ownG hro (by omega) (gf := 42) (lb := #[.pointer (some ⟨w.heap.size + 1 + 1 + 2, 0, none⟩), .pointer (some ⟨w.heap.size + 1 + 1, 0, none⟩), .pointer (some ⟨w.heap.size + 1 + 1 + 1, 0, none⟩)]) rfl trivial (enters_of Tryd.func42 (by kernel_rfl) rfl)
    (field1_stops Fence.wide 4 trivial hro (by omega) _ _ _ _ len cap at_ n _ hle (by omega) ws hF0) finv_t (fun W l o o' _ h hc _ => finv_b W l o o' h hc) (Below.refl _ _) (fun _ => rfl)
    (fun pre W => (Blk W w.heap.size 5 (laid n pre).toArray ∧ Boxed W (w.heap.size + 1) 22 (.slice (some ⟨w.heap.size, 0, none⟩) n n)) ∧ Below w.heap.size w W)
    (fun _ _ _ => False)
    (OwnFrom.and (Own.from (fun s A B row hs hg hr => ⟨hs.1.kept hg hr, Blk.kept (cs := #[_]) hs.2 hg hr⟩) _) (ownFrom_below (Nat.le_refl _) (by omega)))
    (fun _ _ _ _ _ hs _ _ => hs)
    ⟨⟨bR, bX⟩, hB0⟩
    (fun x => { tmps := #[.slice A len cap, .int .i64 at_, .int .i64 n, undef, undef, undef, .slice none 0 0, .bool false, .pointer (some ⟨w.heap.size + 1, 0, none⟩), .int .i64 (x.1.1 : Int), .int .u8 (x.1.2.toNat : Int), .slice A len cap, .int .i64 at_, .int .i64 n, .bool true, .bool false, .int .i64 n, .slice (some ⟨w.heap.size, 0, none⟩) n n, .slice A len cap, .int .i64 at_, .int .i64 n, .func (.func 42) #[] #[.pointer (some ⟨w.heap.size + 1 + 1 + 2, 0, none⟩), .pointer (some ⟨w.heap.size + 1 + 1, 0, none⟩), .pointer (some ⟨w.heap.size + 1 + 1 + 1, 0, none⟩)], .int .i64 (x.1.1 : Int), .int .u8 (x.1.2.toNat : Int), undef, undef, undef, undef, undef], defers := [] }) ?assign ?body ?done ?stop
  case assign =>
    intro l x W K hK
    dsimp only [bpair]
    gi_wp2
    exact hK
  case body =>
    rintro l pre ⟨⟨i, c⟩, hi⟩ W ⟨⟨hR, hX⟩, hB⟩ _
    dsimp only at hi
    have hxc := hX.cell
    have hl := laid_length (m := n) pre
    obtain ⟨u, hu⟩ : ∃ u, (laid n pre)[i]? = some u := ⟨_, List.getElem?_eq_getElem (by omega)⟩
    have hcell : W.cell? ⟨w.heap.size, i, none⟩ = some u := by rw [hR.cell]; simpa using hu
    have hfz := hR.frozen i
    have FIN := Lib.hid (cut_fin (ws := ws) (A := A) (len := len) (cap := cap) (at_ := at_) (n := n) (G := fun k c => ((bs.drop at_).take n)[k]? = some c) (pre := pre) (x := ⟨(i, c), hi⟩) HA.out hR hX hB)
    clear hl hu hR
    gi_wp2
    exact FIN.out
  case done =>
    rintro D ys W hD hS ⟨⟨hR, hX⟩, hB⟩ hK
    have hxc := hX.cell
    have hlt : ((bs.drop at_).take n).length = n := by simp; omega
    have hfin : Blk W w.heap.size 5 (((bs.drop at_).take n).map bv).toArray := by
      have e := HL.out ys (Nat.le_refl _) hS
      rw [e, Nat.sub_self, List.replicate_zero, List.append_nil, List.take_of_length_le (by omega)] at hR
      exact hR
    clear hlt
    gi_wp2
    refine ⟨by simp, .inl ⟨_, _, rfl, run_takeDeferred hK, ?_⟩⟩
    exact ⟨_, results_tmp2 rfl _ _ _, rfl, hfin.putObj _ hK rfl, hB.trans (belowK_b (w := w) (Nat.le_refl _) W D _ _ (by omega) hK rfl rfl)⟩
  case stop =>
    rintro D c pre W _ _ h _
    exact h.elim

end Go.Proofs.YtlgoacpmacomnaaDoor
