/- octet.Cut. -/
import Derived.Test.YtcmaehilgeonjaaOC
namespace Go.Proofs.Ytcmaehilgeonjaa
open Go.RowKit Go.Shelf
attribute [local go_sem] Oper.semAt_some

/-- The row when some bytes have been laid. -/
def laid {n : Nat} (m : Nat) (pre : List (BPair n)) : List Value := pre.foldl (fun L x => L.set x.1.1 (bv x.1.2)) (List.replicate m (bv 0))
theorem laid_snoc {n m : Nat} (pre : List (BPair n)) (x : BPair n) : laid m (pre ++ [x]) = (laid m pre).set x.1.1 (bv x.1.2) := by simp [laid]
theorem laid_length {n m : Nat} (pre : List (BPair n)) : (laid m pre).length = m := by
  suffices h : ∀ (l : List (BPair n)) (L : List Value), (l.foldl (fun L x => L.set x.1.1 (bv x.1.2)) L).length = L.length by
    unfold laid; rw [h]; simp
  intro l
  induction l with
  | nil => intro L; rfl
  | cons x l ih => intro L; simp only [List.foldl_cons]; rw [ih]; simp

theorem came_snoc_inv {n : Nat} {G : Nat → UInt8 → Prop} {k : Nat} {ys : List (BPair n)} (h : Came G (k + 1) ys) : ∃ pre x, ys = pre ++ [x] ∧ Came G k pre ∧ x.1.1 = k ∧ G k x.1.2 := by
  have h1 := h.1
  rw [List.range_succ] at h1
  obtain ⟨pre, last, rfl, hp, hl⟩ := List.map_eq_append_iff.1 h1
  obtain ⟨x, r, rfl, hx, hr⟩ := List.map_eq_cons_iff.1 hl
  have hr' : r = [] := List.map_eq_nil_iff.1 hr
  subst hr'
  have hG := h.2 x (by simp)
  exact ⟨pre, x, rfl, ⟨hp, fun y hy => h.2 y (List.mem_append_left _ hy)⟩, hx, by rw [← hx]; exact hG⟩

theorem laid_came {n : Nat} (bs : List UInt8) (m : Nat) : ∀ (k : Nat) (ys : List (BPair n)), k ≤ m → Came (fun k c => bs[k]? = some c) k ys → laid m ys = (bs.take k).map bv ++ List.replicate (m - k) (bv 0) := by
  intro k
  induction k with
  | zero =>
    intro ys _ h
    have : ys = [] := List.eq_nil_of_length_eq_zero h.length
    subst this; simp [laid]
  | succ k ih =>
    intro ys hm h
    obtain ⟨pre, x, rfl, hp, hx, hG⟩ := came_snoc_inv h
    have hkl : k < bs.length := (List.getElem?_eq_some_iff.1 hG).1
    have hxe : bs[k] = x.1.2 := (List.getElem?_eq_some_iff.1 hG).2
    rw [laid_snoc, ih pre (by omega) hp, hx, List.take_succ_eq_append_getElem hkl, hxe]
    have hl : ((bs.take k).map bv).length = k := by simp; omega
    obtain ⟨r, hr⟩ : ∃ r, m - k = r + 1 := ⟨m - k - 1, by omega⟩
    rw [hr, show m - (k + 1) = r by omega, List.set_append, hl, if_neg (Nat.lt_irrefl _), Nat.sub_self]
    simp [List.replicate_succ, List.set_cons_zero]

theorem cut_fin {w ws W : World} {A : Option Addr} {len cap at_ n : Nat} {G : Nat → UInt8 → Prop} {pre : List (BPair n)} {x : BPair n} {tb : TypeId} (hb : 0 < n → ∀ ad : Addr, A = some ad → ad.block < w.heap.size)
    (hR : Blk W w.heap.size tb (laid n pre).toArray) (bX : Boxed W (w.heap.size + 1) 30 (.slice (some ⟨w.heap.size, 0, none⟩) n n)) (hB : Below w.heap.size w W) :
    let W2 := W.setCell ⟨w.heap.size, x.1.1, none⟩ (.int .u8 (x.1.2.toNat : Int))
    KeepsFrom ws.heap.size W W2 ∧ (FInv (w.heap.size + 1 + 1 + 2) (w.heap.size + 1 + 1) (w.heap.size + 1 + 1 + 1) A len cap at_ n G W → FInv (w.heap.size + 1 + 1 + 2) (w.heap.size + 1 + 1) (w.heap.size + 1 + 1 + 1) A len cap at_ n G W2) ∧
    (Blk W2 w.heap.size tb (laid n (pre ++ [x])).toArray ∧ Boxed W2 (w.heap.size + 1) 30 (.slice (some ⟨w.heap.size, 0, none⟩) n n)) ∧ Below w.heap.size w W2 := by
  intro W2
  refine ⟨(KeepsOthers.setCell _ _ _).from _, fun h => h.far (X := w.heap.size) (by omega) (by omega) (by omega) (fun h0 ad e => by have := hb h0 ad e; omega) (fun p hp => ?_), ⟨?_, ?_⟩, ?_⟩
  · exact World.cell?_setCell_other W _ p _ (fun e => hp (by rw [← e]))
  · have := hR.set_ x.1.1 (bv x.1.2)
    rw [laid_snoc]
    rw [List.setIfInBounds_toArray] at this
    exact this
  · exact Blk.far (cs := #[_]) bX (p := ⟨w.heap.size, x.1.1, none⟩) (by simp) _
  · exact hB.setCell (p := ⟨w.heap.size, x.1.1, none⟩) (Nat.le_refl _) _

end Go.Proofs.Ytcmaehilgeonjaa
