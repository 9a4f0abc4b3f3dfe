/- The iterator of a map's pages. -/
import Derived.Test.YtcmaehilgeonjaaD
import Derived.RangeFuncNested
import Derived.RangeFuncBound
import Derived.RangeFuncCalls
import Derived.RangeFuncLeaves
import Derived.RangeFuncBox
import Derived.Shelf.Abstract
import Derived.Shelf.RegionOpen
import Derived.WalkKit
import Derived.OwnWalkIn
import Derived.TacticsInMore
import Derived.LoopNIn
import Derived.LoopIn
namespace Go.Proofs.Ytcmaehilgeonjaa
open Go.RowKit Go.Shelf Pgs
attribute [local go_sem] Oper.semAt_some

/-- What the iterator reads: its box, and the map's cells. -/
structure EInv (Bp g : Nat) (L : List Nat) (W : World) : Prop where
  box : W.cell? ⟨Bp, 0, none⟩ = some (.pointer (some ⟨g, 0, none⟩))
  by_ : ∀ (i x : Nat), L[i]? = some x → W.cell? ⟨g, i, none⟩ = some (.int .u16 (x : Int))
theorem EInv.kept {Bp g : Nat} {L : List Nat} {W W' : World} (h : EInv Bp g L W) (hk : ∀ (p : Addr) v, W.cell? p = some v → W'.cell? p = W.cell? p) : EInv Bp g L W' :=
  ⟨(hk _ _ h.box).trans h.box, fun i x hx => (hk _ _ (h.by_ i x hx)).trans (h.by_ i x hx)⟩
theorem EInv.far {Bp g X : Nat} {L : List Nat} {W W' : World} (h : EInv Bp g L W) (h1 : Bp ≠ X) (h2 : g ≠ X) (hk : ∀ q : Addr, q.block ≠ X → W'.cell? q = W.cell? q) : EInv Bp g L W' :=
  ⟨(hk ⟨Bp, 0, none⟩ h1).trans h.box, fun i x hx => (hk ⟨g, i, none⟩ h2).trans (h.by_ i x hx)⟩

abbrev Slot (n : Nat) := { k : Nat // k < n }
/-- So have the first k come. -/
def Come {n : Nat} (k : Nat) (pre : List (Slot n)) : Prop := pre.map (·.1) = List.range k
theorem Come.nil {n : Nat} : Come 0 ([] : List (Slot n)) := rfl
theorem Come.snoc {n k : Nat} {pre : List (Slot n)} (h : Come k pre) (hk : k < n) : Come (k + 1) (pre ++ [⟨k, hk⟩]) := by
  unfold Come at h ⊢
  rw [List.map_append, h, List.range_succ]; rfl
theorem Come.length {n k : Nat} {pre : List (Slot n)} (h : Come k pre) : pre.length = k := by
  have := congrArg List.length h
  simpa using this
/-- The k-th page that has a sector. -/
def pgK (L : List Nat) (k : Nat) : Nat := (pagesL L).getD k 0
def epair (L : List Nat) {n : Nat} (x : Slot n) : Array Value := #[.int .i64 (pgK L x.1 : Int), .int .i64 (L.getD (pgK L x.1) 0 : Int)]

theorem pagesTo_pre (L : List Nat) (j : Nat) : ∀ d, ∃ r, pagesTo L (j + d) = pagesTo L j ++ r := by
  intro d
  induction d with
  | zero => exact ⟨[], by simp⟩
  | succ d ih =>
    obtain ⟨r, hr⟩ := ih
    rw [← Nat.add_assoc, pagesTo_succ, hr]
    split
    · exact ⟨r, rfl⟩
    · exact ⟨r ++ [j + d], by rw [List.append_assoc]⟩
theorem pgK_at (L : List Nat) (k : Nat) (hk : k < 1024) (hx : L.getD k 0 ≠ 0) : (pagesTo L k).length < (pagesL L).length ∧ pgK L (pagesTo L k).length = k ∧ (pagesTo L (k + 1)).length = (pagesTo L k).length + 1 := by
  obtain ⟨r, hr⟩ := pagesTo_pre L (k + 1) (1024 - (k + 1))
  rw [show k + 1 + (1024 - (k + 1)) = 1024 by omega, pagesTo_succ L k, if_neg hx] at hr
  have e : pagesL L = pagesTo L k ++ [k] ++ r := hr
  refine ⟨by rw [e]; simp, ?_, by rw [pagesTo_succ, if_neg hx, List.length_append]; rfl⟩
  unfold pgK
  rw [e, List.append_assoc, List.getD_eq_getElem?_getD, List.getElem?_append_right (Nat.le_refl _), Nat.sub_self]
  rfl

set_option maxRecDepth 100000 in
set_option maxHeartbeats 2000000 in
theorem each1_in (m : Nat) (hm : 2 ≤ m) (l Bp g n : Nat) (L : List Nat) (hok : Ok L) (hn : (pagesL L).length = n) (J Jx : List (Slot n) → World → Prop)
    (hY : ∀ pre x W, J pre W → pre.length < n → YieldAt Fence.wide (m - 1) Try.prog l (epair L x) W fun e W' =>
      (e = .returned (.bool true) ∧ J (pre ++ [x]) W' ∧ (EInv Bp g L W → EInv Bp g L W')) ∨ (e = .returned (.bool false) ∧ Jx (pre ++ [x]) W'))
    (W : World) (hI : EInv Bp g L W) (h0 : J [] W) :
    CallsIn Fence.wide m Try.prog 40 #[.func (.yield l) #[] #[], .pointer (some ⟨Bp, 0, none⟩)] W fun e W' => (∃ v, e = .returned v) ∧
      ((∃ ys, Come n ys ∧ J ys W') ∨ (∃ pre, Come pre.length pre ∧ Jx pre W')) := by
  have hbx := hI.box
  have HOK := Lib.hid hok
  have HN := Lib.hid hn
  have HI := Lib.hid hI
  have HST : Hid (Come (pagesTo L 0).length ([] : List (Slot n)) ∧ J [] W) := Lib.hid ⟨Come.nil, h0⟩
  clear hn hok hI h0
  refine callsIn_of_wp Try.func40 rfl trivial ?_ rfl
  simp only [Try.ntmps40, List.size_toArray, List.length_cons, List.length_nil, Nat.reduceAdd, Nat.reduceSub, Array.replicate_succ, Array.replicate_zero, List.push_toArray, List.append_toArray, List.nil_append, List.cons_append]
  gi_wp2_with fail
  gi_loopw [3, 4, 7] (fun pg sc i wr => ∃ (k : Nat) (pre : List (Slot n)), k ≤ 1024 ∧ i = .int .i64 (k : Int) ∧ Hid (Come (pagesTo L k).length pre ∧ J pre wr) ∧ Hid (EInv Bp g L wr))
    (fun _ _ i _ => 1024 - (intOf i).toNat)
  case atStart => exact ⟨0, [], Nat.zero_le _, rfl, HST, HI⟩
  case round =>
    obtain ⟨k, pre, hk, rfl, hC, hF⟩ := hrel
    clear HST HI hbx
    have hbx := hF.out.box
    by_cases hlt : k < 1024
    · have hd : decide ((k : Int) < 1024) = true := by simp; omega
      have hk6 : (k : Int) < 1116 := by omega
      obtain ⟨x, hx⟩ : ∃ x, L[k]? = some x := ⟨_, List.getElem?_eq_getElem (by rw [HOK.out.len]; omega)⟩
      have hc := hF.out.by_ k x hx
      have hgd : L.getD k 0 = x := by rw [List.getD_eq_getElem?_getD, hx]; rfl
      have hx6 := HOK.out.lt k x hx
      have hwx : IntKind.i64.wrap (x : Int) = x := IntWalk.i64_in _ (by omega)
      by_cases hx0 : x = 0
      · subst hx0
        have hC2 : Hid (Come (pagesTo L (k + 1)).length pre ∧ J pre wr) := Lib.hid (by rw [pagesTo_succ, if_pos hgd]; exact hC.out)
        clear hx hgd hC
        gi_wp2_with fail
        refine ⟨(fun f h => by cases h), ?_⟩
        gi_wp2_with fail
        go_roundw
        case rel => exact ⟨k + 1, pre, by omega, by go_num, hC2, hF⟩
        case measure => simp [intOf]; omega
      · have hne : ((x : Int) != 0) = true := by simp; omega
        obtain ⟨h1, h2, h3⟩ := pgK_at L k hlt (by rw [hgd]; exact hx0)
        rw [HN.out] at h1
        obtain ⟨fn, tmps, assign, body, hy, hR⟩ := hY pre ⟨(pagesTo L k).length, h1⟩ wr hC.out.2 (by rw [hC.out.1.length]; exact h1)
        dsimp only [epair] at hy
        rw [h2, hgd] at hy
        have HR := Lib.hid hR
        have H1 := Lib.hid h1
        have H3 := Lib.hid h3
        clear hR h2 h3 hx hgd hx0
        gi_wp2_with fail
        refine ⟨fun _ => by omega, HR.out.mono ?_⟩
        rintro e W3 (⟨rfl, hJ3, hk3⟩ | ⟨rfl, hJx3⟩)
        · have hC3 : Hid (Come (pagesTo L (k + 1)).length (pre ++ [⟨(pagesTo L k).length, h1⟩]) ∧ J (pre ++ [⟨(pagesTo L k).length, h1⟩]) W3) := Lib.hid ⟨by rw [H3.out]; exact hC.out.1.snoc h1, hJ3⟩
          have hF3 := Lib.hid (hk3 hF.out)
          clear hJ3 hk3
          gi_wp2_with fail
          go_roundw
          case rel => exact ⟨k + 1, _, by omega, by go_num, hC3, hF3⟩
          case measure => simp [intOf]; omega
        · have hC3 : Hid (Come (pre ++ [(⟨(pagesTo L k).length, h1⟩ : Slot n)]).length (pre ++ [⟨(pagesTo L k).length, h1⟩]) ∧ Jx (pre ++ [⟨(pagesTo L k).length, h1⟩]) W3) := Lib.hid ⟨by rw [(hC.out.1.snoc h1).length]; exact hC.out.1.snoc h1, hJx3⟩
          clear hJx3
          gi_wp2_with fail
          refine bodyPost_ret (results_none rfl _ _ _) rfl ?_
          exact And.intro ⟨_, rfl⟩ (Or.inr (Exists.intro (pre ++ [⟨(pagesTo L k).length, h1⟩]) hC3.out))
    · obtain rfl : 1024 = k := by omega
      have hd : decide (((1024 : Nat) : Int) < 1024) = false := by simp
      have hC2 : Hid (Come n pre ∧ J pre wr) := Lib.hid (by have := hC.out; rw [show (pagesTo L 1024).length = n from HN.out] at this; exact this)
      clear hC
      gi_wp2_with fail
      go_end0
      exact ⟨⟨_, rfl⟩, .inl ⟨_, hC2.out.1, hC2.out.2⟩⟩

/-- The closure's contract. -/
theorem each1_stops (m : Nat) (hm : 2 ≤ m) (Bp g n : Nat) (L : List Nat) (hok : Ok L) (hn : (pagesL L).length = n) (w : World) (hI : EInv Bp g L w) :
    SeqStopsK Fence.wide m Try.prog 40 #[.pointer (some ⟨Bp, 0, none⟩)] (epair L (n := n))
      (fun W W' => EInv Bp g L W → EInv Bp g L W') (Come n) (fun pre => Come pre.length pre) n w := fun l J Jx W hW _ _ hY h0 => by
  have hI' : EInv Bp g L W := hI.kept fun p v hp => hW.cell (World.block_lt_of_cell? w _ hp)
  exact each1_in m hm l Bp g n L hok hn J Jx hY W hI' h0
theorem einv_t {Bp g : Nat} {L : List Nat} {X Y Z : World} (h : EInv Bp g L X → EInv Bp g L Y) (k : EInv Bp g L Y → EInv Bp g L Z) : EInv Bp g L X → EInv Bp g L Z := fun x => k (h x)
theorem einv_b {Bp g : Nat} {L : List Nat} (W : World) (l : Nat) (o o' : Obj) (h : W.heap[l]? = some o) (hc : o.isCells = false) : EInv Bp g L W → EInv Bp g L (W.putObj l o') := fun h0 => h0.kept fun p v hp => by
  rw [hp]
  exact cell_kept hp (grownBy_putObj' W l o') (fun r e => by cases e; exact ⟨o, h, hc⟩)
/-- each: a function value over a box of its own. -/
theorem each_any (v : Option Addr) (w : World) : Calls Try.prog 36 #[.pointer v] w fun e W' => e = .returned (.func (.func 40) #[] #[.pointer (some ⟨w.heap.size, 0, none⟩)]) ∧ w.alloc (.cells #[.pointer v] 25) = W' := by
  go_enter Try.func36, Try.ntmps36
  go_wp2
  go_ret
  exact ⟨rfl, rfl⟩
end Go.Proofs.Ytcmaehilgeonjaa
