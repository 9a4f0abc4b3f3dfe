/- The iterator of slots: what each's closure tells of a page. -/
import Derived.Test.YtipjokbkgcepbaaA
import Derived.RangeFuncNested
import Derived.RangeFuncBound
import Derived.RangeFuncCalls
import Derived.RangeFuncLeaves
import Derived.RangeFuncBox
import Derived.Shelf.Abstract
import Derived.Shelf.RegionOpen
import Derived.WalkKit
import Derived.OwnWalkIn
import Derived.TacticsInMore
import Derived.LoopNIn
import Derived.LoopIn
namespace Go.Proofs.Ytipjokbkgcepbaa
open Go.RowKit Go.Shelf Slt
attribute [local go_sem] Oper.semAt_some

/-- What the iterator reads: its box, and the page's bytes. -/
structure EInv (Bp : Nat) (A : Option Addr) (len cap : Nat) (p : List UInt8) (W : World) : Prop where
  box : W.cell? ⟨Bp, 0, none⟩ = some (.slice A len cap)
  by_ : Bytes W A p
theorem EInv.kept {Bp : Nat} {A : Option Addr} {len cap : Nat} {p : List UInt8} {W W' : World} (h : EInv Bp A len cap p W) (hk : ∀ (p : Addr) v, W.cell? p = some v → W'.cell? p = W.cell? p) : EInv Bp A len cap p W' :=
  ⟨(hk _ _ h.box).trans h.box, fun k c hc => by
    obtain ⟨b, off, e, _, g⟩ := h.by_ k c hc
    have g' := (hk _ _ g).trans g
    exact ⟨b, off, e, World.block_lt_of_cell? W' _ g', g'⟩⟩
theorem EInv.far {Bp X : Nat} {A : Option Addr} {len cap : Nat} {p : List UInt8} {W W' : World} (h : EInv Bp A len cap p W) (h1 : Bp ≠ X) (h2 : ∀ ad : Addr, A = some ad → ad.block ≠ X)
    (hk : ∀ q : Addr, q.block ≠ X → W'.cell? q = W.cell? q) : EInv Bp A len cap p W' :=
  ⟨(hk ⟨Bp, 0, none⟩ h1).trans h.box, fun k c hc => by
    obtain ⟨b, off, e, _, g⟩ := h.by_ k c hc
    have g' := (hk ⟨b, off + k, none⟩ (show b ≠ X from h2 ⟨b, off, none⟩ e)).trans g
    exact ⟨b, off, e, World.block_lt_of_cell? W' _ g', g'⟩⟩

/-- The k-th record's value. -/
def yo (off at_ cap : Nat) : Nat := if at_ = cap then off else off + at_
def yv (A : Option Addr) (cap : Nat) (p : List UInt8) (k : Nat) : Value :=
  .slice (A.map fun ad => ⟨ad.block, yo ad.off (atK p k) cap, none⟩) (lonK p k) (cap - atK p k)
abbrev Slot (n : Nat) := { k : Nat // k < n }
def epair (A : Option Addr) (cap : Nat) (p : List UInt8) {n : Nat} (x : Slot n) : Array Value := #[.int .i64 (x.1 : Int), yv A cap p x.1]
/-- So have the first k come. -/
def Come {n : Nat} (k : Nat) (pre : List (Slot n)) : Prop := pre.map (·.1) = List.range k
theorem Come.nil {n : Nat} : Come 0 ([] : List (Slot n)) := rfl
theorem Come.snoc {n k : Nat} {pre : List (Slot n)} (h : Come k pre) (hk : k < n) : Come (k + 1) (pre ++ [⟨k, hk⟩]) := by
  unfold Come at h ⊢
  rw [List.map_append, h, List.range_succ]; rfl
theorem Come.length {n k : Nat} {pre : List (Slot n)} (h : Come k pre) : pre.length = k := by
  have := congrArg List.length h
  simpa using this

/-- The k-th record, read. -/
theorem yv_sec {W : World} {A : Option Addr} {len cap : Nat} {p : List UInt8} (hok : Ok p) (hlen : p.length = len) (hcap : len ≤ cap) (hcm : cap ≤ maxLen) (hB : Bytes W A p) {k : Nat} (hk : k < cnt p) :
    Sec W (fun j => ∃ ad : Addr, A = some ad ∧ ad.block = j) (yv A cap p k) ((p.drop (atK p k)).take (lonK p k)) := by
  have hl := hok.rec_len hk
  have hle := hok.at_le hk
  refine ⟨_, _, by unfold yv; rw [hl], by rw [hl]; omega, by omega, fun j c hj => ?_, fun q hq => ?_⟩
  · have hjl : j < lonK p k := by rw [← hl]; exact (List.getElem?_eq_some_iff.1 hj).1
    rw [rec_byte p k j hjl] at hj
    obtain ⟨b, off, rfl, hb, hc⟩ := hB _ c hj
    refine ⟨b, off + atK p k, ?_, hb, by rw [Nat.add_assoc]; exact hc⟩
    simp only [Option.map_some, yo]
    rw [if_neg (by omega)]
  · cases A with
    | none => simp at hq
    | some ad => simp at hq; exact ⟨ad, rfl, by rw [← hq]⟩

set_option maxRecDepth 100000 in
set_option maxHeartbeats 2000000 in
theorem each1_in (m : Nat) (hm : 2 ≤ m) (l Bp : Nat) (A : Option Addr) (len cap n : Nat) (p : List UInt8) (hlen : p.length = len) (hcap : len ≤ cap) (hcm : cap ≤ maxLen) (hn : (recs p).length = n) (J Jx : List (Slot n) → World → Prop)
    (hY : ∀ pre x W, J pre W → pre.length < n → YieldAt Fence.wide (m - 1) Try.prog l (epair A cap p x) W fun e W' =>
      (e = .returned (.bool true) ∧ J (pre ++ [x]) W' ∧ (EInv Bp A len cap p W → EInv Bp A len cap p W')) ∨ (e = .returned (.bool false) ∧ Jx (pre ++ [x]) W'))
    (W : World) (hI : EInv Bp A len cap p W) (h0 : J [] W) :
    CallsIn Fence.wide m Try.prog 39 #[.func (.yield l) #[] #[], .pointer (some ⟨Bp, 0, none⟩)] W fun e W' => (∃ v, e = .returned v) ∧
      ((∃ ys, Come n ys ∧ J ys W') ∨ (∃ pre, Come pre.length pre ∧ Jx pre W')) := by
  have hR := right_any A len cap p W hlen hI.by_ hcap hcm
  unfold maxLen at hcm
  have hbx := hI.box
  by_cases hok : Ok p
  · rw [show okB p = true from decide_eq_true hok] at hR
    have HR := Lib.hid hR
    obtain ⟨b, off, rfl, _⟩ := hI.by_.ex hok.ne
    have c0 := hI.by_.cellAt rfl (k := 0) hok.ne
    have hcn : cnt p = n := by rw [← hn, recs_length hok]
    rw [Nat.add_zero, show (p.getD 0 0).toNat = n from hcn] at c0
    have hroom := hok.room
    have hn256 : n < 256 := by rw [← hcn]; exact cnt_lt p
    have hhead := hok.head
    have hp0 : 0 < len := by have := hok.ne; omega
    have f1 : IntKind.i64.wrap (1 + (n : Int)) = 1 + n := IntWalk.i64_in _ (by omega)
    have HOK := Lib.hid hok
    have HN := Lib.hid hcn
    have HL := Lib.hid hlen
    have HI := Lib.hid hI
    have HST : Hid (Come 0 ([] : List (Slot n)) ∧ J [] W ∧ atK p 0 = 1 + n) := Lib.hid ⟨Come.nil, h0, by rw [atK_zero, hcn]⟩
    clear hR hn hok hlen hI h0 hcn
    refine callsIn_of_wp Try.func39 rfl trivial ?_ rfl
    simp only [Try.ntmps39, List.size_toArray, List.length_cons, List.length_nil, Nat.reduceAdd, Nat.reduceSub, Array.replicate_succ, Array.replicate_zero, List.push_toArray, List.append_toArray, List.nil_append, List.cons_append]
    gi_wp2_with fail
    refine ⟨trivial, fun _ => by omega, ?_⟩
    refine (callsIn_wide.2 HR.out).mono ?_
    rintro e w' ⟨rfl, rfl⟩
    gi_wp2_with fail
    gi_loopw [4, 5, 6, 17] (fun at_ sl lo i wr => ∃ (k : Nat) (pre : List (Slot n)), k ≤ n ∧ i = .int .i64 (k : Int) ∧ at_ = .int .i64 (atK p k : Int) ∧ Hid (Come k pre ∧ J pre wr) ∧ Hid (EInv Bp (some ⟨b, off, none⟩) len cap p wr))
      (fun _ _ _ i _ => n - (intOf i).toNat)
    case atStart => exact ⟨0, [], Nat.zero_le _, rfl, by rw [HST.out.2.2]; go_num, Lib.hid ⟨HST.out.1, HST.out.2.1⟩, HI⟩
    case round =>
      obtain ⟨k, pre, hk, rfl, rfl, hC, hF⟩ := hrel
      clear HST HI hbx c0
      have hbx := hF.out.box
      by_cases hlt : k < n
      · have hd : decide ((k : Int) < (n : Int)) = true := by simpa using hlt
        have hok := HOK.out
        have hkc : k < cnt p := by rw [HN.out]; exact hlt
        have hl := hok.at_le hkc
        have hs := hok.at_succ hkc
        have hc := hF.out.by_.cellAt rfl (k := 1 + k) (by omega)
        have hlo : (p.getD (1 + k) 0).toNat = lonK p k := by
          have e := lens_get p k hkc
          unfold lonK List.getD; rw [e]
        rw [hlo] at hc
        obtain ⟨fn, tmps, assign, body, hy, hR⟩ := hY pre ⟨k, hlt⟩ wr hC.out.2 (by rw [hC.out.1.length]; exact hlt)
        dsimp only [epair, yv, Option.map_some] at hy
        have hlb : lonK p k < 256 := by rw [← hlo]; exact (p.getD (1 + k) 0).toNat_lt
        obtain ⟨at_, hat⟩ : ∃ x, atK p k = x := ⟨_, rfl⟩
        obtain ⟨at2, hat2⟩ : ∃ x, atK p (k + 1) = x := ⟨_, rfl⟩
        obtain ⟨lo, hlo2⟩ : ∃ x, lonK p k = x := ⟨_, rfl⟩
        have HAT2 := Lib.hid hat2
        rw [hat, hlo2] at hl hy
        rw [hlo2] at hc hlb
        rw [hat, hat2, hlo2] at hs
        rw [hat]
        have HS := Lib.hid hs
        have HR := Lib.hid hR
        have hll : at_ + lo ≤ len := by rw [← HL.out]; exact hl
        have f2 : IntKind.i64.wrap (1 + (k : Int)) = 1 + k := IntWalk.i64_in _ (by omega)
        have f3 : IntKind.i64.wrap ((at_ : Int) + (lo : Int)) = at_ + lo := IntWalk.i64_in _ (by omega)
        have hkl : 1 + k < len := by rw [← HL.out]; have := hok.head; omega
        have e1 : at_ + lo - at_ = lo := by omega
        clear hok hl hs hlo hat hat2 hlo2 hR hkc
        unfold yo at hy
        by_cases hac : at_ = cap
        · rw [if_pos hac] at hy
          rw [hac, Nat.sub_self] at hy
          gi_wp2_with fail
          refine ⟨fun _ => by omega, HR.out.mono ?_⟩
          rintro e W3 (⟨rfl, hJ3, hk3⟩ | ⟨rfl, hJx3⟩)
          · have hC3 : Hid (Come (k + 1) (pre ++ [⟨k, hlt⟩]) ∧ J (pre ++ [⟨k, hlt⟩]) W3) := Lib.hid ⟨hC.out.1.snoc hlt, hJ3⟩
            have hF3 := Lib.hid (hk3 hF.out)
            clear hJ3 hk3
            gi_wp2_with fail
            go_roundw
            case rel => exact ⟨k + 1, _, by omega, by go_num, by rw [HAT2.out, HS.out]; go_num, hC3, hF3⟩
            case measure => simp [intOf]; omega
          · have hC3 : Hid (Come (pre ++ [(⟨k, hlt⟩ : Slot n)]).length (pre ++ [⟨k, hlt⟩]) ∧ Jx (pre ++ [⟨k, hlt⟩]) W3) := Lib.hid ⟨by rw [(hC.out.1.snoc hlt).length]; exact hC.out.1.snoc hlt, hJx3⟩
            clear hJx3
            gi_wp2_with fail
            refine bodyPost_ret (results_none rfl _ _ _) rfl ?_
            exact And.intro ⟨_, rfl⟩ (Or.inr (Exists.intro (pre ++ [⟨k, hlt⟩]) hC3.out))
        · rw [if_neg hac] at hy
          gi_wp2_with fail
          refine ⟨fun _ => by omega, HR.out.mono ?_⟩
          rintro e W3 (⟨rfl, hJ3, hk3⟩ | ⟨rfl, hJx3⟩)
          · have hC3 : Hid (Come (k + 1) (pre ++ [⟨k, hlt⟩]) ∧ J (pre ++ [⟨k, hlt⟩]) W3) := Lib.hid ⟨hC.out.1.snoc hlt, hJ3⟩
            have hF3 := Lib.hid (hk3 hF.out)
            clear hJ3 hk3
            gi_wp2_with fail
            go_roundw
            case rel => exact ⟨k + 1, _, by omega, by go_num, by rw [HAT2.out, HS.out]; go_num, hC3, hF3⟩
            case measure => simp [intOf]; omega
          · have hC3 : Hid (Come (pre ++ [(⟨k, hlt⟩ : Slot n)]).length (pre ++ [⟨k, hlt⟩]) ∧ Jx (pre ++ [⟨k, hlt⟩]) W3) := Lib.hid ⟨by rw [(hC.out.1.snoc hlt).length]; exact hC.out.1.snoc hlt, hJx3⟩
            clear hJx3
            gi_wp2_with fail
            refine bodyPost_ret (results_none rfl _ _ _) rfl ?_
            exact And.intro ⟨_, rfl⟩ (Or.inr (Exists.intro (pre ++ [⟨k, hlt⟩]) hC3.out))
      · obtain rfl : n = k := by omega
        have hd : decide ((n : Int) < (n : Int)) = false := by simp
        gi_wp2_with fail
        go_end0
        exact ⟨⟨_, rfl⟩, .inl ⟨_, hC.out.1, hC.out.2⟩⟩
  · rw [show okB p = false from decide_eq_false hok] at hR
    have HR := Lib.hid hR
    have hn0 : n = 0 := by rw [← hn, recs_no hok]; rfl
    subst hn0
    clear hR hn
    refine callsIn_of_wp Try.func39 rfl trivial ?_ rfl
    simp only [Try.ntmps39, List.size_toArray, List.length_cons, List.length_nil, Nat.reduceAdd, Nat.reduceSub, Array.replicate_succ, Array.replicate_zero, List.push_toArray, List.append_toArray, List.nil_append, List.cons_append]
    gi_wp2_with fail
    refine ⟨trivial, fun _ => by omega, ?_⟩
    refine (callsIn_wide.2 HR.out).mono ?_
    rintro e w' ⟨rfl, rfl⟩
    gi_wp2_with fail
    refine bodyPost_ret (results_none rfl _ _ _) rfl ?_
    exact ⟨⟨_, rfl⟩, .inl ⟨[], Come.nil, h0⟩⟩

/-- The closure's contract. -/
theorem each1_stops (m : Nat) (hm : 2 ≤ m) (Bp : Nat) (A : Option Addr) (len cap n : Nat) (p : List UInt8) (hlen : p.length = len) (hcap : len ≤ cap) (hcm : cap ≤ maxLen) (hn : (recs p).length = n) (w : World) (hI : EInv Bp A len cap p w) :
    SeqStopsK Fence.wide m Try.prog 39 #[.pointer (some ⟨Bp, 0, none⟩)] (epair A cap p (n := n))
      (fun W W' => EInv Bp A len cap p W → EInv Bp A len cap p W') (Come n) (fun pre => Come pre.length pre) n w := fun l J Jx W hW _ _ hY h0 => by
  have hI' : EInv Bp A len cap p W := hI.kept fun p v hp => hW.cell (World.block_lt_of_cell? w _ hp)
  exact each1_in m hm l Bp A len cap n p hlen hcap hcm hn J Jx hY W hI' h0
theorem einv_t {Bp : Nat} {A : Option Addr} {len cap : Nat} {p : List UInt8} {X Y Z : World} (h : EInv Bp A len cap p X → EInv Bp A len cap p Y) (k : EInv Bp A len cap p Y → EInv Bp A len cap p Z) : EInv Bp A len cap p X → EInv Bp A len cap p Z := fun x => k (h x)
theorem einv_b {Bp : Nat} {A : Option Addr} {len cap : Nat} {p : List UInt8} (W : World) (l : Nat) (o o' : Obj) (h : W.heap[l]? = some o) (hc : o.isCells = false) : EInv Bp A len cap p W → EInv Bp A len cap p (W.putObj l o') := fun h0 => h0.kept fun p v hp => by
  rw [hp]
  exact cell_kept hp (grownBy_putObj' W l o') (fun r e => by cases e; exact ⟨o, h, hc⟩)

/-- each: a function value over a box of its own. -/
theorem each_any (A : Option Addr) (len cap : Nat) (w : World) : Calls Try.prog 31 #[.slice A len cap] w fun e W' => e = .returned (.func (.func 39) #[] #[.pointer (some ⟨w.heap.size, 0, none⟩)]) ∧ w.alloc (.cells #[.slice A len cap] 22) = W' := by
  go_enter Try.func31, Try.ntmps31
  go_wp2
  go_ret
  exact ⟨rfl, rfl⟩
end Go.Proofs.Ytipjokbkgcepbaa
