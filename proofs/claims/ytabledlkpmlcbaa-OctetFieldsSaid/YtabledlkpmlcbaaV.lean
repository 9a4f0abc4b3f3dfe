/- Put of no size; each function and its reference, in one form. -/
import Derived.Test.YtabledlkpmlcbaaU
import Derived.Lib.SmallJoins
namespace Go.Proofs.Ytabledlkpmlcbaa
open Go.RowKit

theorem run_eqnil (a : Addr) (l c : Nat) (w : World) : (binOp .eql 22 (.slice (some a) l c) (.slice none 0 0)).run Try.prog w = .ok (.bool false) w := by
  first | (simp [binOp]; done) | rfl | kernel_rfl

set_option maxHeartbeats 400000 in
theorem clone_any (g o : Nat) (len cap : Nat) (bs : List UInt8) (w : World) (hbl : bs.length = len) (hl : len ≤ 1048576) (hA : Bytes w (some ⟨g, o, none⟩) bs) :
    Calls Try.prog 24 #[.slice (some ⟨g, o, none⟩) len cap] w fun e w' => ∃ v, e = .returned v ∧ w'.ownsRow w.heap.size 5 1 v len (bs.map bv) ∧ Below w.heap.size w w' := by
  have hb0 : Below w.heap.size w (w.alloc (.cells #[] 5)) := (Below.refl _ w).alloc (Nat.le_refl _) _
  obtain ⟨v1, w1, hrun1, hown1, hgr1⟩ := run_app8 (w.alloc (.cells #[] 5)) w.heap.size _ 0 [] (own_new w w.heap.size (Nat.le_refl _)) (some ⟨g, o, none⟩) len cap bs hbl (hA.below hb0) (by omega) (by simp)
  rw [List.nil_append, Nat.zero_add] at hown1
  have hb1 : Below w.heap.size w w1 := hb0.grown hgr1 (by simp) (fun k e => by simp [Value.ownBlock] at e; omega)
  have HRUN := Lib.hid hrun1
  have HO := Lib.hid hown1
  have HB1 := Lib.hid hb1
  have heq := run_eqnil ⟨g, o, none⟩ len cap
  clear hrun1 hown1 hgr1 hb1 hb0 hA
  go_enter Try.func24, Try.ntmps24
  go_wp2_with (at_builtin; refine wpList_app rfl _ _ 22 rfl _ _ _ _ rfl rfl HRUN.out ?_; clear HRUN)
  go_ret
  exact ⟨_, rfl, HO.out, HB1.out⟩

set_option maxHeartbeats 400000 in
theorem put_no (g o : Nat) (len cap x : Nat) (n : Int) (bs : List UInt8) (w : World) (hbl : bs.length = len) (hl : len ≤ 1048576) (hs : sizeB n = false) (hA : Bytes w (some ⟨g, o, none⟩) bs) :
    Calls Try.prog 12 #[.slice (some ⟨g, o, none⟩) len cap, .int .u64 x, .int .i64 n] w fun e w' => ∃ v, e = .returned v ∧ w'.ownsRow w.heap.size 5 1 v len (bs.map bv) ∧ Below w.heap.size w w' := by
  have hi := isSize_any n ((w.alloc (.cells #[.slice (some ⟨g, o, none⟩) len cap] 22)).alloc (.cells #[.int .u64 x] 23))
  rw [hs] at hi
  have hb2 : Below w.heap.size w ((w.alloc (.cells #[.slice (some ⟨g, o, none⟩) len cap] 22)).alloc (.cells #[.int .u64 (x : Int)] 23)) := ((Below.refl _ w).alloc (Nat.le_refl _) _).alloc (by simp) _
  have hc := clone_any g o len cap bs _ hbl hl (hA.below hb2)
  have HI := Lib.hid hi
  have HC := Lib.hid hc
  have HB2 := Lib.hid hb2
  clear hi hc hb2 hA hs
  go_enter Try.func12, Try.ntmps12
  go_wp2_with fail
  refine HI.out.mono ?_
  rintro e w' ⟨rfl, rfl⟩
  go_wp2_with fail
  refine HC.out.mono ?_
  rintro e w2 ⟨v, rfl, hown, hb3⟩
  have hsz : w.heap.size ≤ ((w.alloc (.cells #[.slice (some ⟨g, o, none⟩) len cap] 22)).alloc (.cells #[.int .u64 (x : Int)] 23)).heap.size := HB2.out.size
  have hown2 := Joins.ownsRow_le hown hsz
  have hb4 := HB2.out.trans (hb3.mono hsz)
  have HO4 := Lib.hid hown2
  have HB4 := Lib.hid hb4
  clear hown hb3 hsz hown2 hb4
  go_wp2
  go_ret
  exact ⟨_, rfl, HO4.out, HB4.out⟩

/-- A whole row of the call's own. -/
theorem own_of_blk {w : World} {g base n : Nat} {bs : List UInt8} (h : Blk w g 5 (row8 bs)) (hb : base ≤ g) (hn : bs.length = n) (hm : n ≤ maxLen) : w.ownsRow base 5 1 (.slice (some ⟨g, 0, none⟩) n n) n (bs.map bv) := by
  refine ⟨by simp [hn], .inr ⟨g, n, row8 bs, rfl, hb, h, Nat.le_refl _, hm, by simp [row8, hn], ?_⟩⟩
  simp only [row8, Nat.mul_one]
  exact List.take_of_length_le (by simp [hn])

def getV (bs : List UInt8) (at_ n : Int) : Nat × Int := if sizeB n && insideB bs.length at_ n then (leN (fieldOf bs at_.toNat n.toNat), 0) else (0, 1)
def cutBytes (bs : List UInt8) (at_ n : Int) : List UInt8 := if insideB bs.length at_ n then fieldOf bs at_.toNat n.toNat else []
def fitsB (bs : List UInt8) (n : Int) : Bool := decide ((bs.length : Int) ≤ n) && decide (n ≤ 1048576)
def fillBytes (bs : List UInt8) (n : Int) : List UInt8 := if fitsB bs n then filled bs n.toNat else []

theorem get_all (A : Option Addr) (len cap : Nat) (at_ n : Int) (bs : List UInt8) (w : World) (hbl : bs.length = len) (hl : len ≤ 1048576) (ha : at_ < 9223372036854775808) (hn : n < 9223372036854775808) (hA : Bytes w A bs) :
    Calls Try.prog 10 #[.slice A len cap, .int .i64 at_, .int .i64 n] w fun e W' => e = .returned (.tuple #[.int .u64 ((getV bs at_ n).1 : Int), .int .i64 (getV bs at_ n).2]) ∧ Below w.heap.size w W' := by
  unfold getV
  rw [hbl]
  cases hs : sizeB n
  · refine (get_no A len cap at_ n w (by unfold maxLen; omega) hn ha (.inl hs)).mono ?_
    rintro e w' ⟨rfl, rfl⟩
    exact ⟨rfl, Below.refl _ _⟩
  · cases hi : insideB len at_ n
    · refine (get_no A len cap at_ n w (by unfold maxLen; omega) hn ha (.inr hi)).mono ?_
      rintro e w' ⟨rfl, rfl⟩
      exact ⟨rfl, Below.refl _ _⟩
    · obtain ⟨a, m, rfl, rfl, hle⟩ := inside_nat hi
      exact get_okL A len cap a m bs w hbl hs hle (by unfold maxLen; omega) hA

theorem refget_all (A : Option Addr) (len cap : Nat) (at_ n : Int) (bs : List UInt8) (w : World) (hbl : bs.length = len) (hl : len ≤ 1048576) (hn : -9223372036854775808 ≤ n ∧ n < 9223372036854775808) (hA : Bytes w A bs) :
    Calls Try.prog 11 #[.slice A len cap, .int .i64 at_, .int .i64 n] w fun e W' => e = .returned (.tuple #[.int .u64 ((getV bs at_ n).1 : Int), .int .i64 (getV bs at_ n).2]) ∧ w = W' := by
  unfold getV
  rw [hbl]
  cases hs : sizeB n
  · exact refget_no A len cap at_ n w (by omega) hn (.inl hs)
  · cases hi : insideB len at_ n
    · exact refget_no A len cap at_ n w (by omega) hn (.inr hi)
    · obtain ⟨a, m, rfl, rfl, hle⟩ := inside_nat hi
      exact refget_ok A len cap a m bs w hbl hs hle (by omega) hA

theorem put_all (g len cap x : Nat) (n : Int) (bs : List UInt8) (w : World) (hbl : bs.length = len) (hl : len ≤ 1048576) (hA : Bytes w (some ⟨g, 0, none⟩) bs) :
    Calls Try.prog 12 #[.slice (some ⟨g, 0, none⟩) len cap, .int .u64 x, .int .i64 n] w fun e w' => ∃ v m, e = .returned v ∧ w'.ownsRow w.heap.size 5 1 v m ((putBytes bs x n).map bv) ∧ Below w.heap.size w w' := by
  unfold putBytes
  cases hs : sizeB n
  · refine (put_no g 0 len cap x n bs w hbl hl hs hA).mono ?_
    rintro e w' ⟨v, rfl, ho, hb⟩
    exact ⟨v, len, rfl, ho, hb⟩
  · have hn : n = 1 ∨ n = 2 ∨ n = 4 ∨ n = 8 := by simpa [sizeB, or_assoc] using hs
    obtain ⟨m, rfl⟩ : ∃ m : Nat, n = m := ⟨n.toNat, by omega⟩
    refine (put_okL (some ⟨g, 0, none⟩) len cap m x bs w hbl hs (by omega) hA).mono ?_
    rintro e w' ⟨rfl, hblk, hb⟩
    exact ⟨_, len + m, rfl, own_of_blk hblk (by omega) (by simp [lePut_length, hbl]) (by unfold maxLen; omega), hb⟩

theorem cut_all (A : Option Addr) (len cap : Nat) (at_ n : Int) (bs : List UInt8) (w : World) (hbl : bs.length = len) (hl : len ≤ 1048576) (ha : at_ < 9223372036854775808) (hn : n < 9223372036854775808) (hA : Bytes w A bs) :
    Calls Try.prog 13 #[.slice A len cap, .int .i64 at_, .int .i64 n] w fun e w' => ∃ v m, e = .returned (.tuple #[v, .bool (insideB bs.length at_ n)]) ∧ w'.ownsRow w.heap.size 5 1 v m ((cutBytes bs at_ n).map bv) ∧ Below w.heap.size w w' := by
  unfold cutBytes
  rw [hbl]
  cases hi : insideB len at_ n
  · refine (cut_no A len cap at_ n w (by unfold maxLen; omega) hn ha hi).mono ?_
    rintro e w' ⟨rfl, rfl⟩
    exact ⟨_, 0, rfl, ⟨by simp, .inl ⟨rfl, rfl⟩⟩, Below.refl _ _⟩
  · obtain ⟨a, m, rfl, rfl, hle⟩ := inside_nat hi
    refine (cut_okL A len cap a m bs w hbl hle (by omega) hA).mono ?_
    rintro e w' ⟨rfl, hblk, hb⟩
    exact ⟨_, m, rfl, own_of_blk hblk (Nat.le_refl _) (by unfold fieldOf; simp; omega) (by unfold maxLen; omega), hb⟩

theorem refcut_all (A : Option Addr) (len cap : Nat) (at_ n : Int) (bs : List UInt8) (w : World) (hbl : bs.length = len) (hl : len ≤ 1048576) (hn : -9223372036854775808 ≤ n ∧ n < 9223372036854775808) (hA : Bytes w A bs) :
    Calls Try.prog 14 #[.slice A len cap, .int .i64 at_, .int .i64 n] w fun e w' => ∃ v m, e = .returned (.tuple #[v, .bool (insideB bs.length at_ n)]) ∧ w'.ownsRow w.heap.size 5 1 v m ((cutBytes bs at_ n).map bv) ∧ Below w.heap.size w w' := by
  unfold cutBytes
  rw [hbl]
  cases hi : insideB len at_ n
  · refine (refcut_no A len cap at_ n w (by omega) hn hi).mono ?_
    rintro e w' ⟨rfl, rfl⟩
    exact ⟨_, 0, rfl, ⟨by simp, .inl ⟨rfl, rfl⟩⟩, Below.refl _ _⟩
  · obtain ⟨a, m, rfl, rfl, hle⟩ := inside_nat hi
    refine (refcut_ok A len cap a m bs w hbl hle hl hA).mono ?_
    rintro e w' ⟨v, rfl, ho, hb⟩
    exact ⟨v, m, rfl, ho, hb⟩

theorem fill_all (A : Option Addr) (len cap : Nat) (n : Int) (bs : List UInt8) (w : World) (hbl : bs.length = len) (hA : Bytes w A bs) :
    Calls Try.prog 15 #[.slice A len cap, .int .i64 n] w fun e w' => ∃ v m, e = .returned (.tuple #[v, .bool (fitsB bs n)]) ∧ w'.ownsRow w.heap.size 5 1 v m ((fillBytes bs n).map bv) ∧ Below w.heap.size w w' := by
  unfold fillBytes
  cases hf : fitsB bs n
  · refine (fill_no A len cap n w (by simp [fitsB, hbl] at hf; omega)).mono ?_
    rintro e w' ⟨rfl, rfl⟩
    exact ⟨_, 0, rfl, ⟨by simp, .inl ⟨rfl, rfl⟩⟩, Below.refl _ _⟩
  · have h := hf
    simp [fitsB, hbl] at h
    obtain ⟨m, rfl⟩ : ∃ m : Nat, n = m := ⟨n.toNat, by omega⟩
    refine (fill_okL A len cap m bs w hbl (by omega) (by omega) hA).mono ?_
    rintro e w' ⟨rfl, hblk, hb⟩
    exact ⟨_, m, rfl, own_of_blk hblk (Nat.le_refl _) (by unfold filled; simp; omega) (by unfold maxLen; omega), hb⟩

theorem reffill_all (A : Option Addr) (len cap : Nat) (n : Int) (bs : List UInt8) (w : World) (hbl : bs.length = len) (hA : Bytes w A bs) :
    Calls Try.prog 16 #[.slice A len cap, .int .i64 n] w fun e w' => ∃ v m, e = .returned (.tuple #[v, .bool (fitsB bs n)]) ∧ w'.ownsRow w.heap.size 5 1 v m ((fillBytes bs n).map bv) ∧ Below w.heap.size w w' := by
  unfold fillBytes
  cases hf : fitsB bs n
  · refine (reffill_no A len cap n w (by simp [fitsB, hbl] at hf; omega)).mono ?_
    rintro e w' ⟨rfl, rfl⟩
    exact ⟨_, 0, rfl, ⟨by simp, .inl ⟨rfl, rfl⟩⟩, Below.refl _ _⟩
  · have h := hf
    simp [fitsB, hbl] at h
    obtain ⟨m, rfl⟩ : ∃ m : Nat, n = m := ⟨n.toNat, by omega⟩
    refine (reffill_ok A len cap m bs w hbl (by omega) (by omega) hA).mono ?_
    rintro e w' ⟨rfl, hblk, hb⟩
    exact ⟨_, m, rfl, own_of_blk hblk (Nat.le_refl _) (by unfold filled; simp; omega) (by unfold maxLen; omega), hb⟩

end Go.Proofs.Ytabledlkpmlcbaa
