/- octet.Fill; what Get, Cut and Fill refuse; the anchor. -/
import Derived.Test.YtabledlkpmlcbaaE
import Derived.Lib.BufferRead
import Derived.ProofKit
namespace Go.Proofs.Ytabledlkpmlcbaa
open Go.RowKit

/-- Bytes, filled up. -/
def filled (bs : List UInt8) (n : Nat) : List UInt8 := bs ++ List.replicate (n - bs.length) 0
/-- The cells of a row of bytes. -/
def row8 (bs : List UInt8) : Array Value := (bs.map bv).toArray

theorem row8_get {bs : List UInt8} (k : Nat) (c : UInt8) (h : bs[k]? = some c) : (row8 bs)[k]? = some (bv c) := by
  unfold row8
  simp [h]
theorem Bytes.row {w : World} {g : Nat} {t : TypeId} {bs : List UInt8} (h : Blk w g t (row8 bs)) : Bytes w (some ⟨g, 0, none⟩) bs := Bytes.of_blk h (fun k c hk => row8_get k c hk)

set_option maxHeartbeats 400000 in
theorem fill_ok (A : Option Addr) (cap n : Nat) (bs : List UInt8) (w : World) (hle : bs.length ≤ n) (hn : n ≤ 1048576) (hA : Bytes w A bs) :
    Calls Try.prog 15 #[.slice A bs.length cap, .int .i64 n] w fun e W' => e = .returned (.tuple #[.slice (some ⟨w.heap.size, 0, none⟩) n n, .bool true]) ∧
      Blk W' w.heap.size 5 (row8 (filled bs n)) ∧ Below w.heap.size w W' := by
  have hmk := run_mk8 n (by omega)
  have cR : Blk (w.alloc (.cells (mk8 n) 5)) w.heap.size 5 (List.replicate n (bv 0)).toArray := by
    rw [← mk8_eq]; exact Blk.new w _ _
  have cW : Below w.heap.size w (w.alloc (.cells (mk8 n) 5)) := (Below.refl _ w).alloc (Nat.le_refl _) _
  obtain ⟨w1, hcp, hR1, hg1, hs1⟩ := run_copy8 _ 3 w.heap.size n n A cap bs _ (hA.below cW) cR hle (by simp)
  have hB1 : Below w.heap.size w w1 := cW.grown hg1 (by simp) (fun k e => by cases e; omega)
  have hR2 : Blk w1 w.heap.size 5 (row8 (filled bs n)) := by
    have e : bs.map bv ++ (List.replicate n (bv 0)).drop bs.length = (bs ++ List.replicate (n - bs.length) 0).map bv := by simp
    unfold row8 filled; rw [← e]; exact hR1
  simp only [goInt] at hcp
  have HR := Lib.hid hR2
  have HB := Lib.hid hB1
  clear hR1 hR2 hB1 hg1 hs1 cR cW
  have h1 : ¬ ((n : Int) < (bs.length : Int)) := by omega
  have h2 : ¬ ((1048576 : Int) < (n : Int)) := by omega
  go_enter Try.func15, Try.ntmps15
  go_wp2
  go_ret2
  exact ⟨rfl, HR.out, HB.out⟩

/-- What the walk is told of a slice of integers that came in. -/
def IsRow (k : IntKind) (w : World) (a : Option Addr) (len cap : Nat) (zs : List Int) : Prop :=
  (a = none ∧ len = 0 ∧ cap = 0 ∧ zs = []) ∨
  ∃ x, a = some x ∧ len ≤ cap ∧ cap ≤ maxLen ∧ zs.length = cap ∧ (∀ i, i < zs.length → w.cell? (x.add i) = some (.int k (zs.getD i 0))) ∧ ∀ n ∈ zs, (Lit.int k n).wf = true

theorem wf_u8 {n : Int} (h : (Lit.int .u8 n).wf = true) : 0 ≤ n ∧ n ≤ 255 := by
  have h' := h
  simp [Lit.wf, IntKind.min, IntKind.max, IntKind.bits, IntKind.signed] at h'
  omega
theorem wf_u16 {n : Int} (h : (Lit.int .u16 n).wf = true) : ∃ m : Nat, n = m ∧ m < 65536 := by
  have h' := h
  simp [Lit.wf, IntKind.min, IntKind.max, IntKind.bits, IntKind.signed] at h'
  exact ⟨n.toNat, by omega, by omega⟩

theorem wf_u8n {n : Int} (h : (Lit.int .u8 n).wf = true) : ∃ m : Nat, n = m ∧ m < 256 := by
  have h' := wf_u8 h
  exact ⟨n.toNat, by omega, by omega⟩
theorem wf_u64 {n : Int} (h : (Lit.int .u64 n).wf = true) : ∃ m : Nat, n = m ∧ m < 18446744073709551616 := by
  have h' := h
  simp [Lit.wf, IntKind.min, IntKind.max, IntKind.bits, IntKind.signed] at h'
  exact ⟨n.toNat, by omega, by omega⟩
theorem wf_i64 {n : Int} (h : (Lit.int .i64 n).wf = true) : -9223372036854775808 ≤ n ∧ n < 9223372036854775808 := by
  have h' := h
  simp [Lit.wf, IntKind.min, IntKind.max, IntKind.bits, IntKind.signed] at h'
  omega

theorem bytes_of_row8 {w : World} {a : Option Addr} {len cap : Nat} {zs : List Int} (h : IsRow .u8 w a len cap zs) : ∃ bs : List UInt8, bs.length = len ∧ Bytes w a bs ∧ len ≤ maxLen := by
  rcases h with ⟨rfl, rfl, rfl, rfl⟩ | ⟨x, rfl, hl, hm, hz, hc, hw⟩
  · exact ⟨[], rfl, Bytes.nil _ _, Nat.zero_le _⟩
  · refine ⟨(zs.take len).map fun z => UInt8.ofNat z.toNat, by simp; omega, fun k c hk => ?_, Nat.le_trans hl hm⟩
    rw [List.getElem?_map] at hk
    have hkl : k < len := by
      rcases Nat.lt_or_ge k len with h | h
      · exact h
      · rw [List.getElem?_eq_none (by simp; omega)] at hk; cases hk
    have hkz : k < zs.length := by omega
    rw [List.getElem?_take_of_lt hkl, List.getElem?_eq_getElem hkz] at hk
    simp only [Option.map_some, Option.some.injEq] at hk
    have hcell := hc k hkz
    have hcell0 := hc 0 (by omega)
    obtain ⟨b, off, spot⟩ := x
    have hspot : spot = none := by simpa [Addr.add] using World.cell?_spot hcell0
    subst hspot
    have e : (⟨b, off, none⟩ : Addr).add k = ⟨b, off + k, none⟩ := by unfold Addr.add; split <;> simp_all
    rw [e] at hcell
    have hwf := wf_u8 (hw zs[k] (List.getElem_mem hkz))
    have hg : zs.getD k 0 = zs[k] := by simp [List.getD, hkz]
    refine ⟨b, off, rfl, World.block_lt_of_cell? w _ hcell, ?_⟩
    rw [hcell, hg, ← hk, UInt8.toNat_ofNat']
    congr 2
    omega

/-- A text. -/
def str (bs : List UInt8) : ByteArray := ⟨bs.toArray⟩
theorem str_toList (bs : List UInt8) : (str bs).toList = bs := by
  unfold str
  simp [ByteArray.toList_eq]
theorem str_eq {a b : List UInt8} (h : a = b) : ((str a).toList == (str b).toList) = true := by rw [h]; simp
theorem run_str8 (w : World) (A : Option Addr) (cap : Nat) (bs : List UInt8) (hA : Bytes w A bs) :
    (convert 22 9 (.slice A bs.length cap)).run Try.prog w = .ok (.string (str bs)) w := by
  rcases Nat.eq_zero_or_pos bs.length with h0 | h0
  · obtain rfl : bs = [] := List.eq_nil_of_length_eq_zero h0
    cases A with
    | none => exact Lib.run_convert_nil_bytes w _ _ 5 cap Try.underlying22 Try.underlying5 Try.underlying9
    | some a => exact run_convert_bytes_back w _ _ 5 a cap [] Try.underlying22 Try.underlying5 Try.underlying9 (fun j hj => by simp at hj)
  · obtain ⟨b, off, rfl, _, hc⟩ := hA.at_ h0
    exact run_convert_bytes_back w _ _ 5 ⟨b, off, none⟩ cap bs Try.underlying22 Try.underlying5 Try.underlying9 (fun j hj => by
      have e : (⟨b, off, none⟩ : Addr).add j = ⟨b, off + j, none⟩ := by unfold Addr.add; split <;> simp_all
      rw [e]; exact hc j _ (List.getElem?_eq_getElem hj))

set_option maxHeartbeats 400000 in
theorem fill_no (A : Option Addr) (len cap : Nat) (n : Int) (w : World) (h : n < len ∨ 1048576 < n) :
    Calls Try.prog 15 #[.slice A len cap, .int .i64 n] w fun e W' => e = .returned (.tuple #[.slice none 0 0, .bool false]) ∧ w = W' := by
  by_cases h1 : n < (len : Int)
  · go_enter Try.func15, Try.ntmps15
    go_wp2
    go_ret2
    exact ⟨rfl, rfl⟩
  · have h2 : 1048576 < n := by omega
    clear h
    go_enter Try.func15, Try.ntmps15
    go_wp2
    go_ret2
    exact ⟨rfl, rfl⟩

/-- The bytes of a field. -/
def fieldOf (bs : List UInt8) (at_ n : Nat) : List UInt8 := (bs.drop at_).take n
theorem get_ok (A : Option Addr) (cap at_ n : Nat) (bs : List UInt8) (w : World) (hn : sizeB n = true) (hle : at_ + n ≤ bs.length) (hlm : bs.length ≤ maxLen) (hA : Bytes w A bs) :
    Calls Try.prog 10 #[.slice A bs.length cap, .int .i64 at_, .int .i64 n] w fun e W' => e = .returned (.tuple #[.int .u64 (leN (fieldOf bs at_ n) : Int), .int .i64 0]) ∧ Below w.heap.size w W' := by
  unfold maxLen at hlm
  refine (get_in A bs.length cap at_ n (fieldOf bs at_ n) w hn hle (by omega) (fun k hk => ?_)).mono ?_
  · have h1 : at_ + k < bs.length := by omega
    obtain ⟨b, off, e, _, hc⟩ := hA (at_ + k) _ (List.getElem?_eq_getElem h1)
    exact ⟨b, off, _, e, by unfold fieldOf; rw [List.getElem?_take_of_lt hk, List.getElem?_drop]; exact List.getElem?_eq_getElem h1, hc⟩
  · rintro e W' ⟨rfl, hB⟩
    refine ⟨?_, hB⟩
    have : (fieldOf bs at_ n).take n = fieldOf bs at_ n := by unfold fieldOf; rw [List.take_take, Nat.min_self]
    rw [this]
theorem cut_ok (A : Option Addr) (cap at_ n : Nat) (bs : List UInt8) (w : World) (hle : at_ + n ≤ bs.length) (hlm : bs.length ≤ 281474976710656) (hA : Bytes w A bs) :
    Calls Try.prog 13 #[.slice A bs.length cap, .int .i64 at_, .int .i64 n] w fun e W' => e = .returned (.tuple #[.slice (some ⟨w.heap.size, 0, none⟩) n n, .bool true]) ∧
      Blk W' w.heap.size 5 (row8 (fieldOf bs at_ n)) ∧ Below w.heap.size w W' := cut_in A bs.length cap at_ n bs w hle hlm rfl hA
theorem put_ok (A : Option Addr) (cap n x : Nat) (bs : List UInt8) (w : World) (hn : sizeB n = true) (hlm : bs.length ≤ 140737488355328) (hA : Bytes w A bs) :
    Calls Try.prog 12 #[.slice A bs.length cap, .int .u64 x, .int .i64 n] w fun e W' => e = .returned (.slice (some ⟨w.heap.size + 2, 0, none⟩) (bs.length + n) (bs.length + n)) ∧
      Blk W' (w.heap.size + 2) 5 (row8 (bs ++ lePut x n)) ∧ Below w.heap.size w W' := put_in A cap n x bs w hn hlm hA

set_option maxHeartbeats 400000 in
theorem get_no (A : Option Addr) (len cap : Nat) (at_ n : Int) (w : World) (hl : len ≤ maxLen) (hn : n < 9223372036854775808) (ha : at_ < 9223372036854775808) (h : sizeB n = false ∨ insideB len at_ n = false) :
    Calls Try.prog 10 #[.slice A len cap, .int .i64 at_, .int .i64 n] w fun e W' => e = .returned (.tuple #[.int .u64 0, .int .i64 1]) ∧ w = W' := by
  by_cases h1 : sizeB n = true
  · have h2 : insideB len at_ n = false := by
      rcases h with h | h
      · rw [h1] at h; cases h
      · exact h
    clear h
    go_enter Try.func10, Try.ntmps10
    go_wp2_with (first
      | (go_at_call 19; refine (isSize_any _ _).mono ?_; rintro e w' ⟨rfl, rfl⟩)
      | (go_at_call 20; refine (within_any _ _ _ _ _ _ hl hn ha).mono ?_; rintro e w' ⟨rfl, rfl⟩))
    go_ret2
    exact ⟨rfl, rfl⟩
  · have h2 : sizeB n = false := by simpa using h1
    clear h h1
    go_enter Try.func10, Try.ntmps10
    go_wp2_with (first
      | (go_at_call 19; refine (isSize_any _ _).mono ?_; rintro e w' ⟨rfl, rfl⟩)
      | (go_at_call 20; refine (within_any _ _ _ _ _ _ hl hn ha).mono ?_; rintro e w' ⟨rfl, rfl⟩))
    go_ret2
    exact ⟨rfl, rfl⟩

set_option maxHeartbeats 400000 in
theorem cut_no (A : Option Addr) (len cap : Nat) (at_ n : Int) (w : World) (hl : len ≤ maxLen) (hn : n < 9223372036854775808) (ha : at_ < 9223372036854775808) (h : insideB len at_ n = false) :
    Calls Try.prog 13 #[.slice A len cap, .int .i64 at_, .int .i64 n] w fun e W' => e = .returned (.tuple #[.slice none 0 0, .bool false]) ∧ w = W' := by
  go_enter Try.func13, Try.ntmps13
  go_wp2_with (go_at_call 20; refine (within_any _ _ _ _ _ _ hl hn ha).mono ?_; rintro e w' ⟨rfl, rfl⟩)
  go_ret2
  exact ⟨rfl, rfl⟩

end Go.Proofs.Ytabledlkpmlcbaa
