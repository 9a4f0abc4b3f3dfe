/- The anchor 'works' of layer 1. -/
import Derived.Test.YtabledlkpmlcbaaF
namespace Go.Proofs.Ytabledlkpmlcbaa
open Go.RowKit

theorem fill_okL (A : Option Addr) (len cap n : Nat) (bs : List UInt8) (w : World) (hl : bs.length = len) (hle : len ≤ n) (hn : n ≤ 1048576) (hA : Bytes w A bs) :
    Calls Try.prog 15 #[.slice A len cap, .int .i64 n] w fun e W' => e = .returned (.tuple #[.slice (some ⟨w.heap.size, 0, none⟩) n n, .bool true]) ∧
      Blk W' w.heap.size 5 (row8 (filled bs n)) ∧ Below w.heap.size w W' := by subst hl; exact fill_ok A cap n bs w hle hn hA
theorem get_okL (A : Option Addr) (len cap at_ n : Nat) (bs : List UInt8) (w : World) (hl : bs.length = len) (hn : sizeB n = true) (hle : at_ + n ≤ len) (hlm : len ≤ maxLen) (hA : Bytes w A bs) :
    Calls Try.prog 10 #[.slice A len cap, .int .i64 at_, .int .i64 n] w fun e W' => e = .returned (.tuple #[.int .u64 (leN (fieldOf bs at_ n) : Int), .int .i64 0]) ∧ Below w.heap.size w W' := by
  subst hl; exact get_ok A cap at_ n bs w hn hle hlm hA
theorem cut_okL (A : Option Addr) (len cap at_ n : Nat) (bs : List UInt8) (w : World) (hl : bs.length = len) (hle : at_ + n ≤ len) (hlm : len ≤ 281474976710656) (hA : Bytes w A bs) :
    Calls Try.prog 13 #[.slice A len cap, .int .i64 at_, .int .i64 n] w fun e W' => e = .returned (.tuple #[.slice (some ⟨w.heap.size, 0, none⟩) n n, .bool true]) ∧
      Blk W' w.heap.size 5 (row8 (fieldOf bs at_ n)) ∧ Below w.heap.size w W' := by subst hl; exact cut_ok A cap at_ n bs w hle hlm hA
theorem put_okL (A : Option Addr) (len cap n x : Nat) (bs : List UInt8) (w : World) (hl : bs.length = len) (hn : sizeB n = true) (hlm : len ≤ 140737488355328) (hA : Bytes w A bs) :
    Calls Try.prog 12 #[.slice A len cap, .int .u64 x, .int .i64 n] w fun e W' => e = .returned (.slice (some ⟨w.heap.size + 2, 0, none⟩) (len + n) (len + n)) ∧
      Blk W' (w.heap.size + 2) 5 (row8 (bs ++ lePut x n)) ∧ Below w.heap.size w W' := by subst hl; exact put_ok A cap n x bs w hn hlm hA
theorem run_str8L (w : World) (A : Option Addr) (len cap : Nat) (bs : List UInt8) (hl : bs.length = len) (hA : Bytes w A bs) :
    (convert 22 9 (.slice A len cap)).run Try.prog w = .ok (.string (str bs)) w := by subst hl; exact run_str8 w A cap bs hA

theorem put_lit (w : World) : Calls Try.prog 12 #[.slice (some ⟨w.heap.size, 0, none⟩) 1 1, .int .u64 515, .int .i64 2] (w.alloc (.cells #[.int .u8 9] 5)) fun e W' =>
    e = .returned (.slice (some ⟨w.heap.size + 3, 0, none⟩) 3 3) ∧ Blk W' (w.heap.size + 3) 5 (row8 [9, 3, 2]) ∧ Below (w.heap.size + 1) (w.alloc (.cells #[.int .u8 9] 5)) W' := by
  have h := put_in (some ⟨w.heap.size, 0, none⟩) 1 2 515 [9] (w.alloc (.cells #[.int .u8 9] 5)) (by decide) (by decide)
    (Bytes.of_blk (Blk.new w 5 #[.int .u8 9]) (fun k c hk => by
      cases k with
      | zero => simp at hk; subst hk; rfl
      | succ k => simp at hk))
  refine h.mono ?_
  rintro e W' ⟨rfl, hR, hB⟩
  rw [World.size_alloc] at *
  exact ⟨rfl, hR, hB⟩

set_option maxHeartbeats 1000000 in
theorem works_any (w : World) : Calls Try.prog 8 #[] w fun e W' => e = .returned (.bool true) ∧ Below w.heap.size w W' := by
  have hp := put_lit w
  have HP := Lib.hid hp
  clear hp
  go_enter Try.func8, Try.ntmps8
  go_wp2_with fail
  refine HP.out.mono ?_
  rintro e W1 ⟨rfl, hR1, hB1⟩
  have hlt1 : w.heap.size + 3 < W1.heap.size := hR1.lt
  have hA1 : Bytes W1 (some ⟨w.heap.size + 3, 0, none⟩) [9, 3, 2] := Bytes.row hR1
  have hf := fill_ok (some ⟨w.heap.size + 3, 0, none⟩) 3 6 [9, 3, 2] W1 (by decide) (by decide) hA1
  have hBw1 : Below w.heap.size w W1 := ((Below.refl _ w).alloc (Nat.le_refl _) _).trans (hB1.mono (by omega))
  have HF := Lib.hid hf
  clear hf hA1 hR1 hB1
  go_wp2_with fail
  refine HF.out.mono ?_
  rintro e W2 ⟨rfl, hR2, hB2⟩
  have hlt2 : W1.heap.size < W2.heap.size := hR2.lt
  have hA2 : Bytes W2 (some ⟨W1.heap.size, 0, none⟩) [9, 3, 2, 0, 0, 0] := Bytes.row hR2
  have hBw2 : Below w.heap.size w W2 := hBw1.trans (hB2.mono (by omega))
  have hg : Calls Try.prog 10 #[.slice (some ⟨W1.heap.size, 0, none⟩) 6 6, .int .i64 1, .int .i64 2] W2 fun e W' => e = .returned (.tuple #[.int .u64 515, .int .i64 0]) ∧ Below W2.heap.size W2 W' :=
    get_ok (some ⟨W1.heap.size, 0, none⟩) 6 1 2 [9, 3, 2, 0, 0, 0] W2 (by decide) (by decide) (by decide) hA2
  have HG := Lib.hid hg
  have HA2 := Lib.hid hA2
  clear hg hA2 hR2 hB2 HF HP
  go_wp2_with fail
  refine HG.out.mono ?_
  rintro e W3 ⟨rfl, hB3⟩
  have hBw3 : Below w.heap.size w W3 := hBw2.trans (hB3.mono (by omega))
  have hlt3 : W2.heap.size ≤ W3.heap.size := hB3.size
  have hA3 : Bytes W3 (some ⟨W1.heap.size, 0, none⟩) [9, 3, 2, 0, 0, 0] := HA2.out.below hB3
  have hn : Calls Try.prog 10 #[.slice (some ⟨W1.heap.size, 0, none⟩) 6 6, .int .i64 5, .int .i64 2] W3 fun e W' => e = .returned (.tuple #[.int .u64 0, .int .i64 1]) ∧ W3 = W' :=
    get_no (some ⟨W1.heap.size, 0, none⟩) 6 6 5 2 W3 (by decide) (by decide) (by decide) (.inr (by decide))
  have hc : Calls Try.prog 13 #[.slice (some ⟨W1.heap.size, 0, none⟩) 6 6, .int .i64 2, .int .i64 3] W3 fun e W' => e = .returned (.tuple #[.slice (some ⟨W3.heap.size, 0, none⟩) 3 3, .bool true]) ∧
      Blk W' W3.heap.size 5 (row8 [2, 0, 0]) ∧ Below W3.heap.size W3 W' :=
    cut_ok (some ⟨W1.heap.size, 0, none⟩) 6 2 3 [9, 3, 2, 0, 0, 0] W3 (by decide) (by decide) hA3
  have HN := Lib.hid hn
  have HC := Lib.hid hc
  clear hn hc hA3 hB3 HG HA2
  go_wp2_with fail
  refine HN.out.mono ?_
  rintro e W4 ⟨rfl, rfl⟩
  go_wp2_with fail
  refine HC.out.mono ?_
  rintro e W5 ⟨rfl, hR5, hB5⟩
  have c0 : W5.cell? ⟨W3.heap.size, 0, none⟩ = some (.int .u8 2) := hR5.cell 0
  have c2 : W5.cell? ⟨W3.heap.size, 2, none⟩ = some (.int .u8 0) := hR5.cell 2
  have hBw5 : Below w.heap.size w W5 := hBw3.trans (hB5.mono (by omega))
  have HB5 := Lib.hid hBw5
  clear hR5 hB5 hBw5 HN HC hBw1 hBw2 hBw3
  go_wp2
  go_ret
  exact ⟨rfl, HB5.out⟩

end Go.Proofs.Ytabledlkpmlcbaa
