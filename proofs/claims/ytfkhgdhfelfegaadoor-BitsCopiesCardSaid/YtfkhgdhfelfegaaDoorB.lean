/- The set's functions: New, Size, Has, Set, Clear. -/
import Derived.Test.YtfkhgdhfelfegaaDoorL
import Derived.Lib.TrailingZeros
import Derived.BigQuiet
import Derived.Deep.QuietTactic
import Derived.StillTailTactics
namespace Go.Proofs.YtfkhgdhfelfegaaDoor
open Go.RowKit Bts

/-- The table in its variable. -/
def Tab (W : World) : Prop := ∀ j, j < 64 → W.cell? ⟨0, j, none⟩ = some (.int .u8 (Lib.deBruijn64tab.getD j 0 : Nat))
theorem Tab.below {W W' : World} (h : Tab W) (hb : Below W.heap.size W W') : Tab W' := fun i hi =>
  (hb.cell (p := ⟨0, i, none⟩) (World.block_lt_of_cell? W _ (h i hi))).trans (h i hi)
theorem Tab.lt {W : World} (h : Tab W) : 0 < W.heap.size := World.block_lt_of_cell? W _ (h 0 (by decide))
theorem Tab.grown {W W' : World} (h : Tab W) {row : Option Nat} (hg : W.grownBy W' row) (hne : some 0 ≠ row) : Tab W' := fun i hi => hg.cell (h i hi) hne

theorem tz_key (x a : Nat) (hx : x < 18446744073709551616) (hlow : x &&& (18446744073709551616 - x) = a) (hx0 : x ≠ 0) :
    IntKind.u64.wrap (bits .and .u64 (x : Int) (IntKind.u64.wrap (-(x : Int))) * 285870213051353865) / 288230376151711744 = ((a * 285870213051353865 % 18446744073709551616 / 288230376151711744 : Nat) : Int) := by
  have e1 : IntKind.u64.wrap (-(x : Int)) = ((18446744073709551616 - x : Nat) : Int) := by rw [IntKind.wrap_u64]; omega
  rw [e1, bits_and_u64_nat x _ hx (by omega), hlow, IntKind.wrap_u64]
  omega

set_option maxHeartbeats 1000000 in
theorem tz_core (x k idx : Nat) (w : World) (hx0 : ((x : Int) == 0) = false)
    (key : IntKind.u64.wrap (bits .and .u64 (x : Int) (IntKind.u64.wrap (-(x : Int))) * 285870213051353865) / 288230376151711744 = (idx : Int))
    (hi : idx < 64) (hk : k < 64) (hcell : w.cell? ⟨0, idx, none⟩ = some (.int .u8 (k : Int))) :
    Calls Tryd.prog 33 #[.int .u64 (x : Int)] w fun e w' => e = .returned (.int .i64 (k : Int)) ∧ w = w' := by
  go_enter Tryd.func33, Tryd.ntmps33
  go_wp2_with (simp only [key])
  go_ret
  exact ⟨rfl, rfl⟩

theorem tz_zero (w : World) : Calls Tryd.prog 33 #[.int .u64 0] w fun e w' => e = .returned (.int .i64 64) ∧ w = w' := by
  go_enter Tryd.func33, Tryd.ntmps33
  go_wp2
  go_ret
  exact ⟨rfl, rfl⟩

theorem tz_any (x : Nat) (w : World) (hx : x < 18446744073709551616) (hT : Tab w) :
    Calls Tryd.prog 33 #[.int .u64 (x : Int)] w fun e w' => e = .returned (.int .i64 (Lib.ctz 64 x : Nat)) ∧ w = w' := by
  by_cases hx0 : x = 0
  · subst hx0
    exact tz_zero w
  · obtain ⟨hlow, hk⟩ := Lib.lowest_bit 64 x hx0 hx
    obtain ⟨hi, htab⟩ := Lib.deBruijn64_at _ hk
    have hcell := hT _ hi
    rw [htab] at hcell
    exact tz_core x _ _ w (by simp; omega) (tz_key x _ hx hlow hx0) hi hk hcell

/-! ### New, Size -/

theorem Tryd.info64 : (Tryd.prog.info? 54).map (fun i => (i.zero, i.size, i.bytes)) = some (some (.int .u64 0), 1, 8) := by kernel_rfl

theorem run_mk64 (n : Nat) (hn : n ≤ 65536) (w : World) :
    (Instr.makeSlice 56 (.int .i64 (n : Int)) (.int .i64 (n : Int))).run Tryd.prog w = .ok (.slice (some ⟨w.heap.size, 0, none⟩) n n) (w.alloc (.cells (madeCells #[.int .u64 0] n) 54)) := by
  obtain ⟨i0, hi, hz0, hz1, hz2⟩ := info_parts Tryd.info64
  have h := run_make (P := Tryd.prog) w 56 54 i0 (.int .u64 0) Tryd.underlying56 hi hz0 .i64 .i64 (n : Int) (n : Int) (by omega) (by omega) (by rw [hz2]; omega) (by omega)
  simpa [hz1, Value.cells] using h

def none_ : Nat → Bool := fun _ => false

theorem bs_new (w : World) (n : Nat) (hn : n ≤ 65536) :
    Bs ((w.alloc (.cells (madeCells #[.int .u64 0] ((n + 63) / 64)) 54)).alloc (.cells #[.int .i64 (n : Int), .slice (some ⟨w.heap.size, 0, none⟩) ((n + 63) / 64) ((n + 63) / 64)] 58)) (w.heap.size + 1) w.heap.size n none_ := by
  have h1 := Blk.new w 54 (madeCells #[.int .u64 0] ((n + 63) / 64))
  have h2 := Blk.new (w.alloc (.cells (madeCells #[.int .u64 0] ((n + 63) / 64)) 54)) 58 #[.int .i64 (n : Int), .slice (some ⟨w.heap.size, 0, none⟩) ((n + 63) / 64) ((n + 63) / 64)]
  rw [World.size_alloc] at h2
  have hl : (List.replicate ((n + 63) / 64) 0).length = (n + 63) / 64 := by simp
  have hg : ∀ i, (List.replicate ((n + 63) / 64) 0).getD i 0 = 0 := fun i => by
    simp only [List.getD, List.getElem?_replicate]; split <;> rfl
  refine ⟨⟨(n + 63) / 64, List.replicate ((n + 63) / 64) 0, _, ⟨hl, hn, fun i _ => by rw [hg]; decide, fun i k _ _ => by rw [hg]; simp [none_], fun _ _ => rfl⟩, by rw [hl]; exact h2, by rw [hl]; exact Nat.le_refl _, by unfold maxLen; omega, h1.alloc _, fun i hi => ?_⟩, by omega⟩
  rw [hl] at hi
  rw [hg]
  simp [madeCells, hi, uv, Nat.mod_one]

set_option maxHeartbeats 400000 in
theorem new_some (n : Nat) (w : World) (hn : n ≤ 65536) :
    Calls Tryd.prog 20 #[.int .i64 (n : Int)] w fun e w' => ∃ p q, e = .returned (.tuple #[.pointer (some ⟨p, 0, none⟩), .int .i64 0]) ∧ w.heap.size ≤ p ∧ w.heap.size ≤ q ∧ Bs w' p q n none_ ∧ Below w.heap.size w w' := by
  have hmk := run_mk64 ((n + 63) / 64) (by omega) w
  have hb := Lib.hid (bs_new w n hn)
  have ha : (((n + 63) / 64 : Nat) : Int) = ((n : Int) + 63) / 64 := by omega
  rw [ha] at hmk
  clear ha
  go_enter Tryd.func20, Tryd.ntmps20
  go_wp2
  go_ret2
  exact ⟨_, _, rfl, Nat.le_succ _, Nat.le_refl _, hb.out, ((Below.refl _ w).alloc (Nat.le_refl _) _).alloc (by simp) _⟩

theorem new_none (n : Int) (w : World) (hn : n < 0 ∨ 65536 < n) :
    Calls Tryd.prog 20 #[.int .i64 n] w fun e w' => e = .returned (.tuple #[.pointer none, .int .i64 1]) ∧ w = w' := by
  by_cases h : n < 0
  · go_enter Tryd.func20, Tryd.ntmps20
    go_wp2
    go_ret2
    exact ⟨rfl, rfl⟩
  · have h2 : 65536 < n := by omega
    go_enter Tryd.func20, Tryd.ntmps20
    go_wp2
    go_ret2
    exact ⟨rfl, rfl⟩

theorem size_nil (w : World) : Calls Tryd.prog 23 #[.pointer none] w fun e w' => e = .returned (.int .i64 0) ∧ w = w' := by
  go_enter Tryd.func23, Tryd.ntmps23
  go_wp2
  go_ret
  exact ⟨rfl, rfl⟩
theorem size_of (w : World) (p : Nat) (n : Int) (h : w.cell? ⟨p, 0, none⟩ = some (.int .i64 n)) : Calls Tryd.prog 23 #[.pointer (some ⟨p, 0, none⟩)] w fun e w' => e = .returned (.int .i64 n) ∧ w = w' := by
  go_enter Tryd.func23, Tryd.ntmps23
  go_wp2
  go_ret
  exact ⟨rfl, rfl⟩
theorem Bs.head {w : World} {p q n : Nat} {S : Nat → Bool} (h : Bs w p q n S) : w.cell? ⟨p, 0, none⟩ = some (.int .i64 (n : Int)) := by
  obtain ⟨c, ws, cs, hw, hp, _⟩ := h.mem
  exact hp.cell 0

end Go.Proofs.YtfkhgdhfelfegaaDoor
