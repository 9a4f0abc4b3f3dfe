/- The divisor, as the reference lays it. -/
import Derived.Test.YtlgoacpmacomnaaDoorCV
namespace Go.Proofs.YtlgoacpmacomnaaDoor
open Go.RowKit Crc

def powers : List Nat := [32, 26, 23, 22, 16, 12, 11, 10, 8, 7, 5, 4, 2, 1, 0]
def pcells : Array Value := #[.int .i64 32, .int .i64 26, .int .i64 23, .int .i64 22, .int .i64 16, .int .i64 12, .int .i64 11, .int .i64 10, .int .i64 8, .int .i64 7, .int .i64 5, .int .i64 4, .int .i64 2, .int .i64 1, .int .i64 0]
theorem pcells_get (k : Nat) (hk : k < 15) : pcells[k]? = some (.int .i64 ((powers.getD k 0 : Nat) : Int)) := by
  rcases (by omega : k = 0 ∨ k = 1 ∨ k = 2 ∨ k = 3 ∨ k = 4 ∨ k = 5 ∨ k = 6 ∨ k = 7 ∨ k = 8 ∨ k = 9 ∨ k = 10 ∨ k = 11 ∨ k = 12 ∨ k = 13 ∨ k = 14) with rfl | rfl | rfl | rfl | rfl | rfl | rfl | rfl | rfl | rfl | rfl | rfl | rfl | rfl | rfl <;> rfl
def dbits (k : Nat) : List Bool := (List.range 33).map fun j => (powers.take k).any fun p => 32 - p == j
def dcells (k : Nat) : Array Value := (rowB (dbits k)).toArray
theorem dbits_step : ∀ k : Fin 15, (dbits k.1).set (32 - powers.getD k.1 0) true = dbits (k.1 + 1) := by decide +kernel
theorem pow_le : ∀ k : Fin 15, powers.getD k.1 0 ≤ 32 := by decide
theorem dbits_end : dbits 15 = bl dv 33 := by decide +kernel
theorem dbits_length (k : Nat) : (dbits k).length = 33 := by simp [dbits]
theorem dcells_step (k : Nat) (hk : k < 15) : (dcells k).setIfInBounds (32 - powers.getD k 0) (.bool true) = dcells (k + 1) := by
  unfold dcells rowB
  rw [List.setIfInBounds_toArray, ← List.map_set, dbits_step ⟨k, hk⟩]
theorem dcells_get (k q : Nat) (hq : q < 33) : ∃ b, (dcells k)[q]? = some (.bool b) := by
  refine ⟨(dbits k)[q]'(by rw [dbits_length]; exact hq), ?_⟩
  have : q < (dbits k).length := by rw [dbits_length]; exact hq
  simp [dcells, rowB, this]
theorem run_mk33 (w : World) : (Instr.makeSlice 70 (.int .i64 33) (.int .i64 33)).run Tryd.prog w = .ok (.slice (some ⟨w.heap.size, 0, none⟩) 33 33) (w.alloc (.cells (dcells 0) 4)) := by
  obtain ⟨i0, hi, hz0, hz1, hz2⟩ := info_parts Tryd.infoB
  have h := run_make (P := Tryd.prog) w 70 4 i0 (.bool false) Tryd.underlying70 hi hz0 .i64 .i64 33 33 (by omega) (by omega) (by rw [hz2]; omega) (by omega)
  have e : madeCells #[Value.bool false] 33 = dcells 0 := by kernel_rfl
  simpa [hz1, e, Value.cells] using h

set_option maxHeartbeats 400000 in
theorem divisor_any (w : World) : Calls Tryd.prog 44 #[] w fun e w' => e = .returned (.slice (some ⟨w.heap.size, 0, none⟩) 33 33) ∧ w'.ownsRow w.heap.size 4 1 (.slice (some ⟨w.heap.size, 0, none⟩) 33 33) 33 (rowB (bl dv 33)) ∧ Below w.heap.size w w' := by
  have hmk := run_mk33
  go_enter Tryd.func44, Tryd.ntmps44
  go_wp2
  go_loopw [3] (fun i wr => ∃ k : Nat, k ≤ 15 ∧ i = .int .i64 k ∧ Blk wr w.heap.size 4 (dcells k) ∧ Blk wr (w.heap.size + 1) 3 pcells ∧ Below w.heap.size w wr) (fun i _ => 15 - (intOf i).toNat)
  case atStart =>
    refine ⟨0, by omega, rfl, (Blk.new w _ _).alloc _, ?_, ((Below.refl _ w).alloc (Nat.le_refl _) _).alloc (by simp) _⟩
    have h := Blk.new (w.alloc (.cells (dcells 0) 4)) 3 pcells
    rw [World.size_alloc] at h
    exact h
  case round =>
    obtain ⟨k, hk, rfl, hd, hp, hbw⟩ := hrel
    have HD := Lib.hid hd
    have HP := Lib.hid hp
    have HBW := Lib.hid hbw
    by_cases hlt : k < 15
    · have hpc := (hp.cell k).trans (pcells_get k hlt)
      have hple := pow_le ⟨k, hlt⟩
      have hstep := dcells_step k hlt
      simp only at hple
      obtain ⟨p, hpe⟩ : ∃ p, powers.getD k 0 = p := ⟨_, rfl⟩
      rw [hpe] at hpc hple hstep
      obtain ⟨q, hqe⟩ : ∃ q, 32 - p = q := ⟨_, rfl⟩
      rw [hqe] at hstep
      have hqi : (32 : Int) - (p : Int) = (q : Int) := by omega
      have hq : q < 33 := by omega
      obtain ⟨b, hb⟩ := dcells_get k q hq
      have hcq := (hd.cell q).trans hb
      have hfq := hd.frozen q
      have hd2 := hd.set_ q (.bool true)
      rw [hstep] at hd2
      have hp2 := hp.far (p := ⟨w.heap.size, q, none⟩) (by simp) (.bool true)
      have hb2 := hbw.setCell (p := ⟨w.heap.size, q, none⟩) (Nat.le_refl _) (.bool true)
      have HD2 := Lib.hid hd2
      have HP2 := Lib.hid hp2
      have HB2 := Lib.hid hb2
      clear hd hp hbw hpe hqe hb hd2 hp2 hb2 hstep
      go_wp2
      go_roundw
      case rel => exact ⟨k + 1, by omega, by go_num, HD2.out, HP2.out, HB2.out⟩
      case measure => simp [intOf]; omega
    · obtain rfl : k = 15 := by omega
      have hown : wr.ownsRow w.heap.size 4 1 (.slice (some ⟨w.heap.size, 0, none⟩) 33 33) 33 (rowB (bl dv 33)) := by
        refine ⟨by simp [rowB, bl], .inr ⟨w.heap.size, 33, dcells 15, rfl, Nat.le_refl _, hd, Nat.le_refl _, by decide, by simp [dcells, rowB, dbits_length], ?_⟩⟩
        rw [← dbits_end]
        unfold dcells
        simp only [rowB, Nat.mul_one]
        exact List.take_of_length_le (by simp [dbits_length])
      have HO := Lib.hid hown
      clear hd hp hbw hown
      go_wp2
      go_ret
      exact ⟨rfl, HO.out, HBW.out⟩

end Go.Proofs.YtlgoacpmacomnaaDoor
