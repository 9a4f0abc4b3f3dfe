/- The reference's Same, Copy. -/
import Derived.Test.YtobfglnopihibaaR
namespace Go.Proofs.Ytobfglnopihibaa
open Go.RowKit Rcd

set_option maxRecDepth 20000 in
set_option maxHeartbeats 2000000 in
theorem same_ok (k : UInt8) (tag : Int) (A B : Option Addr) (n c c' : Nat) (t : List UInt8) (ws : List Wd) (w : World) (hn : ws.length = n) (hA : Words w A ws) (hB : Words w B ws) (hl : n ≤ 100000) :
    Calls Try.prog 15 #[.agg #[bv k, .int .i64 tag, .slice A n c, .string (str t)], .agg #[bv k, .int .i64 tag, .slice B n c', .string (str t)]] w fun e w' => e = .returned (.bool true) ∧ Below w.heap.size w w' := by
  have HN := Lib.hid hn
  obtain ⟨kn, hkn⟩ : ∃ kn, k.toNat = kn := ⟨_, rfl⟩
  have hbv : bv k = .int .u8 (kn : Int) := by rw [← hkn]; rfl
  rw [hbv]
  obtain ⟨w0, hw0⟩ : ∃ w0, (w.alloc (.cells #[.int .u8 (kn : Int), .int .i64 tag, .slice A n c, .string (str t)] 24)).alloc (.cells #[.int .u8 (kn : Int), .int .i64 tag, .slice B n c', .string (str t)] 24) = w0 := ⟨_, rfl⟩
  have hB0 : Blk w0 w.heap.size 24 #[.int .u8 (kn : Int), .int .i64 tag, .slice A n c, .string (str t)] := by rw [← hw0]; exact (Blk.new _ _ _).alloc _
  have hB1 : Blk w0 (w.heap.size + 1) 24 #[.int .u8 (kn : Int), .int .i64 tag, .slice B n c', .string (str t)] := by
    have := Blk.new (w.alloc (.cells #[.int .u8 (kn : Int), .int .i64 tag, .slice A n c, .string (str t)] 24)) 24 #[.int .u8 (kn : Int), .int .i64 tag, .slice B n c', .string (str t)]
    rw [World.size_alloc] at this
    rw [← hw0]; exact this
  have hb0 : Below w.heap.size w w0 := by rw [← hw0]; exact ((Below.refl _ _).alloc (Nat.le_refl _) _).alloc (by rw [World.size_alloc]; omega) _
  have d0 : w0.cell? ⟨w.heap.size, 0, none⟩ = some (.int .u8 (kn : Int)) := hB0.cell 0
  have d1 : w0.cell? ⟨w.heap.size, 1, none⟩ = some (.int .i64 tag) := hB0.cell 1
  have d2 : w0.cell? ⟨w.heap.size, 2, none⟩ = some (.slice A n c) := hB0.cell 2
  have d3 : w0.cell? ⟨w.heap.size, 3, none⟩ = some (.string (str t)) := hB0.cell 3
  have x0 : w0.cell? ⟨w.heap.size + 1, 0, none⟩ = some (.int .u8 (kn : Int)) := hB1.cell 0
  have x1 : w0.cell? ⟨w.heap.size + 1, 1, none⟩ = some (.int .i64 tag) := hB1.cell 1
  have x2 : w0.cell? ⟨w.heap.size + 1, 2, none⟩ = some (.slice B n c') := hB1.cell 2
  have x3 : w0.cell? ⟨w.heap.size + 1, 3, none⟩ = some (.string (str t)) := hB1.cell 3
  have HB := Lib.hid hb0
  have HA := Lib.hid (hA.below hb0)
  have HBW := Lib.hid (hB.below hb0)
  clear hbv hB0 hB1 hb0 hA hB
  go_enter Try.func15, Try.ntmps15
  go_wp2_with fail
  go_loopw [5] (fun iv wr => ∃ i q : Nat, i ≤ n ∧ iv = .int .i64 (i : Int) ∧ wr = w0.drewN q) (fun iv _ => n - (intOf iv).toNat)
  case atStart => exact ⟨0, 0, Nat.zero_le _, rfl, rfl⟩
  case round =>
    obtain ⟨i, q, hi, rfl, rfl⟩ := hrel
    by_cases hlt : i < n
    · have hd : decide ((i : Int) < (n : Int)) = true := by simpa using hlt
      obtain ⟨x, hx⟩ : ∃ x, ws[i]? = some x := ⟨_, List.getElem?_eq_getElem (by rw [HN.out]; exact hlt)⟩
      obtain ⟨bx, off, rfl, hblt, e0, e1, hr⟩ := HA.out i x hx
      obtain ⟨by_, off', rfl, hblt', y0, y1, _⟩ := HBW.out i x hx
      obtain ⟨kx, nx⟩ := x
      dsimp only at e0 e1 hr y0 y1
      obtain ⟨un, hun⟩ : ∃ un, kx.toNat = un := ⟨_, rfl⟩
      have hbv : bv kx = .int .u8 (un : Int) := by rw [← hun]; rfl
      rw [hbv] at e0 y0
      clear hx hbv hun
      go_wp2_with fail
      go_quiet (fail)
      go_wp2_with fail
      go_roundw
      case rel => exact ⟨i + 1, _, by omega, by go_num, rfl⟩
      case measure => simp [intOf]; omega
    · obtain rfl : n = i := by omega
      have hd : decide ((n : Int) < (n : Int)) = false := by simp
      go_wp2_with fail
      go_ret
      exact ⟨rfl, HB.out.trans ((drewN_below w0 q).mono HB.out.size)⟩
end Go.Proofs.Ytobfglnopihibaa
