/- token: Same; TokenScans. -/
import Derived.Test.YtdnmdccjecoojaaDoorX
namespace Go.Proofs.YtdnmdccjecoojaaDoor
open Go.RowKit Tok
set_option maxRecDepth 20000 in
set_option maxHeartbeats 2000000 in
theorem same_any (A B : Option Addr) (n c c' : Nat) (l : List (Tk × Nat)) (w : World) (hn : l.length = n) (hA : Toks w A l) (hB : Toks w B l) (hl : n ≤ 100000) :
    Calls Tryd.prog 13 #[.slice A n c, .slice B n c'] w fun e w' => e = .returned (.bool true) ∧ Below w.heap.size w w' := by
  have HN := Lib.hid hn
  have HA := Lib.hid hA
  have HBW := Lib.hid hB
  clear hA hB hn
  go_enter Tryd.func13, Tryd.ntmps13
  go_wp2_with fail
  go_loopw [5] (fun iv wr => ∃ i q : Nat, i ≤ n ∧ iv = .int .i64 (i : Int) ∧ wr = w.drewN q) (fun iv _ => n - (intOf iv).toNat)
  case atStart => exact ⟨0, 0, Nat.zero_le _, rfl, rfl⟩
  case round =>
    obtain ⟨i, q, hi, rfl, rfl⟩ := hrel
    by_cases hlt : i < n
    · have hd : decide ((i : Int) < (n : Int)) = true := by simpa using hlt
      obtain ⟨x, hx⟩ : ∃ x, l[i]? = some x := ⟨_, List.getElem?_eq_getElem (by rw [HN.out]; exact hlt)⟩
      obtain ⟨bx, off, rfl, hblt, e0, e1, e2, e3⟩ := HA.out i x hx
      obtain ⟨by_, off', rfl, hblt', y0, y1, y2, y3⟩ := HBW.out i x hx
      obtain ⟨⟨kx, tx, nx⟩, ax⟩ := x
      dsimp only at e0 e1 e2 e3 y0 y1 y2 y3
      obtain ⟨un, hun⟩ : ∃ un, kx.toNat = un := ⟨_, rfl⟩
      have hbv : bv kx = .int .u8 (un : Int) := by rw [← hun]; rfl
      rw [hbv] at e0 y0
      obtain ⟨sx, hsx⟩ : ∃ sx, str tx = sx := ⟨_, rfl⟩
      rw [hsx] at e1 y1
      clear hx hbv hun hsx
      go_wp2_with fail
      go_quiet (fail)
      go_wp2_with fail
      go_roundw
      case rel => exact ⟨i + 1, _, by omega, by go_num, rfl⟩
      case measure => simp [intOf]; omega
    · obtain rfl : n = i := by omega
      have hd : decide ((n : Int) < (n : Int)) = false := by simp
      go_wp2_with fail
      go_ret
      exact ⟨rfl, drewN_below w q⟩
end Go.Proofs.YtdnmdccjecoojaaDoor
