/- wordMayBe. -/
import Derived.Test.YtobfglnopihibaaC
namespace Go.Proofs.Ytobfglnopihibaa
open Go.RowKit Rcd

/-- May a word be? -/
def wordB (x : Wd) : Bool := if x.k = 1 then decide ((-4611686018427387904 : Int) ≤ x.n) && decide (x.n ≤ 4611686018427387903) else if x.k = 2 then decide ((1 : Int) ≤ x.n) && decide (x.n ≤ 16384) else false

set_option maxRecDepth 20000 in
set_option maxHeartbeats 1000000 in
theorem word_any (x : Wd) (w : World) : Calls Try.prog 34 #[.agg #[bv x.k, .int .i64 x.n]] w fun e w' => e = .returned (.bool (wordB x)) ∧ Below w.heap.size w w' := by
  obtain ⟨kx, nx⟩ := x
  obtain ⟨kn, hkn⟩ : ∃ kn, kx.toNat = kn := ⟨_, rfl⟩
  have hbv : bv kx = .int .u8 (kn : Int) := by rw [← hkn]; rfl
  have h1 : kx = 1 ↔ kn = 1 := by rw [← hkn]; exact ⟨fun e => by rw [e]; rfl, fun e => UInt8.toNat_inj.1 (by rw [e]; rfl)⟩
  have h2 : kx = 2 ↔ kn = 2 := by rw [← hkn]; exact ⟨fun e => by rw [e]; rfl, fun e => UInt8.toNat_inj.1 (by rw [e]; rfl)⟩
  have HB : Hid (Below w.heap.size w (w.alloc (.cells #[.int .u8 (kn : Int), .int .i64 nx] 44))) := Lib.hid ((Below.refl _ _).alloc (Nat.le_refl _) _)
  dsimp only
  rw [hbv]
  by_cases e1 : kn = 1
  · have hw : wordB ⟨kx, nx⟩ = (decide ((-4611686018427387904 : Int) ≤ nx) && decide (nx ≤ 4611686018427387903)) := if_pos (h1.2 e1)
    rw [hw]
    have d1 : ((kn : Int) == 1) = true := by simp; omega
    obtain ⟨b1, hb1⟩ : ∃ b, decide ((-4611686018427387904 : Int) ≤ nx) = b := ⟨_, rfl⟩
    obtain ⟨b2, hb2⟩ : ∃ b, decide (nx ≤ (4611686018427387903 : Int)) = b := ⟨_, rfl⟩
    rw [hb1, hb2]
    clear hw h1 h2 hkn hbv e1
    cases b1 <;> cases b2
    all_goals
      go_enter Try.func34, Try.ntmps34
      go_wp2_with fail
      go_ret
      exact ⟨rfl, HB.out⟩
  · have d1 : ((kn : Int) == 1) = false := by simp; omega
    by_cases e2 : kn = 2
    · have hw : wordB ⟨kx, nx⟩ = (decide ((1 : Int) ≤ nx) && decide (nx ≤ 16384)) := (if_neg (fun h => e1 (h1.1 h))).trans (if_pos (h2.2 e2))
      rw [hw]
      have d2 : ((kn : Int) == 2) = true := by simp; omega
      obtain ⟨b1, hb1⟩ : ∃ b, decide ((1 : Int) ≤ nx) = b := ⟨_, rfl⟩
      obtain ⟨b2, hb2⟩ : ∃ b, decide (nx ≤ (16384 : Int)) = b := ⟨_, rfl⟩
      rw [hb1, hb2]
      clear hw h1 h2 hkn hbv e1 e2
      cases b1 <;> cases b2
      all_goals
        go_enter Try.func34, Try.ntmps34
        go_wp2_with fail
        go_ret
        exact ⟨rfl, HB.out⟩
    · have hw : wordB ⟨kx, nx⟩ = false := (if_neg (fun h => e1 (h1.1 h))).trans (if_neg (fun h => e2 (h2.1 h)))
      rw [hw]
      have d2 : ((kn : Int) == 2) = false := by simp; omega
      clear hw h1 h2 hkn hbv e1 e2
      go_enter Try.func34, Try.ntmps34
      go_wp2_with fail
      go_ret
      exact ⟨rfl, HB.out⟩
end Go.Proofs.Ytobfglnopihibaa
