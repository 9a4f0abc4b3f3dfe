/- cache: a cache in memory; what refuses; use; New. -/
import Derived.Test.YtiemfhncadcemaaCa
namespace Go.Proofs.Ytiemfhncadcemaa
open Go.RowKit Dsk

/-- The head of a cache. -/
def CHead (w : World) (g dg mb most time : Nat) : Prop := Blk w g 66 #[.pointer (some ⟨dg, 0, none⟩), .int .i64 (most : Int), .map (some mb), .int .u64 (time : Int)]
theorem CHead.told {w : World} {g dg mb most time : Nat} (h : CHead w g dg mb most time) : w.cell? ⟨g, 0, none⟩ = some (.pointer (some ⟨dg, 0, none⟩)) ∧ w.cell? ⟨g, 1, none⟩ = some (.int .i64 (most : Int)) ∧ w.cell? ⟨g, 2, none⟩ = some (.map (some mb)) ∧ w.cell? ⟨g, 3, none⟩ = some (.int .u64 (time : Int)) ∧ (∀ i, w.frozen? ⟨g, i, none⟩ = false) :=
  ⟨Blk.cell h 0, Blk.cell h 1, Blk.cell h 2, Blk.cell h 3, Blk.frozen h⟩
def refC (D : DS) : Nat := if D.dead then 4 else 0
def refS (D : DS) (i : Int) : Nat := if D.dead then 4 else if i < 0 ∨ (D.S.length : Int) ≤ i then 1 else 0
theorem crefuses_nil (w : World) : Calls Try.prog 32 #[.pointer none] w fun e w' => e = .returned (.int .i64 2) ∧ w = w' := by
  go_enter Try.func32, Try.ntmps32
  go_wp2_with fail
  go_ret
  exact ⟨rfl, rfl⟩
theorem crefuses_any (g dg mb most time : Nat) (F : Nat → Prop) (D : DS) (w : World) (h : CHead w g dg mb most time) (hD : Disk w F dg D) :
    Calls Try.prog 32 #[.pointer (some ⟨g, 0, none⟩)] w fun e w' => e = .returned (.int .i64 (refC D : Int)) ∧ w = w' := by
  obtain ⟨c0, c1, c2, c3, _⟩ := h.told
  have H1 := hD.dead_
  obtain ⟨p, hp⟩ : ∃ p, D.dead = p := ⟨_, rfl⟩
  rw [hp] at H1
  have H1 := Lib.hid H1
  have HR : Hid (refC D = if p then 4 else 0) := Lib.hid (by unfold refC; rw [hp])
  clear h hD hp
  go_enter Try.func32, Try.ntmps32
  go_wp2_with fail
  refine H1.out.mono ?_
  rintro e w' ⟨rfl, rfl⟩
  cases p with
  | true =>
    go_wp2_with fail
    go_ret
    rw [HR.out]
    exact ⟨rfl, rfl⟩
  | false =>
    go_wp2_with fail
    go_ret
    rw [HR.out]
    exact ⟨rfl, rfl⟩
theorem crefusesS_nil (i : Int) (w : World) : Calls Try.prog 37 #[.pointer none, .int .i64 i] w fun e w' => e = .returned (.int .i64 2) ∧ w = w' := by
  have H1 := Lib.hid (crefuses_nil w)
  go_enter Try.func37, Try.ntmps37
  go_wp2_with fail
  refine H1.out.mono ?_
  rintro e w' ⟨rfl, rfl⟩
  go_wp2_with fail
  go_ret
  exact ⟨rfl, rfl⟩
theorem crefusesS_any (g dg mb most time : Nat) (i : Int) (F : Nat → Prop) (D : DS) (w : World) (h : CHead w g dg mb most time) (hD : Disk w F dg D) :
    Calls Try.prog 37 #[.pointer (some ⟨g, 0, none⟩), .int .i64 i] w fun e w' => e = .returned (.int .i64 (refS D i : Int)) ∧ w = w' := by
  obtain ⟨c0, c1, c2, c3, _⟩ := h.told
  have H1 := crefuses_any g dg mb most time F D w h hD
  have H2 := hD.sectors_
  obtain ⟨p, hp⟩ : ∃ p, D.dead = p := ⟨_, rfl⟩
  obtain ⟨n, hn⟩ : ∃ n, D.S.length = n := ⟨_, rfl⟩
  unfold refC at H1
  rw [hp] at H1
  rw [hn] at H2
  have HR : Hid (refS D i = if p then 4 else if i < 0 ∨ (n : Int) ≤ i then 1 else 0) := Lib.hid (by unfold refS; rw [hp, hn])
  have H2 := Lib.hid H2
  clear h hD hp hn
  cases p with
  | true =>
    replace H1 := Lib.hid (show Calls Try.prog 32 #[.pointer (some ⟨g, 0, none⟩)] w fun e w' => e = .returned (.int .i64 4) ∧ w = w' from H1)
    go_enter Try.func37, Try.ntmps37
    go_wp2_with fail
    refine H1.out.mono ?_
    rintro e w' ⟨rfl, rfl⟩
    go_wp2_with fail
    go_ret
    rw [HR.out]
    exact ⟨rfl, rfl⟩
  | false =>
    replace H1 := Lib.hid (show Calls Try.prog 32 #[.pointer (some ⟨g, 0, none⟩)] w fun e w' => e = .returned (.int .i64 0) ∧ w = w' from H1)
    by_cases hi : i < 0
    · have hd : decide (i < 0) = true := by simpa using hi
      have HR2 : Hid (refS D i = 1) := Lib.hid (by rw [HR.out, if_neg (by decide), if_pos (.inl hi)])
      clear HR hi
      go_enter Try.func37, Try.ntmps37
      go_wp2_with fail
      refine H1.out.mono ?_
      rintro e w' ⟨rfl, rfl⟩
      go_wp2_with fail
      go_ret
      rw [HR2.out]
      exact ⟨rfl, rfl⟩
    · have hd : decide (i < 0) = false := by simpa using hi
      by_cases h2 : (n : Int) ≤ i
      · have hd2 : decide (i ≥ (n : Int)) = true := by simpa using h2
        have HR2 : Hid (refS D i = 1) := Lib.hid (by rw [HR.out, if_neg (by decide), if_pos (.inr h2)])
        clear HR hi h2
        go_enter Try.func37, Try.ntmps37
        go_wp2_with fail
        refine H1.out.mono ?_
        rintro e w' ⟨rfl, rfl⟩
        go_wp2_with fail
        refine H2.out.mono ?_
        rintro e w' ⟨rfl, rfl⟩
        go_wp2_with fail
        go_ret
        rw [HR2.out]
        exact ⟨rfl, rfl⟩
      · have hd2 : decide (i ≥ (n : Int)) = false := by simpa using h2
        have HR2 : Hid (refS D i = 0) := Lib.hid (by rw [HR.out, if_neg (by decide), if_neg (fun h => by rcases h with h | h; exact hi h; exact h2 h)])
        clear HR hi h2
        go_enter Try.func37, Try.ntmps37
        go_wp2_with fail
        refine H1.out.mono ?_
        rintro e w' ⟨rfl, rfl⟩
        go_wp2_with fail
        refine H2.out.mono ?_
        rintro e w' ⟨rfl, rfl⟩
        go_wp2_with fail
        go_ret
        rw [HR2.out]
        exact ⟨rfl, rfl⟩
end Go.Proofs.Ytiemfhncadcemaa
