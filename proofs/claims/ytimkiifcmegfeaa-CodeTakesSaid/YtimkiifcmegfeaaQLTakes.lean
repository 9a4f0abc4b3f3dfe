/- The law, walked. -/
import Derived.Test.YtimkiifcmegfeaaBG
import Derived.Test.YtimkiifcmegfeaaBC
/- code: CodeTakes. -/
namespace Go.Proofs.Ytimkiifcmegfeaa
open Go.RowKit
set_option linter.unusedVariables false
set_option linter.unusedSimpArgs false
attribute [local go_sem] Oper.semAt_some
theorem str_of (b : ByteArray) : ∃ s, str s = b ∧ s.length = b.size := ⟨b.data.toList, by unfold str; cases b; simp, by cases b; simp [ByteArray.size]⟩
set_option maxRecDepth 20000 in
set_option maxHeartbeats 2000000 in
theorem takes_law (s : List UInt8) (w : World) : Calls Try.prog 5 #[.string (str s)] w fun e W' => e = .returned (.bool true) ∧ Below w.heap.size w W' := by
  have H1 := Lib.hid (takes_any s w)
  have H2 := Lib.hid (fun V => rtakes_any s V)
  have H3 := Lib.hid (fun V => works_any V)
  obtain ⟨n, hn⟩ : ∃ n, takesN s = n := ⟨_, rfl⟩
  obtain ⟨p, hp⟩ : ∃ p, decide (0 < n) = p := ⟨_, rfl⟩
  rw [hn, hp] at H1 H2
  have hpe : (p == p) = true := by simp
  clear hn hp
  go_enter Try.func5, Try.ntmps5
  go_wp2_with fail
  refine H1.out.mono ?_
  rintro e w1 ⟨rfl, hb1⟩
  have HB := Lib.hid hb1
  clear hb1
  go_wp2_with fail
  refine (H2.out _).mono ?_
  rintro e w2 ⟨rfl, rfl⟩
  go_wp2_with fail
  refine (H3.out _).mono ?_
  rintro e w3 ⟨rfl, hb3⟩
  have HB := Lib.hid (HB.out.trans (hb3.mono HB.out.size))
  clear hb3
  go_wp2_with fail
  go_ret
  exact ⟨rfl, HB.out⟩
end Go.Proofs.Ytimkiifcmegfeaa
