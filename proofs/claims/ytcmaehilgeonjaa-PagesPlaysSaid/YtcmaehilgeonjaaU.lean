/- pages: Copy of a map that is none; the reference's. -/
import Derived.Test.YtcmaehilgeonjaaT
namespace Go.Proofs.Ytcmaehilgeonjaa
open Go.RowKit Pgs
set_option maxRecDepth 20000 in
theorem copy_nil (w : World) : Calls Try.prog 13 #[.pointer none] w fun e w' => e = .returned (.pointer none) ∧ w = w' := by
  go_enter Try.func13, Try.ntmps13
  go_wp2_with fail
  go_ret
  exact ⟨rfl, rfl⟩
end Go.Proofs.Ytcmaehilgeonjaa
