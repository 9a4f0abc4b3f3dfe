/- CopyBytes, tail, Roomy. -/
import Derived.Test.YtdnmdccjecoojaaDoorZa
import Derived.Lib.ConvBytes
import Derived.Lib.SlBytesConst
import Derived.Lib.SmallJoins
namespace Go.Proofs.YtdnmdccjecoojaaDoor
open Go.RowKit

def behind : List UInt8 := [98, 101, 104, 105, 110, 100]

theorem tail_any (w : World) : Calls Tryd.prog 21 #[] w fun e w' => e = .returned (.slice (some ⟨w.heap.size, 0, none⟩) 6 6) ∧ Bytes w' (some ⟨w.heap.size, 0, none⟩) behind ∧ Below w.heap.size w w' := by
  have hcv := fun W : World => Lib.run_convert_bytes_const (P := Tryd.prog) W 22 5 #[.int .u8 98, .int .u8 101, .int .u8 104, .int .u8 105, .int .u8 110, .int .u8 100] 6 6 Tryd.underlying22 Tryd.underlying5
  have hby : Bytes (w.alloc (.cells #[.int .u8 98, .int .u8 101, .int .u8 104, .int .u8 105, .int .u8 110, .int .u8 100] 5 (6, 7))) (some ⟨w.heap.size, 0, none⟩) behind := fun k c hk => by
    refine ⟨w.heap.size, 0, rfl, by simp, ?_⟩
    have h := World.cell?_alloc_mark w #[.int .u8 98, .int .u8 101, .int .u8 104, .int .u8 105, .int .u8 110, .int .u8 100] 5 (6, 7) (0 + k)
    refine h.trans ?_
    have hr := row8_get k c hk
    rw [Nat.zero_add]
    exact hr
  have HBY := Lib.hid hby
  have HB := Lib.hid ((Below.refl w.heap.size w).alloc (Nat.le_refl _) (.cells #[.int .u8 98, .int .u8 101, .int .u8 104, .int .u8 105, .int .u8 110, .int .u8 100] 5 (6, 7)))
  clear hby
  go_enter Tryd.func21, Tryd.ntmps21
  go_wp2_with fail
  go_ret
  exact ⟨rfl, HBY.out, HB.out⟩

set_option maxHeartbeats 400000 in
theorem roomy_any (A : Option Addr) (len cap : Nat) (bs : List UInt8) (w : World) (hlen : bs.length = len) (hA : Bytes w A bs) (hl : len ≤ 70368744177664) :
    Calls Tryd.prog 10 #[.slice A len cap] w fun e w' => ∃ g, e = .returned (.slice (some ⟨g, 0, none⟩) len (len + 6)) ∧ w.heap.size ≤ g ∧ Rw w' g (len + 6) (len + 6) (bs ++ behind) ∧ Below w.heap.size w w' := by
  have H1 := Lib.hid (copy_any A len cap bs w hlen hA (by unfold maxLen; omega))
  clear hA hlen
  go_enter Tryd.func10, Tryd.ntmps10
  go_wp2_with fail
  refine H1.out.mono ?_
  rintro e w1 ⟨c1, rfl, hR1, hb1⟩
  have HR1 := Lib.hid hR1
  have HB1 := Lib.hid hb1
  have H2 := Lib.hid (tail_any w1)
  clear H1 hR1 hb1
  go_wp2_with fail
  refine H2.out.mono ?_
  rintro e w2 ⟨rfl, hby2, hb2⟩
  have hR2 := HR1.out.below hb2
  have hB2 := HB1.out.trans (hb2.mono HB1.out.size)
  obtain ⟨g, c', w3, hrun, hR3, _, hor, _, hbel⟩ := run_rwapp hR2 w1.heap.size 0 6 6 (xs := behind) rfl (fun j u hu => by
    obtain ⟨b, off, e, _, hc⟩ := hby2 j u hu
    cases e
    exact hc) (by omega)
  have hg : w.heap.size ≤ g := by
    rcases hor with ⟨rfl, _⟩ | rfl
    · exact Nat.le_refl _
    · exact hB2.size
  have hle := hR3.le
  have HRUN := Lib.hid hrun
  have HR3 : Hid (Rw w3 g (len + 6) (len + 6) (bs ++ behind)) := Lib.hid ⟨hR3.lt, hR3.long, Nat.le_refl _, Nat.le_trans hR3.le hR3.max, hR3.holds, fun j hj => hR3.there j (by omega)⟩
  have HB3 := Lib.hid (hB2.trans (hbel _ (Nat.le_refl _)))
  have hci : (len : Int) + 6 ≤ (c' : Int) := by omega
  clear H2 hby2 hb2 hR2 hB2 hrun hR3 hor hbel HR1 HB1
  go_wp2_with (at_builtin; refine wpList_app rfl _ _ 22 rfl _ _ _ _ rfl rfl HRUN.out ?_; clear HRUN)
  go_ret
  exact ⟨g, rfl, hg, HR3.out, HB3.out⟩

end Go.Proofs.YtdnmdccjecoojaaDoor
