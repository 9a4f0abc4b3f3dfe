/- DiskLasts. -/
import Derived.Test.YtdohfkblmadejaaLb
namespace Go.Proofs.Ytdohfkblmadejaa
open Go.RowKit Go.ChangeShapes Go.WideShapes Dsk

def zeroCr : Value := .agg #[.slice none 0 0, .int .i64 0]
def OpenedCr (w : World) (v : Value) : Prop := ∃ K kl kc torn ks, v = .agg #[.slice K kl kc, .int .i64 torn] ∧ ks.length = kl ∧ Ints w K ks
theorem openedCr {H : Type} {enc : TypeId × Value → H} {W : World} {v : Value} {d : DataW H} {p : List MemPlace} (hok : Value.okWide Try.prog W .any 0 59 v)
    (h : DataW.Trod enc Try.prog W 0 (fun _ => true) true 59 v d p) : OpenedCr W v := by
  obtain ⟨v0, v1, y0, y1, n, rfl, _, _, t0, t1⟩ := Joins.open_agg2 Try.underlying59 (by kernel_rfl) (by kernel_rfl) hok h
  obtain ⟨K, kl, kc, ks, rfl, hl, _, _, hk⟩ := ints_in t0
  obtain ⟨t, e1, _, _⟩ := DataW.trod_int Try.underlying3 t1
  simp at e1
  exact ⟨K, kl, kc, t, ks, by rw [e1], hl, hk⟩

set_option maxRecDepth 20000 in
set_option maxHeartbeats 2000000 in
theorem lasts_any (len cap kl kc : Nat) (A K : Option Addr) (torn : Int) (ls : List St) (ks : List Int) (w : World) (hlen : ls.length = len) (hA : Steps w A ls) (hkl : ks.length = kl) (hK : Ints w K ks) :
    Calls Try.prog 6 #[.slice A len cap, .agg #[.slice K kl kc, .int .i64 torn]] w fun e W' => e = .returned (.bool true) ∧ Below w.heap.size w W' := by
  have hb0 : Below w.heap.size w (w.alloc (.cells #[.slice K kl kc, .int .i64 torn] 59)) := (Below.refl _ w).alloc (Nat.le_refl _) _
  have h0 := vast_any A len cap ls (w.alloc (.cells #[.slice K kl kc, .int .i64 torn] 59)) hlen (hA.below hb0)
  have HW := Lib.hid (works_any (w.alloc (.cells #[.slice K kl kc, .int .i64 torn] 59)))
  have HB0 := Lib.hid hb0
  cases hv : vastB ls
  · by_cases hk : kl ≤ 256
    · exact lasts_walk len cap kl kc A K torn ls ks w hlen hA hv hkl hk hK
    · rw [hv] at h0
      have H0 := Lib.hid h0
      have hd : decide ((256 : Int) < (kl : Int)) = true := by simp; omega
      clear hA hK h0 hb0 hk hv hlen hkl
      go_enter Try.func6, Try.ntmps6
      go_wp2_with fail
      refine H0.out.mono ?_
      rintro e w' ⟨rfl, rfl⟩
      go_wp2_with fail
      refine HW.out.mono ?_
      rintro e w2 ⟨rfl, hb⟩
      have HB := Lib.hid (HB0.out.trans (hb.mono HB0.out.size))
      clear hb
      go_wp2_with fail
      go_ret
      exact ⟨rfl, HB.out⟩
  · rw [hv] at h0
    have H0 := Lib.hid h0
    clear hA hK h0 hb0 hv hlen hkl
    go_enter Try.func6, Try.ntmps6
    go_wp2_with fail
    refine H0.out.mono ?_
    rintro e w' ⟨rfl, rfl⟩
    go_wp2_with fail
    refine HW.out.mono ?_
    rintro e w2 ⟨rfl, hb⟩
    have HB := Lib.hid (HB0.out.trans (hb.mono HB0.out.size))
    clear hb
    go_wp2_with fail
    go_ret
    exact ⟨rfl, HB.out⟩

end Go.Proofs.Ytdohfkblmadejaa
