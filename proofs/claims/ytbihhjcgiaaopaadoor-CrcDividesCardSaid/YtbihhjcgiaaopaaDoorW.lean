/- The anchor. -/
import Derived.Test.YtbihhjcgiaaopaaDoorT
import Derived.Lib.SmallJoins
namespace Go.Proofs.YtbihhjcgiaaopaaDoor
open Go.RowKit Crc

def digits : List UInt8 := [49, 50, 51, 52, 53, 54, 55, 56, 57]
theorem sum_digits : sumFrom 0 digits = 3421780262 := by decide +kernel
theorem sealed_digits : sealed digits = [49, 50, 51, 52, 53, 54, 55, 56, 57, 38, 57, 244, 203] := by decide +kernel

theorem digits_bytes (w : World) : Bytes (w.alloc (.cells #[.int .u8 49, .int .u8 50, .int .u8 51, .int .u8 52, .int .u8 53, .int .u8 54, .int .u8 55, .int .u8 56, .int .u8 57] 5 (9, 10))) (some ⟨w.heap.size, 0, none⟩) digits := fun k c hk => by
  refine ⟨w.heap.size, 0, rfl, by simp, ?_⟩
  have h := World.cell?_alloc_mark w #[.int .u8 49, .int .u8 50, .int .u8 51, .int .u8 52, .int .u8 53, .int .u8 54, .int .u8 55, .int .u8 56, .int .u8 57] 5 (9, 10) (0 + k)
  refine h.trans ?_
  have hr := row8_get k c hk
  rw [Nat.zero_add]
  exact hr
theorem run_lit (w : World) : (convert 23 23 (.slice (some ⟨w.heap.size, 0, none⟩) 9 9)).run Tryd.prog (w.alloc (.cells #[.int .u8 49, .int .u8 50, .int .u8 51, .int .u8 52, .int .u8 53, .int .u8 54, .int .u8 55, .int .u8 56, .int .u8 57] 5)) = .ok (.slice (some ⟨w.heap.size, 0, none⟩) 9 9) (w.alloc (.cells #[.int .u8 49, .int .u8 50, .int .u8 51, .int .u8 52, .int .u8 53, .int .u8 54, .int .u8 55, .int .u8 56, .int .u8 57] 5 (9, 10))) :=
  Lib.run_convert_bytes_const w 23 5 _ 9 9 Tryd.underlying23 Tryd.underlying5

set_option maxHeartbeats 400000 in
theorem works_any (w : World) (hT : Tab w) : Calls Tryd.prog 9 #[] w fun e W' => e = .returned (.bool true) ∧ Below w.heap.size w W' := by
  have hb0 : Below w.heap.size w (w.alloc (.cells #[.int .u8 49, .int .u8 50, .int .u8 51, .int .u8 52, .int .u8 53, .int .u8 54, .int .u8 55, .int .u8 56, .int .u8 57] 5 (9, 10))) := (Below.refl _ w).alloc (Nat.le_refl _) _
  have hs := seal_any (some ⟨w.heap.size, 0, none⟩) 9 digits _ (hT.below hb0) (digits_bytes w) (by decide)
  have hlen : digits.length = 9 := rfl
  rw [hlen] at hs
  have HS := Lib.hid hs
  have HB0 := Lib.hid hb0
  have HT := Lib.hid hT
  clear hs hb0 hT hlen
  have hcv := run_lit
  go_enter Tryd.func9, Tryd.ntmps9
  go_wp2_with fail
  refine HS.out.mono ?_
  rintro e w1 ⟨v, rfl, hown, hb1⟩
  rw [sealed_digits] at hown
  have hsz1 := hb1.size
  rw [World.size_alloc] at hsz1
  have hb2 := HB0.out.trans (hb1.mono (by simp))
  obtain ⟨g, c1, rfl, hg, hglt, hcell, hfz⟩ := own_form hown (by decide)
  have hc9 : w1.cell? ⟨g, 9, none⟩ = some (.int .u8 38) := hcell 9 _ rfl
  have hc12 : w1.cell? ⟨g, 12, none⟩ = some (.int .u8 203) := hcell 12 _ rfl
  obtain ⟨w2, hw2⟩ : ∃ w2, w1.alloc (.cells #[.int .u8 49, .int .u8 50, .int .u8 51, .int .u8 52, .int .u8 53, .int .u8 54, .int .u8 55, .int .u8 56, .int .u8 57] 5 (9, 10)) = w2 := ⟨_, rfl⟩
  have hb12 : Below w1.heap.size w1 w2 := by rw [← hw2]; exact (Below.refl _ w1).alloc (Nat.le_refl _) _
  have hd := digits_bytes w1
  rw [hw2] at hd
  have hT2 := (HT.out.below hb2).below hb12
  have hsum := sum_anyL (some ⟨w1.heap.size, 0, none⟩) 9 9 digits w2 rfl hT2 hd (by decide)
  rw [sum_digits] at hsum
  have hby : Bytes w2 (some ⟨g, 0, none⟩) _ := (Bytes.of_own hown).below hb12
  have hsum2 := sum_anyL (some ⟨g, 0, none⟩) 13 c1 _ w2 rfl hT2 hby (by decide)
  rw [← sealed_digits, sum_sealed] at hsum2
  have hc9' : w2.cell? ⟨g, 9, none⟩ = some (.int .u8 38) := (hb12.cell (p := ⟨g, 9, none⟩) hglt).trans hc9
  have hc12' : w2.cell? ⟨g, 12, none⟩ = some (.int .u8 203) := (hb12.cell (p := ⟨g, 12, none⟩) hglt).trans hc12
  have HB := Lib.hid (hb2.trans (hb12.mono (by omega)))
  have HS1 := Lib.hid hsum
  have HS2 := Lib.hid hsum2
  clear HS hown hb1 hb2 hcell hfz hc9 hc12 hd hb12 hT2 hsum hby hsum2
  go_wp2_with (first
    | (go_at_call 12; refine HS1.out.mono ?_; rintro e w' ⟨rfl, rfl⟩; clear HS1)
    | (go_at_call 12; refine HS2.out.mono ?_; rintro e w' ⟨rfl, rfl⟩; clear HS2))
  go_ret
  exact ⟨rfl, HB.out⟩

end Go.Proofs.YtbihhjcgiaaopaaDoor
