/- TokenBack: Alike. -/
import Derived.Test.YtdnmdccjecoojaaDoorMd
namespace Go.Proofs.YtdnmdccjecoojaaDoor
open Go.RowKit Tok
set_option maxRecDepth 20000 in
set_option maxHeartbeats 2000000 in
theorem alike_any (A B : Option Addr) (n c c' : Nat) (l m : List (Tk × Nat)) (w : World) (hn : l.length = n) (hm : m.map (·.1) = l.map (·.1)) (hA : Toks w A l) (hB : Toks w B m) (hl : n ≤ 100000) :
    Calls Tryd.prog 18 #[.slice A n c, .slice B n c'] w fun e w' => e = .returned (.bool true) ∧ Below w.heap.size w w' := by
  have hml : m.length = n := by have := congrArg List.length hm; simpa [hn] using this
  have HN := Lib.hid hn
  have HM := Lib.hid hml
  have HE := Lib.hid hm
  have HA := Lib.hid hA
  have HBW := Lib.hid hB
  have HB0 : Hid (Below w.heap.size w w) := Lib.hid (Below.refl _ _)
  clear hA hB hn hm hml
  go_enter Tryd.func18, Tryd.ntmps18
  go_wp2_with fail
  go_loopw [5] (fun iv wr => ∃ i : Nat, i ≤ n ∧ iv = .int .i64 (i : Int) ∧ Hid (Below w.heap.size w wr)) (fun iv _ => n - (intOf iv).toNat)
  case atStart => exact ⟨0, Nat.zero_le _, rfl, HB0⟩
  case round =>
    clear HB0
    obtain ⟨i, hi, rfl, hI⟩ := hrel
    by_cases hlt : i < n
    · have hd : decide ((i : Int) < (n : Int)) = true := by simpa using hlt
      obtain ⟨x, hx⟩ : ∃ x, l[i]? = some x := ⟨_, List.getElem?_eq_getElem (by rw [HN.out]; exact hlt)⟩
      obtain ⟨y, hy⟩ : ∃ y, m[i]? = some y := ⟨_, List.getElem?_eq_getElem (by rw [HM.out]; exact hlt)⟩
      have hxy : y.1 = x.1 := by
        have := congrArg (·[i]?) HE.out
        simpa [hx, hy] using this
      have hAw := HA.out.below hI.out
      have hBw := HBW.out.below hI.out
      obtain ⟨bx, off, rfl, hblt, e0, e1, e2, e3⟩ := hAw i x hx
      obtain ⟨by_, off', rfl, hblt', y0, y1, y2, y3⟩ := hBw i y hy
      obtain ⟨⟨kx, tx, nx⟩, ax⟩ := x
      obtain ⟨ty, ay⟩ := y
      dsimp only at hxy
      subst hxy
      dsimp only at e0 e1 e2 e3 y0 y1 y2 y3
      obtain ⟨un, hun⟩ : ∃ un, kx.toNat = un := ⟨_, rfl⟩
      have hbv : bv kx = .int .u8 (un : Int) := by rw [← hun]; rfl
      rw [hbv] at e0 y0
      obtain ⟨sx, hsx⟩ : ∃ sx, str tx = sx := ⟨_, rfl⟩
      rw [hsx] at e1 y1
      obtain ⟨g, hg⟩ : ∃ g, wr.heap.size = g := ⟨_, rfl⟩
      obtain ⟨w1, hw1⟩ : ∃ w1, wr.alloc (.cells #[.int .u8 0, .string ⟨#[]⟩, .int .i64 0, .int .i64 0] 34) = w1 := ⟨_, rfl⟩
      have hR1 : Blk w1 g 34 #[.int .u8 0, .string ⟨#[]⟩, .int .i64 0, .int .i64 0] := by rw [← hw1, ← hg]; exact Blk.new _ _ _
      have hb1 : Below g wr w1 := by rw [← hw1]; exact (Below.refl _ _).alloc (by omega) _
      obtain ⟨wa, hwa⟩ : ∃ wa, w1.setCell ⟨g, 0, none⟩ (.int .u8 (un : Int)) = wa := ⟨_, rfl⟩
      have hRa : Blk wa g 34 #[.int .u8 (un : Int), .string ⟨#[]⟩, .int .i64 0, .int .i64 0] := by rw [← hwa]; exact hR1.set_ 0 _
      obtain ⟨wb, hwb⟩ : ∃ wb, wa.setCell ⟨g, 1, none⟩ (.string sx) = wb := ⟨_, rfl⟩
      have hRb : Blk wb g 34 #[.int .u8 (un : Int), .string sx, .int .i64 0, .int .i64 0] := by rw [← hwb]; exact hRa.set_ 1 _
      obtain ⟨wc, hwc⟩ : ∃ wc, wb.setCell ⟨g, 2, none⟩ (.int .i64 (nx : Int)) = wc := ⟨_, rfl⟩
      have hRc : Blk wc g 34 #[.int .u8 (un : Int), .string sx, .int .i64 (nx : Int), .int .i64 0] := by rw [← hwc]; exact hRb.set_ 2 _
      obtain ⟨w2, hw2⟩ : ∃ w2, wc.setCell ⟨g, 3, none⟩ (.int .i64 (ax : Int)) = w2 := ⟨_, rfl⟩
      have hR2 : Blk w2 g 34 #[.int .u8 (un : Int), .string sx, .int .i64 (nx : Int), .int .i64 (ax : Int)] := by rw [← hw2]; exact hRc.set_ 3 _
      have hb2 : Below g wr w2 := by rw [← hw2, ← hwc, ← hwb, ← hwa]; exact below_put4 hb1 (Nat.le_refl _)
      have ca := hR1.cell 0
      have cb := hRa.cell 1
      have cc := hRb.cell 2
      have cd := hRc.cell 3
      have fa := hR1.frozen
      have fb := hRa.frozen
      have fc := hRb.frozen
      have fd := hRc.frozen
      obtain ⟨w3, hw3⟩ : ∃ w3, w2.setCell ⟨g, 3, none⟩ (.int .i64 (ay : Int)) = w3 := ⟨_, rfl⟩
      have hR3 : Blk w3 g 34 #[.int .u8 (un : Int), .string sx, .int .i64 (nx : Int), .int .i64 (ay : Int)] := by rw [← hw3]; exact hR2.set_ 3 _
      have hb3 : Below g wr w3 := by rw [← hw3]; exact hb2.setCell (p := ⟨g, 3, none⟩) (Nat.le_refl _) _
      rw [hg] at hblt hblt'
      have q3 := (hb2.cell (p := ⟨by_, off' + i * 4 + 3, none⟩) hblt').trans y3
      have z0 := (hb3.cell (p := ⟨by_, off' + i * 4, none⟩) hblt').trans y0
      have z1 := (hb3.cell (p := ⟨by_, off' + i * 4 + 1, none⟩) hblt').trans y1
      have z2 := (hb3.cell (p := ⟨by_, off' + i * 4 + 2, none⟩) hblt').trans y2
      have z3 := (hb3.cell (p := ⟨by_, off' + i * 4 + 3, none⟩) hblt').trans y3
      obtain ⟨s0, s1, s2, s3, fr2⟩ := hR2.told4
      obtain ⟨r0, r1, r2, r3, fr3⟩ := hR3.told4
      have HBN : Hid (∀ q, Below w.heap.size w (w3.drewN q)) := Lib.hid (fun q => by
        have h1 : Below w.heap.size w w3 := hI.out.trans (hb3.mono (by rw [← hg]; exact hI.out.size))
        exact h1.trans ((drewN_below w3 q).mono h1.size))
      clear hx hy hbv hun hsx y0 y1 y2 y3 hR1 hR2 hR3 hb1 hb2 hb3 hAw hBw hI hRa hRb hRc
      go_wp2_with fail
      go_quiet (fail)
      go_wp2_with fail
      go_roundw
      case rel => exact ⟨i + 1, by omega, by go_num, Lib.hid (HBN.out _)⟩
      case measure => simp [intOf]; omega
    · obtain rfl : n = i := by omega
      have hd : decide ((n : Int) < (n : Int)) = false := by simp
      have HB1 := Lib.hid hI.out
      clear hI
      go_wp2_with fail
      go_ret
      exact ⟨rfl, HB1.out⟩
end Go.Proofs.YtdnmdccjecoojaaDoor
