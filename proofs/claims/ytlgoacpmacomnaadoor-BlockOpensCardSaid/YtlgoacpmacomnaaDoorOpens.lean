/- BlockOpens. -/
import Derived.Test.YtlgoacpmacomnaaDoorSeals
namespace Go.Proofs.YtlgoacpmacomnaaDoor
open Go.RowKit Crc

set_option maxRecDepth 20000 in
set_option maxHeartbeats 2000000 in
theorem opens_any (A : Option Addr) (len cap : Nat) (bs : List UInt8) (w : World) (hlen : bs.length = len) (hA : Bytes w A bs) (hcap : len ≤ cap ∧ cap ≤ 9223372036854775807) (hT : Tab w) :
    Calls Tryd.prog 4 #[.slice A len cap] w fun e W' => e = .returned (.bool true) ∧ Below w.heap.size w W' := by
  have HW := Lib.hid (works_any w hT)
  by_cases hbig : 4096 < len
  · have hd : decide ((4096 : Int) < (len : Int)) = true := by simp; omega
    clear hA hT
    go_enter Tryd.func4, Tryd.ntmps4
    go_wp2_with fail
    refine HW.out.mono ?_
    rintro e w' ⟨rfl, hb⟩
    have HB := Lib.hid hb
    clear hb
    go_wp2_with fail
    go_ret
    exact ⟨rfl, HB.out⟩
  have hd : decide ((4096 : Int) < (len : Int)) = false := by simp; omega
  have hl4 : len ≤ 4096 := by omega
  have HA := Lib.hid hA
  have HT := Lib.hid hT
  have HL := Lib.hid hlen
  have H0 := Lib.hid (roomy_any A len cap bs w hlen hA (by omega))
  clear hA hT hlen HW hbig
  go_enter Tryd.func4, Tryd.ntmps4
  go_wp2_with fail
  refine H0.out.mono ?_
  rintro e w1 ⟨g0, rfl, hg0, hR0, hb1⟩
  have HB1 := Lib.hid hb1
  have HR0 := Lib.hid hR0
  have HG0 := Lib.hid hg0
  have hin : Rw w1 g0 len (len + 6) bs := by
    have := hR0.take len (by omega)
    rwa [List.take_left' HL.out] at this
  have HIN := Lib.hid hin
  have H1 := Lib.hid (open_any (some ⟨g0, 0, none⟩) len (len + 6) bs w1 HL.out hin.bytes (by omega) (HT.out.below hb1))
  clear H0 hg0 hR0 hb1 hin
  go_wp2_with fail
  refine H1.out.mono ?_
  rintro e w2 ⟨⟨k, body, g1, hblk, rfl, hg1, hR1⟩ | ⟨hno, rfl⟩, hb2⟩
  · have HB2 := Lib.hid (HB1.out.trans (hb2.mono HB1.out.size))
    have HBK := Lib.hid hblk
    have hb248 := hblk.2.2.1
    obtain ⟨N, hN⟩ : ∃ N, body.length = N := ⟨_, rfl⟩
    have hRr := Rw.of_row hR1 (by rw [hN]; unfold maxLen; omega)
    rw [hN] at hRr hb248
    have HLN := Lib.hid hN
    have HR1 := Lib.hid hRr
    have HIN2 := Lib.hid (HIN.out.below hb2)
    have HR02 := Lib.hid (HR0.out.below hb2)
    have HG1 : Hid (g0 < g1) := Lib.hid (Nat.lt_of_lt_of_le HIN.out.lt hg1)
    have H2 := Lib.hid (refopen_any A len cap bs w2 HL.out (HA.out.below HB2.out) hcap)
    rw [hN]
    clear H1 hg1 hR1 hb2 hRr hblk hN
    go_wp2_with fail
    refine H2.out.mono ?_
    rintro e w3 ⟨⟨k2, body2, A3, c3, hblk2, rfl, hown3⟩ | ⟨hno, _⟩, hb3⟩
    · obtain ⟨rfl, rfl⟩ := isBlk_one HBK.out hblk2
      have HB3 := Lib.hid (HB2.out.trans (hb3.mono HB2.out.size))
      have hcap3 := own_cap hown3
      unfold maxLen at hcap3
      have hby3 := Bytes.of_own hown3
      rw [HLN.out] at hcap3
      rw [HLN.out]
      have HR13 := Lib.hid (HR1.out.below hb3)
      have HIN3 := Lib.hid (HIN2.out.below hb3)
      have HR03 := Lib.hid (HR02.out.below hb3)
      have h3 := eq_any (some ⟨g1, 0, none⟩) A3 N N N c3 body body w3 HLN.out HLN.out HR13.out.bytes hby3 (by omega) (by omega)
      rw [decide_eq_true (rfl : body = body)] at h3
      have H3 := Lib.hid h3
      clear H2 hown3 hb3 h3 hby3 hblk2
      go_wp2_with fail
      refine H3.out.mono ?_
      rintro e w4 ⟨rfl, hb4⟩
      have HB4 := Lib.hid (HB3.out.trans (hb4.mono HB3.out.size))
      have HR14 := Lib.hid (HR13.out.below hb4)
      have HIN4 := Lib.hid (HIN3.out.below hb4)
      have H4 := Lib.hid (kept_any g0 len A cap bs w4 HL.out (HR03.out.below hb4) (HA.out.below HB4.out) hcap (by omega))
      clear H3 hb4
      go_wp2_with fail
      refine H4.out.mono ?_
      rintro e w5 ⟨rfl, hb5⟩
      have HB5 := Lib.hid (HB4.out.trans (hb5.mono HB4.out.size))
      have HR15 := Lib.hid (HR14.out.below hb5)
      have HIN5 := Lib.hid (HIN4.out.below hb5)
      clear H4 hb5
      obtain ⟨wz, hwz⟩ : ∃ wz, w5.alloc (.cells #[.slice (some ⟨g1, 0, none⟩) N N, .slice (some ⟨g0, 0, none⟩) len (len + 6)] 22) = wz := ⟨_, rfl⟩
      have hbz : Below w5.heap.size w5 wz := by rw [← hwz]; exact (Below.refl _ _).alloc (Nat.le_refl _) _
      have hcz : Blk wz w5.heap.size 22 #[.slice (some ⟨g1, 0, none⟩) N N, .slice (some ⟨g0, 0, none⟩) len (len + 6)] := by rw [← hwz]; exact Blk.new _ _ _
      have HBZ := Lib.hid (HB5.out.trans (hbz.mono HB5.out.size))
      have H6 := Lib.hid (apart_any w5.heap.size 2 2 w.heap.size [⟨some ⟨g1, 0, none⟩, N, N, body⟩, ⟨some ⟨g0, 0, none⟩, len, len + 6, bs⟩] wz rfl (by decide) (by decide) (by
          constructor
          · intro j k' it jt g hjk hj hk' hg hg'
            rcases j with _ | _ | j <;> rcases k' with _ | _ | k' <;> first
              | omega
              | (simp at hj; done)
              | (simp at hk'; done)
              | (cases hj; cases hk'; simp [Itm.home] at hg hg' <;> (have := HG1.out; omega))
          · intro j it hj e
            rcases j with _ | _ | j <;> first
              | (simp at hj; done)
              | (cases hj; simp [Itm.home] at e <;> (have := HIN5.out.lt; have := HR15.out.lt; omega))
          · intro j it hj
            rcases j with _ | _ | j <;> first
              | (simp at hj; done)
              | (cases hj; dsimp only; omega)) HBZ.out.size hcz.lt
        (fun j it hj => by
          rw [hcz.cell j]
          rcases j with _ | _ | j
          · cases hj; rfl
          · cases hj; rfl
          · simp at hj)
        (fun j it hj => by
          rcases j with _ | _ | j
          · cases hj; exact .inr ⟨g1, rfl, Nat.le_trans HG0.out (Nat.le_of_lt HG1.out), HR15.out.below hbz⟩
          · cases hj; exact .inr ⟨g0, rfl, HG0.out, HIN5.out.below hbz⟩
          · simp at hj))
      clear hcz hbz
      go_wp2_with fail
      refine H6.out.mono ?_
      rintro e wy ⟨rfl, hby⟩
      have HBY := Lib.hid (HBZ.out.trans hby)
      have H7 := Lib.hid (works_any wy (HT.out.below HBY.out))
      clear H6 hby
      go_wp2_with fail
      refine H7.out.mono ?_
      rintro e wx ⟨rfl, hbx⟩
      have HBX := Lib.hid (HBY.out.trans (hbx.mono HBY.out.size))
      clear hbx
      go_wp2_with fail
      go_ret
      exact ⟨rfl, HBX.out⟩
    · exact absurd HBK.out (hno _ _)
  · have HB2 := Lib.hid (HB1.out.trans (hb2.mono HB1.out.size))
    have HNO := Lib.hid hno
    have HIN2 := Lib.hid (HIN.out.below hb2)
    have HR02 := Lib.hid (HR0.out.below hb2)
    have H2 := Lib.hid (refopen_any A len cap bs w2 HL.out (HA.out.below HB2.out) hcap)
    clear H1 hb2 hno
    go_wp2_with fail
    refine H2.out.mono ?_
    rintro e w3 ⟨⟨k2, body2, A3, c3, hblk2, _⟩ | ⟨_, rfl⟩, hb3⟩
    · exact absurd hblk2 (HNO.out _ _)
    · have HB3 := Lib.hid (HB2.out.trans (hb3.mono HB2.out.size))
      have HIN3 := Lib.hid (HIN2.out.below hb3)
      have HR03 := Lib.hid (HR02.out.below hb3)
      have h3 := eq_any none none 0 0 0 0 [] [] w3 rfl rfl (Bytes.nil _ _) (Bytes.nil _ _) (by decide) (by decide)
      rw [decide_eq_true (rfl : ([] : List UInt8) = [])] at h3
      have H3 := Lib.hid h3
      clear H2 hb3 h3
      go_wp2_with fail
      refine H3.out.mono ?_
      rintro e w4 ⟨rfl, hb4⟩
      have HB4 := Lib.hid (HB3.out.trans (hb4.mono HB3.out.size))
      have HIN4 := Lib.hid (HIN3.out.below hb4)
      have H4 := Lib.hid (kept_any g0 len A cap bs w4 HL.out (HR03.out.below hb4) (HA.out.below HB4.out) hcap (by omega))
      clear H3 hb4
      go_wp2_with fail
      refine H4.out.mono ?_
      rintro e w5 ⟨rfl, hb5⟩
      have HB5 := Lib.hid (HB4.out.trans (hb5.mono HB4.out.size))
      have HIN5 := Lib.hid (HIN4.out.below hb5)
      clear H4 hb5
      obtain ⟨wz, hwz⟩ : ∃ wz, w5.alloc (.cells #[.slice none 0 0, .slice (some ⟨g0, 0, none⟩) len (len + 6)] 22) = wz := ⟨_, rfl⟩
      have hbz : Below w5.heap.size w5 wz := by rw [← hwz]; exact (Below.refl _ _).alloc (Nat.le_refl _) _
      have hcz : Blk wz w5.heap.size 22 #[.slice none 0 0, .slice (some ⟨g0, 0, none⟩) len (len + 6)] := by rw [← hwz]; exact Blk.new _ _ _
      have HBZ := Lib.hid (HB5.out.trans (hbz.mono HB5.out.size))
      have H6 := Lib.hid (apart_any w5.heap.size 2 2 w.heap.size [⟨none, 0, 0, []⟩, ⟨some ⟨g0, 0, none⟩, len, len + 6, bs⟩] wz rfl (by decide) (by decide) (by
          constructor
          · intro j k' it jt g hjk hj hk' hg hg'
            rcases j with _ | _ | j <;> rcases k' with _ | _ | k' <;> first
              | omega
              | (simp at hj; done)
              | (simp at hk'; done)
              | (cases hj; cases hk'; simp [Itm.home] at hg hg' <;> omega)
          · intro j it hj e
            rcases j with _ | _ | j <;> first
              | (simp at hj; done)
              | (cases hj; simp [Itm.home] at e <;> (have := HIN5.out.lt; omega))
          · intro j it hj
            rcases j with _ | _ | j <;> first
              | (simp at hj; done)
              | (cases hj; dsimp only; omega)) HBZ.out.size hcz.lt
        (fun j it hj => by
          rw [hcz.cell j]
          rcases j with _ | _ | j
          · cases hj; rfl
          · cases hj; rfl
          · simp at hj)
        (fun j it hj => by
          rcases j with _ | _ | j
          · cases hj; exact .inl ⟨rfl, rfl, rfl, rfl⟩
          · cases hj; exact .inr ⟨g0, rfl, HG0.out, HIN5.out.below hbz⟩
          · simp at hj))
      clear hcz hbz
      go_wp2_with fail
      refine H6.out.mono ?_
      rintro e wy ⟨rfl, hby⟩
      have HBY := Lib.hid (HBZ.out.trans hby)
      have H7 := Lib.hid (works_any wy (HT.out.below HBY.out))
      clear H6 hby
      go_wp2_with fail
      refine H7.out.mono ?_
      rintro e wx ⟨rfl, hbx⟩
      have HBX := Lib.hid (HBY.out.trans (hbx.mono HBY.out.size))
      clear hbx
      go_wp2_with fail
      go_ret
      exact ⟨rfl, HBX.out⟩

end Go.Proofs.YtlgoacpmacomnaaDoor
