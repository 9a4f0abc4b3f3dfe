/- BlockSeals. -/
import Derived.Test.YtlgoacpmacomnaaDoorApart
namespace Go.Proofs.YtlgoacpmacomnaaDoor
open Go.RowKit Crc

theorem Rw.of_row {w : World} {g : Nat} {cs : List UInt8} (h : Blk w g 5 (row8 cs)) (hm : cs.length ≤ maxLen) : Rw w g cs.length cs.length cs := Rw.of_own (own_of_blk (base := 0) h rfl hm (Nat.zero_le _))

set_option maxRecDepth 20000 in
set_option maxHeartbeats 2000000 in
theorem seals_any (k : Nat) (A : Option Addr) (len cap : Nat) (bs : List UInt8) (w : World) (hk : k < 256) (hlen : bs.length = len) (hA : Bytes w A bs) (hcap : len ≤ cap ∧ cap ≤ 9223372036854775807) (hT : Tab w) :
    Calls Tryd.prog 3 #[.int .u8 (k : Int), .slice A len cap] w fun e W' => e = .returned (.bool true) ∧ Below w.heap.size w W' := by
  have HW := Lib.hid (works_any w hT)
  by_cases hbig : 4096 < len
  · have hd : decide ((4096 : Int) < (len : Int)) = true := by simp; omega
    clear hA hT
    go_enter Tryd.func3, Tryd.ntmps3
    go_wp2_with fail
    refine HW.out.mono ?_
    rintro e w' ⟨rfl, hb⟩
    have HB := Lib.hid hb
    clear hb
    go_wp2_with fail
    go_ret
    exact ⟨rfl, HB.out⟩
  have hd : decide ((4096 : Int) < (len : Int)) = false := by simp; omega
  have hl4 : len ≤ 4096 := by omega
  have HA := Lib.hid hA
  have HT := Lib.hid hT
  have HL := Lib.hid hlen
  have H0 := Lib.hid (roomy_any A len cap bs w hlen hA (by omega))
  clear hA hT hlen HW hbig
  go_enter Tryd.func3, Tryd.ntmps3
  go_wp2_with fail
  refine H0.out.mono ?_
  rintro e w1 ⟨g0, rfl, hg0, hR0, hb1⟩
  have HB1 := Lib.hid hb1
  have HR0 := Lib.hid hR0
  have HG0 := Lib.hid hg0
  have hin : Rw w1 g0 len (len + 6) bs := by
    have := hR0.take len (by omega)
    rwa [List.take_left' HL.out] at this
  have HIN := Lib.hid hin
  clear H0 hg0 hR0 hb1 hin
  by_cases hno : k = 0 ∨ 248 < len
  · have H1 := Lib.hid (seal_no k (some ⟨g0, 0, none⟩) len (len + 6) w1 hk hno)
    have H2 := Lib.hid (refseal_no k A len cap w1 hk hno)
    have h3 := eq_any none none 0 0 0 0 [] [] w1 rfl rfl (Bytes.nil _ _) (Bytes.nil _ _) (by decide) (by decide)
    rw [decide_eq_true (rfl : ([] : List UInt8) = [])] at h3
    have H3 := Lib.hid h3
    clear h3
    go_wp2_with (first
      | (go_at_call 11; refine H1.out.mono ?_; rintro e w' ⟨rfl, rfl⟩)
      | (go_at_call 12; refine H2.out.mono ?_; rintro e w' ⟨rfl, rfl⟩))
    refine H3.out.mono ?_
    rintro e w2 ⟨rfl, hb2⟩
    have HB2 := Lib.hid (HB1.out.trans (hb2.mono HB1.out.size))
    have H4 := Lib.hid (kept_any g0 len A cap bs w2 HL.out (HR0.out.below hb2) (HA.out.below HB2.out) hcap (by omega))
    have HIN2 := Lib.hid (HIN.out.below hb2)
    clear H2 H3 hb2
    go_wp2_with fail
    refine H4.out.mono ?_
    rintro e w3 ⟨rfl, hb3⟩
    have HB3 := Lib.hid (HB2.out.trans (hb3.mono HB2.out.size))
    have HIN3 := Lib.hid (HIN2.out.below hb3)
    have H5 := Lib.hid (seal_no k (some ⟨g0, 0, none⟩) len (len + 6) w3 hk (by assumption))
    clear H4 hb3 H1
    go_wp2_with (go_at_call 11; refine H5.out.mono ?_; rintro e w' ⟨rfl, rfl⟩)
    obtain ⟨wz, hwz⟩ : ∃ wz, w3.alloc (.cells #[.slice none 0 0, .slice none 0 0, .slice (some ⟨g0, 0, none⟩) len (len + 6)] 22) = wz := ⟨_, rfl⟩
    have hbz : Below w3.heap.size w3 wz := by rw [← hwz]; exact (Below.refl _ _).alloc (Nat.le_refl _) _
    have hcz : Blk wz w3.heap.size 22 #[.slice none 0 0, .slice none 0 0, .slice (some ⟨g0, 0, none⟩) len (len + 6)] := by rw [← hwz]; exact Blk.new _ _ _
    have HBZ := Lib.hid (HB3.out.trans (hbz.mono HB3.out.size))
    have H6 := Lib.hid (apart_any w3.heap.size 3 3 w.heap.size [⟨none, 0, 0, []⟩, ⟨none, 0, 0, []⟩, ⟨some ⟨g0, 0, none⟩, len, len + 6, bs⟩] wz rfl (by decide) (by decide) (by
        constructor
        · intro j k' it jt g hjk hj hk' hg hg'
          rcases j with _ | _ | _ | j <;> rcases k' with _ | _ | _ | k' <;> first
            | omega
            | (simp at hj; done)
            | (simp at hk'; done)
            | (cases hj; cases hk'; simp [Itm.home] at hg hg' <;> omega)
        · intro j it hj e
          rcases j with _ | _ | _ | j <;> first
            | (simp at hj; done)
            | (cases hj; simp [Itm.home] at e <;> (have := HIN3.out.lt; omega))
        · intro j it hj
          rcases j with _ | _ | _ | j <;> first
            | (simp at hj; done)
            | (cases hj; dsimp only; omega)) HBZ.out.size hcz.lt
      (fun j it hj => by
        rw [hcz.cell j]
        rcases j with _ | _ | _ | j
        · cases hj; rfl
        · cases hj; rfl
        · cases hj; rfl
        · simp at hj)
      (fun j it hj => by
        rcases j with _ | _ | _ | j
        · cases hj; exact .inl ⟨rfl, rfl, rfl, rfl⟩
        · cases hj; exact .inl ⟨rfl, rfl, rfl, rfl⟩
        · cases hj; exact .inr ⟨g0, rfl, HG0.out, HIN3.out.below hbz⟩
        · simp at hj))
    clear hcz hbz
    rw [hwz]
    refine H6.out.mono ?_
    rintro e wy ⟨rfl, hby⟩
    have HBY := Lib.hid (HBZ.out.trans hby)
    have H7 := Lib.hid (works_any wy (HT.out.below HBY.out))
    clear H6 hby
    go_wp2_with fail
    refine H7.out.mono ?_
    rintro e wx ⟨rfl, hbx⟩
    have HBX := Lib.hid (HBY.out.trans (hbx.mono HBY.out.size))
    clear hbx
    go_wp2_with fail
    go_ret
    exact ⟨rfl, HBX.out⟩
  · have hk0 : k ≠ 0 := by omega
    have h248 : len ≤ 248 := by omega
    have H1 := Lib.hid (seal_yes k (some ⟨g0, 0, none⟩) len (len + 6) bs w1 hk hk0 HL.out h248 HIN.out.bytes (HT.out.below HB1.out))
    have HLN : Hid ((blockOf k bs).length = 256) := Lib.hid (blockOf_length k bs (by rw [HL.out]; exact h248))
    obtain ⟨cs, hcs⟩ : ∃ cs, blockOf k bs = cs := ⟨_, rfl⟩
    rw [hcs] at H1 HLN
    have HCS := Lib.hid hcs
    clear hno hcs
    go_wp2_with fail
    refine H1.out.mono ?_
    rintro e w2 ⟨g1, rfl, hg1, hR1, hb2⟩
    have HB2 := Lib.hid (HB1.out.trans (hb2.mono HB1.out.size))
    have hRr := Rw.of_row hR1 (by rw [HLN.out]; decide)
    rw [HLN.out] at hRr
    have HR1 := Lib.hid hRr
    have HIN2 := Lib.hid (HIN.out.below hb2)
    have HR02 := Lib.hid (HR0.out.below hb2)
    have HG1 : Hid (g0 < g1) := Lib.hid (Nat.lt_of_lt_of_le HIN.out.lt hg1)
    have h2 := refseal_yes k A len cap bs w2 hk hk0 HL.out h248 (HA.out.below HB2.out)
    rw [HCS.out] at h2
    have H2 := Lib.hid h2
    clear H1 hg1 hR1 hb2 hRr h2
    go_wp2_with fail
    refine H2.out.mono ?_
    rintro e w3 ⟨A3, c3, rfl, hown3, hb3⟩
    have HB3 := Lib.hid (HB2.out.trans (hb3.mono HB2.out.size))
    have hcap3 := own_cap hown3
    unfold maxLen at hcap3
    have HR13 := Lib.hid (HR1.out.below hb3)
    have HIN3 := Lib.hid (HIN2.out.below hb3)
    have HR03 := Lib.hid (HR02.out.below hb3)
    have h3 := eq_any (some ⟨g1, 0, none⟩) A3 256 256 256 c3 cs cs w3 HLN.out HLN.out HR13.out.bytes (Bytes.of_own hown3) (by decide) (by omega)
    rw [decide_eq_true (rfl : cs = cs)] at h3
    have H3 := Lib.hid h3
    clear H2 hown3 hb3 h3
    go_wp2_with fail
    refine H3.out.mono ?_
    rintro e w4 ⟨rfl, hb4⟩
    have HB4 := Lib.hid (HB3.out.trans (hb4.mono HB3.out.size))
    have HR14 := Lib.hid (HR13.out.below hb4)
    have HIN4 := Lib.hid (HIN3.out.below hb4)
    have H4 := Lib.hid (kept_any g0 len A cap bs w4 HL.out (HR03.out.below hb4) (HA.out.below HB4.out) hcap (by omega))
    clear H3 hb4
    go_wp2_with fail
    refine H4.out.mono ?_
    rintro e w5 ⟨rfl, hb5⟩
    have HB5 := Lib.hid (HB4.out.trans (hb5.mono HB4.out.size))
    have HR15 := Lib.hid (HR14.out.below hb5)
    have HIN5 := Lib.hid (HIN4.out.below hb5)
    have h5 := seal_yes k (some ⟨g0, 0, none⟩) len (len + 6) bs w5 hk hk0 HL.out h248 HIN5.out.bytes (HT.out.below HB5.out)
    rw [HCS.out] at h5
    have H5 := Lib.hid h5
    clear H4 hb5 h5
    go_wp2_with fail
    refine H5.out.mono ?_
    rintro e w6 ⟨g2, rfl, hg2, hR2, hb6⟩
    have HB6 := Lib.hid (HB5.out.trans (hb6.mono HB5.out.size))
    have hRr := Rw.of_row hR2 (by rw [HLN.out]; decide)
    rw [HLN.out] at hRr
    have HR2 := Lib.hid hRr
    have HR16 := Lib.hid (HR15.out.below hb6)
    have HIN6 := Lib.hid (HIN5.out.below hb6)
    have HG2 : Hid (g1 < g2) := Lib.hid (Nat.lt_of_lt_of_le HR15.out.lt hg2)
    clear H5 hg2 hR2 hb6 hRr
    obtain ⟨wz, hwz⟩ : ∃ wz, w6.alloc (.cells #[.slice (some ⟨g1, 0, none⟩) 256 256, .slice (some ⟨g2, 0, none⟩) 256 256, .slice (some ⟨g0, 0, none⟩) len (len + 6)] 22) = wz := ⟨_, rfl⟩
    have hbz : Below w6.heap.size w6 wz := by rw [← hwz]; exact (Below.refl _ _).alloc (Nat.le_refl _) _
    have hcz : Blk wz w6.heap.size 22 #[.slice (some ⟨g1, 0, none⟩) 256 256, .slice (some ⟨g2, 0, none⟩) 256 256, .slice (some ⟨g0, 0, none⟩) len (len + 6)] := by rw [← hwz]; exact Blk.new _ _ _
    have HBZ := Lib.hid (HB6.out.trans (hbz.mono HB6.out.size))
    have H6 := Lib.hid (apart_any w6.heap.size 3 3 w.heap.size [⟨some ⟨g1, 0, none⟩, 256, 256, cs⟩, ⟨some ⟨g2, 0, none⟩, 256, 256, cs⟩, ⟨some ⟨g0, 0, none⟩, len, len + 6, bs⟩] wz rfl (by decide) (by decide) (by
        constructor
        · intro j k' it jt g hjk hj hk' hg hg'
          rcases j with _ | _ | _ | j <;> rcases k' with _ | _ | _ | k' <;> first
            | omega
            | (simp at hj; done)
            | (simp at hk'; done)
            | (cases hj; cases hk'; simp [Itm.home] at hg hg' <;> (have := HG1.out; have := HG2.out; omega))
        · intro j it hj e
          rcases j with _ | _ | _ | j <;> first
            | (simp at hj; done)
            | (cases hj; simp [Itm.home] at e <;> (have := HIN6.out.lt; have := HR16.out.lt; have := HR2.out.lt; omega))
        · intro j it hj
          rcases j with _ | _ | _ | j <;> first
            | (simp at hj; done)
            | (cases hj; dsimp only; omega)) HBZ.out.size hcz.lt
      (fun j it hj => by
        rw [hcz.cell j]
        rcases j with _ | _ | _ | j
        · cases hj; rfl
        · cases hj; rfl
        · cases hj; rfl
        · simp at hj)
      (fun j it hj => by
        rcases j with _ | _ | _ | j
        · cases hj; exact .inr ⟨g1, rfl, Nat.le_trans HG0.out (Nat.le_of_lt HG1.out), HR16.out.below hbz⟩
        · cases hj; exact .inr ⟨g2, rfl, Nat.le_trans HG0.out (Nat.le_of_lt (Nat.lt_trans HG1.out HG2.out)), HR2.out.below hbz⟩
        · cases hj; exact .inr ⟨g0, rfl, HG0.out, HIN6.out.below hbz⟩
        · simp at hj))
    clear hcz hbz
    go_wp2_with fail
    refine H6.out.mono ?_
    rintro e wy ⟨rfl, hby⟩
    have HBY := Lib.hid (HBZ.out.trans hby)
    have H7 := Lib.hid (works_any wy (HT.out.below HBY.out))
    clear H6 hby
    go_wp2_with fail
    refine H7.out.mono ?_
    rintro e wx ⟨rfl, hbx⟩
    have HBX := Lib.hid (HBY.out.trans (hbx.mono HBY.out.size))
    clear hbx
    go_wp2_with fail
    go_ret
    exact ⟨rfl, HBX.out⟩

end Go.Proofs.YtlgoacpmacomnaaDoor
