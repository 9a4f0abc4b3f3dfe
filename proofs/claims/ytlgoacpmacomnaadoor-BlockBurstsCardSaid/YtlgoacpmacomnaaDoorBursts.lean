/- BlockBursts. -/
import Derived.Test.YtlgoacpmacomnaaDoorF
import Derived.Test.YtlgoacpmacomnaaDoorBack
namespace Go.Proofs.YtlgoacpmacomnaaDoor
open Go.RowKit Crc

set_option maxRecDepth 20000 in
set_option maxHeartbeats 1000000 in
theorem bursts_any (k a m : Nat) (A : Option Addr) (len cap : Nat) (bs : List UInt8) (w : World) (hk : k < 256) (ha : a < 4294967296) (hm : m < 4294967296) (hlen : bs.length = len) (hA : Bytes w A bs) (hT : Tab w) :
    Calls Tryd.prog 6 #[.int .u8 (k : Int), .slice A len cap, .agg #[.int .u32 (a : Int), .int .u32 (m : Int)]] w fun e W' => e = .returned (.bool true) ∧ Below w.heap.size w W' := by
  obtain ⟨wb, hwb⟩ : ∃ wb, w.alloc (.cells #[.int .u32 (a : Int), .int .u32 (m : Int)] 37) = wb := ⟨_, rfl⟩
  have hb0 : Below w.heap.size w wb := by rw [← hwb]; exact (Below.refl _ w).alloc (Nat.le_refl _) _
  have HW := Lib.hid (works_any wb (hT.below hb0))
  have HB0 := Lib.hid hb0
  by_cases hbig : 248 < len
  · have hd : decide ((248 : Int) < (len : Int)) = true := by simp; omega
    clear hA hT hb0
    go_enter Tryd.func6, Tryd.ntmps6
    go_wp2_with fail
    refine HW.out.mono ?_
    rintro e w' ⟨rfl, hb⟩
    have HB := Lib.hid (HB0.out.trans (hb.mono HB0.out.size))
    clear hb
    go_wp2_with fail
    go_ret
    exact ⟨rfl, HB.out⟩
  have hd : decide ((248 : Int) < (len : Int)) = false := by simp; omega
  by_cases hk0 : k = 0
  · subst hk0
    clear hA hT hb0
    go_enter Tryd.func6, Tryd.ntmps6
    go_wp2_with fail
    refine HW.out.mono ?_
    rintro e w' ⟨rfl, hb⟩
    have HB := Lib.hid (HB0.out.trans (hb.mono HB0.out.size))
    clear hb
    go_wp2_with fail
    go_ret
    exact ⟨rfl, HB.out⟩
  have hk0' : ((k : Int) == 0) = false := by simpa using hk0
  obtain ⟨p, hp⟩ : ∃ p, a % 2048 = p := ⟨_, rfl⟩
  have hp6 : p < 2048 := by omega
  have hpi : (a : Int) % 2048 = (p : Int) := by omega
  have H1 := Lib.hid (seal_yes k A len cap bs wb hk hk0 hlen (by omega) (hA.below hb0) (hT.below hb0))
  have hc0 : wb.cell? ⟨w.heap.size, 0, none⟩ = some (.int .u32 (a : Int)) := by rw [← hwb]; exact (Blk.new w _ _).cell 0
  have hc1 : wb.cell? ⟨w.heap.size, 1, none⟩ = some (.int .u32 (m : Int)) := by rw [← hwb]; exact (Blk.new w _ _).cell 1
  have hlt0 : w.heap.size < wb.heap.size := by rw [← hwb]; simp
  have HC0 := Lib.hid hc0
  have HC1 := Lib.hid hc1
  have HLT := Lib.hid hlt0
  have HT := Lib.hid hT
  have HBK : Hid (IsBlk (blockOf k bs) k bs) := Lib.hid ⟨by omega, hk, by omega, rfl⟩
  have HLN : Hid ((blockOf k bs).length = 256) := Lib.hid (blockOf_length k bs (by omega))
  clear hA hT hp hlen HW hk hbig hk0 hb0 hc0 hc1 hlt0
  go_enter Tryd.func6, Tryd.ntmps6
  go_wp2_with fail
  refine H1.out.mono ?_
  rintro e w1 ⟨g, rfl, hg, hR, hb1⟩
  have hc0 : w1.cell? ⟨w.heap.size, 0, none⟩ = some (.int .u32 (a : Int)) := (hb1.cell (p := ⟨w.heap.size, 0, none⟩) HLT.out).trans HC0.out
  have hc1 : w1.cell? ⟨w.heap.size, 1, none⟩ = some (.int .u32 (m : Int)) := (hb1.cell (p := ⟨w.heap.size, 1, none⟩) HLT.out).trans HC1.out
  have HB1 := Lib.hid (HB0.out.trans (hb1.mono HB0.out.size))
  have HR := Lib.hid hR
  have H2 := Lib.hid (burst_all (some ⟨g, 0, none⟩) 256 256 p m _ w1 HLN.out (Bytes.row hR) (by decide) hm (by omega))
  clear H1 hg hR hb1 HB0
  go_wp2_with fail
  refine H2.out.mono ?_
  rintro e w2 ⟨v, rfl, hown, hb2⟩
  obtain ⟨A2, c2, rfl⟩ := own_shape hown
  have HB2 := Lib.hid (HB1.out.trans (hb2.mono HB1.out.size))
  have hcap := own_cap hown
  have HBY := Lib.hid (Bytes.of_own hown)
  have HBA := Lib.hid ((Bytes.row HR.out).below hb2)
  have HLB : Hid ((burst (blockOf k bs) p m 32).length = 256) := Lib.hid (by rw [burst_length]; exact HLN.out)
  obtain ⟨cs, hcs⟩ : ∃ cs, burst (blockOf k bs) p m 32 = cs := ⟨_, rfl⟩
  have HX := Lib.hid (fun k' b' => burst_blk (p := p) (m := m) (k' := k') (b' := b') HBK.out hp6)
  rw [hcs] at HBY HLB HX
  have H3 := Lib.hid (open_any A2 256 c2 cs w2 HLB.out HBY.out hcap.1 (HT.out.below HB2.out))
  clear H2 hown hb2 HR hcs hc0 hc1
  go_wp2_with fail
  refine H3.out.mono ?_
  rintro e w3 ⟨⟨k', b', g3, hblk, rfl, hg3, hR3⟩ | ⟨hno, rfl⟩, hb3⟩
  · have ee := HX.out k' b' hblk
    have HB3 := Lib.hid (HB2.out.trans (hb3.mono HB2.out.size))
    have h4 := eq_any (some ⟨g, 0, none⟩) A2 256 256 256 c2 (blockOf k bs) cs w3 HLN.out HLB.out (HBA.out.below hb3) (HBY.out.below hb3) (by decide) (by unfold maxLen at hcap; omega)
    rw [decide_eq_true ee.symm] at h4
    have H4 := Lib.hid h4
    clear H3 hblk hg3 hR3 hb3 h4 ee
    go_wp2_with fail
    refine H4.out.mono ?_
    rintro e w4 ⟨rfl, hb4⟩
    have HB4 := Lib.hid (HB3.out.trans (hb4.mono HB3.out.size))
    have H5 := Lib.hid (works_any w4 (HT.out.below HB4.out))
    clear H4 hb4
    go_wp2_with fail
    refine H5.out.mono ?_
    rintro e w5 ⟨rfl, hb5⟩
    have HB5 := Lib.hid (HB4.out.trans (hb5.mono HB4.out.size))
    clear hb5
    go_wp2_with fail
    go_ret
    exact ⟨rfl, HB5.out⟩
  · have ee : ¬ blockOf k bs = cs := fun e => hno k bs (e ▸ HBK.out)
    have HB3 := Lib.hid (HB2.out.trans (hb3.mono HB2.out.size))
    have h4 := eq_any (some ⟨g, 0, none⟩) A2 256 256 256 c2 (blockOf k bs) cs w3 HLN.out HLB.out (HBA.out.below hb3) (HBY.out.below hb3) (by decide) (by unfold maxLen at hcap; omega)
    rw [decide_eq_false ee] at h4
    have H4 := Lib.hid h4
    clear H3 hno hb3 h4 ee
    go_wp2_with fail
    refine H4.out.mono ?_
    rintro e w4 ⟨rfl, hb4⟩
    have HB4 := Lib.hid (HB3.out.trans (hb4.mono HB3.out.size))
    have H5 := Lib.hid (works_any w4 (HT.out.below HB4.out))
    clear H4 hb4
    go_wp2_with fail
    refine H5.out.mono ?_
    rintro e w5 ⟨rfl, hb5⟩
    have HB5 := Lib.hid (HB4.out.trans (hb5.mono HB4.out.size))
    clear hb5
    go_wp2_with fail
    go_ret
    exact ⟨rfl, HB5.out⟩

end Go.Proofs.YtlgoacpmacomnaaDoor
