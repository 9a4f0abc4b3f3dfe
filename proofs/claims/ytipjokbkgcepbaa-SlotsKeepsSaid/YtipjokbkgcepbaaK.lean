/- slots: the anchor. -/
import Derived.Test.YtipjokbkgcepbaaJ
namespace Go.Proofs.Ytipjokbkgcepbaa
open Go.RowKit Slt

theorem w_facts : (mayPut [0] [170, 187] ∧ pageOf (putL [0] [170, 187]) = [1, 2, 170, 187] ∧ lowK (recs [0]) = 0) ∧ (mayPut [1, 2, 170, 187] [204] ∧ pageOf (putL [1, 2, 170, 187] [204]) = [2, 2, 1, 170, 187, 204] ∧ lowK (recs [1, 2, 170, 187]) = 1) ∧
    (gotR [2, 2, 1, 170, 187, 204] 0 = some [170, 187] ∧ pageOf (dropL [2, 2, 1, 170, 187, 204] 0) = [2, 0, 1, 204]) ∧ gotR [2, 0, 1, 204] 1 = some [204] ∧ roomR [0] = 246 := by decide +kernel

theorem put_got {A B : Option Addr} {len cap l2 c2 : Nat} {p rec q : List UInt8} {k : Nat} {w : World} (hm : mayPut p rec) (hq : pageOf (putL p rec) = q) (hk : lowK (recs p) = k) (hlen : p.length = len) (hA : Bytes w A p) (hcap : len ≤ cap) (hcm : cap ≤ maxLen)
    (hl2 : rec.length = l2) (hB : Bytes w B rec) (hc2 : l2 ≤ c2) (hm2 : c2 ≤ maxLen) :
    Calls Try.prog 23 #[.slice A len cap, .slice B l2 c2] w fun e w' => ∃ g c, e = .returned (.tuple #[.slice (some ⟨g, 0, none⟩) q.length c, .int .i64 (k : Int), .bool true]) ∧ Rw w' g q.length c q ∧ w.heap.size ≤ g ∧ Below w.heap.size w w' := by
  refine (put_any A B len cap l2 c2 p rec w hlen hA hcap hcm hl2 hB hc2 hm2).mono ?_
  rintro e w' (⟨h, _⟩ | ⟨g, c, _, rfl, h2, h3, h4⟩)
  · exact absurd hm h
  · subst hq hk; exact ⟨g, c, rfl, h2, h3, h4⟩
theorem drop_got {A : Option Addr} {len cap : Nat} {slot : Int} {p q r : List UInt8} {w : World} (hg : gotR p slot = some r) (hq : pageOf (dropL p slot) = q) (hs : -9223372036854775808 ≤ slot ∧ slot < 9223372036854775808) (hlen : p.length = len) (hA : Bytes w A p) (hcap : len ≤ cap) (hcm : cap ≤ maxLen) :
    Calls Try.prog 25 #[.slice A len cap, .int .i64 slot] w fun e w' => ∃ g c, e = .returned (.tuple #[.slice (some ⟨g, 0, none⟩) q.length c, .bool true]) ∧ Rw w' g q.length c q ∧ w.heap.size ≤ g ∧ Below w.heap.size w w' := by
  refine (drop_any A len cap slot p w hs hlen hA hcap hcm).mono ?_
  rintro e w' (⟨h, _⟩ | ⟨r', g, c, _, rfl, h2, h3, h4⟩)
  · rw [hg] at h; cases h
  · subst hq; exact ⟨g, c, rfl, h2, h3, h4⟩
theorem get_got {A : Option Addr} {len cap : Nat} {slot : Int} {p r : List UInt8} {w : World} (hg : gotR p slot = some r) (hlen : p.length = len) (hA : Bytes w A p) (hcap : len ≤ cap) (hcm : cap ≤ maxLen) :
    Calls Try.prog 11 #[.slice A len cap, .int .i64 slot] w fun e w' => ∃ g c, e = .returned (.tuple #[.slice (some ⟨g, 0, none⟩) r.length c, .bool true]) ∧ Rw w' g r.length c r ∧ w.heap.size ≤ g ∧ Below w.heap.size w w' := by
  refine (get_any A len cap slot p w hlen hA hcap hcm).mono ?_
  rintro e w' (⟨h, _⟩ | ⟨r', g, c, h, rfl, h2, h3, h4⟩)
  · rw [hg] at h; cases h
  · rw [hg] at h; cases h; exact ⟨g, c, rfl, h2, h3, h4⟩

set_option maxRecDepth 20000 in
set_option maxHeartbeats 2000000 in
theorem works_any (w : World) : Calls Try.prog 9 #[] w fun e W' => e = .returned (.bool true) ∧ Below w.heap.size w W' := by
  have F := Lib.hid w_facts
  have H0 := Lib.hid (empty_any w)
  go_enter Try.func9, Try.ntmps9
  go_wp2_with fail
  refine H0.out.mono ?_
  rintro e w1 ⟨rfl, hr1, hb1⟩
  have hb2 : Below w1.heap.size w1 (w1.alloc (.cells #[.int .u8 170, .int .u8 187] 5)) := (Below.refl _ _).alloc (Nat.le_refl _) _
  have H1 := Lib.hid (put_got (B := some ⟨w1.heap.size, 0, none⟩) (l2 := 2) (c2 := 2) F.out.1.1 F.out.1.2.1 F.out.1.2.2 rfl (hr1.bytes.below hb2) (Nat.le_refl _) (by decide) rfl (Bytes.row (bs := [170, 187]) (Blk.new w1 _ _)) (Nat.le_refl _) (by decide))
  have HB1 := Lib.hid (hb1.trans (hb2.mono hb1.size))
  clear hr1 hb1 hb2 H0
  go_wp2_with fail
  refine H1.out.mono ?_
  rintro e w2 ⟨g, c, rfl, hr2, hg2, hb2⟩
  have hbel2 := HB1.out.trans (hb2.mono HB1.out.size)
  have hb3 : Below w2.heap.size w2 (w2.alloc (.cells #[.int .u8 204] 5)) := (Below.refl _ _).alloc (Nat.le_refl _) _
  have H2 := Lib.hid (put_got (B := some ⟨w2.heap.size, 0, none⟩) (l2 := 1) (c2 := 1) F.out.2.1.1 F.out.2.1.2.1 F.out.2.1.2.2 rfl (hr2.bytes.below hb3) hr2.le hr2.max rfl (Bytes.row (bs := [204]) (Blk.new w2 _ _)) (Nat.le_refl _) (by decide))
  have HB2 := Lib.hid (hbel2.trans (hb3.mono hbel2.size))
  clear hr2 hg2 hb2 hbel2 hb3 H1 HB1
  go_wp2_with fail
  refine H2.out.mono ?_
  rintro e w3 ⟨g3, c3, rfl, hr3, hg3, hb3⟩
  have H3 := Lib.hid (drop_got (slot := 0) F.out.2.2.1.1 F.out.2.2.1.2 (by decide) rfl hr3.bytes hr3.le hr3.max)
  have HB3 := Lib.hid (HB2.out.trans (hb3.mono HB2.out.size))
  clear hr3 hg3 hb3 H2 HB2
  go_wp2_with fail
  refine H3.out.mono ?_
  rintro e w4 ⟨g4, c4, rfl, hr4, hg4, hb4⟩
  have H4 := Lib.hid (get_got (slot := 1) F.out.2.2.2.1 rfl hr4.bytes hr4.le hr4.max)
  have HB4 := Lib.hid (HB3.out.trans (hb4.mono HB3.out.size))
  clear hr4 hg4 hb4 H3 HB3
  go_wp2_with fail
  refine H4.out.mono ?_
  rintro e w5 ⟨g5, c5, rfl, hr5, hg5, hb5⟩
  have hc5 := hr5.holds 0 204 rfl
  have HB5 := Lib.hid (HB4.out.trans (hb5.mono HB4.out.size))
  have H5 := Lib.hid (empty_any w5)
  have hc5' : w5.cell? ⟨g5, 0, none⟩ = some (.int .u8 204) := hc5
  clear hr5 hg5 hb5 H4 HB4 hc5
  go_wp2_with fail
  refine H5.out.mono ?_
  rintro e w6 ⟨rfl, hr6, hb6⟩
  have h6 := room_any _ 1 1 [0] w6 rfl hr6.bytes (Nat.le_refl _) (by decide)
  rw [F.out.2.2.2.2] at h6
  have H6 := Lib.hid h6
  have HB6 := Lib.hid (HB5.out.trans (hb6.mono HB5.out.size))
  clear hr6 hb6 h6 H5 HB5
  go_wp2_with fail
  refine H6.out.mono ?_
  rintro e w7 ⟨rfl, hb7⟩
  have HB7 := Lib.hid (HB6.out.trans (hb7.mono HB6.out.size))
  clear hb7
  go_wp2_with fail
  go_ret
  exact ⟨rfl, HB7.out⟩
end Go.Proofs.Ytipjokbkgcepbaa
