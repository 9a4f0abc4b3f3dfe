/- CrcDivides. -/
import Derived.Test.YtbihhjcgiaaopaaDoorW
import Derived.Test.YtbihhjcgiaaopaaDoorK
import Derived.Test.YtbihhjcgiaaopaaDoorE
namespace Go.Proofs.YtbihhjcgiaaopaaDoor
open Go.RowKit Crc

theorem wf_u32 {n : Int} (h : (Lit.int .u32 n).wf = true) : ∃ m : Nat, n = m ∧ m < 4294967296 := by
  have h' := h
  simp [Lit.wf, IntKind.min, IntKind.max, IntKind.bits, IntKind.signed] at h'
  exact ⟨n.toNat, by omega, by omega⟩

theorem refsum_any (A : Option Addr) (n cap : Nat) (bs : List UInt8) (w : World) (hn : bs.length = n) (hA : Bytes w A bs) (hl : n ≤ 4096) :
    Calls Tryd.prog 13 #[.slice A n cap] w fun e w' => e = .returned (.int .u32 (sumFrom 0 bs : Int)) ∧ Below w.heap.size w w' := by
  have hx := refext_any A n cap 0 bs w hn hA hl (by decide)
  have HX := Lib.hid hx
  clear hx hA
  go_enter Tryd.func13, Tryd.ntmps13
  go_wp2_with fail
  refine HX.out.mono ?_
  rintro e w' ⟨rfl, hb⟩
  have HB := Lib.hid hb
  clear hb
  go_wp2
  go_ret
  exact ⟨rfl, HB.out⟩

set_option maxHeartbeats 400000 in
theorem divides_any (A : Option Addr) (n cap s : Nat) (bs : List UInt8) (w : World) (hn : bs.length = n) (hT : Tab w) (hA : Bytes w A bs) (hml : n ≤ maxLen) (hs : s < 4294967296) :
    Calls Tryd.prog 3 #[.int .u32 s, .slice A n cap] w fun e W' => e = .returned (.bool true) ∧ Below w.heap.size w W' := by
  have hWK := Lib.hid (works_any w hT)
  have HT := Lib.hid hT
  have HA := Lib.hid hA
  have HN := Lib.hid hn
  by_cases hbig : 4096 < n
  · clear hT hA hn
    go_enter Tryd.func3, Tryd.ntmps3
    go_wp2_with fail
    refine hWK.out.mono ?_
    rintro e w1 ⟨rfl, hb⟩
    have HB := Lib.hid hb
    clear hb
    go_wp2
    go_ret
    exact ⟨rfl, HB.out⟩
  · have hb0 : Below w.heap.size w (w.alloc (.cells #[] 5)) := (Below.refl _ w).alloc (Nat.le_refl _) _
    obtain ⟨v1, w1, hrun1, hown1, hgr1⟩ := run_app8 (w.alloc (.cells #[] 5)) w.heap.size _ 0 [] (own_new w w.heap.size (Nat.le_refl _)) A n cap bs hn (hA.below hb0) (by omega) (by simp)
    rw [List.nil_append, Nat.zero_add] at hown1
    have hb1 : Below w.heap.size w w1 := hb0.grown hgr1 (by simp) (fun k e => by simp [Value.ownBlock] at e; omega)
    have hsz1 := hb1.size
    have hshape : ∃ A1 c1, v1 = .slice A1 n c1 := by
      rcases hown1.2 with ⟨rfl, rfl⟩ | ⟨g, cap', cur, rfl, _⟩
      · exact ⟨none, 0, rfl⟩
      · exact ⟨_, cap', rfl⟩
    obtain ⟨A1, c1, rfl⟩ := hshape
    have hT1 := hT.below hb1
    have hex := extend_anyL A1 n c1 s bs w1 hn hT1 (Bytes.of_own hown1) hml hs
    have hrex := refext_any A n cap s bs w1 hn (hA.below hb1) (by omega) hs
    have HRUN := Lib.hid hrun1
    have HEX := Lib.hid hex
    have HREX := Lib.hid hrex
    have HO1 := Lib.hid hown1
    have HB1 := Lib.hid hb1
    have HT1 := Lib.hid hT1
    clear hrun1 hex hrex hown1 hb1 hT1 hb0 hgr1 hT hA hWK hn
    go_enter Tryd.func3, Tryd.ntmps3
    go_wp2_with (at_builtin; refine wpList_app rfl _ _ 23 rfl _ _ _ _ rfl rfl HRUN.out ?_; clear HRUN)
    refine HEX.out.mono ?_
    rintro e w' ⟨rfl, rfl⟩
    clear HEX
    go_wp2_with fail
    refine HREX.out.mono ?_
    rintro e w2 ⟨rfl, hb2⟩
    clear HREX
    have hsz2 := hb2.size
    have hO2 := own_below HO1.out hb2
    have hB2 : Below w.heap.size w w2 := HB1.out.trans (hb2.mono hsz1)
    have hT2 := HT.out.below hB2
    have hsum := sum_anyL A1 n c1 bs w2 HN.out hT2 (Bytes.of_own hO2) hml
    have hrs := refsum_any A n cap bs w2 HN.out (HA.out.below hB2) (by omega)
    have HSUM := Lib.hid hsum
    have HRS := Lib.hid hrs
    have HO2 := Lib.hid hO2
    have HB2 := Lib.hid hB2
    clear hsum hrs hO2 hB2 hT2 hb2
    go_wp2_with fail
    refine HSUM.out.mono ?_
    rintro e w' ⟨rfl, rfl⟩
    clear HSUM
    go_wp2_with fail
    refine HRS.out.mono ?_
    rintro e w3 ⟨rfl, hb3⟩
    clear HRS
    have hsz3 := hb3.size
    have hO3 := own_below HO2.out hb3
    have hB3 : Below w.heap.size w w3 := HB2.out.trans (hb3.mono (by omega))
    have hT3 := HT.out.below hB3
    have hst1 := run_str8L w3 A1 n c1 bs HN.out (Bytes.of_own hO3)
    have hst2 := run_str8L w3 A n cap bs HN.out (HA.out.below hB3)
    have HW := Lib.hid (works_any w3 hT3)
    have HB3 := Lib.hid hB3
    have hszz : w.heap.size ≤ w3.heap.size := by omega
    clear hb3 hO3 hB3 hT3
    generalize str bs = S at hst1 hst2
    go_wp2_with fail
    refine HW.out.mono ?_
    rintro e w4 ⟨rfl, hb4⟩
    have HB4 := Lib.hid (HB3.out.trans (hb4.mono hszz))
    clear hb4 HW
    go_wp2
    go_ret
    exact ⟨rfl, HB4.out⟩

end Go.Proofs.YtbihhjcgiaaopaaDoor
