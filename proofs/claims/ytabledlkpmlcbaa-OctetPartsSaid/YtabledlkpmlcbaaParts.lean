/- OctetParts: parts that are cut where the one ahead ends come together to the whole; beyond its end there is none. -/
import Derived.Test.YtabledlkpmlcbaaG
import Derived.LoopTactic
import Derived.Lib.MinMax
namespace Go.Proofs.Ytabledlkpmlcbaa
open Go.RowKit

theorem take_field (bs : List UInt8) (at_ n : Nat) : bs.take at_ ++ fieldOf bs at_ n = bs.take (at_ + n) := by
  unfold fieldOf
  rw [List.take_add]

set_option maxRecDepth 100000 in
set_option maxHeartbeats 1000000 in
theorem parts_any (A B : Option Addr) (cap slen scap : Nat) (bs ss : List UInt8) (w : World) (hA : Bytes w A bs) (hS : Bytes w B ss) (hsl : ss.length = slen) (hl : bs.length ≤ 16384) (hl2 : slen ≤ 16384) :
    Calls Try.prog 5 #[.slice A bs.length cap, .slice B slen scap] w fun e W' => e = .returned (.bool true) ∧ Below w.heap.size w W' := by
  obtain ⟨len, hlen⟩ : ∃ len, bs.length = len := ⟨_, rfl⟩
  rw [hlen] at hl ⊢
  have HL := Lib.hid hlen
  have HSL := Lib.hid hsl
  have HA := Lib.hid hA
  have HS := Lib.hid hS
  clear hlen hsl hA hS
  have q1 : ¬ ((16384 : Int) < (len : Int)) := by omega
  have q2 : ¬ ((16384 : Int) < (slen : Int)) := by omega
  go_enter Try.func5, Try.ntmps5
  go_wp2
  go_loopw [5, 6, 7] (fun v a i wr => ∃ (at_ k : Nat), at_ ≤ len ∧ k ≤ slen + 1 ∧ (slen < k → at_ = len) ∧ a = .int .i64 at_ ∧ i = .int .i64 k ∧ wr.ownsRow w.heap.size 5 1 v at_ ((bs.take at_).map bv) ∧ Below w.heap.size w wr)
    (fun _ a i _ => (len - (intOf a).toNat) + (slen + 1 - (intOf i).toNat))
  case atStart => exact ⟨0, 0, Nat.zero_le _, Nat.zero_le _, by omega, rfl, rfl, by simpa using World.ownsRow_nil w _ _ _, Below.refl _ _⟩
  case round =>
    obtain ⟨at_, k, hat, hk, hkl, rfl, rfl, hown, hB⟩ := hrel
    have hwr := hB.size
    have hAw : Bytes wr A bs := HA.out.below hB
    have hSw : Bytes wr B ss := HS.out.below hB
    by_cases hlt : at_ < len
    · obtain ⟨m, hm⟩ : ∃ m, len - at_ = m := ⟨_, rfl⟩
      have hsub : (len : Int) - (at_ : Int) = (m : Int) := by omega
      have hm0 : 0 < m := by omega
      have hcase : ∃ n, n ≤ m ∧ ((k < slen ∧ ∃ (b off s : Nat), s < 256 ∧ B = some ⟨b, off, none⟩ ∧ wr.cell? ⟨b, off + k, none⟩ = some (.int .u8 (s : Int)) ∧ min (m : Int) (s : Int) = (n : Int)) ∨ (slen ≤ k ∧ n = m)) := by
        by_cases hks : k < slen
        · have hk2 : k < ss.length := by rw [HSL.out]; exact hks
          obtain ⟨b, off, rfl, _, hc⟩ := hSw.at_ hk2
          have hc' := hc k _ (List.getElem?_eq_getElem hk2)
          by_cases hs : ss[k].toNat ≤ m
          · exact ⟨ss[k].toNat, hs, .inl ⟨hks, b, off, _, ss[k].toNat_lt, rfl, hc', by omega⟩⟩
          · exact ⟨m, Nat.le_refl _, .inl ⟨hks, b, off, _, ss[k].toNat_lt, rfl, hc', by omega⟩⟩
        · exact ⟨m, Nat.le_refl _, .inr ⟨by omega, rfl⟩⟩
      obtain ⟨n, hnm, hcase⟩ := hcase
      have hc1 := cut_okL A len cap at_ n bs wr HL.out (by omega) (by omega) hAw
      have C1 := Lib.hid hc1
      have HO := Lib.hid hown
      have HB := Lib.hid hB
      have HAw := Lib.hid hAw
      have HM := Lib.hid hm
      clear hc1 hown hB hAw hSw hm
      rcases hcase with ⟨hks, b, off, s, hs256, rfl, hcs, hmin⟩ | ⟨hks, rfl⟩
      · go_wp2_with fail
        refine C1.out.mono ?_
        rintro e W1 ⟨rfl, hR1, hB1⟩
        have hlt1 : wr.heap.size < W1.heap.size := hR1.lt
        have c2 := cut_no A len cap (at_ : Int) ((m : Int) + 1) W1 (by unfold maxLen; omega) (by omega) (by omega) (by simp [insideB]; omega)

        have hfl : (fieldOf bs at_ n).length = n := by
          have h1 := HL.out
          have h2 := HM.out
          unfold fieldOf; simp; omega
        have hBy : Bytes W1 (some ⟨wr.heap.size, 0, none⟩) (fieldOf bs at_ n) := Bytes.row hR1
        have hown1 : W1.ownsRow w.heap.size 5 1 u5 at_ ((bs.take at_).map bv) := own_below HO.out hB1
        obtain ⟨v', w', hrun, hown', hgr⟩ := run_app8 W1 w.heap.size u5 at_ (bs.take at_) hown1 (some ⟨wr.heap.size, 0, none⟩) n n (fieldOf bs at_ n) hfl hBy (by omega) (by omega)
        rw [take_field] at hown'
        have hB' : Below w.heap.size w w' := (HB.out.trans (hB1.mono (by omega))).grown hgr (by omega) (fun g e => (hown1.lt g e).1)
        have C2 := Lib.hid c2
        have HO' := Lib.hid hown'
        have HRUN := Lib.hid hrun
        have HB' := Lib.hid hB'
        have HM' := Lib.hid HM.out
        clear hrun c2 hfl hBy hown1 hown' hgr hB' hR1 hB1 HO HB HAw C1 HM
        go_wp2_with fail
        refine C2.out.mono ?_
        rintro e W2 ⟨rfl, rfl⟩
        go_wp2_with (at_builtin; refine wpList_app rfl _ _ 22 rfl _ _ _ _ rfl rfl HRUN.out ?_)
        go_roundw
        case rel => have hm' := HM'.out; exact ⟨at_ + n, k + 1, by omega, by omega, by omega, by go_num, by go_num, HO'.out, HB'.out⟩
        case measure => have hm' := HM'.out; simp [intOf]; omega
      · go_wp2_with fail
        refine C1.out.mono ?_
        rintro e W1 ⟨rfl, hR1, hB1⟩
        have hlt1 : wr.heap.size < W1.heap.size := hR1.lt
        have c2 := cut_no A len cap (at_ : Int) ((n : Int) + 1) W1 (by unfold maxLen; omega) (by omega) (by omega) (by simp [insideB]; omega)

        have hfl : (fieldOf bs at_ n).length = n := by
          have h1 := HL.out
          have h2 := HM.out
          unfold fieldOf; simp; omega
        have hBy : Bytes W1 (some ⟨wr.heap.size, 0, none⟩) (fieldOf bs at_ n) := Bytes.row hR1
        have hown1 : W1.ownsRow w.heap.size 5 1 u5 at_ ((bs.take at_).map bv) := own_below HO.out hB1
        obtain ⟨v', w', hrun, hown', hgr⟩ := run_app8 W1 w.heap.size u5 at_ (bs.take at_) hown1 (some ⟨wr.heap.size, 0, none⟩) n n (fieldOf bs at_ n) hfl hBy (by omega) (by omega)
        rw [take_field] at hown'
        have hB' : Below w.heap.size w w' := (HB.out.trans (hB1.mono (by omega))).grown hgr (by omega) (fun g e => (hown1.lt g e).1)
        have C2 := Lib.hid c2
        have HO' := Lib.hid hown'
        have HRUN := Lib.hid hrun
        have HB' := Lib.hid hB'
        have HM' := Lib.hid HM.out
        clear hrun c2 hfl hBy hown1 hown' hgr hB' hR1 hB1 HO HB HAw C1 HM
        go_wp2_with fail
        refine C2.out.mono ?_
        rintro e W2 ⟨rfl, rfl⟩
        go_wp2_with (at_builtin; refine wpList_app rfl _ _ 22 rfl _ _ _ _ rfl rfl HRUN.out ?_)
        go_roundw
        case rel => have hm' := HM'.out; exact ⟨at_ + n, k + 1, by omega, by omega, by omega, by go_num, by go_num, HO'.out, HB'.out⟩
        case measure => have hm' := HM'.out; simp [intOf]; omega
    · obtain rfl : at_ = len := by omega
      have hz : (bs.take at_) = bs := List.take_of_length_le (by rw [HL.out]; exact Nat.le_refl _)
      rw [hz] at hown
      have c0 := cut_okL A at_ cap at_ 0 bs wr HL.out (by omega) (by omega) hAw
      have C0 := Lib.hid c0
      have HO := Lib.hid hown
      have HB := Lib.hid hB
      have HAw := Lib.hid hAw
      clear c0 hown hB hAw hSw hz
      go_wp2_with fail
      refine C0.out.mono ?_
      rintro e W1 ⟨rfl, hR1, hB1⟩
      have hlt1 : wr.heap.size < W1.heap.size := hR1.lt
      have c2 := cut_no A at_ cap ((at_ : Int) + 1) 0 W1 (by unfold maxLen; omega) (by omega) (by omega) (by simp [insideB]; omega)
      have s1 := run_strOwn W1 w.heap.size at_ u5 bs (own_below HO.out hB1)
      have s2 := run_str8L W1 A at_ cap bs HL.out (HAw.out.below hB1)
      have hse := str_eq (a := bs) (b := bs) rfl
      have hB01 : Below w.heap.size w W1 := HB.out.trans (hB1.mono (by omega))
      have C2 := Lib.hid c2
      have HB1 := Lib.hid hB01
      clear c2 hB01 hB1 hR1 HO HB HAw C0
      go_wp2_with fail
      refine C2.out.mono ?_
      rintro e W2 ⟨rfl, rfl⟩
      go_wp2_with (go_at_call 8; refine (works_any _).mono ?_; rintro e w' ⟨rfl, hB⟩)
      go_ret
      exact ⟨rfl, HB1.out.trans (hB.mono (by omega))⟩

set_option maxHeartbeats 400000 in
theorem parts_big (A B : Option Addr) (len cap slen scap : Nat) (w : World) (h : 16384 < len ∨ 16384 < slen) :
    Calls Try.prog 5 #[.slice A len cap, .slice B slen scap] w fun e W' => e = .returned (.bool true) ∧ Below w.heap.size w W' := by
  by_cases h1 : 16384 < len
  · clear h
    have q1 : (16384 : Int) < (len : Int) := by omega
    go_enter Try.func5, Try.ntmps5
    go_wp2_with (go_at_call 8; refine (works_any _).mono ?_; rintro e w' ⟨rfl, hB⟩)
    go_ret
    exact ⟨rfl, hB⟩
  · have q1 : ¬ (16384 : Int) < (len : Int) := by omega
    have q2 : (16384 : Int) < (slen : Int) := by omega
    clear h
    go_enter Try.func5, Try.ntmps5
    go_wp2_with (go_at_call 8; refine (works_any _).mono ?_; rintro e w' ⟨rfl, hB⟩)
    go_ret
    exact ⟨rfl, hB⟩

theorem parts_all (A B : Option Addr) (cap slen scap : Nat) (bs ss : List UInt8) (w : World) (hA : Bytes w A bs) (hS : Bytes w B ss) (hsl : ss.length = slen) :
    Calls Try.prog 5 #[.slice A bs.length cap, .slice B slen scap] w fun e W' => e = .returned (.bool true) ∧ Below w.heap.size w W' := by
  by_cases h : 16384 < bs.length ∨ 16384 < slen
  · exact parts_big A B _ cap slen scap w h
  · exact parts_any A B cap slen scap bs ss w hA hS hsl (by omega) (by omega)

end Go.Proofs.Ytabledlkpmlcbaa
