/- The reference's Put and Room, for all. -/
import Derived.Test.YtipjokbkgcepbaaRd
import Derived.Test.YtipjokbkgcepbaaRoom
namespace Go.Proofs.Ytipjokbkgcepbaa
open Go.RowKit Slt

set_option maxRecDepth 20000 in
set_option maxHeartbeats 1000000 in
theorem refput_any (A B : Option Addr) (len cap l2 c2 : Nat) (p rec : List UInt8) (w : World) (hlen : p.length = len) (hA : Bytes w A p) (hcap : len ≤ cap) (hcm : cap ≤ maxLen)
    (hl2 : rec.length = l2) (hB : Bytes w B rec) (hc2 : l2 ≤ c2) (hm2 : c2 ≤ maxLen) :
    Calls Try.prog 24 #[.slice A len cap, .slice B l2 c2] w (PutP p rec w) := by
  by_cases hok : Ok p
  · by_cases h0 : 0 < l2
    · by_cases h248 : l2 ≤ 248
      · exact refput_walk A B len cap l2 c2 p rec w hok h0 h248 hlen hA hcap hcm hl2 hB hc2 hm2
      · have hno : ¬ mayPut p rec := fun h => by have := h.2; have := roomR_bd p; omega
        have H : Hid (Calls Try.prog 33 #[.slice A len cap] w fun e w' => ∃ As n cs, e = .returned (.tuple #[.slice As n cs, .bool true]) ∧ Below w.heap.size w w') := Lib.hid (by
          refine (refread_any A len cap p w hlen hA hcap hcm).mono ?_
          rintro e w2 (⟨_, sv, rfl, hap⟩ | ⟨hno, rfl, hb⟩)
          · obtain ⟨As, cs, hsv, _⟩ := hap.own.shape; exact ⟨As, _, cs, by rw [hsv], hap.bel⟩
          · exact absurd hok hno)
        have HNO := Lib.hid hno
        have d1 : ((l2 : Int) == 0) = false := by simp; omega
        have d2 : decide ((248 : Int) < (l2 : Int)) = true := by simp; omega
        clear hA hB hno hok hl2
        go_enter Try.func24, Try.ntmps24
        go_wp2_with fail
        refine H.out.mono ?_
        rintro e w2 ⟨As, n, cs, rfl, hb⟩
        have HB := Lib.hid hb
        clear hb
        go_wp2_with fail
        go_ret3
        exact .inl ⟨HNO.out, rfl, HB.out⟩
    · have hno : ¬ mayPut p rec := fun h => by have := h.ok.2.1; omega
      have H : Hid (Calls Try.prog 33 #[.slice A len cap] w fun e w' => ∃ As n cs, e = .returned (.tuple #[.slice As n cs, .bool true]) ∧ Below w.heap.size w w') := Lib.hid (by
        refine (refread_any A len cap p w hlen hA hcap hcm).mono ?_
        rintro e w2 (⟨_, sv, rfl, hap⟩ | ⟨hno, rfl, hb⟩)
        · obtain ⟨As, cs, hsv, _⟩ := hap.own.shape; exact ⟨As, _, cs, by rw [hsv], hap.bel⟩
        · exact absurd hok hno)
      have HNO := Lib.hid hno
      obtain rfl : l2 = 0 := by omega
      clear hA hB hno hok hl2 h0
      go_enter Try.func24, Try.ntmps24
      go_wp2_with fail
      refine H.out.mono ?_
      rintro e w2 ⟨As, n, cs, rfl, hb⟩
      have HB := Lib.hid hb
      clear hb
      go_wp2_with fail
      go_ret3
      exact .inl ⟨HNO.out, rfl, HB.out⟩
  · have hno : ¬ mayPut p rec := fun h => hok h.ok.1
    have H : Hid (Calls Try.prog 33 #[.slice A len cap] w fun e w' => e = .returned (.tuple #[.slice none 0 0, .bool false]) ∧ Below w.heap.size w w') := Lib.hid (by
      refine (refread_any A len cap p w hlen hA hcap hcm).mono ?_
      rintro e w2 (⟨h, sv, rfl, hap⟩ | ⟨hno, rfl, hb⟩)
      · exact absurd h hok
      · exact ⟨rfl, hb⟩)
    have HNO := Lib.hid hno
    clear hA hB hno hok hl2
    go_enter Try.func24, Try.ntmps24
    go_wp2_with fail
    refine H.out.mono ?_
    rintro e w2 ⟨rfl, hb⟩
    have HB := Lib.hid hb
    clear hb
    go_wp2_with fail
    go_ret3
    exact .inl ⟨HNO.out, rfl, HB.out⟩

set_option maxRecDepth 20000 in
set_option maxHeartbeats 1000000 in
theorem refroom_any (A : Option Addr) (len cap : Nat) (p : List UInt8) (w : World) (hlen : p.length = len) (hA : Bytes w A p) (hcap : len ≤ cap) (hcm : cap ≤ maxLen) :
    Calls Try.prog 19 #[.slice A len cap] w fun e w' => e = .returned (.int .i64 (roomR p)) ∧ Below w.heap.size w w' := by
  have hrt := refright_any A len cap p w hlen hA hcap hcm
  by_cases hok : Ok p
  · rw [show okB p = true from decide_eq_true hok] at hrt
    have HRT := Lib.hid hrt
    have hbd := roomR_bd p
    have hput : ∀ (W : World) (n : Nat), n ≤ 248 → Below w.heap.size w W → Calls Try.prog 24 #[.slice A len cap, .slice (some ⟨W.heap.size, 0, none⟩) n n] (W.alloc (.cells (mk8 n) 5)) fun e w' => ∃ A' l' c' k, e = .returned (.tuple #[.slice A' l' c', .int .i64 k, .bool (decide (0 < n ∧ (n : Int) ≤ roomR p))]) ∧ Below W.heap.size W w' := fun W n hn hW => by
      have hb : Below W.heap.size W (W.alloc (.cells (mk8 n) 5)) := (Below.refl _ _).alloc (Nat.le_refl _) _
      have hiff : mayPut p (List.replicate n 0) ↔ (0 < n ∧ (n : Int) ≤ roomR p) := by rw [mayPut_iff, List.length_replicate]
      refine (refput_any A (some ⟨W.heap.size, 0, none⟩) len cap n n p (List.replicate n 0) _ hlen ((hA.below hW).below hb) hcap hcm (by simp) (mk8_bytes W n) (Nat.le_refl _) (by unfold maxLen; omega)).mono ?_
      rintro e w2 (⟨h, rfl, h2⟩ | ⟨g, c, h, rfl, _, _, h4⟩)
      · exact ⟨_, _, _, _, by rw [decide_eq_false (fun e => h (hiff.2 e))], hb.trans (h2.mono hb.size)⟩
      · exact ⟨_, _, _, _, by rw [decide_eq_true (hiff.1 h)], hb.trans (h4.mono hb.size)⟩
    have HPUT := Lib.hid hput
    have HBD := Lib.hid hbd
    obtain ⟨R, hR⟩ : ∃ R, roomR p = R := ⟨_, rfl⟩
    rw [hR] at HPUT HBD ⊢
    clear hrt hok hA hlen hput hbd hR
    go_enter Try.func19, Try.ntmps19
    go_wp2_with fail
    refine HRT.out.mono ?_
    rintro e w2 ⟨rfl, hb2⟩
    have HB2 := Lib.hid hb2
    clear hb2
    go_wp2_with fail
    go_loopw [3, 4, 5, 6] (fun nv a b c wr => ∃ m : Nat, m ≤ 248 ∧ nv = .int .i64 (m : Int) ∧ Hid (R ≤ (m : Int) ∧ Below w.heap.size w wr)) (fun nv _ _ _ _ => (intOf nv).toNat)
    case atStart => exact ⟨248, Nat.le_refl _, rfl, Lib.hid ⟨by have := HBD.out; omega, HB2.out⟩⟩
    case round =>
      obtain ⟨m, hm, rfl, hI⟩ := hrel
      by_cases hm0 : 0 < m
      · have hd : decide ((0 : Int) < (m : Int)) = true := by simpa using hm0
        have hmk := run_mk8 m (by omega)
        have hp := HPUT.out wr m (by omega) hI.out.2
        by_cases hmR : R = (m : Int)
        · rw [decide_eq_true ⟨hm0, by omega⟩] at hp
          have HP := Lib.hid hp
          have HMR := Lib.hid hmR
          clear hp hmR
          go_wp2_with fail
          refine HP.out.mono ?_
          rintro e w3 ⟨A', l', c', k, rfl, hb3⟩
          have HB3 := Lib.hid (hI.out.2.trans (hb3.mono hI.out.2.size))
          clear hb3
          go_wp2_with fail
          go_ret
          exact ⟨by rw [HMR.out]; rfl, HB3.out⟩
        · rw [decide_eq_false (by have := hI.out.1; omega)] at hp
          have HP := Lib.hid hp
          have hlt : R ≤ ((m - 1 : Nat) : Int) := by have := hI.out.1; omega
          have HLT := Lib.hid hlt
          clear hp hmR hlt
          go_wp2_with fail
          refine HP.out.mono ?_
          rintro e w3 ⟨A', l', c', k, rfl, hb3⟩
          have HB3 := Lib.hid (hI.out.2.trans (hb3.mono hI.out.2.size))
          clear hb3
          obtain ⟨m', hm'⟩ : ∃ m', m = m' + 1 := ⟨m - 1, by omega⟩
          subst hm'
          have HI : Hid (R ≤ (m' : Int) ∧ Below w.heap.size w w3) := Lib.hid ⟨by have := HLT.out; omega, HB3.out⟩
          clear hI HLT HP hmk
          go_wp2_with fail
          go_roundw
          case rel => exact ⟨m', by omega, by go_num, HI⟩
          case measure => simp [intOf]
      · obtain rfl : m = 0 := by omega
        have hR1 : R = -1 := by have := hI.out.1; have := HBD.out; omega
        have HR1 := Lib.hid hR1
        have HB3 := Lib.hid hI.out.2
        clear hI hR1
        go_wp2_with fail
        go_ret
        exact ⟨by rw [HR1.out]; rfl, HB3.out⟩
  · rw [show okB p = false from decide_eq_false hok] at hrt
    have HRT := Lib.hid hrt
    rw [show roomR p = -1 from if_neg fun h => hok h.1]
    clear hrt hok hA hlen
    go_enter Try.func19, Try.ntmps19
    go_wp2_with fail
    refine HRT.out.mono ?_
    rintro e w2 ⟨rfl, hb2⟩
    have HB2 := Lib.hid hb2
    clear hb2
    go_wp2_with fail
    go_ret
    exact ⟨rfl, HB2.out⟩
end Go.Proofs.Ytipjokbkgcepbaa
