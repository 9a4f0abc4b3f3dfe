/- The anchor; contracts with their answers given. -/
import Derived.Test.YtfkhgdhfelfegaaDoorE
namespace Go.Proofs.YtfkhgdhfelfegaaDoor
open Go.RowKit Bts

theorem set_is (b : Bool) {p q n : Nat} {i : Int} {S : Nat → Bool} {w : World} (h : Bs w p q n S) (hb : setB S n i = b) :
    Calls Tryd.prog 18 #[.pointer (some ⟨p, 0, none⟩), .int .i64 i] w fun e w' => e = .returned (.bool b) ∧ Bs w' p q n (ins S n i) ∧ w.grownBy w' (some q) := by
  subst hb; exact set_any p q n i S w h
theorem clear_is (b : Bool) {p q n : Nat} {i : Int} {S : Nat → Bool} {w : World} (h : Bs w p q n S) (hb : hasB S n i = b) :
    Calls Tryd.prog 16 #[.pointer (some ⟨p, 0, none⟩), .int .i64 i] w fun e w' => e = .returned (.bool b) ∧ Bs w' p q n (del S i) ∧ w.grownBy w' (some q) := by
  subst hb; exact clear_any p q n i S w h
theorem has_is (b : Bool) {p q n : Nat} {i : Int} {S : Nat → Bool} {w : World} (h : Bs w p q n S) (hb : hasB S n i = b) :
    Calls Tryd.prog 12 #[.pointer (some ⟨p, 0, none⟩), .int .i64 i] w fun e w' => e = .returned (.bool b) ∧ Below w.heap.size w w' := by
  subst hb
  refine (has_any p q n i S w h).mono ?_
  rintro e w' ⟨rfl, rfl | rfl⟩
  · exact ⟨rfl, Below.refl _ _⟩
  · exact ⟨rfl, (Below.refl _ _).drew⟩
theorem count_is (m : Nat) {p q n : Nat} {S : Nat → Bool} {w : World} (h : Bs w p q n S) (hm : card S n = m) :
    Calls Tryd.prog 21 #[.pointer (some ⟨p, 0, none⟩)] w fun e w' => e = .returned (.int .i64 (m : Int)) ∧ w = w' := by
  subst hm; exact count_any p q n S w h
theorem low_is {p q n k : Nat} {S : Nat → Bool} {w : World} (h : Bs w p q n S) (hT : Tab w) (hk : IsLow S n k) :
    Calls Tryd.prog 22 #[.pointer (some ⟨p, 0, none⟩)] w fun e w' => e = .returned (.tuple #[.int .i64 (k : Int), .bool true]) ∧ w = w' := by
  refine (low_any p q n S w h hT).mono ?_
  rintro e w' ⟨⟨k', h1, rfl⟩ | ⟨h1, rfl⟩, rfl⟩
  · rw [h1.one hk]; exact ⟨rfl, rfl⟩
  · have := h1 k hk.1; rw [hk.2.1] at this; cases this
theorem low_full {p q n : Nat} {S : Nat → Bool} {w : World} (h : Bs w p q n S) (hT : Tab w) (hk : ∀ j, j < n → S j = true) :
    Calls Tryd.prog 22 #[.pointer (some ⟨p, 0, none⟩)] w fun e w' => e = .returned (.tuple #[.int .i64 0, .bool false]) ∧ w = w' := by
  refine (low_any p q n S w h hT).mono ?_
  rintro e w' ⟨⟨k', h1, rfl⟩ | ⟨h1, rfl⟩, rfl⟩
  · have := hk k' h1.1; rw [h1.2.1] at this; cases this
  · exact ⟨rfl, rfl⟩

def sA : Nat → Bool := ins none_ 70 0
def sB : Nat → Bool := ins (ins none_ 70 0) 70 69
def sC : Nat → Bool := ins (ins (ins none_ 70 0) 70 69) 70 70
def sD : Nat → Bool := ins (ins (ins (ins none_ 70 0) 70 69) 70 70) 70 0

set_option maxRecDepth 20000 in
set_option maxHeartbeats 1000000 in
theorem works_any (w : World) (hT : Tab w) : Calls Tryd.prog 9 #[] w fun e W' => e = .returned (.bool true) ∧ Below w.heap.size w W' := by
  have hn := Lib.hid (new_some 70 w (by decide))
  have HT := Lib.hid hT
  clear hT
  go_enter Tryd.func9, Tryd.ntmps9
  go_wp2_with fail
  refine hn.out.mono ?_
  rintro e w1 ⟨p, q, rfl, hp, hq, hb, hbel⟩
  have HB := Lib.hid hbel
  have HT1 := Lib.hid (HT.out.below hbel)
  have H1 := Lib.hid (set_is true (i := 0) hb (by rfl))
  have HQ := Lib.hid hq
  clear hn hb hbel hp hq
  go_wp2_with fail
  refine H1.out.mono ?_
  rintro e w2 ⟨rfl, hb, hg⟩
  have hne : some 0 ≠ some q := fun e => by injection e with e; have := HT.out.lt; have := HQ.out; omega
  have HNE := Lib.hid hne
  have HT2 := Lib.hid (HT1.out.grown hg hne)
  have HB2 := Lib.hid (HB.out.grown hg HB.out.size (fun k e => by injection e with e; rw [← e]; exact HQ.out))
  have H2 := Lib.hid (set_is true (i := 69) hb (by rfl))
  clear H1 hb hg HB HT1 hne
  go_wp2_with fail
  refine H2.out.mono ?_
  rintro e w3 ⟨rfl, hb, hg⟩
  have HT3 := Lib.hid (HT2.out.grown hg HNE.out)
  have HB3 := Lib.hid (HB2.out.grown hg HB2.out.size (fun k e => by injection e with e; rw [← e]; exact HQ.out))
  have H3 := Lib.hid (set_is false (i := 70) hb (by rfl))
  clear H2 hb hg HB2 HT2
  go_wp2_with fail
  refine H3.out.mono ?_
  rintro e w4 ⟨rfl, hb, hg⟩
  have HT4 := Lib.hid (HT3.out.grown hg HNE.out)
  have HB4 := Lib.hid (HB3.out.grown hg HB3.out.size (fun k e => by injection e with e; rw [← e]; exact HQ.out))
  have H4 := Lib.hid (set_is false (i := 0) hb (by rfl))
  clear H3 hb hg HB3 HT3
  go_wp2_with fail
  refine H4.out.mono ?_
  rintro e w5 ⟨rfl, hb, hg⟩
  have HT5 := Lib.hid (HT4.out.grown hg HNE.out)
  have HB5 := Lib.hid (HB4.out.grown hg HB4.out.size (fun k e => by injection e with e; rw [← e]; exact HQ.out))
  have hb' : Bs w5 p q 70 sD := hb
  have hlow : IsLow sD 70 1 := ⟨by decide, by decide, fun j hj => by obtain rfl : j = 0 := by omega
                                                                     decide⟩
  have H5 := Lib.hid (low_is hb' HT5.out hlow)
  have H6 := Lib.hid (count_is 2 hb' (by decide))
  have H7 := Lib.hid (size_of w5 p 70 hb'.head)
  have H8 := Lib.hid (has_is true (i := 69) hb' (by decide))
  clear H4 hb hg HB4 HT4 hb' hlow
  go_wp2_with (first
    | (go_at_call 22; refine H5.out.mono ?_; rintro e w' ⟨rfl, rfl⟩)
    | (go_at_call 21; refine H6.out.mono ?_; rintro e w' ⟨rfl, rfl⟩)
    | (go_at_call 23; refine H7.out.mono ?_; rintro e w' ⟨rfl, rfl⟩)
    | (go_at_call 12; refine H8.out.mono ?_; rintro e w6 ⟨rfl, hb6⟩; have HB6 := Lib.hid hb6; clear hb6))
  go_ret
  exact ⟨rfl, HB5.out.trans (HB6.out.mono (HB5.out.size))⟩

end Go.Proofs.YtfkhgdhfelfegaaDoor
