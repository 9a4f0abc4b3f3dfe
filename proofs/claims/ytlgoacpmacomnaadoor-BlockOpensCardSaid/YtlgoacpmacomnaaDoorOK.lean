/- The reference's Cut and Fill. -/
import Derived.Test.YtlgoacpmacomnaaDoorOJ
namespace Go.Proofs.YtlgoacpmacomnaaDoor
open Go.RowKit

set_option maxHeartbeats 400000 in
theorem refcut_no (A : Option Addr) (len cap : Nat) (at_ n : Int) (w : World) (hl : len ≤ 281474976710656) (hn : -9223372036854775808 ≤ n ∧ n < 9223372036854775808) (h : insideB len at_ n = false) :
    Calls Tryd.prog 32 #[.slice A len cap, .int .i64 at_, .int .i64 n] w fun e w' => e = .returned (.tuple #[.slice none 0 0, .bool false]) ∧ w = w' := by
  by_cases ha : at_ ≤ len
  · have ht := there_any A len cap at_ n w hl ha hn
    rw [h] at ht
    have HT := Lib.hid ht
    clear ht h
    go_enter Tryd.func32, Tryd.ntmps32
    go_wp2_with (go_at_call 35; refine HT.out.mono ?_; rintro e w' ⟨rfl, rfl⟩)
    go_ret2
    exact ⟨rfl, rfl⟩
  · have ha2 : (len : Int) < at_ := by omega
    clear h
    go_enter Tryd.func32, Tryd.ntmps32
    go_wp2
    go_ret2
    exact ⟨rfl, rfl⟩

set_option maxHeartbeats 400000 in
theorem refcut_ok (A : Option Addr) (len cap at_ n : Nat) (bs : List UInt8) (w : World) (hbl : bs.length = len) (hle : at_ + n ≤ len) (hl : len ≤ 1048576) (hA : Bytes w A bs) :
    Calls Tryd.prog 32 #[.slice A len cap, .int .i64 at_, .int .i64 n] w fun e w' => ∃ v, e = .returned (.tuple #[v, .bool true]) ∧ w'.ownsRow w.heap.size 5 1 v n ((fieldOf bs at_ n).map bv) ∧ Below w.heap.size w w' := by
  have ht := there_any A len cap at_ n w (by omega) (by omega) (by omega)
  have hi : insideB len at_ n = true := by simp [insideB]; omega
  rw [hi] at ht
  have HT := Lib.hid ht
  obtain ⟨fb, hfb⟩ : ∃ fb, fieldOf bs at_ n = fb := ⟨_, rfl⟩
  have hfl : fb.length = n := by rw [← hfb]; unfold fieldOf; simp; omega
  have hget : ∀ q (hq : q < fb.length), bs[at_ + q]? = some fb[q] := by
    intro q hq
    have h1 : fb[q]? = some fb[q] := List.getElem?_eq_getElem hq
    rw [← h1, ← hfb]
    unfold fieldOf
    rw [List.getElem?_take_of_lt (by omega), List.getElem?_drop]
  rw [hfb]
  have HG := Lib.hid hget
  have HFL := Lib.hid hfl
  have HA := Lib.hid hA
  have hal : ¬ ((len : Int) < (at_ : Int)) := by omega
  clear ht hi hfb hget hfl hA
  go_enter Tryd.func32, Tryd.ntmps32
  go_wp2_with (go_at_call 35; refine HT.out.mono ?_; rintro e w' ⟨rfl, rfl⟩)
  go_loopw [8, 9] (fun v i wr => ∃ k : Nat, k ≤ n ∧ i = .int .i64 k ∧ wr.ownsRow w.heap.size 5 1 v k ((fb.take k).map bv) ∧ Below w.heap.size w wr) (fun _ i _ => n - (intOf i).toNat)
  case atStart => exact ⟨0, Nat.zero_le _, rfl, ⟨by simp, .inl ⟨rfl, rfl⟩⟩, Below.refl _ _⟩
  case round =>
    obtain ⟨k, hk, rfl, hown, hbw⟩ := hrel
    have hszw := hbw.size
    by_cases hlt : k < n
    · have hq : k < fb.length := by rw [HFL.out]; omega
      have hb := HG.out k hq
      have hts : fb.take (k + 1) = fb.take k ++ [fb[k]] := List.take_succ_eq_append_getElem hq
      obtain ⟨b, off, rfl, _, hc⟩ := (HA.out.below hbw).at_ (k := at_ + k) (by omega)
      have hc2 := hc _ _ hb
      obtain ⟨c, hce⟩ : ∃ c, fb[k] = c := ⟨_, rfl⟩
      rw [hce] at hts hc2
      obtain ⟨v2, w2, hrun2, hown2, hgr2⟩ := run_app1 wr w.heap.size _ k _ c hown (by omega) hszw
      rw [← hts] at hown2
      have hb2 : Below w.heap.size w w2 := (hbw.alloc hszw _).grown hgr2 (by rw [World.size_alloc]; omega) (fun k e => (hown.lt k e).1)
      obtain ⟨p, hp⟩ : ∃ p, at_ + k = p := ⟨_, rfl⟩
      rw [hp] at hc2
      have e2 : (at_ : Int) + (k : Int) = (p : Int) := by omega
      have hpl : (p : Int) < (len : Int) := by omega
      have hkm : (k : Int) < (n : Int) := by omega
      have HR2 := Lib.hid hrun2
      have HO2 := Lib.hid hown2
      have HB2 := Lib.hid hb2
      clear hb hts hc hce hown hbw hrun2 hown2 hgr2 hb2 hp
      go_wp2_with (at_builtin; refine wpList_app rfl _ _ 22 rfl _ _ _ _ rfl rfl HR2.out ?_; clear HR2)
      go_roundw
      case rel => exact ⟨k + 1, by omega, by go_num, HO2.out, HB2.out⟩
      case measure => simp [intOf]; omega
    · obtain rfl : k = n := by omega
      have hte : fb.take k = fb := List.take_of_length_le (Nat.le_of_eq HFL.out)
      rw [hte] at hown
      have HO3 := Lib.hid hown
      have HB3 := Lib.hid hbw
      have hkm : ¬ ((k : Int) < (k : Int)) := by omega
      clear hown hbw hte
      go_wp2
      go_ret2
      exact ⟨_, rfl, HO3.out, HB3.out⟩

set_option maxHeartbeats 400000 in
theorem reffill_no (A : Option Addr) (len cap : Nat) (n : Int) (w : World) (h : n < len ∨ 1048576 < n) :
    Calls Tryd.prog 27 #[.slice A len cap, .int .i64 n] w fun e w' => e = .returned (.tuple #[.slice none 0 0, .bool false]) ∧ w = w' := by
  by_cases h1 : n < (len : Int)
  · go_enter Tryd.func27, Tryd.ntmps27
    go_wp2
    go_ret2
    exact ⟨rfl, rfl⟩
  · have h2 : 1048576 < n := by omega
    have h3 : ¬ (n < (len : Int)) := h1
    go_enter Tryd.func27, Tryd.ntmps27
    go_wp2
    go_ret2
    exact ⟨rfl, rfl⟩

/-- A row of which the first k bytes are laid. -/
def part8 (bs : List UInt8) (n k : Nat) : Array Value := row8 (bs.take k ++ List.replicate (n - k) 0)
theorem part8_zero (bs : List UInt8) (n : Nat) : part8 bs n 0 = mk8 n := by
  unfold part8 row8
  rw [mk8_eq]
  simp
theorem part8_size (bs : List UInt8) (n k : Nat) (hk : k ≤ bs.length) (hn : bs.length ≤ n) : (part8 bs n k).size = n := by simp [part8, row8]; omega
theorem part8_step (bs : List UInt8) (n k : Nat) (hk : k < bs.length) (hn : bs.length ≤ n) : (part8 bs n k).setIfInBounds k (bv bs[k]) = part8 bs n (k + 1) := by
  unfold part8 row8
  rw [List.setIfInBounds_toArray, ← List.map_set]
  congr 2
  rw [show n - k = (n - (k + 1)) + 1 by omega, List.replicate_succ, List.set_append_right _ _ (by simp; omega)]
  simp only [List.length_take, Nat.min_eq_left (Nat.le_of_lt hk), Nat.sub_self, List.set_cons_zero]
  rw [List.take_succ_eq_append_getElem hk, List.append_assoc]
  rfl

set_option maxHeartbeats 400000 in
theorem reffill_ok (A : Option Addr) (len cap n : Nat) (bs : List UInt8) (w : World) (hbl : bs.length = len) (hle : len ≤ n) (hn : n ≤ 1048576) (hA : Bytes w A bs) :
    Calls Tryd.prog 27 #[.slice A len cap, .int .i64 n] w fun e w' => e = .returned (.tuple #[.slice (some ⟨w.heap.size, 0, none⟩) n n, .bool true]) ∧ Blk w' w.heap.size 5 (row8 (filled bs n)) ∧ Below w.heap.size w w' := by
  have hmk := run_mk8 n (by omega)
  have HA := Lib.hid hA
  have h1 : ¬ ((n : Int) < (len : Int)) := by omega
  have h2 : ¬ (1048576 < (n : Int)) := by omega
  have HBL := Lib.hid hbl
  clear hA hbl
  go_enter Tryd.func27, Tryd.ntmps27
  go_wp2
  go_loopw [7] (fun i wr => ∃ k : Nat, k ≤ len ∧ i = .int .i64 k ∧ Blk wr w.heap.size 5 (part8 bs n k) ∧ Below w.heap.size w wr) (fun i _ => len - (intOf i).toNat)
  case atStart => exact ⟨0, Nat.zero_le _, rfl, by rw [part8_zero]; exact Blk.new w _ _, (Below.refl _ w).alloc (Nat.le_refl _) _⟩
  case round =>
    obtain ⟨k, hk, rfl, hblk, hbw⟩ := hrel
    by_cases hlt : k < len
    · have hkb : k < bs.length := by rw [HBL.out]; exact hlt
      obtain ⟨b, off, rfl, _, hc⟩ := (HA.out.below hbw).at_ hkb
      have hc2 := hc _ _ (List.getElem?_eq_getElem hkb)
      have hstep := part8_step bs n k hkb (by rw [HBL.out]; exact hle)
      have hsz : k < (part8 bs n k).size := by rw [part8_size bs n k (by omega) (by rw [HBL.out]; exact hle)]; omega
      obtain ⟨u, hu⟩ : ∃ u, wr.cell? ⟨w.heap.size, k, none⟩ = some u := ⟨_, (hblk.cell k).trans (Array.getElem?_eq_getElem hsz)⟩
      have hf := hblk.frozen k
      obtain ⟨c, hce⟩ : ∃ c, bs[k] = c := ⟨_, rfl⟩
      rw [hce] at hc2 hstep
      have hb2 := hblk.set_ k (bv c)
      rw [hstep] at hb2
      have hbw2 := hbw.setCell (p := ⟨w.heap.size, k, none⟩) (Nat.le_refl _) (bv c)
      simp only [bv] at hb2 hbw2
      have hkl : (k : Int) < (len : Int) := by omega
      have hkn : (k : Int) < (n : Int) := by omega
      have HB2 := Lib.hid hb2
      have HBW2 := Lib.hid hbw2
      clear hc hstep hsz hce hb2 hbw2 hblk hbw
      go_wp2
      go_roundw
      case rel => exact ⟨k + 1, by omega, by go_num, HB2.out, HBW2.out⟩
      case measure => simp [intOf]; omega
    · obtain rfl : k = len := by omega
      have hfin : part8 bs n k = row8 (filled bs n) := by
        unfold part8 filled
        rw [List.take_of_length_le (Nat.le_of_eq HBL.out), HBL.out]
      rw [hfin] at hblk
      have HB3 := Lib.hid hblk
      have HBW3 := Lib.hid hbw
      have hkm : ¬ ((k : Int) < (k : Int)) := by omega
      clear hblk hbw hfin
      go_wp2
      go_ret2
      exact ⟨rfl, HB3.out, HBW3.out⟩

end Go.Proofs.YtlgoacpmacomnaaDoor
