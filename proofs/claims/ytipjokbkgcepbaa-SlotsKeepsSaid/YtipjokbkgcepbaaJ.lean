/- slots: Put where nothing is put; Drop; the anchor. -/
import Derived.Test.YtipjokbkgcepbaaI
namespace Go.Proofs.Ytipjokbkgcepbaa
open Go.RowKit Slt

set_option maxRecDepth 20000 in
set_option maxHeartbeats 1000000 in
theorem put_no (A B : Option Addr) (len cap l2 c2 : Nat) (p rec : List UInt8) (w : World) (hm : ¬ mayPut p rec) (hlen : p.length = len) (hA : Bytes w A p) (hcap : len ≤ cap) (hcm : cap ≤ maxLen) (hl2 : rec.length = l2) :
    Calls Try.prog 23 #[.slice A len cap, .slice B l2 c2] w (PutP p rec w) := by
  have HM := Lib.hid hm
  by_cases h0 : l2 = 0
  · subst h0
    clear hA hm hl2
    go_enter Try.func23, Try.ntmps23
    go_wp2_with fail
    go_ret3
    exact .inl ⟨HM.out, rfl, Below.refl _ _⟩
  · have hrm := room_any A len cap p w hlen hA hcap hcm
    have hlt : roomR p < (l2 : Int) := by
      rcases Int.lt_or_le (roomR p) (l2 : Int) with h | h
      · exact h
      · exact absurd ⟨fun e => h0 (by rw [← hl2, e]; rfl), by rw [hl2]; exact h⟩ hm
    obtain ⟨rr, hrr⟩ : ∃ rr, roomR p = rr := ⟨_, rfl⟩
    rw [hrr] at hrm hlt
    have d1 : ((l2 : Int) == 0) = false := by simp; omega
    have d2 : decide (rr < (l2 : Int)) = true := by simpa using hlt
    have HRM := Lib.hid hrm
    clear hA hm hl2 hrm hrr hlt
    go_enter Try.func23, Try.ntmps23
    go_wp2_with fail
    refine HRM.out.mono ?_
    rintro e w1 ⟨rfl, hb1⟩
    have HB1 := Lib.hid hb1
    clear hb1
    go_wp2_with fail
    go_ret3
    exact .inl ⟨HM.out, rfl, HB1.out⟩
theorem put_any (A B : Option Addr) (len cap l2 c2 : Nat) (p rec : List UInt8) (w : World) (hlen : p.length = len) (hA : Bytes w A p) (hcap : len ≤ cap) (hcm : cap ≤ maxLen)
    (hl2 : rec.length = l2) (hB : Bytes w B rec) (hc2 : l2 ≤ c2) (hm2 : c2 ≤ maxLen) :
    Calls Try.prog 23 #[.slice A len cap, .slice B l2 c2] w (PutP p rec w) := by
  by_cases hm : mayPut p rec
  · exact put_yes A B len cap l2 c2 p rec w hm hlen hA hcap hcm hl2 hB hc2 hm2
  · exact put_no A B len cap l2 c2 p rec w hm hlen hA hcap hcm hl2

def dropL (p : List UInt8) (slot : Int) : List (List UInt8) := (recs p).set slot.toNat []
def DropP (p : List UInt8) (slot : Int) (w : World) (e : Ending) (w' : World) : Prop :=
  (gotR p slot = none ∧ e = .returned (.tuple #[.slice none 0 0, .bool false]) ∧ Below w.heap.size w w') ∨
  ∃ r g c, gotR p slot = some r ∧ e = .returned (.tuple #[.slice (some ⟨g, 0, none⟩) (pageOf (dropL p slot)).length c, .bool true]) ∧ Rw w' g (pageOf (dropL p slot)).length c (pageOf (dropL p slot)) ∧ w.heap.size ≤ g ∧ Below w.heap.size w w'
theorem recs_flat (p : List UInt8) : (recs p).length ≤ 255 ∧ (recs p).flatten.length ≤ 248 := by
  by_cases h : Ok p
  · have := h.len
    have := h.room
    have := recs_length h
    have := cnt_lt p
    omega
  · rw [recs_no h]; simp
theorem set_nil_flat : ∀ (l : List (List UInt8)) (k : Nat), (l.set k []).flatten.length ≤ l.flatten.length
  | [], k => by simp
  | s :: l, 0 => by simp
  | s :: l, k + 1 => by have := set_nil_flat l k; simp only [List.set_cons_succ, List.flatten_cons, List.length_append]; omega

set_option maxRecDepth 20000 in
set_option maxHeartbeats 2000000 in
theorem drop_any (A : Option Addr) (len cap : Nat) (slot : Int) (p : List UInt8) (w : World) (hs : -9223372036854775808 ≤ slot ∧ slot < 9223372036854775808) (hlen : p.length = len) (hA : Bytes w A p) (hcap : len ≤ cap) (hcm : cap ≤ maxLen) :
    Calls Try.prog 25 #[.slice A len cap, .int .i64 slot] w (DropP p slot w) := by
  have hrec := records_any A len cap p w hlen hA hcap hcm
  obtain ⟨n, hn⟩ : ∃ n, (recs p).length = n := ⟨_, rfl⟩
  obtain ⟨hf1, hf2⟩ := recs_flat p
  have HREC := Lib.hid hrec
  have HN := Lib.hid hn
  have hn255 : n ≤ 255 := by omega
  by_cases hneg : slot < 0
  · have hno : gotR p slot = none := if_neg (by omega)
    have HNO := Lib.hid hno
    have d1 : decide (slot < 0) = true := by simpa using hneg
    clear hrec hA hlen hn hno hneg
    go_enter Try.func25, Try.ntmps25
    go_wp2_with fail
    refine HREC.out.mono ?_
    rintro e w3 ⟨sv, rfl, hS, hlo, hb3⟩
    obtain ⟨As, cS, hsv, _, _⟩ := hS.shape
    subst hsv
    have HB3 := Lib.hid hb3
    clear hS hlo hb3
    go_wp2_with fail
    go_ret2
    exact .inl ⟨HNO.out, rfl, HB3.out⟩
  obtain ⟨k, rfl⟩ : ∃ k : Nat, slot = k := ⟨slot.toNat, by omega⟩
  have d1 : decide ((k : Int) < 0) = false := by simp
  by_cases hge : n ≤ k
  · have hno : gotR p k = none := by
      unfold gotR
      rw [if_pos (by omega), Int.toNat_natCast, List.getElem?_eq_none (by omega)]; rfl
    have HNO := Lib.hid hno
    have d2 : decide (n ≤ k) = true := by simpa using hge
    clear hrec hA hlen hno hneg
    go_enter Try.func25, Try.ntmps25
    go_wp2_with fail
    refine HREC.out.mono ?_
    rintro e w3 ⟨sv, rfl, hS, hlo, hb3⟩
    obtain ⟨As, cS, hsv, _, _⟩ := hS.shape
    rw [HN.out] at hsv
    subst hsv
    have HB3 := Lib.hid hb3
    clear hS hlo hb3 hn
    go_wp2_with fail
    go_ret2
    exact .inl ⟨HNO.out, rfl, HB3.out⟩
  obtain ⟨r, hr⟩ : ∃ r, (recs p)[k]? = some r := ⟨_, List.getElem?_eq_getElem (by omega)⟩
  have d2 : decide (n ≤ k) = false := by simp; omega
  have hkn : k < n := by omega
  obtain ⟨L, hL⟩ : ∃ L, r.length = L := ⟨_, rfl⟩
  have HR := Lib.hid hr
  have HLL := Lib.hid hL
  by_cases hL0 : L = 0
  · have hno : gotR p k = none := gotR_none fun j s hj he => by
      obtain rfl : j = k := by omega
      rw [hr] at hj; cases hj; omega
    have HNO := Lib.hid hno
    have d3 : ((L : Int) == 0) = true := by simp; omega
    clear hrec hA hlen hno hneg hr hL hL0 hge
    go_enter Try.func25, Try.ntmps25
    go_wp2_with fail
    refine HREC.out.mono ?_
    rintro e w3 ⟨sv, rfl, hS, hlo, hb3⟩
    obtain ⟨g3, c3, v3, hsv, hg3, hc3, hf3, A3, c4, rfl, _⟩ := hS.get k r HR.out
    rw [HN.out] at hsv
    rw [HLL.out] at hc3
    subst hsv
    have HB3 := Lib.hid hb3
    clear hS hlo hb3 hn
    go_wp2_with fail
    go_ret2
    exact .inl ⟨HNO.out, rfl, HB3.out⟩
  · have hgot : gotR p k = some r := gotR_some hr rfl (by omega)
    have d3 : ((L : Int) == 0) = false := by simp; omega
    have hdl : dropL p k = (recs p).set k [] := by unfold dropL; rw [Int.toNat_natCast]
    have hdb : 1 + (dropL p k).length + (dropL p k).flatten.length ≤ 1000000 := by
      rw [hdl, List.length_set]; have := set_nil_flat (recs p) k; omega
    have HGOT := Lib.hid hgot
    have HDL := Lib.hid hdl
    have HDB := Lib.hid hdb
    have HPE : Hid (∀ j, PgE A j → j < w.heap.size) := Lib.hid (hA.blk_lt (by
      by_cases e : Ok p
      · exact e.ne
      · rw [recs_no e] at hr; simp at hr))
    clear hrec hA hlen hgot hneg hr hL hL0 hge hdl hdb
    go_enter Try.func25, Try.ntmps25
    go_wp2_with fail
    refine HREC.out.mono ?_
    rintro e w3 ⟨sv, rfl, hS, hlo, hb3⟩
    obtain ⟨g3, c3, v3, hsv, hg3, hc3, hf3, A3, c4, rfl, _⟩ := hS.get k r HR.out
    rw [HLL.out] at hc3
    have hS5 := (hS.mono (E' := fun j => j < w.heap.size) HPE.out).set_ k g3 _ c3 hsv (by have := hlo g3 (by rw [hsv]; rfl); omega) (.slice none 0 0) [] (Sec.nil _ _)
    have hb5 : Below w.heap.size w (w3.setCell ⟨g3, k, none⟩ (.slice none 0 0)) := hb3.setCell (p := ⟨g3, k, none⟩) (hlo g3 (by rw [hsv]; rfl)) _
    rw [← HDL.out] at hS5
    obtain ⟨A5, c5, hv5, hc5, hc5m, himg⟩ := hS5.img
    have hpg := page_any A5 (dropL p k).length c5 (dropL p k) _ rfl hc5 hc5m himg HDB.out
    have hdn : (dropL p k).length = n := by rw [HDL.out, List.length_set, HN.out]
    rw [hdn] at hpg hv5
    rw [HN.out] at hsv
    rw [hsv] at hv5
    injection hv5 with e1 e2 e3
    subst e1
    subst e3
    subst hsv
    have HPG := Lib.hid hpg
    have HB5 := Lib.hid hb5
    clear hS hS5 hb5 himg hpg hb3 hlo hc5 hc5m hdn hn e2
    go_wp2_with fail
    refine HPG.out.mono ?_
    rintro e w6 ⟨g, c, rfl, hrw, hg, hb6⟩
    have HF : Hid (DropP p k w (.returned (.tuple #[.slice (some ⟨g, 0, none⟩) (pageOf (dropL p k)).length c, .bool true])) w6) :=
      Lib.hid (.inr ⟨r, g, c, HGOT.out, rfl, hrw, Nat.le_trans HB5.out.size hg, HB5.out.trans (hb6.mono HB5.out.size)⟩)
    clear hrw hg hb6 HPG
    go_wp2_with fail
    go_ret2
    exact HF.out

end Go.Proofs.Ytipjokbkgcepbaa
