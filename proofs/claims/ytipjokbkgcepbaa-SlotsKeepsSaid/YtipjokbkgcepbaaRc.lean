/- The reference's Right, Slots, Get, Drop. -/
import Derived.Test.YtipjokbkgcepbaaRb
namespace Go.Proofs.Ytipjokbkgcepbaa
open Go.RowKit Slt

def ReadP (p : List UInt8) (w : World) (e : Ending) (w' : World) : Prop :=
  (Ok p ∧ ∃ sv, e = .returned (.tuple #[sv, .bool true]) ∧ App w w' (recs p) sv) ∨ (¬ Ok p ∧ e = .returned (.tuple #[.slice none 0 0, .bool false]) ∧ Below w.heap.size w w')

set_option maxRecDepth 20000 in
set_option maxHeartbeats 1000000 in
theorem refread_any (A : Option Addr) (len cap : Nat) (p : List UInt8) (w : World) (hlen : p.length = len) (hA : Bytes w A p) (hcap : len ≤ cap) (hcm : cap ≤ maxLen) :
    Calls Try.prog 33 #[.slice A len cap] w (ReadP p w) := by
  by_cases h1 : len = 0
  · have hno : ¬ Ok p := fun h => by have := h.ne; omega
    have HNO := Lib.hid hno
    have d1 : ((len : Int) == 0) = true := by simp; omega
    clear hA hno
    go_enter Try.func33, Try.ntmps33
    go_wp2_with fail
    go_ret2
    exact .inr ⟨HNO.out, rfl, Below.refl _ _⟩
  have d1 : ((len : Int) == 0) = false := by simp; omega
  by_cases h2 : 248 < len
  · have hno : ¬ Ok p := fun h => by have := h.room; omega
    have HNO := Lib.hid hno
    have d2 : decide ((248 : Int) < (len : Int)) = true := by simp; omega
    clear hA hno
    go_enter Try.func33, Try.ntmps33
    go_wp2_with fail
    go_ret2
    exact .inr ⟨HNO.out, rfl, Below.refl _ _⟩
  obtain ⟨b, off, rfl, _⟩ := hA.ex (by omega)
  by_cases h3 : len < 1 + cnt p
  · have hno : ¬ Ok p := fun h => by have := h.head; omega
    have HNO := Lib.hid hno
    have c0 := hA.cellAt rfl (k := 0) (by omega)
    rw [Nat.add_zero] at c0
    obtain ⟨n, hn⟩ : ∃ n, (p.getD 0 0).toNat = n := ⟨_, rfl⟩
    have hcn : cnt p = n := hn
    have hn2 : n < 256 := by rw [← hcn]; exact cnt_lt p
    rw [hn] at c0
    have f1 : IntKind.i64.wrap (1 + (n : Int)) = 1 + n := IntWalk.i64_in _ (by omega)
    have d2 : decide ((248 : Int) < (len : Int)) = false := by simp; omega
    have d3 : decide ((len : Int) < 1 + (n : Int)) = true := by simp; omega
    clear hA hno hn hcn h3
    go_enter Try.func33, Try.ntmps33
    go_wp2_with fail
    go_ret2
    exact .inr ⟨HNO.out, rfl, Below.refl _ _⟩
  · exact refread_walk b off len cap _ p w (by omega) (by omega) rfl (by omega) hlen hA hcap hcm

theorem refright_any (A : Option Addr) (len cap : Nat) (p : List UInt8) (w : World) (hlen : p.length = len) (hA : Bytes w A p) (hcap : len ≤ cap) (hcm : cap ≤ maxLen) :
    Calls Try.prog 14 #[.slice A len cap] w fun e w' => e = .returned (.bool (okB p)) ∧ Below w.heap.size w w' := by
  have H := Lib.hid (refread_any A len cap p w hlen hA hcap hcm)
  clear hA
  go_enter Try.func14, Try.ntmps14
  go_wp2_with fail
  refine H.out.mono ?_
  rintro e w2 (⟨hok, sv, rfl, hap⟩ | ⟨hok, rfl, hb⟩)
  · have HB := Lib.hid hap.bel
    have HOK := Lib.hid (show okB p = true from decide_eq_true hok)
    clear hap hok
    go_wp2_with fail
    go_ret
    exact ⟨by rw [HOK.out]; rfl, HB.out⟩
  · have HB := Lib.hid hb
    have HOK := Lib.hid (show okB p = false from decide_eq_false hok)
    clear hb hok
    go_wp2_with fail
    go_ret
    exact ⟨by rw [HOK.out]; rfl, HB.out⟩

theorem usedK_snoc (l : List (List UInt8)) (k : Nat) (r : List UInt8) (hr : l[k]? = some r) : usedK (l.take (k + 1)) = if 0 < r.length then usedK (l.take k) ++ [k] else usedK (l.take k) := by
  obtain ⟨hk, e⟩ := List.getElem?_eq_some_iff.1 hr
  have hl1 : (l.take (k + 1)).length = k + 1 := by rw [List.length_take]; omega
  have hl0 : (l.take k).length = k := by rw [List.length_take]; omega
  have e1 : usedK (l.take (k + 1)) = (List.range (k + 1)).filter fun j => decide (0 < (l.getD j []).length) := by
    unfold usedK
    rw [hl1]
    apply List.filter_congr
    intro j hj
    rw [List.mem_range] at hj
    rw [show (l.take _).getD j [] = l.getD j [] by simp [List.getD, List.getElem?_take_of_lt hj]]
  have e0 : usedK (l.take k) = (List.range k).filter fun j => decide (0 < (l.getD j []).length) := by
    unfold usedK
    rw [hl0]
    apply List.filter_congr
    intro j hj
    rw [List.mem_range] at hj
    rw [show (l.take _).getD j [] = l.getD j [] by simp [List.getD, List.getElem?_take_of_lt hj]]
  rw [e1, e0, List.range_succ, List.filter_append]
  have hg : l.getD k [] = r := by simp [List.getD, hr]
  by_cases h : 0 < r.length
  · rw [if_pos h]; simp only [List.filter_cons, List.filter_nil, hg, decide_eq_true h, if_true]
  · rw [if_neg h]; simp only [List.filter_cons, List.filter_nil, hg, decide_eq_false h]; simp

set_option maxRecDepth 20000 in
set_option maxHeartbeats 1000000 in
theorem refslots_any (A : Option Addr) (len cap : Nat) (p : List UInt8) (w : World) (hlen : p.length = len) (hA : Bytes w A p) (hcap : len ≤ cap) (hcm : cap ≤ maxLen) :
    Calls Try.prog 17 #[.slice A len cap] w fun e w' => ∃ sv, e = .returned sv ∧ IntsO w' sv (usedK (recs p)) ∧ Below w.heap.size w w' := by
  have H : Calls Try.prog 33 #[.slice A len cap] w fun e w' => ∃ sv is, e = .returned (.tuple #[sv, .bool is]) ∧ App w w' (recs p) sv := by
    refine (refread_any A len cap p w hlen hA hcap hcm).mono ?_
    rintro e w2 (⟨hok, sv, rfl, hap⟩ | ⟨hok, rfl, hb⟩)
    · exact ⟨_, _, rfl, hap⟩
    · exact ⟨_, _, rfl, by rw [recs_no hok]; exact (App.nil w).below hb⟩
  obtain ⟨hf1, _⟩ := recs_flat p
  obtain ⟨n, hn⟩ : ∃ n, (recs p).length = n := ⟨_, rfl⟩
  rw [hn] at hf1
  have HN := Lib.hid hn
  have H := Lib.hid H
  clear hA hn
  go_enter Try.func17, Try.ntmps17
  go_wp2_with fail
  refine H.out.mono ?_
  rintro e w2 ⟨sv, is, rfl, hap⟩
  obtain ⟨As, cs, hsv, _, _, himg⟩ := hap.own.img
  rw [HN.out] at hsv
  subst hsv
  have HB := Lib.hid hap.bel
  have HIM := Lib.hid himg
  have HST : Hid ((IntsO w2 (.slice none 0 0) (usedK ((recs p).take 0)) ∧ ∀ j, Value.ownBlock (.slice none 0 0) = some j → w2.heap.size ≤ j) ∧ Below w2.heap.size w2 w2) := Lib.hid ⟨⟨by rw [List.take_zero]; exact IntsO.nil _, fun j hj => by cases hj⟩, Below.refl _ _⟩
  clear hap himg H
  go_wp2_with fail
  go_loopw [5, 6] (fun ov iv wr => ∃ k : Nat, k ≤ n ∧ iv = .int .i64 (k : Int) ∧ Hid ((IntsO wr ov (usedK ((recs p).take k)) ∧ ∀ j, ov.ownBlock = some j → w2.heap.size ≤ j) ∧ Below w2.heap.size w2 wr)) (fun _ iv _ => n - (intOf iv).toNat)
  case atStart => exact ⟨0, Nat.zero_le _, rfl, HST⟩
  case round =>
    obtain ⟨k, hk, rfl, hI⟩ := hrel
    clear HST
    by_cases hlt : k < n
    · have hd : decide ((k : Int) < (n : Int)) = true := by simpa using hlt
      obtain ⟨r, hr⟩ : ∃ r, (recs p)[k]? = some r := ⟨_, List.getElem?_eq_getElem (by rw [HN.out]; exact hlt)⟩
      obtain ⟨b, off, v, rfl, hblt, hc, A2, c2, rfl, _⟩ := HIM.out k r hr
      have hc' := (hI.out.2.cell (p := ⟨b, off + k, none⟩) hblt).trans hc
      have hus := usedK_snoc (recs p) k r hr
      obtain ⟨L, hL⟩ : ∃ L, r.length = L := ⟨_, rfl⟩
      rw [hL] at hc' hus
      by_cases h0 : 0 < L
      · have d1 : decide ((0 : Int) < (L : Int)) = true := by simpa using h0
        rw [if_pos h0] at hus
        obtain ⟨⟨hio, hown⟩, hbel⟩ := hI.out
        have hb3 : Below wr.heap.size wr (wr.alloc (.cells #[.int .i64 (k : Int)] 3)) := (Below.refl _ _).alloc (Nat.le_refl _) _
        obtain ⟨v', w5, hrun, hio5, hg5, ho5⟩ := (hio.same (W' := wr.alloc (.cells #[.int .i64 (k : Int)] 3)) (fun j hj => hb3.block j (hio.lt j hj))).push k wr.heap.size ((Blk.new wr _ _).cell 0) (by
          have : (usedK ((recs p).take k)).length ≤ ((recs p).take k).length := by unfold usedK; have := List.length_filter_le (fun j => decide (0 < (((recs p).take k).getD j []).length)) (List.range ((recs p).take k).length); rwa [List.length_range] at this
          rw [List.length_take] at this
          omega)
        rw [← hus] at hio5
        obtain ⟨Af, cf, hfv, _, _⟩ := hio.shape
        obtain ⟨A5, c5, hv5, _, _⟩ := hio5.shape
        have hown5 : ∀ j, v'.ownBlock = some j → w2.heap.size ≤ j := fun j hj => by
          rcases ho5 with ho | ho
          · exact hown j (ho ▸ hj)
          · rw [ho, World.size_alloc] at hj; injection hj with hj; have := hbel.size; omega
        have hbel5 : Below w2.heap.size w2 w5 := (hbel.trans (hb3.mono hbel.size)).grown hg5 (by rw [World.size_alloc]; have := hbel.size; omega) (fun j hj => hown j hj)
        have HI : Hid ((IntsO w5 v' (usedK ((recs p).take (k + 1))) ∧ ∀ j, v'.ownBlock = some j → w2.heap.size ≤ j) ∧ Below w2.heap.size w2 w5) := Lib.hid ⟨⟨hio5, hown5⟩, hbel5⟩
        obtain ⟨nf, hnf⟩ : ∃ nf, (usedK ((recs p).take k)).length = nf := ⟨_, rfl⟩
        obtain ⟨nf2, hnf2⟩ : ∃ nf, (usedK ((recs p).take (k + 1))).length = nf := ⟨_, rfl⟩
        rw [hnf] at hfv
        rw [hnf2] at hv5
        subst hfv
        subst hv5
        have HRUN := Lib.hid hrun
        clear hrun hio5 hg5 ho5 hown5 hbel5 hio hown hbel hb3 hus hr hL hc hI hnf hnf2
        go_wp2_with (at_builtin; refine wpList_app rfl _ _ 29 rfl _ _ _ _ rfl rfl HRUN.out ?_; clear HRUN)
        go_roundw
        case rel => exact ⟨k + 1, by omega, by go_num, HI⟩
        case measure => simp [intOf]; omega
      · have d1 : decide ((0 : Int) < (L : Int)) = false := by simp; omega
        rw [if_neg h0] at hus
        have HI : Hid ((IntsO wr u5 (usedK ((recs p).take (k + 1))) ∧ ∀ j, u5.ownBlock = some j → w2.heap.size ≤ j) ∧ Below w2.heap.size w2 wr) := Lib.hid (by rw [hus]; exact hI.out)
        clear hus hr hL hc hI
        go_wp2_with fail
        go_roundw
        case rel => exact ⟨k + 1, by omega, by go_num, HI⟩
        case measure => simp [intOf]; omega
    · obtain rfl : n = k := by omega
      have hd : decide ((n : Int) < (n : Int)) = false := by simp
      have hio := hI.out.1.1
      rw [List.take_of_length_le (by rw [HN.out]; exact Nat.le_refl _)] at hio
      have HIO := Lib.hid hio
      have HBE := Lib.hid (HB.out.trans (hI.out.2.mono HB.out.size))
      clear hio hI
      go_wp2_with fail
      go_ret
      exact ⟨_, rfl, HIO.out, HBE.out⟩

/-- What the reference's Get answers. -/
def RGotP (p : List UInt8) (slot : Int) (w : World) (e : Ending) (w' : World) : Prop :=
  (gotR p slot = none ∧ e = .returned (.tuple #[.slice none 0 0, .bool false]) ∧ Below w.heap.size w w') ∨
  ∃ r A c, gotR p slot = some r ∧ e = .returned (.tuple #[.slice A r.length c, .bool true]) ∧ r.length ≤ c ∧ c ≤ maxLen ∧ Bytes w' A r ∧ Below w.heap.size w w'

set_option maxRecDepth 20000 in
set_option maxHeartbeats 1000000 in
theorem refget_any (A : Option Addr) (len cap : Nat) (slot : Int) (p : List UInt8) (w : World) (hs : -9223372036854775808 ≤ slot ∧ slot < 9223372036854775808) (hlen : p.length = len) (hA : Bytes w A p) (hcap : len ≤ cap) (hcm : cap ≤ maxLen) :
    Calls Try.prog 12 #[.slice A len cap, .int .i64 slot] w (RGotP p slot w) := by
  have H : Calls Try.prog 33 #[.slice A len cap] w fun e w' => ∃ sv is, e = .returned (.tuple #[sv, .bool is]) ∧ App w w' (recs p) sv := by
    refine (refread_any A len cap p w hlen hA hcap hcm).mono ?_
    rintro e w2 (⟨hok, sv, rfl, hap⟩ | ⟨hok, rfl, hb⟩)
    · exact ⟨_, _, rfl, hap⟩
    · exact ⟨_, _, rfl, by rw [recs_no hok]; exact (App.nil w).below hb⟩
  obtain ⟨hf1, _⟩ := recs_flat p
  obtain ⟨n, hn⟩ : ∃ n, (recs p).length = n := ⟨_, rfl⟩
  rw [hn] at hf1
  have HN := Lib.hid hn
  have H := Lib.hid H
  by_cases hneg : slot < 0
  · have hno : gotR p slot = none := if_neg (by omega)
    have HNO := Lib.hid hno
    have d1 : decide (slot < 0) = true := by simpa using hneg
    clear hA hn hno hneg
    go_enter Try.func12, Try.ntmps12
    go_wp2_with fail
    refine H.out.mono ?_
    rintro e w2 ⟨sv, is, rfl, hap⟩
    obtain ⟨As, cs, hsv, _, _⟩ := hap.own.shape
    subst hsv
    have HB := Lib.hid hap.bel
    clear hap H
    go_wp2_with fail
    go_ret2
    exact .inl ⟨HNO.out, rfl, HB.out⟩
  obtain ⟨k, rfl⟩ : ∃ k : Nat, slot = k := ⟨slot.toNat, by omega⟩
  have d1 : decide ((k : Int) < 0) = false := by simp
  by_cases hge : n ≤ k
  · have hno : gotR p k = none := by
      unfold gotR
      rw [if_pos (by omega), Int.toNat_natCast, List.getElem?_eq_none (by omega)]; rfl
    have HNO := Lib.hid hno
    have d2 : decide (n ≤ k) = true := by simpa using hge
    clear hA hn hno hneg
    go_enter Try.func12, Try.ntmps12
    go_wp2_with fail
    refine H.out.mono ?_
    rintro e w2 ⟨sv, is, rfl, hap⟩
    obtain ⟨As, cs, hsv, _, _⟩ := hap.own.shape
    rw [HN.out] at hsv
    subst hsv
    have HB := Lib.hid hap.bel
    clear hap H
    go_wp2_with fail
    go_ret2
    exact .inl ⟨HNO.out, rfl, HB.out⟩
  obtain ⟨r, hr⟩ : ∃ r, (recs p)[k]? = some r := ⟨_, List.getElem?_eq_getElem (by omega)⟩
  have d2 : decide (n ≤ k) = false := by simp; omega
  have hkn : k < n := by omega
  obtain ⟨L, hL⟩ : ∃ L, r.length = L := ⟨_, rfl⟩
  have HR := Lib.hid hr
  have HLL := Lib.hid hL
  by_cases hL0 : L = 0
  · have hno : gotR p k = none := gotR_none fun j s hj he => by
      obtain rfl : j = k := by omega
      rw [hr] at hj; cases hj; omega
    have HNO := Lib.hid hno
    have d3 : ((L : Int) == 0) = true := by simp; omega
    clear hA hn hno hneg hr hL hL0 hge
    go_enter Try.func12, Try.ntmps12
    go_wp2_with fail
    refine H.out.mono ?_
    rintro e w2 ⟨sv, is, rfl, hap⟩
    obtain ⟨g3, c3, v3, hsv, hg3, hc3, hf3, A3, c4, rfl, _⟩ := hap.own.get k r HR.out
    rw [HN.out] at hsv
    rw [HLL.out] at hc3
    subst hsv
    have HB := Lib.hid hap.bel
    clear hap H
    go_wp2_with fail
    go_ret2
    exact .inl ⟨HNO.out, rfl, HB.out⟩
  · have hgot : gotR p k = some r := gotR_some hr rfl (by omega)
    have d3 : ((L : Int) == 0) = false := by simp; omega
    have HGOT := Lib.hid hgot
    clear hA hn hgot hneg hr hL hL0 hge
    go_enter Try.func12, Try.ntmps12
    go_wp2_with fail
    refine H.out.mono ?_
    rintro e w2 ⟨sv, is, rfl, hap⟩
    obtain ⟨g3, c3, v3, hsv, hg3, hc3, hf3, A3, c4, rfl, hl4, hm4, hby4, _⟩ := hap.own.get k r HR.out
    rw [HN.out] at hsv
    have HF : Hid (RGotP p k w (.returned (.tuple #[.slice A3 r.length c4, .bool true])) w2) := Lib.hid (.inr ⟨r, A3, c4, HGOT.out, rfl, hl4, hm4, hby4, hap.bel⟩)
    rw [HLL.out] at hc3 HF
    subst hsv
    clear hap H hby4
    go_wp2_with fail
    go_ret2
    exact HF.out

set_option maxRecDepth 20000 in
set_option maxHeartbeats 2000000 in
theorem refdrop_any (A : Option Addr) (len cap : Nat) (slot : Int) (p : List UInt8) (w : World) (hs : -9223372036854775808 ≤ slot ∧ slot < 9223372036854775808) (hlen : p.length = len) (hA : Bytes w A p) (hcap : len ≤ cap) (hcm : cap ≤ maxLen) :
    Calls Try.prog 26 #[.slice A len cap, .int .i64 slot] w (DropP p slot w) := by
  have H := Lib.hid (refread_any A len cap p w hlen hA hcap hcm)
  by_cases hok : Ok p
  · have H : Hid (Calls Try.prog 33 #[.slice A len cap] w fun e w' => ∃ sv, e = .returned (.tuple #[sv, .bool true]) ∧ App w w' (recs p) sv) := Lib.hid (by
      refine H.out.mono ?_
      rintro e w2 (⟨_, sv, rfl, hap⟩ | ⟨hno, rfl, hb⟩)
      · exact ⟨_, rfl, hap⟩
      · exact absurd hok hno)
    obtain ⟨hf1, hf2⟩ := recs_flat p
    obtain ⟨n, hn⟩ : ∃ n, (recs p).length = n := ⟨_, rfl⟩
    rw [hn] at hf1
    have HN := Lib.hid hn
    by_cases hneg : slot < 0
    · have hno : gotR p slot = none := if_neg (by omega)
      have HNO := Lib.hid hno
      have d1 : decide (slot < 0) = true := by simpa using hneg
      clear hA hn hno hneg
      go_enter Try.func26, Try.ntmps26
      go_wp2_with fail
      refine H.out.mono ?_
      rintro e w2 ⟨sv, rfl, hap⟩
      obtain ⟨As, cs, hsv, _, _⟩ := hap.own.shape
      subst hsv
      have HB := Lib.hid hap.bel
      clear hap H
      go_wp2_with fail
      go_ret2
      exact .inl ⟨HNO.out, rfl, HB.out⟩
    obtain ⟨k, rfl⟩ : ∃ k : Nat, slot = k := ⟨slot.toNat, by omega⟩
    have d1 : decide ((k : Int) < 0) = false := by simp
    by_cases hge : n ≤ k
    · have hno : gotR p k = none := by
        unfold gotR
        rw [if_pos (by omega), Int.toNat_natCast, List.getElem?_eq_none (by omega)]; rfl
      have HNO := Lib.hid hno
      have d2 : decide (n ≤ k) = true := by simpa using hge
      clear hA hn hno hneg
      go_enter Try.func26, Try.ntmps26
      go_wp2_with fail
      refine H.out.mono ?_
      rintro e w2 ⟨sv, rfl, hap⟩
      obtain ⟨As, cs, hsv, _, _⟩ := hap.own.shape
      rw [HN.out] at hsv
      subst hsv
      have HB := Lib.hid hap.bel
      clear hap H
      go_wp2_with fail
      go_ret2
      exact .inl ⟨HNO.out, rfl, HB.out⟩
    obtain ⟨r, hr⟩ : ∃ r, (recs p)[k]? = some r := ⟨_, List.getElem?_eq_getElem (by omega)⟩
    have d2 : decide (n ≤ k) = false := by simp; omega
    have hkn : k < n := by omega
    obtain ⟨L, hL⟩ : ∃ L, r.length = L := ⟨_, rfl⟩
    have HR := Lib.hid hr
    have HLL := Lib.hid hL
    by_cases hL0 : L = 0
    · have hno : gotR p k = none := gotR_none fun j s hj he => by
        obtain rfl : j = k := by omega
        rw [hr] at hj; cases hj; omega
      have HNO := Lib.hid hno
      have d3 : ((L : Int) == 0) = true := by simp; omega
      clear hA hn hno hneg hr hL hL0 hge
      go_enter Try.func26, Try.ntmps26
      go_wp2_with fail
      refine H.out.mono ?_
      rintro e w2 ⟨sv, rfl, hap⟩
      obtain ⟨g3, c3, v3, hsv, hg3, hc3, hf3, A3, c4, rfl, _⟩ := hap.own.get k r HR.out
      rw [HN.out] at hsv
      rw [HLL.out] at hc3
      subst hsv
      have HB := Lib.hid hap.bel
      clear hap H
      go_wp2_with fail
      go_ret2
      exact .inl ⟨HNO.out, rfl, HB.out⟩
    · have hgot : gotR p k = some r := gotR_some hr rfl (by omega)
      have d3 : ((L : Int) == 0) = false := by simp; omega
      have hdl : dropL p k = (recs p).set k [] := by unfold dropL; rw [Int.toNat_natCast]
      have hdb : 1 + (dropL p k).length + (dropL p k).flatten.length ≤ 1000000 := by
        rw [hdl, List.length_set]; have := set_nil_flat (recs p) k; omega
      have HGOT := Lib.hid hgot
      have HDL := Lib.hid hdl
      have HDB := Lib.hid hdb
      clear hA hn hgot hneg hr hL hL0 hge hdl hdb
      go_enter Try.func26, Try.ntmps26
      go_wp2_with fail
      refine H.out.mono ?_
      rintro e w3 ⟨sv, rfl, hap⟩
      obtain ⟨g3, c3, v3, hsv, hg3, hc3, hf3, A3, c4, rfl, _⟩ := hap.own.get k r HR.out
      rw [HLL.out] at hc3
      have hS5 := hap.own.set_ k g3 _ c3 hsv (fun e => e.2.2 (by rw [hsv]; rfl)) (.slice none 0 0) [] (Sec.nil _ _)
      have hb5 : Below w.heap.size w (w3.setCell ⟨g3, k, none⟩ (.slice none 0 0)) := hap.bel.setCell (p := ⟨g3, k, none⟩) (hap.lo g3 (by rw [hsv]; rfl)) _
      rw [← HDL.out] at hS5
      obtain ⟨A5, c5, hv5, hc5, hc5m, himg⟩ := hS5.img
      have hpg := refwrite_any A5 (dropL p k).length c5 (dropL p k) _ rfl hc5 hc5m himg HDB.out
      have hdn : (dropL p k).length = n := by rw [HDL.out, List.length_set, HN.out]
      rw [hdn] at hpg hv5
      rw [HN.out] at hsv
      rw [hsv] at hv5
      injection hv5 with e1 e2 e3
      subst e1
      subst e3
      subst hsv
      have HPG := Lib.hid hpg
      have HB5 := Lib.hid hb5
      clear hap hS5 hb5 himg hpg hc5 hc5m hdn e2 H
      go_wp2_with fail
      refine HPG.out.mono ?_
      rintro e w6 ⟨g, c, rfl, hrw, hg, hb6⟩
      have HF : Hid (DropP p k w (.returned (.tuple #[.slice (some ⟨g, 0, none⟩) (pageOf (dropL p k)).length c, .bool true])) w6) :=
        Lib.hid (.inr ⟨r, g, c, HGOT.out, rfl, hrw, Nat.le_trans HB5.out.size hg, HB5.out.trans (hb6.mono HB5.out.size)⟩)
      clear hrw hg hb6 HPG
      go_wp2_with fail
      go_ret2
      exact HF.out
  · have H : Hid (Calls Try.prog 33 #[.slice A len cap] w fun e w' => e = .returned (.tuple #[.slice none 0 0, .bool false]) ∧ Below w.heap.size w w') := Lib.hid (by
      refine H.out.mono ?_
      rintro e w2 (⟨h, sv, rfl, hap⟩ | ⟨hno, rfl, hb⟩)
      · exact absurd h hok
      · exact ⟨rfl, hb⟩)
    have hno : gotR p slot = none := gotR_none fun k r hr _ => by rw [recs_no hok] at hr; simp at hr
    have HNO := Lib.hid hno
    clear hA hok hno
    go_enter Try.func26, Try.ntmps26
    go_wp2_with fail
    refine H.out.mono ?_
    rintro e w2 ⟨rfl, hb⟩
    have HB := Lib.hid hb
    clear hb H
    go_wp2_with fail
    go_ret2
    exact .inl ⟨HNO.out, rfl, HB.out⟩
end Go.Proofs.Ytipjokbkgcepbaa
