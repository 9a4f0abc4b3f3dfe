/- slots: Empty, Room, Put, Drop. -/
import Derived.Test.YtipjokbkgcepbaaH
import Derived.Test.YtipjokbkgcepbaaN
namespace Go.Proofs.Ytipjokbkgcepbaa
open Go.RowKit Slt

theorem empty_any (w : World) : Calls Try.prog 28 #[] w fun e w' => e = .returned (.slice (some ⟨w.heap.size, 0, none⟩) 1 1) ∧ Rw w' w.heap.size 1 1 [0] ∧ Below w.heap.size w w' := by
  have h := Own8.one w 0
  obtain ⟨g, c, e, h1, _⟩ := h.rw_ (by decide)
  injection e with e1 e2 e3
  clear e2
  injection e1 with e1
  injection e1 with e1 e4 e5
  clear e4 e5
  subst e1
  subst e3
  have HR := Lib.hid h1
  have HB := Lib.hid h.bel
  clear h h1
  go_enter Try.func28, Try.ntmps28
  go_wp2
  go_ret
  exact ⟨rfl, HR.out, HB.out⟩

/-- How long a record may be. -/
def roomN (p : List UInt8) : Nat := 248 - p.length - (if lowK (recs p) = cnt p then 1 else 0)
def roomR (p : List UInt8) : Int := if Ok p ∧ 0 < roomN p then (roomN p : Int) else -1

set_option maxHeartbeats 1000000 in
theorem room_any (A : Option Addr) (len cap : Nat) (p : List UInt8) (w : World) (hlen : p.length = len) (hA : Bytes w A p) (hcap : len ≤ cap) (hcm : cap ≤ maxLen) :
    Calls Try.prog 18 #[.slice A len cap] w fun e w' => e = .returned (.int .i64 (roomR p)) ∧ Below w.heap.size w w' := by
  have hR := right_any A len cap p w hlen hA hcap hcm
  by_cases hok : Ok p
  · rw [show okB p = true from decide_eq_true hok] at hR
    have hL := lowest_any A len cap p w hok hlen hA hcap hcm
    have hl := hok.room
    obtain ⟨r0, hr0⟩ : ∃ r0, 248 - len = r0 := ⟨_, rfl⟩
    have hsub : (248 : Int) - (len : Int) = (r0 : Int) := by omega
    have hr8 : r0 ≤ 248 := by omega
    have hrr : roomR p = if 0 < r0 - (if lowK (recs p) = cnt p then 1 else 0) then ((r0 - (if lowK (recs p) = cnt p then 1 else 0) : Nat) : Int) else -1 := by
      unfold roomR roomN
      rw [hlen, hr0]
      simp [hok]
    have HR := Lib.hid hR
    by_cases hm : lowK (recs p) = cnt p
    · rw [decide_eq_true hm] at hL
      rw [if_pos hm] at hrr
      obtain ⟨lk, hlk⟩ : ∃ lk, lowK (recs p) = lk := ⟨_, rfl⟩
      rw [hlk] at hL
      have HL := Lib.hid hL
      by_cases h1 : 1 < r0
      · have d1 : decide ((r0 : Int) - 1 < 1) = false := by simp; omega
        rw [if_pos (by omega)] at hrr
        have hcast : ((r0 - 1 : Nat) : Int) = (r0 : Int) - 1 := by omega
        rw [hrr, hcast]
        clear hR hL hA hlen hr0 hrr hcast hm hlk hok
        go_enter Try.func18, Try.ntmps18
        go_wp2_with fail
        refine HR.out.mono ?_
        rintro e w' ⟨rfl, rfl⟩
        go_wp2_with fail
        refine HL.out.mono ?_
        rintro e w2 ⟨rfl, hb⟩
        have HB := Lib.hid hb
        clear hb
        go_wp2_with fail
        go_ret
        exact ⟨rfl, HB.out⟩
      · have d1 : decide ((r0 : Int) - 1 < 1) = true := by simp; omega
        rw [if_neg (by omega)] at hrr
        rw [hrr]
        clear hR hL hA hlen hr0 hrr hm hlk hok
        go_enter Try.func18, Try.ntmps18
        go_wp2_with fail
        refine HR.out.mono ?_
        rintro e w' ⟨rfl, rfl⟩
        go_wp2_with fail
        refine HL.out.mono ?_
        rintro e w2 ⟨rfl, hb⟩
        have HB := Lib.hid hb
        clear hb
        go_wp2_with fail
        go_ret
        exact ⟨rfl, HB.out⟩
    · rw [decide_eq_false hm] at hL
      rw [if_neg hm] at hrr
      obtain ⟨lk, hlk⟩ : ∃ lk, lowK (recs p) = lk := ⟨_, rfl⟩
      rw [hlk] at hL
      have HL := Lib.hid hL
      by_cases h1 : 0 < r0
      · have d1 : decide ((r0 : Int) < 1) = false := by simp; omega
        rw [if_pos (by omega), Nat.sub_zero] at hrr
        rw [hrr]
        clear hR hL hA hlen hr0 hrr hm hlk hok
        go_enter Try.func18, Try.ntmps18
        go_wp2_with fail
        refine HR.out.mono ?_
        rintro e w' ⟨rfl, rfl⟩
        go_wp2_with fail
        refine HL.out.mono ?_
        rintro e w2 ⟨rfl, hb⟩
        have HB := Lib.hid hb
        clear hb
        go_wp2_with fail
        go_ret
        exact ⟨rfl, HB.out⟩
      · have d1 : decide ((r0 : Int) < 1) = true := by simp; omega
        rw [if_neg (by omega)] at hrr
        rw [hrr]
        clear hR hL hA hlen hr0 hrr hm hlk hok
        go_enter Try.func18, Try.ntmps18
        go_wp2_with fail
        refine HR.out.mono ?_
        rintro e w' ⟨rfl, rfl⟩
        go_wp2_with fail
        refine HL.out.mono ?_
        rintro e w2 ⟨rfl, hb⟩
        have HB := Lib.hid hb
        clear hb
        go_wp2_with fail
        go_ret
        exact ⟨rfl, HB.out⟩
  · rw [show okB p = false from decide_eq_false hok] at hR
    have HR := Lib.hid hR
    rw [show roomR p = -1 from if_neg fun h => hok h.1]
    clear hR hA hok
    go_enter Try.func18, Try.ntmps18
    go_wp2_with fail
    refine HR.out.mono ?_
    rintro e w' ⟨rfl, rfl⟩
    go_wp2_with fail
    go_ret
    exact ⟨rfl, Below.refl _ _⟩

/-- The records with one more. -/
def putL (p rec : List UInt8) : List (List UInt8) := if lowK (recs p) = cnt p then recs p ++ [rec] else (recs p).set (lowK (recs p)) rec
/-- May a record be put? -/
def mayPut (p rec : List UInt8) : Prop := rec ≠ [] ∧ (rec.length : Int) ≤ roomR p
instance (p rec : List UInt8) : Decidable (mayPut p rec) := inferInstanceAs (Decidable (_ ∧ _))
def PutP (p rec : List UInt8) (w : World) (e : Ending) (w' : World) : Prop :=
  (¬ mayPut p rec ∧ e = .returned (.tuple #[.slice none 0 0, .int .i64 0, .bool false]) ∧ Below w.heap.size w w') ∨
  ∃ g c, mayPut p rec ∧ e = .returned (.tuple #[.slice (some ⟨g, 0, none⟩) (pageOf (putL p rec)).length c, .int .i64 (lowK (recs p) : Int), .bool true]) ∧ Rw w' g (pageOf (putL p rec)).length c (pageOf (putL p rec)) ∧ w.heap.size ≤ g ∧ Below w.heap.size w w'
theorem mayPut.ok {p rec : List UInt8} (h : mayPut p rec) : Ok p ∧ 0 < rec.length ∧ rec.length ≤ roomN p := by
  have h0 : 0 < rec.length := List.length_pos_iff.2 h.1
  have h2 := h.2
  unfold roomR at h2
  split at h2
  · rename_i hh; exact ⟨hh.1, h0, by omega⟩
  · omega
theorem putL_flat (p rec : List UInt8) : (putL p rec).flatten.length ≤ (recs p).flatten.length + rec.length ∧ (putL p rec).length ≤ (recs p).length + 1 := by
  have hset : ∀ (l : List (List UInt8)) (k : Nat), (l.set k rec).flatten.length ≤ l.flatten.length + rec.length := fun l => by
    induction l with
    | nil => intro k; simp
    | cons s l ih =>
      intro k
      cases k with
      | zero => simp only [List.set_cons_zero, List.flatten_cons, List.length_append]; omega
      | succ k => have := ih k; simp only [List.set_cons_succ, List.flatten_cons, List.length_append] at this ⊢; omega
  unfold putL
  split
  · rw [List.flatten_append, List.length_append, List.length_append]
    simp
  · exact ⟨hset _ _, by rw [List.length_set]; omega⟩

set_option maxRecDepth 20000 in
set_option maxHeartbeats 2000000 in
theorem put_yes (A B : Option Addr) (len cap l2 c2 : Nat) (p rec : List UInt8) (w : World) (hm : mayPut p rec) (hlen : p.length = len) (hA : Bytes w A p) (hcap : len ≤ cap) (hcm : cap ≤ maxLen)
    (hl2 : rec.length = l2) (hB : Bytes w B rec) (hc2 : l2 ≤ c2) (hm2 : c2 ≤ maxLen) :
    Calls Try.prog 23 #[.slice A len cap, .slice B l2 c2] w (PutP p rec w) := by
  obtain ⟨hok, h0, hfit⟩ := hm.ok
  obtain ⟨b, off, rfl, hbl⟩ := hA.ex hok.ne
  obtain ⟨b2, off2, rfl, hbl2⟩ := hB.ex h0
  have hrm := room_any _ len cap p w hlen hA hcap hcm
  have hrr : roomR p = (roomN p : Int) := if_pos ⟨hok, by omega⟩
  rw [hrr] at hrm
  obtain ⟨rn, hrn⟩ : ∃ rn, roomN p = rn := ⟨_, rfl⟩
  rw [hrn] at hrm hfit
  have hrn8 : rn ≤ 248 := by rw [← hrn]; unfold roomN; omega
  have d1 : ((l2 : Int) == 0) = false := by simp; omega
  have d2 : decide (rn < l2) = false := by simp; omega
  have hlow := fun (W : World) (hW : Below w.heap.size w W) => lowest_any _ len cap p W hok hlen (hA.below hW) hcap hcm
  have hrec := fun (W : World) (hW : Below w.heap.size w W) => records_any _ len cap p W hlen (hA.below hW) hcap hcm
  have hsecB : Sec w (fun j => j < w.heap.size) (.slice (some ⟨b2, off2, none⟩) l2 c2) rec := ⟨_, _, by rw [hl2], by omega, hm2, hB, fun q e => by cases e; exact hbl2⟩
  obtain ⟨n, hn⟩ : ∃ n, (recs p).length = n := ⟨_, rfl⟩
  have hcn : cnt p = n := by rw [← recs_length hok, hn]
  have hcl := cnt_lt p
  have hpl := hok.len
  have hproom := hok.room
  have hpf := putL_flat p rec
  have HLOW := Lib.hid hlow
  have HREC := Lib.hid hrec
  have HRM := Lib.hid hrm
  have HSB := Lib.hid hsecB
  have HN := Lib.hid hn
  have HM := Lib.hid hm
  have HL2 := Lib.hid hl2
  have hkle : lowK (recs p) ≤ n := by rw [← hn]; exact lowK_le _
  obtain ⟨k, hk⟩ : ∃ k, lowK (recs p) = k := ⟨_, rfl⟩
  have HK := Lib.hid hk
  have hn300 : n < 256 := by omega
  have HPL : Hid (1 + (putL p rec).length + (putL p rec).flatten.length ≤ 1000000) := Lib.hid (by omega)
  have hl2b : l2 ≤ 248 := by omega
  by_cases hmore : k = n
  · have hpu : putL p rec = recs p ++ [rec] := by unfold putL; rw [if_pos (by rw [hk, hcn]; exact hmore)]
    have hlow2 := fun (W : World) (hW : Below w.heap.size w W) => HLOW.out W hW
    simp only [hk, hcn, decide_eq_true hmore] at hlow2
    have HLOW2 := Lib.hid hlow2
    have HPU := Lib.hid hpu
    clear hlow hrec hrm hsecB hA hB hlen hl2 hn hcn hpl hpf hm hrr hrn hfit h0 hlow2 hpu hkle hk hmore HLOW hok
    go_enter Try.func23, Try.ntmps23
    go_wp2_with fail
    refine HRM.out.mono ?_
    rintro e w1 ⟨rfl, hb1⟩
    have HB1 := Lib.hid hb1
    clear hb1
    go_wp2_with fail
    refine (HLOW2.out _ HB1.out).mono ?_
    rintro e w2 ⟨rfl, hb2⟩
    have HB2 := Lib.hid (HB1.out.trans (hb2.mono HB1.out.size))
    clear hb2
    go_wp2_with fail
    refine (HREC.out _ HB2.out).mono ?_
    rintro e w3 ⟨sv, rfl, hS, hlo, hb3⟩
    have hb3' := HB2.out.trans (hb3.mono HB2.out.size)
    obtain ⟨As, cS, hsv, hcS, hcSm⟩ := hS.shape
    have hS2 : SecsO (w3.alloc (.cells #[.slice (some ⟨b2, off2, none⟩) l2 c2] 22)) (fun j => j < w.heap.size) sv (recs p) := by
      have := hS.mono (E' := fun j => j < w.heap.size) (fun j ⟨ad, e, hj⟩ => by cases e; rw [← hj]; exact hbl)
      have hb : Below w3.heap.size w3 (w3.alloc (.cells #[.slice (some ⟨b2, off2, none⟩) l2 c2] 22)) := (Below.refl _ _).alloc (Nat.le_refl _) _
      exact this.same hb.size (fun j _ hj => hb.block j hj) (fun j hj => hb.block j (this.lt j hj))
    have hb4 : Below w.heap.size w (w3.alloc (.cells #[.slice (some ⟨b2, off2, none⟩) l2 c2] 22)) := hb3'.alloc hb3'.size _
    have hsec4 : Sec (w3.alloc (.cells #[.slice (some ⟨b2, off2, none⟩) l2 c2] 22)) (fun j => j < w.heap.size) (.slice (some ⟨b2, off2, none⟩) l2 c2) rec := HSB.out.same hb4.size (fun j hj _ => hb4.block j hj)
    have hlo' : ∀ j, sv.ownBlock = some j → ¬ j < w.heap.size := fun j hj => by have := hlo j hj; have := HB2.out.size; omega
    obtain ⟨v5, w5, hrun, hS5, hg5, ho5⟩ := hS2.push rec _ hsec4 w3.heap.size ((Blk.new w3 _ _).cell 0) hlo' (by rw [HN.out]; omega)
    have hb5 : Below w.heap.size w w5 := hb4.grown hg5 hb4.size (fun j hj => by have := hlo' j hj; omega)
    rw [← HPU.out] at hS5
    obtain ⟨A5, c5, hv5, hc5, hc5m, himg⟩ := hS5.img
    have hpg := page_any A5 (putL p rec).length c5 (putL p rec) w5 rfl hc5 hc5m himg HPL.out
    rw [HN.out] at hsv
    subst hsv
    subst hv5
    obtain ⟨np, hnp⟩ : ∃ np, (putL p rec).length = np := ⟨_, rfl⟩
    rw [hnp] at hrun hpg
    have HRUN := Lib.hid hrun
    have HPG := Lib.hid hpg
    have HB5 := Lib.hid hb5
    clear hS hS2 hsec4 hrun hS5 hg5 ho5 hb5 himg hpg hb3 hb3' hb4 hlo hlo' hnp
    go_wp2_with (at_builtin; refine wpList_app rfl _ _ 34 rfl _ _ _ _ rfl rfl HRUN.out ?_; clear HRUN)
    refine HPG.out.mono ?_
    rintro e w6 ⟨g, c, rfl, hrw, hg, hb6⟩
    have HF : Hid (PutP p rec w (.returned (.tuple #[.slice (some ⟨g, 0, none⟩) (pageOf (putL p rec)).length c, .int .i64 (k : Int), .bool true])) w6) :=
      Lib.hid (.inr ⟨g, c, HM.out, by rw [HK.out], hrw, Nat.le_trans HB5.out.size hg, HB5.out.trans (hb6.mono HB5.out.size)⟩)
    clear hrw hg hb6 HPG
    go_wp2_with fail
    go_ret3
    exact HF.out
  · have hpu : putL p rec = (recs p).set k rec := by unfold putL; rw [if_neg (by rw [hk, hcn]; exact hmore), hk]
    have hlow2 := fun (W : World) (hW : Below w.heap.size w W) => HLOW.out W hW
    simp only [hk, hcn, decide_eq_false hmore] at hlow2
    have hkn : k < n := by omega
    have HLOW2 := Lib.hid hlow2
    have HPU := Lib.hid hpu
    clear hlow hrec hrm hsecB hA hB hlen hl2 hn hcn hpl hpf hm hrr hrn hfit h0 hlow2 hpu hkle hk hmore HLOW hok
    go_enter Try.func23, Try.ntmps23
    go_wp2_with fail
    refine HRM.out.mono ?_
    rintro e w1 ⟨rfl, hb1⟩
    have HB1 := Lib.hid hb1
    clear hb1
    go_wp2_with fail
    refine (HLOW2.out _ HB1.out).mono ?_
    rintro e w2 ⟨rfl, hb2⟩
    have HB2 := Lib.hid (HB1.out.trans (hb2.mono HB1.out.size))
    clear hb2
    go_wp2_with fail
    refine (HREC.out _ HB2.out).mono ?_
    rintro e w3 ⟨sv, rfl, hS, hlo, hb3⟩
    have hb3' := HB2.out.trans (hb3.mono HB2.out.size)
    obtain ⟨As, cS, hsv, hcS, hcSm⟩ := hS.shape
    have hS2 : SecsO w3 (fun j => j < w.heap.size) sv (recs p) := hS.mono (fun j ⟨ad, e, hj⟩ => by cases e; rw [← hj]; exact hbl)
    have hsec4 : Sec w3 (fun j => j < w.heap.size) (.slice (some ⟨b2, off2, none⟩) l2 c2) rec := HSB.out.same hb3'.size (fun j hj _ => hb3'.block j hj)
    have hlo' : ∀ j, sv.ownBlock = some j → ¬ j < w.heap.size := fun j hj => by have := hlo j hj; have := HB2.out.size; omega
    obtain ⟨r0, hr0⟩ : ∃ r0, (recs p)[k]? = some r0 := ⟨_, List.getElem?_eq_getElem (by rw [HN.out]; exact hkn)⟩
    obtain ⟨g3, c3, v3, hsv3, hg3, hc3, hf3, _⟩ := hS2.get k r0 hr0
    have hlen3 : (recs p).length = n := HN.out
    have hS5 := hS2.set_ k g3 _ c3 hsv3 (hlo' g3 (by rw [hsv3]; rfl)) _ rec hsec4
    have hb5 : Below w.heap.size w (w3.setCell ⟨g3, k, none⟩ (.slice (some ⟨b2, off2, none⟩) l2 c2)) := hb3'.setCell (p := ⟨g3, k, none⟩) (by have := hlo g3 (by rw [hsv3]; rfl); have := HB2.out.size; show w.heap.size ≤ g3; omega) _
    rw [← HPU.out] at hS5
    obtain ⟨A5, c5, hv5, hc5, hc5m, himg⟩ := hS5.img
    have hpg := page_any A5 (putL p rec).length c5 (putL p rec) _ rfl hc5 hc5m himg HPL.out
    rw [hsv3] at hv5
    injection hv5 with e1 e2 e3
    subst e1
    subst e3
    rw [hlen3] at hsv3 e2
    subst hsv3
    obtain ⟨np, hnp⟩ : ∃ np, (putL p rec).length = np := ⟨_, rfl⟩
    rw [hnp] at hpg e2
    subst e2
    have HPG := Lib.hid hpg
    have HB5 := Lib.hid hb5
    clear hS hS2 hsec4 hS5 hb5 himg hpg hb3 hb3' hlo hlo' hnp hr0 hlen3 hsv hcS hcSm hc5 hc5m
    go_wp2_with fail
    refine HPG.out.mono ?_
    rintro e w6 ⟨g, c, rfl, hrw, hg, hb6⟩
    have HF : Hid (PutP p rec w (.returned (.tuple #[.slice (some ⟨g, 0, none⟩) (pageOf (putL p rec)).length c, .int .i64 (k : Int), .bool true])) w6) :=
      Lib.hid (.inr ⟨g, c, HM.out, by rw [HK.out], hrw, Nat.le_trans HB5.out.size hg, HB5.out.trans (hb6.mono HB5.out.size)⟩)
    clear hrw hg hb6 HPG
    go_wp2_with fail
    go_ret3
    exact HF.out
end Go.Proofs.Ytipjokbkgcepbaa
