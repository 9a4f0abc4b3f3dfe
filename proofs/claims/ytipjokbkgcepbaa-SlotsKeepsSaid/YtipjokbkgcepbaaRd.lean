/- The reference's Put, Room. -/
import Derived.Test.YtipjokbkgcepbaaRc
import Derived.Test.YtipjokbkgcepbaaV
namespace Go.Proofs.Ytipjokbkgcepbaa
open Go.RowKit Slt

theorem mayPut_len {p rec : List UInt8} (h : Ok p) (h0 : 0 < rec.length) : mayPut p rec ↔ (pageOf (putL p rec)).length ≤ 248 := by
  have hl := put_len h h0
  have hr := h.room
  constructor
  · intro hm
    obtain ⟨_, _, hf⟩ := hm.ok
    unfold roomN at hf
    omega
  · intro hs
    have hrn : rec.length ≤ roomN p := by unfold roomN; omega
    refine ⟨List.length_pos_iff.1 h0, ?_⟩
    rw [show roomR p = (roomN p : Int) from if_pos ⟨h, by omega⟩]
    omega
theorem low_take {l : List (List UInt8)} {k : Nat} (h : k ≤ lowK l) : ∀ r ∈ l.take k, r.length ≠ 0 := fun r hr => by
  obtain ⟨j, hj, rfl⟩ := List.mem_take_iff_getElem.1 hr
  have := List.not_of_lt_findIdx (xs := l) (p := fun r : List UInt8 => r.length == 0) (i := j) (by unfold lowK at h; omega)
  simpa using this

set_option maxRecDepth 20000 in
set_option maxHeartbeats 4000000 in
theorem refput_walk (A B : Option Addr) (len cap l2 c2 : Nat) (p rec : List UInt8) (w : World) (hok : Ok p) (h0 : 0 < l2) (h248 : l2 ≤ 248) (hlen : p.length = len) (hA : Bytes w A p) (hcap : len ≤ cap) (hcm : cap ≤ maxLen)
    (hl2 : rec.length = l2) (hB : Bytes w B rec) (hc2 : l2 ≤ c2) (hm2 : c2 ≤ maxLen) :
    Calls Try.prog 24 #[.slice A len cap, .slice B l2 c2] w (PutP p rec w) := by
  have H : Hid (Calls Try.prog 33 #[.slice A len cap] w fun e w' => ∃ sv, e = .returned (.tuple #[sv, .bool true]) ∧ App w w' (recs p) sv) := Lib.hid (by
    refine (refread_any A len cap p w hlen hA hcap hcm).mono ?_
    rintro e w2 (⟨_, sv, rfl, hap⟩ | ⟨hno, rfl, hb⟩)
    · exact ⟨_, rfl, hap⟩
    · exact absurd hok hno)
  obtain ⟨b2, off2, rfl, hbl2⟩ := hB.ex (by omega)
  obtain ⟨hf1, hf2⟩ := recs_flat p
  obtain ⟨n, hn⟩ : ∃ n, (recs p).length = n := ⟨_, rfl⟩
  rw [hn] at hf1
  have hcn : cnt p = n := by rw [← recs_length hok, hn]
  have hle := lowK_le (recs p)
  rw [hn] at hle
  have hpf := putL_flat p rec
  have HPL : Hid (1 + (putL p rec).length + (putL p rec).flatten.length ≤ 1000000) := Lib.hid (by omega)
  have hiff := mayPut_len (rec := rec) hok (by omega)
  have HN := Lib.hid hn
  have HSB := Lib.hid (show Sec w (fun j => j < w.heap.size) (.slice (some ⟨b2, off2, none⟩) l2 c2) rec from ⟨_, _, by rw [hl2], by omega, hm2, hB, fun q e => by cases e; exact hbl2⟩)
  obtain ⟨lk, hlk⟩ : ∃ lk, lowK (recs p) = lk := ⟨_, rfl⟩
  rw [hlk] at hle
  have hlow : ∀ k : Nat, k < lk → ∃ r, (recs p)[k]? = some r ∧ 0 < r.length := fun k hk => by
    have hkn : k < (recs p).length := by omega
    refine ⟨_, List.getElem?_eq_getElem hkn, ?_⟩
    have := low_take (l := recs p) (k := k + 1) (by omega) (recs p)[k] (List.mem_take_iff_getElem.2 ⟨k, by omega, rfl⟩)
    omega
  have hfree : lk < n → (recs p)[lk]? = some [] := fun h => by
    have := (low_free hok (by rw [hlk, hcn]; omega)).2
    rwa [hlk] at this
  have hpu1 : lk = n → putL p rec = recs p ++ [rec] := fun h => by unfold putL; rw [if_pos (by rw [hlk, hcn]; exact h)]
  have hpu2 : lk < n → putL p rec = (recs p).set lk rec := fun h => by unfold putL; rw [if_neg (by rw [hlk, hcn]; omega), hlk]
  have HLOW := Lib.hid hlow
  have HFREE := Lib.hid hfree
  have HPU1 := Lib.hid hpu1
  have HPU2 := Lib.hid hpu2
  have HIFF := Lib.hid hiff
  have HLK := Lib.hid hlk
  have d1 : ((l2 : Int) == 0) = false := by simp; omega
  have d2 : decide ((248 : Int) < (l2 : Int)) = false := by simp; omega
  clear hA hB hlen hl2 hn hcn hpf hiff hlk hlow hfree hpu1 hpu2 hok hf2
  go_enter Try.func24, Try.ntmps24
  go_wp2_with fail
  refine H.out.mono ?_
  rintro e w2 ⟨sv, rfl, hap⟩
  obtain ⟨As, cs, hsv, hcs, hcsm, himg⟩ := hap.own.img
  rw [HN.out] at hsv hcs
  have HIM := Lib.hid himg
  have HAP := Lib.hid hap
  subst hsv
  clear hap himg H
  go_wp2_with fail
  go_loop [9] (fun kv => ∃ k : Nat, k ≤ lk ∧ kv = .int .i64 (k : Int)) (fun kv => lk - (intOf kv).toNat)
  case atStart => exact ⟨0, Nat.zero_le _, rfl⟩
  case round =>
    obtain ⟨k, hk, rfl⟩ := hrel
    by_cases hlt : k < lk
    · have hkn : k < n := by omega
      have hd : decide ((k : Int) < (n : Int)) = true := by simpa using hkn
      obtain ⟨r, hr, hr0⟩ := HLOW.out k hlt
      obtain ⟨b, off, v, rfl, hblt, hc, A3, c3, rfl, _⟩ := HIM.out k r hr
      obtain ⟨L, hL⟩ : ∃ L, r.length = L := ⟨_, rfl⟩
      rw [hL] at hc hr0
      have d3 : decide ((0 : Int) < (L : Int)) = true := by simpa using hr0
      clear hr hL hblt
      go_wp2_with fail
      go_round
      case rel => exact ⟨k + 1, by omega, by go_num⟩
      case measure => simp [intOf]; omega
    · obtain rfl : k = lk := by omega
      have hrd0 : ∀ (W : World) (sv' : Value) (E : Nat → Prop), SecsO W E sv' (putL p rec) → Below w.heap.size w W → ∃ A5 c5, sv' = .slice A5 (putL p rec).length c5 ∧ Calls Try.prog 38 #[.slice A5 (putL p rec).length c5] W fun e w' => ∃ g c, e = .returned (.slice (some ⟨g, 0, none⟩) (pageOf (putL p rec)).length c) ∧ Rw w' g (pageOf (putL p rec)).length c (pageOf (putL p rec)) ∧ w.heap.size ≤ g ∧ Below w.heap.size w w' := fun W sv' E hS hb => by
        obtain ⟨A5, c5, hv5, hc5, hc5m, himg⟩ := hS.img
        refine ⟨A5, c5, hv5, (refwrite_any A5 (putL p rec).length c5 (putL p rec) W rfl hc5 hc5m himg HPL.out).mono ?_⟩
        rintro e w6 ⟨g, c, rfl, hrw, hg, hb6⟩
        exact ⟨g, c, rfl, hrw, Nat.le_trans hb.size hg, hb.trans (hb6.mono hb.size)⟩
      have HRD := Lib.hid hrd0
      clear hrd0
      by_cases hmore : k = n
      · have hd : decide ((k : Int) < (n : Int)) = false := by simp; omega
        have d3 : ((k : Int) == (n : Int)) = true := by simp; omega
        have hpu := HPU1.out hmore
        have hE : SecsO w2 (fun j => Value.ownBlock (.slice As n cs) ≠ some j ∧ j < w2.heap.size) (.slice As n cs) (recs p) := HAP.out.own.mono fun j hj => ⟨hj.2.2, hj.2.1⟩
        have hb3 : Below w2.heap.size w2 (w2.alloc (.cells #[.slice none 0 0] 22)) := (Below.refl _ _).alloc (Nat.le_refl _) _
        have hE3 := hE.same (w' := w2.alloc (.cells #[.slice none 0 0] 22)) hb3.size (fun j _ hj => hb3.block j hj) (fun j hj => hb3.block j (hE.lt j hj))
        obtain ⟨v5, w5, hrun, hS5, hg5, ho5⟩ := hE3.push [] _ (Sec.nil _ _) w2.heap.size ((Blk.new w2 _ _).cell 0) (fun j hj e => e.1 hj) (by rw [HN.out]; omega)
        have hbw3 := HAP.out.bel.trans (hb3.mono HAP.out.bel.size)
        have hb5 : Below w.heap.size w w5 := hbw3.grown hg5 hbw3.size (fun j hj => HAP.out.lo j hj)
        obtain ⟨g6, c6, v6, hv6, hg6, hc6, hf6, _⟩ := hS5.get n [] (by rw [List.getElem?_append_right (by rw [HN.out]; exact Nat.le_refl _), HN.out]; simp)
        have hw2w5 : w2.heap.size ≤ w5.heap.size := Nat.le_trans hb3.size hg5.size
        have hnE : ¬ (Value.ownBlock (.slice As n cs) ≠ some g6 ∧ g6 < w2.heap.size) := fun e => by
          rcases ho5 with ho | ho
          · exact e.1 (by rw [← ho, hv6]; rfl)
          · rw [hv6, World.size_alloc] at ho
            have ho2 : g6 = w2.heap.size + 1 := Option.some.inj ho
            have := e.2; omega
        have hsec5 : Sec w5 (fun j => Value.ownBlock (.slice As n cs) ≠ some j ∧ j < w2.heap.size) (.slice (some ⟨b2, off2, none⟩) l2 c2) rec :=
          (HSB.out.same hb5.size (fun j hj _ => hb5.block j hj)).mono fun j hj => ⟨fun e => by have := HAP.out.lo j e; omega, by have := HAP.out.bel.size; omega⟩
        have hS7 := hS5.set_ n g6 _ c6 hv6 hnE _ rec hsec5
        have hset : (recs p ++ [[]]).set n rec = putL p rec := by
          rw [hpu, List.set_append, if_neg (by rw [HN.out]; omega), HN.out, Nat.sub_self]; rfl
        rw [hset] at hS7
        have hlo6 : w.heap.size ≤ g6 := by
          rcases ho5 with ho | ho
          · exact HAP.out.lo g6 (by rw [← ho, hv6]; rfl)
          · rw [hv6, World.size_alloc] at ho
            have ho2 : g6 = w2.heap.size + 1 := Option.some.inj ho
            have := HAP.out.bel.size; omega
        have hb7 : Below w.heap.size w (w5.setCell ⟨g6, n, none⟩ (.slice (some ⟨b2, off2, none⟩) l2 c2)) := hb5.setCell (p := ⟨g6, n, none⟩) hlo6 _
        obtain ⟨A8, c8, hv8, hwr⟩ := HRD.out _ _ _ hS7 hb7
        rw [List.length_append, HN.out, List.length_singleton] at hv6
        have hpl : (putL p rec).length = n + 1 := by rw [hpu, List.length_append, HN.out]; rfl
        rw [hpl] at hv8 hwr
        rw [hv6] at hv8
        injection hv8 with e1 e2 e3
        subst e1
        subst e3
        clear e2
        subst hv6
        have HRUN := Lib.hid hrun
        have HWR := Lib.hid hwr
        clear hE hb3 hE3 hrun hS5 hg5 ho5 hbw3 hb5 hw2w5 hnE hsec5 hS7 hset hlo6 hb7 hwr hpl hpu HRD
        subst hmore
        go_wp2_with (at_builtin; refine wpList_app rfl _ _ 34 rfl _ _ _ _ rfl rfl HRUN.out ?_; clear HRUN)
        refine HWR.out.mono ?_
        rintro e w9 ⟨g, c, rfl, hrw, hg, hb9⟩
        by_cases hfit : (pageOf (putL p rec)).length ≤ 248
        · have hm := HIFF.out.2 hfit
          have HF : Hid (PutP p rec w (.returned (.tuple #[.slice (some ⟨g, 0, none⟩) (pageOf (putL p rec)).length c, .int .i64 (k : Int), .bool true])) w9) := Lib.hid (.inr ⟨g, c, hm, by rw [HLK.out], hrw, hg, hb9⟩)
          obtain ⟨P, hP⟩ : ∃ P, (pageOf (putL p rec)).length = P := ⟨_, rfl⟩
          rw [hP] at hfit HF ⊢
          have d9 : decide ((248 : Int) < (P : Int)) = false := by simp; omega
          clear hrw hg hb9 hm hP
          go_wp2_with fail
          go_ret3
          exact HF.out
        · have hm : ¬ mayPut p rec := fun h => hfit (HIFF.out.1 h)
          have HF : Hid (PutP p rec w (.returned (.tuple #[.slice none 0 0, .int .i64 0, .bool false])) w9) := Lib.hid (.inl ⟨hm, rfl, hb9⟩)
          obtain ⟨P, hP⟩ : ∃ P, (pageOf (putL p rec)).length = P := ⟨_, rfl⟩
          rw [hP] at hfit ⊢
          have d9 : decide ((248 : Int) < (P : Int)) = true := by simp; omega
          clear hrw hg hb9 hm hP
          go_wp2_with fail
          go_ret3
          exact HF.out
      · have hkn : k < n := by omega
        have hd : decide ((k : Int) < (n : Int)) = true := by simp; omega
        have d3 : ((k : Int) == (n : Int)) = false := by simp; omega
        have hpu := HPU2.out hkn
        have hfr := HFREE.out hkn
        obtain ⟨b, off, v, hAs, hblt, hc, A3, c3, hv, _⟩ := HIM.out k [] hfr
        subst hv
        have d4 : decide ((0 : Int) < ((0 : Nat) : Int)) = false := by decide
        have hE : SecsO w2 (fun j => Value.ownBlock (.slice As n cs) ≠ some j ∧ j < w2.heap.size) (.slice As n cs) (recs p) := HAP.out.own.mono fun j hj => ⟨hj.2.2, hj.2.1⟩
        obtain ⟨g6, c6, v6, hv6, hg6, hc6, hf6, _⟩ := hE.get k [] hfr
        have hsec5 : Sec w2 (fun j => Value.ownBlock (.slice As n cs) ≠ some j ∧ j < w2.heap.size) (.slice (some ⟨b2, off2, none⟩) l2 c2) rec :=
          (HSB.out.same HAP.out.bel.size (fun j hj _ => HAP.out.bel.block j hj)).mono fun j hj => ⟨fun e => by have := HAP.out.lo j e; omega, by have := HAP.out.bel.size; omega⟩
        have hS7 := hE.set_ k g6 _ c6 hv6 (fun e => e.1 (by rw [hv6]; rfl)) _ rec hsec5
        rw [← hpu] at hS7
        have hlo6 : w.heap.size ≤ g6 := HAP.out.lo g6 (by rw [hv6]; rfl)
        have hb7 : Below w.heap.size w (w2.setCell ⟨g6, k, none⟩ (.slice (some ⟨b2, off2, none⟩) l2 c2)) := HAP.out.bel.setCell (p := ⟨g6, k, none⟩) hlo6 _
        obtain ⟨A8, c8, hv8, hwr⟩ := HRD.out _ _ _ hS7 hb7
        have hpl : (putL p rec).length = n := by rw [hpu, List.length_set, HN.out]
        rw [hpl] at hv8 hwr
        rw [HN.out] at hv6
        injection hv8 with e1 e2 e3
        subst e1
        subst e3
        clear e2
        injection hv6 with e1 e2 e3
        subst e1
        clear e2 e3
        injection hAs with e1
        injection e1 with e1 e2 e3
        subst e1
        subst e2
        clear e3
        rw [Nat.zero_add] at hc
        have HWR := Lib.hid hwr
        clear hE hsec5 hS7 hlo6 hb7 hwr hpl hpu HRD hfr hblt hc6
        go_wp2_with fail
        refine HWR.out.mono ?_
        rintro e w9 ⟨g, c, rfl, hrw, hg, hb9⟩
        by_cases hfit : (pageOf (putL p rec)).length ≤ 248
        · have hm := HIFF.out.2 hfit
          have HF : Hid (PutP p rec w (.returned (.tuple #[.slice (some ⟨g, 0, none⟩) (pageOf (putL p rec)).length c, .int .i64 (k : Int), .bool true])) w9) := Lib.hid (.inr ⟨g, c, hm, by rw [HLK.out], hrw, hg, hb9⟩)
          obtain ⟨P, hP⟩ : ∃ P, (pageOf (putL p rec)).length = P := ⟨_, rfl⟩
          rw [hP] at hfit HF ⊢
          have d9 : decide ((248 : Int) < (P : Int)) = false := by simp; omega
          clear hrw hg hb9 hm hP
          go_wp2_with fail
          go_ret3
          exact HF.out
        · have hm : ¬ mayPut p rec := fun h => hfit (HIFF.out.1 h)
          have HF : Hid (PutP p rec w (.returned (.tuple #[.slice none 0 0, .int .i64 0, .bool false])) w9) := Lib.hid (.inl ⟨hm, rfl, hb9⟩)
          obtain ⟨P, hP⟩ : ∃ P, (pageOf (putL p rec)).length = P := ⟨_, rfl⟩
          rw [hP] at hfit ⊢
          have d9 : decide ((248 : Int) < (P : Int)) = true := by simp; omega
          clear hrw hg hb9 hm hP
          go_wp2_with fail
          go_ret3
          exact HF.out
end Go.Proofs.Ytipjokbkgcepbaa
