/- The reference's Read. -/
import Derived.Test.YtipjokbkgcepbaaRa
namespace Go.Proofs.Ytipjokbkgcepbaa
open Go.RowKit Slt

/-- Rows that were appended, all of them behind w2. -/
structure App (w2 wr : World) (rows : List (List UInt8)) (sv : Value) : Prop where
  own : SecsO wr (fun j => w2.heap.size ≤ j ∧ j < wr.heap.size ∧ sv.ownBlock ≠ some j) sv rows
  lo : ∀ j, sv.ownBlock = some j → w2.heap.size ≤ j
  bel : Below w2.heap.size w2 wr
theorem App.nil (w : World) : App w w [] (.slice none 0 0) := ⟨SecsO.nil _ _, fun _ hj => (by cases hj), Below.refl _ _⟩
theorem App.below {w2 wr w' : World} {rows : List (List UInt8)} {sv : Value} (h : App w2 wr rows sv) (hb : Below wr.heap.size wr w') : App w2 w' rows sv :=
  ⟨(h.own.same hb.size (fun j _ hj => hb.block j hj) (fun j hj => hb.block j (h.own.lt j hj))).mono fun j hj => ⟨hj.1, Nat.lt_of_lt_of_le hj.2.1 hb.size, hj.2.2⟩, h.lo, h.bel.trans (hb.mono h.bel.size)⟩
theorem App.push {w2 wr w3 : World} {rows : List (List UInt8)} {sv v : Value} {bs : List UInt8} (h : App w2 wr rows sv) (hl : rows.length < 5864062014700) (hS : Sec w3 (fun j => wr.heap.size ≤ j ∧ j < w3.heap.size) v bs) (hb : Below wr.heap.size wr w3) :
    ∃ v' w5, (Builtin.append_ #[34, 34] 34 #[sv, .slice (some ⟨w3.heap.size, 0, none⟩) 1 1]).run Try.prog (w3.alloc (.cells #[v] 22)) = .ok v' w5 ∧ App w2 w5 (rows ++ [bs]) v' := by
  have h2 := h.bel.size
  have h3 := hb.size
  have hol := h.own.lt
  have hb4 : Below wr.heap.size wr (w3.alloc (.cells #[v] 22)) := hb.alloc h3 _
  have hO : SecsO (w3.alloc (.cells #[v] 22)) (fun j => w2.heap.size ≤ j ∧ j < w3.heap.size ∧ sv.ownBlock ≠ some j) sv rows :=
    (h.own.same hb4.size (fun j _ hj => hb4.block j hj) (fun j hj => hb4.block j (hol j hj))).mono fun j hj => ⟨hj.1, by omega, hj.2.2⟩
  have hc := (Blk.new w3 22 #[v]).cell 0
  have hS4 : Sec (w3.alloc (.cells #[v] 22)) (fun j => w2.heap.size ≤ j ∧ j < w3.heap.size ∧ sv.ownBlock ≠ some j) v bs :=
    (hS.same (by rw [World.size_alloc]; omega) (fun j hj hlt => Below.heap_alloc _ _ _ hlt)).mono fun j hj => ⟨by omega, hj.2, fun e => by have := hol _ e; omega⟩
  obtain ⟨v', w5, hrun, hp, hg, ho⟩ := hO.push bs _ hS4 w3.heap.size hc (fun j hj e => e.2.2 hj) hl
  have hgs := hg.size
  rw [World.size_alloc] at hgs ho
  refine ⟨v', w5, hrun, ?_, ?_, ?_⟩
  · refine hp.mono fun j hj => ⟨hj.1, by omega, fun e => ?_⟩
    rcases ho with ho | ho
    · exact hj.2.2 (ho ▸ e)
    · rw [ho] at e; injection e with e; omega
  · intro j hj
    rcases ho with ho | ho
    · exact h.lo j (ho ▸ hj)
    · rw [ho] at hj; injection hj with hj; omega
  · exact (h.bel.trans (hb4.mono h2)).grown hg (by rw [World.size_alloc]; omega) h.lo


/-- What the lengths of a page come to. -/
theorem lens_all {p : List UInt8} (h1 : 0 < p.length) (h2 : p.length ≤ 248) (h3 : 1 + cnt p ≤ p.length) (h4 : 1 + cnt p + sumL (lens p) ≤ p.length) : pageOf (recsOf (lens p) (body p)) = p ↔ Ok p := by
  constructor
  · intro h
    have := page_ok (l := recsOf (lens p) (body p)) (by rw [h]; exact h2)
    rw [h] at this
    exact this.1
  · intro h
    rw [← recs_ok h, h.page]
theorem recsOf_flat : ∀ (l b : List UInt8), (recsOf l b).flatten.length ≤ b.length
  | [], b => by simp [recsOf]
  | c :: r, b => by
    have := recsOf_flat r (b.drop c.toNat)
    simp only [recsOf, List.flatten_cons, List.length_append, List.length_take, List.length_drop] at this ⊢
    omega

set_option maxRecDepth 20000 in
set_option maxHeartbeats 4000000 in
/-- The reference's Read, where the head is there. -/
theorem refread_walk (b off len cap n : Nat) (p : List UInt8) (w : World) (h1 : 0 < len) (h2 : len ≤ 248) (hcn : cnt p = n) (h3 : 1 + n ≤ len) (hlen : p.length = len) (hA : Bytes w (some ⟨b, off, none⟩) p) (hcap : len ≤ cap) (hcm : cap ≤ maxLen) :
    Calls Try.prog 33 #[.slice (some ⟨b, off, none⟩) len cap] w fun e w' => (Ok p ∧ ∃ sv, e = .returned (.tuple #[sv, .bool true]) ∧ App w w' (recs p) sv) ∨ (¬ Ok p ∧ e = .returned (.tuple #[.slice none 0 0, .bool false]) ∧ Below w.heap.size w w') := by
  have hn256 : n < 256 := by rw [← hcn]; exact cnt_lt p
  have hc0 := hA.cellAt rfl (k := 0) (by omega)
  rw [Nat.add_zero, show (p.getD 0 0).toNat = n from hcn] at hc0
  have hbl : b < w.heap.size := World.block_lt_of_cell? w _ hc0
  have HC0 : Hid (∀ W : World, Below w.heap.size w W → W.cell? ⟨b, off, none⟩ = some (.int .u8 (n : Int))) := Lib.hid fun W hW => (hW.cell (p := ⟨b, off, none⟩) hbl).trans hc0
  have d1 : ((len : Int) == 0) = false := by simp; omega
  have d2 : decide ((248 : Int) < (len : Int)) = false := by simp; omega
  have f1 : IntKind.i64.wrap (1 + (n : Int)) = 1 + n := IntWalk.i64_in _ (by omega)
  have d3 : decide ((len : Int) < 1 + (n : Int)) = false := by simp; omega
  have HA := Lib.hid hA
  have HL := Lib.hid hlen
  have HN := Lib.hid hcn
  obtain ⟨sl, hsl⟩ : ∃ sl, lens p = sl := ⟨_, rfl⟩
  have hsll : sl.length = n := by rw [← hsl, lens_length (by omega), hcn]
  obtain ⟨bd, hbd⟩ : ∃ bd, body p = bd := ⟨_, rfl⟩
  have HSL := Lib.hid hsl
  have HBD := Lib.hid hbd
  have HSLL := Lib.hid hsll
  unfold maxLen at hcm
  have HST : Hid (App w w ((recsOf sl bd).take 0) (.slice none 0 0) ∧ 1 + n + sumL (sl.take 0) ≤ len) := Lib.hid ⟨App.nil w, by simp [sumL]; omega⟩
  clear hA hlen hcn hsl hsll hbd
  go_enter Try.func33, Try.ntmps33
  go_wp2_with fail
  clear hc0
  go_loopw [4, 5, 6, 7] (fun sv av iv lv wr => ∃ k : Nat, k ≤ n ∧ iv = .int .i64 (k : Int) ∧ av = .int .i64 ((1 + n + sumL (sl.take k) : Nat) : Int) ∧ Hid (App w wr ((recsOf sl bd).take k) sv ∧ 1 + n + sumL (sl.take k) ≤ len)) (fun _ _ iv _ _ => n - (intOf iv).toNat)
  case atStart => exact ⟨0, Nat.zero_le _, rfl, by simp [sumL], HST⟩
  case round =>
    obtain ⟨k, hk, rfl, rfl, hI⟩ := hrel
    clear HST
    have c0 := HC0.out wr hI.out.1.bel
    by_cases hlt : k < n
    · have hd : decide ((k : Int) < (n : Int)) = true := by simpa using hlt
      obtain ⟨x, hx⟩ : ∃ x, sl[k]? = some x := ⟨_, List.getElem?_eq_getElem (by rw [HSLL.out]; exact hlt)⟩
      have hcx := HA.out.cellAt rfl (k := 1 + k) (by rw [HL.out]; omega)
      have hg : p.getD (1 + k) 0 = x := by
        have hx' := hx
        rw [← HSL.out, lens_get p k (by rw [HN.out]; exact hlt)] at hx'
        unfold List.getD; rw [hx']; rfl
      rw [hg] at hcx
      have hcx' := (hI.out.1.bel.cell (p := ⟨b, off + (1 + k), none⟩) hbl).trans hcx
      have hs := sumL_succ hx
      have hrg := recsOf_get sl bd k x hx
      obtain ⟨L, hL⟩ : ∃ L, x.toNat = L := ⟨_, rfl⟩
      have hL256 : L < 256 := by rw [← hL]; exact x.toNat_lt
      rw [hL] at hcx' hs hrg
      obtain ⟨at_, hat⟩ : ∃ a, 1 + n + sumL (sl.take k) = a := ⟨_, rfl⟩
      have hale := hI.out.2
      rw [hat] at hale ⊢
      obtain ⟨ro, hro⟩ : ∃ ro, len - at_ = ro := ⟨_, rfl⟩
      have hsub : (len : Int) - (at_ : Int) = (ro : Int) := by omega
      have f2 : IntKind.i64.wrap (1 + (k : Int)) = 1 + k := IntWalk.i64_in _ (by omega)
      have f3 : IntKind.i64.wrap ((at_ : Int) + (L : Int)) = at_ + L := IntWalk.i64_in _ (by omega)
      have h1k : 1 + k < len := by omega
      by_cases hfit : L ≤ ro
      · have d5 : decide (ro < L) = false := by simp; omega
        have d5' : decide ((ro : Int) < (L : Int)) = false := by simp; omega
        have hll : at_ + L ≤ len := by omega
        have hrl : (((bd.drop (sumL (sl.take k))).take L)).length = L := by
          rw [List.length_take, List.length_drop, ← HBD.out]
          unfold body
          rw [List.length_drop, HL.out, HN.out]
          omega
        have hby : ∀ A' : Option Addr, (0 < L → A' = some ⟨b, off + at_, none⟩) → Bytes w A' ((bd.drop (sumL (sl.take k))).take L) := fun A' hA' j c hj => by
          have hjl : j < L := by rw [← hrl]; exact (List.getElem?_eq_some_iff.1 hj).1
          rw [List.getElem?_take_of_lt hjl, ← HBD.out, List.getElem?_drop] at hj
          unfold body at hj
          rw [List.getElem?_drop, HN.out] at hj
          obtain ⟨b', off', e, hb', hc'⟩ := HA.out _ c hj
          cases e
          exact ⟨b, off + at_, hA' (by omega), hb', by rw [← hat]; rw [show off + (1 + n + sumL (sl.take k)) + j = off + (1 + n + (sumL (sl.take k) + j)) by omega]; exact hc'⟩
        have hsnoc : (recsOf sl bd).take k ++ [(bd.drop (sumL (sl.take k))).take L] = (recsOf sl bd).take (k + 1) := by
          obtain ⟨hk', e⟩ := List.getElem?_eq_some_iff.1 hrg
          rw [List.take_succ_eq_append_getElem hk', e]
        have HCP : Hid (∀ (A' : Option Addr) (c' : Nat), (0 < L → A' = some ⟨b, off + at_, none⟩) → Calls Try.prog 29 #[.slice A' L c'] wr fun e w3 => ∃ c3, e = .returned (.slice (some ⟨wr.heap.size, 0, none⟩) L c3) ∧ ∃ v' w5, (Builtin.append_ #[34, 34] 34 #[u4, .slice (some ⟨w3.heap.size, 0, none⟩) 1 1]).run Try.prog (w3.alloc (.cells #[.slice (some ⟨wr.heap.size, 0, none⟩) L c3] 22)) = .ok v' w5 ∧ App w w5 ((recsOf sl bd).take (k + 1)) v' ∧ ∃ A5 n5 c5, v' = .slice A5 n5 c5) := Lib.hid fun A' c' hA' => by
          refine (copy_any A' L c' _ wr hrl ((hby A' hA').below hI.out.1.bel) (by unfold maxLen; omega)).mono ?_
          rintro e w3 ⟨c3, rfl, hR3, hb3⟩
          have hS3 : Sec w3 (fun j => wr.heap.size ≤ j ∧ j < w3.heap.size) (.slice (some ⟨wr.heap.size, 0, none⟩) L c3) ((bd.drop (sumL (sl.take k))).take L) :=
            ⟨some ⟨wr.heap.size, 0, none⟩, c3, by rw [hR3.long], by rw [hR3.long]; exact hR3.le, hR3.max, hR3.bytes, fun p e => by cases e; exact ⟨Nat.le_refl _, hR3.lt⟩⟩
          obtain ⟨v', w5, hrun, hA5⟩ := hI.out.1.push (by rw [List.length_take]; omega) hS3 hb3
          rw [hsnoc] at hA5
          obtain ⟨A5, c5, e5, _⟩ := hA5.own.shape
          exact ⟨c3, rfl, v', w5, hrun, hA5, A5, _, c5, e5⟩
        obtain ⟨As, cS, hsv, _, _⟩ := hI.out.1.own.shape
        obtain ⟨ns, hns⟩ : ∃ ns, ((recsOf sl bd).take k).length = ns := ⟨_, rfl⟩
        rw [hns] at hsv
        subst hsv
        have HS : Hid (1 + n + sumL (sl.take (k + 1)) = at_ + L) := Lib.hid (by rw [hs, ← hat]; omega)
        have e1 : at_ + L - at_ = L := by omega
        clear hx hcx hg hs hrg hL hat hsub hro hrl hby hsnoc hns hI d5'
        by_cases hac : at_ = cap
        · subst hac
          obtain rfl : L = 0 := by omega
          have HCP2 := Lib.hid (HCP.out (some ⟨b, off, none⟩) 0 (fun h => by omega))
          clear HCP
          go_wp2_with fail
          refine HCP2.out.mono ?_
          rintro e w3 ⟨c3, rfl, v', w5, hrun, hA5, A5, n5, c5, rfl⟩
          have HI : Hid (App w w5 ((recsOf sl bd).take (k + 1)) (.slice A5 n5 c5) ∧ 1 + n + sumL (sl.take (k + 1)) ≤ len) := Lib.hid ⟨hA5, by rw [HS.out]; omega⟩
          have HRUN := Lib.hid hrun
          clear hrun hA5 HCP2 c0 hcx'
          go_wp2_with (at_builtin; refine wpList_app rfl _ _ 34 rfl _ _ _ _ rfl rfl HRUN.out ?_; clear HRUN)
          go_roundw
          case rel => exact ⟨k + 1, by omega, by go_num, by rw [HS.out]; go_num, HI⟩
          case measure => simp [intOf]; omega
        · have HCP2 := Lib.hid (HCP.out (some ⟨b, off + at_, none⟩) (cap - at_) (fun _ => rfl))
          clear HCP
          go_wp2_with fail
          refine HCP2.out.mono ?_
          rintro e w3 ⟨c3, rfl, v', w5, hrun, hA5, A5, n5, c5, rfl⟩
          have HI : Hid (App w w5 ((recsOf sl bd).take (k + 1)) (.slice A5 n5 c5) ∧ 1 + n + sumL (sl.take (k + 1)) ≤ len) := Lib.hid ⟨hA5, by rw [HS.out]; omega⟩
          have HRUN := Lib.hid hrun
          clear hrun hA5 HCP2 c0 hcx'
          go_wp2_with (at_builtin; refine wpList_app rfl _ _ 34 rfl _ _ _ _ rfl rfl HRUN.out ?_; clear HRUN)
          go_roundw
          case rel => exact ⟨k + 1, by omega, by go_num, by rw [HS.out]; go_num, HI⟩
          case measure => simp [intOf]; omega
      · have d5 : decide (ro < L) = true := by simp; omega
        have hno : ¬ Ok p := fun hok => by
          have h := hok.all
          rw [HN.out, HSL.out, HL.out] at h
          have h2 := sumL_take_le sl (k + 1)
          omega
        have HNO := Lib.hid hno
        have HB := Lib.hid hI.out.1.bel
        clear hx hcx hg hs hrg hL hat hro hno hI
        go_wp2_with fail
        go_ret2
        exact .inr ⟨HNO.out, rfl, HB.out⟩
    · obtain rfl : n = k := by omega
      have hd : decide ((n : Int) < (n : Int)) = false := by simp
      have hap := hI.out.1
      have hsu := hI.out.2
      rw [List.take_of_length_le (by rw [recsOf_length, HSLL.out]; exact Nat.le_refl _)] at hap
      rw [List.take_of_length_le (by rw [HSLL.out]; exact Nat.le_refl _)] at hsu
      obtain ⟨A5, c5, hv5, hc5, hc5m, himg⟩ := hap.own.img
      have hrl : (recsOf sl bd).length = n := by rw [recsOf_length, HSLL.out]
      have hbl2 : bd.length ≤ 248 := by rw [← HBD.out]; unfold body; rw [List.length_drop, HL.out]; omega
      have hfl := recsOf_flat sl bd
      have hwr := refwrite_any A5 n c5 (recsOf sl bd) wr hrl (by rw [← hrl]; exact hc5) hc5m himg (by rw [hrl]; omega)
      have hiff := lens_all (p := p) (by rw [HL.out]; omega) (by rw [HL.out]; omega) (by rw [HN.out, HL.out]; omega) (by rw [HN.out, HSL.out, HL.out]; omega)
      rw [HSL.out, HBD.out] at hiff
      rw [hrl] at hv5
      subst hv5
      have HAP := Lib.hid hap
      have HWR := Lib.hid hwr
      have HIFF := Lib.hid hiff
      obtain ⟨P, hP⟩ : ∃ P, pageOf (recsOf sl bd) = P := ⟨_, rfl⟩
      rw [hP] at HWR HIFF
      have hPl : P.length ≤ 100000 := by
        rw [← hP, page_length]
        have := trim_length_le (recsOf sl bd)
        omega
      clear hap hwr hiff himg hI hP hsu hc5 hc5m hrl hfl
      go_wp2_with fail
      refine HWR.out.mono ?_
      rintro e w3 ⟨g, c, rfl, hrw, hg, hb3⟩
      have hb := HAP.out.bel.trans (hb3.mono HAP.out.bel.size)
      have hmx := hrw.max
      unfold maxLen at hmx
      have heq := eq_any (some ⟨g, 0, none⟩) (some ⟨b, off, none⟩) P.length c len cap P p w3 rfl HL.out hrw.bytes (HA.out.below hb) ⟨hrw.le, hmx, by omega⟩ ⟨hcap, by omega, by omega⟩
      have HB3 := Lib.hid hb3
      by_cases hok : Ok p
      · rw [decide_eq_true (HIFF.out.2 hok)] at heq
        have HEQ := Lib.hid heq
        have HOK := Lib.hid hok
        have hre : recsOf sl bd = recs p := by rw [recs_ok hok, HSL.out, HBD.out]
        have HRE := Lib.hid hre
        clear heq hok hre hrw hg hb3 hb hmx HWR
        generalize P.length = pl at *
        go_wp2_with fail
        refine HEQ.out.mono ?_
        rintro e w4 ⟨rfl, hb4⟩
        have HAF : Hid (App w w4 (recs p) (.slice A5 n c5)) := Lib.hid (by rw [← HRE.out]; exact (HAP.out.below HB3.out).below hb4)
        have HOK2 := HOK
        clear hb4
        go_wp2_with fail
        go_ret2
        exact .inl ⟨HOK.out, _, rfl, HAF.out⟩
      · rw [decide_eq_false (fun e => hok (HIFF.out.1 e))] at heq
        have HEQ := Lib.hid heq
        have HOK := Lib.hid hok
        have HB := Lib.hid hb
        clear heq hok hrw hg hb3 hb hmx HWR
        generalize P.length = pl at *
        go_wp2_with fail
        refine HEQ.out.mono ?_
        rintro e w4 ⟨rfl, hb4⟩
        have HB4 := Lib.hid (HB.out.trans (hb4.mono HB.out.size))
        clear hb4
        go_wp2_with fail
        go_ret2
        exact .inr ⟨HOK.out, rfl, HB4.out⟩

end Go.Proofs.Ytipjokbkgcepbaa
