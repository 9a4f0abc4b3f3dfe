/- cover: pick. -/
import Derived.Test.YtigaondgopahgaaPk
namespace Go.Proofs.Ytigaondgopahgaa
open Go.RowKit
set_option linter.unusedVariables false
set_option linter.unusedSimpArgs false
attribute [local go_sem] Oper.semAt_some
/-- Between the rounds of pick. -/
structure PiI (w wr : World) (f : List Ty → Option (List Ty)) (rows : List (List Ty)) (i : Nat) (lv : Value) (es : List Re) : Prop where
  bel : Below w.heap.size w wr
  own : RwO w.heap.size wr lv es
  is : es.map Re.ts = (rows.take i).filterMap f
theorem fm_len {α β : Type} (f : α → Option β) : ∀ l : List α, (l.filterMap f).length ≤ l.length := fun l => List.length_filterMap_le f l
theorem fm_snoc {α β : Type} (f : α → Option β) (l : List α) (i : Nat) (x : α) (h : l[i]? = some x) : (l.take (i + 1)).filterMap f = (l.take i).filterMap f ++ (f x).toList := by
  rw [List.take_add_one, h, List.filterMap_append]
  cases hx : f x <;> simp [hx]
set_option maxRecDepth 20000 in
set_option maxHeartbeats 8000000 in
theorem pick_any (fv : Nat) (hE : Enters Try.prog fv) (caps : Array Value) (f : List Ty → Option (List Ty)) (J : World → Prop) (hJ : ∀ w w', J w → Below w.heap.size w w' → J w') (rows : List (List Ty))
    (hf : ∀ (F : Nat → Prop) (row : List Ty) (A : Option Addr) (c : Nat) (w1 : World), row ∈ rows → J w1 → PAt F w1 A row.length c row → Calls Try.prog fv (#[.slice A row.length c] ++ caps) w1 (KeepP F f row w1)) (A : Option Addr) (n c : Nat) (w : World) (hA : RAt w A n c rows) (hJ0 : J w) (hn : n ≤ 100000) :
    Calls Try.prog 30 #[.slice A n c, .func (.func fv) #[] caps] w fun e w' => ∃ A' c', e = .returned (.slice A' (rows.filterMap f).length c') ∧ RAt w' A' (rows.filterMap f).length c' (rows.filterMap f) ∧ Below w.heap.size w w' := by
  have hEn : ∀ (args : Array Value) (w : World), (callFunc fv args).run Try.prog w = .ok (.enter fv args) w := hE
  have hmx : n ≤ 9223372036854775807 := by omega
  have HS : Hid (PiI w w f rows 0 (.slice none 0 0) []) := Lib.hid ⟨Below.refl _ _, RwO.nil _ _, by rw [List.take_zero]; rfl⟩
  have HK := Lib.hid (And.intro hA (And.intro hf (And.intro hJ hJ0)))
  clear hA hf hJ hJ0 hE
  go_enter Try.func30, Try.ntmps30
  go_wp2_with fail
  go_loopw [5, 12] (fun lv iv wr => ∃ (i : Nat) (es : List Re) (Al : Option Addr) (cl : Nat), i ≤ n ∧ iv = .int .i64 (i : Int) ∧ lv = .slice Al es.length cl ∧ Hid (PiI w wr f rows i (.slice Al es.length cl) es)) (fun _ iv _ => n - (intOf iv).toNat)
  case atStart => exact ⟨0, [], none, 0, Nat.zero_le _, rfl, rfl, HS⟩
  case round =>
    clear HS
    obtain ⟨i, es, Al, cl, hi, rfl, rfl, hX⟩ := hrel
    obtain ⟨hl, hhl⟩ : ∃ hl, es.length = hl := ⟨_, rfl⟩
    rw [hhl] at hX ⊢
    by_cases hli : i < n
    · have hd : decide ((i : Int) < (n : Int)) = true := by simpa using hli
      obtain ⟨row, hrow⟩ : ∃ t, rows[i]? = some t := ⟨_, List.getElem?_eq_getElem (by rw [HK.out.1.len]; exact hli)⟩
      obtain ⟨b, off, A', c', rfl, hbl, z0, hP⟩ := HK.out.1.at_ i row hrow
      have hP1 : PAt (fun b => b < w.heap.size) wr A' row.length c' row := ⟨hP.len, hP.le, hP.cap, (hP.at_.bnd.off (Off.of_new hX.out.bel (fun _ => False)) (fun _ _ h => h)).mono fun b hb => hb.2⟩
      have z1 : wr.cell? ⟨b, off + i, none⟩ = some (.slice A' row.length c') := (hX.out.bel.cell (p := ⟨b, _, none⟩) hbl).trans z0
      have hsn := fm_snoc f rows i row hrow
      have hJr : ∀ w1, Below w.heap.size w w1 → True := fun _ _ => trivial
      have HC := HK.out.2.1 (fun b => b < w.heap.size) row A' c' wr (List.mem_of_getElem? hrow) (HK.out.2.2.1 _ _ HK.out.2.2.2 hX.out.bel) hP1
      obtain ⟨rl, hrl⟩ : ∃ rl, row.length = rl := ⟨_, rfl⟩
      rw [hrl] at HC z1
      replace HC := Lib.hid HC
      have HSN := Lib.hid hsn
      clear hrow hbl z0 hP hP1 hsn hJr hrl
      go_wp2_with fail
      refine HC.out.mono ?_
      rintro e w7 ⟨hb7, hh⟩
      clear HC z1
      rcases hh with ⟨r, A2, c2, hfr, rfl, hR⟩ | ⟨hfr, v, rfl⟩
      · obtain ⟨w8, hw8⟩ : ∃ w8, w7.alloc (.cells #[.slice A2 r.length c2] 22) = w8 := ⟨_, rfl⟩
        have hb8 : Below w7.heap.size w7 w8 := by rw [← hw8]; exact (Below.refl _ _).alloc (Nat.le_refl _) _
        have hB8 : Blk w8 w7.heap.size 22 #[.slice A2 r.length c2] := by rw [← hw8]; exact Blk.new _ _ _
        have hwb := hX.out.bel.trans ((hb7.trans (hb8.mono hb7.size)).mono hX.out.bel.size)
        have hO := (hX.out.own.below hb7).below hb8
        have hfl := fm_len f (rows.take i)
        rw [← hX.out.is, List.length_map, hhl, List.length_take] at hfl
        have hl1 : hl < 1000000 := by omega
        obtain ⟨v', w9, hrun, hO2, hgr⟩ := hO.push hwb.size ⟨r, A2, c2⟩ w7.heap.size hB8 (fun b => b < w.heap.size ∨ wr.heap.size ≤ b) (fun b hb e => by
          have h1 := hX.out.own.own.lt b e
          omega) ((hR.at_.bel hb8)) hR.le hR.cap (by omega)
        obtain ⟨A3, c3, rfl, _⟩ := hO2.shape
        rw [List.length_append, List.length_singleton, hhl] at hrun hO2
        have HN : Hid (PiI w w9 f rows (i + 1) (.slice A3 (hl + 1) c3) (es ++ [⟨r, A2, c2⟩])) := Lib.hid ⟨hwb.trans (hO.bel hgr (Nat.le_refl _) hwb.size), hO2, by rw [HSN.out, hfr, List.map_append, hX.out.is]; rfl⟩
        obtain ⟨ql, hql⟩ : ∃ ql, r.length = ql := ⟨_, rfl⟩
        rw [hql] at hw8 ⊢
        have HW := Lib.hid hw8
        have HR := Lib.hid hrun
        clear hb7 hfr hR hb8 hB8 hwb hO hfl hrun hO2 hgr hw8 hX hql
        go_upto_region 7 with fail
        have hw8 := HW.out
        have hrun := HR.out
        go_wp2_with (at_builtin; refine wpList_app rfl _ _ 60 rfl _ _ _ _ rfl rfl hrun ?_)
        go_roundw
        case rel => exact ⟨i + 1, es ++ [⟨r, A2, c2⟩], A3, c3, by omega, by go_num, by rw [List.length_append, List.length_singleton, hhl], by rw [List.length_append, List.length_singleton, hhl]; exact HN⟩
        case measure => simp [intOf]; omega
      · have HN : Hid (PiI w w7 f rows (i + 1) (.slice Al hl cl) es) := Lib.hid ⟨hX.out.bel.trans (hb7.mono hX.out.bel.size), hX.out.own.below hb7, by rw [HSN.out, hfr, hX.out.is]; simp⟩
        clear hX hb7 hfr
        go_wp2_with fail
        go_roundw
        case rel => exact ⟨i + 1, es, Al, cl, by omega, by go_num, by rw [hhl], by rw [hhl]; exact HN⟩
        case measure => simp [intOf]; omega
    · obtain rfl : i = n := by omega
      have hd : decide ((i : Int) < (i : Int)) = false := by simp
      have HV : Hid (rows.filterMap f = es.map Re.ts ∧ Below w.heap.size w wr ∧ RwO w.heap.size wr (.slice Al hl cl) es) := Lib.hid ⟨by
        have := hX.out.is
        rw [List.take_of_length_le (by rw [HK.out.1.len]; omega)] at this
        exact this.symm, hX.out.bel, hX.out.own⟩
      clear hX
      go_wp2_with fail
      go_ret
      obtain ⟨A2, c2, e2, h2⟩ := HV.out.2.2.shape
      injection e2 with e3 e4 e5
      rw [HV.out.1, List.length_map, hhl]
      refine ⟨Al, cl, rfl, ?_, HV.out.2.1⟩
      rw [e3, e5]
      rwa [hhl] at h2
end Go.Proofs.Ytigaondgopahgaa
