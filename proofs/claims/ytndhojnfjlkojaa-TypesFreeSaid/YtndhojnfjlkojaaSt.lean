/- types: stands. -/
import Derived.Test.YtndhojnfjlkojaaJ
namespace Go.Proofs.Ytndhojnfjlkojaa
open Go.RowKit
set_option linter.unusedVariables false
set_option linter.unusedSimpArgs false
attribute [local go_sem] Oper.semAt_some
open Ty
theorem mem_numss' {ts : List Ty} {m : Int} : m ∈ numss ts ↔ ∃ t ∈ ts, m ∈ t.nums := by
  induction ts with
  | nil => simp [numss]
  | cons t ts ih => rw [numss, List.mem_append, ih]; simp
set_option maxRecDepth 20000 in
set_option maxHeartbeats 8000000 in
theorem stands_any {F : Nat → Prop} (m : Int) : ∀ (t : Ty) (A : Option Addr) (c : Nat) (w : World), Ty.At F w A t.ks → t.ks.length ≤ c → c ≤ maxLen →
    Calls Try.prog 25 #[t.val A c, .int .i64 m] w fun e w' => e = .returned (.bool (decide (m ∈ t.nums))) ∧ Below w.heap.size w w' := Ty.ind fun k nm n ks ih A c w hA hc hm => by
  have hA : Ty.At F w A ks := hA
  have hc : ks.length ≤ c := hc
  show Calls Try.prog 25 #[.agg #[.int .u8 (k : Int), .string (str nm), .int .i64 n, .slice A ks.length c], .int .i64 m] w _
  obtain ⟨kl, hkl⟩ : ∃ kl, ks.length = kl := ⟨_, rfl⟩
  rw [hkl] at hc ⊢
  have hmx : kl ≤ 9223372036854775807 := by unfold maxLen at hm; omega
  obtain ⟨rv, hrv⟩ : ∃ rv, decide (m ∈ Ty.nums (.node k nm n ks)) = rv := ⟨_, rfl⟩
  rw [hrv]
  obtain ⟨w0, hw0⟩ : ∃ w0, w.alloc (.cells #[.int .u8 (k : Int), .string (str nm), .int .i64 n, .slice A kl c] 24) = w0 := ⟨_, rfl⟩
  have hb0 : Below w.heap.size w w0 := by rw [← hw0]; exact (Below.refl _ _).alloc (Nat.le_refl _) _
  have hB0 : Blk w0 w.heap.size 24 #[.int .u8 (k : Int), .string (str nm), .int .i64 n, .slice A kl c] := by rw [← hw0]; exact Blk.new _ _ _
  have d0 := hB0.cell 0
  have d2 := hB0.cell 2
  simp only [List.getElem?_toArray, List.getElem?_cons_zero, List.getElem?_cons_succ] at d0 d2
  by_cases e1 : k = 1
  case pos =>
    have hq : (n == m) = rv := by
      rw [← hrv, nums, if_pos e1]
      by_cases e : n = m
      · subst e; simp
      · have : m ∉ [n] := fun h => e (List.mem_singleton.1 h).symm
        simp [e, this]
    have HB0 := Lib.hid hb0
    subst e1
    replace d0 : w0.cell? ⟨w.heap.size, 0, none⟩ = some (.int .u8 1) := d0
    replace hw0 : w.alloc (.cells #[.int .u8 1, .string (str nm), .int .i64 n, .slice A kl c] 24) = w0 := hw0
    clear hb0 hB0 hA ih hkl hc hm hrv
    go_enter Try.func25, Try.ntmps25
    go_upto_region 1 with fail
    (try rw [hw0])
    clear hw0
    go_wp2_with fail
    go_ret
    exact ⟨rfl, HB0.out⟩
  have hk1 : ((k : Int) == 1) = false := by simp; omega
  have HV : Hid (((∃ t ∈ ks, m ∈ t.nums) → rv = true) ∧ ((∀ t ∈ ks, m ∉ t.nums) → rv = false)) := Lib.hid ⟨fun h => by
    rw [← hrv, nums, if_neg e1]
    exact decide_eq_true (mem_numss'.2 h), fun h => by
    rw [← hrv, nums, if_neg e1]
    exact decide_eq_false fun hh => by
      obtain ⟨t, ht, h2⟩ := mem_numss'.1 hh
      exact h t ht h2⟩
  have HK := Lib.hid (And.intro hkl (And.intro hA ih))
  have HB0 := Lib.hid (And.intro hb0 hB0)
  clear hb0 hB0 hA ih hkl hc hm hrv e1
  go_enter Try.func25, Try.ntmps25
  go_upto_region 1 with fail
  (try rw [hw0])
  clear hw0
  go_wp2_with fail
  clear d0 d2
  go_loopw [5] (fun iv wr => ∃ i : Nat, i ≤ kl ∧ iv = .int .i64 (i : Int) ∧ Hid (Below w0.heap.size w0 wr ∧ ∀ (r : Nat) (t : Ty), r < i → ks[r]? = some t → m ∉ t.nums)) (fun iv _ => kl - (intOf iv).toNat)
  case atStart => exact ⟨0, Nat.zero_le _, rfl, Lib.hid ⟨Below.refl _ _, fun r t h => absurd h (Nat.not_lt_zero r)⟩⟩
  case round =>
    obtain ⟨i, hi, rfl, hJ⟩ := hrel
    have hBr := HB0.out.2.below hJ.out.1 HB0.out.2.lt
    have d3 := hBr.cell 3
    simp only [List.getElem?_toArray, List.getElem?_cons_zero, List.getElem?_cons_succ] at d3
    clear hBr
    by_cases hli : i < kl
    · have hd : decide ((i : Int) < (kl : Int)) = true := by simpa using hli
      obtain ⟨t, ht⟩ : ∃ t, ks[i]? = some t := ⟨_, List.getElem?_eq_getElem (by rw [HK.out.1]; exact hli)⟩
      obtain ⟨b, off, A', c', rfl, _, _, z0, z1, z2, z3, _, hlc, hcm, hAt⟩ := ((HK.out.2.1.bel HB0.out.1).bel hJ.out.1).get ht
      have HC := HK.out.2.2 t (List.mem_of_getElem? ht) A' c' wr hAt hlc hcm
      unfold Ty.val at HC
      obtain ⟨tl, htl⟩ : ∃ tl, t.ks.length = tl := ⟨_, rfl⟩
      rw [htl] at HC z3
      obtain ⟨rt, hrt⟩ : ∃ rt, decide (m ∈ t.nums) = rt := ⟨_, rfl⟩
      rw [hrt] at HC
      replace HC := Lib.hid HC
      have HT := Lib.hid (And.intro ht hrt)
      clear ht hlc hcm hAt htl hrt
      go_upto_if 26 with (go_at_call 25; refine HC.out.mono ?_; rintro e w7 ⟨rfl, hb7⟩; have HB7 := Lib.hid (hJ.out.1.trans (hb7.mono hJ.out.1.size)); clear hb7 z0 z1 z2 z3 d3)
      cases rt with
      | true =>
        have HR : Hid (rv = true) := Lib.hid (HV.out.1 ⟨t, List.mem_of_getElem? HT.out.1, of_decide_eq_true HT.out.2⟩)
        clear hJ HT
        go_wp2_with fail
        go_ret
        exact ⟨by rw [HR.out]; rfl, HB0.out.1.trans (HB7.out.mono HB0.out.1.size)⟩
      | false =>
        have HN : Hid (Below w0.heap.size w0 w7 ∧ ∀ (r : Nat) (t : Ty), r < i + 1 → ks[r]? = some t → m ∉ t.nums) := Lib.hid ⟨HB7.out, fun r y hr hy => by
          by_cases e : r = i
          · subst e; rw [HT.out.1] at hy; cases hy; exact of_decide_eq_false HT.out.2
          · exact hJ.out.2 r y (by omega) hy⟩
        clear hJ HT HB7 HC
        go_wp2_with fail
        go_roundw
        case rel => exact ⟨i + 1, by omega, by go_num, HN⟩
        case measure => simp [intOf]; omega
    · obtain rfl : kl = i := by omega
      have hd : decide ((kl : Int) < (kl : Int)) = false := by simp
      have HR : Hid (rv = false) := Lib.hid (HV.out.2 fun t ht => by
        obtain ⟨r, hr⟩ := List.getElem?_of_mem ht
        exact hJ.out.2 r t (by have := (List.getElem?_eq_some_iff.1 hr).1; have := HK.out.1; omega) hr)
      have HJ := Lib.hid (HB0.out.1.trans (hJ.out.1.mono HB0.out.1.size))
      clear hJ
      go_wp2_with fail
      go_ret
      exact ⟨by rw [HR.out]; rfl, HJ.out⟩
end Go.Proofs.Ytndhojnfjlkojaa
