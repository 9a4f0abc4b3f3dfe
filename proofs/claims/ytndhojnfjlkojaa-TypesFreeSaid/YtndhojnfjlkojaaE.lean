/- types: depth. -/
import Derived.Test.YtndhojnfjlkojaaA
import Derived.Lib.MinMax
namespace Go.Proofs.Ytndhojnfjlkojaa
open Go.RowKit
set_option linter.unusedVariables false
set_option linter.unusedSimpArgs false
attribute [local go_sem] Oper.semAt_some
theorem Ty.depths_push : ∀ (ts : List Ty) (t : Ty), Ty.depths (ts ++ [t]) = max (Ty.depths ts) t.depth
  | [], t => by simp [Ty.depths]
  | u :: ts, t => by
    rw [List.cons_append, Ty.depths, Ty.depths, Ty.depths_push ts t]
    omega
theorem Ty.depths_take : ∀ (ts : List Ty) (i : Nat), Ty.depths (ts.take i) ≤ Ty.depths ts
  | [], i => by simp
  | u :: ts, 0 => by simp [Ty.depths]
  | u :: ts, i + 1 => by
    have := Ty.depths_take ts i
    rw [List.take_succ_cons, Ty.depths, Ty.depths]
    omega
set_option maxRecDepth 20000 in
set_option maxHeartbeats 8000000 in
theorem depth_any {F : Nat → Prop} : ∀ (t : Ty) (A : Option Addr) (c : Nat) (w : World), Ty.At F w A t.ks → t.ks.length ≤ c → c ≤ maxLen → t.depth ≤ 1000000 →
    Calls Try.prog 32 #[t.val A c] w fun e w' => e = .returned (.int .i64 (t.depth : Int)) ∧ Below w.heap.size w w' := Ty.ind fun k nm n ks ih A c w hA hc hm hd => by
  have hA : Ty.At F w A ks := hA
  have hc : ks.length ≤ c := hc
  rw [Ty.depth] at hd ⊢
  show Calls Try.prog 32 #[.agg #[.int .u8 (k : Int), .string (str nm), .int .i64 n, .slice A ks.length c]] w _
  obtain ⟨kl, hkl⟩ : ∃ kl, ks.length = kl := ⟨_, rfl⟩
  rw [hkl] at hc ⊢
  obtain ⟨rv, hrv⟩ : ∃ rv, Ty.depths ks = rv := ⟨_, rfl⟩
  rw [hrv] at hd ⊢
  have HR := Lib.hid hrv
  have HK := Lib.hid (And.intro hkl (And.intro hA ih))
  have hmx : kl ≤ 9223372036854775807 := by unfold maxLen at hm; omega
  have hrb : rv ≤ 1000000 := by omega
  clear hrv hkl hA ih hm hc hd
  obtain ⟨w0, hw0⟩ : ∃ w0, w.alloc (.cells #[.int .u8 (k : Int), .string (str nm), .int .i64 n, .slice A kl c] 24) = w0 := ⟨_, rfl⟩
  have hb0 : Below w.heap.size w w0 := by rw [← hw0]; exact (Below.refl _ _).alloc (Nat.le_refl _) _
  have hB0 : Blk w0 w.heap.size 24 #[.int .u8 (k : Int), .string (str nm), .int .i64 n, .slice A kl c] := by rw [← hw0]; exact Blk.new _ _ _
  have d0 := hB0.cell 0
  have d1 := hB0.cell 1
  have d2 := hB0.cell 2
  have d3 := hB0.cell 3
  simp only [List.getElem?_toArray, List.getElem?_cons_zero, List.getElem?_cons_succ] at d0 d1 d2 d3
  have HB0 := Lib.hid (And.intro hb0 hB0)
  clear hb0 hB0
  go_enter Try.func32, Try.ntmps32
  go_upto_region 1 with fail
  (try rw [hw0])
  clear hw0
  go_wp2_with fail
  clear d0 d1 d2 d3
  go_loopw [3, 9] (fun mv iv wr => ∃ i : Nat, i ≤ kl ∧ iv = .int .i64 (i : Int) ∧ mv = .int .i64 ((Ty.depths (ks.take i) : Nat) : Int) ∧ Hid (Below w0.heap.size w0 wr)) (fun _ iv _ => kl - (intOf iv).toNat)
  case atStart => exact ⟨0, Nat.zero_le _, rfl, by rw [List.take_zero]; rfl, Lib.hid (Below.refl _ _)⟩
  case round =>
    obtain ⟨i, hi, rfl, rfl, hJ⟩ := hrel
    obtain ⟨mi, hmi⟩ : ∃ mi, Ty.depths (ks.take i) = mi := ⟨_, rfl⟩
    rw [hmi]
    have HMI := Lib.hid hmi
    clear hmi
    have hBr := HB0.out.2.below hJ.out HB0.out.2.lt
    have d3 := hBr.cell 3
    simp only [List.getElem?_toArray, List.getElem?_cons_zero, List.getElem?_cons_succ] at d3
    by_cases hli : i < kl
    · have hd : decide ((i : Int) < (kl : Int)) = true := by simpa using hli
      obtain ⟨t, ht⟩ : ∃ t, ks[i]? = some t := ⟨_, List.getElem?_eq_getElem (by rw [HK.out.1]; exact hli)⟩
      obtain ⟨b, off, A', c', rfl, _, hbl, z0, z1, z2, z3, _, hlc, hcm, hAt⟩ := ((HK.out.2.1.bel HB0.out.1).bel hJ.out).get ht
      have hti : Ty.depths (ks.take (i + 1)) = max mi t.depth := by
        rw [← HMI.out, List.take_add_one, ht]
        exact Ty.depths_push _ _
      have htr : t.depth ≤ rv := by rw [← HR.out]; exact Ty.depths_mem (List.mem_of_getElem? ht)
      have hmr : mi ≤ rv := by rw [← HMI.out, ← HR.out]; exact Ty.depths_take _ _
      obtain ⟨tl, htl⟩ : ∃ tl, t.ks.length = tl := ⟨_, rfl⟩
      obtain ⟨w6, hw6⟩ : ∃ w6, wr.alloc (.cells #[.int .u8 (t.k : Int), .string (str t.nm), .int .i64 t.n, .slice A' tl c'] 24) = w6 := ⟨_, rfl⟩
      have hb6 : Below wr.heap.size wr w6 := by rw [← hw6]; exact (Below.refl _ _).alloc (Nat.le_refl _) _
      have hB6 : Blk w6 wr.heap.size 24 #[.int .u8 (t.k : Int), .string (str t.nm), .int .i64 t.n, .slice A' tl c'] := by rw [← hw6]; exact Blk.new _ _ _
      have y0 := hB6.cell 0
      have y1 := hB6.cell 1
      have y2 := hB6.cell 2
      have y3 := hB6.cell 3
      simp only [List.getElem?_toArray, List.getElem?_cons_zero, List.getElem?_cons_succ] at y0 y1 y2 y3
      have HC := HK.out.2.2 t (List.mem_of_getElem? ht) A' c' w6 (hAt.bel hb6) hlc hcm (by omega)
      unfold Ty.val at HC
      rw [htl] at HC z3
      have HB6 := Lib.hid (hJ.out.trans (hb6.mono hJ.out.size))
      obtain ⟨dt, hdt⟩ : ∃ dt, t.depth = dt := ⟨_, rfl⟩
      rw [hdt] at HC hti htr
      replace HC := Lib.hid HC
      have HTI := Lib.hid hti
      obtain ⟨mx, hmx2⟩ : ∃ mx, max mi dt = mx := ⟨_, rfl⟩
      rw [hmx2] at HTI
      have hmxi : max (mi : Int) (dt : Int) = (mx : Int) := by omega
      have HMX := Lib.hid hmxi
      clear ht hAt hBr hti hlc hcm htl hdt hmx2 hb6 hB6
      go_upto_region 5 with fail
      (try rw [hw6])
      clear hw6 z0 z1 z2 z3 d3
      go_wp2_with fail
      refine HC.out.mono ?_
      rintro e w7 ⟨rfl, hb7⟩
      have HB7 := Lib.hid (HB6.out.trans (hb7.mono HB6.out.size))
      clear hb7 HC hJ
      go_wp2_with fail
      go_roundw
      case rel => exact ⟨i + 1, by omega, by go_num, by rw [HTI.out], HB7⟩
      case measure => simp [intOf]; omega
    · obtain rfl : kl = i := by omega
      have hd : decide ((kl : Int) < (kl : Int)) = false := by simp
      have hmr : mi = rv := by rw [← HMI.out, ← HR.out, List.take_of_length_le (by rw [HK.out.1]; exact Nat.le_refl _)]
      subst hmr
      have HJ := Lib.hid (HB0.out.1.trans (hJ.out.mono HB0.out.1.size))
      clear hJ hBr
      go_wp2_with fail
      go_ret
      exact ⟨by go_num, HJ.out⟩
set_option maxRecDepth 20000 in
set_option maxHeartbeats 8000000 in
theorem rdeep_any {F : Nat → Prop} : ∀ (t : Ty) (A : Option Addr) (c : Nat) (w : World), Ty.At F w A t.ks → t.ks.length ≤ c → c ≤ maxLen → t.depth ≤ 1000000 →
    Calls Try.prog 33 #[t.val A c] w fun e w' => e = .returned (.int .i64 (t.depth : Int)) ∧ Below w.heap.size w w' := Ty.ind fun k nm n ks ih A c w hA hc hm hd => by
  have hA : Ty.At F w A ks := hA
  have hc : ks.length ≤ c := hc
  rw [Ty.depth] at hd ⊢
  show Calls Try.prog 33 #[.agg #[.int .u8 (k : Int), .string (str nm), .int .i64 n, .slice A ks.length c]] w _
  obtain ⟨kl, hkl⟩ : ∃ kl, ks.length = kl := ⟨_, rfl⟩
  rw [hkl] at hc ⊢
  obtain ⟨rv, hrv⟩ : ∃ rv, Ty.depths ks = rv := ⟨_, rfl⟩
  rw [hrv] at hd ⊢
  have HR := Lib.hid hrv
  have HK := Lib.hid (And.intro hkl (And.intro hA ih))
  have hmx : kl ≤ 9223372036854775807 := by unfold maxLen at hm; omega
  have hrb : rv ≤ 1000000 := by omega
  clear hrv hkl hA ih hm hc hd
  obtain ⟨w0, hw0⟩ : ∃ w0, w.alloc (.cells #[.int .u8 (k : Int), .string (str nm), .int .i64 n, .slice A kl c] 24) = w0 := ⟨_, rfl⟩
  have hb0 : Below w.heap.size w w0 := by rw [← hw0]; exact (Below.refl _ _).alloc (Nat.le_refl _) _
  have hB0 : Blk w0 w.heap.size 24 #[.int .u8 (k : Int), .string (str nm), .int .i64 n, .slice A kl c] := by rw [← hw0]; exact Blk.new _ _ _
  have d0 := hB0.cell 0
  have d1 := hB0.cell 1
  have d2 := hB0.cell 2
  have d3 := hB0.cell 3
  simp only [List.getElem?_toArray, List.getElem?_cons_zero, List.getElem?_cons_succ] at d0 d1 d2 d3
  have HB0 := Lib.hid (And.intro hb0 hB0)
  clear hb0 hB0
  go_enter Try.func33, Try.ntmps33
  go_upto_region 1 with fail
  (try rw [hw0])
  clear hw0
  go_wp2_with fail
  clear d0 d1 d2 d3
  go_loopw [3, 4] (fun mv iv wr => ∃ i : Nat, i ≤ kl ∧ iv = .int .i64 (i : Int) ∧ mv = .int .i64 ((Ty.depths (ks.take i) : Nat) : Int) ∧ Hid (Below w0.heap.size w0 wr)) (fun _ iv _ => kl - (intOf iv).toNat)
  case atStart => exact ⟨0, Nat.zero_le _, rfl, by rw [List.take_zero]; rfl, Lib.hid (Below.refl _ _)⟩
  case round =>
    obtain ⟨i, hi, rfl, rfl, hJ⟩ := hrel
    obtain ⟨mi, hmi⟩ : ∃ mi, Ty.depths (ks.take i) = mi := ⟨_, rfl⟩
    rw [hmi]
    have HMI := Lib.hid hmi
    clear hmi
    have hBr := HB0.out.2.below hJ.out HB0.out.2.lt
    have d3 := hBr.cell 3
    simp only [List.getElem?_toArray, List.getElem?_cons_zero, List.getElem?_cons_succ] at d3
    by_cases hli : i < kl
    · have hd : decide ((i : Int) < (kl : Int)) = true := by simpa using hli
      obtain ⟨t, ht⟩ : ∃ t, ks[i]? = some t := ⟨_, List.getElem?_eq_getElem (by rw [HK.out.1]; exact hli)⟩
      obtain ⟨b, off, A', c', rfl, _, hbl, z0, z1, z2, z3, _, hlc, hcm, hAt⟩ := ((HK.out.2.1.bel HB0.out.1).bel hJ.out).get ht
      have hti : Ty.depths (ks.take (i + 1)) = max mi t.depth := by
        rw [← HMI.out, List.take_add_one, ht]
        exact Ty.depths_push _ _
      have htr : t.depth ≤ rv := by rw [← HR.out]; exact Ty.depths_mem (List.mem_of_getElem? ht)
      have hmr : mi ≤ rv := by rw [← HMI.out, ← HR.out]; exact Ty.depths_take _ _
      obtain ⟨tl, htl⟩ : ∃ tl, t.ks.length = tl := ⟨_, rfl⟩
      have HC := HK.out.2.2 t (List.mem_of_getElem? ht) A' c' wr hAt hlc hcm (by omega)
      unfold Ty.val at HC
      rw [htl] at HC z3
      have HB6 := hJ
      obtain ⟨dt, hdt⟩ : ∃ dt, t.depth = dt := ⟨_, rfl⟩
      rw [hdt] at HC hti htr
      replace HC := Lib.hid HC
      have HTI := Lib.hid hti
      obtain ⟨mx, hmx2⟩ : ∃ mx, max mi dt = mx := ⟨_, rfl⟩
      rw [hmx2] at HTI
      have hmxi : max (mi : Int) (dt : Int) = (mx : Int) := by omega
      have HMX := Lib.hid hmxi
      clear ht hAt hBr hti hlc hcm htl hdt hmx2 
      go_wp2_with fail
      refine HC.out.mono ?_
      rintro e w7 ⟨rfl, hb7⟩
      have HB7 := Lib.hid (HB6.out.trans (hb7.mono HB6.out.size))
      clear hb7 HC hJ
      go_wp2_with fail
      go_roundw
      case rel => exact ⟨i + 1, by omega, by go_num, by rw [HTI.out], HB7⟩
      case measure => simp [intOf]; omega
    · obtain rfl : kl = i := by omega
      have hd : decide ((kl : Int) < (kl : Int)) = false := by simp
      have hmr : mi = rv := by rw [← HMI.out, ← HR.out, List.take_of_length_le (by rw [HK.out.1]; exact Nat.le_refl _)]
      subst hmr
      have HJ := Lib.hid (HB0.out.1.trans (hJ.out.mono HB0.out.1.size))
      clear hJ hBr
      go_wp2_with fail
      go_ret
      exact ⟨by go_num, HJ.out⟩
end Go.Proofs.Ytndhojnfjlkojaa
