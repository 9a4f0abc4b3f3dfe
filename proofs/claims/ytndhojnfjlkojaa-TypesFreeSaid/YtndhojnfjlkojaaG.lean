/- types: Vast. -/
import Derived.Test.YtndhojnfjlkojaaA
namespace Go.Proofs.Ytndhojnfjlkojaa
open Go.RowKit
set_option linter.unusedVariables false
set_option linter.unusedSimpArgs false
attribute [local go_sem] Oper.semAt_some
theorem str_size (t : List UInt8) : (str t).size = t.length := by unfold str; rfl
theorem Ty.partss_push : ∀ (ts : List Ty) (t : Ty), Ty.partss (ts ++ [t]) = Ty.partss ts + t.parts
  | [], t => by simp [Ty.partss]
  | u :: ts, t => by
    rw [List.cons_append, Ty.partss, Ty.partss, Ty.partss_push ts t]
    omega
theorem Ty.depths_le : ∀ (ts : List Ty) (d : Nat), (∀ t ∈ ts, t.depth ≤ d) → Ty.depths ts ≤ d
  | [], d, _ => Nat.zero_le _
  | u :: ts, d, h => by
    have h1 := h u (List.mem_cons_self ..)
    have h2 := Ty.depths_le ts d fun t ht => h t (List.mem_cons_of_mem _ ht)
    rw [Ty.depths]
    omega
/-- What Vast finds of no type too great. -/
inductive Neat : Ty → Prop
  | mk (k : Nat) (nm : List UInt8) (n : Int) (ks : List Ty) (hn : nm.length ≤ 1024) (hk : ∀ t ∈ ks, Neat t) : Neat (.node k nm n ks)
set_option maxRecDepth 20000 in
set_option maxHeartbeats 8000000 in
theorem large_any {F : Nat → Prop} {pb : Nat} (hFp : ∀ b, F b → b ≠ pb) : ∀ (t : Ty) (A : Option Addr) (c d m : Nat) (w : World), Ty.At F w A t.ks → t.ks.length ≤ c → c ≤ maxLen → d ≤ 60 → m ≤ 401 → Blk w pb 3 #[.int .i64 (m : Int)] →
    Calls Try.prog 28 #[t.val A c, .int .i64 (d : Int), .pointer (some ⟨pb, 0, none⟩)] w fun e w' => ∃ (b : Bool) (m' : Nat), e = .returned (.bool b) ∧ Blk w' pb 3 #[.int .i64 (m' : Int)] ∧ Off (fun b => b = pb) w w' ∧ m' ≤ 402 ∧ (b = false → m' = m + t.parts ∧ m' ≤ 400 ∧ t.depth ≤ d ∧ Neat t) := Ty.ind fun k nm n ks ih A c d m w hA hc hm hd hm4 hP => by
  have hA : Ty.At F w A ks := hA
  have hc : ks.length ≤ c := hc
  show Calls Try.prog 28 #[.agg #[.int .u8 (k : Int), .string (str nm), .int .i64 n, .slice A ks.length c], _, _] w _
  obtain ⟨kl, hkl⟩ : ∃ kl, ks.length = kl := ⟨_, rfl⟩
  rw [hkl] at hc ⊢
  have hmx : kl ≤ 9223372036854775807 := by unfold maxLen at hm; omega
  obtain ⟨nl, hnl⟩ : ∃ nl, nm.length = nl := ⟨_, rfl⟩
  have hsz : (str nm).size = nl := by rw [str_size]; exact hnl
  have HK := Lib.hid (And.intro hkl (And.intro hA (And.intro ih hnl)))
  obtain ⟨w0, hw0⟩ : ∃ w0, w.alloc (.cells #[.int .u8 (k : Int), .string (str nm), .int .i64 n, .slice A kl c] 24) = w0 := ⟨_, rfl⟩
  have hb0 : Below w.heap.size w w0 := by rw [← hw0]; exact (Below.refl _ _).alloc (Nat.le_refl _) _
  have hB0 : Blk w0 w.heap.size 24 #[.int .u8 (k : Int), .string (str nm), .int .i64 n, .slice A kl c] := by rw [← hw0]; exact Blk.new _ _ _
  have hP0 := hP.below hb0 hP.lt
  have p0 : w0.cell? ⟨pb, 0, none⟩ = some (.int .i64 (m : Int)) := hP0.cell 0
  have pf := hP0.frozen
  have d0 := hB0.cell 0
  have d1 := hB0.cell 1
  have d2 := hB0.cell 2
  have d3 := hB0.cell 3
  simp only [List.getElem?_toArray, List.getElem?_cons_zero, List.getElem?_cons_succ] at d0 d1 d2 d3
  have hpw : pb ≠ w.heap.size := fun e => by have := hP.lt; omega
  obtain ⟨w1, hw1⟩ : ∃ w1, w0.setCell ⟨pb, 0, none⟩ (.int .i64 ((m : Int) + 1)) = w1 := ⟨_, rfl⟩
  have ho1 : Off (fun b => b = pb) w0 w1 := by rw [← hw1]; exact Off.setc _ _ _ _
  have hP1 : Blk w1 pb 3 #[.int .i64 ((m + 1 : Nat) : Int)] := by rw [← hw1]; exact hP0.set_ 0 _
  have hB1 := hB0.off ho1 (fun e => hpw (Eq.symm e))
  have hA1 : Ty.At F w1 A ks := (hA.bel hb0).off ho1 hFp
  have how1 : Off (fun b => b = pb) w w1 := (Off.of_new hb0 _).trans ho1
  have HS1 := Lib.hid (And.intro hP1 (And.intro hB1 (And.intro hA1 how1)))
  clear hkl hA ih hm hc hP hb0 hB0 hP0 ho1 how1 hA1 hnl
  go_enter Try.func28, Try.ntmps28
  go_upto_region 2 with fail
  (try rw [hw0])
  (try rw [hw1])
  clear hw0 hw1 p0 pf d0 d1 d2 d3
  have p0 := hP1.cell 0
  have d0 := hB1.cell 0
  have d1 := hB1.cell 1
  have d2 := hB1.cell 2
  have d3 := hB1.cell 3
  simp only [List.getElem?_toArray, List.getElem?_cons_zero, List.getElem?_cons_succ] at d0 d1 d2 d3
  simp only [List.getElem?_toArray, List.getElem?_cons_zero] at p0
  obtain ⟨m1, hm1⟩ : ∃ m1, m + 1 = m1 := ⟨_, rfl⟩
  rw [hm1] at p0 HS1
  have HM1 := Lib.hid hm1
  have hm1b : m1 ≤ 402 := by omega
  clear hP1 hB1
  by_cases e0 : d = 0
  · subst e0
    clear hm1
    go_wp2_with fail
    go_ret
    exact ⟨true, m1, rfl, HS1.out.1, HS1.out.2.2.2, hm1b, fun h => by cases h⟩
  have q0 : ((d : Int) == 0) = false := by simp; omega
  by_cases e1 : 400 < m1
  · have q1 : decide ((m1 : Int) > 400) = true := by simp; omega
    have q1n : decide (400 < m1) = true := by simpa using e1
    clear hm1
    go_wp2_with fail
    go_ret
    exact ⟨true, m1, rfl, HS1.out.1, HS1.out.2.2.2, hm1b, fun h => by cases h⟩
  have q1 : decide ((m1 : Int) > 400) = false := by simp; omega
  have q1n : decide (400 < m1) = false := by simp; omega
  by_cases e2 : 1024 < nl
  · have q2 : decide ((nl : Int) > 1024) = true := by simp; omega
    have q2n : decide (1024 < nl) = true := by simpa using e2
    clear hm1
    go_wp2_with fail
    go_ret
    exact ⟨true, m1, rfl, HS1.out.1, HS1.out.2.2.2, hm1b, fun h => by cases h⟩
  have q2 : decide ((nl : Int) > 1024) = false := by simp; omega
  have q2n : decide (1024 < nl) = false := by simp; omega
  obtain ⟨d1', hd1'⟩ : ∃ d1', d - 1 = d1' := ⟨_, rfl⟩
  have hdi : (d : Int) - 1 = (d1' : Int) := by omega
  have HD := Lib.hid (And.intro hd1' (And.intro hd e0))
  have HM4 := Lib.hid (And.intro e1 e2)
  clear hm1 hd1'
  go_wp2_with fail
  clear p0 d0 d1 d2 d3
  go_loopw [7] (fun iv wr => ∃ (i mi : Nat), i ≤ kl ∧ iv = .int .i64 (i : Int) ∧ Hid (mi = m1 + Ty.partss (ks.take i) ∧ mi ≤ 400 ∧ (∀ t ∈ ks.take i, t.depth ≤ d1' ∧ Neat t) ∧ Blk wr pb 3 #[.int .i64 (mi : Int)] ∧ Off (fun b => b = pb) w1 wr)) (fun iv _ => kl - (intOf iv).toNat)
  case atStart => exact ⟨0, m1, Nat.zero_le _, rfl, Lib.hid ⟨by rw [List.take_zero]; rfl, by have := HM4.out.1; omega, (fun t ht => by rw [List.take_zero] at ht; cases ht), HS1.out.1, Off.refl _ _⟩⟩
  case round =>
    obtain ⟨i, mi, hi, rfl, hJ⟩ := hrel
    have hBr := HS1.out.2.1.off hJ.out.2.2.2.2 (fun e => hpw (Eq.symm e))
    have d3 := hBr.cell 3
    simp only [List.getElem?_toArray, List.getElem?_cons_zero, List.getElem?_cons_succ] at d3
    by_cases hli : i < kl
    · have hd : decide ((i : Int) < (kl : Int)) = true := by simpa using hli
      obtain ⟨t, ht⟩ : ∃ t, ks[i]? = some t := ⟨_, List.getElem?_eq_getElem (by rw [HK.out.1]; exact hli)⟩
      obtain ⟨b, off, A', c', rfl, _, hbl, z0, z1, z2, z3, _, hlc, hcm, hAt⟩ := (HS1.out.2.2.1.off hJ.out.2.2.2.2 hFp).get ht
      have HC := HK.out.2.2.1 t (List.mem_of_getElem? ht) A' c' d1' mi wr hAt hlc hcm (by have := HD.out; omega) (by have := hJ.out.2.1; omega) hJ.out.2.2.2.1
      unfold Ty.val at HC
      obtain ⟨tl, htl⟩ : ∃ tl, t.ks.length = tl := ⟨_, rfl⟩
      rw [htl] at HC z3
      replace HC := Lib.hid HC
      have hti : ks.take (i + 1) = ks.take i ++ [t] := by rw [List.take_add_one, ht]; rfl
      have HT := Lib.hid hti
      clear ht hAt hBr hlc hcm htl hti hbl
      go_wp2_with fail
      refine HC.out.mono ?_
      rintro e w7 ⟨bt, m7, rfl, hP7, ho7, hm7, hbf⟩
      have HS7 := Lib.hid (And.intro hP7 (And.intro (hJ.out.2.2.2.2.trans ho7) (And.intro hm7 hbf)))
      clear hP7 ho7 hm7 hbf HC z0 z1 z2 z3 d3
      cases bt with
      | true =>
        clear hJ
        go_wp2_with fail
        go_ret
        exact ⟨true, m7, rfl, HS7.out.1, HS1.out.2.2.2.trans HS7.out.2.1, HS7.out.2.2.1, fun h => by cases h⟩
      | false =>
        have HN : Hid (m7 = m1 + Ty.partss (ks.take (i + 1)) ∧ m7 ≤ 400 ∧ (∀ t ∈ ks.take (i + 1), t.depth ≤ d1' ∧ Neat t) ∧ Blk w7 pb 3 #[.int .i64 (m7 : Int)] ∧ Off (fun b => b = pb) w1 w7) := Lib.hid (by
          obtain ⟨h1, h2, h3, h4⟩ := HS7.out.2.2.2 rfl
          refine ⟨?_, h2, fun u hu => ?_, HS7.out.1, HS7.out.2.1⟩
          · rw [HT.out, Ty.partss_push, h1, hJ.out.1]; omega
          · rw [HT.out] at hu
            rcases List.mem_append.1 hu with hu | hu
            · exact hJ.out.2.2.1 u hu
            · rw [List.mem_singleton.1 hu]; exact ⟨h3, h4⟩)
        clear hJ HT HS7
        go_wp2_with fail
        go_roundw
        case rel => exact ⟨i + 1, m7, by omega, by go_num, HN⟩
        case measure => simp [intOf]; omega
    · obtain rfl : kl = i := by omega
      have hd : decide ((kl : Int) < (kl : Int)) = false := by simp
      have htk : ks.take kl = ks := List.take_of_length_le (by rw [HK.out.1]; exact Nat.le_refl _)
      have HJ := Lib.hid hJ.out
      rw [htk] at HJ
      clear hJ hBr
      go_wp2_with fail
      go_ret
      refine ⟨false, mi, rfl, HJ.out.2.2.2.1, HS1.out.2.2.2.trans HJ.out.2.2.2.2, by have := HJ.out.2.1; omega, fun _ => ⟨?_, HJ.out.2.1, ?_, .mk _ _ _ _ (by rw [HK.out.2.2.2]; have := HM4.out.2; omega) fun t ht => (HJ.out.2.2.1 t ht).2⟩⟩
      · rw [Ty.parts, HJ.out.1, ← HM1.out]; omega
      · rw [Ty.depth]
        have := Ty.depths_le ks d1' fun t ht => (HJ.out.2.2.1 t ht).1
        have := HD.out
        omega
end Go.Proofs.Ytndhojnfjlkojaa
