/- types: the reference's Same. -/
import Derived.Test.YtndhojnfjlkojaaA
import Derived.Test.YtndhojnfjlkojaaTake
namespace Go.Proofs.Ytndhojnfjlkojaa
open Go.RowKit
set_option linter.unusedVariables false
set_option linter.unusedSimpArgs false
attribute [local go_sem] Oper.semAt_some
set_option maxRecDepth 20000 in
set_option maxHeartbeats 8000000 in
theorem rsame_any {F G : Nat → Prop} : ∀ (t u : Ty) (A : Option Addr) (c : Nat) (B : Option Addr) (d : Nat) (w : World), Ty.At F w A t.ks → t.ks.length ≤ c → c ≤ maxLen → Ty.At G w B u.ks →
    Calls Try.prog 14 #[t.val A c, u.val B d] w fun e w' => e = .returned (.bool (Ty.same t u)) ∧ Below w.heap.size w w' := Ty.ind fun k nm n ks ih u A c B d w hA hc hm hB => by
  obtain ⟨k', nm', n', ks'⟩ := u
  have hA : Ty.At F w A ks := hA
  have hB : Ty.At G w B ks' := hB
  have hc : ks.length ≤ c := hc
  show Calls Try.prog 14 #[.agg #[.int .u8 (k : Int), .string (str nm), .int .i64 n, .slice A ks.length c], .agg #[.int .u8 (k' : Int), .string (str nm'), .int .i64 n', .slice B ks'.length d]] w _
  obtain ⟨kl, hkl⟩ : ∃ kl, ks.length = kl := ⟨_, rfl⟩
  obtain ⟨ul, hul⟩ : ∃ ul, ks'.length = ul := ⟨_, rfl⟩
  rw [hkl] at hc
  rw [hkl, hul]
  obtain ⟨rv, hrv⟩ : ∃ rv, Ty.same (.node k nm n ks) (.node k' nm' n' ks') = rv := ⟨_, rfl⟩
  rw [hrv]
  rw [Ty.same] at hrv
  have HR := Lib.hid hrv
  have HK := Lib.hid (And.intro hkl (And.intro hul (And.intro hA (And.intro hB ih))))
  have hmx : kl ≤ 9223372036854775807 := by unfold maxLen at hm; omega
  clear hrv hkl hul hA hB ih hm hc
  by_cases e1 : k = k'
  case neg =>
    have HV : Hid (rv = false) := Lib.hid (by rw [← HR.out]; simp [e1])
    have q1 : ((k : Int) != (k' : Int)) = true := by unfold bne; simp; omega
    obtain ⟨w0, hw0⟩ : ∃ w0, (w.alloc (.cells #[.int .u8 (k : Int), .string (str nm), .int .i64 n, .slice A kl c] 24)).alloc (.cells #[.int .u8 (k' : Int), .string (str nm'), .int .i64 n', .slice B ul d] 24) = w0 := ⟨_, rfl⟩
    have hb0 : Below w.heap.size w w0 := by rw [← hw0]; exact ((Below.refl _ _).alloc (Nat.le_refl _) _).alloc (by rw [World.size_alloc]; omega) _
    have hB0 : Blk w0 w.heap.size 24 #[.int .u8 (k : Int), .string (str nm), .int .i64 n, .slice A kl c] := by rw [← hw0]; exact (Blk.new _ _ _).alloc _
    have hB1 : Blk w0 (w.heap.size + 1) 24 #[.int .u8 (k' : Int), .string (str nm'), .int .i64 n', .slice B ul d] := by
      have := Blk.new (w.alloc (.cells #[.int .u8 (k : Int), .string (str nm), .int .i64 n, .slice A kl c] 24)) 24 #[.int .u8 (k' : Int), .string (str nm'), .int .i64 n', .slice B ul d]
      rw [World.size_alloc] at this
      rw [← hw0]; exact this
    have d0 := hB0.cell 0
    have d1 := hB0.cell 1
    have d2 := hB0.cell 2
    have d3 := hB0.cell 3
    simp only [List.getElem?_toArray, List.getElem?_cons_zero, List.getElem?_cons_succ] at d0 d1 d2 d3
    have g0 := hB1.cell 0
    have g1 := hB1.cell 1
    have g2 := hB1.cell 2
    have g3 := hB1.cell 3
    simp only [List.getElem?_toArray, List.getElem?_cons_zero, List.getElem?_cons_succ] at g0 g1 g2 g3
    have HB0 := Lib.hid (And.intro hb0 (And.intro hB0 hB1))
    clear hb0 hB0 hB1
    go_enter Try.func14, Try.ntmps14
    go_upto_region 1 with fail
    (try rw [hw0])
    clear hw0
    go_wp2_with fail
    go_ret
    exact ⟨congrArg (fun b => Ending.returned (Value.bool b)) HV.out.symm, HB0.out.1⟩
  subst e1
  by_cases e2 : nm = nm'
  case neg =>
    have HV : Hid (rv = false) := Lib.hid (by rw [← HR.out]; simp [e2])
    have q2 : ((str nm).toList == (str nm').toList) = false := by rw [str_toList, str_toList]; simp [e2]
    obtain ⟨w0, hw0⟩ : ∃ w0, (w.alloc (.cells #[.int .u8 (k : Int), .string (str nm), .int .i64 n, .slice A kl c] 24)).alloc (.cells #[.int .u8 (k : Int), .string (str nm'), .int .i64 n', .slice B ul d] 24) = w0 := ⟨_, rfl⟩
    have hb0 : Below w.heap.size w w0 := by rw [← hw0]; exact ((Below.refl _ _).alloc (Nat.le_refl _) _).alloc (by rw [World.size_alloc]; omega) _
    have hB0 : Blk w0 w.heap.size 24 #[.int .u8 (k : Int), .string (str nm), .int .i64 n, .slice A kl c] := by rw [← hw0]; exact (Blk.new _ _ _).alloc _
    have hB1 : Blk w0 (w.heap.size + 1) 24 #[.int .u8 (k : Int), .string (str nm'), .int .i64 n', .slice B ul d] := by
      have := Blk.new (w.alloc (.cells #[.int .u8 (k : Int), .string (str nm), .int .i64 n, .slice A kl c] 24)) 24 #[.int .u8 (k : Int), .string (str nm'), .int .i64 n', .slice B ul d]
      rw [World.size_alloc] at this
      rw [← hw0]; exact this
    have d0 := hB0.cell 0
    have d1 := hB0.cell 1
    have d2 := hB0.cell 2
    have d3 := hB0.cell 3
    simp only [List.getElem?_toArray, List.getElem?_cons_zero, List.getElem?_cons_succ] at d0 d1 d2 d3
    have g0 := hB1.cell 0
    have g1 := hB1.cell 1
    have g2 := hB1.cell 2
    have g3 := hB1.cell 3
    simp only [List.getElem?_toArray, List.getElem?_cons_zero, List.getElem?_cons_succ] at g0 g1 g2 g3
    have HB0 := Lib.hid (And.intro hb0 (And.intro hB0 hB1))
    clear hb0 hB0 hB1
    go_enter Try.func14, Try.ntmps14
    go_upto_region 1 with fail
    (try rw [hw0])
    clear hw0
    go_wp2_with fail
    go_ret
    exact ⟨congrArg (fun b => Ending.returned (Value.bool b)) HV.out.symm, HB0.out.1⟩
  subst e2
  by_cases e3 : n = n'
  case neg =>
    have HV : Hid (rv = false) := Lib.hid (by rw [← HR.out]; simp [e3])
    have q3 : (n != n') = true := by unfold bne; simp [e3]
    obtain ⟨w0, hw0⟩ : ∃ w0, (w.alloc (.cells #[.int .u8 (k : Int), .string (str nm), .int .i64 n, .slice A kl c] 24)).alloc (.cells #[.int .u8 (k : Int), .string (str nm), .int .i64 n', .slice B ul d] 24) = w0 := ⟨_, rfl⟩
    have hb0 : Below w.heap.size w w0 := by rw [← hw0]; exact ((Below.refl _ _).alloc (Nat.le_refl _) _).alloc (by rw [World.size_alloc]; omega) _
    have hB0 : Blk w0 w.heap.size 24 #[.int .u8 (k : Int), .string (str nm), .int .i64 n, .slice A kl c] := by rw [← hw0]; exact (Blk.new _ _ _).alloc _
    have hB1 : Blk w0 (w.heap.size + 1) 24 #[.int .u8 (k : Int), .string (str nm), .int .i64 n', .slice B ul d] := by
      have := Blk.new (w.alloc (.cells #[.int .u8 (k : Int), .string (str nm), .int .i64 n, .slice A kl c] 24)) 24 #[.int .u8 (k : Int), .string (str nm), .int .i64 n', .slice B ul d]
      rw [World.size_alloc] at this
      rw [← hw0]; exact this
    have d0 := hB0.cell 0
    have d1 := hB0.cell 1
    have d2 := hB0.cell 2
    have d3 := hB0.cell 3
    simp only [List.getElem?_toArray, List.getElem?_cons_zero, List.getElem?_cons_succ] at d0 d1 d2 d3
    have g0 := hB1.cell 0
    have g1 := hB1.cell 1
    have g2 := hB1.cell 2
    have g3 := hB1.cell 3
    simp only [List.getElem?_toArray, List.getElem?_cons_zero, List.getElem?_cons_succ] at g0 g1 g2 g3
    have HB0 := Lib.hid (And.intro hb0 (And.intro hB0 hB1))
    clear hb0 hB0 hB1
    go_enter Try.func14, Try.ntmps14
    go_upto_region 1 with fail
    (try rw [hw0])
    clear hw0
    go_wp2_with fail
    go_ret
    exact ⟨congrArg (fun b => Ending.returned (Value.bool b)) HV.out.symm, HB0.out.1⟩
  subst e3
  by_cases e4 : kl = ul
  case neg =>
    have HV : Hid (rv = false) := Lib.hid (by
        rw [← HR.out]
        have hne : ¬ ks.length = ks'.length := by rw [HK.out.1, HK.out.2.1]; exact e4
        have hs : Ty.sames ks ks' = false := by
          cases h : Ty.sames ks ks' with
          | false => rfl
          | true => exact absurd (Ty.sames_len h) hne
        rw [hs]; simp)
    have q4 : ((kl : Int) != (ul : Int)) = true := by unfold bne; simp; omega
    obtain ⟨w0, hw0⟩ : ∃ w0, (w.alloc (.cells #[.int .u8 (k : Int), .string (str nm), .int .i64 n, .slice A kl c] 24)).alloc (.cells #[.int .u8 (k : Int), .string (str nm), .int .i64 n, .slice B ul d] 24) = w0 := ⟨_, rfl⟩
    have hb0 : Below w.heap.size w w0 := by rw [← hw0]; exact ((Below.refl _ _).alloc (Nat.le_refl _) _).alloc (by rw [World.size_alloc]; omega) _
    have hB0 : Blk w0 w.heap.size 24 #[.int .u8 (k : Int), .string (str nm), .int .i64 n, .slice A kl c] := by rw [← hw0]; exact (Blk.new _ _ _).alloc _
    have hB1 : Blk w0 (w.heap.size + 1) 24 #[.int .u8 (k : Int), .string (str nm), .int .i64 n, .slice B ul d] := by
      have := Blk.new (w.alloc (.cells #[.int .u8 (k : Int), .string (str nm), .int .i64 n, .slice A kl c] 24)) 24 #[.int .u8 (k : Int), .string (str nm), .int .i64 n, .slice B ul d]
      rw [World.size_alloc] at this
      rw [← hw0]; exact this
    have d0 := hB0.cell 0
    have d1 := hB0.cell 1
    have d2 := hB0.cell 2
    have d3 := hB0.cell 3
    simp only [List.getElem?_toArray, List.getElem?_cons_zero, List.getElem?_cons_succ] at d0 d1 d2 d3
    have g0 := hB1.cell 0
    have g1 := hB1.cell 1
    have g2 := hB1.cell 2
    have g3 := hB1.cell 3
    simp only [List.getElem?_toArray, List.getElem?_cons_zero, List.getElem?_cons_succ] at g0 g1 g2 g3
    have HB0 := Lib.hid (And.intro hb0 (And.intro hB0 hB1))
    clear hb0 hB0 hB1
    go_enter Try.func14, Try.ntmps14
    go_upto_region 1 with fail
    (try rw [hw0])
    clear hw0
    go_wp2_with fail
    go_ret
    exact ⟨congrArg (fun b => Ending.returned (Value.bool b)) HV.out.symm, HB0.out.1⟩
  subst e4
  have HRS : Hid (Ty.sames ks ks' = rv) := Lib.hid (by rw [← HR.out]; simp)
  have hll : ks.length = ks'.length := by rw [HK.out.1, HK.out.2.1]
  have HRV : Hid (((∀ (r : Nat) (t u : Ty), ks[r]? = some t → ks'[r]? = some u → Ty.same t u = true) → rv = true) ∧ ∀ (r : Nat) (t u : Ty), ks[r]? = some t → ks'[r]? = some u → Ty.same t u = false → rv = false) := Lib.hid ⟨fun h => by rw [← HRS.out]; exact (Ty.sames_iff hll).2 h, fun r t u ht hu hf => by
    cases hv : rv with
    | false => rfl
    | true =>
      rw [hv] at HRS
      have := (Ty.sames_iff hll).1 HRS.out r t u ht hu
      rw [hf] at this; cases this⟩
  clear hll HRS HR
  obtain ⟨w0, hw0⟩ : ∃ w0, (w.alloc (.cells #[.int .u8 (k : Int), .string (str nm), .int .i64 n, .slice A kl c] 24)).alloc (.cells #[.int .u8 (k : Int), .string (str nm), .int .i64 n, .slice B kl d] 24) = w0 := ⟨_, rfl⟩
  have hb0 : Below w.heap.size w w0 := by rw [← hw0]; exact ((Below.refl _ _).alloc (Nat.le_refl _) _).alloc (by rw [World.size_alloc]; omega) _
  have hB0 : Blk w0 w.heap.size 24 #[.int .u8 (k : Int), .string (str nm), .int .i64 n, .slice A kl c] := by rw [← hw0]; exact (Blk.new _ _ _).alloc _
  have hB1 : Blk w0 (w.heap.size + 1) 24 #[.int .u8 (k : Int), .string (str nm), .int .i64 n, .slice B kl d] := by
    have := Blk.new (w.alloc (.cells #[.int .u8 (k : Int), .string (str nm), .int .i64 n, .slice A kl c] 24)) 24 #[.int .u8 (k : Int), .string (str nm), .int .i64 n, .slice B kl d]
    rw [World.size_alloc] at this
    rw [← hw0]; exact this
  have d0 := hB0.cell 0
  have d1 := hB0.cell 1
  have d2 := hB0.cell 2
  have d3 := hB0.cell 3
  simp only [List.getElem?_toArray, List.getElem?_cons_zero, List.getElem?_cons_succ] at d0 d1 d2 d3
  have g0 := hB1.cell 0
  have g1 := hB1.cell 1
  have g2 := hB1.cell 2
  have g3 := hB1.cell 3
  simp only [List.getElem?_toArray, List.getElem?_cons_zero, List.getElem?_cons_succ] at g0 g1 g2 g3
  have HB0 := Lib.hid (And.intro hb0 (And.intro hB0 hB1))
  clear hb0 hB0 hB1
  go_enter Try.func14, Try.ntmps14
  go_upto_region 1 with fail
  (try rw [hw0])
  clear hw0
  go_wp2_with fail
  clear d0 d1 d2 g0 g1 g2 d3 g3
  go_loopw [5] (fun iv wr => ∃ i : Nat, i ≤ kl ∧ iv = .int .i64 (i : Int) ∧ Hid (Below w0.heap.size w0 wr ∧ ∀ (r : Nat) (t u : Ty), r < i → ks[r]? = some t → ks'[r]? = some u → Ty.same t u = true)) (fun iv _ => kl - (intOf iv).toNat)
  case atStart => exact ⟨0, Nat.zero_le _, rfl, Lib.hid ⟨Below.refl _ _, fun r t u h => absurd h (Nat.not_lt_zero r)⟩⟩
  case round =>
    obtain ⟨i, hi, rfl, hJ⟩ := hrel
    have hBr := HB0.out.2.1.below hJ.out.1 HB0.out.2.1.lt
    have hBr1 := HB0.out.2.2.below hJ.out.1 HB0.out.2.2.lt
    have d3 := hBr.cell 3
    have g3 := hBr1.cell 3
    simp only [List.getElem?_toArray, List.getElem?_cons_zero, List.getElem?_cons_succ] at d3 g3
    by_cases hli : i < kl
    · have hd : decide ((i : Int) < (kl : Int)) = true := by simpa using hli
      obtain ⟨t, ht⟩ : ∃ t, ks[i]? = some t := ⟨_, List.getElem?_eq_getElem (by rw [HK.out.1]; exact hli)⟩
      obtain ⟨u, hu⟩ : ∃ u, ks'[i]? = some u := ⟨_, List.getElem?_eq_getElem (by rw [HK.out.2.1]; exact hli)⟩
      obtain ⟨b, off, A', c', rfl, _, hbl, z0, z1, z2, z3, _, hlc, hcm, hAt⟩ := ((HK.out.2.2.1.bel HB0.out.1).bel hJ.out.1).get ht
      obtain ⟨b', off', B', d', rfl, _, hbl', y0, y1, y2, y3, _, _, _, hBt⟩ := ((HK.out.2.2.2.1.bel HB0.out.1).bel hJ.out.1).get hu
      have HC := HK.out.2.2.2.2 t (List.mem_of_getElem? ht) u A' c' B' d' wr.drew (hAt.bel (Below.refl _ wr).drew) hlc hcm (hBt.bel (Below.refl _ wr).drew)
      unfold Ty.val at HC
      obtain ⟨tl, htl⟩ : ∃ tl, t.ks.length = tl := ⟨_, rfl⟩
      obtain ⟨ul', hul'⟩ : ∃ ul', u.ks.length = ul' := ⟨_, rfl⟩
      rw [htl] at HC z3
      rw [hul'] at HC y3
      obtain ⟨rt, hrt⟩ : ∃ rt, Ty.same t u = rt := ⟨_, rfl⟩
      rw [hrt] at HC
      replace HC := Lib.hid HC
      have HT := Lib.hid (And.intro ht (And.intro hu hrt))
      have hS0 := And.intro d3 (And.intro g3 (And.intro z0 (And.intro z1 (And.intro z2 (And.intro z3 (And.intro y0 (And.intro y1 (And.intro y2 y3))))))))
      clear ht hu hAt hBt hBr hBr1 hrt hlc hcm htl hul' hbl hbl'
      go_upto_region 6 with fail
      clear d3 g3 z0 z1 z2 z3 y0 y1 y2 y3
      refine wp_region_held_drew (S := (fun W => W.cell? ⟨w.heap.size, 3, none⟩ = some (.slice (some ⟨b, off, none⟩) kl c) ∧ W.cell? ⟨w.heap.size + 1, 3, none⟩ = some (.slice (some ⟨b', off', none⟩) kl d) ∧ W.cell? ⟨b, off + i * 4, none⟩ = some (.int .u8 (t.k : Int)) ∧ W.cell? ⟨b, off + i * 4 + 1, none⟩ = some (.string (str t.nm)) ∧ W.cell? ⟨b, off + i * 4 + 2, none⟩ = some (.int .i64 t.n) ∧ W.cell? ⟨b, off + i * 4 + 3, none⟩ = some (.slice A' tl c') ∧ W.cell? ⟨b', off' + i * 4, none⟩ = some (.int .u8 (u.k : Int)) ∧ W.cell? ⟨b', off' + i * 4 + 1, none⟩ = some (.string (str u.nm)) ∧ W.cell? ⟨b', off' + i * 4 + 2, none⟩ = some (.int .i64 u.n) ∧ W.cell? ⟨b', off' + i * 4 + 3, none⟩ = some (.slice B' ul' d'))) (by kernel_rfl) hS0 (fun hHeld => ?_)
      refine takeY 0 (some 41) rfl rfl (by kernel_rfl) (by kernel_rfl) (by kernel_rfl) (fun _ _ _ h => h) (by rfl) (v := _) (by (intro _ hSw; (try dsimp only at hSw); go_simp; try with_reducible rfl)) hHeld ?_
      simp only [Act.put, List.setIfInBounds_toArray, List.set_cons_zero, List.set_cons_succ]
      refine takeY 1 (some 42) rfl rfl (by kernel_rfl) (by kernel_rfl) (by kernel_rfl) (fun _ _ _ h => h) (by rfl) (v := _) (by (intro _ hSw; (try dsimp only at hSw); go_simp; try with_reducible rfl)) hHeld ?_
      simp only [Act.put, List.setIfInBounds_toArray, List.set_cons_zero, List.set_cons_succ]
      refine takeY 2 (some 43) rfl rfl (by kernel_rfl) (by kernel_rfl) (by kernel_rfl) (fun _ _ _ h => h) (by rfl) (v := _) (by (intro _ hSw; (try dsimp only at hSw); go_simp; try with_reducible rfl)) hHeld ?_
      simp only [Act.put, List.setIfInBounds_toArray, List.set_cons_zero, List.set_cons_succ]
      refine takeY 3 (some 44) rfl rfl (by kernel_rfl) (by kernel_rfl) (by kernel_rfl) (fun _ _ _ h => h) (by rfl) (v := _) (by (intro _ hSw; (try dsimp only at hSw); go_simp; try with_reducible rfl)) hHeld ?_
      simp only [Act.put, List.setIfInBounds_toArray, List.set_cons_zero, List.set_cons_succ]
      refine takeY 4 (some 45) rfl rfl (by kernel_rfl) (by kernel_rfl) (by kernel_rfl) (fun _ _ _ h => h) (by rfl) (v := _) (by (intro _ hSw; (try dsimp only at hSw); go_simp; try with_reducible rfl)) hHeld ?_
      simp only [Act.put, List.setIfInBounds_toArray, List.set_cons_zero, List.set_cons_succ]
      refine takeY 5 (some 46) rfl rfl (by kernel_rfl) (by kernel_rfl) (by kernel_rfl) (fun _ _ _ h => h) (by rfl) (v := _) (by (intro _ hSw; (try dsimp only at hSw); go_simp; try with_reducible rfl)) hHeld ?_
      simp only [Act.put, List.setIfInBounds_toArray, List.set_cons_zero, List.set_cons_succ]
      refine takeY 6 (some 47) rfl rfl (by kernel_rfl) (by kernel_rfl) (by kernel_rfl) (fun _ _ _ h => h) (by rfl) (v := _) (by (intro _ hSw; (try dsimp only at hSw); go_simp; try with_reducible rfl)) hHeld ?_
      simp only [Act.put, List.setIfInBounds_toArray, List.set_cons_zero, List.set_cons_succ]
      refine takeY 7 (some 48) rfl rfl (by kernel_rfl) (by kernel_rfl) (by kernel_rfl) (fun _ _ _ h => h) (by rfl) (v := _) (by (intro _ hSw; (try dsimp only at hSw); go_simp; try with_reducible rfl)) hHeld ?_
      simp only [Act.put, List.setIfInBounds_toArray, List.set_cons_zero, List.set_cons_succ]
      refine takeY 8 (some 49) rfl rfl (by kernel_rfl) (by kernel_rfl) (by kernel_rfl) (fun _ _ _ h => h) (by rfl) (v := _) (by (intro _ hSw; (try dsimp only at hSw); go_simp; try with_reducible rfl)) hHeld ?_
      simp only [Act.put, List.setIfInBounds_toArray, List.set_cons_zero, List.set_cons_succ]
      refine takeY 9 (some 50) rfl rfl (by kernel_rfl) (by kernel_rfl) (by kernel_rfl) (fun _ _ _ h => h) (by rfl) (v := _) (by (intro _ hSw; (try dsimp only at hSw); go_simp; try with_reducible rfl)) hHeld ?_
      simp only [Act.put, List.setIfInBounds_toArray, List.set_cons_zero, List.set_cons_succ]
      refine wpAnyH_ready (rs := [10]) (by kernel_rfl) (by simp) ?_
      refine AllReadyH.cons rfl (fun K hK => ?_) AllReadyH.nil
      clear hHeld
      go_simp
      go_wp2_with (go_at_call 14; refine Calls.mono HC.out ?_; rintro e w7 ⟨rfl, hb7⟩; have HB7 : Hid (Below wr.heap.size wr w7) := Lib.hid ((Below.refl _ wr).drew.trans hb7); clear hb7)
      refine hK.out _ _ ⟨(HB7.out.cell (World.block_lt_of_cell? _ _ (hS0.1))).trans hS0.1, (HB7.out.cell (World.block_lt_of_cell? _ _ (hS0.2.1))).trans hS0.2.1, (HB7.out.cell (World.block_lt_of_cell? _ _ (hS0.2.2.1))).trans hS0.2.2.1, (HB7.out.cell (World.block_lt_of_cell? _ _ (hS0.2.2.2.1))).trans hS0.2.2.2.1, (HB7.out.cell (World.block_lt_of_cell? _ _ (hS0.2.2.2.2.1))).trans hS0.2.2.2.2.1, (HB7.out.cell (World.block_lt_of_cell? _ _ (hS0.2.2.2.2.2.1))).trans hS0.2.2.2.2.2.1, (HB7.out.cell (World.block_lt_of_cell? _ _ (hS0.2.2.2.2.2.2.1))).trans hS0.2.2.2.2.2.2.1, (HB7.out.cell (World.block_lt_of_cell? _ _ (hS0.2.2.2.2.2.2.2.1))).trans hS0.2.2.2.2.2.2.2.1, (HB7.out.cell (World.block_lt_of_cell? _ _ (hS0.2.2.2.2.2.2.2.2.1))).trans hS0.2.2.2.2.2.2.2.2.1, (HB7.out.cell (World.block_lt_of_cell? _ _ (hS0.2.2.2.2.2.2.2.2.2))).trans hS0.2.2.2.2.2.2.2.2.2⟩ (fun hHeld => ?_)
      clear hK K
      refine takeY 11 (some 52) rfl rfl (by kernel_rfl) (by kernel_rfl) (by kernel_rfl) (fun _ _ _ h => h) (by rfl) (v := _) (by (intro _ hSw; (try dsimp only at hSw); go_simp; try with_reducible rfl)) hHeld ?_
      simp only [Act.put, List.setIfInBounds_toArray, List.set_cons_zero, List.set_cons_succ]
      refine wpAnyH_done (by kernel_rfl) ?_ _
      have HB8 := Lib.hid (hJ.out.1.trans (HB7.out.mono hJ.out.1.size))
      clear hHeld hS0 HC
      cases rt with
      | true =>
        have HN : Hid (Below w0.heap.size w0 w7 ∧ ∀ (r : Nat) (t u : Ty), r < i + 1 → ks[r]? = some t → ks'[r]? = some u → Ty.same t u = true) := Lib.hid ⟨HB8.out, fun r t' u' hr ht' hu' => by
          by_cases e : r = i
          · subst e; rw [HT.out.1] at ht'; rw [HT.out.2.1] at hu'; cases ht'; cases hu'; exact HT.out.2.2
          · exact hJ.out.2 r t' u' (by omega) ht' hu'⟩
        clear hJ HT HB7 HB8
        go_wp2_with fail
        go_roundw
        case rel => exact ⟨i + 1, by omega, by go_num, HN⟩
        case measure => simp [intOf]; omega
      | false =>
        have HV : Hid (rv = false) := Lib.hid (HRV.out.2 i t u HT.out.1 HT.out.2.1 HT.out.2.2)
        clear hJ HT
        go_wp2_with fail
        go_ret
        exact ⟨congrArg (fun b => Ending.returned (Value.bool b)) HV.out.symm, HB0.out.1.trans (HB8.out.mono HB0.out.1.size)⟩
    · obtain rfl : kl = i := by omega
      have hd : decide ((kl : Int) < (kl : Int)) = false := by simp
      have HV : Hid (rv = true) := Lib.hid (HRV.out.1 fun r t u ht hu => hJ.out.2 r t u (by have := (List.getElem?_eq_some_iff.1 ht).1; have := HK.out.1; omega) ht hu)
      have HJ := Lib.hid (HB0.out.1.trans (hJ.out.1.mono HB0.out.1.size))
      clear hJ hBr hBr1
      go_wp2_with fail
      go_ret
      exact ⟨congrArg (fun b => Ending.returned (Value.bool b)) HV.out.symm, HJ.out⟩
end Go.Proofs.Ytndhojnfjlkojaa
