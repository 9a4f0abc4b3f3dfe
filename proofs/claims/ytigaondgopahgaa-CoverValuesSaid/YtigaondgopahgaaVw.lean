/- cover: CoverValues. -/
import Derived.Test.YtigaondgopahgaaVr
namespace Go.Proofs.Ytigaondgopahgaa
open Go.RowKit Ty
set_option linter.unusedVariables false
set_option linter.unusedSimpArgs false
attribute [local go_sem] Oper.semAt_some
/-- All rows of values, so far. -/
structure AllI (w wr : World) (τ : List So) (A : Option Addr) (n c : Nat) (es : List Ve) : Prop where
  own : VO (fun b => w.heap.size ≤ b) w.heap.size wr (.slice A n c) es
  len : es.length = n
  map : es.map Ve.t = (allF τ).map rowV
  nz : NZ es
  bel : Below w.heap.size w wr
/-- The next ones, so far. -/
structure NxI (w wi wr : World) (L : List (List Vl)) (V : List Vl) (k q : Nat) (A : Option Addr) (n c : Nat) (es : List Ve) : Prop where
  own : VO (fun b => w.heap.size ≤ b) wi.heap.size wr (.slice A n c) es
  len : es.length = n
  map : es.map Ve.t = (part L V k q).map rowV
  nz : NZ es
  bel : Below wi.heap.size wi wr
theorem map_get {es : List Ve} {L : List (List Vl)} (h : es.map Ve.t = L.map rowV) {k : Nat} {a : List Vl} (ha : L[k]? = some a) : ∃ e, es[k]? = some e ∧ e.t = rowV a := by
  have h2 : (es.map Ve.t)[k]? = some (rowV a) := by rw [h, List.getElem?_map, ha]; rfl
  rw [List.getElem?_map] at h2
  cases he : es[k]? with
  | none => rw [he] at h2; cases h2
  | some e => rw [he] at h2; exact ⟨e, rfl, by simpa using h2⟩
theorem map_len {es : List Ve} {L : List (List Vl)} (h : es.map Ve.t = L.map rowV) : es.length = L.length := by
  have := congrArg List.length h
  simpa using this
theorem sigma_get {kb : List UInt8} {i : Nat} {c : UInt8} (h : kb[i]? = some c) : (kb.map fun c => soOf c.toNat)[i]? = some (soOf c.toNat) := by rw [List.getElem?_map, h]; rfl
theorem allF_take {σ : List So} {i : Nat} {s : So} (h : σ[i]? = some s) : allF (σ.take (i + 1)) = (allF (σ.take i)).flatMap fun a => (vals s).map fun x => a ++ [x] := by
  rw [List.take_add_one, h]
  exact allF_snoc _ _
theorem allF_small {σ : List So} (h : σ.length ≤ 3) : (allF σ).length ≤ 64 := by
  have h1 := allF_len σ
  have h2 : 4 ^ σ.length ≤ 4 ^ 3 := Nat.pow_le_pow_right (by decide) h
  have h3 : 4 ^ 3 = 64 := by decide
  omega
theorem vals_kids {s : So} {v : Vl} (h : v ∈ vals s) : v.ks.length ≤ 1 := by
  have : (vals s).all (fun v => decide (v.ks.length ≤ 1)) = true := by cases s <;> decide
  exact of_decide_eq_true (List.all_eq_true.1 this v h)
set_option maxRecDepth 100000 in
set_option maxHeartbeats 16000000 in
theorem vals_law (A0 : Option Addr) (n c0 : Nat) (kb : List UInt8) (R0 : Option Addr) (m d : Nat) (X : Nat → Nat → Nat) (w : World) (hk : Bytes w A0 kb) (hn : kb.length = n) (hn1 : n ≤ maxLen) (hX : R4 w R0 m X) (hm : m ≤ maxLen) :
    Calls Try.prog 4 #[.slice A0 n c0, .slice R0 m d] w fun e w' => e = .returned (.bool true) ∧ Below w.heap.size w w' := by
  unfold maxLen at hn1 hm
  have HK := Lib.hid (And.intro hk (And.intro hn hX))
  clear hk hn hX
  by_cases hbad : n < 2 ∨ 4 < n ∨ 12 < m
  · have hb0 : Hid (Below w.heap.size w w) := Lib.hid (Below.refl _ _)
    by_cases h1 : n < 2
    · have hd1 : decide ((n : Int) < 2) = true := by simp; omega
      clear hbad
      go_enter Try.func4, Try.ntmps4
      go_wp2_with fail
      refine (works_any w).mono ?_
      rintro e wz ⟨rfl, hbz⟩
      have HBZ := Lib.hid hbz
      clear hbz
      go_wp2_with fail
      go_ret
      exact ⟨rfl, HBZ.out⟩
    · have hd1 : decide ((n : Int) < 2) = false := by simp; omega
      by_cases h2 : 4 < n
      · have hd2 : decide ((n : Int) > 4) = true := by simp; omega
        have hd2' : decide ((4 : Int) < (n : Int)) = true := by simp; omega
        clear hbad
        go_enter Try.func4, Try.ntmps4
        go_wp2_with fail
        refine (works_any w).mono ?_
        rintro e wz ⟨rfl, hbz⟩
        have HBZ := Lib.hid hbz
        clear hbz
        go_wp2_with fail
        go_ret
        exact ⟨rfl, HBZ.out⟩
      · have hd2 : decide ((n : Int) > 4) = false := by simp; omega
        have hd2' : decide ((4 : Int) < (n : Int)) = false := by simp; omega
        have hd3 : decide ((m : Int) > 12) = true := by simp; omega
        have hd3' : decide ((12 : Int) < (m : Int)) = true := by simp; omega
        clear hbad
        go_enter Try.func4, Try.ntmps4
        go_wp2_with fail
        refine (works_any w).mono ?_
        rintro e wz ⟨rfl, hbz⟩
        have HBZ := Lib.hid hbz
        clear hbz
        go_wp2_with fail
        go_ret
        exact ⟨rfl, HBZ.out⟩
  · have h2n : 2 ≤ n := by omega
    have hn4 : n ≤ 4 := by omega
    have hm12 : m ≤ 12 := by omega
    have hd1 : decide ((n : Int) < 2) = false := by simp; omega
    have hd2 : decide ((n : Int) > 4) = false := by simp; omega
    have hd2' : decide ((4 : Int) < (n : Int)) = false := by simp; omega
    have hd3 : decide ((m : Int) > 12) = false := by simp; omega
    have hd3' : decide ((12 : Int) < (m : Int)) = false := by simp; omega
    clear hbad hn1 hm
    obtain ⟨σ, hσ⟩ : ∃ σ, (kb.map fun c => soOf c.toNat) = σ := ⟨_, rfl⟩
    have hσl : σ.length = n := by rw [← hσ, List.length_map, HK.out.2.1]
    have HS := Lib.hid (And.intro hσ hσl)
    clear hσ hσl
    obtain ⟨w1, hw1⟩ : ∃ W, w.alloc (.cells #[.string ⟨#[]⟩, .int .i64 0, .slice none 0 0] 36) = W := ⟨_, rfl⟩
    have hb1 : Below w.heap.size w w1 := by rw [← hw1]; exact (Below.refl _ _).alloc (Nat.le_refl _) _
    have hB1 : Blk w1 w.heap.size 36 #[.string ⟨#[]⟩, .int .i64 0, .slice none 0 0] := by rw [← hw1]; exact Blk.new _ _ _
    have HA0 : Hid (AllI w w1 [] (some ⟨w.heap.size, 0, none⟩) 1 1 [vE0 (rowV [])]) := Lib.hid ⟨VO.one hB1 (Nat.le_refl _), rfl, rfl, (fun e he _ => by rw [List.mem_singleton.1 he]; rfl), hb1⟩
    have HW := Lib.hid hw1
    clear hb1 hB1 hw1
    go_enter Try.func4, Try.ntmps4
    go_upto_region 5 with fail
    (try rw [HW.out])
    clear HW hd1 hd2 hd2' hd3 hd3'
    go_wp2_with fail
    go_loopw [6, 7] (fun v6 v7 wr => ∃ (i : Nat) (A6 : Option Addr) (n6 c6 : Nat), i ≤ n ∧ v7 = .int .i64 (i : Int) ∧ v6 = .slice A6 n6 c6 ∧ Hid (∃ es, AllI w wr (σ.take i) A6 n6 c6 es)) (fun _ v7 _ => n - (intOf v7).toNat)
    case atStart => exact ⟨0, _, _, _, Nat.zero_le _, rfl, rfl, Lib.hid ⟨_, HA0.out⟩⟩
    case round =>
      obtain ⟨i, A6, n6, c6, hi, rfl, rfl, HI⟩ := hrel
      obtain ⟨w6, rfl⟩ : ∃ v, v = wr := ⟨_, rfl⟩
      by_cases hli : i < n
      · have hd : decide ((i : Int) < (n : Int)) = true := by simpa using hli
        obtain ⟨kc, hkc⟩ : ∃ kc, kb[i]? = some kc := ⟨_, List.getElem?_eq_getElem (by rw [HK.out.2.1]; exact hli)⟩
        obtain ⟨es6, hE6⟩ := HI.out
        have hBy := HK.out.1.below hE6.bel
        obtain ⟨b0, o0, e0, _, z0⟩ := hBy i kc hkc
        obtain ⟨kn, hkn⟩ : ∃ kn, kc.toNat = kn := ⟨_, rfl⟩
        have hk256 : kn < 256 := by rw [← hkn]; exact kc.toNat_lt
        rw [hkn] at z0
        subst e0
        have HI6 := Lib.hid (And.intro hE6 (And.intro hkc hkn))
        have HVC := Lib.hid (values_any kn hk256 w6)
        clear hE6 hkc hBy hkn HI
        go_wp2_with fail
        refine HVC.out.mono ?_
        rintro e wi ⟨A9, n9, c9, rfl, hV9, hb9⟩
        have hVs := vals_len (soOf kn)
        obtain ⟨V, hV⟩ : ∃ V, vals (soOf kn) = V := ⟨_, rfl⟩
        rw [hV] at hV9 hVs
        have HV : Hid (VAt (fun b => w.heap.size ≤ b ∧ b < wi.heap.size) wi A9 n9 c9 V ∧ V.length ≤ 4 ∧ V = vals (soOf kn) ∧ Below w6.heap.size w6 wi ∧ Below w.heap.size w wi) := Lib.hid ⟨⟨hV9.len, hV9.le, hV9.cap, hV9.at_.bnd.mono fun b hb => ⟨Nat.le_trans HI6.out.1.bel.size hb.1, hb.2⟩⟩, hVs, hV.symm, hb9, HI6.out.1.bel.trans (hb9.mono HI6.out.1.bel.size)⟩
        obtain ⟨L, hL⟩ : ∃ L, allF (σ.take i) = L := ⟨_, rfl⟩
        have HL : Hid (allF (σ.take i) = L ∧ L.length = n6 ∧ n6 ≤ 64 ∧ n9 = V.length ∧ (∀ e ∈ es6, e.t.ks.length ≤ 4)) := Lib.hid (by
          have h1 := map_len HI6.out.1.map
          rw [HI6.out.1.len, hL] at h1
          have h3 : (σ.take i).length = i := by rw [List.length_take, HS.out.2]; omega
          have h2 := allF_small (σ := σ.take i) (by omega)
          rw [hL] at h2
          refine ⟨hL, h1.symm, by omega, hV9.len.symm, fun e he => ?_⟩
          have : e.t ∈ (allF (σ.take i)).map rowV := by rw [← HI6.out.1.map]; exact List.mem_map.2 ⟨e, he, rfl⟩
          obtain ⟨a, ha, hae⟩ := List.mem_map.1 this
          rw [← hae]
          show a.length ≤ 4
          rw [((allF_mem _ a).1 ha).len, h3]
          omega)
        clear hV9 hb9 hVs hV hL HVC z0
        have hn9x : n9 ≤ 9223372036854775807 := by have := HL.out; have := HV.out.2.1; omega
        have hn6x : n6 ≤ 9223372036854775807 := by have := HL.out; omega
        go_wp2_with fail
        go_loopw [8, 10] (fun v8 v10 wk => ∃ (k : Nat) (A8 : Option Addr) (n8 c8 : Nat), k ≤ n6 ∧ v10 = .int .i64 (k : Int) ∧ v8 = .slice A8 n8 c8 ∧ Hid (∃ es, NxI w wi wk L V k 0 A8 n8 c8 es)) (fun _ v10 _ => n6 - (intOf v10).toNat)
        case atStart => exact ⟨0, none, 0, 0, Nat.zero_le _, rfl, rfl, Lib.hid ⟨[], VO.nil _ _ _, rfl, rfl, (fun e he => by cases he), Below.refl _ _⟩⟩
        case round =>
          obtain ⟨k, A8, n8, c8, hk6, rfl, rfl, HN8⟩ := hrel
          obtain ⟨wk, rfl⟩ : ∃ v, v = wr := ⟨_, rfl⟩
          by_cases hlk : k < n6
          · have hdk : decide ((k : Int) < (n6 : Int)) = true := by simpa using hlk
            go_wp2_with fail
            go_loopw [8, 11] (fun v8 v11 wq => ∃ (q : Nat) (A8 : Option Addr) (n8 c8 : Nat), q ≤ n9 ∧ v11 = .int .i64 (q : Int) ∧ v8 = .slice A8 n8 c8 ∧ Hid (∃ es, NxI w wi wq L V k q A8 n8 c8 es)) (fun _ v11 _ => n9 - (intOf v11).toNat)
            case atStart => exact ⟨0, A8, n8, c8, Nat.zero_le _, rfl, rfl, HN8⟩
            case round =>
              obtain ⟨q, A8, n8, c8, hq9, rfl, rfl, HQ8⟩ := hrel
              obtain ⟨wq, rfl⟩ : ∃ v, v = wr := ⟨_, rfl⟩
              by_cases hlq : q < n9
              · have hdq : decide ((q : Int) < (n9 : Int)) = true := by simpa using hlq
                obtain ⟨es8, hN8⟩ := HQ8.out
                obtain ⟨a, ha⟩ : ∃ a, L[k]? = some a := ⟨_, List.getElem?_eq_getElem (by rw [HL.out.2.1]; exact hlk)⟩
                obtain ⟨ek, hek, het⟩ := map_get (by rw [HI6.out.1.map, HL.out.1]) ha
                obtain ⟨x, hx⟩ : ∃ x, V[q]? = some x := ⟨_, List.getElem?_eq_getElem (by rw [← HL.out.2.2.2.1]; exact hlq)⟩
                have hbq := HV.out.2.2.2.1.trans (hN8.bel.mono HV.out.2.2.2.1.size)
                have hO6 := (HI6.out.1.own).below hbq
                obtain ⟨g6, rfl⟩ := hO6.form (by omega)
                have z2 := hO6.cells hek 2 _ (by decide) rfl
                have hV9 := HV.out.1.bel hN8.bel
                obtain ⟨b9, o9, Ax, cx, rfl, _, _, y0, y1, y2, hok, hlx, hcx, hAx⟩ := hV9.at_.get hx
                obtain ⟨xl, hxl⟩ : ∃ xl, x.ks.length = xl := ⟨_, rfl⟩
                obtain ⟨kl, hkl⟩ : ∃ kl, ek.t.ks.length = kl := ⟨_, rfl⟩
                rw [hkl] at z2
                rw [hxl] at y2
                have he : ek.in_ (fun b => w.heap.size ≤ b ∧ b < wi.heap.size) wq := by
                  have h1 := HI6.out.1.own.kids ek (List.mem_of_getElem? hek)
                  have h2 : ek.in_ (fun b => w.heap.size ≤ b ∧ b < w6.heap.size) w6 := h1.bnd.mono fun b hb => ⟨hb.1.1, hb.2⟩
                  exact (h2.bel hbq).mono fun b hb => ⟨hb.1, Nat.lt_of_lt_of_le hb.2 HV.out.2.2.2.1.size⟩
                obtain ⟨A1, c1, u1, hr1, hv1, hrest⟩ := vals_step (x := ⟨x, Ax, cx⟩) (kl := kl) (xl := xl) HV.out.2.2.2.2.size hN8.bel.size hN8.own hN8.len (by
                  have h1 := map_len (L := part L V k q) hN8.map
                  have h2 := part_len (L := L) (V := V) (k := k) (q := q) HV.out.2.1 (by rw [← HL.out.2.2.2.1]; omega)
                  have := hN8.len
                  have := HL.out
                  omega) he (HI6.out.1.nz ek (List.mem_of_getElem? hek)) hkl (by rw [← hkl]; exact HL.out.2.2.2.2 ek (List.mem_of_getElem? hek)) ⟨hAx, hok, hlx, hcx⟩ hxl
                obtain ⟨u2, hu2⟩ : ∃ W, u1.alloc (.cells #[.string (str x.nm), .int .i64 x.n, .slice Ax xl cx] 36) = W := ⟨_, rfl⟩
                obtain ⟨A3, c3, u3, hr3, hz3, hrest3⟩ := hrest u2 hu2
                obtain ⟨u4, hu4⟩ : ∃ W, u3.alloc (.cells #[.string ⟨#[]⟩, .int .i64 0, .slice A3 (kl + 1) c3] 36) = W := ⟨_, rfl⟩
                obtain ⟨A5, c5, u5, hr5, hO5, hb5⟩ := hrest3 u4 hu4
                have y0' := (hv1.cell (p := ⟨b9, o9 + q * 3, none⟩) (World.block_lt_of_cell? _ _ y0)).trans y0
                have y1' := (hv1.cell (p := ⟨b9, o9 + q * 3 + 1, none⟩) (World.block_lt_of_cell? _ _ y1)).trans y1
                have y2' := (hv1.cell (p := ⟨b9, o9 + q * 3 + 2, none⟩) (World.block_lt_of_cell? _ _ y2)).trans y2
                have HN : Hid (∃ es, NxI w wi u5 L V k (q + 1) A5 (n8 + 1) c5 es) := Lib.hid ⟨_, hO5, by rw [List.length_append, hN8.len]; rfl, by
                  rw [List.map_append, hN8.map, part_q ha hx, List.map_append, het]
                  rfl, (fun e he h => by
                    rcases List.mem_append.1 he with he | he
                    · exact hN8.nz e he h
                    · rw [List.mem_singleton.1 he] at h ⊢; exact hz3 h), hN8.bel.trans hb5⟩
                have HR := Lib.hid (And.intro hr1 (And.intro hu2 (And.intro hr3 (And.intro hu4 hr5))))
                clear hN8 ha hek het hx hbq hO6 hV9 y0 y1 y2 hok hlx hcx hAx hxl hkl he hr1 hv1 hrest hu2 hr3 hz3 hrest3 hu4 hr5 hO5 hb5 HQ8
                have hrun := HR.out.1
                go_upto_region 18 with (at_builtin; refine wpList_app rfl _ _ 34 rfl _ _ _ _ rfl rfl hrun ?_)
                clear hrun z2
                have hrun := HR.out.2.2.1
                have hal := HR.out.2.1
                go_upto_region 19 with (at_builtin; refine wpList_app rfl _ _ 34 rfl _ _ _ _ rfl rfl hrun ?_)
                clear hrun hal y0' y1' y2'
                have hrun := HR.out.2.2.2.2
                have hal := HR.out.2.2.2.1
                go_wp2_with (at_builtin; refine wpList_app rfl _ _ 34 rfl _ _ _ _ rfl rfl hrun ?_)
                clear hrun hal
                go_roundw
                case rel => exact ⟨q + 1, A5, n8 + 1, c5, by omega, by go_num, rfl, HN⟩
                case measure => simp [intOf]; omega
              · obtain rfl : q = n9 := by omega
                have hdq : decide ((q : Int) < (q : Int)) = false := by simp
                have HN : Hid (∃ es, NxI w wi wq L V (k + 1) 0 A8 n8 c8 es) := Lib.hid (by
                  obtain ⟨es, h⟩ := HQ8.out
                  obtain ⟨a, ha⟩ : ∃ a, L[k]? = some a := ⟨_, List.getElem?_eq_getElem (by rw [HL.out.2.1]; exact hlk)⟩
                  exact ⟨es, h.own, h.len, by rw [part_k ha, ← HL.out.2.2.2.1]; exact h.map, h.nz, h.bel⟩)
                go_wp2_with fail
                go_roundw
                case rel => exact ⟨k + 1, A8, n8, c8, by omega, by go_num, rfl, HN⟩
                case measure => simp [intOf]; omega
          · obtain rfl : k = n6 := by omega
            have hdk : decide ((k : Int) < (k : Int)) = false := by simp
            have HN : Hid (∃ es, AllI w wk (σ.take (i + 1)) A8 n8 c8 es) := Lib.hid (by
              obtain ⟨es, h⟩ := HN8.out
              have hs := sigma_get HI6.out.2.1
              rw [HS.out.1] at hs
              refine ⟨es, h.own.base HV.out.2.2.2.2.size, h.len, ?_, h.nz, HV.out.2.2.2.2.trans (h.bel.mono HV.out.2.2.2.2.size)⟩
              rw [allF_take hs, h.map, HL.out.1, HI6.out.2.2, ← HV.out.2.2.1, ← part_all, HL.out.2.1])
            go_wp2_with fail
            go_roundw
            case rel => exact ⟨i + 1, A8, n8, c8, by omega, by go_num, rfl, HN⟩
            case measure => simp [intOf]; omega
      · obtain rfl : i = n := by omega
        have hd : decide ((i : Int) < (i : Int)) = false := by simp
        obtain ⟨es6, hE6⟩ := HI.out
        obtain ⟨L, hL⟩ : ∃ L, allF σ = L := ⟨_, rfl⟩
        have hti : σ.take i = σ := List.take_of_length_le (by rw [HS.out.2]; exact Nat.le_refl _)
        rw [hti] at hE6
        have hn6 : L.length = n6 := by rw [← hL, ← map_len hE6.map, hE6.len]
        have hne : 1 ≤ n6 ∧ n6 ≤ 256 := by
          have h1 := allF_len σ
          have h2 : 4 ^ σ.length ≤ 4 ^ 4 := Nat.pow_le_pow_right (by decide) (by rw [HS.out.2]; exact hn4)
          have h3 : 4 ^ 4 = 256 := by decide
          rw [hL] at h1
          refine ⟨?_, by omega⟩
          obtain ⟨vs, hvs, _⟩ := inhab (PsOk.anys σ)
          have := (allF_mem σ vs).2 hvs
          rw [hL] at this
          have := List.length_pos_of_mem this
          omega
        obtain ⟨g6, hg6⟩ := hE6.own.form (by omega)
        subst hg6
        have hmk := make_b w6 n6 (by omega)
        obtain ⟨wB, hwB⟩ : ∃ W, w6.alloc (.cells (tkRow (List.replicate n6 false)) 4) = W := ⟨_, rfl⟩
        have hbB : Below w6.heap.size w6 wB := by rw [← hwB]; exact (Below.refl _ _).alloc (Nat.le_refl _) _
        have hBB : Blk wB w6.heap.size 4 (tkRow (List.replicate n6 false)) := by rw [← hwB]; exact Blk.new _ _ _
        obtain ⟨gt, hgt⟩ : ∃ g, w6.heap.size = g := ⟨_, rfl⟩
        rw [hgt] at hBB
        have hRw : RwI w wB wB σ gt (rowsF σ X 0) none 0 0 [] := ⟨PtO.nil _ _ _, rfl, rfl, (by
          have e : (allF σ).map (tkn (rowsF σ X 0)) = List.replicate n6 false := by
            rw [hL]
            refine List.eq_replicate_iff.2 ⟨by rw [List.length_map, hn6], fun b hb => ?_⟩
            obtain ⟨vs, _, rfl⟩ := List.mem_map.1 hb
            rfl
          rw [e]; exact hBB), Off.refl _ _⟩
        have HRw := Lib.hid hRw
        have HE : Hid (AllI w w6 σ (some ⟨g6, 0, none⟩) n6 c6 es6 ∧ allF σ = L ∧ L.length = n6 ∧ w6.heap.size = gt ∧ Below w6.heap.size w6 wB ∧ gt < wB.heap.size ∧ (∀ (k : Nat) (a : List Vl), L[k]? = some a → a.length = i)) := Lib.hid ⟨hE6, hL, hn6, hgt, hbB, hBB.lt, fun k a ha => by
          have : a ∈ allF σ := by rw [hL]; exact List.mem_of_getElem? ha
          rw [((allF_mem σ a).1 this).len, HS.out.2]⟩
        have HWB := Lib.hid (And.intro hwB hgt)
        have hn6x : n6 ≤ 9223372036854775807 := by omega
        have hmx : m ≤ 9223372036854775807 := by omega
        clear hE6 hL hti hn6 hbB hBB hgt hRw hwB HI hne
        go_upto_region 23 with fail
        (try rw [HWB.out.1])
        (try rw [HWB.out.2])
        clear HWB hmk
        go_wp2_with fail
        go_loopw [13, 15, 16] (fun v13 v15 v16 wr => ∃ (r : Nat) (ue : Bool) (A13 : Option Addr) (c13 : Nat), r ≤ m ∧ v16 = .int .i64 (r : Int) ∧ v15 = .bool ue ∧ v13 = .slice A13 r c13 ∧ Hid (ue = eachB σ (rowsF σ X r) ∧ ∃ ps, RwI w wB wr σ gt (rowsF σ X r) A13 r c13 ps)) (fun _ _ v16 _ => m - (intOf v16).toNat)
        case atStart => exact ⟨0, true, none, 0, Nat.zero_le _, rfl, rfl, rfl, Lib.hid ⟨rfl, [], HRw.out⟩⟩
        case round =>
          obtain ⟨r, ue, A13, c13, hr, rfl, rfl, rfl, HR⟩ := hrel
          obtain ⟨w9, rfl⟩ : ∃ v, v = wr := ⟨_, rfl⟩
          by_cases hlr : r < m
          · have hdr : decide ((r : Int) < (m : Int)) = true := by simpa using hlr
            obtain ⟨wI, hwI⟩ : ∃ W, w9.alloc (.cells #[.int .u8 5, .string ⟨#[]⟩, .int .i64 0, .slice none 0 0] 40) = W := ⟨_, rfl⟩
            have hbI : Below w9.heap.size w9 wI := by rw [← hwI]; exact (Below.refl _ _).alloc (Nat.le_refl _) _
            have hBI : Blk wI w9.heap.size 40 #[.int .u8 5, .string ⟨#[]⟩, .int .i64 0, .slice none 0 0] := by rw [← hwI]; exact Blk.new _ _ _
            obtain ⟨q, hq⟩ : ∃ g, w9.heap.size = g := ⟨_, rfl⟩
            have HWI := Lib.hid (And.intro hwI hq)
            have HG : Hid (w.heap.size ≤ gt ∧ Below w.heap.size w w9 ∧ Below w9.heap.size w9 wI ∧ w9.heap.size = q ∧ q < wI.heap.size ∧ w.heap.size ≤ q ∧ Below gt w6 w9) := Lib.hid (by
              obtain ⟨ps, hp⟩ := HR.out.2
              have h1 := HE.out.1.bel.size
              have h2 := HE.out.2.2.2.1
              have h3 : Below gt wB w9 := hp.off.below (by have := HE.out.2.2.2.2.2.1; omega) (fun k e => by omega)
              have h4 := HE.out.2.2.2.2.1
              rw [h2] at h4 h1
              have h5 := h4.trans h3
              have h6 := h5.size
              refine ⟨h1, HE.out.1.bel.trans (h5.mono h1), hbI, hq, by rw [← hq]; exact hBI.lt, by omega, h5⟩)
            rw [hq] at hBI
            have HK0 : Hid (∃ A c es, KV w wI wI q ((rowF σ X r).take 0) A 0 c es ∧ A = none ∧ c = 0) := Lib.hid ⟨none, 0, [], ⟨hBI, PtO.nil _ _ _, rfl, rfl, Off.refl _ _⟩, rfl, rfl⟩
            clear hbI hBI hwI hq
            go_upto_region 28 with fail
            (try rw [HWI.out.1])
            (try rw [HWI.out.2])
            clear HWI
            go_wp2_with fail
            go_loopw [18] (fun v18 wk => ∃ (k : Nat), k ≤ i ∧ v18 = .int .i64 (k : Int) ∧ Hid (∃ A c es, KV w wI wk q ((rowF σ X r).take k) A k c es)) (fun v18 _ => i - (intOf v18).toNat)
            case atStart =>
              obtain ⟨A, c, es, h, _, _⟩ := HK0.out
              exact ⟨0, Nat.zero_le _, rfl, Lib.hid ⟨A, c, es, h⟩⟩
            case round =>
              obtain ⟨k, hki, rfl, HKV⟩ := hrel
              obtain ⟨wk, rfl⟩ : ∃ v, v = wr := ⟨_, rfl⟩
              by_cases hlk : k < i
              · have hdk : decide ((k : Int) < (i : Int)) = true := by simpa using hlk
                obtain ⟨A5, c5, es5, hK5⟩ := HKV.out
                obtain ⟨kc, hkc⟩ : ∃ kc, kb[k]? = some kc := ⟨_, List.getElem?_eq_getElem (by rw [HK.out.2.1]; exact hlk)⟩
                have hbk : Below w.heap.size w wk := HG.out.2.1.trans ((HG.out.2.2.1.trans (hK5.off.below HG.out.2.2.1.size (fun b e => by have := HG.out.2.2.2.1; omega))).mono HG.out.2.1.size)
                obtain ⟨b0, o0, e0, hlt0, z0⟩ := (HK.out.1.below hbk) k kc hkc
                obtain ⟨kn, hkn⟩ : ∃ kn, kc.toNat = kn := ⟨_, rfl⟩
                have hk256 : kn < 256 := by rw [← hkn]; exact kc.toNat_lt
                rw [hkn] at z0
                have hs : σ[k]? = some (soOf kn) := by have := sigma_get hkc; rw [HS.out.1, hkn] at this; exact this
                have HP := Lib.hid (patterns_any kn hk256 wk)
                have HKK := Lib.hid (And.intro hK5 (And.intro hbk hs))
                clear hK5 hbk hkc hkn hs HKV
                subst e0
                go_wp2_with fail
                refine HP.out.mono ?_
                rintro e w2 ⟨A19, rfl, hP19, hb2⟩
                clear HP z0
                obtain ⟨b4, o4, e4, hl4, hc4⟩ := HK.out.2.2 r hlr
                obtain ⟨z4, hx4⟩ := hc4 k (by omega)
                obtain ⟨xk, hxk⟩ : ∃ x, X r k = x := ⟨_, rfl⟩
                rw [hxk] at z4 hx4
                obtain ⟨j, hj⟩ : ∃ j, xk % 5 = j := ⟨_, rfl⟩
                have hj5 : j < 5 := by omega
                have hjm : ((xk : Int)) % 5 = (j : Int) := by omega
                have hjt : ((xk : Int)).tmod 5 = (j : Int) := by rw [Int.tmod_eq_emod_of_nonneg (by omega)]; exact hjm
                obtain ⟨p, hp⟩ : ∃ p, (pats (soOf kn))[j]? = some p := ⟨_, List.getElem?_eq_getElem (by rw [pats_len]; exact hj5)⟩
                obtain ⟨bp, op, Ap, cp, eA, hFp, hlp, y0, y1, y2, y3, hok, hlc, hcm, hAt⟩ := hP19.at_.get hp
                obtain ⟨tl, htl⟩ : ∃ tl, p.ks.length = tl := ⟨_, rfl⟩
                obtain ⟨u3, hu3⟩ : ∃ W, w2.drew.alloc (.cells #[.int .u8 (p.k : Int), .string (str p.nm), .int .i64 p.n, .slice Ap tl cp] 40) = W := ⟨_, rfl⟩
                obtain ⟨A', c', w4, hrun, ⟨x2c, x3c⟩, ⟨x4c, x4f⟩, hkeep, hK'⟩ := kv_step (e := ⟨p, Ap, cp⟩) HKK.out.1 hb2 HG.out.2.2.2.2.2.1 HG.out.2.2.2.2.1 ⟨hAt, hok, hlc, hcm⟩ htl (by omega) hu3
                rw [htl] at y3
                subst e4
                subst eA
                have hww2 : Below w.heap.size w w2 := HKK.out.2.1.trans (hb2.mono HKK.out.2.1.size)
                have z42 := (hww2.cell (p := ⟨b4, _, none⟩) hl4).trans z4
                have hbp : bp < w2.heap.size := hlp
                have hS : (fun W : World => W.cell? ⟨b4, o4 + r * 4 + k, none⟩ = some (.int .u8 (xk : Int)) ∧ W.cell? ⟨bp, op + j * 4, none⟩ = some (.int .u8 (p.k : Int)) ∧ W.cell? ⟨bp, op + j * 4 + 1, none⟩ = some (.string (str p.nm)) ∧ W.cell? ⟨bp, op + j * 4 + 2, none⟩ = some (.int .i64 p.n) ∧ W.cell? ⟨bp, op + j * 4 + 3, none⟩ = some (.slice Ap tl cp)) w2 := ⟨z42, y0, y1, y2, y3⟩
                have hl42 : b4 < w2.heap.size := Nat.lt_of_lt_of_le hl4 hww2.size
                have kp4 := fun o v hv => hkeep ⟨b4, o, none⟩ v (.inl hl4) hl42 hv
                have kpp := fun o v hv => hkeep ⟨bp, o, none⟩ v (.inr hFp) hbp hv
                obtain ⟨wz, hwz⟩ : ∃ W, w4.setCell ⟨q, 3, none⟩ (.slice A' (k + 1) c') = W := ⟨_, rfl⟩
                rw [hwz] at hK' kp4 kpp
                have HS3 : Hid ((fun W : World => W.cell? ⟨b4, o4 + r * 4 + k, none⟩ = some (.int .u8 (xk : Int)) ∧ W.cell? ⟨bp, op + j * 4, none⟩ = some (.int .u8 (p.k : Int)) ∧ W.cell? ⟨bp, op + j * 4 + 1, none⟩ = some (.string (str p.nm)) ∧ W.cell? ⟨bp, op + j * 4 + 2, none⟩ = some (.int .i64 p.n) ∧ W.cell? ⟨bp, op + j * 4 + 3, none⟩ = some (.slice Ap tl cp)) u3) := Lib.hid ⟨(kp4 _ _ z42).1, (kpp _ _ y0).1, (kpp _ _ y1).1, (kpp _ _ y2).1, (kpp _ _ y3).1⟩
                have HS4 : Hid ((fun W : World => W.cell? ⟨b4, o4 + r * 4 + k, none⟩ = some (.int .u8 (xk : Int)) ∧ W.cell? ⟨bp, op + j * 4, none⟩ = some (.int .u8 (p.k : Int)) ∧ W.cell? ⟨bp, op + j * 4 + 1, none⟩ = some (.string (str p.nm)) ∧ W.cell? ⟨bp, op + j * 4 + 2, none⟩ = some (.int .i64 p.n) ∧ W.cell? ⟨bp, op + j * 4 + 3, none⟩ = some (.slice Ap tl cp)) w4) := Lib.hid ⟨(kp4 _ _ z42).2.1, (kpp _ _ y0).2.1, (kpp _ _ y1).2.1, (kpp _ _ y2).2.1, (kpp _ _ y3).2.1⟩
                have HSZ : Hid ((fun W : World => W.cell? ⟨b4, o4 + r * 4 + k, none⟩ = some (.int .u8 (xk : Int)) ∧ W.cell? ⟨bp, op + j * 4, none⟩ = some (.int .u8 (p.k : Int)) ∧ W.cell? ⟨bp, op + j * 4 + 1, none⟩ = some (.string (str p.nm)) ∧ W.cell? ⟨bp, op + j * 4 + 2, none⟩ = some (.int .i64 p.n) ∧ W.cell? ⟨bp, op + j * 4 + 3, none⟩ = some (.slice Ap tl cp)) wz) := Lib.hid ⟨(kp4 _ _ z42).2.2, (kpp _ _ y0).2.2, (kpp _ _ y1).2.2, (kpp _ _ y2).2.2, (kpp _ _ y3).2.2⟩
                have HN : Hid (∃ A c es, KV w wI wz q ((rowF σ X r).take (k + 1)) A (k + 1) c es) := Lib.hid ⟨A', c', _, by rw [rowF_take HKK.out.2.2 (by rw [hxk, hj]; exact hp)]; exact hK'⟩
                have HRUN := Lib.hid hrun
                have hu3' : (w2.alloc (.cells #[.int .u8 (p.k : Int), .string (str p.nm), .int .i64 p.n, .slice Ap tl cp] 40)).drew = u3 := hu3
                have HU := Lib.hid (And.intro hu3' hwz)
                have hx256 : xk < 256 := hx4
                have hm5 : 5 ≤ 9223372036854775807 := by decide
                have hki4 : k < 4 := by omega
                have hki4' : (k : Int) < 4 := by omega
                have hj5' : (j : Int) < 5 := by omega
                have hwx : IntKind.i64.wrap (xk : Int) = (xk : Int) := IntWalk.i64_in _ (by omega)
                have hX3 := Lib.hid x3c
                have hX4 := Lib.hid (And.intro x4c x4f)
                clear hP19 hb2 hc4 z4 hp hFp hlp y0 y1 y2 y3 hok hlc hcm hAt htl hu3 hu3' hrun x3c x4c x4f hkeep hK' hww2 z42 kp4 kpp hwz hx4 hxk hj hl4 hl42 hbp
                go_upto_region 32 with fail
                refine wp_region_held_drew (S := (fun W : World => W.cell? ⟨b4, o4 + r * 4 + k, none⟩ = some (.int .u8 (xk : Int)) ∧ W.cell? ⟨bp, op + j * 4, none⟩ = some (.int .u8 (p.k : Int)) ∧ W.cell? ⟨bp, op + j * 4 + 1, none⟩ = some (.string (str p.nm)) ∧ W.cell? ⟨bp, op + j * 4 + 2, none⟩ = some (.int .i64 p.n) ∧ W.cell? ⟨bp, op + j * 4 + 3, none⟩ = some (.slice Ap tl cp))) (by kernel_rfl) hS (fun hHeld => ?_)
                refine takeY 0 (some 104) rfl rfl (by kernel_rfl) (by kernel_rfl) (by kernel_rfl) (fun _ _ _ h => h) (by rfl) (v := _) (by (intro _ hSw; (try dsimp only at hSw); go_simp; try with_reducible rfl)) hHeld ?_
                simp only [Act.put, List.setIfInBounds_toArray, List.set_cons_zero, List.set_cons_succ]
                refine takeY 2 (some 106) rfl rfl (by kernel_rfl) (by kernel_rfl) (by kernel_rfl) (fun _ _ _ h => h) (by rfl) (v := _) (by (intro _ hSw; (try dsimp only at hSw); go_simp; try with_reducible rfl)) hHeld ?_
                simp only [Act.put, List.setIfInBounds_toArray, List.set_cons_zero, List.set_cons_succ]
                refine takeY 3 (some 107) rfl rfl (by kernel_rfl) (by kernel_rfl) (by kernel_rfl) (fun _ _ _ h => h) (by rfl) (v := _) (by (intro _ hSw; (try dsimp only at hSw); go_simp; try with_reducible rfl)) hHeld ?_
                simp only [Act.put, List.setIfInBounds_toArray, List.set_cons_zero, List.set_cons_succ]
                refine takeY 4 (some 108) rfl rfl (by kernel_rfl) (by kernel_rfl) (by kernel_rfl) (fun _ _ _ h => h) (by rfl) (v := _) (by (intro _ hSw; (try dsimp only at hSw); go_simp; try with_reducible rfl)) hHeld ?_
                simp only [Act.put, List.setIfInBounds_toArray, List.set_cons_zero, List.set_cons_succ]
                refine takeY 5 (some 109) rfl rfl (by kernel_rfl) (by kernel_rfl) (by kernel_rfl) (fun _ _ _ h => h) (by rfl) (v := _) (by (intro _ hSw; (try dsimp only at hSw); go_simp; try with_reducible rfl)) hHeld ?_
                simp only [Act.put, List.setIfInBounds_toArray, List.set_cons_zero, List.set_cons_succ]
                refine takeY 6 (some 110) rfl rfl (by kernel_rfl) (by kernel_rfl) (by kernel_rfl) (fun _ _ _ h => h) (by rfl) (v := _) (by (intro _ hSw; (try dsimp only at hSw); go_simp; try with_reducible rfl)) hHeld ?_
                simp only [Act.put, List.setIfInBounds_toArray, List.set_cons_zero, List.set_cons_succ]
                refine takeY 7 (some 111) rfl rfl (by kernel_rfl) (by kernel_rfl) (by kernel_rfl) (fun _ _ _ h => h) (by rfl) (v := _) (by (intro _ hSw; (try dsimp only at hSw); go_simp; try with_reducible rfl)) hHeld ?_
                simp only [Act.put, List.setIfInBounds_toArray, List.set_cons_zero, List.set_cons_succ]
                refine takeY 8 (some 112) rfl rfl (by kernel_rfl) (by kernel_rfl) (by kernel_rfl) (fun _ _ _ h => h) (by rfl) (v := _) (by (intro _ hSw; (try dsimp only at hSw); go_simp; try with_reducible rfl)) hHeld ?_
                simp only [Act.put, List.setIfInBounds_toArray, List.set_cons_zero, List.set_cons_succ]
                refine takeY 9 (some 113) rfl rfl (by kernel_rfl) (by kernel_rfl) (by kernel_rfl) (fun _ _ _ h => h) (by rfl) (v := _) (by (intro _ hSw; (try dsimp only at hSw); go_simp; try with_reducible rfl)) hHeld ?_
                simp only [Act.put, List.setIfInBounds_toArray, List.set_cons_zero, List.set_cons_succ]
                refine takeY 10 (some 114) rfl rfl (by kernel_rfl) (by kernel_rfl) (by kernel_rfl) (fun _ _ _ h => h) (by rfl) (v := _) (by (intro _ hSw; (try dsimp only at hSw); go_simp; try with_reducible rfl)) hHeld ?_
                simp only [Act.put, List.setIfInBounds_toArray, List.set_cons_zero, List.set_cons_succ]
                refine takeY 11 (some 115) rfl rfl (by kernel_rfl) (by kernel_rfl) (by kernel_rfl) (fun _ _ _ h => h) (by rfl) (v := _) (by (intro _ hSw; (try dsimp only at hSw); go_simp; try with_reducible rfl)) hHeld ?_
                simp only [Act.put, List.setIfInBounds_toArray, List.set_cons_zero, List.set_cons_succ]
                refine takeY 12 (some 116) rfl rfl (by kernel_rfl) (by kernel_rfl) (by kernel_rfl) (fun _ _ _ h => h) (by rfl) (v := _) (by (intro _ hSw; (try dsimp only at hSw); go_simp; try with_reducible rfl)) hHeld ?_
                simp only [Act.put, List.setIfInBounds_toArray, List.set_cons_zero, List.set_cons_succ]
                refine takeY 13 (some 117) rfl rfl (by kernel_rfl) (by kernel_rfl) (by kernel_rfl) (fun _ _ _ h => h) (by rfl) (v := _) (by (intro _ hSw; (try dsimp only at hSw); go_simp; try with_reducible rfl)) hHeld ?_
                simp only [Act.put, List.setIfInBounds_toArray, List.set_cons_zero, List.set_cons_succ]
                refine takeY 14 (some 118) rfl rfl (by kernel_rfl) (by kernel_rfl) (by kernel_rfl) (fun _ _ _ h => h) (by rfl) (v := _) (by (intro _ hSw; (try dsimp only at hSw); go_simp; try with_reducible rfl)) hHeld ?_
                simp only [Act.put, List.setIfInBounds_toArray, List.set_cons_zero, List.set_cons_succ]
                refine wpAnyH_ready (rs := [1, 15]) (by kernel_rfl) (by simp) ?_
                refine AllReadyH.cons rfl (fun K hK => ?_) (AllReadyH.cons rfl (fun K hK => ?_) AllReadyH.nil)
                · go_simp
                  refine hK.out _ _ hHeld (fun hHeld => ?_)
                  clear hK K
                  refine wpAnyH_ready (rs := [15]) (by kernel_rfl) (by simp) ?_
                  refine AllReadyH.cons rfl (fun K hK => ?_) AllReadyH.nil
                  go_simp
                  (try rw [HU.out.1])
                  refine hK.out _ _ HS3.out (fun hHeld => ?_)
                  clear hK K
                  refine wpAnyH_ready (rs := [16]) (by kernel_rfl) (by simp) ?_
                  refine AllReadyH.cons rfl (fun K hK => ?_) AllReadyH.nil
                  refine step_app rfl (.tmp 105) (.tmp 119) 22 rfl _ _ _ _ (by simp [Act.eval]) (by simp [Act.eval]) HRUN.out ?_
                  simp only [Act.put, List.setIfInBounds_toArray]
                  refine hK.out _ _ HS4.out (fun hHeld => ?_)
                  clear hK K
                  refine takeY 17 (some 121) rfl rfl (by kernel_rfl) (by kernel_rfl) (by kernel_rfl) (fun _ _ _ h => h) (by rfl) (v := _) (by (intro _ hSw; (try dsimp only at hSw); go_simp; try with_reducible rfl)) hHeld ?_
                  simp only [Act.put, List.setIfInBounds_toArray, List.set_cons_zero, List.set_cons_succ]
                  have x4c := hX4.out.1
                  have x4f := hX4.out.2
                  refine wpAnyH_ready (rs := [18]) (by kernel_rfl) (by simp) ?_
                  refine AllReadyH.cons rfl (fun K hK => ?_) AllReadyH.nil
                  go_simp
                  (try rw [HU.out.2])
                  refine hK.out _ _ HSZ.out (fun hHeld => ?_)
                  clear hK K
                  refine wpAnyH_done (by kernel_rfl) ?_ _
                  clear hHeld hS
                  go_wp2_with fail
                  go_roundw
                  case rel => exact ⟨k + 1, by omega, by go_num, HN⟩
                  case measure => simp [intOf]; omega
                · go_simp
                  (try rw [HU.out.1])
                  refine hK.out _ _ HS3.out (fun hHeld => ?_)
                  clear hK K
                  have x3c := hX3.out
                  refine wpAnyH_ready (rs := [1]) (by kernel_rfl) (by simp) ?_
                  refine AllReadyH.cons rfl (fun K hK => ?_) AllReadyH.nil
                  go_simp
                  refine hK.out _ _ hHeld (fun hHeld => ?_)
                  clear hK K
                  clear x3c
                  refine wpAnyH_ready (rs := [16]) (by kernel_rfl) (by simp) ?_
                  refine AllReadyH.cons rfl (fun K hK => ?_) AllReadyH.nil
                  refine step_app rfl (.tmp 105) (.tmp 119) 22 rfl _ _ _ _ (by simp [Act.eval]) (by simp [Act.eval]) HRUN.out ?_
                  simp only [Act.put, List.setIfInBounds_toArray]
                  refine hK.out _ _ HS4.out (fun hHeld => ?_)
                  clear hK K
                  refine takeY 17 (some 121) rfl rfl (by kernel_rfl) (by kernel_rfl) (by kernel_rfl) (fun _ _ _ h => h) (by rfl) (v := _) (by (intro _ hSw; (try dsimp only at hSw); go_simp; try with_reducible rfl)) hHeld ?_
                  simp only [Act.put, List.setIfInBounds_toArray, List.set_cons_zero, List.set_cons_succ]
                  have x4c := hX4.out.1
                  have x4f := hX4.out.2
                  refine wpAnyH_ready (rs := [18]) (by kernel_rfl) (by simp) ?_
                  refine AllReadyH.cons rfl (fun K hK => ?_) AllReadyH.nil
                  go_simp
                  (try rw [HU.out.2])
                  refine hK.out _ _ HSZ.out (fun hHeld => ?_)
                  clear hK K
                  refine wpAnyH_done (by kernel_rfl) ?_ _
                  clear hHeld hS
                  go_wp2_with fail
                  go_roundw
                  case rel => exact ⟨k + 1, by omega, by go_num, HN⟩
                  case measure => simp [intOf]; omega
              · obtain rfl : i = k := by omega
                have hdk : decide ((i : Int) < (i : Int)) = false := by simp
                obtain ⟨A5, c5, es5, hK5⟩ := HKV.out
                have htk : (rowF σ X r).take i = rowF σ X r := List.take_of_length_le (by rw [rowF_len, HS.out.2]; exact Nat.le_refl _)
                rw [htk] at hK5
                obtain ⟨row, hrow⟩ : ∃ row, rowF σ X r = row := ⟨_, rfl⟩
                rw [hrow] at hK5
                obtain ⟨Rr, hRr⟩ : ∃ R, rowsF σ X r = R := ⟨_, rfl⟩
                obtain ⟨ps, hp⟩ := HR.out.2
                rw [hRr] at hp
                have hin : RowIn σ row ∧ (∀ x ∈ Rr, RowIn σ x) ∧ rowsF σ X (r + 1) = Rr ++ [row] := ⟨by rw [← hrow]; exact rowF_in σ X r, (fun x hx => by rw [← hRr] at hx; exact rowsF_in hx), by rw [rowsF_succ, hRr, hrow]⟩
                have hue := HR.out.1
                rw [hRr] at hue
                obtain ⟨w8, hw8⟩ : ∃ W, wk.alloc (.cells #[.int .u8 5, .string ⟨#[]⟩, .int .i64 0, .slice A5 i c5] 40) = W := ⟨_, rfl⟩
                obtain ⟨A', c', w7, hrun, hb7, hbx, htk7, hin7, hO7, hoff7⟩ := rw_step hp HG.out.1 HE.out.2.2.2.2.2.1 HG.out.2.2.2.1 HG.out.2.2.1 HG.out.2.2.2.2.1 hK5 (by omega) hw8
                have z0 : wk.cell? ⟨q, 0, none⟩ = some (.int .u8 5) := hK5.blk.cell 0
                have z1 : wk.cell? ⟨q, 1, none⟩ = some (.string ⟨#[]⟩) := hK5.blk.cell 1
                have z2 : wk.cell? ⟨q, 2, none⟩ = some (.int .i64 0) := hK5.blk.cell 2
                have z3 : wk.cell? ⟨q, 3, none⟩ = some (.slice A5 i c5) := hK5.blk.cell 3
                have h67 : Below gt w6 w7 := by
                  have h4 := HE.out.2.2.2.2.1
                  rw [HE.out.2.2.2.1] at h4
                  exact h4.trans hb7
                have H7 : Hid (Below gt w6 w7 ∧ Blk w7 q 40 #[.int .u8 5, .string ⟨#[]⟩, .int .i64 0, .slice A5 i c5] ∧ Te.in_ (fun b => b ≠ gt) w7 ⟨tup row, A5, c5⟩ ∧ PtO (fun b => w.heap.size ≤ b ∧ b ≠ gt) wB.heap.size w7 (.slice A' (r + 1) c') (ps ++ [⟨tup row, A5, c5⟩]) ∧ Off (fun k => k = gt) wB w7 ∧ (ps ++ [(⟨tup row, A5, c5⟩ : Te)]).length = r + 1 ∧ (ps ++ [(⟨tup row, A5, c5⟩ : Te)]).map Te.t = (Rr ++ [row]).map tup ∧ q ≠ gt ∧ row.length = i ∧ (RowIn σ row ∧ (∀ x ∈ Rr, RowIn σ x) ∧ rowsF σ X (r + 1) = Rr ++ [row]) ∧ ue = eachB σ Rr) := Lib.hid ⟨h67, hbx, hin7, hO7, hoff7, by rw [List.length_append, hp.len]; rfl, by rw [List.map_append, List.map_append, hp.map]; rfl, by
                  have h1 := HE.out.2.2.2.2.2.1
                  have h2 := hp.off.size
                  have h3 := HG.out.2.2.2.1
                  omega, by rw [← hrow, rowF_len, HS.out.2], hin, hue⟩
                have HT0 : Hid (Blk w7 gt 4 (tkRow (tkL L Rr (Rr ++ [row]) 0))) := Lib.hid (by rw [tkL_zero, ← HE.out.2.1]; exact htk7)
                have HRN := Lib.hid (And.intro hrun hw8)
                clear hK5 htk hrow hRr hp hin hue hrun hw8 hb7 hbx htk7 hin7 hO7 hoff7 h67 HKV HK0
                have hrun := HRN.out.1
                have hal := HRN.out.2
                go_upto_region 34 with (at_builtin; refine wpList_app rfl _ _ 22 rfl _ _ _ _ rfl rfl hrun ?_)
                clear hrun hal z0 z1 z2 z3
                go_wp2_with fail
                go_loopw [20, 21] (fun v20 v21 wx => ∃ (k : Nat) (fr : Bool), k ≤ n6 ∧ v21 = .int .i64 (k : Int) ∧ v20 = .bool fr ∧ Hid (fr = freshN L Rr row k ∧ Blk wx gt 4 (tkRow (tkL L Rr (Rr ++ [row]) k)) ∧ Off (fun k => k = gt) w7 wx)) (fun _ v21 _ => n6 - (intOf v21).toNat)
                case atStart => exact ⟨0, false, Nat.zero_le _, rfl, rfl, Lib.hid ⟨rfl, HT0.out, Off.refl _ _⟩⟩
                case round =>
                  obtain ⟨k, fr, hk6, rfl, rfl, HF⟩ := hrel
                  obtain ⟨wx, rfl⟩ : ∃ v, v = wr := ⟨_, rfl⟩
                  by_cases hlk : k < n6
                  · have hdk : decide ((k : Int) < (n6 : Int)) = true := by simpa using hlk
                    obtain ⟨a, ha⟩ : ∃ a, L[k]? = some a := ⟨_, List.getElem?_eq_getElem (by rw [HE.out.2.2.1]; exact hlk)⟩
                    obtain ⟨ek, hek, het⟩ := map_get (by rw [HE.out.1.map, HE.out.2.1]) ha
                    obtain ⟨kt, kA, kc⟩ := ek
                    have het : kt = rowV a := het
                    subst het
                    have h6x : Below gt w6 wx := H7.out.1.trans (HF.out.2.2.below (by have := H7.out.1.size; have := HE.out.2.2.2.1; omega) (fun b e => by omega))
                    have hsz := HE.out.2.2.2.1
                    have hcell : ∀ (W : World), Below wx.heap.size wx W → (W.cell? ⟨q, 0, none⟩ = some (.int .u8 5) ∧ W.cell? ⟨q, 1, none⟩ = some (.string ⟨#[]⟩) ∧ W.cell? ⟨q, 2, none⟩ = some (.int .i64 0) ∧ W.cell? ⟨q, 3, none⟩ = some (.slice A5 i c5)) ∧ (W.cell? ⟨g6, k * 3, none⟩ = some (.string ⟨#[]⟩) ∧ W.cell? ⟨g6, k * 3 + 1, none⟩ = some (.int .i64 0) ∧ W.cell? ⟨g6, k * 3 + 2, none⟩ = some (.slice kA i kc)) ∧ W.cell? ⟨gt, k, none⟩ = some (.bool (tkn Rr a)) := fun W hW => by
                      have hBx := (H7.out.2.1.off HF.out.2.2 H7.out.2.2.2.2.2.2.2.1)
                      have hBW := hBx.below hW hBx.lt
                      have hg6 : g6 < w6.heap.size := (HE.out.1.own.own.lt g6 rfl).2
                      have mv : ∀ (o : Nat) (v : Value), w6.cell? ⟨g6, o, none⟩ = some v → W.cell? ⟨g6, o, none⟩ = some v := fun o v hv => (hW.cell (p := ⟨g6, o, none⟩) (by show g6 < wx.heap.size; have := h6x.size; omega)).trans ((h6x.cell (p := ⟨g6, o, none⟩) (by show g6 < gt; omega)).trans hv)
                      have c0 := HE.out.1.own.cells hek 0 _ (by decide) rfl
                      have c1 := HE.out.1.own.cells hek 1 _ (by decide) rfl
                      have c2 := HE.out.1.own.cells hek 2 _ (by decide) rfl
                      have hal := HE.out.2.2.2.2.2.2 k a ha
                      have c2 : w6.cell? ⟨g6, k * 3 + 2, none⟩ = some (.slice kA i kc) := by rw [← hal]; exact c2
                      have hT := HF.out.2.1.below hW HF.out.2.1.lt
                      refine ⟨⟨hBW.cell 0, hBW.cell 1, hBW.cell 2, hBW.cell 3⟩, ⟨mv _ _ c0, mv _ _ c1, mv _ _ c2⟩, ?_⟩
                      rw [hT.cell]
                      exact tkRow_get (tkL_get ha)
                    have hin1 : Te.in_ Everywhere wx.drew ⟨tup row, A5, c5⟩ := ((H7.out.2.2.1.off HF.out.2.2 (fun b hb => hb)).mono fun _ _ => trivial).bel ((Below.refl _ wx).drew)
                    have hin2 : Ve.in_ Everywhere wx.drew ⟨rowV a, kA, kc⟩ := by
                      have h1 := (HE.out.1.own.kids _ (List.mem_of_getElem? hek)).bnd
                      have h2 : Ve.in_ (fun b => b < w6.heap.size) w6 ⟨rowV a, kA, kc⟩ := h1.mono fun b hb => hb.2
                      rw [hsz] at h2
                      have hal : Off (fun b => gt ≤ b) w6 wx.drew := Off.of_below (h6x.trans (Below.refl gt wx).drew) _ (fun k _ h => h)
                      exact (h2.off hal fun b hb => by omega).mono fun _ _ => trivial
                    have HT := takes_any (tup row) A5 c5 (rowV a) kA kc wx.drew hin1 hin2
                    rw [takes_tup (by rw [H7.out.2.2.2.2.2.2.2.2.1]; exact (HE.out.2.2.2.2.2.2 k a ha).symm)] at HT
                    obtain ⟨tq, htq⟩ : ∃ tq, takesL row a = tq := ⟨_, rfl⟩
                    rw [htq] at HT
                    change Calls Try.prog 15 #[.agg #[.int .u8 5, .string ⟨#[]⟩, .int .i64 0, .slice A5 row.length c5], .agg #[.string ⟨#[]⟩, .int .i64 0, .slice kA a.length kc]] wx.drew (fun e w' => e = .returned (.bool tq) ∧ Below wx.drew.heap.size wx.drew w') at HT
                    rw [H7.out.2.2.2.2.2.2.2.2.1, HE.out.2.2.2.2.2.2 k a ha] at HT
                    replace HT := Lib.hid HT
                    obtain ⟨bk, hbk⟩ : ∃ bk, tkn Rr a = bk := ⟨_, rfl⟩
                    rw [hbk] at hcell
                    have HCX := Lib.hid hcell
                    obtain ⟨⟨z0, z1, z2, z3⟩, ⟨y0, y1, y2⟩, x0⟩ := hcell wx (Below.refl _ _)
                    have hS0 : (fun W : World => (W.cell? ⟨q, 0, none⟩ = some (.int .u8 5) ∧ W.cell? ⟨q, 1, none⟩ = some (.string ⟨#[]⟩) ∧ W.cell? ⟨q, 2, none⟩ = some (.int .i64 0) ∧ W.cell? ⟨q, 3, none⟩ = some (.slice A5 i c5)) ∧ (W.cell? ⟨g6, k * 3, none⟩ = some (.string ⟨#[]⟩) ∧ W.cell? ⟨g6, k * 3 + 1, none⟩ = some (.int .i64 0) ∧ W.cell? ⟨g6, k * 3 + 2, none⟩ = some (.slice kA i kc)) ∧ W.cell? ⟨gt, k, none⟩ = some (.bool bk)) wx := ⟨⟨z0, z1, z2, z3⟩, ⟨y0, y1, y2⟩, x0⟩
                    have HA := Lib.hid (And.intro ha (And.intro htq hbk))
                    clear hin1 hin2 hcell ha hek htq hbk h6x hsz z0 z1 z2 z3 y0 y1 y2 x0
                    go_upto_region 38 with fail
                    go_cut [144] from 132 to 144 (fun s wc => s = .bool (tq && !bk) ∧ Hid (Below wx.heap.size wx wc))
                    case first =>
                      cases tq with
                      | true =>
                        refine wp_region_held_drew (S := (fun W : World => (W.cell? ⟨q, 0, none⟩ = some (.int .u8 5) ∧ W.cell? ⟨q, 1, none⟩ = some (.string ⟨#[]⟩) ∧ W.cell? ⟨q, 2, none⟩ = some (.int .i64 0) ∧ W.cell? ⟨q, 3, none⟩ = some (.slice A5 i c5)) ∧ (W.cell? ⟨g6, k * 3, none⟩ = some (.string ⟨#[]⟩) ∧ W.cell? ⟨g6, k * 3 + 1, none⟩ = some (.int .i64 0) ∧ W.cell? ⟨g6, k * 3 + 2, none⟩ = some (.slice kA i kc)) ∧ W.cell? ⟨gt, k, none⟩ = some (.bool bk))) (by kernel_rfl) hS0 (fun hHeld => ?_)
                        refine takeY 0 (some 132) rfl rfl (by kernel_rfl) (by kernel_rfl) (by kernel_rfl) (fun _ _ _ h => h) (by rfl) (v := _) (by (intro _ hSw; (try dsimp only at hSw); go_simp; try with_reducible rfl)) hHeld ?_
                        simp only [Act.put, List.setIfInBounds_toArray, List.set_cons_zero, List.set_cons_succ]
                        refine takeY 1 (some 133) rfl rfl (by kernel_rfl) (by kernel_rfl) (by kernel_rfl) (fun _ _ _ h => h) (by rfl) (v := _) (by (intro _ hSw; (try dsimp only at hSw); go_simp; try with_reducible rfl)) hHeld ?_
                        simp only [Act.put, List.setIfInBounds_toArray, List.set_cons_zero, List.set_cons_succ]
                        refine takeY 2 (some 134) rfl rfl (by kernel_rfl) (by kernel_rfl) (by kernel_rfl) (fun _ _ _ h => h) (by rfl) (v := _) (by (intro _ hSw; (try dsimp only at hSw); go_simp; try with_reducible rfl)) hHeld ?_
                        simp only [Act.put, List.setIfInBounds_toArray, List.set_cons_zero, List.set_cons_succ]
                        refine takeY 3 (some 135) rfl rfl (by kernel_rfl) (by kernel_rfl) (by kernel_rfl) (fun _ _ _ h => h) (by rfl) (v := _) (by (intro _ hSw; (try dsimp only at hSw); go_simp; try with_reducible rfl)) hHeld ?_
                        simp only [Act.put, List.setIfInBounds_toArray, List.set_cons_zero, List.set_cons_succ]
                        refine takeY 4 (some 136) rfl rfl (by kernel_rfl) (by kernel_rfl) (by kernel_rfl) (fun _ _ _ h => h) (by rfl) (v := _) (by (intro _ hSw; (try dsimp only at hSw); go_simp; try with_reducible rfl)) hHeld ?_
                        simp only [Act.put, List.setIfInBounds_toArray, List.set_cons_zero, List.set_cons_succ]
                        refine wpAnyH_ready (rs := [5]) (by kernel_rfl) (by simp) ?_
                        refine AllReadyH.cons rfl (fun K hK => ?_) AllReadyH.nil
                        clear hHeld
                        go_simp
                        go_wp2_with (go_at_call 15; refine Calls.mono HT.out ?_; rintro e v7 ⟨rfl, hb7⟩; have hv7 : Below wx.heap.size wx v7 := (Below.refl _ wx).drew.trans hb7)
                        refine hK.out _ _ (HCX.out _ hv7) (fun hHeld => ?_)
                        clear hK K
                        refine takeY 6 (some 138) rfl rfl (by kernel_rfl) (by kernel_rfl) (by kernel_rfl) (fun _ _ _ h => h) (by rfl) (v := _) (by (intro _ hSw; (try dsimp only at hSw); go_simp; try with_reducible rfl)) hHeld ?_
                        simp only [Act.put, List.setIfInBounds_toArray, List.set_cons_zero, List.set_cons_succ]
                        refine takeY 7 (some 139) rfl rfl (by kernel_rfl) (by kernel_rfl) (by kernel_rfl) (fun _ _ _ h => h) (by rfl) (v := _) (by (intro _ hSw; (try dsimp only at hSw); go_simp; try with_reducible rfl)) hHeld ?_
                        simp only [Act.put, List.setIfInBounds_toArray, List.set_cons_zero, List.set_cons_succ]
                        refine takeY 8 (some 140) rfl rfl (by kernel_rfl) (by kernel_rfl) (by kernel_rfl) (fun _ _ _ h => h) (by rfl) (v := _) (by (intro _ hSw; (try dsimp only at hSw); go_simp; try with_reducible rfl)) hHeld ?_
                        simp only [Act.put, List.setIfInBounds_toArray, List.set_cons_zero, List.set_cons_succ]
                        refine takeY 9 (some 141) rfl rfl (by kernel_rfl) (by kernel_rfl) (by kernel_rfl) (fun _ _ _ h => h) (by rfl) (v := _) (by (intro _ hSw; (try dsimp only at hSw); go_simp; try with_reducible rfl)) hHeld ?_
                        simp only [Act.put, List.setIfInBounds_toArray, List.set_cons_zero, List.set_cons_succ]
                        refine takeY 10 (some 142) rfl rfl (by kernel_rfl) (by kernel_rfl) (by kernel_rfl) (fun _ _ _ h => h) (by rfl) (v := _) (by (intro _ hSw; (try dsimp only at hSw); go_simp; try with_reducible rfl)) hHeld ?_
                        simp only [Act.put, List.setIfInBounds_toArray, List.set_cons_zero, List.set_cons_succ]
                        refine takeY 11 (some 143) rfl rfl (by kernel_rfl) (by kernel_rfl) (by kernel_rfl) (fun _ _ _ h => h) (by rfl) (v := _) (by (intro _ hSw; (try dsimp only at hSw); go_simp; try with_reducible rfl)) hHeld ?_
                        simp only [Act.put, List.setIfInBounds_toArray, List.set_cons_zero, List.set_cons_succ]
                        refine takeY 12 (some 144) rfl rfl (by kernel_rfl) (by kernel_rfl) (by kernel_rfl) (fun _ _ _ h => h) (by rfl) (v := _) (by (intro _ hSw; (try dsimp only at hSw); go_simp; try with_reducible rfl)) hHeld ?_
                        simp only [Act.put, List.setIfInBounds_toArray, List.set_cons_zero, List.set_cons_succ]
                        refine wpAnyH_done (by kernel_rfl) ?_ _
                        have HV := Lib.hid hv7
                        clear hHeld hb7 hv7 hS0
                        go_wp2_with fail
                        go_meet
                        exact ⟨rfl, HV⟩
                      | false =>
                        refine wp_region_held_drew (S := (fun W : World => (W.cell? ⟨q, 0, none⟩ = some (.int .u8 5) ∧ W.cell? ⟨q, 1, none⟩ = some (.string ⟨#[]⟩) ∧ W.cell? ⟨q, 2, none⟩ = some (.int .i64 0) ∧ W.cell? ⟨q, 3, none⟩ = some (.slice A5 i c5)) ∧ (W.cell? ⟨g6, k * 3, none⟩ = some (.string ⟨#[]⟩) ∧ W.cell? ⟨g6, k * 3 + 1, none⟩ = some (.int .i64 0) ∧ W.cell? ⟨g6, k * 3 + 2, none⟩ = some (.slice kA i kc)) ∧ W.cell? ⟨gt, k, none⟩ = some (.bool bk))) (by kernel_rfl) hS0 (fun hHeld => ?_)
                        refine takeY 0 (some 132) rfl rfl (by kernel_rfl) (by kernel_rfl) (by kernel_rfl) (fun _ _ _ h => h) (by rfl) (v := _) (by (intro _ hSw; (try dsimp only at hSw); go_simp; try with_reducible rfl)) hHeld ?_
                        simp only [Act.put, List.setIfInBounds_toArray, List.set_cons_zero, List.set_cons_succ]
                        refine takeY 1 (some 133) rfl rfl (by kernel_rfl) (by kernel_rfl) (by kernel_rfl) (fun _ _ _ h => h) (by rfl) (v := _) (by (intro _ hSw; (try dsimp only at hSw); go_simp; try with_reducible rfl)) hHeld ?_
                        simp only [Act.put, List.setIfInBounds_toArray, List.set_cons_zero, List.set_cons_succ]
                        refine takeY 2 (some 134) rfl rfl (by kernel_rfl) (by kernel_rfl) (by kernel_rfl) (fun _ _ _ h => h) (by rfl) (v := _) (by (intro _ hSw; (try dsimp only at hSw); go_simp; try with_reducible rfl)) hHeld ?_
                        simp only [Act.put, List.setIfInBounds_toArray, List.set_cons_zero, List.set_cons_succ]
                        refine takeY 3 (some 135) rfl rfl (by kernel_rfl) (by kernel_rfl) (by kernel_rfl) (fun _ _ _ h => h) (by rfl) (v := _) (by (intro _ hSw; (try dsimp only at hSw); go_simp; try with_reducible rfl)) hHeld ?_
                        simp only [Act.put, List.setIfInBounds_toArray, List.set_cons_zero, List.set_cons_succ]
                        refine takeY 4 (some 136) rfl rfl (by kernel_rfl) (by kernel_rfl) (by kernel_rfl) (fun _ _ _ h => h) (by rfl) (v := _) (by (intro _ hSw; (try dsimp only at hSw); go_simp; try with_reducible rfl)) hHeld ?_
                        simp only [Act.put, List.setIfInBounds_toArray, List.set_cons_zero, List.set_cons_succ]
                        refine wpAnyH_ready (rs := [5]) (by kernel_rfl) (by simp) ?_
                        refine AllReadyH.cons rfl (fun K hK => ?_) AllReadyH.nil
                        clear hHeld
                        go_simp
                        go_wp2_with (go_at_call 15; refine Calls.mono HT.out ?_; rintro e v7 ⟨rfl, hb7⟩; have hv7 : Below wx.heap.size wx v7 := (Below.refl _ wx).drew.trans hb7)
                        refine hK.out _ _ (HCX.out _ hv7) (fun hHeld => ?_)
                        clear hK K
                        refine takeY 6 (some 138) rfl rfl (by kernel_rfl) (by kernel_rfl) (by kernel_rfl) (fun _ _ _ h => h) (by rfl) (v := _) (by (intro _ hSw; (try dsimp only at hSw); go_simp; try with_reducible rfl)) hHeld ?_
                        simp only [Act.put, List.setIfInBounds_toArray, List.set_cons_zero, List.set_cons_succ]
                        refine takeN 7 (some 139) rfl rfl (by kernel_rfl) (by kernel_rfl) (by kernel_rfl) (fun _ _ _ h => h) (by rfl) hHeld ?_
                        simp only [Act.put, List.setIfInBounds_toArray, List.set_cons_zero, List.set_cons_succ]
                        refine takeN 8 (some 140) rfl rfl (by kernel_rfl) (by kernel_rfl) (by kernel_rfl) (fun _ _ _ h => h) (by rfl) hHeld ?_
                        simp only [Act.put, List.setIfInBounds_toArray, List.set_cons_zero, List.set_cons_succ]
                        refine takeN 9 (some 141) rfl rfl (by kernel_rfl) (by kernel_rfl) (by kernel_rfl) (fun _ _ _ h => h) (by rfl) hHeld ?_
                        simp only [Act.put, List.setIfInBounds_toArray, List.set_cons_zero, List.set_cons_succ]
                        refine takeN 10 (some 142) rfl rfl (by kernel_rfl) (by kernel_rfl) (by kernel_rfl) (fun _ _ _ h => h) (by rfl) hHeld ?_
                        simp only [Act.put, List.setIfInBounds_toArray, List.set_cons_zero, List.set_cons_succ]
                        refine takeN 11 (some 143) rfl rfl (by kernel_rfl) (by kernel_rfl) (by kernel_rfl) (fun _ _ _ h => h) (by rfl) hHeld ?_
                        simp only [Act.put, List.setIfInBounds_toArray, List.set_cons_zero, List.set_cons_succ]
                        refine takeY 12 (some 144) rfl rfl (by kernel_rfl) (by kernel_rfl) (by kernel_rfl) (fun _ _ _ h => h) (by rfl) (v := _) (by (intro _ hSw; (try dsimp only at hSw); go_simp; try with_reducible rfl)) hHeld ?_
                        simp only [Act.put, List.setIfInBounds_toArray, List.set_cons_zero, List.set_cons_succ]
                        refine wpAnyH_done (by kernel_rfl) ?_ _
                        have HV := Lib.hid hv7
                        clear hHeld hb7 hv7 hS0
                        go_wp2_with fail
                        go_meet
                        exact ⟨rfl, HV⟩
                    case rest =>
                      obtain ⟨rfl, hcb⟩ := hcut
                      obtain ⟨w5, rfl⟩ : ∃ v, v = wc := ⟨_, rfl⟩
                      obtain ⟨_, _, x0⟩ := HCX.out w5 hcb.out
                      have xf : ∀ j, w5.frozen? ⟨gt, j, none⟩ = false := (HF.out.2.1.below hcb.out HF.out.2.1.lt).frozen
                      obtain ⟨fv, hfv⟩ : ∃ fv, (tq && !bk) = fv := ⟨_, rfl⟩
                      rw [hfv]
                      have hT5 := HF.out.2.1.below hcb.out HF.out.2.1.lt
                      cases fv with
                      | true =>
                        obtain ⟨wz, hwz⟩ : ∃ W, w5.setCell ⟨gt, k, none⟩ (.bool true) = W := ⟨_, rfl⟩
                        have hq1 : tq = true := by cases tq; cases hfv; rfl
                        have HN : Hid (true = freshN L Rr row (k + 1) ∧ Blk wz gt 4 (tkRow (tkL L Rr (Rr ++ [row]) (k + 1))) ∧ Off (fun k => k = gt) w7 wz) := Lib.hid ⟨by
                          rw [freshN_next HA.out.1, HA.out.2.1, HA.out.2.2, hfv, Bool.or_true], by
                          have h1 := hT5.set_ k (.bool true)
                          rw [hwz, tkRow_set] at h1
                          rw [tkL_next HA.out.1, tkn_snoc, HA.out.2.1, hq1, Bool.or_true]
                          exact h1, by
                          have h1 := Off.setc w5 gt k (.bool true)
                          rw [hwz] at h1
                          exact (HF.out.2.2.trans (Off.of_new hcb.out _)).trans h1⟩
                        have HWZ := Lib.hid hwz
                        clear hfv hq1 hT5 hwz hcb HA HCX HT hS0
                        go_upto_region 40 with fail
                        (try rw [HWZ.out])
                        clear HWZ x0 xf
                        go_wp2_with fail
                        go_roundw
                        case rel => exact ⟨k + 1, true, by omega, by go_num, rfl, HN⟩
                        case measure => simp [intOf]; omega
                      | false =>
                        have HN : Hid (fr = freshN L Rr row (k + 1) ∧ Blk w5 gt 4 (tkRow (tkL L Rr (Rr ++ [row]) (k + 1))) ∧ Off (fun k => k = gt) w7 w5) := Lib.hid ⟨by
                          rw [freshN_next HA.out.1, HA.out.2.1, HA.out.2.2, hfv, Bool.or_false]; exact HF.out.1, by
                          rw [tkL_same HA.out.1 (by
                            rw [tkn_snoc, HA.out.2.1, HA.out.2.2]
                            cases tq <;> cases bk <;> first | rfl | cases hfv)]
                          exact hT5, HF.out.2.2.trans (Off.of_new hcb.out _)⟩
                        clear hfv hT5 hcb HA HCX HT hS0 x0 xf
                        go_wp2_with fail
                        go_roundw
                        case rel => exact ⟨k + 1, fr, by omega, by go_num, rfl, HN⟩
                        case measure => simp [intOf]; omega
                  · obtain rfl : n6 = k := by omega
                    have hdk : decide ((n6 : Int) < (n6 : Int)) = false := by simp
                    have HN : Hid ((ue && fr) = eachB σ (rowsF σ X (r + 1)) ∧ ∃ ps, RwI w wB wx σ gt (rowsF σ X (r + 1)) A' (r + 1) c' ps) := Lib.hid (by
                      obtain ⟨h1, h2, h3, h4, h5, h6, h6m, h7, h8, h9, h10⟩ := H7.out
                      obtain ⟨f1, f2, f3⟩ := HF.out
                      rw [h9.2.2]
                      refine ⟨?_, _, ⟨h4.offg f3 (fun b hb => hb.2) (fun b hb => by have := HE.out.2.2.2.2.2.1; omega), h6, h6m, ?_, h5.trans f3⟩⟩
                      · rw [eachB_snoc (fun x hx => (h9.2.1 x hx).ok) h9.1.ok, h10, f1]
                        congr 1
                        unfold freshN freshB
                        rw [HE.out.2.1, List.take_of_length_le (by rw [HE.out.2.2.1]; exact Nat.le_refl _)]
                      · have : tkL L Rr (Rr ++ [row]) n6 = (allF σ).map (tkn (Rr ++ [row])) := by rw [← HE.out.2.2.1, tkL_all, HE.out.2.1]
                        rw [this] at f2
                        exact f2)
                    clear HF
                    cases ue with
                    | false =>
                      go_wp2_with fail
                      go_roundw
                      case rel => exact ⟨r + 1, false, A', c', by omega, by go_num, rfl, rfl, HN⟩
                      case measure => simp [intOf]; omega
                    | true =>
                      go_wp2_with fail
                      go_roundw
                      case rel => exact ⟨r + 1, fr, A', c', by omega, by go_num, rfl, rfl, HN⟩
                      case measure => simp [intOf]; omega
          · obtain rfl : r = m := by omega
            have hdr : decide ((r : Int) < (r : Int)) = false := by simp
            obtain ⟨Rm, hRm⟩ : ∃ R, rowsF σ X r = R := ⟨_, rfl⟩
            rw [hRm] at HR
            have HM : Hid ((∀ x ∈ Rm, RowIn σ x) ∧ Rm.length ≤ 12) := Lib.hid ⟨(fun x hx => by rw [← hRm] at hx; exact rowsF_in hx), by rw [← hRm, rowsF_len]; exact hm12⟩
            have HT : Hid (Blk w9 gt 4 (tkRow (L.map (tkn Rm))) ∧ PAt Everywhere w9 A13 r c13 (Rm.map tup) ∧ Below w.heap.size w w9) := Lib.hid (by
              obtain ⟨ps, hp⟩ := HR.out.2
              have h1 := hp.tk
              rw [HE.out.2.1] at h1
              obtain ⟨A2, c2, e2, hP⟩ := hp.own.shape
              rw [hp.len] at e2 hP
              injection e2 with e3 e4 e5
              rw [← e3, ← e5, hp.map] at hP
              have h4 := HE.out.2.2.2.2.1
              have hz := HE.out.2.2.2.1
              have hb := HE.out.1.bel.size
              refine ⟨h1, hP.mono fun _ _ => trivial, HE.out.1.bel.trans ((h4.mono hb).trans (hp.off.below (by have := h4.size; omega) (fun b e => by omega)))⟩)
            have HU := Lib.hid HR.out.1
            clear hRm HR
            go_wp2_with fail
            go_loopw [22, 23] (fun v22 v23 wx => ∃ (k : Nat) (wh : Bool), k ≤ n6 ∧ v23 = .int .i64 (k : Int) ∧ v22 = .bool wh ∧ w9 = wx ∧ Hid (wh = wholeN L Rm k)) (fun _ v23 _ => n6 - (intOf v23).toNat)
            case atStart => exact ⟨0, true, Nat.zero_le _, rfl, rfl, rfl, Lib.hid rfl⟩
            case round =>
              obtain ⟨k, wh, hk6, rfl, rfl, rfl, HF⟩ := hrel
              by_cases hlk : k < n6
              · have hdk : decide ((k : Int) < (n6 : Int)) = true := by simpa using hlk
                obtain ⟨a, ha⟩ : ∃ a, L[k]? = some a := ⟨_, List.getElem?_eq_getElem (by rw [HE.out.2.2.1]; exact hlk)⟩
                obtain ⟨bk, hbk⟩ : ∃ bk, tkn Rm a = bk := ⟨_, rfl⟩
                have x0 : w9.cell? ⟨gt, k, none⟩ = some (.bool bk) := by
                  rw [HT.out.1.cell]
                  exact tkRow_get (by rw [List.getElem?_map, ha, ← hbk]; rfl)
                have HN : Hid ((wh && bk) = wholeN L Rm (k + 1)) := Lib.hid (by rw [wholeN_next ha, hbk, HF.out])
                clear ha hbk HF
                cases wh with
                | false =>
                  go_wp2_with fail
                  go_roundw
                  case rel => exact ⟨k + 1, false, by omega, by go_num, rfl, trivial, HN⟩
                  case measure => simp [intOf]; omega
                | true =>
                  go_wp2_with fail
                  go_roundw
                  case rel => exact ⟨k + 1, bk, by omega, by go_num, rfl, trivial, HN⟩
                  case measure => simp [intOf]; omega
              · obtain rfl : n6 = k := by omega
                have hdk : decide ((n6 : Int) < (n6 : Int)) = false := by simp
                have HWH : Hid (wh = wholeB σ Rm) := Lib.hid (by
                  rw [HF.out]
                  unfold wholeN wholeB
                  rw [HE.out.2.1, List.take_of_length_le (by rw [HE.out.2.2.1]; exact Nat.le_refl _)])
                have htv := fun b => told_vals (σ := σ) (R := Rm) (by rw [HS.out.2]; exact h2n) (by rw [HS.out.2]; exact hn4) HM.out.1 HM.out.2 b
                rw [← HWH.out, ← HU.out] at htv
                have ht1 := htv false
                have ht2 := htv true
                simp only [Bool.not_false, Bool.true_or, Bool.and_true, Bool.not_true, Bool.false_or] at ht1 ht2
                have HTV := Lib.hid (And.intro ht1 ht2)
                clear htv ht1 ht2 HF
                go_wp2_with fail
                refine (infos_any w9).mono ?_
                rintro e v1 ⟨rfl, hI1, hb1⟩
                have HC1 := Lib.hid (fun k e0 ht he => checkI (Rm.map tup) A13 r c13 (some ⟨w9.heap.size, 0, none⟩) false k e0 v1 (HT.out.2.1.bel hb1) hI1 ht he)
                have HB1 := Lib.hid hb1
                clear hI1 hb1
                cases ue with
                | true =>
                  cases wh with
                  | true =>
                    go_wp2_with fail
                    refine (HC1.out 0 0 HTV.out.1 rfl).mono ?_
                    rintro e v2 ⟨rfl, hb2⟩
                    have HB2 := Lib.hid (HB1.out.trans (hb2.mono HB1.out.size))
                    clear hb2
                    go_wp2_with fail
                    refine (infos_any v2).mono ?_
                    rintro e v3 ⟨rfl, hI3, hb3⟩
                    have HB3 := Lib.hid (HB2.out.trans (hb3.mono HB2.out.size))
                    have HC3 := Lib.hid (checkI (Rm.map tup) A13 r c13 (some ⟨v2.heap.size, 0, none⟩) true 0 0 v3 (HT.out.2.1.bel HB3.out) hI3 HTV.out.2 rfl)
                    clear hI3 hb3
                    go_wp2_with fail
                    refine HC3.out.mono ?_
                    rintro e v4 ⟨rfl, hb4⟩
                    have HB4 := Lib.hid (HB3.out.trans (hb4.mono HB3.out.size))
                    clear hb4 HC3
                    go_wp2_with fail
                    refine (works_any v4).mono ?_
                    rintro e v5 ⟨rfl, hb5⟩
                    have HB5 : Hid (Below w.heap.size w v5) := Lib.hid (HT.out.2.2.trans ((HB4.out.trans (hb5.mono HB4.out.size)).mono HT.out.2.2.size))
                    clear hb5
                    go_wp2_with fail
                    go_ret
                    exact ⟨rfl, HB5.out⟩
                  | false =>
                    go_wp2_with fail
                    refine (HC1.out 0 0 HTV.out.1 rfl).mono ?_
                    rintro e v2 ⟨rfl, hb2⟩
                    have HB2 := Lib.hid (HB1.out.trans (hb2.mono HB1.out.size))
                    clear hb2
                    go_wp2_with fail
                    refine (infos_any v2).mono ?_
                    rintro e v3 ⟨rfl, hI3, hb3⟩
                    have HB3 := Lib.hid (HB2.out.trans (hb3.mono HB2.out.size))
                    have HC3 := Lib.hid (checkI (Rm.map tup) A13 r c13 (some ⟨v2.heap.size, 0, none⟩) true 4 14 v3 (HT.out.2.1.bel HB3.out) hI3 HTV.out.2 rfl)
                    clear hI3 hb3
                    go_wp2_with fail
                    refine HC3.out.mono ?_
                    rintro e v4 ⟨rfl, hb4⟩
                    have HB4 := Lib.hid (HB3.out.trans (hb4.mono HB3.out.size))
                    clear hb4 HC3
                    go_wp2_with fail
                    refine (works_any v4).mono ?_
                    rintro e v5 ⟨rfl, hb5⟩
                    have HB5 : Hid (Below w.heap.size w v5) := Lib.hid (HT.out.2.2.trans ((HB4.out.trans (hb5.mono HB4.out.size)).mono HT.out.2.2.size))
                    clear hb5
                    go_wp2_with fail
                    go_ret
                    exact ⟨rfl, HB5.out⟩
                | false =>
                  cases wh with
                  | true =>
                    go_wp2_with fail
                    refine (HC1.out 4 14 HTV.out.1 rfl).mono ?_
                    rintro e v2 ⟨rfl, hb2⟩
                    have HB2 := Lib.hid (HB1.out.trans (hb2.mono HB1.out.size))
                    clear hb2
                    go_wp2_with fail
                    refine (infos_any v2).mono ?_
                    rintro e v3 ⟨rfl, hI3, hb3⟩
                    have HB3 := Lib.hid (HB2.out.trans (hb3.mono HB2.out.size))
                    have HC3 := Lib.hid (checkI (Rm.map tup) A13 r c13 (some ⟨v2.heap.size, 0, none⟩) true 4 14 v3 (HT.out.2.1.bel HB3.out) hI3 HTV.out.2 rfl)
                    clear hI3 hb3
                    go_wp2_with fail
                    refine HC3.out.mono ?_
                    rintro e v4 ⟨rfl, hb4⟩
                    have HB4 := Lib.hid (HB3.out.trans (hb4.mono HB3.out.size))
                    clear hb4 HC3
                    go_wp2_with fail
                    refine (works_any v4).mono ?_
                    rintro e v5 ⟨rfl, hb5⟩
                    have HB5 : Hid (Below w.heap.size w v5) := Lib.hid (HT.out.2.2.trans ((HB4.out.trans (hb5.mono HB4.out.size)).mono HT.out.2.2.size))
                    clear hb5
                    go_wp2_with fail
                    go_ret
                    exact ⟨rfl, HB5.out⟩
                  | false =>
                    go_wp2_with fail
                    refine (HC1.out 4 14 HTV.out.1 rfl).mono ?_
                    rintro e v2 ⟨rfl, hb2⟩
                    have HB2 := Lib.hid (HB1.out.trans (hb2.mono HB1.out.size))
                    clear hb2
                    go_wp2_with fail
                    refine (infos_any v2).mono ?_
                    rintro e v3 ⟨rfl, hI3, hb3⟩
                    have HB3 := Lib.hid (HB2.out.trans (hb3.mono HB2.out.size))
                    have HC3 := Lib.hid (checkI (Rm.map tup) A13 r c13 (some ⟨v2.heap.size, 0, none⟩) true 4 14 v3 (HT.out.2.1.bel HB3.out) hI3 HTV.out.2 rfl)
                    clear hI3 hb3
                    go_wp2_with fail
                    refine HC3.out.mono ?_
                    rintro e v4 ⟨rfl, hb4⟩
                    have HB4 := Lib.hid (HB3.out.trans (hb4.mono HB3.out.size))
                    clear hb4 HC3
                    go_wp2_with fail
                    refine (works_any v4).mono ?_
                    rintro e v5 ⟨rfl, hb5⟩
                    have HB5 : Hid (Below w.heap.size w v5) := Lib.hid (HT.out.2.2.trans ((HB4.out.trans (hb5.mono HB4.out.size)).mono HT.out.2.2.size))
                    clear hb5
                    go_wp2_with fail
                    go_ret
                    exact ⟨rfl, HB5.out⟩
end Go.Proofs.Ytigaondgopahgaa
