/- cover: named. -/
import Derived.Test.YtigaondgopahgaaH
namespace Go.Proofs.Ytigaondgopahgaa
open Go.RowKit
set_option linter.unusedVariables false
set_option linter.unusedSimpArgs false
attribute [local go_sem] Oper.semAt_some
theorem Ask.look2' {F : Nat → Prop} {w : World} {b1 b2 n : Nat} {l : List Inf} (h : Ask F w b1 b2 n l) (s : List UInt8) (hs : s.length ≤ maxLen) : ∃ s1 s2 p m hb, (Instr.lookup 54 (.map (some b1)) (.string (str s)) true).run Try.prog w = .ok (.tuple #[.agg #[.string s1, .string s2, .int .i64 p, .int .i64 m, .bool hb], .bool (inf l s).isSome]) w := by
  obtain ⟨p, m, h⟩ := h.look2 s hs
  exact ⟨_, _, p, m, _, h⟩
theorem nameds_all (l : List Inf) : ∀ ts : List Ty, nameds l ts = ts.all (named l)
  | [] => by simp [nameds]
  | t :: ts => by rw [nameds, nameds_all l ts, List.all_cons]
theorem named_eq (l : List Inf) (t : Ty) : named l t = (!(decide (t.k = 6) && (inf l t.nm).isNone) && nameds l t.ks) := by
  obtain ⟨k, nm, n, ks⟩ := t
  rw [named]
  show (!((k == 6) && (inf l nm).isNone) && nameds l ks) = (!(decide (k = 6) && (inf l nm).isNone) && nameds l ks)
  congr 3
set_option maxRecDepth 20000 in
set_option maxHeartbeats 8000000 in
theorem named_any {F : Nat → Prop} {l : List Inf} {b1 b2 en : Nat} : ∀ (t : Ty) (A : Option Addr) (c : Nat) (w : World), Ty.At F w A t.ks → t.ks.length ≤ c → c ≤ maxLen → Ask F w b1 b2 en l →
    Calls Try.prog 21 #[.agg #[.map (some b1), .map (some b2)], .slice A t.ks.length c] w fun e w' => e = .returned (.bool (nameds l t.ks)) ∧ Below w.heap.size w w' := Ty.ind fun k nm n ks ih A c w hA hc hm hS => by
  have hA : Ty.At F w A ks := hA
  have hc : ks.length ≤ c := hc
  show Calls Try.prog 21 #[.agg #[.map (some b1), .map (some b2)], .slice A ks.length c] w fun e w' => e = .returned (.bool (nameds l ks)) ∧ Below w.heap.size w w'
  obtain ⟨kl, hkl⟩ : ∃ kl, ks.length = kl := ⟨_, rfl⟩
  rw [hkl] at hc ⊢
  have hmx : kl ≤ 9223372036854775807 := by unfold maxLen at hm; omega
  obtain ⟨w0, hw0⟩ : ∃ w0, w.alloc (.cells #[.map (some b1), .map (some b2)] 57) = w0 := ⟨_, rfl⟩
  have hb0 : Below w.heap.size w w0 := by rw [← hw0]; exact (Below.refl _ _).alloc (Nat.le_refl _) _
  have hB0 : Blk w0 w.heap.size 57 #[.map (some b1), .map (some b2)] := by rw [← hw0]; exact Blk.new _ _ _
  obtain ⟨rv, hrv⟩ : ∃ rv, nameds l ks = rv := ⟨_, rfl⟩
  rw [hrv]
  have HRV : Hid (((∀ t ∈ ks, named l t = true) → rv = true) ∧ ((∃ t, t ∈ ks ∧ named l t = false) → rv = false)) := Lib.hid ⟨fun h => by rw [← hrv, nameds_all]; exact List.all_eq_true.2 h, fun ⟨t, ht, hf⟩ => by
    rw [← hrv, nameds_all]
    cases ha : ks.all (named l) with
    | false => rfl
    | true => rw [List.all_eq_true.1 ha t ht] at hf; cases hf⟩
  have HK := Lib.hid (And.intro hkl (And.intro (hA.bel hb0) (And.intro ih (hS.bel hb0))))
  have HB0 := Lib.hid (And.intro hb0 hB0)
  clear hkl hA ih hc hm hrv hS hb0 hB0
  go_enter Try.func21, Try.ntmps21
  go_upto_region 1 with fail
  (try rw [hw0])
  clear hw0
  go_wp2_with fail
  go_loopw [11] (fun iv wr => ∃ i : Nat, i ≤ kl ∧ iv = .int .i64 (i : Int) ∧ Hid (Below w0.heap.size w0 wr ∧ ∀ r : Nat, r < i → ∀ t, ks[r]? = some t → named l t = true)) (fun iv _ => kl - (intOf iv).toNat)
  case atStart => exact ⟨0, Nat.zero_le _, rfl, Lib.hid ⟨Below.refl _ _, fun r h => absurd h (Nat.not_lt_zero r)⟩⟩
  case round =>
    obtain ⟨i, hi, rfl, hX⟩ := hrel
    by_cases hli : i < kl
    · have hd : decide ((i : Int) < (kl : Int)) = true := by simpa using hli
      obtain ⟨t, ht⟩ : ∃ t, ks[i]? = some t := ⟨_, List.getElem?_eq_getElem (by rw [HK.out.1]; exact hli)⟩
      obtain ⟨b, off, A', c', rfl, _, hbl, z0, z1, z2, z3, hok, hlc, hcm, hAt⟩ := (HK.out.2.1.bel hX.out.1).get ht
      obtain ⟨tl, htl⟩ : ∃ tl, t.ks.length = tl := ⟨_, rfl⟩
      rw [htl] at z3
      obtain ⟨w6, hw6⟩ : ∃ w6, wr.alloc (.cells #[.int .u8 (t.k : Int), .string (str t.nm), .int .i64 t.n, .slice A' tl c'] 40) = w6 := ⟨_, rfl⟩
      have hb6 : Below wr.heap.size wr w6 := by rw [← hw6]; exact (Below.refl _ _).alloc (Nat.le_refl _) _
      have hB6 : Blk w6 wr.heap.size 40 #[.int .u8 (t.k : Int), .string (str t.nm), .int .i64 t.n, .slice A' tl c'] := by rw [← hw6]; exact Blk.new _ _ _
      obtain ⟨s1, s2, pp, mm, hb, hlk⟩ := ((HK.out.2.2.2.bel hX.out.1).bel hb6).look2' t.nm hok.2.2
      have hbox := (HB0.out.2.below hX.out.1 HB0.out.2.lt).below hb6 (HB0.out.2.below hX.out.1 HB0.out.2.lt).lt
      obtain ⟨w7, hw7⟩ : ∃ w7, w6.alloc (.cells #[.string s1, .string s2, .int .i64 pp, .int .i64 mm, .bool hb] 30) = w7 := ⟨_, rfl⟩
      have hb7 : Below w6.heap.size w6 w7 := by rw [← hw7]; exact (Below.refl _ _).alloc (Nat.le_refl _) _
      have a0 := hbox.cell 0
      have y1 := hB6.cell 1
      have q0 := (hB6.below hb7 hB6.lt).cell 0
      have q3 := (hB6.below hb7 hB6.lt).cell 3
      have p0 := (hbox.below hb7 hbox.lt).cell 0
      have p1 := (hbox.below hb7 hbox.lt).cell 1
      simp only [List.getElem?_toArray, List.getElem?_cons_zero, List.getElem?_cons_succ] at a0 y1 q0 q3 p0 p1
      have hk6 : (((t.k : Nat) : Int) == 6) = decide (t.k = 6) := eq_of t.k 6
      have hne := named_eq l t
      have HC := HK.out.2.2.1 t (List.mem_of_getElem? ht) A' c' w7 ((hAt.bel hb6).bel hb7) hlc hcm (((HK.out.2.2.2.bel hX.out.1).bel hb6).bel hb7)
      rw [htl] at HC
      obtain ⟨nk, hnk⟩ : ∃ nk, nameds l t.ks = nk := ⟨_, rfl⟩
      rw [hnk] at HC hne
      replace HC := Lib.hid HC
      have HB7 : Hid (Below w0.heap.size w0 w7) := Lib.hid (hX.out.1.trans ((hb6.trans (hb7.mono hb6.size)).mono hX.out.1.size))
      obtain ⟨d6, hd6⟩ : ∃ d6, decide (t.k = 6) = d6 := ⟨_, rfl⟩
      obtain ⟨is, his⟩ : ∃ is, (inf l t.nm).isSome = is := ⟨_, rfl⟩
      have hnone : (inf l t.nm).isNone = !is := by rw [← his]; cases inf l t.nm <;> rfl
      rw [hd6] at hk6
      rw [his] at hlk
      rw [hd6, hnone] at hne
      have HT := Lib.hid (And.intro ht hne)
      have hs6 : w6.heap.size = wr.heap.size + 1 := by rw [← hw6]; simp
      clear ht hne hAt hlc hcm htl hb6 hB6 hb7 hbl hnk hd6 his hnone hok hbox
      cases d6 with
      | true =>
        cases is with
        | false =>
          have HV : Hid (rv = false) := Lib.hid (HRV.out.2 ⟨t, List.mem_of_getElem? HT.out.1, by rw [HT.out.2]; rfl⟩)
          go_upto_region 4 with fail
          (try rw [hw6])
          (try simp only [hs6])
          clear hw6 z0 z1 z2 z3
          go_upto_region 5 with fail
          (try rw [hw7])
          clear hw7 hlk a0 y1
          go_wp2_with fail
          go_ret
          exact ⟨congrArg (fun b => Ending.returned (Value.bool b)) HV.out.symm, HB0.out.1.trans (HB7.out.mono HB0.out.1.size)⟩
        | true =>
          go_upto_region 4 with fail
          (try rw [hw6])
          (try simp only [hs6])
          clear hw6 z0 z1 z2 z3
          go_upto_region 5 with fail
          (try rw [hw7])
          clear hw7 hlk a0 y1
          go_wp2_with fail
          refine HC.out.mono ?_
          rintro e w8 ⟨rfl, hb8⟩
          have HB8 := Lib.hid (HB7.out.trans (hb8.mono HB7.out.size))
          clear hb8 HC HB7 q0 q3 p0 p1
          cases nk with
          | true =>
            have HN : Hid (Below w0.heap.size w0 w8 ∧ ∀ r : Nat, r < i + 1 → ∀ t, ks[r]? = some t → named l t = true) := Lib.hid ⟨HB8.out, fun r hr t' ht' => by
              by_cases e : r = i
              · subst e; rw [HT.out.1] at ht'; cases ht'; rw [HT.out.2]; rfl
              · exact hX.out.2 r (by omega) t' ht'⟩
            clear hX HT HB8
            go_wp2_with fail
            go_roundw
            case rel => exact ⟨i + 1, by omega, by go_num, HN⟩
            case measure => simp [intOf]; omega
          | false =>
            have HV : Hid (rv = false) := Lib.hid (HRV.out.2 ⟨t, List.mem_of_getElem? HT.out.1, by rw [HT.out.2]; rfl⟩)
            clear hX HT
            go_wp2_with fail
            go_ret
            exact ⟨congrArg (fun b => Ending.returned (Value.bool b)) HV.out.symm, HB0.out.1.trans (HB8.out.mono HB0.out.1.size)⟩
      | false =>
        cases is with
        | false =>
          go_upto_region 4 with fail
          (try rw [hw6])
          (try simp only [hs6])
          clear hw6 z0 z1 z2 z3
          go_upto_region 5 with fail
          (try rw [hw7])
          clear hw7 hlk a0 y1
          go_wp2_with fail
          refine HC.out.mono ?_
          rintro e w8 ⟨rfl, hb8⟩
          have HB8 := Lib.hid (HB7.out.trans (hb8.mono HB7.out.size))
          clear hb8 HC HB7 q0 q3 p0 p1
          cases nk with
          | true =>
            have HN : Hid (Below w0.heap.size w0 w8 ∧ ∀ r : Nat, r < i + 1 → ∀ t, ks[r]? = some t → named l t = true) := Lib.hid ⟨HB8.out, fun r hr t' ht' => by
              by_cases e : r = i
              · subst e; rw [HT.out.1] at ht'; cases ht'; rw [HT.out.2]; rfl
              · exact hX.out.2 r (by omega) t' ht'⟩
            clear hX HT HB8
            go_wp2_with fail
            go_roundw
            case rel => exact ⟨i + 1, by omega, by go_num, HN⟩
            case measure => simp [intOf]; omega
          | false =>
            have HV : Hid (rv = false) := Lib.hid (HRV.out.2 ⟨t, List.mem_of_getElem? HT.out.1, by rw [HT.out.2]; rfl⟩)
            clear hX HT
            go_wp2_with fail
            go_ret
            exact ⟨congrArg (fun b => Ending.returned (Value.bool b)) HV.out.symm, HB0.out.1.trans (HB8.out.mono HB0.out.1.size)⟩
        | true =>
          go_upto_region 4 with fail
          (try rw [hw6])
          (try simp only [hs6])
          clear hw6 z0 z1 z2 z3
          go_upto_region 5 with fail
          (try rw [hw7])
          clear hw7 hlk a0 y1
          go_wp2_with fail
          refine HC.out.mono ?_
          rintro e w8 ⟨rfl, hb8⟩
          have HB8 := Lib.hid (HB7.out.trans (hb8.mono HB7.out.size))
          clear hb8 HC HB7 q0 q3 p0 p1
          cases nk with
          | true =>
            have HN : Hid (Below w0.heap.size w0 w8 ∧ ∀ r : Nat, r < i + 1 → ∀ t, ks[r]? = some t → named l t = true) := Lib.hid ⟨HB8.out, fun r hr t' ht' => by
              by_cases e : r = i
              · subst e; rw [HT.out.1] at ht'; cases ht'; rw [HT.out.2]; rfl
              · exact hX.out.2 r (by omega) t' ht'⟩
            clear hX HT HB8
            go_wp2_with fail
            go_roundw
            case rel => exact ⟨i + 1, by omega, by go_num, HN⟩
            case measure => simp [intOf]; omega
          | false =>
            have HV : Hid (rv = false) := Lib.hid (HRV.out.2 ⟨t, List.mem_of_getElem? HT.out.1, by rw [HT.out.2]; rfl⟩)
            clear hX HT
            go_wp2_with fail
            go_ret
            exact ⟨congrArg (fun b => Ending.returned (Value.bool b)) HV.out.symm, HB0.out.1.trans (HB8.out.mono HB0.out.1.size)⟩
    · obtain rfl : i = kl := by omega
      have hd : decide ((i : Int) < (i : Int)) = false := by simp
      have HV : Hid (rv = true ∧ Below w.heap.size w wr) := Lib.hid ⟨HRV.out.1 fun t ht => by
        obtain ⟨r, hr⟩ := List.getElem?_of_mem ht
        exact hX.out.2 r (by have := (List.getElem?_eq_some_iff.1 hr).1; have := HK.out.1; omega) t hr, HB0.out.1.trans (hX.out.1.mono HB0.out.1.size)⟩
      clear hX
      go_wp2_with fail
      go_ret
      exact ⟨congrArg (fun b => Ending.returned (Value.bool b)) HV.out.1.symm, HV.out.2⟩
end Go.Proofs.Ytigaondgopahgaa
