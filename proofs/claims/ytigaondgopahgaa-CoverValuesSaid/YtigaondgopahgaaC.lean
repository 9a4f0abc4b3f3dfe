/- cover: count. -/
import Derived.Test.YtigaondgopahgaaW
namespace Go.Proofs.Ytigaondgopahgaa
open Go.RowKit
set_option linter.unusedVariables false
set_option linter.unusedSimpArgs false
attribute [local go_sem] Oper.semAt_some
/-- How far it has come: n, of n0, with s patterns gone through. -/
def Cnt (n0 s n : Nat) : Prop := (n ≤ 200 ∧ n = n0 + s) ∨ (200 < n ∧ n ≤ 401 - n0 ∧ 200 < n0 + s)
set_option maxRecDepth 20000 in
set_option maxHeartbeats 8000000 in
theorem count_any {F : Nat → Prop} : ∀ (t : Ty) (A : Option Addr) (c n0 : Nat) (w : World), Ty.At F w A t.ks → t.ks.length ≤ c → c ≤ maxLen → n0 ≤ 200 →
    Calls Try.prog 20 #[.slice A t.ks.length c, .int .i64 (n0 : Int)] w fun e w' => ∃ n : Nat, e = .returned (.int .i64 (n : Int)) ∧ ((n ≤ 200 ∧ n = n0 + Ty.partss t.ks) ∨ (200 < n ∧ n ≤ 402 - n0 ∧ 200 < n0 + Ty.partss t.ks)) ∧ Below w.heap.size w w' := Ty.ind fun k nm n ks ih A c n0 w hA hc hm hn0 => by
  have hA : Ty.At F w A ks := hA
  have hc : ks.length ≤ c := hc
  show Calls Try.prog 20 #[.slice A ks.length c, .int .i64 (n0 : Int)] w fun e w' => ∃ n : Nat, e = .returned (.int .i64 (n : Int)) ∧ ((n ≤ 200 ∧ n = n0 + Ty.partss ks) ∨ (200 < n ∧ n ≤ 402 - n0 ∧ 200 < n0 + Ty.partss ks)) ∧ Below w.heap.size w w'
  obtain ⟨kl, hkl⟩ : ∃ kl, ks.length = kl := ⟨_, rfl⟩
  rw [hkl] at hc ⊢
  have hmx : kl ≤ 9223372036854775807 := by unfold maxLen at hm; omega
  have HK := Lib.hid (And.intro hkl (And.intro hA ih))
  have HN0 := Lib.hid hn0
  clear hkl hA ih hc hm hn0
  go_enter Try.func20, Try.ntmps20
  go_wp2_with fail
  go_loopw [1, 9] (fun nv iv wr => ∃ i m : Nat, i ≤ kl ∧ iv = .int .i64 (i : Int) ∧ nv = .int .i64 (m : Int) ∧ Hid (Below w.heap.size w wr ∧ Cnt n0 (Ty.partss (ks.take i)) m)) (fun _ iv _ => kl - (intOf iv).toNat)
  case atStart => exact ⟨0, n0, Nat.zero_le _, rfl, rfl, Lib.hid ⟨Below.refl _ _, .inl ⟨HN0.out, by rw [List.take_zero]; simp [Ty.partss]⟩⟩⟩
  case round =>
    obtain ⟨i, m, hi, rfl, rfl, hX⟩ := hrel
    by_cases hli : i < kl
    · have hd : decide ((i : Int) < (kl : Int)) = true := by simpa using hli
      obtain ⟨t, ht⟩ : ∃ t, ks[i]? = some t := ⟨_, List.getElem?_eq_getElem (by rw [HK.out.1]; exact hli)⟩
      obtain ⟨b, off, A', c', rfl, _, hbl, z0, z1, z2, z3, _, hlc, hcm, hAt⟩ := (HK.out.2.1.bel hX.out.1).get ht
      have hmm : m ≤ 401 := by rcases hX.out.2 with h | h <;> omega
      have hps := Ty.partss_take ks ht
      have hpe := Ty.parts_eq t
      obtain ⟨tl, htl⟩ : ∃ tl, t.ks.length = tl := ⟨_, rfl⟩
      obtain ⟨w6, hw6⟩ : ∃ w6, wr.alloc (.cells #[.int .u8 (t.k : Int), .string (str t.nm), .int .i64 t.n, .slice A' tl c'] 40) = w6 := ⟨_, rfl⟩
      have hb6 : Below wr.heap.size wr w6 := by rw [← hw6]; exact (Below.refl _ _).alloc (Nat.le_refl _) _
      have hB6 : Blk w6 wr.heap.size 40 #[.int .u8 (t.k : Int), .string (str t.nm), .int .i64 t.n, .slice A' tl c'] := by rw [← hw6]; exact Blk.new _ _ _
      have y3 := hB6.cell 3
      simp only [List.getElem?_toArray, List.getElem?_cons_zero, List.getElem?_cons_succ] at y3
      have hle := Ty.partss_take_le ks (i + 1)
      rw [htl] at z3
      by_cases hm2 : m + 1 > 200
      · have hg : decide (((m : Int) + 1) > 200) = true := by simp; omega
        have hg2 : decide ((200 : Int) < ((m : Int) + 1)) = true := by simp; omega
        have HE : Hid (((m + 1 ≤ 200 ∧ m + 1 = n0 + Ty.partss ks) ∨ (200 < m + 1 ∧ m + 1 ≤ 402 - n0 ∧ 200 < n0 + Ty.partss ks)) ∧ Below w.heap.size w w6) := Lib.hid ⟨by
          have := HN0.out
          rcases hX.out.2 with h | h
          · exact .inr ⟨by omega, by omega, by omega⟩
          · exact .inr ⟨by omega, by omega, by omega⟩, hX.out.1.trans (hb6.mono hX.out.1.size)⟩
        clear ht hAt hlc hcm htl hb6 hB6 hX hbl hps hpe hle y3
        go_upto_region 4 with fail
        (try rw [hw6])
        clear hw6 z0 z1 z2 z3
        go_wp2_with fail
        go_ret
        exact ⟨m + 1, by push_cast; rfl, HE.out⟩
      · have hg : decide (((m : Int) + 1) > 200) = false := by simp; omega
        have hg2 : decide ((200 : Int) < ((m : Int) + 1)) = false := by simp; omega
        have HC := HK.out.2.2 t (List.mem_of_getElem? ht) A' c' (m + 1) w6 (hAt.bel hb6) hlc hcm (by omega)
        rw [htl] at HC
        rw [show (((m + 1 : Nat)) : Int) = (m : Int) + 1 by push_cast; rfl] at HC
        replace HC := Lib.hid HC
        have HE : Hid (∀ n : Nat, ((n ≤ 200 ∧ n = m + 1 + Ty.partss t.ks) ∨ (200 < n ∧ n ≤ 402 - (m + 1) ∧ 200 < m + 1 + Ty.partss t.ks)) → Cnt n0 (Ty.partss (ks.take (i + 1))) n) := Lib.hid fun n hn => by
          unfold Cnt
          have := HN0.out
          rcases hX.out.2 with h | h
          · rcases hn with hn | hn
            · exact .inl ⟨hn.1, by omega⟩
            · exact .inr ⟨hn.1, by omega, by omega⟩
          · omega
        have HB := Lib.hid (hX.out.1.trans (hb6.mono hX.out.1.size))
        clear ht hAt hlc hcm htl hb6 hB6 hX hbl hps hpe hle
        go_upto_region 4 with fail
        (try rw [hw6])
        clear hw6 z0 z1 z2 z3
        go_wp2_with fail
        refine HC.out.mono ?_
        rintro e w7 ⟨n, rfl, hn, hb7⟩
        have HN2 := Lib.hid (And.intro (HB.out.trans (hb7.mono HB.out.size)) (HE.out n hn))
        clear hn hb7 HC HE HB y3
        go_wp2_with fail
        go_roundw
        case rel => exact ⟨i + 1, n, by omega, by go_num, rfl, HN2⟩
        case measure => simp [intOf]; omega
    · obtain rfl : i = kl := by omega
      have hd : decide ((i : Int) < (i : Int)) = false := by simp
      have HE : Hid (((m ≤ 200 ∧ m = n0 + Ty.partss ks) ∨ (200 < m ∧ m ≤ 402 - n0 ∧ 200 < n0 + Ty.partss ks)) ∧ Below w.heap.size w wr) := Lib.hid ⟨by
        have h := hX.out.2
        rw [List.take_of_length_le (by rw [HK.out.1]; omega)] at h
        rcases h with h | h
        · exact .inl h
        · exact .inr ⟨h.1, by omega, h.2.2⟩, hX.out.1⟩
      clear hX
      go_wp2_with fail
      go_ret
      exact ⟨m, rfl, HE.out⟩
end Go.Proofs.Ytigaondgopahgaa
