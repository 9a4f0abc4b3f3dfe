/- types: each, for any closure that it is handed. -/
import Derived.Test.YtndhojnfjlkojaaH
import Derived.Test.YtndhojnfjlkojaaTake
import Derived.Shelf.Abstract
namespace Go.Proofs.Ytndhojnfjlkojaa
open Go.RowKit
set_option linter.unusedVariables false
set_option linter.unusedSimpArgs false
attribute [local go_sem] Oper.semAt_some
mutual
def Ty.nums : Ty → List Int
  | .node k nm n ks => if k = 1 then [n] else Ty.numss ks
def Ty.numss : List Ty → List Int
  | [] => []
  | t :: ts => Ty.nums t ++ Ty.numss ts
end
theorem Ty.numss_push : ∀ (ts : List Ty) (t : Ty), Ty.numss (ts ++ [t]) = Ty.numss ts ++ t.nums
  | [], t => by simp [Ty.numss]
  | u :: ts, t => by rw [List.cons_append, Ty.numss, Ty.numss, Ty.numss_push ts t, List.append_assoc]
theorem Ty.numss_mem : ∀ {ts : List Ty} {t : Ty} {m : Int}, t ∈ ts → m ∈ t.nums → m ∈ Ty.numss ts
  | [], _, _, h, _ => by cases h
  | u :: ts, t, m, h, hm => by
    rw [Ty.numss, List.mem_append]
    rcases List.mem_cons.1 h with rfl | h
    · exact .inl hm
    · exact .inr (Ty.numss_mem h hm)
set_option maxRecDepth 20000 in
set_option maxHeartbeats 8000000 in
theorem each_any {F : Nat → Prop} (fv : Nat) (hE : Enters Try.prog fv) (caps : Array Value) (J : List Int → World → Prop) (K : World → Prop) (NS : Int → Prop)
    (hJ : ∀ d w w', J d w → Below w.heap.size w w' → J d w')
    (hcb : ∀ n d w, NS n → J d w → Calls Try.prog fv (#[.int .i64 n] ++ caps) w fun e w' => ∃ b, e = .returned (.bool b) ∧ Off (fun g => ¬ F g) w w' ∧ (b = true → J (d ++ [n]) w') ∧ (b = false → K w')) :
    ∀ (t : Ty) (A : Option Addr) (c : Nat) (d : List Int) (w : World), Ty.At F w A t.ks → t.ks.length ≤ c → c ≤ maxLen → (∀ m ∈ t.nums, NS m) → J d w →
    Calls Try.prog 44 #[t.val A c, .func (.func fv) #[] caps] w fun e w' => ∃ b, e = .returned (.bool b) ∧ Off (fun g => ¬ F g) w w' ∧ (b = true → J (d ++ t.nums) w') ∧ (b = false → K w') := Ty.ind fun k nm n ks ih A c d w hA hc hm hN hJ0 => by
  have hA : Ty.At F w A ks := hA
  have hc : ks.length ≤ c := hc
  show Calls Try.prog 44 #[.agg #[.int .u8 (k : Int), .string (str nm), .int .i64 n, .slice A ks.length c], .func (.func fv) #[] caps] w _
  obtain ⟨kl, hkl⟩ : ∃ kl, ks.length = kl := ⟨_, rfl⟩
  rw [hkl] at hc ⊢
  have hmx : kl ≤ 9223372036854775807 := by unfold maxLen at hm; omega
  obtain ⟨w0, hw0⟩ : ∃ w0, w.alloc (.cells #[.int .u8 (k : Int), .string (str nm), .int .i64 n, .slice A kl c] 24) = w0 := ⟨_, rfl⟩
  have hb0 : Below w.heap.size w w0 := by rw [← hw0]; exact (Below.refl _ _).alloc (Nat.le_refl _) _
  have hB0 : Blk w0 w.heap.size 24 #[.int .u8 (k : Int), .string (str nm), .int .i64 n, .slice A kl c] := by rw [← hw0]; exact Blk.new _ _ _
  have d0 := hB0.cell 0
  have d1 := hB0.cell 1
  have d2 := hB0.cell 2
  have d3 := hB0.cell 3
  simp only [List.getElem?_toArray, List.getElem?_cons_zero, List.getElem?_cons_succ] at d0 d1 d2 d3
  have hEn : ∀ (args : Array Value) (w : World), (callFunc fv args).run Try.prog w = .ok (.enter fv args) w := hE
  have HO0 : Hid (Off (fun g => ¬ F g) w w0) := Lib.hid (Off.of_new hb0 _)
  have HJ0 := Lib.hid (hJ _ _ _ hJ0 hb0)
  have HA0 := Lib.hid (hA.bel hb0)
  have HN := Lib.hid hN
  have HH := Lib.hid (And.intro hJ hcb)
  have HK := Lib.hid (And.intro hkl ih)
  have hk1 : (((k : Nat) : Int) == 1) = decide (k = 1) := by
    by_cases e : k = 1
    · subst e; rfl
    · rw [decide_eq_false e]; simp; omega
  clear hb0 hB0 hJ0 hA hN hkl ih hm hc hJ hcb
  by_cases e1 : k = 1
  · subst e1
    have HC := Lib.hid (HH.out.2 n d w0 (HN.out n (by simp [Ty.nums])) HJ0.out)
    replace hw0 : w.alloc (.cells #[.int .u8 1, .string (str nm), .int .i64 n, .slice A kl c] 24) = w0 := hw0
    replace d0 : w0.cell? ⟨w.heap.size, 0, none⟩ = some (.int .u8 1) := d0
    show Calls Try.prog 44 #[.agg #[.int .u8 1, .string (str nm), .int .i64 n, .slice A kl c], .func (.func fv) #[] caps] w _
    clear hk1
    go_enter Try.func44, Try.ntmps44
    go_upto_region 1 with fail
    (try rw [hw0])
    clear hw0
    go_wp2_with fail
    refine HC.out.mono ?_
    rintro e w7 ⟨b, rfl, ho, h1, h2⟩
    have HR := Lib.hid (And.intro (HO0.out.trans ho) (And.intro h1 h2))
    clear ho h1 h2 HC
    go_wp2_with fail
    go_ret
    exact ⟨b, rfl, HR.out.1, by simpa [Ty.nums] using HR.out.2.1, HR.out.2.2⟩
  rw [decide_eq_false e1] at hk1
  have hns : Ty.nums (.node k nm n ks) = Ty.numss ks := by rw [Ty.nums, if_neg e1]
  rw [hns] at HN ⊢
  clear hns
  go_enter Try.func44, Try.ntmps44
  go_upto_region 1 with fail
  (try rw [hw0])
  clear hw0
  go_wp2_with fail
  clear d0 d1 d2 d3 hk1
  go_loopw [17] (fun iv wr => ∃ i : Nat, i ≤ kl ∧ iv = .int .i64 (i : Int) ∧ Hid (Off (fun g => ¬ F g) w wr ∧ Ty.At F wr A ks ∧ J (d ++ Ty.numss (ks.take i)) wr)) (fun iv _ => kl - (intOf iv).toNat)
  case atStart => exact ⟨0, Nat.zero_le _, rfl, Lib.hid ⟨HO0.out, HA0.out, by rw [List.take_zero]; simpa [Ty.numss] using HJ0.out⟩⟩
  case round =>
    clear HO0 HA0 HJ0
    obtain ⟨i, hi, rfl, hX⟩ := hrel
    by_cases hli : i < kl
    · have hd : decide ((i : Int) < (kl : Int)) = true := by simpa using hli
      obtain ⟨t, ht⟩ : ∃ t, ks[i]? = some t := ⟨_, List.getElem?_eq_getElem (by rw [HK.out.1]; exact hli)⟩
      have hAX := hX.out.2.1
      obtain ⟨b, off, A', c', rfl, _, hbl, z0, z1, z2, z3, _, hlc, hcm, hAt⟩ := hAX.get ht
      have hti : Ty.numss (ks.take (i + 1)) = Ty.numss (ks.take i) ++ t.nums := by
        rw [List.take_add_one, ht]
        exact Ty.numss_push _ _
      obtain ⟨tl, htl⟩ : ∃ tl, t.ks.length = tl := ⟨_, rfl⟩
      obtain ⟨w6, hw6⟩ : ∃ w6, wr.alloc (.cells #[.int .u8 (t.k : Int), .string (str t.nm), .int .i64 t.n, .slice A' tl c'] 24) = w6 := ⟨_, rfl⟩
      have hb6 : Below wr.heap.size wr w6 := by rw [← hw6]; exact (Below.refl _ _).alloc (Nat.le_refl _) _
      have hB6 : Blk w6 wr.heap.size 24 #[.int .u8 (t.k : Int), .string (str t.nm), .int .i64 t.n, .slice A' tl c'] := by rw [← hw6]; exact Blk.new _ _ _
      have y0 := hB6.cell 0
      have y1 := hB6.cell 1
      have y2 := hB6.cell 2
      have y3 := hB6.cell 3
      simp only [List.getElem?_toArray, List.getElem?_cons_zero, List.getElem?_cons_succ] at y0 y1 y2 y3
      have HC := HK.out.2 t (List.mem_of_getElem? ht) A' c' _ w6 (hAt.bel hb6) hlc hcm (fun m hm => HN.out m (Ty.numss_mem (List.mem_of_getElem? ht) hm)) (HH.out.1 _ _ _ hX.out.2.2 hb6)
      unfold Ty.val at HC
      rw [htl] at HC z3
      rw [List.append_assoc, ← hti] at HC
      replace HC := Lib.hid HC
      have HO6 : Hid (Off (fun g => ¬ F g) w w6 ∧ Ty.At F w6 (some ⟨b, off, none⟩) ks) := Lib.hid ⟨hX.out.1.trans (Off.of_new hb6 _), hAX.bel hb6⟩
      clear ht hAt hAX hti hlc hcm htl hb6 hB6 hX hbl
      go_upto_region 6 with fail
      (try rw [hw6])
      clear hw6 z0 z1 z2 z3
      go_wp2_with fail
      refine HC.out.mono ?_
      rintro e w7 ⟨bt, rfl, ho7, h1, h2⟩
      have HR := Lib.hid (And.intro (HO6.out.1.trans ho7) (And.intro (HO6.out.2.off ho7 (fun g hg hn => hn hg)) (And.intro h1 h2)))
      clear ho7 h1 h2 HC HO6 y0 y1 y2 y3
      cases bt with
      | true =>
        have HN2 : Hid (Off (fun g => ¬ F g) w w7 ∧ Ty.At F w7 (some ⟨b, off, none⟩) ks ∧ J (d ++ Ty.numss (ks.take (i + 1))) w7) := Lib.hid ⟨HR.out.1, HR.out.2.1, HR.out.2.2.1 rfl⟩
        clear HR
        go_wp2_with fail
        go_roundw
        case rel => exact ⟨i + 1, by omega, by go_num, HN2⟩
        case measure => simp [intOf]; omega
      | false =>
        have HN2 := Lib.hid (And.intro HR.out.1 (HR.out.2.2.2 rfl))
        clear HR
        go_wp2_with fail
        go_ret
        exact ⟨false, rfl, HN2.out.1, (fun h => by cases h), fun _ => HN2.out.2⟩
    · obtain rfl : i = kl := by omega
      have hd : decide ((i : Int) < (i : Int)) = false := by simp
      go_wp2_with fail
      go_ret
      exact ⟨true, rfl, hX.out.1, fun _ => by
        have := hX.out.2.2
        rwa [List.take_of_length_le (by rw [HK.out.1]; omega)] at this, fun h => by cases h⟩
end Go.Proofs.Ytndhojnfjlkojaa
