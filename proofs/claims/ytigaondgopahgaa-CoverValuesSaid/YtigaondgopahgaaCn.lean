/- cover: the reference's Count; large. -/
import Derived.Test.YtigaondgopahgaaOe
namespace Go.Proofs.Ytigaondgopahgaa
open Go.RowKit Ty
set_option linter.unusedVariables false
set_option linter.unusedSimpArgs false
attribute [local go_sem] Oper.semAt_some
theorem wrap_add (x y : Int) : wrap64 (wrap64 x + wrap64 y) = wrap64 (x + y) := by unfold wrap64; omega
theorem wrap_small {x : Nat} (h : x ≤ 1000000) : wrap64 (x : Int) = (x : Int) := by unfold wrap64; omega
theorem wrap_rng (x : Int) : -9223372036854775808 ≤ wrap64 x ∧ wrap64 x < 9223372036854775808 := by unfold wrap64; omega
/-- All but those at the top. -/
def under : List Ty → Nat
  | [] => 0
  | t :: ts => partss t.ks + under ts
theorem partss_under : ∀ ts : List Ty, partss ts = ts.length + under ts
  | [] => rfl
  | t :: ts => by rw [partss, parts_eq, partss_under ts, under, List.length_cons]; omega
theorem under_app : ∀ a b : List Ty, under (a ++ b) = under a + under b
  | [], b => by rw [List.nil_append, under, Nat.zero_add]
  | t :: a, b => by rw [List.cons_append, under, under, under_app a b]; omega
theorem under_snoc {ts : List Ty} {i : Nat} {t : Ty} (h : ts[i]? = some t) : under (ts.take (i + 1)) = under (ts.take i) + partss t.ks := by
  rw [List.take_add_one, h, under_app]; rfl
set_option maxRecDepth 20000 in
set_option maxHeartbeats 8000000 in
theorem rcount_any {F : Nat → Prop} : ∀ (t : Ty) (A : Option Addr) (c : Nat) (w : World), Ty.At F w A t.ks → t.ks.length ≤ c → c ≤ maxLen →
    Calls Try.prog 17 #[.slice A t.ks.length c] w fun e w' => e = .returned (.int .i64 (wrap64 (partss t.ks : Nat))) ∧ w = w' := Ty.ind fun k nm n ks ih A c w hA hc hm => by
  have hA : Ty.At F w A ks := hA
  have hc : ks.length ≤ c := hc
  show Calls Try.prog 17 #[.slice A ks.length c] w fun e w' => e = .returned (.int .i64 (wrap64 (partss ks : Nat))) ∧ w = w'
  obtain ⟨kl, hkl⟩ : ∃ kl, ks.length = kl := ⟨_, rfl⟩
  rw [hkl] at hc ⊢
  have hmx : kl ≤ 9223372036854775807 := by unfold maxLen at hm; omega
  have HK := Lib.hid (And.intro hkl (And.intro hA ih))
  clear hkl hA ih hc hm
  go_enter Try.func17, Try.ntmps17
  go_wp2_with fail
  go_loopw [3, 4] (fun nv iv wr => ∃ (i : Nat) (z : Int), i ≤ kl ∧ iv = .int .i64 (i : Int) ∧ nv = .int .i64 z ∧ w = wr ∧ Hid (z = wrap64 ((kl : Int) + (under (ks.take i) : Nat)))) (fun _ iv _ => kl - (intOf iv).toNat)
  case atStart => exact ⟨0, kl, Nat.zero_le _, rfl, rfl, rfl, Lib.hid (by rw [List.take_zero]; unfold under wrap64; omega)⟩
  case round =>
    obtain ⟨i, z, hi, rfl, rfl, rfl, hZ⟩ := hrel
    by_cases hli : i < kl
    · have hd : decide ((i : Int) < (kl : Int)) = true := by simpa using hli
      obtain ⟨t, ht⟩ : ∃ t, ks[i]? = some t := ⟨_, List.getElem?_eq_getElem (by rw [HK.out.1]; exact hli)⟩
      obtain ⟨b, off, A', c', rfl, _, hbl, z0, z1, z2, z3, _, hlc, hcm, hAt⟩ := HK.out.2.1.get ht
      have HC := Lib.hid (HK.out.2.2 t (List.mem_of_getElem? ht) A' c' w hAt hlc hcm)
      have HN : Hid (wrap64 (z + wrap64 (partss t.ks : Nat)) = wrap64 ((kl : Int) + (under (ks.take (i + 1)) : Nat))) := Lib.hid (by
        rw [hZ.out, wrap_add, under_snoc ht]
        congr 1
        push_cast
        omega)
      clear ht hAt hlc hcm hbl z0 z1 z2 hZ
      go_wp2_with fail
      refine HC.out.mono ?_
      rintro e w7 ⟨rfl, rfl⟩
      clear HC z3
      go_wp2_with fail
      go_roundw
      case rel => exact ⟨i + 1, _, by omega, by go_num, rfl, trivial, HN⟩
      case measure => simp [intOf]; omega
    · obtain rfl : i = kl := by omega
      have hd : decide ((i : Int) < (i : Int)) = false := by simp
      have HV : Hid (z = wrap64 (partss ks : Nat)) := Lib.hid (by
        rw [hZ.out, partss_under, HK.out.1, List.take_of_length_le (by rw [HK.out.1]; exact Nat.le_refl _)]
        congr 1)
      clear hZ
      go_wp2_with fail
      go_ret
      exact ⟨by rw [HV.out] <;> rfl, rfl⟩
/-- More than a statement asks? -/
def largeB (n m : Nat) (z : Int) : Bool := decide (300 < n) || (decide (60 < m) || decide (3000 < z))
set_option maxRecDepth 20000 in
set_option maxHeartbeats 8000000 in
theorem large_any {F : Nat → Prop} (ps : List Ty) (A : Option Addr) (n c : Nat) (B : Option Addr) (m d : Nat) (w : World) (hA : PAt F w A n c ps) (hm : m ≤ 9223372036854775807) :
    Calls Try.prog 9 #[.slice A n c, .slice B m d] w fun e w' => e = .returned (.bool (largeB n m (wrap64 (partss ps : Nat)))) ∧ w = w' := by
  have hc := hA.cap
  have hl := hA.le
  unfold maxLen at hc
  have hnx : n ≤ 9223372036854775807 := by omega
  have hC := rcount_any (F := F) (.node 0 [] 0 ps) A c w hA.at_ (by show ps.length ≤ c; rw [hA.len]; exact hA.le) hA.cap
  change Calls Try.prog 17 #[.slice A ps.length c] w (fun e w' => e = .returned (.int .i64 (wrap64 (partss ps : Nat))) ∧ w = w') at hC
  rw [hA.len] at hC
  obtain ⟨z, hz⟩ : ∃ z, wrap64 (partss ps : Nat) = z := ⟨_, rfl⟩
  rw [hz] at hC ⊢
  have hzr := wrap_rng (partss ps : Nat)
  rw [hz] at hzr
  replace hC := Lib.hid hC
  clear hA hc hl hz
  by_cases h1 : 300 < n
  · have hg : decide ((n : Int) > 300) = true := by simp; omega
    have hg2 : decide ((300 : Int) < (n : Int)) = true := by simp; omega
    have HV : Hid (largeB n m z = true) := Lib.hid (by unfold largeB; rw [decide_eq_true h1]; rfl)
    go_enter Try.func9, Try.ntmps9
    go_wp2_with fail
    go_ret
    exact ⟨by rw [HV.out] <;> rfl, rfl⟩
  · have hg : decide ((n : Int) > 300) = false := by simp; omega
    have hg2 : decide ((300 : Int) < (n : Int)) = false := by simp; omega
    by_cases h2 : 60 < m
    · have hk : decide ((m : Int) > 60) = true := by simp; omega
      have hk2 : decide ((60 : Int) < (m : Int)) = true := by simp; omega
      have HV : Hid (largeB n m z = true) := Lib.hid (by unfold largeB; rw [decide_eq_true h2]; simp)
      go_enter Try.func9, Try.ntmps9
      go_wp2_with fail
      go_ret
      exact ⟨by rw [HV.out] <;> rfl, rfl⟩
    · have hk : decide ((m : Int) > 60) = false := by simp; omega
      have hk2 : decide ((60 : Int) < (m : Int)) = false := by simp; omega
      by_cases h3 : 3000 < z
      · have HV : Hid (largeB n m z = true) := Lib.hid (by unfold largeB; rw [decide_eq_true h3]; simp)
        have hq : decide (z > 3000) = true := decide_eq_true h3
        go_enter Try.func9, Try.ntmps9
        go_wp2_with fail
        refine hC.out.mono ?_
        rintro e w7 ⟨rfl, rfl⟩
        go_wp2_with fail
        go_ret
        exact ⟨by rw [HV.out] <;> rfl, rfl⟩
      · have HV : Hid (largeB n m z = false) := Lib.hid (by unfold largeB; rw [decide_eq_false h1, decide_eq_false h2, decide_eq_false h3]; rfl)
        have hq : decide (z > 3000) = false := decide_eq_false h3
        go_enter Try.func9, Try.ntmps9
        go_wp2_with fail
        refine hC.out.mono ?_
        rintro e w7 ⟨rfl, rfl⟩
        go_wp2_with fail
        go_ret
        exact ⟨by rw [HV.out] <;> rfl, rfl⟩
end Go.Proofs.Ytigaondgopahgaa
