/- heap: Vast; sameList. -/
import Derived.Test.YtclkkfffecmjnaaAd
import Derived.Lib.MinMax
namespace Go.Proofs.Ytclkkfffecmjnaa
open Go.RowKit
set_option linter.unusedVariables false
attribute [local go_sem] Oper.semAt_some
def sizesO (o : Ov) : Nat := o.o.ws.length + o.o.t.length + o.roots.length
set_option maxRecDepth 20000 in
set_option maxHeartbeats 2000000 in
theorem vast_any (A : Option Addr) (len cap : Nat) (ls : List Ov) (w : World) (hl : ls.length = len) (hcap : len ≤ maxLen) (hA : OpsM w A ls) (hT : ∀ o ∈ ls, LtO o) :
    Calls Try.prog 11 #[.slice A len cap] w fun e w' => ∃ b, e = .returned (.bool b) ∧ (b = false → ls.length ≤ 100 ∧ ∀ o ∈ ls, Fits o) ∧ Below w.heap.size w w' := by
  by_cases h100 : 100 < len
  · have hd : decide ((len : Int) > (100 : Int)) = true := by simp; omega
    clear hA hT
    go_enter Try.func11, Try.ntmps11
    go_wp2_with fail
    go_ret
    exact ⟨true, rfl, (fun h => by cases h), Below.refl _ _⟩
  · have hd : decide ((len : Int) > (100 : Int)) = false := by simp; omega
    have HL := Lib.hid hl
    have HA := Lib.hid (And.intro hA hT)
    have h12 : len ≤ 100 := by omega
    clear hA hT hl h100 hcap
    go_enter Try.func11, Try.ntmps11
    go_wp2_with fail
    go_loopw [3, 4] (fun nv iv wr => ∃ k s q : Nat, k ≤ len ∧ iv = .int .i64 (k : Int) ∧ nv = .int .i64 (s : Int) ∧ s ≤ k * 65536 ∧ wr = w.drewN q ∧ Hid (∀ j o, j < k → ls[j]? = some o → min (sizesO o) 65536 ≤ s)) (fun _ iv _ => len - (intOf iv).toNat)
    case atStart => exact ⟨0, 0, 0, Nat.zero_le _, rfl, rfl, Nat.zero_le _, rfl, Lib.hid fun j st hj => by omega⟩
    case round =>
      obtain ⟨k, s, q, hk, rfl, rfl, hs, rfl, hR⟩ := hrel
      by_cases hlt : k < len
      · have hd2 : decide ((k : Int) < (len : Int)) = true := by simpa using hlt
        obtain ⟨o, ho⟩ : ∃ o, ls[k]? = some o := ⟨_, List.getElem?_eq_getElem (by rw [HL.out]; exact hlt)⟩
        obtain ⟨b, off, B, c, R, d, rfl, _, hc, hv⟩ := HA.out.1 k o ho
        have c5 : w.cell? ⟨b, off + k * 10 + 5, none⟩ = some (.slice B o.o.ws.length c) := hc 5 _ rfl
        have c6 : w.cell? ⟨b, off + k * 10 + 6, none⟩ = some (.string (str o.o.t)) := hc 6 _ rfl
        have c9 : w.cell? ⟨b, off + k * 10 + 9, none⟩ = some (.slice R o.roots.length d) := hc 9 _ rfl
        obtain ⟨hl1, hl3, hl2⟩ := HA.out.2 o (List.mem_of_getElem? ho)
        have hsz : (str o.o.t).size = o.o.t.length := str_size _
        have HO := Lib.hid (And.intro ho (show sizesO o = o.o.ws.length + o.o.t.length + o.roots.length from rfl))
        obtain ⟨x, hx⟩ : ∃ x, o.o.ws.length = x := ⟨_, rfl⟩
        obtain ⟨y, hy⟩ : ∃ y, o.o.t.length = y := ⟨_, rfl⟩
        obtain ⟨z, hz⟩ : ∃ z, o.roots.length = z := ⟨_, rfl⟩
        rw [hx] at c5 hl1 HO
        rw [hy] at hl3 hsz HO
        rw [hz] at c9 hl2 HO
        clear hc hv ho hx hy hz
        have HA2 := HA
        go_wp2_with fail
        go_quiet (fail)
        go_wp2_with fail
        have hfin : Hid (∀ (j : Nat) (o : Ov), j < k + 1 → ls[j]? = some o → min (sizesO o) 65536 ≤ s + min (x + y + z) 65536) := Lib.hid fun j o' hj ho' => by
          by_cases e : j = k
          · subst e
            rw [HO.out.1] at ho'
            cases ho'
            rw [HO.out.2]; omega
          · have := hR.out j o' (by omega) ho'; omega
        go_roundw
        case rel => exact ⟨k + 1, s + min (x + y + z) 65536, q + nq, by omega, by go_num, congrArg (Value.int .i64) (by omega), by omega, rfl, hfin⟩
        case measure => simp [intOf]; omega
      · obtain rfl : len = k := by omega
        have hd2 : decide ((len : Int) < (len : Int)) = false := by simp
        by_cases hb : 16384 < s
        · have hd3 : decide ((s : Int) > (16384 : Int)) = true := by simp; omega
          go_wp2_with fail
          go_ret
          exact ⟨true, rfl, (fun h => by cases h), drewN_below w q⟩
        · have hd3 : decide ((s : Int) > (16384 : Int)) = false := by simp; omega
          go_wp2_with fail
          go_ret
          refine ⟨false, rfl, fun _ => ⟨by rw [HL.out]; exact h12, fun o ho => ?_⟩, drewN_below w q⟩
          obtain ⟨j, hj, rfl⟩ := List.getElem_of_mem ho
          have := hR.out j _ (by rw [← HL.out]; exact hj) (List.getElem?_eq_getElem hj)
          unfold sizesO at this
          unfold Fits
          omega
/-- sameList, of lists that are the same. -/
theorem samelist_ok (A B : Option Addr) (n c d : Nat) (zs : List Int) (w : World) (hn : zs.length = n) (hl : n ≤ 9223372036854775806) (hA : Ints w A zs) (hB : Ints w B zs) :
    Calls Try.prog 23 #[.slice A n c, .slice B n d] w fun e w' => e = .returned (.bool true) ∧ Below w.heap.size w w' := by
  have HN := Lib.hid (And.intro hn (And.intro hA hB))
  clear hA hB hn
  go_enter Try.func23, Try.ntmps23
  go_wp2_with fail
  go_loopw [5] (fun iv wr => ∃ k q : Nat, k ≤ n ∧ iv = .int .i64 (k : Int) ∧ wr = w.drewN q) (fun iv _ => n - (intOf iv).toNat)
  case atStart => exact ⟨0, 0, Nat.zero_le _, rfl, rfl⟩
  case round =>
    obtain ⟨k, q, hk, rfl, rfl⟩ := hrel
    by_cases hlt : k < n
    · have hd : decide ((k : Int) < (n : Int)) = true := by simpa using hlt
      obtain ⟨z, hz⟩ : ∃ z, zs[k]? = some z := ⟨_, List.getElem?_eq_getElem (by rw [HN.out.1]; exact hlt)⟩
      obtain ⟨b, off, rfl, _, c0, _⟩ := HN.out.2.1 k z hz
      obtain ⟨b', off', rfl, _, c0', _⟩ := HN.out.2.2 k z hz
      clear hz
      go_wp2_with fail
      go_quiet (fail)
      go_wp2_with fail
      go_roundw
      case rel => exact ⟨k + 1, _, by omega, by go_num, rfl⟩
      case measure => simp [intOf]; omega
    · obtain rfl : n = k := by omega
      have hd : decide ((n : Int) < (n : Int)) = false := by simp
      go_wp2_with fail
      go_ret
      exact ⟨rfl, drewN_below w q⟩
end Go.Proofs.Ytclkkfffecmjnaa
