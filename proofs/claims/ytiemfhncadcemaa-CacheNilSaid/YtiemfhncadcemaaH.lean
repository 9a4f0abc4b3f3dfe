/- New, walked. -/
import Derived.Test.YtiemfhncadcemaaG
namespace Go.Proofs.Ytiemfhncadcemaa
open Go.RowKit Dsk

set_option maxHeartbeats 1000000 in
theorem new_ok (n : Nat) (w : World) (hn : 16 ≤ n ∧ n ≤ 4096) : Calls Try.prog 10 #[.int .i64 (n : Int)] w fun e w' => ∃ g, e = .returned (.tuple #[.pointer (some ⟨g, 0, none⟩), .int .i64 0]) ∧ w.heap.size ≤ g ∧ Disk w' (fun k => w.heap.size ≤ k ∧ k < w'.heap.size) g (newD n) ∧ Below w.heap.size w w' := by
  have hm := may_any n w
  have e : (decide (16 ≤ (n : Int)) && decide ((n : Int) ≤ 4096)) = true := by simp; omega
  rw [e] at hm
  have HM := Lib.hid hm
  have HN := Lib.hid hn
  have h1 := fun W => run_mkS n hn.2 W
  have h2 := fun W => run_mkI n hn.2 W
  clear hm e hn
  go_enter Try.func10, Try.ntmps10
  go_wp2_with (go_at_call 26; refine HM.out.mono ?_; rintro e w' ⟨rfl, rfl⟩)
  go_region
  · have hd : ∀ W k, NewR w n (w.heap.size) (w.heap.size + 1) (w.heap.size + 2) k W → W.cell? ⟨w.heap.size + 1 + 1, 0, none⟩ = some (.slice (some ⟨w.heap.size, 0, none⟩) n n) := fun W k h => h.head.cell 0
    have HD := Lib.hid hd
    have hst := newR_one w n
    have HST := Lib.hid hst
    have hH := (hst.head).cell 0
    clear hd hst h1 h2
    go_wp2
    go_loopw [5, 20] (fun u i wr => ∃ k : Nat, k ≤ n ∧ i = .int .i64 (k : Int) ∧ Hid (NewR w n (w.heap.size) (w.heap.size + 1) (w.heap.size + 2) k wr)) (fun _ i _ => n - (intOf i).toNat)
    case atStart => exact ⟨0, Nat.zero_le _, rfl, HST⟩
    case round =>
      obtain ⟨k, hk, rfl, hR⟩ := hrel
      have h4 : n ≤ 4096 := HN.out.2
      clear HST hH
      by_cases hlt : k < n
      · have hd : decide ((k : Int) < (n : Int)) = true := by simpa using hlt
        have hc := HD.out wr k hR.out
        have hf := hR.out.secs.free k
        have hce : ∃ v, wr.cell? ⟨w.heap.size, k, none⟩ = some v := by
          obtain ⟨v, hv, _⟩ := hR.out.secs.at_ (k := k) (b := (fillTo n k)[k]'(by rw [fillTo_length n k hk]; exact hlt)) (List.getElem?_eq_getElem _)
          exact ⟨v, hv⟩
        obtain ⟨v0, hv0⟩ := hce
        have hv1 : (wr.alloc (.cells (mk8 256) 5)).cell? ⟨w.heap.size, k, none⟩ = some v0 := (World.cell?_of_block (a := ⟨w.heap.size, k, none⟩) (Below.heap_alloc _ _ _ hR.out.secs.lt)).trans hv0
        have hf1 : (wr.alloc (.cells (mk8 256) 5)).frozen? ⟨w.heap.size, k, none⟩ = false := (World.frozen?_of_block (a := ⟨w.heap.size, k, none⟩) (Below.heap_alloc _ _ _ hR.out.secs.lt)).trans hf
        have hmk : ∀ W : World, (Instr.makeSlice 33 (.int .i64 256) (.int .i64 256)).run Try.prog W = .ok (.slice (some ⟨W.heap.size, 0, none⟩) 256 256) (W.alloc (.cells (mk8 256) 5)) := fun W => run_mk8 256 (by decide) W
        have HNX := Lib.hid (hR.out.step hlt (by omega))
        have hsz : w.heap.size + 1 + 1 < wr.heap.size := by have := hR.out.size; omega
        go_wp2
        go_region
        all_goals
          go_wp2
          go_roundw
          case rel => exact ⟨k + 1, by omega, by go_num, by first | exact HNX | exact Lib.hid HNX.out.drew⟩
          case measure => simp [intOf]; omega
      · obtain rfl : n = k := by omega
        have hd : decide ((n : Int) < (n : Int)) = false := by simp
        have hR' := hR.out.disk (by have := HN.out; exact this) (by omega)
        have HR := Lib.hid hR'
        have HB := Lib.hid hR.out.bel
        clear hR'
        go_wp2
        go_ret2
        exact ⟨w.heap.size + 2, rfl, by omega, HR.out, HB.out⟩
  · have hd : ∀ W k, NewR w n (w.heap.size + 1) (w.heap.size) (w.heap.size + 2) k W → W.cell? ⟨w.heap.size + 1 + 1, 0, none⟩ = some (.slice (some ⟨w.heap.size + 1, 0, none⟩) n n) := fun W k h => h.head.cell 0
    have HD := Lib.hid hd
    have hst := newR_two w n
    have HST := Lib.hid hst
    have hH := (hst.head).cell 0
    clear hd hst h1 h2
    go_wp2
    go_loopw [5, 20] (fun u i wr => ∃ k : Nat, k ≤ n ∧ i = .int .i64 (k : Int) ∧ Hid (NewR w n (w.heap.size + 1) (w.heap.size) (w.heap.size + 2) k wr)) (fun _ i _ => n - (intOf i).toNat)
    case atStart => exact ⟨0, Nat.zero_le _, rfl, HST⟩
    case round =>
      obtain ⟨k, hk, rfl, hR⟩ := hrel
      have h4 : n ≤ 4096 := HN.out.2
      clear HST hH
      by_cases hlt : k < n
      · have hd : decide ((k : Int) < (n : Int)) = true := by simpa using hlt
        have hc := HD.out wr k hR.out
        have hf := hR.out.secs.free k
        have hce : ∃ v, wr.cell? ⟨w.heap.size + 1, k, none⟩ = some v := by
          obtain ⟨v, hv, _⟩ := hR.out.secs.at_ (k := k) (b := (fillTo n k)[k]'(by rw [fillTo_length n k hk]; exact hlt)) (List.getElem?_eq_getElem _)
          exact ⟨v, hv⟩
        obtain ⟨v0, hv0⟩ := hce
        have hv1 : (wr.alloc (.cells (mk8 256) 5)).cell? ⟨w.heap.size + 1, k, none⟩ = some v0 := (World.cell?_of_block (a := ⟨w.heap.size + 1, k, none⟩) (Below.heap_alloc _ _ _ hR.out.secs.lt)).trans hv0
        have hf1 : (wr.alloc (.cells (mk8 256) 5)).frozen? ⟨w.heap.size + 1, k, none⟩ = false := (World.frozen?_of_block (a := ⟨w.heap.size + 1, k, none⟩) (Below.heap_alloc _ _ _ hR.out.secs.lt)).trans hf
        have hmk : ∀ W : World, (Instr.makeSlice 33 (.int .i64 256) (.int .i64 256)).run Try.prog W = .ok (.slice (some ⟨W.heap.size, 0, none⟩) 256 256) (W.alloc (.cells (mk8 256) 5)) := fun W => run_mk8 256 (by decide) W
        have HNX := Lib.hid (hR.out.step hlt (by omega))
        have hsz : w.heap.size + 1 + 1 < wr.heap.size := by have := hR.out.size; omega
        go_wp2
        go_region
        all_goals
          go_wp2
          go_roundw
          case rel => exact ⟨k + 1, by omega, by go_num, by first | exact HNX | exact Lib.hid HNX.out.drew⟩
          case measure => simp [intOf]; omega
      · obtain rfl : n = k := by omega
        have hd : decide ((n : Int) < (n : Int)) = false := by simp
        have hR' := hR.out.disk (by have := HN.out; exact this) (by omega)
        have HR := Lib.hid hR'
        have HB := Lib.hid hR.out.bel
        clear hR'
        go_wp2
        go_ret2
        exact ⟨w.heap.size + 2, rfl, by omega, HR.out, HB.out⟩

end Go.Proofs.Ytiemfhncadcemaa
