/- token: number. -/
import Derived.Test.YtdnmdccjecoojaaDoorJ
import Derived.Laws.RangeString
import Derived.Laws.RangeAny
namespace Go.Proofs.YtdnmdccjecoojaaDoor
open Go.RowKit Tok
def numX (x : List UInt8) : Option (Tk × Nat) := (numL 0 x).map fun v => (⟨4, [], v⟩, x.length)
theorem numL_cons {s : List UInt8} {k v : Nat} {c : UInt8} (h : s[k]? = some c) : numL v (s.drop k) = if (big - (c.toNat - 48)) / 10 < v then none else numL (10 * v + (c.toNat - 48)) (s.drop (k + 1)) := by
  obtain ⟨h1, h2⟩ := List.getElem?_eq_some_iff.1 h
  rw [List.drop_eq_getElem_cons h1, h2]; rfl
set_option maxHeartbeats 2000000 in
theorem number_any (x : List UInt8) (w : World) (hb : x.length < 4294967296) (hx : ∀ c ∈ x, digitB c = true) :
    Calls Tryd.prog 38 #[.string (str x)] w (OneP (numX x) w) := by
  obtain ⟨n, hn⟩ : ∃ n, x.length = n := ⟨_, rfl⟩
  have hsz := str_sizeN hn
  rw [hn] at hb
  obtain ⟨w0, hw0⟩ : ∃ w0, w.alloc (.cells #[.int .u8 0, .string ⟨#[]⟩, .int .i64 0, .int .i64 0] 34) = w0 := ⟨_, rfl⟩
  have hR0 : Blk w0 w.heap.size 34 #[.int .u8 0, .string ⟨#[]⟩, .int .i64 0, .int .i64 0] := by rw [← hw0]; exact Blk.new _ _ _
  have hb0 : Below w.heap.size w w0 := by rw [← hw0]; exact (Below.refl _ _).alloc (Nat.le_refl _) _
  have HR0 := Lib.hid hR0
  have HB0 := Lib.hid hb0
  have HR : Hid (∀ k, Blk (w0.iter (str x) k) w.heap.size 34 #[.int .u8 0, .string ⟨#[]⟩, .int .i64 0, .int .i64 0]) := Lib.hid (fun k => hR0.alloc _)
  have HB : Hid (∀ k, Below w.heap.size w (w0.iter (str x) k)) := Lib.hid (fun k => hb0.alloc hb0.size _)
  have HN := Lib.hid hn
  have HD := Lib.hid hx
  have HX : Hid (numX x = (numL 0 x).map fun v => (⟨4, [], v⟩, n)) := Lib.hid (by unfold numX; rw [hn])
  have HF : Hid (numL 0 x = numL 0 (x.drop 0)) := Lib.hid (by rw [List.drop_zero])
  clear hR0 hb0 hn hx
  go_enter Tryd.func38, Tryd.ntmps38
  go_wp2_with fail
  go_loopw [4, 6, 7] (fun nv _ _ wr => ∃ k v : Nat, k ≤ n ∧ nv = .int .i64 (v : Int) ∧ wr = w0.iter (str x) k ∧ v ≤ 4611686018427387903 ∧ Hid (numL 0 x = numL v (x.drop k))) (fun _ _ _ wr => n - wr.iterPos w0.heap.size)
  case atStart => exact ⟨0, 0, Nat.zero_le _, rfl, rfl, by omega, HF⟩
  case round =>
    clear HF
    obtain ⟨k, v, hk, rfl, rfl, hv, hI⟩ := hrel
    by_cases hlt : k < n
    · obtain ⟨c, hc⟩ : ∃ c, x[k]? = some c := ⟨_, List.getElem?_eq_getElem (by rw [HN.out]; exact hlt)⟩
      have hks : k < (str x).size := by rw [hsz]; exact hlt
      have hcc := str_at hc hks
      have hdg := HD.out c (List.mem_of_getElem? hc)
      unfold digitB at hdg
      simp only [Bool.and_eq_true, decide_eq_true_eq] at hdg
      have hnx : ∀ ty, (Instr.next (.pointer (some ⟨w0.heap.size, 0, none⟩)) true ty).run Tryd.prog (w0.iter (str x) k) = _ := fun ty => run_next_ascii w0 (str x) k ty hks (by rw [hcc]; omega)
      rw [hcc] at hnx
      have hI2 := hI.out
      rw [numL_cons hc] at hI2
      obtain ⟨d, hdd⟩ : ∃ d, d = c.toNat - 48 := ⟨_, rfl⟩
      have hd9 : d ≤ 9 := by omega
      have e1 : (c.toNat : Int) - 48 = (d : Int) := by omega
      obtain ⟨cn, hcn⟩ : ∃ cn, c.toNat = cn := ⟨_, rfl⟩
      rw [hcn] at hnx hdd hI2
      have hcd : cn - 48 = d := hdd.symm
      rw [hcd] at hI2
      have HC : Hid (48 ≤ cn) := Lib.hid (by omega)
      have h48 : 48 ≤ cn := HC.out
      obtain ⟨r0, r1, r2, r3, f0⟩ := (HR.out (k + 1)).told4
      clear e1 hdd hc hcc hdg hcn
      by_cases hbig : (big - d) / 10 < v
      · rw [if_pos hbig] at hI2
        have hd : decide ((v : Int) > (4611686018427387903 - ((cn : Int) - 48)) / 10) = true := by unfold big at hbig; simp; omega
        have HI := Lib.hid hI2
        clear hI2 hI hbig
        go_wp2_with fail
        refine bodyPost_ret (results_cell_row2 rfl _ _ w.heap.size 34 _ (0, 0) _ rfl (HR.out (k + 1)).put4 Tryd.underlying34 rfl infoTk) rfl ?_
        exact ⟨below_put4 (HB.out (k + 1)) (Nat.le_refl _), noTk, 0, rfl, .inl ⟨by rw [HX.out, HI.out]; rfl, rfl⟩⟩
      · rw [if_neg hbig] at hI2
        have hd : decide ((v : Int) > (4611686018427387903 - ((cn : Int) - 48)) / 10) = false := by unfold big at hbig; simp; omega
        have hv2 : 10 * v + d ≤ 4611686018427387903 := by unfold big at hbig; omega
        have HI := Lib.hid hI2
        clear hI2 hI hbig
        go_wp2_with fail
        go_roundw
        case rel => exact ⟨k + 1, 10 * v + d, by omega, by congr 1; omega, rfl, hv2, HI⟩
        case measure => simp; omega
    · obtain rfl : n = k := by omega
      have hks : ¬ n < (str x).size := by rw [hsz]; omega
      have hnx : ∀ ty, (Instr.next (.pointer (some ⟨w0.heap.size, 0, none⟩)) true ty).run Tryd.prog (w0.iter (str x) n) = _ := fun ty => run_next_end w0 (str x) n ty hks
      obtain ⟨r0, r1, r2, r3, f0⟩ := (HR.out n).told4
      have HI : Hid (numL 0 x = some v) := Lib.hid (by rw [hI.out, List.drop_eq_nil_of_le (by rw [HN.out]; omega)]; rfl)
      clear hI
      go_wp2_with fail
      refine bodyPost_ret (results_cell_row2 rfl _ _ w.heap.size 34 _ (0, 0) _ rfl (HR.out n).put4 Tryd.underlying34 rfl infoTk) rfl ?_
      exact ⟨below_put4 (HB.out n) (Nat.le_refl _), ⟨4, [], v⟩, n, rfl, .inr (by rw [HX.out, HI.out]; rfl)⟩
end Go.Proofs.YtdnmdccjecoojaaDoor
