/- token: the tables of words and signs, as the row lists them. -/
import Derived.Test.YtdnmdccjecoojaaDoorC
import Derived.Laws.Tables
import Derived.Lib.LaidTab
import Derived.ChangeKeysEq
namespace Go.Proofs.YtdnmdccjecoojaaDoor
open Go.RowKit Tok
namespace Tok
def wordsL : List (List UInt8) := [[100, 97, 116, 97, 116, 121, 112, 101], [111, 102], [101, 120, 99, 101, 112, 116, 105, 111, 110], [118, 97, 108], [102, 117, 110], [97, 110, 100], [102, 110], [108, 101, 116], [105, 110], [101, 110, 100], [105, 102], [116, 104, 101, 110], [101, 108, 115, 101], [99, 97, 115, 101], [104, 97, 110, 100, 108, 101], [114, 97, 105, 115, 101], [114, 111, 111, 116], [100, 111], [116, 114, 117, 101], [102, 97, 108, 115, 101], [100, 105, 118], [109, 111, 100]]
def signsL : List (List UInt8) := [[61, 62], [45, 62], [58, 61], [60, 61], [62, 61], [60, 62], [40], [41], [44], [59], [61], [42], [124], [58], [33], [43], [45], [126], [60], [62], [94], [95]]
end Tok
def strV (bs : List UInt8) : Value := .string (str bs)
def rowS (L : List (List UInt8)) : Array Value := (L.map strV).toArray
theorem rowS_size (L : List (List UInt8)) : (rowS L).size = L.length := by simp [rowS]
theorem rowS_get {L : List (List UInt8)} {i : Nat} {x : List UInt8} (h : L[i]? = some x) : (rowS L)[i]? = some (.string (str x)) := by simp [rowS, h, strV]
/-- Both tables in memory. -/
structure Tabs (W : World) : Prop where
  words : ∃ t fr, W.heap[0]? = some (.cells (rowS wordsL) t fr)
  signs : ∃ t fr, W.heap[1]? = some (.cells (rowS signsL) t fr)
theorem lt_of_heap {w : World} {g : Nat} {o : Obj} (h : w.heap[g]? = some o) : g < w.heap.size := by
  rcases Nat.lt_or_ge g w.heap.size with hlt | hge
  · exact hlt
  · rw [Array.getElem?_eq_none hge] at h; cases h
theorem Tabs.below {W W' : World} (h : Tabs W) (hb : Below W.heap.size W W') : Tabs W' := by
  obtain ⟨⟨t, fr, h1⟩, ⟨t', fr', h2⟩⟩ := h
  exact ⟨⟨t, fr, (hb.block _ (lt_of_heap h1)).trans h1⟩, ⟨t', fr', (hb.block _ (lt_of_heap h2)).trans h2⟩⟩
theorem Tryd.infoStr : (Tryd.prog.info? 9).map (fun i => (i.zero, i.size, i.bytes)) = some (some (.string ⟨#[]⟩), 1, 16) := by kernel_rfl
theorem info22 : (Tryd.prog.info? 45).map (·.size) = some 22 := by kernel_rfl
theorem run_idx {L : List (List UInt8)} {k : Nat} {x : List UInt8} (hl : L.length = 22) (h : L[k]? = some x) (Z : Array Value) (hz : rowS L = Z) (w : World) :
    (Instr.index 45 (.agg Z) (.int .i64 (k : Int))).run Tryd.prog w = .ok (.string (str x)) w := by
  subst hz
  have hk : k < 22 := by rw [← hl]; exact (List.getElem?_eq_some_iff.1 h).1
  have hg := rowS_get h
  obtain ⟨i0, hi, _, hz1, _⟩ := info_parts Tryd.infoStr
  have hc : (0 : Int) ≤ (k : Int) ∧ (k : Int) < (22 : Nat) := by omega
  have hp : (part 9 (rowS L) (k * 1)).run Tryd.prog w = .ok (.string (str x)) w := by
    rw [Nat.mul_one]
    exact run_part_plain w (by kernel_rfl) hg
  rw [Nat.mul_one] at hp
  simp [Instr.index, asIntOf, run_underlying Tryd.underlying45, if_pos hc, sizeOf, typeInfo, hi, hz1, hp, hk]
theorem word_any (s : List UInt8) (w : World) (hT : Tabs w) : Calls Tryd.prog 15 #[.string (str s)] w fun e w' => e = .returned (.bool (decide (s ∈ wordsL))) ∧ w = w' := by
  obtain ⟨⟨t, fr, hg⟩, _⟩ := hT
  obtain ⟨Z, hZ⟩ : ∃ Z, rowS wordsL = Z := ⟨_, rfl⟩
  have hsz : Z.size = 22 := by rw [← hZ, rowS_size]; rfl
  rw [hZ] at hg
  have HG := Lib.hid hg
  have HZ := Lib.hid hsz
  have HI : Hid (∀ (k : Nat) (x : List UInt8), wordsL[k]? = some x → (Instr.index 45 (.agg Z) (.int .i64 (k : Int))).run Tryd.prog w = .ok (.string (str x)) w) := Lib.hid (fun k x hx => run_idx rfl hx Z hZ w)
  have hst := str_toList s
  clear hg hsz hZ
  go_enter Tryd.func15, Tryd.ntmps15
  go_wp2_with (refine wpList_load_row rfl 45 (.global 0) rfl 0 rfl _ Z _ _ HG.out Tryd.underlying45 rfl (by rw [HZ.out]; exact info22) ?_)
  go_loopw [4, 6] (fun _ iv wr => ∃ k : Nat, k ≤ 22 ∧ iv = .int .i64 (k : Int) ∧ wr = w ∧ Hid (∀ j x, j < k → wordsL[j]? = some x → x ≠ s)) (fun _ iv _ => 22 - (intOf iv).toNat)
  case atStart => exact ⟨0, Nat.zero_le _, rfl, rfl, Lib.hid fun j x hj => by omega⟩
  case round =>
    obtain ⟨k, hk, rfl, hw, hI⟩ := hrel
    obtain rfl : w = _ := hw.symm
    by_cases hlt : k < 22
    · have hd : decide ((k : Int) < 22) = true := by simp; omega
      obtain ⟨x, hx⟩ : ∃ x, wordsL[k]? = some x := ⟨_, List.getElem?_eq_getElem hlt⟩
      have hi := HI.out k x hx
      have hxt := str_toList x
      by_cases he : x = s
      · have hq : (x == s) = true := by simpa using he
        have HM : Hid (decide (s ∈ wordsL) = true) := Lib.hid (by rw [decide_eq_true_eq, ← he]; exact List.mem_of_getElem? hx)
        clear hI hx he
        go_wp2_with fail
        go_ret
        exact ⟨by rw [HM.out]; rfl, rfl⟩
      · have hq : (x == s) = false := by simpa using he
        have hI2 : Hid (∀ j x, j < k + 1 → wordsL[j]? = some x → x ≠ s) := Lib.hid fun j y hj hy => by
          by_cases e : j = k
          · subst e
            rw [hx] at hy
            cases hy
            exact he
          · exact hI.out j y (by omega) hy
        clear hI hx he
        go_wp2_with fail
        go_roundw
        case rel => exact ⟨k + 1, by omega, by go_num, by trivial, hI2⟩
        case measure => simp [intOf]; omega
    · obtain rfl : 22 = k := by omega
      have hd : decide (((22 : Nat) : Int) < 22) = false := by simp
      have HM : Hid (decide (s ∈ wordsL) = false) := Lib.hid (by
        rw [decide_eq_false_iff_not]
        intro hm
        obtain ⟨j, hj⟩ := List.mem_iff_getElem?.1 hm
        have : j < 22 := (List.getElem?_eq_some_iff.1 hj).1
        exact hI.out j s this hj rfl)
      clear hI
      go_wp2_with fail
      go_ret
      exact ⟨by rw [HM.out]; rfl, rfl⟩
end Go.Proofs.YtdnmdccjecoojaaDoor
