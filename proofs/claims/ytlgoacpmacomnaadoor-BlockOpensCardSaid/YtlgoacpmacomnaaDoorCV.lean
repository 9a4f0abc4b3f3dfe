/- Rows of booleans of the call's own; append of 32 noughts. -/
import Derived.Test.YtlgoacpmacomnaaDoorCS
import Derived.Test.YtlgoacpmacomnaaDoorCP
import Derived.Lib.AppendZeros
namespace Go.Proofs.YtlgoacpmacomnaaDoor
open Go.RowKit Crc

theorem Tryd.infoB : (Tryd.prog.info? 4).map (fun i => (i.zero, i.size, i.bytes)) = some (some (.bool false), 1, 1) := by kernel_rfl
def rowB (bs : List Bool) : List Value := bs.map Value.bool
def noughts : List Bool := List.replicate 32 false

theorem zeros32 : Builtin.zeroCells (Value.bool false).cells 32 = (rowB noughts).toArray := by kernel_rfl

theorem run_appZ (w : World) (base : Nat) (v : Value) (n : Nat) (xs : List Bool) (hown : w.ownsRow base 4 1 v n (rowB xs)) (hn : n ≤ 70368744177664) (hbase : base ≤ w.heap.size) :
    ∃ v' w', (Builtin.append_ #[70, 3] 70 #[v, .int .i64 32]).run Tryd.prog w = .ok v' w' ∧ w'.ownsRow base 4 1 v' (n + 32) (rowB (xs ++ noughts)) ∧ w.grownBy w' v.ownBlock := by
  obtain ⟨i0, hi, hz0, hz1, hz2⟩ := info_parts Tryd.infoB
  have hxl : xs.length = n := by have := hown.1; simpa [rowB] using this
  have hlen : (rowB (xs ++ noughts)).length = (n + 32) * 1 := by simp [rowB, noughts, hxl]
  have hnl : (rowB noughts).length = 32 := by simp [rowB, noughts]
  have h1 : ∀ u ∈ rowB (noughts), u.oneCell' = true := fun u hu => by obtain ⟨d, _, rfl⟩ := List.mem_map.1 hu; rfl
  have hcat : rowB (xs ++ noughts) = rowB xs ++ rowB (noughts) := by simp [rowB]
  have hmax : n + 32 ≤ maxLen := by unfold maxLen; omega
  rcases hown.2 with ⟨rfl, rfl⟩ | ⟨g, cap, cur, rfl, hbg, hg, hnc, hcm, hcs, htake⟩
  · have hx : xs = [] := List.eq_nil_of_length_eq_zero hxl
    subst hx
    have hr := Lib.run_append_nil_zeros (P := Tryd.prog) w 70 3 70 4 i0 (.bool false) .i64 .i64 Tryd.underlying70 Tryd.underlying3 hi hz0 32 (by decide) (by omega) (by decide) (by rw [hz2]; decide)
    have hge := grownCap_ge w 32 0 4
    have hcm := grownCap_le_maxLen w 32 0 4 (by decide)
    refine ⟨_, _, hr, ⟨hlen, .inr ⟨w.heap.size, _, _, rfl, hbase, heap_alloc_new w.drew _, by simpa using hge, hcm, ?_, ?_⟩⟩, ⟨rfl, rfl, rfl, by simp, fun k hk _ => heap_alloc_old w.drew _ (by simpa using hk)⟩⟩
    · rw [zeros32]
      simp only [Array.size_append, List.size_toArray, size_zeroCells, hnl, Value.cells, List.size_toArray, List.length_cons, List.length_nil]
      omega
    · rw [zeros32, Array.toList_append]
      simp only [List.nil_append]
      exact List.take_left' hnl
  · by_cases hroom : n + 32 ≤ cap
    · have hfit : n + (rowB noughts).length ≤ cur.size := by rw [hnl, hcs]; omega
      have hst := run_storeCells_at Tryd.prog g n 4 (rowB noughts) 0 cur w hg (by simpa using hfit) h1
      simp only [Nat.add_zero] at hst
      have hr : (Builtin.append_ #[70, 3] 70 #[.slice (some ⟨g, 0, none⟩) n cap, .int .i64 32]).run Tryd.prog w = .ok (.slice (some ⟨g, 0, none⟩) (n + 32) cap) (w.setRow g (cur.toList.take n ++ rowB (noughts) ++ cur.toList.drop (n + (rowB noughts).length)).toArray) := by
        have hw : IntKind.i64.wrap (32 : Int) = 32 := by decide
        simp [Builtin.append_, run_underlying Tryd.underlying70, run_underlying Tryd.underlying3, sizeOf, typeInfo, zeroValue, hi, hz0, hz1, hz2, asInt, asIntOf, hw, hroom, Addr.add_lit, zeros32, hst]
      refine ⟨_, _, hr, ⟨hlen, .inr ⟨g, cap, _, rfl, hbg, setRow_heap w g cur _ 4 _ hg, hroom, hcm, ?_, ?_⟩⟩, ⟨rfl, rfl, rfl, by simp [World.setRow], fun k _ hk => setRow_other w g k _ (fun e => hk (by simp [Value.ownBlock, e]))⟩⟩
      · simp only [List.size_toArray, List.length_append, List.length_take, List.length_drop, Array.length_toList]
        omega
      · rw [hcat]
        have ht2 : cur.toList.take n = rowB xs := by simpa using htake
        rw [ht2]
        refine List.take_left' ?_
        rw [← hcat, hlen]
    · have holds : ∀ j u, (rowB xs)[j]? = some u → w.cell? ((⟨g, 0, none⟩ : Addr).add j) = some u := hown.cells (g := g) rfl
      have hfo := run_firstCells_some (P := Tryd.prog) w.drew i0.size n ⟨g, 0, none⟩ n cap (rowB xs) (by rw [hz1]; simp [rowB, hxl]) (by simpa using holds)
      have hn' : ¬ (n + 32 ≤ cap) := hroom
      have h48' : ¬ (281474976710656 < Builtin.nextslicecap (n + 32) cap * i0.bytes) := by
        have := growslice_fits (need := n + 32) (old := cap) (bytes := i0.bytes) (by omega) (by rw [hz2]; omega)
        omega
      have hge := grownCap_ge w (n + 32) cap 4
      have hcm' := grownCap_le_maxLen w (n + 32) cap 4 hmax
      have hr : (Builtin.append_ #[70, 3] 70 #[.slice (some ⟨g, 0, none⟩) n cap, .int .i64 32]).run Tryd.prog w = .ok (.slice (some ⟨w.heap.size, 0, none⟩) (n + 32) (grownCap w (n + 32) cap 4))
          (w.drew.alloc (.cells ((rowB xs).toArray ++ (rowB noughts).toArray ++ Builtin.zeroCells (Value.bool false).cells (grownCap w (n + 32) cap 4 - (n + 32))) 4)) := by
        have hw : IntKind.i64.wrap (32 : Int) = 32 := by decide
        rw [hz1] at hfo
        rw [hz2] at h48'
        simp only [Nat.mul_one] at h48'
        have hm63 : ¬ (9223372036854775807 < ((n : Int) + max 32 0)) := by omega
        simp [Builtin.append_, run_underlying Tryd.underlying70, run_underlying Tryd.underlying3, sizeOf, typeInfo, zeroValue, hi, hz0, hz1, hz2, asInt, asIntOf, hw, hn', hm63, h48', Question.forced, hfo, newRow, grownCap, zeros32]
        congr 2
        apply Array.ext'
        simp [List.append_assoc]
      refine ⟨_, _, hr, ⟨hlen, .inr ⟨w.heap.size, _, _, rfl, hbase, heap_alloc_new w.drew _, hge, hcm', ?_, ?_⟩⟩, ⟨rfl, rfl, rfl, by simp, fun k hk _ => heap_alloc_old w.drew _ (by simpa using hk)⟩⟩
      · simp only [Array.size_append, List.size_toArray, size_zeroCells, hnl, Value.cells, List.size_toArray, List.length_cons, List.length_nil]
        have : (rowB xs).length = n := by simp [rowB, hxl]
        omega
      · rw [Array.toList_append, Array.toList_append, hcat]
        exact List.take_left' (by rw [← hcat, hlen])

theorem run_appB (w : World) (base : Nat) (v : Value) (n : Nat) (xs : List Bool) (b : Bool) (hown : w.ownsRow base 4 1 v n (rowB xs)) (hn : n ≤ 70368744177664) (hbase : base ≤ w.heap.size) :
    ∃ v' w', (Builtin.append_ #[70, 70] 70 #[v, .slice (some ⟨w.heap.size, 0, none⟩) 1 1]).run Tryd.prog (w.alloc (.cells #[.bool b] 4)) = .ok v' w' ∧ w'.ownsRow base 4 1 v' (n + 1) (rowB (xs ++ [b])) ∧ (w.alloc (.cells #[.bool b] 4)).grownBy w' v.ownBlock := by
  obtain ⟨i0, hi, hz0, hz1, hz2⟩ := info_parts Tryd.infoB
  obtain ⟨v', w', hrun, h2, h3, _, _⟩ := run_append_own_at (P := Tryd.prog) (w.alloc (.cells #[.bool b] 4)) base 70 70 4 i0 (.bool false) 1 1 Tryd.underlying70 hi hz0 hz1 hz2 rfl (by decide) v n (rowB xs)
    (own_below hown ((Below.refl _ w).alloc (Nat.le_refl _) _)) ⟨w.heap.size, 0, none⟩ 1 1 [.bool b] rfl (cell_one_new w (.bool b) 4) (fun u hu => by simp at hu; subst hu; rfl) (by unfold maxLen; omega) (by omega) (by rw [World.size_alloc]; omega)
  refine ⟨v', w', hrun, ?_, h3⟩
  have e : rowB (xs ++ [b]) = rowB xs ++ [.bool b] := by simp [rowB]
  rw [e]; exact h2

end Go.Proofs.YtlgoacpmacomnaaDoor
