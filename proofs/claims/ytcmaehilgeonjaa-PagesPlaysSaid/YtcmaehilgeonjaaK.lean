/- pages: Lay. -/
import Derived.Test.YtcmaehilgeonjaaJ
import Derived.Laws.CopyRow
import Derived.Lib.SliceRun
namespace Go.Proofs.Ytcmaehilgeonjaa
open Go.RowKit Pgs

theorem Blk.setCells {g : Nat} {t : TypeId} : ∀ (vs : List Value) (o : Nat) (cs : List Value) (w : World), Blk w g t cs.toArray → o + vs.length ≤ cs.length → Blk (w.setCells g o vs) g t (cs.take o ++ vs ++ cs.drop (o + vs.length)).toArray
  | [], o, cs, w, h, _ => by
    simpa [World.setCells] using h
  | v :: r, o, cs, w, h, hl => by
    rw [List.length_cons] at hl
    have h1 := h.set_ o v
    rw [List.setIfInBounds_toArray] at h1
    have ih := Blk.setCells r (o + 1) (cs.set o v) _ h1 (by rw [List.length_set]; omega)
    have e : (cs.set o v).take (o + 1) ++ r ++ (cs.set o v).drop (o + 1 + r.length) = cs.take o ++ (v :: r) ++ cs.drop (o + (v :: r).length) := by
      rw [List.drop_set_of_lt (by omega), List.length_cons, show o + (r.length + 1) = o + 1 + r.length by omega]
      congr 1
      have : (cs.set o v).take (o + 1) = cs.take o ++ [v] := by
        apply List.ext_getElem?
        intro i
        by_cases hi : i < o
        · rw [List.getElem?_take_of_lt (by omega), List.getElem?_set_ne (by omega), List.getElem?_append_left (by rw [List.length_take]; omega), List.getElem?_take_of_lt hi]
        · by_cases hi2 : i = o
          · subst hi2
            rw [List.getElem?_take_of_lt (by omega), List.getElem?_set_self (by omega), List.getElem?_append_right (by rw [List.length_take]; omega), List.length_take, Nat.min_eq_left (by omega), Nat.sub_self]; rfl
          · rw [List.getElem?_eq_none (by rw [List.length_take, List.length_set]; omega), List.getElem?_eq_none (by rw [List.length_append, List.length_take, List.length_singleton]; omega)]
      rw [this, List.append_assoc]; rfl
    rw [e] at ih
    exact ih

theorem setCells_size (g : Nat) : ∀ (vs : List Value) (o : Nat) (w : World), (w.setCells g o vs).heap.size = w.heap.size
  | [], _, _ => rfl
  | v :: r, o, w => by
    rw [World.setCells, setCells_size g r (o + 1)]
    simp [World.setCell]
theorem setCells_ne (g : Nat) {j : Nat} (hj : j ≠ g) : ∀ (vs : List Value) (o : Nat) (w : World), (w.setCells g o vs).heap[j]? = w.heap[j]?
  | [], _, _ => rfl
  | v :: r, o, w => by
    rw [World.setCells, setCells_ne g hj r (o + 1)]
    exact Below.heap_setCell _ _ _ _ hj

/-- 'clear(part)'. -/
theorem run_clear16 (w : World) (g i : Nat) (L : List Nat) (c : Nat) (h : PM w g L) (hi : i < 9) :
    ∃ w', (∀ ty, (Builtin.clear_ #[60] ty #[.slice (some ⟨g, i * 124, none⟩) 124 c]).run Try.prog w = .ok (.tuple #[]) w') ∧
      Blk w' g 53 (row16 (L.take (i * 124) ++ List.replicate 124 0 ++ L.drop (i * 124 + 124))) ∧ Off (fun k => k = g) w w' := by
  have hlen := h.ok.len
  refine ⟨_, fun ty => Lib.run_clear_slice w 60 50 ty (.int .u16 0) Try.underlying60 (fun _ => by kernel_rfl) rfl rfl g (i * 124) 124 c (by decide) (fun j hj => ?_) (fun j _ => h.blk.frozen _), ?_, ?_⟩
  · have := h.cell (List.getElem?_eq_getElem (show i * 124 + j < L.length by omega))
    rw [this]; rfl
  · have h1 := Blk.setCells (List.replicate 124 (Value.int .u16 0)) (i * 124) (L.map fun (n : Nat) => Value.int .u16 (n : Int)) w h.blk (by rw [List.length_replicate, List.length_map]; omega)
    rw [List.length_replicate] at h1
    have e : row16 (L.take (i * 124) ++ List.replicate 124 0 ++ L.drop (i * 124 + 124)) = ((L.map fun (n : Nat) => Value.int .u16 (n : Int)).take (i * 124) ++ List.replicate 124 (Value.int .u16 0) ++ (L.map fun (n : Nat) => Value.int .u16 (n : Int)).drop (i * 124 + 124)).toArray := by
      unfold row16
      rw [List.map_append, List.map_append, List.map_take, List.map_drop, List.map_replicate]; rfl
    rw [e]; exact h1
  · obtain ⟨a1, a2, a3, _⟩ := setCells_other g (List.replicate 124 (Value.int .u16 0)) (i * 124) w
    exact ⟨a1, a2, a3, Nat.le_of_eq (setCells_size _ _ _ _).symm, fun j _ hj => setCells_ne g hj _ _ _⟩

/-- 'copy(part, said[:n])'. -/
theorem run_copy16 (w : World) (g i s n c cs : Nat) (L : List Nat) (S : List Nat) (h : Blk w g 53 (row16 L)) (hl : L.length = 1116) (hi : i < 9) (t : TypeId) (hS : Blk w s t (row16 S)) (hn : n ≤ 124) (hSl : n ≤ S.length) :
    ∃ w', (∀ ty, (Builtin.copy_ #[60, 60] ty #[.slice (some ⟨g, i * 124, none⟩) 124 c, .slice (some ⟨s, 0, none⟩) n cs]).run Try.prog w = .ok (goInt n) w') ∧
      Blk w' g 53 (row16 (L.take (i * 124) ++ S.take n ++ L.drop (i * 124 + n))) ∧ Off (fun k => k = g) w w' := by
  have hsz : (Try.prog.info? 50).map (·.size) = some 1 := by kernel_rfl
  have hln : ((S.take n).map fun (n : Nat) => Value.int .u16 (n : Int)).length = n := by rw [List.length_map, List.length_take]; omega
  have hrun := fun ty => run_copy_row (P := Try.prog) w 60 60 ty 50 g (i * 124) 124 c ⟨s, 0, none⟩ n cs (row16 L) 53 ((S.take n).map fun (n : Nat) => Value.int .u16 (n : Int))
    Try.underlying60 hsz h (by rw [hln]; exact (Nat.min_eq_left hn).symm) (fun j v hj => by
      have ea : (⟨s, 0, none⟩ : Addr).add j = ⟨s, j, none⟩ := by unfold Addr.add; split <;> simp_all
      rw [ea, hS.cell j]
      rw [List.getElem?_map] at hj
      rcases Nat.lt_or_ge j n with h1 | h1
      · rw [List.getElem?_take_of_lt h1] at hj
        unfold row16
        simpa using hj
      · rw [List.getElem?_eq_none (by rw [List.length_take]; omega)] at hj; cases hj) (by rw [hln, row16_size]; omega) (fun v hv => by
      obtain ⟨x, _, rfl⟩ := List.mem_map.1 hv
      rfl)
  simp only [hln] at hrun
  have e : ((row16 L).toList.take (i * 124) ++ ((S.take n).map fun (n : Nat) => Value.int .u16 (n : Int)) ++ (row16 L).toList.drop (i * 124 + n)).toArray = row16 (L.take (i * 124) ++ S.take n ++ L.drop (i * 124 + n)) := by
    unfold row16
    simp only [List.map_append, List.map_take, List.map_drop]
  simp only [e] at hrun
  refine ⟨_, hrun, setRow_heap w g _ _ _ (0, 0) h, rfl, rfl, rfl, ?_, fun j _ hj => ?_⟩
  · unfold World.setRow
    simp
  · unfold World.setRow
    simp only [Array.getElem?_modify]
    rw [if_neg (Ne.symm hj)]

set_option maxRecDepth 20000 in
set_option maxHeartbeats 1000000 in
theorem lay_nil (i : Int) (A : Option Addr) (n c : Nat) (w : World) : Calls Try.prog 28 #[.pointer none, .int .i64 i, .slice A n c] w fun e w' => e = .returned (.bool false) ∧ w = w' := by
  go_enter Try.func28, Try.ntmps28
  go_wp2_with fail
  go_ret
  exact ⟨rfl, rfl⟩
set_option maxRecDepth 20000 in
set_option maxHeartbeats 1000000 in
theorem lay_no (g : Nat) (i : Int) (A : Option Addr) (n c : Nat) (w : World) (h : ¬ (0 ≤ i ∧ i < 9)) : Calls Try.prog 28 #[.pointer (some ⟨g, 0, none⟩), .int .i64 i, .slice A n c] w fun e w' => e = .returned (.bool false) ∧ w = w' := by
  have h1 := isPart_any i w
  rw [decide_eq_false h] at h1
  have H1 := Lib.hid h1
  clear h1 h
  go_enter Try.func28, Try.ntmps28
  go_wp2_with (go_at_call 37; refine Calls.mono H1.out ?_; rintro e w' ⟨rfl, rfl⟩)
  go_ret
  exact ⟨rfl, rfl⟩
set_option maxRecDepth 20000 in
set_option maxHeartbeats 1000000 in
theorem lay_long (g i : Nat) (A : Option Addr) (n c : Nat) (w : World) (hi : i < 9) (hn : 248 < n) : Calls Try.prog 28 #[.pointer (some ⟨g, 0, none⟩), .int .i64 (i : Int), .slice A n c] w fun e w' => e = .returned (.bool false) ∧ w = w' := by
  have h1 := isPart_any (i : Int) w
  rw [decide_eq_true (by omega)] at h1
  have H1 := Lib.hid h1
  have hd : decide ((n : Int) > 248) = true := by simp; omega
  clear h1 hi
  go_enter Try.func28, Try.ntmps28
  go_wp2_with (go_at_call 37; refine Calls.mono H1.out ?_; rintro e w' ⟨rfl, rfl⟩)
  go_ret
  exact ⟨rfl, rfl⟩
set_option maxRecDepth 20000 in
set_option maxHeartbeats 1000000 in
theorem lay_odd (g i : Nat) (A : Option Addr) (n c : Nat) (w : World) (hi : i < 9) (hn : n ≤ 248) (ho : n % 2 ≠ 0) : Calls Try.prog 28 #[.pointer (some ⟨g, 0, none⟩), .int .i64 (i : Int), .slice A n c] w fun e w' => e = .returned (.bool false) ∧ w = w' := by
  have h1 := isPart_any (i : Int) w
  rw [decide_eq_true (by omega)] at h1
  have H1 := Lib.hid h1
  have hd : decide ((n : Int) > 248) = false := by simp; omega
  have ht : (n : Int).tmod 2 = 1 := by rw [Int.tmod_eq_emod_of_nonneg (by omega)]; omega
  clear h1 hi
  go_enter Try.func28, Try.ntmps28
  go_wp2_with (go_at_call 37; refine Calls.mono H1.out ?_; rintro e w' ⟨rfl, rfl⟩)
  go_ret
  exact ⟨rfl, rfl⟩
end Go.Proofs.Ytcmaehilgeonjaa
