/- cache: twin, full, same. -/
import Derived.Test.YtiemfhncadcemaaCw
namespace Go.Proofs.Ytiemfhncadcemaa
open Go.RowKit Dsk
/-- Bytes of the call's own. -/
structure Own8 (w : World) (base : Nat) (A : Option Addr) (len c : Nat) (bs : List UInt8) : Prop where
  long : bs.length = len
  le : len ≤ c
  max : c ≤ maxLen
  bytes : Bytes w A bs
  blk : ∀ p : Addr, A = some p → base ≤ p.block ∧ p.block < w.heap.size
  may : 0 < len → ∃ q, A = some ⟨q, 0, none⟩ ∧ Rw w q len c bs
theorem Own8.below {w w' : World} {base : Nat} {A : Option Addr} {len c : Nat} {bs : List UInt8} (h : Own8 w base A len c bs) (hb : Below w.heap.size w w') : Own8 w' base A len c bs :=
  ⟨h.long, h.le, h.max, h.bytes.below hb, fun p e => ⟨(h.blk p e).1, Nat.lt_of_lt_of_le (h.blk p e).2 hb.size⟩, fun h0 => by obtain ⟨q, e, hr⟩ := h.may h0; exact ⟨q, e, hr.below hb⟩⟩
theorem own8_of {w : World} {base n : Nat} {v : Value} {bs : List UInt8} (h : w.ownsRow base 5 1 v n (bs.map bv)) : ∃ A c, v = .slice A n c ∧ Own8 w base A n c bs := by
  have hl : bs.length = n := by simpa using h.1
  have hs : ∃ A c, v = .slice A n c ∧ n ≤ c ∧ c ≤ maxLen ∧ (∀ p : Addr, A = some p → base ≤ p.block ∧ p.block < w.heap.size) ∧ (0 < n → ∃ q, A = some ⟨q, 0, none⟩) := by
    rcases h.2 with ⟨rfl, h0⟩ | ⟨g, cap, cur, rfl, h1, h2, h3, h4, _⟩
    · exact ⟨none, 0, by rw [h0], by omega, Nat.zero_le _, (fun p e => by cases e), fun h => by omega⟩
    · exact ⟨_, _, rfl, h3, h4, fun p e => by
        cases e
        exact ⟨h1, by
          rcases Nat.lt_or_ge g w.heap.size with hlt | hge
          · exact hlt
          · rw [Array.getElem?_eq_none hge] at h2; cases h2⟩, fun _ => ⟨g, rfl⟩⟩
  obtain ⟨A, c, rfl, h1, h2, h3, h4⟩ := hs
  exact ⟨A, c, rfl, hl, h1, h2, Bytes.of_own h, h3, fun h0 => by
    obtain ⟨q, rfl⟩ := h4 h0
    exact ⟨q, rfl, Rw.of_own h⟩⟩
set_option maxHeartbeats 400000 in
theorem twin_any (A : Option Addr) (len cap : Nat) (bs : List UInt8) (w : World) (hbl : bs.length = len) (hl : len ≤ 1048576) (hA : Bytes w A bs) :
    Calls Try.prog 25 #[.slice A len cap] w fun e w' => ∃ A' c, e = .returned (.slice A' len c) ∧ Own8 w' w.heap.size A' len c bs ∧ Below w.heap.size w w' := by
  have hb0 : Below w.heap.size w (w.alloc (.cells #[] 5)) := (Below.refl _ w).alloc (Nat.le_refl _) _
  obtain ⟨v1, w1, hrun1, hown1, hgr1⟩ := run_app8 (w.alloc (.cells #[] 5)) w.heap.size _ 0 [] (own_new w w.heap.size (Nat.le_refl _)) A len cap bs hbl (hA.below hb0) (by omega) (by simp)
  rw [List.nil_append, Nat.zero_add] at hown1
  have hb1 : Below w.heap.size w w1 := hb0.grown hgr1 (by simp) (fun k e => by simp [Value.ownBlock] at e; omega)
  obtain ⟨A', c, rfl, ho⟩ := own8_of hown1
  have HRUN := Lib.hid hrun1
  have HO := Lib.hid (And.intro ho hb1)
  clear hrun1 hown1 hgr1 hb1 hb0 hA ho
  go_enter Try.func25, Try.ntmps25
  go_wp2_with (at_builtin; refine wpList_app rfl _ _ 33 rfl _ _ _ _ rfl rfl HRUN.out ?_; clear HRUN)
  go_ret
  exact ⟨_, _, rfl, HO.out⟩
set_option maxRecDepth 20000 in
theorem full_any (A : Option Addr) (len cap : Nat) (bs : List UInt8) (w : World) (hbl : bs.length = len) (hl : len ≤ 256) (hA : Bytes w A bs) :
    Calls Try.prog 12 #[.slice A len cap] w fun e w' => e = .returned (.slice (some ⟨w.heap.size, 0, none⟩) 256 256) ∧ Blk w' w.heap.size 5 (row8 (filled bs 256)) ∧ Below w.heap.size w w' := by
  obtain ⟨w1, hw1⟩ : ∃ w1, w.alloc (.cells (mk8 256) 5) = w1 := ⟨_, rfl⟩
  have hmk : (Instr.makeSlice 33 (.int .i64 256) (.int .i64 256)).run Try.prog w = .ok (.slice (some ⟨w.heap.size, 0, none⟩) 256 256) (w.alloc (.cells (mk8 256) 5)) := run_mk8 256 (by omega) w
  rw [hw1] at hmk
  have hb1 : Below w.heap.size w w1 := by rw [← hw1]; exact (Below.refl _ _).alloc (Nat.le_refl _) _
  have hN1 : Blk w1 w.heap.size 5 (List.replicate 256 (bv 0)).toArray := by rw [← hw1, ← mk8_eq]; exact Blk.new _ _ _
  obtain ⟨w4, hcp, hN4, hg4, hs4⟩ := run_copy8 w1 3 w.heap.size 256 256 A cap bs _ (hA.below hb1) hN1 (by omega) (by rw [List.length_replicate]; exact Nat.le_refl _)
  rw [hbl] at hcp
  have eN : bs.map bv ++ (List.replicate 256 (bv 0)).drop bs.length = (filled bs 256).map bv := by
    unfold filled
    rw [List.map_append, List.map_replicate, List.drop_replicate]
  rw [eN] at hN4
  have hb4 : Below w.heap.size w w4 := hb1.grown hg4 hb1.size (fun k e => by have := Option.some.inj e; omega)
  have HF := Lib.hid (And.intro hN4 hb4)
  clear hw1 hb1 hN1 hN4 hg4 hs4 eN hb4 hA
  go_enter Try.func12, Try.ntmps12
  go_wp2_with fail
  go_ret
  exact ⟨rfl, HF.out⟩
theorem sameb_any (A B : Option Addr) (l1 c1 l2 c2 : Nat) (xs ys : List UInt8) (w : World) (h1 : xs.length = l1) (h2 : ys.length = l2) (hA : Bytes w A xs) (hB : Bytes w B ys) :
    Calls Try.prog 14 #[.slice A l1 c1, .slice B l2 c2] w fun e w' => e = .returned (.bool (decide (xs = ys))) ∧ w = w' := by
  have s1 := run_str8L w A l1 c1 xs h1 hA
  have s2 := run_str8L w B l2 c2 ys h2 hB
  obtain ⟨p, hp⟩ : ∃ p, decide (xs = ys) = p := ⟨_, rfl⟩
  have he : ((str xs).toList == (str ys).toList) = p := by
    rw [← hp, str_toList, str_toList, Bool.eq_iff_iff]; simp
  rw [hp]
  clear hA hB h1 h2 hp
  go_enter Try.func14, Try.ntmps14
  go_wp2_with fail
  go_ret
  exact ⟨rfl, rfl⟩
/-- A slice that may be turned: its cells are bytes. -/
structure Mut (w : World) (g len : Nat) : Prop where
  lt : g < w.heap.size
  cell : ∀ j, j < len → ∃ b : UInt8, w.cell? ⟨g, j, none⟩ = some (bv b)
  free : ∀ j, j < len → w.frozen? ⟨g, j, none⟩ = false
theorem Rw.mut {w : World} {g len cap : Nat} {cs : List UInt8} (h : Rw w g len cap cs) : Mut w g len :=
  ⟨h.lt, fun j hj => ⟨cs[j]'(by rw [h.long]; exact hj), h.holds j _ (List.getElem?_eq_getElem _)⟩, fun j hj => (h.there j (Nat.lt_of_lt_of_le hj h.le)).2⟩
theorem Mut.same {w w' : World} {g len : Nat} (h : Mut w g len) (hs : w.heap.size ≤ w'.heap.size) (hb : w'.heap[g]? = w.heap[g]?) : Mut w' g len :=
  ⟨Nat.lt_of_lt_of_le h.lt hs, fun j hj => by obtain ⟨b, e⟩ := h.cell j hj; exact ⟨b, (World.cell?_of_block (a := ⟨g, j, none⟩) hb).trans e⟩, fun j hj => (World.frozen?_of_block (a := ⟨g, j, none⟩) hb).trans (h.free j hj)⟩
theorem Mut.set_ {w : World} {g len : Nat} (h : Mut w g len) (k : Nat) (c : UInt8) : Mut (w.setCell ⟨g, k, none⟩ (bv c)) g len := by
  refine ⟨by simp [World.setCell]; exact h.lt, fun j hj => ?_, fun j hj => by rw [World.frozen?_setCell]; exact h.free j hj⟩
  by_cases e : j = k
  · subst e
    obtain ⟨b, hb⟩ := h.cell j hj
    exact ⟨c, World.cell?_setCell_same w _ _ hb⟩
  · obtain ⟨b, hb⟩ := h.cell j hj
    exact ⟨b, by rw [World.cell?_setCell_other w _ _ _ (fun h => e (by injection h with h1 h2; exact h2.symm))]; exact hb⟩

end Go.Proofs.Ytiemfhncadcemaa
