/- stamp: StampRefuses: a variable's box that wraps. -/
import Derived.Test.YtadogebhkldeiaaDoorRm
import Derived.Test.YtadogebhkldeiaaDoorJ
namespace Go.Proofs.YtadogebhkldeiaaDoor
open Go.RowKit Ty
set_option linter.unusedVariables false
set_option linter.unusedSimpArgs false
/-- The variable's box, in memory. -/
structure Bt (w : World) (q : Nat) (t : Ty) (A : Option Addr) (l c : Nat) : Prop where
  blk : Blk w q 24 #[.int .u8 (t.k : Int), .string (str t.nm), .int .i64 t.n, .slice A l c]
  len : t.ks.length = l
  in_ : Te.in_ (fun k => k ≠ q) w ⟨t, A, c⟩
theorem Bt.cell {w : World} {q : Nat} {t : Ty} {A : Option Addr} {l c : Nat} (h : Bt w q t A l c) : w.cell? ⟨q, 0, none⟩ = some (.int .u8 (t.k : Int)) ∧ w.cell? ⟨q, 1, none⟩ = some (.string (str t.nm)) ∧ w.cell? ⟨q, 2, none⟩ = some (.int .i64 t.n) ∧ w.cell? ⟨q, 3, none⟩ = some (.slice A l c) := ⟨h.blk.cell 0, h.blk.cell 1, h.blk.cell 2, h.blk.cell 3⟩
theorem Bt.off {w w2 : World} {q : Nat} {t : Ty} {A : Option Addr} {l c : Nat} (h : Bt w q t A l c) (hb : Below w.heap.size w w2) : Bt w2 q t A l c := ⟨h.blk.below hb h.blk.lt, h.len, h.in_.bel hb⟩
theorem Bt.one {w w2 w3 : World} {q : Nat} {t : Ty} {A : Option Addr} {l c g : Nat} (nm : List UInt8) (hnm : nm.length ≤ maxLen) (h : Bt w q t A l c) (h1 : w.alloc (.cells #[.int .u8 (t.k : Int), .string (str t.nm), .int .i64 t.n, .slice A l c] 24) = w2) (hg : w.heap.size = g) (h3 : Below w2.heap.size w2 w3) :
    ∃ w4, ((((w3.setCell ⟨q, 0, none⟩ (.int .u8 2)).setCell ⟨q, 1, none⟩ (.string (str nm))).setCell ⟨q, 2, none⟩ (.int .i64 0)).setCell ⟨q, 3, none⟩ (.slice (some ⟨g, 0, none⟩) 1 1)) = w4 ∧ Bt w4 q (nmT nm [t]) (some ⟨g, 0, none⟩) 1 1 ∧ Off (fun k => k = q) w w4 ∧
      (∀ j, w3.frozen? ⟨q, j, none⟩ = false) ∧ w3.cell? ⟨q, 0, none⟩ = some (.int .u8 (t.k : Int)) ∧ w3.cell? ⟨q, 1, none⟩ = some (.string (str t.nm)) ∧ w3.cell? ⟨q, 2, none⟩ = some (.int .i64 t.n) ∧ w3.cell? ⟨q, 3, none⟩ = some (.slice A l c) := by
  have hb : Below w.heap.size w w2 := by rw [← h1]; exact (Below.refl _ _).alloc (Nat.le_refl _) _
  have hB : Blk w2 w.heap.size 24 #[.int .u8 (t.k : Int), .string (str t.nm), .int .i64 t.n, .slice A l c] := by rw [← h1]; exact Blk.new _ _ _
  rw [hg] at hB
  have hbb := hb.trans (h3.mono hb.size)
  have hq := h.blk.lt
  have hB3 := hB.below h3 hB.lt
  have hq3 := h.blk.below hbb hq
  have hs := hq3.set4 (.int .u8 2) (.string (str nm)) (.int .i64 0) (.slice (some ⟨g, 0, none⟩) 1 1)
  have ho := off4 w3 q (.int .u8 2) (.string (str nm)) (.int .i64 0) (.slice (some ⟨g, 0, none⟩) 1 1)
  refine ⟨_, rfl, ⟨hs, rfl, ?_, ⟨by show 2 < 256; decide, by show (-9223372036854775808 : Int) ≤ 0 ∧ (0 : Int) < 9223372036854775808; decide, hnm⟩, (by show 1 ≤ 1; decide), (by show 1 ≤ maxLen; decide)⟩, (Off.of_new hbb _).trans ho, hq3.frozen, hq3.cell 0, hq3.cell 1, hq3.cell 2, hq3.cell 3⟩
  have hin := (h.in_.bel hbb).off ho (fun b h1 h2 => h1 h2)
  have hB4 := hB3.off ho (by omega)
  exact At_blk (es := [⟨t, A, c⟩]) hB4 (fun j v hv => by
    have hv : [Value.int .u8 (t.k : Int), .string (str t.nm), .int .i64 t.n, .slice A t.ks.length c][j]? = some v := hv
    rw [h.len] at hv
    rw [List.getElem?_toArray]; exact hv) (fun e he => by rw [List.mem_singleton.1 he]; exact hin) (by omega)
theorem Bt.two {w w2 : World} {q : Nat} {t : Ty} {A : Option Addr} {l c g : Nat} (h : Bt w q t A l c) (h1 : w.alloc (.cells #[.int .u8 2, .string ⟨#[105, 110, 116]⟩, .int .i64 0, .slice none 0 0, .int .u8 (t.k : Int), .string (str t.nm), .int .i64 t.n, .slice A l c] 24) = w2) (hg : w.heap.size = g) :
    ∃ w4, ((((w2.setCell ⟨q, 0, none⟩ (.int .u8 4)).setCell ⟨q, 1, none⟩ (.string ⟨#[]⟩)).setCell ⟨q, 2, none⟩ (.int .i64 0)).setCell ⟨q, 3, none⟩ (.slice (some ⟨g, 0, none⟩) 2 2)) = w4 ∧ Bt w4 q (.node 4 [] 0 [tyInt, t]) (some ⟨g, 0, none⟩) 2 2 ∧ Off (fun k => k = q) w w4 ∧
      (∀ j, w2.frozen? ⟨q, j, none⟩ = false) ∧ w2.cell? ⟨q, 0, none⟩ = some (.int .u8 (t.k : Int)) ∧ w2.cell? ⟨q, 1, none⟩ = some (.string (str t.nm)) ∧ w2.cell? ⟨q, 2, none⟩ = some (.int .i64 t.n) ∧ w2.cell? ⟨q, 3, none⟩ = some (.slice A l c) := by
  have hb : Below w.heap.size w w2 := by rw [← h1]; exact (Below.refl _ _).alloc (Nat.le_refl _) _
  have hB : Blk w2 w.heap.size 24 #[.int .u8 2, .string ⟨#[105, 110, 116]⟩, .int .i64 0, .slice none 0 0, .int .u8 (t.k : Int), .string (str t.nm), .int .i64 t.n, .slice A l c] := by rw [← h1]; exact Blk.new _ _ _
  rw [hg] at hB
  have hq := h.blk.lt
  have hq3 := h.blk.below hb hq
  have hs := hq3.set4 (.int .u8 4) (.string ⟨#[]⟩) (.int .i64 0) (.slice (some ⟨g, 0, none⟩) 2 2)
  have ho := off4 w2 q (.int .u8 4) (.string ⟨#[]⟩) (.int .i64 0) (.slice (some ⟨g, 0, none⟩) 2 2)
  refine ⟨_, rfl, ⟨hs, rfl, ?_, ⟨by show 4 < 256; decide, by show (-9223372036854775808 : Int) ≤ 0 ∧ (0 : Int) < 9223372036854775808; decide, Nat.zero_le _⟩, (by show 2 ≤ 2; decide), (by show 2 ≤ maxLen; decide)⟩, (Off.of_new hb _).trans ho, hq3.frozen, hq3.cell 0, hq3.cell 1, hq3.cell 2, hq3.cell 3⟩
  have hin := (h.in_.bel hb).off ho (fun b h1 h2 => h1 h2)
  have hB4 := hB.off ho (by omega)
  exact At_blk (es := [⟨tyInt, none, 0⟩, ⟨t, A, c⟩]) hB4 (fun j v hv => by
    have hv : [Value.int .u8 2, .string ⟨#[105, 110, 116]⟩, .int .i64 0, .slice none 0 0, .int .u8 (t.k : Int), .string (str t.nm), .int .i64 t.n, .slice A t.ks.length c][j]? = some v := hv
    rw [h.len] at hv
    rw [List.getElem?_toArray]; exact hv) (fun e he => by
    rcases List.mem_cons.1 he with rfl | he
    · exact ⟨.nil _, ok_Int, Nat.le_refl _, Nat.zero_le _⟩
    · rw [List.mem_singleton.1 he]; exact hin) (by omega)
/-- The ten types, in memory. -/
theorem bad_at {w : World} {mA mB mC mD mF : Nat} (hA : Blk w mA 24 #[.int .u8 2, .string ⟨#[105, 110, 116]⟩, .int .i64 0, .slice none 0 0, .int .u8 2, .string ⟨#[105, 110, 116]⟩, .int .i64 0, .slice none 0 0]) (hB : Blk w mB 24 #[.int .u8 2, .string ⟨#[105, 110, 116]⟩, .int .i64 0, .slice none 0 0]) (hC : Blk w mC 24 #[.int .u8 2, .string ⟨#[105, 110, 116]⟩, .int .i64 0, .slice none 0 0, .int .u8 2, .string ⟨#[105, 110, 116]⟩, .int .i64 0, .slice none 0 0]) (hD : Blk w mD 24 #[.int .u8 2, .string ⟨#[105, 110, 116]⟩, .int .i64 0, .slice none 0 0]) (hF : Blk w mF 24 #[.int .u8 3, .string ⟨#[]⟩, .int .i64 0, .slice (some ⟨mA, 0, none⟩) 2 2, .int .u8 1, .string ⟨#[39, 98]⟩, .int .i64 0, .slice none 0 0, .int .u8 2, .string ⟨#[101, 120, 110]⟩, .int .i64 0, .slice none 0 0, .int .u8 2, .string ⟨#[110, 111, 98, 111, 100, 121]⟩, .int .i64 0, .slice none 0 0, .int .u8 2, .string ⟨#[105, 110, 116]⟩, .int .i64 0, .slice (some ⟨mB, 0, none⟩) 1 1, .int .u8 2, .string ⟨#[114, 101, 102]⟩, .int .i64 0, .slice none 0 0, .int .u8 2, .string ⟨#[108, 105, 115, 116]⟩, .int .i64 0, .slice none 0 0, .int .u8 2, .string ⟨#[97, 114, 114, 97, 121]⟩, .int .i64 0, .slice (some ⟨mC, 0, none⟩) 2 2, .int .u8 4, .string ⟨#[]⟩, .int .i64 0, .slice (some ⟨mD, 0, none⟩) 1 1, .int .u8 0, .string ⟨#[]⟩, .int .i64 0, .slice none 0 0]) :
    Ty.At (fun k => k < w.heap.size) w (some ⟨mF, 0, none⟩) badL := by
  have e1 : ∀ g, Blk w g 24 #[.int .u8 2, .string ⟨#[105, 110, 116]⟩, .int .i64 0, .slice none 0 0] → Ty.At (fun k => k < w.heap.size) w (some ⟨g, 0, none⟩) [tyInt] := fun g h => At_blk (es := [⟨tyInt, none, 0⟩]) h (fun i v hv => by rw [List.getElem?_toArray]; exact hv) (fun e he => by rw [List.mem_singleton.1 he]; exact ⟨.nil _, ok_Int, Nat.le_refl _, Nat.zero_le _⟩) h.lt
  have e2 : ∀ g, Blk w g 24 #[.int .u8 2, .string ⟨#[105, 110, 116]⟩, .int .i64 0, .slice none 0 0, .int .u8 2, .string ⟨#[105, 110, 116]⟩, .int .i64 0, .slice none 0 0] → Ty.At (fun k => k < w.heap.size) w (some ⟨g, 0, none⟩) [tyInt, tyInt] := fun g h => At_blk (es := [⟨tyInt, none, 0⟩, ⟨tyInt, none, 0⟩]) h (fun i v hv => by rw [List.getElem?_toArray]; exact hv) (fun e he => by
    have he : e = ⟨tyInt, none, 0⟩ := by simpa using he
    rw [he]; exact ⟨.nil _, ok_Int, Nat.le_refl _, Nat.zero_le _⟩) h.lt
  have hok : ∀ t ∈ badL, t.ok := by
    intro t ht
    unfold badL at ht
    simp only [List.mem_cons, List.mem_nil_iff, or_false] at ht
    rcases ht with rfl | rfl | rfl | rfl | rfl | rfl | rfl | rfl | rfl | rfl <;> exact ⟨by decide, by decide, by decide⟩
  refine At_blk (es := [⟨badL[0], some ⟨mA, 0, none⟩, 2⟩, ⟨badL[1], none, 0⟩, ⟨badL[2], none, 0⟩, ⟨badL[3], none, 0⟩, ⟨badL[4], some ⟨mB, 0, none⟩, 1⟩, ⟨badL[5], none, 0⟩, ⟨badL[6], none, 0⟩, ⟨badL[7], some ⟨mC, 0, none⟩, 2⟩, ⟨badL[8], some ⟨mD, 0, none⟩, 1⟩, ⟨badL[9], none, 0⟩]) hF (fun i v hv => by rw [List.getElem?_toArray]; exact hv) (fun e he => ?_) hF.lt
  simp only [List.mem_cons, List.mem_nil_iff, or_false] at he
  rcases he with rfl | rfl | rfl | rfl | rfl | rfl | rfl | rfl | rfl | rfl
  · exact ⟨e2 _ hA, hok _ (List.getElem_mem _), (by show 2 ≤ 2; decide), (by show 2 ≤ maxLen; decide)⟩
  · exact ⟨.nil _, hok _ (List.getElem_mem _), Nat.zero_le _, Nat.zero_le _⟩
  · exact ⟨.nil _, hok _ (List.getElem_mem _), Nat.zero_le _, Nat.zero_le _⟩
  · exact ⟨.nil _, hok _ (List.getElem_mem _), Nat.zero_le _, Nat.zero_le _⟩
  · exact ⟨e1 _ hB, hok _ (List.getElem_mem _), (by show 1 ≤ 1; decide), (by show 1 ≤ maxLen; decide)⟩
  · exact ⟨.nil _, hok _ (List.getElem_mem _), Nat.zero_le _, Nat.zero_le _⟩
  · exact ⟨.nil _, hok _ (List.getElem_mem _), Nat.zero_le _, Nat.zero_le _⟩
  · exact ⟨e2 _ hC, hok _ (List.getElem_mem _), (by show 2 ≤ 2; decide), (by show 2 ≤ maxLen; decide)⟩
  · exact ⟨e1 _ hD, hok _ (List.getElem_mem _), (by show 1 ≤ 1; decide), (by show 1 ≤ maxLen; decide)⟩
  · exact ⟨.nil _, hok _ (List.getElem_mem _), Nat.zero_le _, Nat.zero_le _⟩
end Go.Proofs.YtadogebhkldeiaaDoor
