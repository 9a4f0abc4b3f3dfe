/- HeapCollects: the rows that it makes. -/
import Derived.Test.YtclkkfffecmjnaaDr
namespace Go.Proofs.Ytclkkfffecmjnaa
open Go.RowKit
set_option linter.unusedVariables false
set_option linter.unusedSimpArgs false
theorem Try.infoI : (Try.prog.info? 3).map (fun i => (i.zero, i.size, i.bytes)) = some (some (.int .i64 0), 1, 8) := by kernel_rfl
theorem Try.infoO : (Try.prog.info? 35).map (fun i => (i.zero, i.size, i.bytes)) = some (some (.agg #[.int .u8 0, .int .i64 0, .slice none 0 0, .string (str [])]), 4, 56) := by kernel_rfl
theorem run_mkb (n : Nat) (x : Int) (hx : x = n) (hn : n ≤ 200000) (w : World) :
    (Instr.makeSlice 51 (.int .i64 x) (.int .i64 x)).run Try.prog w = .ok (.slice (some ⟨w.heap.size, 0, none⟩) n n) (w.alloc (.cells (rowb (List.replicate n false)) 4)) := by
  subst hx
  obtain ⟨i0, hi, hz0, hz1, hz2⟩ := info_parts Try.infoB
  have h := run_make (P := Try.prog) w 51 4 i0 (.bool false) Try.underlying51 hi hz0 .i64 .i64 n n (by omega) (by omega) (by rw [hz2]; omega) (by omega)
  rw [← made_rowb]
  simpa [hz1, Value.cells] using h
theorem run_mki (n : Nat) (x : Int) (hx : x = n) (hn : n ≤ 200000) (w : World) :
    ∃ C : Array Value, C.size = n ∧ (Instr.makeSlice 41 (.int .i64 x) (.int .i64 x)).run Try.prog w = .ok (.slice (some ⟨w.heap.size, 0, none⟩) n n) (w.alloc (.cells C 3)) := by
  subst hx
  obtain ⟨i0, hi, hz0, hz1, hz2⟩ := info_parts Try.infoI
  have h := run_make (P := Try.prog) w 41 3 i0 (.int .i64 0) Try.underlying41 hi hz0 .i64 .i64 n n (by omega) (by omega) (by rw [hz2]; omega) (by omega)
  exact ⟨madeCells #[.int .i64 0] n, size_madeCells _ _, by simpa [hz1, Value.cells] using h⟩
theorem run_mko (n : Nat) (x : Int) (hx : x = n) (hn : n ≤ 200000) (w : World) :
    ∃ C : Array Value, C.size = n * 4 ∧ (Instr.makeSlice 53 (.int .i64 x) (.int .i64 x)).run Try.prog w = .ok (.slice (some ⟨w.heap.size, 0, none⟩) n n) (w.alloc (.cells C 35)) := by
  subst hx
  obtain ⟨i0, hi, hz0, hz1, hz2⟩ := info_parts Try.infoO
  have h := run_make (P := Try.prog) w 53 35 i0 _ Try.underlying53 hi hz0 .i64 .i64 n n (by omega) (by omega) (by rw [hz2]; omega) (by omega)
  rw [hz1] at h
  exact ⟨_, size_madeCells _ _, by simpa using h⟩
/-- The objects that were, below k. -/
def RowO (w : World) (H : HS) (F : Nat → Prop) (C : Array Value) (k : Nat) : Prop := ∀ j : Nat, 1 ≤ j → j < k → ∃ G c, C[j * 4]? = some (.int .u8 ((getO H (j : Int)).k : Int)) ∧ C[j * 4 + 1]? = some (.int .i64 (getO H (j : Int)).tag) ∧ C[j * 4 + 2]? = some (.slice G (getO H (j : Int)).ws.length c) ∧ C[j * 4 + 3]? = some (.string (str (getO H (j : Int)).t)) ∧ Words w G (getO H (j : Int)).ws ∧ ∀ p : Addr, G = some p → F p.block
theorem RowO.one (w : World) (H : HS) (F : Nat → Prop) (C : Array Value) : RowO w H F C 1 := fun j h1 h2 => by omega
theorem RowO.keep {w w' : World} {H : HS} {F F' : Nat → Prop} {C : Array Value} {k : Nat} (h : RowO w H F C k) (hs : w.heap.size ≤ w'.heap.size) (hk : ∀ b, F b → b < w.heap.size → w'.heap[b]? = w.heap[b]?) (hF : ∀ b, F b → F' b) : RowO w' H F' C k := fun j h1 h2 => by
  obtain ⟨G, c, c0, c1, c2, c3, hw, hp⟩ := h j h1 h2
  exact ⟨G, c, c0, c1, c2, c3, hw.same hs (fun p e hl => hk _ (hp p e) hl), fun p e => hF _ (hp p e)⟩
/-- The cells behind one object more. -/
def putO (C : Array Value) (k : Nat) (v0 v1 v2 v3 : Value) : Array Value := (((C.setIfInBounds (k * 4) v0).setIfInBounds (k * 4 + 1) v1).setIfInBounds (k * 4 + 2) v2).setIfInBounds (k * 4 + 3) v3
theorem putO_size (C : Array Value) (k : Nat) (v0 v1 v2 v3 : Value) : (putO C k v0 v1 v2 v3).size = C.size := by unfold putO; simp
theorem putO_ne (C : Array Value) (k : Nat) (v0 v1 v2 v3 : Value) {i : Nat} (h : i < k * 4 ∨ k * 4 + 4 ≤ i) : (putO C k v0 v1 v2 v3)[i]? = C[i]? := by
  unfold putO
  rw [Array.getElem?_setIfInBounds_ne (by omega), Array.getElem?_setIfInBounds_ne (by omega), Array.getElem?_setIfInBounds_ne (by omega), Array.getElem?_setIfInBounds_ne (by omega)]
theorem putO_at (C : Array Value) (k : Nat) (v0 v1 v2 v3 : Value) (h : k * 4 + 4 ≤ C.size) : (putO C k v0 v1 v2 v3)[k * 4]? = some v0 ∧ (putO C k v0 v1 v2 v3)[k * 4 + 1]? = some v1 ∧ (putO C k v0 v1 v2 v3)[k * 4 + 2]? = some v2 ∧ (putO C k v0 v1 v2 v3)[k * 4 + 3]? = some v3 := by
  unfold putO
  refine ⟨?_, ?_, ?_, ?_⟩ <;> (simp only [Array.getElem?_setIfInBounds, Array.size_setIfInBounds]; simp; omega)
theorem RowO.put {w : World} {H : HS} {F : Nat → Prop} {C : Array Value} {k n : Nat} (h : RowO w H F C k) (hs : C.size = n * 4) (hk : k < n) (G : Option Addr) (c : Nat) (hw : Words w G (getO H (k : Int)).ws) (hF : ∀ p : Addr, G = some p → F p.block) :
    RowO w H F (putO C k (.int .u8 ((getO H (k : Int)).k : Int)) (.int .i64 (getO H (k : Int)).tag) (.slice G (getO H (k : Int)).ws.length c) (.string (str (getO H (k : Int)).t))) (k + 1) := fun j h1 h2 => by
  by_cases e : j = k
  · subst e
    have := putO_at C j (.int .u8 ((getO H (j : Int)).k : Int)) (.int .i64 (getO H (j : Int)).tag) (.slice G (getO H (j : Int)).ws.length c) (.string (str (getO H (j : Int)).t)) (by omega)
    exact ⟨G, c, this.1, this.2.1, this.2.2.1, this.2.2.2, hw, hF⟩
  · obtain ⟨G', c', c0, c1, c2, c3, r⟩ := h j h1 (by omega)
    exact ⟨G', c', (putO_ne C k _ _ _ _ (by omega)).trans c0, (putO_ne C k _ _ _ _ (by omega)).trans c1, (putO_ne C k _ _ _ _ (by omega)).trans c2, (putO_ne C k _ _ _ _ (by omega)).trans c3, r⟩
theorem Blk.putO {w : World} {q : Nat} {C : Array Value} {t : TypeId} (h : Blk w q t C) (k : Nat) (v0 v1 v2 v3 : Value) : Blk ((((w.setCell ⟨q, k * 4, none⟩ v0).setCell ⟨q, k * 4 + 1, none⟩ v1).setCell ⟨q, k * 4 + 2, none⟩ v2).setCell ⟨q, k * 4 + 3, none⟩ v3) q t (putO C k v0 v1 v2 v3) := (((h.set_ _ _).set_ _ _).set_ _ _).set_ _ _
theorem Blk.some_cell {w : World} {q : Nat} {C : Array Value} {t : TypeId} (h : Blk w q t C) {i : Nat} (hi : i < C.size) : ∃ v, w.cell? ⟨q, i, none⟩ = some v := ⟨_, (h.cell i).trans (Array.getElem?_eq_getElem hi)⟩
theorem Ints.same_ {w w' : World} {A : Option Addr} {zs : List Int} (h : Ints w A zs) (hs : w.heap.size ≤ w'.heap.size) (he : ∀ p : Addr, A = some p → zs ≠ [] → w'.heap[p.block]? = w.heap[p.block]?) : Ints w' A zs := fun k z hk => by
  obtain ⟨b, off, e, hlt, h1, h2⟩ := h k z hk
  exact ⟨b, off, e, Nat.lt_of_lt_of_le hlt hs, (World.cell?_of_block (a := ⟨b, off + k, none⟩) (he ⟨b, off, none⟩ e (fun h => by rw [h] at hk; cases hk))).trans h1, h2⟩
/-- What lies there while HeapCollects goes through the handles. -/
structure CoS (w : World) (g t c1 : Nat) (H : HS) (zs ds : List Int) (A1 A5 : Option Addr) (q qw qt qo : Nat) (B : List Bool) (F : Nat → Prop) (C : Array Value) (T : List Bool) (O : Array Value) (wr : World) : Prop where
  hr : HR w wr (fun b => b = q ∨ b = qw ∨ b = qt ∨ b = qo ∨ F b) g t H
  bq : Blk wr q 4 (rowb B)
  bw : Blk wr qw 35 C
  bt : Blk wr qt 4 (rowb T)
  bo : Blk wr qo 3 O
  i1 : Ints wr A1 zs
  i5 : Ints wr A5 ds
  a1 : ∀ p : Addr, A1 = some p → zs ≠ [] → p.block < q
  a5 : ∀ p : Addr, A5 = some p → ds ≠ [] → F p.block
  lt : w.heap.size ≤ q ∧ q < qw ∧ qw < qt ∧ qt < qo
  f : ∀ b, F b → b ≠ q ∧ b ≠ qw ∧ b ≠ qt ∧ b ≠ qo
  sz : B.length = c1 ∧ C.size = c1 * 4 ∧ T.length = c1 ∧ O.size = c1
section
variable {w wr w2 : World} {g t c1 : Nat} {H : HS} {zs ds : List Int} {A1 A5 : Option Addr} {q qw qt qo : Nat} {B : List Bool} {F : Nat → Prop} {C : Array Value} {T : List Bool} {O : Array Value}
theorem CoS.below (h : CoS w g t c1 H zs ds A1 A5 q qw qt qo B F C T O wr) (hb : Below wr.heap.size wr w2) : CoS w g t c1 H zs ds A1 A5 q qw qt qo B F C T O w2 :=
  ⟨(h.hr.below hb).1, h.bq.below hb h.bq.lt, h.bw.below hb h.bw.lt, h.bt.below hb h.bt.lt, h.bo.below hb h.bo.lt, h.i1.below hb, h.i5.below hb, h.a1, h.a5, h.lt, h.f, h.sz⟩
theorem CoS.more (h : CoS w g t c1 H zs ds A1 A5 q qw qt qo B F C T O wr) (hb : Below wr.heap.size wr w2) : CoS w g t c1 H zs ds A1 A5 q qw qt qo B (fun b => F b ∨ (wr.heap.size ≤ b ∧ b < w2.heap.size)) C T O w2 :=
  ⟨h.hr.more hb fun k hk => by
    rcases hk with hk | hk | hk | hk | hk | hk
    · exact .inl (.inl hk)
    · exact .inl (.inr (.inl hk))
    · exact .inl (.inr (.inr (.inl hk)))
    · exact .inl (.inr (.inr (.inr (.inl hk))))
    · exact .inl (.inr (.inr (.inr (.inr hk))))
    · exact .inr hk, h.bq.below hb h.bq.lt, h.bw.below hb h.bw.lt, h.bt.below hb h.bt.lt, h.bo.below hb h.bo.lt, h.i1.below hb, h.i5.below hb, h.a1, fun p e hn => .inl (h.a5 p e hn), h.lt, fun b hF => by
    rcases hF with hF | hF
    · exact h.f b hF
    · have := h.bo.lt
      have := h.lt
      omega, h.sz⟩
theorem CoS.offW (h : CoS w g t c1 H zs ds A1 A5 q qw qt qo B F C T O wr) (ho : Off (fun b => b = qw) wr w2) {C' : Array Value} (hB : Blk w2 qw 35 C') (hs : C'.size = C.size) : CoS w g t c1 H zs ds A1 A5 q qw qt qo B F C' T O w2 := by
  have hl := h.lt
  exact ⟨h.hr.turnX ho fun k e => ⟨.inr (.inl e), by rw [e]; omega⟩, h.bq.off ho (by omega), hB, h.bt.off ho (by omega), h.bo.off ho (by omega), h.i1.off ho (fun p e hn => by have := h.a1 p e hn; omega), h.i5.off ho (fun p e hn => by have := h.f _ (h.a5 p e hn); omega), h.a1, h.a5, h.lt, h.f, ⟨h.sz.1, by rw [hs]; exact h.sz.2.1, h.sz.2.2⟩⟩
theorem CoS.offT (h : CoS w g t c1 H zs ds A1 A5 q qw qt qo B F C T O wr) (ho : Off (fun b => b = qt) wr w2) {T' : List Bool} (hB : Blk w2 qt 4 (rowb T')) (hs : T'.length = T.length) : CoS w g t c1 H zs ds A1 A5 q qw qt qo B F C T' O w2 := by
  have hl := h.lt
  exact ⟨h.hr.turnX ho fun k e => ⟨.inr (.inr (.inl e)), by rw [e]; omega⟩, h.bq.off ho (by omega), h.bw.off ho (by omega), hB, h.bo.off ho (by omega), h.i1.off ho (fun p e hn => by have := h.a1 p e hn; omega), h.i5.off ho (fun p e hn => by have := h.f _ (h.a5 p e hn); omega), h.a1, h.a5, h.lt, h.f, ⟨h.sz.1, h.sz.2.1, by rw [hs]; exact h.sz.2.2.1, h.sz.2.2.2⟩⟩
theorem CoS.offO (h : CoS w g t c1 H zs ds A1 A5 q qw qt qo B F C T O wr) (ho : Off (fun b => b = qo) wr w2) {O' : Array Value} (hB : Blk w2 qo 3 O') (hs : O'.size = O.size) : CoS w g t c1 H zs ds A1 A5 q qw qt qo B F C T O' w2 := by
  have hl := h.lt
  exact ⟨h.hr.turnX ho fun k e => ⟨.inr (.inr (.inr (.inl e))), by rw [e]; omega⟩, h.bq.off ho (by omega), h.bw.off ho (by omega), h.bt.off ho (by omega), hB, h.i1.off ho (fun p e hn => by have := h.a1 p e hn; omega), h.i5.off ho (fun p e hn => by have := h.f _ (h.a5 p e hn); omega), h.a1, h.a5, h.lt, h.f, ⟨h.sz.1, h.sz.2.1, h.sz.2.2.1, by rw [hs]; exact h.sz.2.2.2⟩⟩
/-- The heap has done a step of its own. -/
theorem CoS.turned {u : Nat} {H' : HS} (h : CoS w g t c1 H zs ds A1 A5 q qw qt qo B F C T O wr) (hr : HR w w2 (fun b => b = q ∨ b = qw ∨ b = qt ∨ b = qo ∨ F b) g u H') (hk : Keep (fun b => b = q ∨ b = qw ∨ b = qt ∨ b = qo ∨ F b) wr w2) (hi : Ints w A1 zs) : CoS w g u c1 H' zs ds A1 A5 q qw qt qo B F C T O w2 :=
  ⟨hr, h.bq.same (hk.at_ q (.inl rfl)), h.bw.same (hk.at_ qw (.inr (.inl rfl))), h.bt.same (hk.at_ qt (.inr (.inr (.inl rfl)))), h.bo.same (hk.at_ qo (.inr (.inr (.inr (.inl rfl))))), hi.below hr.bel, h.i5.same_ hk.size (fun p e hn => hk.at_ _ (.inr (.inr (.inr (.inr (h.a5 p e hn)))))), h.a1, h.a5, h.lt, h.f, h.sz⟩
end
end Go.Proofs.Ytclkkfffecmjnaa
