/- cover: opened. -/
import Derived.Test.YtigaondgopahgaaPt
namespace Go.Proofs.Ytigaondgopahgaa
open Go.RowKit
set_option linter.unusedVariables false
set_option linter.unusedSimpArgs false
attribute [local go_sem] Oper.semAt_some
/-- A made row of patterns, of which the first are there. -/
structure KRow (F : Nat → Prop) (w : World) (g cap : Nat) (es : List Te) : Prop where
  blk : ∃ cur, Blk w g 40 cur ∧ cur.size = cap * 4 ∧ ∀ (r j : Nat) (e : Te) (v : Value), es[r]? = some e → e.cells[j]? = some v → cur[r * 4 + j]? = some v
  kids : ∀ e ∈ es, e.in_ (fun b => F b ∧ b ≠ g) w
section
variable {F : Nat → Prop} {w w' : World} {g cap : Nat} {es : List Te}
theorem KRow.bel (h : KRow F w g cap es) (hb : Below w.heap.size w w') : KRow F w' g cap es := by
  obtain ⟨cur, h1, h2⟩ := h.blk
  exact ⟨⟨cur, h1.below hb h1.lt, h2⟩, fun e he => (h.kids e he).bel hb⟩
theorem offR (w : World) (g i : Nat) (v0 v1 v2 v3 : Value) : Off (fun b => b = g) w ((((w.setCell ⟨g, i * 4, none⟩ v0).setCell ⟨g, i * 4 + 1, none⟩ v1).setCell ⟨g, i * 4 + 2, none⟩ v2).setCell ⟨g, i * 4 + 3, none⟩ v3) := (((Off.setc _ _ _ _).trans (Off.setc _ _ _ _)).trans (Off.setc _ _ _ _)).trans (Off.setc _ _ _ _)
theorem KRow.fin (h : KRow F w g cap es) {B : Nat} (hB : B ≤ g) (hl : es.length ≤ cap) (hm : cap ≤ maxLen) : PtO F B w (.slice (some ⟨g, 0, none⟩) es.length cap) es := by
  obtain ⟨cur, h1, h2, h3⟩ := h.blk
  refine ⟨⟨by rw [flatE_len], .inr ⟨g, cap, cur, rfl, hB, h1, hl, hm, by omega, ?_⟩⟩, fun e he => (h.kids e he).mono fun b hb => ⟨hb.1, fun e2 => hb.2 (by injection e2 with e2; exact e2.symm)⟩⟩
  apply List.ext_getElem?
  intro i
  rcases Nat.lt_or_ge i (es.length * 4) with hi | hi
  · rw [List.getElem?_take_of_lt hi]
    have hi2 : i < (flatE es).length := by rw [flatE_len]; exact hi
    obtain ⟨e, he, hv⟩ := flatE_inv (List.getElem?_eq_getElem hi2)
    have := h3 _ _ _ _ he hv
    rw [show i / 4 * 4 + i % 4 = i by omega] at this
    rw [List.getElem?_eq_getElem hi2]
    simpa using this
  · rw [List.getElem?_eq_none (by simp; omega), List.getElem?_eq_none (by rw [flatE_len]; omega)]
theorem KRow.set (h : KRow F w g cap es) {i : Nat} (hl : es.length = i) (hi : i < cap) (e : Te) (he : e.in_ (fun b => F b ∧ b ≠ g) w) {v0 v1 v2 v3 : Value} (hv : e.cells = [v0, v1, v2, v3]) : KRow F ((((w.setCell ⟨g, i * 4, none⟩ v0).setCell ⟨g, i * 4 + 1, none⟩ v1).setCell ⟨g, i * 4 + 2, none⟩ v2).setCell ⟨g, i * 4 + 3, none⟩ v3) g cap (es ++ [e]) := by
  obtain ⟨cur, h1, h2, h3⟩ := h.blk
  have ho : Off (fun b => b = g) w ((((w.setCell ⟨g, i * 4, none⟩ v0).setCell ⟨g, i * 4 + 1, none⟩ v1).setCell ⟨g, i * 4 + 2, none⟩ v2).setCell ⟨g, i * 4 + 3, none⟩ v3) := (((Off.setc _ _ _ _).trans (Off.setc _ _ _ _)).trans (Off.setc _ _ _ _)).trans (Off.setc _ _ _ _)
  refine ⟨⟨_, (((h1.set_ (i * 4) v0).set_ (i * 4 + 1) v1).set_ (i * 4 + 2) v2).set_ (i * 4 + 3) v3, by simp [h2], fun r j x v hx hj => ?_⟩, fun x hx => ?_⟩
  · have hj4 : j < 4 := by rw [← Te.cells_len x]; exact (List.getElem?_eq_some_iff.1 hj).1
    rcases Nat.lt_or_ge r i with hr | hr
    · rw [List.getElem?_append_left (by omega)] at hx
      have := h3 r j x v hx hj
      simp only [Array.getElem?_setIfInBounds]
      rw [if_neg (by omega), if_neg (by omega), if_neg (by omega), if_neg (by omega)]
      exact this
    · have hrl := (List.getElem?_eq_some_iff.1 hx).1
      rw [List.length_append, List.length_singleton] at hrl
      obtain rfl : r = i := by omega
      rw [List.getElem?_append_right (by omega), hl, Nat.sub_self] at hx
      have hxe : e = x := by simpa using hx
      subst hxe
      rw [hv] at hj
      simp only [Array.getElem?_setIfInBounds, Array.size_setIfInBounds, h2]
      match j, hj4 with
      | 0, _ => rw [if_neg (by omega), if_neg (by omega), if_neg (by omega), if_pos (by omega), if_pos (by omega)]; simpa using hj
      | 1, _ => rw [if_neg (by omega), if_neg (by omega), if_pos (by omega), if_pos (by omega)]; simpa using hj
      | 2, _ => rw [if_neg (by omega), if_pos (by omega), if_pos (by omega)]; simpa using hj
      | 3, _ => rw [if_pos (by omega), if_pos (by omega)]; simpa using hj
  · rcases List.mem_append.1 hx with hx | hx
    · exact (h.kids x hx).off ho fun b hb e => hb.2 e
    · rw [List.mem_singleton.1 hx]
      exact he.off ho fun b hb e => hb.2 e
end
theorem run_mkP (l c : Nat) (hl : l ≤ c) (hc : c ≤ 1000000) (w : World) :
    (Instr.makeSlice 22 (.int .i64 (l : Int)) (.int .i64 (c : Int))).run Try.prog w = .ok (.slice (some ⟨w.heap.size, 0, none⟩) l c) (w.alloc (.cells (madeCells #[.int .u8 0, .string ⟨#[]⟩, .int .i64 0, .slice none 0 0] (c * 4)) 40)) := by
  obtain ⟨i0, hi, hz0, hz1, hz2⟩ := info_parts infoPat
  have h := run_make (P := Try.prog) w 22 40 i0 (.agg #[.int .u8 0, .string ⟨#[]⟩, .int .i64 0, .slice none 0 0]) Try.underlying22 hi hz0 .i64 .i64 (l : Int) (c : Int) (by omega) (by omega) (by rw [hz2]; omega) (by omega)
  simpa [hz1, Value.cells] using h
/-- What opened tells of a row. -/
def OpenedP (F : Nat → Prop) (h : Head) (row : List Ty) (w : World) : Ending → World → Prop := fun e w' => Below w.heap.size w w' ∧
  ((∃ r A' c', opened h row = some r ∧ e = .returned (.tuple #[.slice A' r.length c', .bool true]) ∧ PAt (fun b => F b ∨ w.heap.size ≤ b) w' A' r.length c' r) ∨ (opened h row = none ∧ e = .returned (.tuple #[.slice none 0 0, .bool false])))
theorem five (k2 k : Nat) (nm2 nm : List UInt8) (m2 m : Int) (mn2 mn : Nat) : (k2 = k ∧ nm2 = nm ∧ m2 = m ∧ mn2 = mn) ∨ (k2 ≠ k) ∨ (k2 = k ∧ nm2 ≠ nm) ∨ (k2 = k ∧ nm2 = nm ∧ m2 ≠ m) ∨ (k2 = k ∧ nm2 = nm ∧ m2 = m ∧ mn2 ≠ mn) := by
  by_cases h1 : k2 = k <;> by_cases h2 : nm2 = nm <;> by_cases h3 : m2 = m <;> by_cases h4 : mn2 = mn <;> simp [h1, h2, h3, h4]
def anyE : Te := ⟨Ty.any, none, 0⟩
theorem anyE_in (F : Nat → Prop) (w : World) : anyE.in_ F w := ⟨.nil _, ⟨by decide, by decide, by decide⟩, Nat.le_refl _, Nat.zero_le _⟩
/-- The kids that are all wild. -/
theorem anys_map (n : Nat) : (List.replicate n anyE).map Te.t = List.replicate n Ty.any := by simp [anyE]
/-- With what comes behind the first. -/
theorem opened_app {F : Nat → Prop} {w w8 : World} {es : List Te} {g cap n c b off : Nat} {p : Ty} {ps : List Ty} (hA : PAt F w (some ⟨b, off, none⟩) n c (p :: ps)) (hg : w.heap.size ≤ g) (hb : Below w.heap.size w w8) (hK : KRow F w8 g cap es) (hl : es.length ≤ cap) (hcap : cap ≤ 500000) (hn : n ≤ 100000) (ad : Addr) (hc1 : n - 1 ≠ 0 → ad = ⟨b, off + 4, none⟩) (c2 : Nat) :
    ∃ A' c' w', (Builtin.append_ #[22, 22] 22 #[.slice (some ⟨g, 0, none⟩) es.length cap, .slice (some ad) (n - 1) c2]).run Try.prog w8 = .ok (.slice A' (es.length + (n - 1)) c') w' ∧ PAt (fun b => F b ∨ w.heap.size ≤ b) w' A' (es.length + (n - 1)) c' (es.map Te.t ++ ps) ∧ Below w.heap.size w w' := by
  have hP := hK.fin (B := w.heap.size) hg hl (by unfold maxLen; omega)
  obtain ⟨fs, h1, h2, h3, h4⟩ := hA.at_.tes
  have hn1 := hA.len
  rw [List.length_cons] at hn1
  cases fs with
  | nil => cases h1
  | cons f fs =>
    rw [List.map_cons] at h1
    injection h1 with h1 h1'
    obtain ⟨b', off', e1, _, hbl, h5⟩ := h4 (by simp)
    cases e1
    have hcell : ∀ (j : Nat) (v : Value), (flatE fs)[j]? = some v → w8.cell? (ad.add j) = some v := fun j v hj => by
      have hfl : fs.length = n - 1 := by rw [← List.length_map (f := Te.t), h1']; omega
      have hj2 := (List.getElem?_eq_some_iff.1 hj).1
      rw [flatE_len] at hj2
      have ha := hc1 (by omega)
      subst ha
      rw [add_off]
      refine (hb.cell (p := ⟨b, _, none⟩) hbl).trans ?_
      rw [show off + 4 + j = off + (4 + j) by omega]
      refine h5 (4 + j) v ?_
      rw [flatE_cons, List.getElem?_append_right (by rw [Te.cells_len]; omega), Te.cells_len, show 4 + j - 4 = j by omega]
      exact hj
    have hfl : fs.length = n - 1 := by rw [← List.length_map (f := Te.t), h1']; omega
    obtain ⟨v', w', hr, hO, hgr⟩ := hP.app (by have := hb.size; omega) fs ad (n - 1) c2 hfl hcell (fun e he => ((h3 e (List.mem_cons_of_mem _ he)).bnd.bel hb).mono fun k hk => ⟨hk.1, fun e2 => by
      have e3 : g = k := Option.some.inj e2
      have := hk.2
      omega⟩) (by omega)
    obtain ⟨A', c', rfl, hS⟩ := hO.shape
    rw [List.length_append, hfl, List.map_append, h1'] at hS
    rw [List.length_append, hfl] at hr
    exact ⟨A', c', w', hr, hS, hb.trans (hP.bel hgr (Nat.le_refl _) hb.size)⟩
/-- Nothing goes over. -/
theorem run_copy_wide0 {P : Program} (w : World) (dT sT ty elem : TypeId) (d a : Option Addr) (dLen dCap sLen sCap size : Nat) (hu : P.underlying dT = some (.slice elem)) (hs : (P.info? elem).map (·.size) = some size) (hn : Nat.min sLen dLen = 0) :
    (Builtin.copy_ #[dT, sT] ty #[.slice d dLen dCap, .slice a sLen sCap]).run P w = .ok (goInt 0) w := by
  cases hq : P.info? elem with
  | none => simp [hq] at hs
  | some i =>
    have hl : ∀ (x : Addr), (loadCells x 0).run P w = .ok #[] w := fun x => by simpa using run_loadCells_list (P := P) w x [] (by simp)
    cases d <;> cases a <;> simp [Builtin.copy_, run_underlying hu, Builtin.lenOf, Builtin.firstCells, sizeOf, typeInfo, hq, hn, storeCells, hl]
/-- Kids that are copied into a made row. -/
theorem copy_kids {F : Nat → Prop} {w : World} {g cap mn c' : Nat} {A' : Option Addr} {ks : List Ty} (hK : KRow F w g cap []) (hA : Ty.At (fun b => F b ∧ b ≠ g) w A' ks) (hl : ks.length = mn) (hc : mn ≤ cap) :
    ∃ (w' : World) (es : List Te), (Builtin.copy_ #[22, 22] 3 #[.slice (some ⟨g, 0, none⟩) mn cap, .slice A' mn c']).run Try.prog w = .ok (.int .i64 (mn : Int)) w' ∧ KRow F w' g cap es ∧ es.map Te.t = ks ∧ es.length = mn ∧ Off (fun k => k = g) w w' := by
  obtain ⟨es, h1, h2, h3, h4⟩ := hA.tes
  have hsz : (Try.prog.info? 40).map (·.size) = some 4 := by kernel_rfl
  by_cases h0 : mn = 0
  · subst h0
    have : es = [] := List.eq_nil_of_length_eq_zero (by omega)
    subst this
    exact ⟨w, [], run_copy_wide0 w _ _ _ 40 _ _ _ _ _ _ 4 Try.underlying22 hsz (Nat.min_self 0), hK, h1, rfl, Off.refl _ _⟩
  · obtain ⟨b, off, rfl, hb, hbl, hc2⟩ := h4 (by intro e; rw [e] at hl; exact h0 hl.symm)
    obtain ⟨cur, k1, k2, _⟩ := hK.blk
    have hr := run_copy_wide (P := Try.prog) w 22 22 3 40 g 0 mn cap 4 ⟨b, off, none⟩ mn c' cur 40 (flatE es) Try.underlying22 hsz k1 (by rw [flatE_len, h2, hl]; simp) (fun j v hj => by rw [add_off]; exact hc2 j v hj) (by rw [flatE_len, k2]; omega) (flatE_one es)
    have ho : Off (fun k => k = g) w (w.setRow g (cur.toList.take 0 ++ flatE es ++ cur.toList.drop (0 + (flatE es).length)).toArray) := ⟨rfl, rfl, rfl, by simp [World.setRow], fun k hk hn => setRow_other w g k _ hn⟩
    refine ⟨_, es, by rw [hr]; simp [goInt], ⟨⟨_, setRow_heap w g cur _ 40 _ k1, ?_, fun r j e v he hv => ?_⟩, fun e he => (h3 e he).off ho fun b hb e => hb.2 e⟩, h1, by omega, ho⟩
    · simp [flatE_len, k2]; omega
    · have h5 := flatE_get he hv
      have h6 := (List.getElem?_eq_some_iff.1 h5).1
      rw [List.getElem?_toArray, List.take_zero, List.nil_append, List.getElem?_append_left h6]
      exact h5
end Go.Proofs.Ytigaondgopahgaa
