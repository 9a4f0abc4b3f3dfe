/- stamp: StampRefuses: the datatypes in memory; what Text answers. -/
import Derived.Test.YtadogebhkldeiaaDoorRk
namespace Go.Proofs.YtadogebhkldeiaaDoor
open Go.RowKit Ty
set_option linter.unusedVariables false
set_option linter.unusedSimpArgs false
theorem flatD_get {ds : List Dc} {r j : Nat} {d : Dc} {v : Value} (h : ds[r]? = some d) (hj : d.cells[j]? = some v) : (ds.flatMap Dc.cells)[r * 16 + j]? = some v := by
  induction ds generalizing r with
  | nil => simp at h
  | cons y ds ih =>
    have hl : ∀ e : Dc, e.cells.length = 16 := fun e => rfl
    have hj16 : j < 16 := by rw [← hl d]; exact (List.getElem?_eq_some_iff.1 hj).1
    have e : (y :: ds).flatMap Dc.cells = y.cells ++ ds.flatMap Dc.cells := rfl
    cases r with
    | zero =>
      simp at h
      subst h
      rw [e, Nat.zero_mul, Nat.zero_add, List.getElem?_append_left (by rw [hl]; exact hj16)]
      exact hj
    | succ r =>
      rw [e, List.getElem?_append_right (by rw [hl]; omega), hl, show (r + 1) * 16 + j - 16 = r * 16 + j by omega]
      exact ih (by simpa using h)
theorem flatC_get {cs : List (Cn × Option Addr × Nat)} {r j : Nat} {c : Cn × Option Addr × Nat} {v : Value} (h : cs[r]? = some c) (hj : (c.1.cells c.2.1 c.2.2)[j]? = some v) : (cs.flatMap fun c => c.1.cells c.2.1 c.2.2)[r * 6 + j]? = some v := by
  induction cs generalizing r with
  | nil => simp at h
  | cons y cs ih =>
    have hl : ∀ e : Cn × Option Addr × Nat, (e.1.cells e.2.1 e.2.2).length = 6 := fun e => rfl
    have hj6 : j < 6 := by rw [← hl c]; exact (List.getElem?_eq_some_iff.1 hj).1
    have e : ((y :: cs).flatMap fun c => c.1.cells c.2.1 c.2.2) = y.1.cells y.2.1 y.2.2 ++ cs.flatMap fun c => c.1.cells c.2.1 c.2.2 := rfl
    cases r with
    | zero =>
      simp at h
      subst h
      rw [e, Nat.zero_mul, Nat.zero_add, List.getElem?_append_left (by rw [hl]; exact hj6)]
      exact hj
    | succ r =>
      rw [e, List.getElem?_append_right (by rw [hl]; omega), hl, show (r + 1) * 6 + j - 6 = r * 6 + j by omega]
      exact ih (by simpa using h)
theorem CnAt_blk {F : Nat → Prop} {w : World} {g : Nat} {arr : Array Value} (es : List (Cn × Option Addr × Nat)) (h : Blk w g 46 arr) (ha : arr = (es.flatMap fun c => c.1.cells c.2.1 c.2.2).toArray) (hF : F g) (hk : ∀ e ∈ es, Te.in_ F w ⟨e.1.ty, e.2.1, e.2.2⟩) : CnAt F w (some ⟨g, 0, none⟩) (es.map (·.1)) := fun r c hc => by
  rw [List.getElem?_map] at hc
  cases he : es[r]? with
  | none => rw [he] at hc; cases hc
  | some e =>
    rw [he] at hc
    cases hc
    refine ⟨g, 0, e.2.1, e.2.2, rfl, hF, h.lt, fun j v hj => ?_, hk e (List.mem_of_getElem? he)⟩
    rw [Nat.zero_add, h.cell, ha, List.getElem?_toArray]
    exact flatC_get he hj
theorem ok_B : (nmT bN []).ok := ⟨by decide, by decide, by decide⟩
theorem ds_at {F : Nat → Prop} {w : World} {vA c1 : Option Addr} {gX gY gZ : Nat} {t : Ty} {A : Option Addr} {l c : Nat} (hK : (listDc vA c1).K F w) (hX : Blk w gX 46 #[.string ⟨#[65]⟩, .bool true, .int .u8 2, .string ⟨#[98]⟩, .int .i64 0, .slice none 0 0]) (hY : Blk w gY 46 #[.string ⟨#[66]⟩, .bool false, .int .u8 0, .string ⟨#[]⟩, .int .i64 0, .slice none 0 0, .string ⟨#[67]⟩, .bool true, .int .u8 (t.k : Int), .string (str t.nm), .int .i64 t.n, .slice A l c]) (hZ : Blk w gZ 39 #[.int .u8 1, .string ⟨#[108, 105, 115, 116]⟩, .slice vA 1 1, .slice c1 2 2, .slice none 0 0, .int .u8 0, .string ⟨#[]⟩, .int .i64 0, .slice none 0 0, .int .u8 0, .string ⟨#[]⟩, .int .i64 0, .string ⟨#[]⟩, .slice none 0 0, .slice none 0 0, .slice none 0 0, .int .u8 1, .string ⟨#[97]⟩, .slice none 0 0, .slice (some ⟨gX, 0, none⟩) 1 1, .slice none 0 0, .int .u8 0, .string ⟨#[]⟩, .int .i64 0, .slice none 0 0, .int .u8 0, .string ⟨#[]⟩, .int .i64 0, .string ⟨#[]⟩, .slice none 0 0, .slice none 0 0, .slice none 0 0, .int .u8 1, .string ⟨#[98]⟩, .slice none 0 0, .slice (some ⟨gY, 0, none⟩) 2 2, .slice none 0 0, .int .u8 0, .string ⟨#[]⟩, .int .i64 0, .slice none 0 0, .int .u8 0, .string ⟨#[]⟩, .int .i64 0, .string ⟨#[]⟩, .slice none 0 0, .slice none 0 0, .slice none 0 0]) (fX : F gX) (fY : F gY) (fZ : F gZ) (hin : Te.in_ F w ⟨t, A, c⟩) (hl : t.ks.length = l) :
    DsAt F w (some ⟨gZ, 0, none⟩) (dsR vA c1 (some ⟨gX, 0, none⟩) (some ⟨gY, 0, none⟩) t) := by
  have k1 : (decA (some ⟨gX, 0, none⟩)).K F w := ⟨(fun r s h => by have h : ([] : List (List UInt8))[r]? = some s := h; simp at h), CnAt_blk [(⟨[65], true, nmT bN []⟩, none, 0)] hX rfl fX (fun e he => by rw [List.mem_singleton.1 he]; exact ⟨.nil _, ok_B, Nat.le_refl _, Nat.zero_le _⟩)⟩
  have k2 : (decB (some ⟨gY, 0, none⟩) t).K F w := ⟨(fun r s h => by have h : ([] : List (List UInt8))[r]? = some s := h; simp at h), CnAt_blk [(⟨[66], false, tyN⟩, none, 0), (⟨[67], true, t⟩, A, c)] hY (by rw [← hl]; rfl) fY (fun e he => by
    rcases List.mem_cons.1 he with rfl | he
    · exact ⟨.nil _, ok_N, Nat.le_refl _, Nat.zero_le _⟩
    · rw [List.mem_singleton.1 he]; exact hin)⟩
  intro r d hd
  have hc : ∀ (j : Nat) (v : Value), d.cells[j]? = some v → w.cell? ⟨gZ, 0 + r * 16 + j, none⟩ = some v := fun j v hj => by
    have ha : (#[.int .u8 1, .string ⟨#[108, 105, 115, 116]⟩, .slice vA 1 1, .slice c1 2 2, .slice none 0 0, .int .u8 0, .string ⟨#[]⟩, .int .i64 0, .slice none 0 0, .int .u8 0, .string ⟨#[]⟩, .int .i64 0, .string ⟨#[]⟩, .slice none 0 0, .slice none 0 0, .slice none 0 0, .int .u8 1, .string ⟨#[97]⟩, .slice none 0 0, .slice (some ⟨gX, 0, none⟩) 1 1, .slice none 0 0, .int .u8 0, .string ⟨#[]⟩, .int .i64 0, .slice none 0 0, .int .u8 0, .string ⟨#[]⟩, .int .i64 0, .string ⟨#[]⟩, .slice none 0 0, .slice none 0 0, .slice none 0 0, .int .u8 1, .string ⟨#[98]⟩, .slice none 0 0, .slice (some ⟨gY, 0, none⟩) 2 2, .slice none 0 0, .int .u8 0, .string ⟨#[]⟩, .int .i64 0, .slice none 0 0, .int .u8 0, .string ⟨#[]⟩, .int .i64 0, .string ⟨#[]⟩, .slice none 0 0, .slice none 0 0, .slice none 0 0] : Array Value) = ((dsR vA c1 (some ⟨gX, 0, none⟩) (some ⟨gY, 0, none⟩) t).flatMap Dc.cells).toArray := rfl
    rw [Nat.zero_add, hZ.cell, ha, List.getElem?_toArray]
    exact flatD_get hd hj
  have hm := List.mem_of_getElem? hd
  have hm : d ∈ [listDc vA c1, decA (some ⟨gX, 0, none⟩), decB (some ⟨gY, 0, none⟩) t] := hm
  simp only [List.mem_cons, List.mem_nil_iff, or_false] at hm
  rcases hm with rfl | rfl | rfl
  · exact ⟨gZ, 0, rfl, fZ, hZ.lt, hc, hK, by show 4 ≤ maxLen; decide⟩
  · exact ⟨gZ, 0, rfl, fZ, hZ.lt, hc, k1, by show 1 ≤ maxLen; decide⟩
  · exact ⟨gZ, 0, rfl, fZ, hZ.lt, hc, k2, by show 1 ≤ maxLen; decide⟩
section
variable {t0 : Ty} (ht : t0 ∈ badL) {k : Nat} (hf : finB (tyW t0 k) = true) {vA c1 c2 c3 : Option Addr} {gZ dc : Nat} {e0 : Addr} {w : World} (herr : w.cell? ⟨0, 0, none⟩ = some (errv e0)) (hds : DsAt (fun k => k < w.heap.size) w (some ⟨gZ, 0, none⟩) (dsR vA c1 c2 c3 (tyW t0 k)))
include ht hf herr hds
theorem textBad {A : Option Addr} {l c : Nat} (hl : (tyW t0 k).ks.length = l) (hT : Ty.At (fun k => k < w.heap.size) w A (tyW t0 k).ks) :
    Calls Tryd.prog 8 #[.agg #[.int .u8 ((tyW t0 k).k : Int), .string (str (tyW t0 k).nm), .int .i64 (tyW t0 k).n, .slice A l c], .slice (some ⟨gZ, 0, none⟩) 3 dc] w fun e w' => e = .returned (.tuple #[.string ⟨#[]⟩, .int .i64 13]) ∧ Below w.heap.size w w' := by
  have hk := kept_W (bad_kept vA c1 c2 c3 (tyW t0 k) t0 ht) k
  have hf2 := hf
  unfold finB at hf2
  simp only [Bool.and_eq_true, decide_eq_true_eq] at hf2
  obtain ⟨f1, f2, f4, f5, f6⟩ := hf2
  have h := Text_any (dsR vA c1 c2 c3 (tyW t0 k)) (some ⟨gZ, 0, none⟩) 3 dc rfl (by decide) (dok_R vA c1 c2 c3 t0 ht k hf) (tyW t0 k) A c f1 f2 f4 (fun h => by rw [hk] at h; cases h) f5 e0 w herr hds hT
  rw [res_not vA c1 c2 c3 t0 ht k] at h
  unfold Ty.val at h
  rw [hl] at h
  exact h
theorem textIn :
    Calls Tryd.prog 8 #[.agg #[.int .u8 2, .string ⟨#[97]⟩, .int .i64 0, .slice none 0 0], .slice (some ⟨gZ, 0, none⟩) 3 dc] w fun e w' => e = .returned (.tuple #[.string ⟨#[]⟩, .int .i64 13]) ∧ Below w.heap.size w w' := by
  have h := Text_any (dsR vA c1 c2 c3 (tyW t0 k)) (some ⟨gZ, 0, none⟩) 3 dc rfl (by decide) (dok_R vA c1 c2 c3 t0 ht k hf) (nmT aN []) none 0 (by decide) (by decide +kernel) (by decide +kernel) (fun _ => by decide +kernel) (by decide +kernel) e0 w herr hds (.nil _)
  rw [res_in vA c1 c2 c3 t0 ht k] at h
  exact h
theorem textLi {g cc : Nat} (hT : Blk w g 24 #[.int .u8 2, .string ⟨#[105, 110, 116]⟩, .int .i64 0, .slice none 0 0]) :
    Calls Tryd.prog 8 #[.agg #[.int .u8 2, .string ⟨#[108, 105, 115, 116]⟩, .int .i64 0, .slice (some ⟨g, 0, none⟩) 1 cc], .slice (some ⟨gZ, 0, none⟩) 3 dc] w fun e w' => e = .returned (.tuple #[.string (str txL), .int .i64 0]) ∧ Below w.heap.size w w' := by
  have hA : Ty.At (fun k => k < w.heap.size) w (some ⟨g, 0, none⟩) [tyInt] := At_blk (es := [⟨tyInt, none, 0⟩]) hT (fun i v hv => by rw [List.getElem?_toArray]; exact hv) (fun e he => by rw [List.mem_singleton.1 he]; exact ⟨.nil _, ok_Int, Nat.le_refl _, Nat.zero_le _⟩) hT.lt
  have h := Text_any (dsR vA c1 c2 c3 (tyW t0 k)) (some ⟨gZ, 0, none⟩) 3 dc rfl (by decide) (dok_R vA c1 c2 c3 t0 ht k hf) tyLI (some ⟨g, 0, none⟩) cc (by decide) (by decide +kernel) (by decide +kernel) (fun _ => by decide +kernel) (by decide +kernel) e0 w herr hds hA
  rw [res_li] at h
  exact h
end
end Go.Proofs.YtadogebhkldeiaaDoor
