/- The law, walked. -/
import Derived.Test.YtimkiifcmegfeaaBN
import Derived.OpenShut
import Derived.Deep.Slices
import Derived.Deep.Fields
import Derived.Lib.SmallJoins
import Derived.ChangeSlices
import Derived.ShutString
/- code: what came in: codes, how one is spoilt, where bytes are cut. -/
namespace Go.Proofs.Ytimkiifcmegfeaa
open Go.RowKit Go.ChangeShapes Go.WideShapes
set_option linter.unusedVariables false
theorem add_none {b off : Nat} (i : Nat) : (⟨b, off, none⟩ : Addr).add i = ⟨b, off + i, none⟩ := by unfold Addr.add; split <;> simp_all
theorem str_of' (b : ByteArray) : str b.data.toList = b := by unfold str; cases b; simp
def OpenedSp (_ : World) (v : Value) : Prop := ∃ (F T H : Nat) (o : Int), v = .agg #[.int .u8 (F : Int), .int .u8 (T : Int), .int .u8 (H : Int), .int .i64 o] ∧ F < 256 ∧ T < 256 ∧ H < 256 ∧ (-9223372036854775808 ≤ o ∧ o < 9223372036854775808)
def zeroSp : Value := .agg #[.int .u8 0, .int .u8 0, .int .u8 0, .int .i64 0]
set_option maxRecDepth 20000 in
theorem openedSp {H : Type} {enc : TypeId × Value → H} {W : World} {v : Value} {d : DataW H} {p : List MemPlace} (hok : Value.okWide Try.prog W .any 0 56 v)
    (h : DataW.Trod enc Try.prog W 0 (fun _ => true) true 56 v d p) : OpenedSp W v := by
  obtain ⟨v0, v1, v2, v3, y0, y1, y2, y3, n, rfl, _, _, h0, h1, h2, h3⟩ := Joins.open_agg4 Try.underlying56 (by kernel_rfl) (by kernel_rfl) hok h
  obtain ⟨s0, e0, _, f0⟩ := DataW.trod_int Try.underlying5 h0
  obtain ⟨s1, e1, _, f1⟩ := DataW.trod_int Try.underlying5 h1
  obtain ⟨s2, e2, _, f2⟩ := DataW.trod_int Try.underlying5 h2
  obtain ⟨s3, e3, _, f3⟩ := DataW.trod_int Try.underlying2 h3
  simp at e0 e1 e2 e3
  obtain ⟨u0, rfl, hu0⟩ := wf_u8n f0
  obtain ⟨u1, rfl, hu1⟩ := wf_u8n f1
  obtain ⟨u2, rfl, hu2⟩ := wf_u8n f2
  exact ⟨u0, u1, u2, s3, by rw [e0, e1, e2, e3], hu0, hu1, hu2, wf_i64 f3⟩
def OpenedCu (_ : World) (v : Value) : Prop := ∃ (k m : Nat), v = .agg #[.int .u16 (k : Int), .int .u8 (m : Int)] ∧ k < 65536 ∧ m < 256
def zeroCu : Value := .agg #[.int .u16 0, .int .u8 0]
set_option maxRecDepth 20000 in
theorem openedCu {H : Type} {enc : TypeId × Value → H} {W : World} {v : Value} {d : DataW H} {p : List MemPlace} (hok : Value.okWide Try.prog W .any 0 43 v)
    (h : DataW.Trod enc Try.prog W 0 (fun _ => true) true 43 v d p) : OpenedCu W v := by
  obtain ⟨v0, v1, y0, y1, n, rfl, _, _, h0, h1⟩ := Joins.open_agg2 Try.underlying43 (by kernel_rfl) (by kernel_rfl) hok h
  obtain ⟨s0, e0, _, f0⟩ := DataW.trod_int Try.underlying41 h0
  obtain ⟨s1, e1, _, f1⟩ := DataW.trod_int Try.underlying5 h1
  simp at e0 e1
  obtain ⟨u0, rfl, hu0⟩ := wf_u16 f0
  obtain ⟨u1, rfl, hu1⟩ := wf_u8n f1
  exact ⟨u0, u1, by rw [e0, e1], hu0, hu1⟩
theorem bulk_one {H : Type} (d : DataW H) : 1 ≤ Rows.uptoBulk d := by
  cases d with
  | lit l => cases l <;> simp [Rows.uptoBulk]
  | _ => simp [Rows.uptoBulk]
/-- A row's parts are at most as great as its data. -/
theorem sum_bulk {α H : Type} (f : α → Nat) : ∀ (l : List α) (ds : List (DataW H)), l.length = ds.length → (∀ (r : Nat) a d, l[r]? = some a → ds[r]? = some d → f a ≤ Rows.uptoBulk d) → (l.map f).sum ≤ Rows.uptoBulkAll ds
  | [], _, _, _ => by simp
  | a :: l, [], h, _ => by simp at h
  | a :: l, d :: ds, h, hf => by
    rw [List.map_cons, List.sum_cons, Rows.uptoBulkAll]
    have h1 := hf 0 a d rfl rfl
    have h2 := sum_bulk f l ds (by simpa using h) fun r x y hx hy => hf (r + 1) x y (by simpa using hx) (by simpa using hy)
    omega
section
variable {H : Type} {enc : TypeId × Value → H} {W : World}
/-- A slice that came in, whatever its elements are. -/
theorem rows_in {α : Type} [Inhabited α] {st et : TypeId} {K : Nat} (hu : Try.prog.underlying st = some (.slice et)) (hC : Try.prog.cellsOf et = K) (hK : 0 < K) (cl : α → List Value) (hcl : ∀ a, (cl a).length = K) (P : α → DataW H → Prop)
    {fuel : Nat} (ih : ∀ n, n < fuel → ∀ (cs : List Value) (y : DataW H × List MemPlace), cs.length = K → DataW.trod enc Try.prog W 0 (fun _ => true) true n et cs = some y → ∃ a : α, cs = cl a ∧ P a y.1)
    {v : Value} {y : DataW H × List MemPlace} (h : DataW.trod enc Try.prog W 0 (fun _ => true) true fuel st [v] = some y) :
    ∃ A len cap, ∃ l : List α, v = .slice A len cap ∧ l.length = len ∧ len ≤ cap ∧ cap ≤ maxLen ∧ (A = none → cap = 0) ∧
      (∀ (r : Nat) a, l[r]? = some a → ∃ b off, A = some ⟨b, off, none⟩ ∧ b < W.heap.size ∧ ∀ (j : Nat) (u : Value), (cl a)[j]? = some u → W.cell? ⟨b, off + r * K + j, none⟩ = some u) ∧
      ∃ ds : List (DataW H), l.length = ds.length ∧ Rows.uptoBulkAll ds + 1 ≤ Rows.uptoBulk y.1 ∧ ∀ (r : Nat) a d, l[r]? = some a → ds[r]? = some d → P a d := by
  rcases DataW.trod_slice hu h with ⟨hcs, hy⟩ | ⟨x, len, cap, elems, rest, n, hfu, hcs, hy, _, hl, hm, hlen, hel, _, _⟩
  · simp at hcs
    exact ⟨none, 0, 0, [], hcs, rfl, Nat.le_refl _, Nat.zero_le _, fun _ => rfl, fun r a ha => by simp at ha, [], rfl, by rw [hy]; simp [Rows.uptoBulk, Rows.uptoBulkAll], fun r a d ha => by simp at ha⟩
  · simp at hcs
    subst hcs
    have each : ∀ r, r < len → ∃ e : α, (∀ (j : Nat) (u : Value), (cl e)[j]? = some u → W.cell? (x.add (r * K + j)) = some u) ∧ ∀ z, elems[r]? = some z → P e z.1 := by
      intro r hrm
      have h1 := hel r hrm
      rw [hC, List.getElem?_eq_getElem (show r < elems.length by omega)] at h1
      cases hcz : W.cells? 0 (x.add (r * K)) K with
      | none => rw [hcz] at h1; cases h1
      | some cs' =>
        rw [hcz] at h1
        obtain ⟨_, hlenK, hat⟩ := World.cells?_some hcz
        obtain ⟨e, he, hP⟩ := ih n (by omega) cs' _ hlenK h1
        refine ⟨e, fun j u hj => ?_, fun z hz => by rw [List.getElem?_eq_getElem (show r < elems.length by omega)] at hz; injection hz with hz; subst hz; exact hP⟩
        have hjK : j < K := by
          have := (List.getElem?_eq_some_iff.1 hj).1
          rwa [hcl] at this
        have := hat j hjK
        rw [Deep.add_add, he] at this
        rw [this]
        exact hj
    obtain ⟨F, hF⟩ : ∃ F : Nat → α, ∀ r, r < len → (∀ (j : Nat) (u : Value), (cl (F r))[j]? = some u → W.cell? (x.add (r * K + j)) = some u) ∧ ∀ z, elems[r]? = some z → P (F r) z.1 := by
      refine ⟨fun r => if h : r < len then (each r h).choose else default, fun r h => ?_⟩
      simp only [dif_pos h]
      exact (each r h).choose_spec
    have get : ∀ (r : Nat) (a : α), ((List.range len).map F)[r]? = some a → r < len ∧ F r = a := fun r a ha => by
      rw [List.getElem?_map] at ha
      have hrl : r < len := by
        rcases Nat.lt_or_ge r len with h | h
        · exact h
        · rw [List.getElem?_eq_none (by simp; omega)] at ha; cases ha
      rw [List.getElem?_range hrl] at ha
      exact ⟨hrl, by simpa using ha⟩
    refine ⟨some x, len, cap, (List.range len).map F, rfl, by simp, hl, hm, (fun h => by cases h), fun r a ha => ?_, elems.map (·.1), by simp [hlen], by rw [hy]; simp [Rows.uptoBulk], fun r a d ha hd => ?_⟩
    · obtain ⟨hrl, rfl⟩ := get r a ha
      obtain ⟨k1, _⟩ := hF r hrl
      obtain ⟨b, off, spot⟩ := x
      obtain ⟨u0, hu0⟩ : ∃ u, (cl (F 0))[0]? = some u := ⟨_, List.getElem?_eq_getElem (by rw [hcl]; exact hK)⟩
      have c0 := (hF 0 (by omega)).1 0 u0 hu0
      have hspot : spot = none := by simpa [Addr.add] using World.cell?_spot c0
      subst hspot
      have hlt : b < W.heap.size := by simpa [Addr.add] using World.block_lt_of_cell? W _ c0
      refine ⟨b, off, rfl, hlt, fun j u hj => ?_⟩
      have := k1 j u hj
      rw [add_none, ← Nat.add_assoc] at this
      exact this
    · obtain ⟨hrl, rfl⟩ := get r a ha
      rw [List.getElem?_map] at hd
      cases hz : elems[r]? with
      | none => rw [hz] at hd; cases hd
      | some z =>
        rw [hz] at hd
        have hd : z.1 = d := by simpa using hd
        rw [← hd]
        exact (hF r hrl).2 z hz
end
section
variable {H : Type} {enc : TypeId × Value → H} {W : World}
set_option maxRecDepth 20000 in
theorem ins_in (n : Nat) (cs : List Value) (y : DataW H × List MemPlace) (hl : cs.length = 5) (ht : DataW.trod enc Try.prog W 0 (fun _ => true) true n 46 cs = some y) : ∃ i : Ins, cs = i.cells ∧ i.ok := by
  obtain ⟨v0, v1, v2, v3, v4, rfl⟩ : ∃ a b c d e, cs = [a, b, c, d, e] := by
    match cs, hl with
    | [a, b, c, d, e], _ => exact ⟨a, b, c, d, e, rfl⟩
  obtain ⟨ys, n', _, _, _, hyl, hfl⟩ := DataW.trod_struct Try.underlying46 ht
  have ya : ∀ j, j < 5 → ∃ y, ys[j]? = some y := fun j hj => ⟨_, List.getElem?_eq_getElem (by rw [hyl]; exact hj)⟩
  obtain ⟨y0, hy0⟩ := ya 0 (by decide)
  obtain ⟨y1, hy1⟩ := ya 1 (by decide)
  obtain ⟨y2, hy2⟩ := ya 2 (by decide)
  obtain ⟨y3, hy3⟩ := ya 3 (by decide)
  obtain ⟨y4, hy4⟩ := ya 4 (by decide)
  have h0 : DataW.trod enc Try.prog W 0 (fun _ => true) true n' 5 [v0] = some y0 := (hfl 0 _ rfl).trans hy0
  have h1 : DataW.trod enc Try.prog W 0 (fun _ => true) true n' 2 [v1] = some y1 := (hfl 1 _ rfl).trans hy1
  have h2 : DataW.trod enc Try.prog W 0 (fun _ => true) true n' 2 [v2] = some y2 := (hfl 2 _ rfl).trans hy2
  have h3 : DataW.trod enc Try.prog W 0 (fun _ => true) true n' 2 [v3] = some y3 := (hfl 3 _ rfl).trans hy3
  have h4 : DataW.trod enc Try.prog W 0 (fun _ => true) true n' 9 [v4] = some y4 := (hfl 4 _ rfl).trans hy4
  obtain ⟨s0, e0, _, f0⟩ := DataW.trod_int Try.underlying5 h0
  obtain ⟨s1, e1, _, f1⟩ := DataW.trod_int Try.underlying2 h1
  obtain ⟨s2, e2, _, f2⟩ := DataW.trod_int Try.underlying2 h2
  obtain ⟨s3, e3, _, f3⟩ := DataW.trod_int Try.underlying2 h3
  obtain ⟨s4, e4, _, f4⟩ := DataW.trod_string Try.underlying9 h4
  simp at e0 e1 e2 e3 e4
  obtain ⟨u, rfl, hu⟩ := wf_u8n f0
  exact ⟨⟨u, s1, s2, s3, s4.data.toList⟩, by rw [e0, e1, e2, e3, e4]; simp only [Ins.cells, str_of'], ⟨hu, wf_i64 f1, wf_i64 f2, wf_i64 f3, by show s4.data.toList.length ≤ maxLen; rw [Array.length_toList]; exact f4⟩⟩
set_option maxRecDepth 20000 in
theorem rt_in (n : Nat) (cs : List Value) (y : DataW H × List MemPlace) (hl : cs.length = 2) (ht : DataW.trod enc Try.prog W 0 (fun _ => true) true n 48 cs = some y) : ∃ r : List UInt8 × List UInt8, cs = rtCells r ∧ rtOk r := by
  obtain ⟨v0, v1, rfl⟩ : ∃ a b, cs = [a, b] := by
    match cs, hl with
    | [a, b], _ => exact ⟨a, b, rfl⟩
  obtain ⟨ys, n', _, _, _, hyl, hfl⟩ := DataW.trod_struct Try.underlying48 ht
  have ya : ∀ j, j < 2 → ∃ y, ys[j]? = some y := fun j hj => ⟨_, List.getElem?_eq_getElem (by rw [hyl]; exact hj)⟩
  obtain ⟨y0, hy0⟩ := ya 0 (by decide)
  obtain ⟨y1, hy1⟩ := ya 1 (by decide)
  have h0 : DataW.trod enc Try.prog W 0 (fun _ => true) true n' 9 [v0] = some y0 := (hfl 0 _ rfl).trans hy0
  have h1 : DataW.trod enc Try.prog W 0 (fun _ => true) true n' 9 [v1] = some y1 := (hfl 1 _ rfl).trans hy1
  obtain ⟨s0, e0, _, f0⟩ := DataW.trod_string Try.underlying9 h0
  obtain ⟨s1, e1, _, f1⟩ := DataW.trod_string Try.underlying9 h1
  simp at e0 e1
  exact ⟨(s0.data.toList, s1.data.toList), by rw [e0, e1]; simp only [rtCells, str_of'], ⟨by show s0.data.toList.length ≤ maxLen; rw [Array.length_toList]; exact f0, by show s1.data.toList.length ≤ maxLen; rw [Array.length_toList]; exact f1⟩⟩
set_option maxRecDepth 20000 in
theorem fun_in (n : Nat) (cs : List Value) (y : DataW H × List MemPlace) (hl : cs.length = 1) (ht : DataW.trod enc Try.prog W 0 (fun _ => true) true n 44 cs = some y) : ∃ f : Fe, cs = f.cells ∧ f.In (fun b => b < W.heap.size) W := by
  obtain ⟨v, rfl⟩ : ∃ v, cs = [v] := by
    match cs, hl with
    | [v], _ => exact ⟨v, rfl⟩
  obtain ⟨A, len, cap, l, rfl, h1, h2, h3, _, h5, ds, h6, _, h8⟩ := rows_in (α := Ins) Try.underlying44 (by kernel_rfl) (by decide) Ins.cells (fun _ => rfl) (fun i _ => i.ok) (fun n _ cs y => ins_in n cs y) ht
  refine ⟨⟨A, cap, l⟩, by show _ = [Value.slice A l.length cap]; rw [h1], ⟨by show l.length ≤ cap; omega, h3, ⟨fun r a ha => ?_, fun i hi => ?_⟩⟩⟩
  · obtain ⟨b, off, e, hlt, hc⟩ := h5 r a ha
    exact ⟨b, off, e, hlt, hlt, hc⟩
  · obtain ⟨r, hr⟩ := List.getElem?_of_mem hi
    obtain ⟨d, hd⟩ : ∃ d, ds[r]? = some d := ⟨_, List.getElem?_eq_getElem (by rw [← h6]; exact (List.getElem?_eq_some_iff.1 hr).1)⟩
    exact h8 r i d hr hd
end
/-- A code that came in. -/
def OpenedC (w : World) (v : Value) : Prop := ∃ cl : Cl, v = .agg #[.slice cl.fA cl.fs.length cl.fc, .slice cl.rA cl.rs.length cl.rc] ∧ cl.At (fun b => b < w.heap.size) w
def zeroC : Value := .agg #[.slice none 0 0, .slice none 0 0]
set_option maxRecDepth 20000 in
theorem openedC {H : Type} {enc : TypeId × Value → H} {W : World} {v : Value} {d : DataW H} {p : List MemPlace} (hok : Value.okWide Try.prog W .any 0 25 v)
    (h : DataW.Trod enc Try.prog W 0 (fun _ => true) true 25 v d p) : OpenedC W v := by
  obtain ⟨v0, v1, y0, y1, n, rfl, _, _, h0, h1⟩ := Joins.open_agg2 Try.underlying25 (by kernel_rfl) (by kernel_rfl) hok h
  obtain ⟨A, len, cap, l, rfl, a1, a2, a3, _, a5, ds, a6, _, a8⟩ := rows_in (α := Fe) Try.underlying22 (by kernel_rfl) (by decide) Fe.cells (fun _ => rfl) (fun f _ => f.In (fun b => b < W.heap.size) W) (fun n _ cs y => fun_in n cs y) h0
  obtain ⟨A2, len2, cap2, l2, rfl, b1, b2, b3, _, b5, ds2, b6, _, b8⟩ := rows_in (α := List UInt8 × List UInt8) Try.underlying23 (by kernel_rfl) (by decide) rtCells (fun _ => rfl) (fun r _ => rtOk r) (fun n _ cs y => rt_in n cs y) h1
  refine ⟨⟨l, A, cap, l2, A2, cap2⟩, by show _ = Value.agg #[.slice A l.length cap, .slice A2 l2.length cap2]; rw [a1, b1], ⟨⟨fun r a ha => ?_, fun f hf => ?_⟩, ⟨fun r a ha => ?_, fun f hf => ?_⟩, ⟨by show l.length ≤ cap; omega, a3⟩, ⟨by show l2.length ≤ cap2; omega, b3⟩⟩⟩
  · obtain ⟨b, off, e, hlt, hc⟩ := a5 r a ha
    exact ⟨b, off, e, hlt, hlt, hc⟩
  · obtain ⟨r, hr⟩ := List.getElem?_of_mem hf
    obtain ⟨d, hd⟩ : ∃ d, ds[r]? = some d := ⟨_, List.getElem?_eq_getElem (by rw [← a6]; exact (List.getElem?_eq_some_iff.1 hr).1)⟩
    exact a8 r f d hr hd
  · obtain ⟨b, off, e, hlt, hc⟩ := b5 r a ha
    exact ⟨b, off, e, hlt, hlt, hc⟩
  · obtain ⟨r, hr⟩ := List.getElem?_of_mem hf
    obtain ⟨d, hd⟩ : ∃ d, ds2[r]? = some d := ⟨_, List.getElem?_eq_getElem (by rw [← b6]; exact (List.getElem?_eq_some_iff.1 hr).1)⟩
    exact b8 r f d hr hd
end Go.Proofs.Ytimkiifcmegfeaa
