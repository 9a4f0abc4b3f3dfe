/- The law, walked. -/
import Derived.Test.YtimkiifcmegfeaaBN
import Derived.Test.YtimkiifcmegfeaaQLt
import Derived.OpenShut
import Derived.Deep.Slices
import Derived.Deep.Fields
import Derived.Lib.SmallJoins
import Derived.ChangeSlices
import Derived.ShutString
/- code: what came in: codes, how one is spoilt, where bytes are cut. -/
namespace Go.Proofs.Ytimkiifcmegfeaa
open Go.RowKit Go.ChangeShapes Go.WideShapes
set_option linter.unusedVariables false
theorem add_none {b off : Nat} (i : Nat) : (⟨b, off, none⟩ : Addr).add i = ⟨b, off + i, none⟩ := by unfold Addr.add; split <;> simp_all
theorem str_of' (b : ByteArray) : str b.data.toList = b := by unfold str; cases b; simp
def OpenedSp (_ : World) (v : Value) : Prop := ∃ (F T H : Nat) (o : Int), v = .agg #[.int .u8 (F : Int), .int .u8 (T : Int), .int .u8 (H : Int), .int .i64 o] ∧ F < 256 ∧ T < 256 ∧ H < 256 ∧ (-9223372036854775808 ≤ o ∧ o < 9223372036854775808)
def zeroSp : Value := .agg #[.int .u8 0, .int .u8 0, .int .u8 0, .int .i64 0]
set_option maxRecDepth 20000 in
theorem openedSp {H : Type} {enc : TypeId × Value → H} {W : World} {v : Value} {d : DataW H} {p : List MemPlace} (hok : Value.okWide Try.prog W .any 0 56 v)
    (h : DataW.Trod enc Try.prog W 0 (fun _ => true) true 56 v d p) : OpenedSp W v := by
  obtain ⟨v0, v1, v2, v3, y0, y1, y2, y3, n, rfl, _, _, h0, h1, h2, h3⟩ := Joins.open_agg4 Try.underlying56 (by kernel_rfl) (by kernel_rfl) hok h
  obtain ⟨s0, e0, _, f0⟩ := DataW.trod_int Try.underlying5 h0
  obtain ⟨s1, e1, _, f1⟩ := DataW.trod_int Try.underlying5 h1
  obtain ⟨s2, e2, _, f2⟩ := DataW.trod_int Try.underlying5 h2
  obtain ⟨s3, e3, _, f3⟩ := DataW.trod_int Try.underlying2 h3
  simp at e0 e1 e2 e3
  obtain ⟨u0, rfl, hu0⟩ := wf_u8n f0
  obtain ⟨u1, rfl, hu1⟩ := wf_u8n f1
  obtain ⟨u2, rfl, hu2⟩ := wf_u8n f2
  exact ⟨u0, u1, u2, s3, by rw [e0, e1, e2, e3], hu0, hu1, hu2, wf_i64 f3⟩
def OpenedCu (_ : World) (v : Value) : Prop := ∃ (k m : Nat), v = .agg #[.int .u16 (k : Int), .int .u8 (m : Int)] ∧ k < 65536 ∧ m < 256
def zeroCu : Value := .agg #[.int .u16 0, .int .u8 0]
set_option maxRecDepth 20000 in
theorem openedCu {H : Type} {enc : TypeId × Value → H} {W : World} {v : Value} {d : DataW H} {p : List MemPlace} (hok : Value.okWide Try.prog W .any 0 43 v)
    (h : DataW.Trod enc Try.prog W 0 (fun _ => true) true 43 v d p) : OpenedCu W v := by
  obtain ⟨v0, v1, y0, y1, n, rfl, _, _, h0, h1⟩ := Joins.open_agg2 Try.underlying43 (by kernel_rfl) (by kernel_rfl) hok h
  obtain ⟨s0, e0, _, f0⟩ := DataW.trod_int Try.underlying41 h0
  obtain ⟨s1, e1, _, f1⟩ := DataW.trod_int Try.underlying5 h1
  simp at e0 e1
  obtain ⟨u0, rfl, hu0⟩ := wf_u16 f0
  obtain ⟨u1, rfl, hu1⟩ := wf_u8n f1
  exact ⟨u0, u1, by rw [e0, e1], hu0, hu1⟩
/-- How great what came in may be. -/
def big : Nat := 140737488351232
def Ins.light (i : Ins) : Prop := i.tx.length ≤ 140737488351232
def Fe.light (f : Fe) : Prop := f.is.length ≤ 140737488351232 ∧ ∀ i ∈ f.is, i.light
def rtLight (r : List UInt8 × List UInt8) : Prop := r.1.length ≤ 140737488351232 ∧ r.2.length ≤ 140737488351232
/-- A code within reach. -/
structure Cl.Light (c : Cl) : Prop where
  fl : c.fs.length ≤ 140737488351232
  rl : c.rs.length ≤ 140737488351232
  f : ∀ f ∈ c.fs, f.light
  r : ∀ r ∈ c.rs, rtLight r
section
variable {H : Type} {enc : TypeId × Value → H} {W : World}
/-- A slice that came in, whatever its elements are. -/
theorem rows_in {α : Type} [Inhabited α] {st et : TypeId} {K : Nat} (hu : Try.prog.underlying st = some (.slice et)) (hC : Try.prog.cellsOf et = K) (hK : 0 < K) (cl : α → List Value) (hcl : ∀ a, (cl a).length = K) (P : α → DataW H → Prop)
    {fuel : Nat} (ih : ∀ n, n < fuel → ∀ (cs : List Value) (y : DataW H × List MemPlace), cs.length = K → DataW.trod enc Try.prog W 0 (fun _ => true) true n et cs = some y → ∃ a : α, cs = cl a ∧ P a y.1)
    {v : Value} {y : DataW H × List MemPlace} (h : DataW.trod enc Try.prog W 0 (fun _ => true) true fuel st [v] = some y) :
    ∃ A len cap, ∃ l : List α, v = .slice A len cap ∧ l.length = len ∧ len ≤ cap ∧ cap ≤ maxLen ∧ (A = none → cap = 0) ∧
      (∀ (r : Nat) a, l[r]? = some a → ∃ b off, A = some ⟨b, off, none⟩ ∧ b < W.heap.size ∧ ∀ (j : Nat) (u : Value), (cl a)[j]? = some u → W.cell? ⟨b, off + r * K + j, none⟩ = some u) ∧
      ∃ ds : List (DataW H), l.length = ds.length ∧ (l = [] ∨ ∃ spare, y.1 = .slice ds spare) ∧ ∀ (r : Nat) a d, l[r]? = some a → ds[r]? = some d → P a d := by
  rcases DataW.trod_slice hu h with ⟨hcs, hy⟩ | ⟨x, len, cap, elems, rest, n, hfu, hcs, hy, _, hl, hm, hlen, hel, _, _⟩
  · simp at hcs
    exact ⟨none, 0, 0, [], hcs, rfl, Nat.le_refl _, Nat.zero_le _, fun _ => rfl, fun r a ha => by simp at ha, [], rfl, .inl rfl, fun r a d ha => by simp at ha⟩
  · simp at hcs
    subst hcs
    have each : ∀ r, r < len → ∃ e : α, (∀ (j : Nat) (u : Value), (cl e)[j]? = some u → W.cell? (x.add (r * K + j)) = some u) ∧ ∀ z, elems[r]? = some z → P e z.1 := by
      intro r hrm
      have h1 := hel r hrm
      rw [hC, List.getElem?_eq_getElem (show r < elems.length by omega)] at h1
      cases hcz : W.cells? 0 (x.add (r * K)) K with
      | none => rw [hcz] at h1; cases h1
      | some cs' =>
        rw [hcz] at h1
        obtain ⟨_, hlenK, hat⟩ := World.cells?_some hcz
        obtain ⟨e, he, hP⟩ := ih n (by omega) cs' _ hlenK h1
        refine ⟨e, fun j u hj => ?_, fun z hz => by rw [List.getElem?_eq_getElem (show r < elems.length by omega)] at hz; injection hz with hz; subst hz; exact hP⟩
        have hjK : j < K := by
          have := (List.getElem?_eq_some_iff.1 hj).1
          rwa [hcl] at this
        have := hat j hjK
        rw [Deep.add_add, he] at this
        rw [this]
        exact hj
    obtain ⟨F, hF⟩ : ∃ F : Nat → α, ∀ r, r < len → (∀ (j : Nat) (u : Value), (cl (F r))[j]? = some u → W.cell? (x.add (r * K + j)) = some u) ∧ ∀ z, elems[r]? = some z → P (F r) z.1 := by
      refine ⟨fun r => if h : r < len then (each r h).choose else default, fun r h => ?_⟩
      simp only [dif_pos h]
      exact (each r h).choose_spec
    have get : ∀ (r : Nat) (a : α), ((List.range len).map F)[r]? = some a → r < len ∧ F r = a := fun r a ha => by
      rw [List.getElem?_map] at ha
      have hrl : r < len := by
        rcases Nat.lt_or_ge r len with h | h
        · exact h
        · rw [List.getElem?_eq_none (by simp; omega)] at ha; cases ha
      rw [List.getElem?_range hrl] at ha
      exact ⟨hrl, by simpa using ha⟩
    refine ⟨some x, len, cap, (List.range len).map F, rfl, by simp, hl, hm, (fun h => by cases h), fun r a ha => ?_, elems.map (·.1), by simp [hlen], .inr ⟨_, by rw [hy]⟩, fun r a d ha hd => ?_⟩
    · obtain ⟨hrl, rfl⟩ := get r a ha
      obtain ⟨k1, _⟩ := hF r hrl
      obtain ⟨b, off, spot⟩ := x
      obtain ⟨u0, hu0⟩ : ∃ u, (cl (F 0))[0]? = some u := ⟨_, List.getElem?_eq_getElem (by rw [hcl]; exact hK)⟩
      have c0 := (hF 0 (by omega)).1 0 u0 hu0
      have hspot : spot = none := by simpa [Addr.add] using World.cell?_spot c0
      subst hspot
      have hlt : b < W.heap.size := by simpa [Addr.add] using World.block_lt_of_cell? W _ c0
      refine ⟨b, off, rfl, hlt, fun j u hj => ?_⟩
      have := k1 j u hj
      rw [add_none, ← Nat.add_assoc] at this
      exact this
    · obtain ⟨hrl, rfl⟩ := get r a ha
      rw [List.getElem?_map] at hd
      cases hz : elems[r]? with
      | none => rw [hz] at hd; cases hd
      | some z =>
        rw [hz] at hd
        have hd : z.1 = d := by simpa using hd
        rw [← hd]
        exact (hF r hrl).2 z hz
end
section
variable {H : Type} {enc : TypeId × Value → H} {W : World}
set_option maxRecDepth 20000 in
theorem ins_in (n : Nat) (cs : List Value) (y : DataW H × List MemPlace) (hl : cs.length = 5) (ht : DataW.trod enc Try.prog W 0 (fun _ => true) true n 46 cs = some y) : ∃ i : Ins, cs = i.cells ∧ i.ok ∧ (Light Try.prog 46 y.1 → i.light) := by
  obtain ⟨v0, v1, v2, v3, v4, rfl⟩ : ∃ a b c d e, cs = [a, b, c, d, e] := by
    match cs, hl with
    | [a, b, c, d, e], _ => exact ⟨a, b, c, d, e, rfl⟩
  obtain ⟨ys, n', _, hyx, _, hyl, hfl⟩ := DataW.trod_struct Try.underlying46 ht
  have ya : ∀ j, j < 5 → ∃ y, ys[j]? = some y := fun j hj => ⟨_, List.getElem?_eq_getElem (by rw [hyl]; exact hj)⟩
  obtain ⟨y0, hy0⟩ := ya 0 (by decide)
  obtain ⟨y1, hy1⟩ := ya 1 (by decide)
  obtain ⟨y2, hy2⟩ := ya 2 (by decide)
  obtain ⟨y3, hy3⟩ := ya 3 (by decide)
  obtain ⟨y4, hy4⟩ := ya 4 (by decide)
  have h0 : DataW.trod enc Try.prog W 0 (fun _ => true) true n' 5 [v0] = some y0 := (hfl 0 _ rfl).trans hy0
  have h1 : DataW.trod enc Try.prog W 0 (fun _ => true) true n' 2 [v1] = some y1 := (hfl 1 _ rfl).trans hy1
  have h2 : DataW.trod enc Try.prog W 0 (fun _ => true) true n' 2 [v2] = some y2 := (hfl 2 _ rfl).trans hy2
  have h3 : DataW.trod enc Try.prog W 0 (fun _ => true) true n' 2 [v3] = some y3 := (hfl 3 _ rfl).trans hy3
  have h4 : DataW.trod enc Try.prog W 0 (fun _ => true) true n' 9 [v4] = some y4 := (hfl 4 _ rfl).trans hy4
  obtain ⟨s0, e0, _, f0⟩ := DataW.trod_int Try.underlying5 h0
  obtain ⟨s1, e1, _, f1⟩ := DataW.trod_int Try.underlying2 h1
  obtain ⟨s2, e2, _, f2⟩ := DataW.trod_int Try.underlying2 h2
  obtain ⟨s3, e3, _, f3⟩ := DataW.trod_int Try.underlying2 h3
  obtain ⟨s4, e4, d4, f4⟩ := DataW.trod_string Try.underlying9 h4
  simp at e0 e1 e2 e3 e4
  obtain ⟨u, rfl, hu⟩ := wf_u8n f0
  exact ⟨⟨u, s1, s2, s3, s4.data.toList⟩, by rw [e0, e1, e2, e3, e4]; simp only [Ins.cells, str_of'], ⟨hu, wf_i64 f1, wf_i64 f2, wf_i64 f3, by show s4.data.toList.length ≤ maxLen; rw [Array.length_toList]; exact f4⟩, fun hlt => by
    rw [hyx] at hlt
    have hf := hlt.field Try.underlying46 (i := 4) (p := y4.1) rfl (by rw [List.getElem?_map, hy4]; rfl)
    rw [d4] at hf
    exact hf.text⟩
set_option maxRecDepth 20000 in
theorem rt_in (n : Nat) (cs : List Value) (y : DataW H × List MemPlace) (hl : cs.length = 2) (ht : DataW.trod enc Try.prog W 0 (fun _ => true) true n 48 cs = some y) : ∃ r : List UInt8 × List UInt8, cs = rtCells r ∧ rtOk r ∧ (Light Try.prog 48 y.1 → rtLight r) := by
  obtain ⟨v0, v1, rfl⟩ : ∃ a b, cs = [a, b] := by
    match cs, hl with
    | [a, b], _ => exact ⟨a, b, rfl⟩
  obtain ⟨ys, n', _, hyx, _, hyl, hfl⟩ := DataW.trod_struct Try.underlying48 ht
  have ya : ∀ j, j < 2 → ∃ y, ys[j]? = some y := fun j hj => ⟨_, List.getElem?_eq_getElem (by rw [hyl]; exact hj)⟩
  obtain ⟨y0, hy0⟩ := ya 0 (by decide)
  obtain ⟨y1, hy1⟩ := ya 1 (by decide)
  have h0 : DataW.trod enc Try.prog W 0 (fun _ => true) true n' 9 [v0] = some y0 := (hfl 0 _ rfl).trans hy0
  have h1 : DataW.trod enc Try.prog W 0 (fun _ => true) true n' 9 [v1] = some y1 := (hfl 1 _ rfl).trans hy1
  obtain ⟨s0, e0, d0, f0⟩ := DataW.trod_string Try.underlying9 h0
  obtain ⟨s1, e1, d1, f1⟩ := DataW.trod_string Try.underlying9 h1
  simp at e0 e1
  exact ⟨(s0.data.toList, s1.data.toList), by rw [e0, e1]; simp only [rtCells, str_of'], ⟨by show s0.data.toList.length ≤ maxLen; rw [Array.length_toList]; exact f0, by show s1.data.toList.length ≤ maxLen; rw [Array.length_toList]; exact f1⟩, fun hlt => by
    rw [hyx] at hlt
    have g0 := hlt.field Try.underlying48 (i := 0) (p := y0.1) rfl (by rw [List.getElem?_map, hy0]; rfl)
    have g1 := hlt.field Try.underlying48 (i := 1) (p := y1.1) rfl (by rw [List.getElem?_map, hy1]; rfl)
    rw [d0] at g0
    rw [d1] at g1
    exact ⟨g0.text, g1.text⟩⟩
set_option maxRecDepth 20000 in
theorem fun_in (n : Nat) (cs : List Value) (y : DataW H × List MemPlace) (hl : cs.length = 1) (ht : DataW.trod enc Try.prog W 0 (fun _ => true) true n 44 cs = some y) : ∃ f : Fe, cs = f.cells ∧ f.In (fun b => b < W.heap.size) W ∧ (Light Try.prog 44 y.1 → f.light) := by
  obtain ⟨v, rfl⟩ : ∃ v, cs = [v] := by
    match cs, hl with
    | [v], _ => exact ⟨v, rfl⟩
  obtain ⟨A, len, cap, l, rfl, h1, h2, h3, _, h5, ds, h6, h7, h8⟩ := rows_in (α := Ins) Try.underlying44 (by kernel_rfl) (by decide) Ins.cells (fun _ => rfl) (fun i d => i.ok ∧ (Light Try.prog 46 d → i.light)) (fun n _ cs y => ins_in n cs y) ht
  have hget : ∀ i ∈ l, ∃ d ∈ ds, i.ok ∧ (Light Try.prog 46 d → i.light) := fun i hi => by
    obtain ⟨r, hr⟩ := List.getElem?_of_mem hi
    obtain ⟨d, hd⟩ : ∃ d, ds[r]? = some d := ⟨_, List.getElem?_eq_getElem (by rw [← h6]; exact (List.getElem?_eq_some_iff.1 hr).1)⟩
    exact ⟨d, List.mem_of_getElem? hd, h8 r i d hr hd⟩
  refine ⟨⟨A, cap, l⟩, by show _ = [Value.slice A l.length cap]; rw [h1], ⟨by show l.length ≤ cap; omega, h3, ⟨fun r a ha => ?_, fun i hi => ?_⟩⟩, fun hlt => ?_⟩
  · obtain ⟨b, off, e, hlt, hc⟩ := h5 r a ha
    exact ⟨b, off, e, hlt, hlt, hc⟩
  · obtain ⟨d, _, hd⟩ := hget i hi
    exact hd.1
  · rcases h7 with e | ⟨spare, e⟩
    · subst e
      exact ⟨Nat.zero_le _, fun i hi => by simp at hi⟩
    · rw [e] at hlt
      have h9 := hlt.len Try.underlying44
      have hB : Try.prog.bytesOf 46 = 48 := by kernel_rfl
      rw [hB] at h9
      refine ⟨by show l.length ≤ _; omega, fun i hi => ?_⟩
      obtain ⟨d, hm, hd⟩ := hget i hi
      exact hd.2 (hlt.elem Try.underlying44 hm)
end
/-- Bytes that came in. -/
def OpenedB (w : World) (v : Value) : Prop := ∃ A n c bs, v = .slice A n c ∧ bs.length = n ∧ (n ≤ c ∧ c ≤ maxLen) ∧ Bytes w A bs ∧ ∀ p : Addr, A = some p → p.block < w.heap.size
set_option maxRecDepth 20000 in
theorem openedB {H : Type} {enc : TypeId × Value → H} {W : World} {v : Value} {d : DataW H} {p : List MemPlace} (hok : Value.okWide Try.prog W .any 0 26 v)
    (h : DataW.Trod enc Try.prog W 0 (fun _ => true) true 26 v d p) : OpenedB W v := by
  obtain ⟨a, len, cap, rfl⟩ := okWide_slice Try.underlying26 hok
  have hb : ∀ p : Addr, a = some p → p.block < W.heap.size := by
    rintro p rfl
    simp only [Value.okWide, Try.underlying26, Cell.okWide, Cell.ok] at hok
    obtain ⟨_, _, _, _, row, cells, hs, _⟩ := hok
    unfold World.shape? at hs
    rcases Nat.lt_or_ge p.block W.heap.size with h | h
    · exact h
    · rw [Array.getElem?_eq_none h] at hs
      cases hs
  obtain ⟨fuel, hf⟩ := h
  have hrow : ∃ zs, IsRow .u8 W a len cap zs := by
    rcases open_ints Try.underlying26 Try.underlying5 (by kernel_rfl) hf with ⟨hcs, _⟩ | ⟨x, l, c, zs, hcs, _, hl, hm, hz, _, hcell, hwz⟩
    · simp [Value.cells] at hcs
      obtain ⟨rfl, rfl, rfl⟩ := hcs
      exact ⟨[], .inl ⟨rfl, rfl, rfl, rfl⟩⟩
    · simp [Value.cells] at hcs
      obtain ⟨rfl, rfl, rfl⟩ := hcs
      exact ⟨zs, .inr ⟨_, rfl, hl, hm, by simpa using hz, hcell, hwz⟩⟩
  obtain ⟨zs, hrow⟩ := hrow
  obtain ⟨bs, hbs, hA, _⟩ := bytes_of_row8 hrow
  refine ⟨a, len, cap, bs, rfl, hbs, ?_, hA, hb⟩
  rcases hrow with ⟨rfl, rfl, rfl, rfl⟩ | ⟨x, rfl, hl, hm, _⟩
  · exact ⟨Nat.le_refl _, Nat.zero_le _⟩
  · exact ⟨hl, hm⟩
/-- A code that came in. -/
def OpenedC (w : World) (v : Value) : Prop := ∃ cl : Cl, v = .agg #[.slice cl.fA cl.fs.length cl.fc, .slice cl.rA cl.rs.length cl.rc] ∧ cl.At (fun b => b < w.heap.size) w ∧ cl.Light
def zeroC : Value := .agg #[.slice none 0 0, .slice none 0 0]
set_option maxRecDepth 20000 in
theorem openedC {H : Type} {enc : TypeId × Value → H} {W : World} {v : Value} {d : DataW H} {p : List MemPlace} {ts : List TypeId} {ds : List (DataW H)} (hsz : (DataW.weightsEach Try.prog ts ds).all (· ≤ reachBytes) = true) {j : Nat} (hts : ts[j]? = some 25) (hds : ds[j]? = some d) (hok : Value.okWide Try.prog W .any 0 25 v)
    (h : DataW.Trod enc Try.prog W 0 (fun _ => true) true 25 v d p) : OpenedC W v := by
  have hlt := Light.top hsz hts hds
  obtain ⟨v0, v1, y0, y1, n, rfl, hdx, _, h0, h1⟩ := Joins.open_agg2 Try.underlying25 (by kernel_rfl) (by kernel_rfl) hok h
  rw [hdx] at hlt
  have g0 := hlt.field Try.underlying25 (i := 0) (p := y0.1) rfl rfl
  have g1 := hlt.field Try.underlying25 (i := 1) (p := y1.1) rfl rfl
  obtain ⟨A, len, cap, l, rfl, a1, a2, a3, _, a5, ds, a6, a7, a8⟩ := rows_in (α := Fe) Try.underlying22 (by kernel_rfl) (by decide) Fe.cells (fun _ => rfl) (fun f d => f.In (fun b => b < W.heap.size) W ∧ (Light Try.prog 44 d → f.light)) (fun n _ cs y => fun_in n cs y) h0
  obtain ⟨A2, len2, cap2, l2, rfl, b1, b2, b3, _, b5, ds2, b6, b7, b8⟩ := rows_in (α := List UInt8 × List UInt8) Try.underlying23 (by kernel_rfl) (by decide) rtCells (fun _ => rfl) (fun r d => rtOk r ∧ (Light Try.prog 48 d → rtLight r)) (fun n _ cs y => rt_in n cs y) h1
  have ga : ∀ f ∈ l, ∃ d ∈ ds, f.In (fun b => b < W.heap.size) W ∧ (Light Try.prog 44 d → f.light) := fun i hi => by
    obtain ⟨r, hr⟩ := List.getElem?_of_mem hi
    obtain ⟨d, hd⟩ : ∃ d, ds[r]? = some d := ⟨_, List.getElem?_eq_getElem (by rw [← a6]; exact (List.getElem?_eq_some_iff.1 hr).1)⟩
    exact ⟨d, List.mem_of_getElem? hd, a8 r i d hr hd⟩
  have gb : ∀ f ∈ l2, ∃ d ∈ ds2, rtOk f ∧ (Light Try.prog 48 d → rtLight f) := fun i hi => by
    obtain ⟨r, hr⟩ := List.getElem?_of_mem hi
    obtain ⟨d, hd⟩ : ∃ d, ds2[r]? = some d := ⟨_, List.getElem?_eq_getElem (by rw [← b6]; exact (List.getElem?_eq_some_iff.1 hr).1)⟩
    exact ⟨d, List.mem_of_getElem? hd, b8 r i d hr hd⟩
  refine ⟨⟨l, A, cap, l2, A2, cap2⟩, by show _ = Value.agg #[.slice A l.length cap, .slice A2 l2.length cap2]; rw [a1, b1], ⟨⟨fun r a ha => ?_, fun f hf => ?_⟩, ⟨fun r a ha => ?_, fun f hf => ?_⟩, ⟨by show l.length ≤ cap; omega, a3⟩, ⟨by show l2.length ≤ cap2; omega, b3⟩⟩, ?_⟩
  · obtain ⟨b, off, e, hlt, hc⟩ := a5 r a ha
    exact ⟨b, off, e, hlt, hlt, hc⟩
  · obtain ⟨d, _, hd⟩ := ga f hf
    exact hd.1
  · obtain ⟨b, off, e, hlt, hc⟩ := b5 r a ha
    exact ⟨b, off, e, hlt, hlt, hc⟩
  · obtain ⟨d, _, hd⟩ := gb f hf
    exact hd.1
  · have hB : Try.prog.bytesOf 44 = 24 := by kernel_rfl
    have hB2 : Try.prog.bytesOf 48 = 32 := by kernel_rfl
    have q1 : l.length ≤ 140737488351232 ∧ ∀ f ∈ l, f.light := by
      rcases a7 with e | ⟨spare, e⟩
      · subst e
        exact ⟨Nat.zero_le _, fun i hi => by simp at hi⟩
      · rw [e] at g0
        have h9 := g0.len Try.underlying22
        rw [hB] at h9
        refine ⟨by omega, fun i hi => ?_⟩
        obtain ⟨d, hm, hd⟩ := ga i hi
        exact hd.2 (g0.elem Try.underlying22 hm)
    have q2 : l2.length ≤ 140737488351232 ∧ ∀ f ∈ l2, rtLight f := by
      rcases b7 with e | ⟨spare, e⟩
      · subst e
        exact ⟨Nat.zero_le _, fun i hi => by simp at hi⟩
      · rw [e] at g1
        have h9 := g1.len Try.underlying23
        rw [hB2] at h9
        refine ⟨by omega, fun i hi => ?_⟩
        obtain ⟨d, hm, hd⟩ := gb i hi
        exact hd.2 (g1.elem Try.underlying23 hm)
    exact ⟨q1.1, q2.1, q1.2, q2.2⟩
end Go.Proofs.Ytimkiifcmegfeaa
