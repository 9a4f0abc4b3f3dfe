/- stamp, numbers too: types and declarations that came in, and how much they hold. -/
import Derived.Test.YtadogebhkldeiaaGreatDoorZW
import Derived.OpenShut
import Derived.Deep.Slices
import Derived.Deep.Fields
import Derived.Lib.SmallJoins
import Derived.ChangeSlices
import Derived.ShutString
namespace Go.Proofs.YtadogebhkldeiaaGreatDoor
open Go.RowKit Go.ChangeShapes Go.WideShapes
set_option linter.unusedVariables false
open Ty
theorem add_none {b off : Nat} (i : Nat) : (⟨b, off, none⟩ : Addr).add i = ⟨b, off + i, none⟩ := by unfold Addr.add; split <;> simp_all
theorem str_of (s : ByteArray) : str s.data.toList = s := by
  unfold str
  simp
theorem bulk_one {H : Type} (d : DataW H) : 1 ≤ Rows.uptoBulk d := by
  cases d with
  | lit l => cases l <;> simp [Rows.uptoBulk]
  | _ => simp [Rows.uptoBulk]
/-- A row's parts are at most as great as its data. -/
theorem sum_bulk {α H : Type} (f : α → Nat) : ∀ (l : List α) (ds : List (DataW H)), l.length = ds.length → (∀ (r : Nat) a d, l[r]? = some a → ds[r]? = some d → f a ≤ Rows.uptoBulk d) → (l.map f).sum ≤ Rows.uptoBulkAll ds
  | [], _, _, _ => by simp
  | a :: l, [], h, _ => by simp at h
  | a :: l, d :: ds, h, hf => by
    rw [List.map_cons, List.sum_cons, Rows.uptoBulkAll]
    have h1 := hf 0 a d rfl rfl
    have h2 := sum_bulk f l ds (by simpa using h) fun r x y hx hy => hf (r + 1) x y (by simpa using hx) (by simpa using hy)
    omega
section
variable {H : Type} {enc : TypeId × Value → H} {W : World}
/-- A slice that came in, whatever its elements are. -/
theorem rows_in {α : Type} [Inhabited α] {st et : TypeId} {K : Nat} (hu : Tryz.prog.underlying st = some (.slice et)) (hC : Tryz.prog.cellsOf et = K) (hK : 0 < K) (cl : α → List Value) (hcl : ∀ a, (cl a).length = K) (P : α → DataW H → Prop)
    {fuel : Nat} (ih : ∀ n, n < fuel → ∀ (cs : List Value) (y : DataW H × List MemPlace), cs.length = K → DataW.trod enc Tryz.prog W 0 (fun _ => true) true n et cs = some y → ∃ a : α, cs = cl a ∧ P a y.1)
    {v : Value} {y : DataW H × List MemPlace} (h : DataW.trod enc Tryz.prog W 0 (fun _ => true) true fuel st [v] = some y) :
    ∃ A len cap, ∃ l : List α, v = .slice A len cap ∧ l.length = len ∧ len ≤ cap ∧ cap ≤ maxLen ∧ (A = none → cap = 0) ∧
      (∀ (r : Nat) a, l[r]? = some a → ∃ b off, A = some ⟨b, off, none⟩ ∧ b < W.heap.size ∧ ∀ (j : Nat) (u : Value), (cl a)[j]? = some u → W.cell? ⟨b, off + r * K + j, none⟩ = some u) ∧
      ∃ ds : List (DataW H), l.length = ds.length ∧ Rows.uptoBulkAll ds + 1 ≤ Rows.uptoBulk y.1 ∧ ∀ (r : Nat) a d, l[r]? = some a → ds[r]? = some d → P a d := by
  rcases DataW.trod_slice hu h with ⟨hcs, hy⟩ | ⟨x, len, cap, elems, rest, n, hfu, hcs, hy, _, hl, hm, hlen, hel, _, _⟩
  · simp at hcs
    exact ⟨none, 0, 0, [], hcs, rfl, Nat.le_refl _, Nat.zero_le _, fun _ => rfl, fun r a ha => by simp at ha, [], rfl, by rw [hy]; simp [Rows.uptoBulk, Rows.uptoBulkAll], fun r a d ha => by simp at ha⟩
  · simp at hcs
    subst hcs
    have each : ∀ r, r < len → ∃ e : α, (∀ (j : Nat) (u : Value), (cl e)[j]? = some u → W.cell? (x.add (r * K + j)) = some u) ∧ ∀ z, elems[r]? = some z → P e z.1 := by
      intro r hrm
      have h1 := hel r hrm
      rw [hC, List.getElem?_eq_getElem (show r < elems.length by omega)] at h1
      cases hcz : W.cells? 0 (x.add (r * K)) K with
      | none => rw [hcz] at h1; cases h1
      | some cs' =>
        rw [hcz] at h1
        obtain ⟨_, hlenK, hat⟩ := World.cells?_some hcz
        obtain ⟨e, he, hP⟩ := ih n (by omega) cs' _ hlenK h1
        refine ⟨e, fun j u hj => ?_, fun z hz => by rw [List.getElem?_eq_getElem (show r < elems.length by omega)] at hz; injection hz with hz; subst hz; exact hP⟩
        have hjK : j < K := by
          have := (List.getElem?_eq_some_iff.1 hj).1
          rwa [hcl] at this
        have := hat j hjK
        rw [Deep.add_add, he] at this
        rw [this]
        exact hj
    obtain ⟨F, hF⟩ : ∃ F : Nat → α, ∀ r, r < len → (∀ (j : Nat) (u : Value), (cl (F r))[j]? = some u → W.cell? (x.add (r * K + j)) = some u) ∧ ∀ z, elems[r]? = some z → P (F r) z.1 := by
      refine ⟨fun r => if h : r < len then (each r h).choose else default, fun r h => ?_⟩
      simp only [dif_pos h]
      exact (each r h).choose_spec
    have get : ∀ (r : Nat) (a : α), ((List.range len).map F)[r]? = some a → r < len ∧ F r = a := fun r a ha => by
      rw [List.getElem?_map] at ha
      have hrl : r < len := by
        rcases Nat.lt_or_ge r len with h | h
        · exact h
        · rw [List.getElem?_eq_none (by simp; omega)] at ha; cases ha
      rw [List.getElem?_range hrl] at ha
      exact ⟨hrl, by simpa using ha⟩
    refine ⟨some x, len, cap, (List.range len).map F, rfl, by simp, hl, hm, (fun h => by cases h), fun r a ha => ?_, elems.map (·.1), by simp [hlen], by rw [hy]; simp [Rows.uptoBulk], fun r a d ha hd => ?_⟩
    · obtain ⟨hrl, rfl⟩ := get r a ha
      obtain ⟨k1, _⟩ := hF r hrl
      obtain ⟨b, off, spot⟩ := x
      obtain ⟨u0, hu0⟩ : ∃ u, (cl (F 0))[0]? = some u := ⟨_, List.getElem?_eq_getElem (by rw [hcl]; exact hK)⟩
      have c0 := (hF 0 (by omega)).1 0 u0 hu0
      have hspot : spot = none := by simpa [Addr.add] using World.cell?_spot c0
      subst hspot
      have hlt : b < W.heap.size := by simpa [Addr.add] using World.block_lt_of_cell? W _ c0
      refine ⟨b, off, rfl, hlt, fun j u hj => ?_⟩
      have := k1 j u hj
      rw [add_none, ← Nat.add_assoc] at this
      exact this
    · obtain ⟨hrl, rfl⟩ := get r a ha
      rw [List.getElem?_map] at hd
      cases hz : elems[r]? with
      | none => rw [hz] at hd; cases hd
      | some z =>
        rw [hz] at hd
        have hd : z.1 = d := by simpa using hd
        rw [← hd]
        exact (hF r hrl).2 z hz
end
mutual
/-- How much a type holds. -/
def bT : Ty → Nat
  | .node _ nm _ ks => nm.length + bTs ks + 5
def bTs : List Ty → Nat
  | [] => 0
  | t :: ts => bT t + bTs ts
end
theorem bTs_sum : ∀ ts : List Ty, bTs ts = (ts.map bT).sum
  | [] => by rw [bTs]; rfl
  | t :: ts => by rw [bTs, bTs_sum ts]; rfl
theorem bT_eq (t : Ty) : bT t = t.nm.length + bTs t.ks + 5 := by
  obtain ⟨k, nm, n, ks⟩ := t
  rw [bT]; rfl
instance : Inhabited Te := ⟨⟨.node 0 [] 0 [], none, 0⟩⟩
section
variable {H : Type} {enc : TypeId × Value → H} {W : World}
/-- A row of types that came in. -/
theorem tys_of {A : Option Addr} {l : List Te} (h1 : ∀ (r : Nat) e, l[r]? = some e → ∃ b off, A = some ⟨b, off, none⟩ ∧ b < W.heap.size ∧ ∀ (j : Nat) (u : Value), e.cells[j]? = some u → W.cell? ⟨b, off + r * 4 + j, none⟩ = some u)
    (h2 : ∀ (r : Nat) (e : Te), l[r]? = some e → e.in_ (fun b => b < W.heap.size) W) : Ty.At (fun b => b < W.heap.size) W A (l.map Te.t) := by
  cases hl : l with
  | nil => exact .nil _
  | cons e0 l0 =>
    obtain ⟨b, off, rfl, hlt, _⟩ := h1 0 e0 (by rw [hl]; rfl)
    rw [← hl]
    have get : ∀ (r : Nat) (t : Ty), (l.map Te.t)[r]? = some t → ∃ e, l[r]? = some e ∧ e.t = t ∧ (l[r]?.getD default) = e := fun r t ht => by
      rw [List.getElem?_map] at ht
      cases he : l[r]? with
      | none => rw [he] at ht; cases ht
      | some e => exact ⟨e, rfl, by rw [he] at ht; simpa using ht, rfl⟩
    refine .mk b off _ (fun r => (l[r]?.getD default).A) (fun r => (l[r]?.getD default).c) hlt hlt (fun r t ht => ?_) fun r t ht => ?_
    · obtain ⟨e, he, rfl, hd⟩ := get r t ht
      obtain ⟨b', off', e1, _, hc⟩ := h1 r e he
      cases e1
      obtain ⟨k1, k2, k3, k4⟩ := h2 r e he
      simp only [hd]
      exact ⟨fun j u hj => hc j u hj, k2, k3, k4⟩
    · obtain ⟨e, he, rfl, hd⟩ := get r t ht
      simp only [hd]
      exact (h2 r e he).1
set_option maxRecDepth 100000 in
theorem ty_in : ∀ (fuel : Nat) (cs : List Value) (y : DataW H × List MemPlace), cs.length = 4 → DataW.trod enc Tryz.prog W 0 (fun _ => true) true fuel 24 cs = some y → ∃ e : Te, cs = e.cells ∧ e.in_ (fun b => b < W.heap.size) W ∧ bT e.t ≤ Rows.uptoBulk y.1 := by
  intro fuel
  induction fuel using Nat.strongRecOn with
  | ind fuel ih =>
  intro cs y hlen ht
  obtain ⟨c0, c1, c2, c3, rfl⟩ : ∃ c0 c1 c2 c3, cs = [c0, c1, c2, c3] := by
    match cs, hlen with
    | [c0, c1, c2, c3], _ => exact ⟨c0, c1, c2, c3, rfl⟩
  obtain ⟨ys, n', hfu, hy, _, hyl, hfl⟩ := DataW.trod_struct Tryz.underlying24 ht
  obtain ⟨y0, y1, y2, y3, hys⟩ : ∃ y0 y1 y2 y3, ys = [y0, y1, y2, y3] := by
    match ys, hyl with
    | [y0, y1, y2, y3], _ => exact ⟨y0, y1, y2, y3, rfl⟩
  have hys0 : ys[0]? = some y0 := by rw [hys]; rfl
  have hys1 : ys[1]? = some y1 := by rw [hys]; rfl
  have hys2 : ys[2]? = some y2 := by rw [hys]; rfl
  have hys3 : ys[3]? = some y3 := by rw [hys]; rfl
  have h0 : DataW.trod enc Tryz.prog W 0 (fun _ => true) true n' 5 [c0] = some y0 := (hfl 0 _ rfl).trans hys0
  have h1 : DataW.trod enc Tryz.prog W 0 (fun _ => true) true n' 9 [c1] = some y1 := (hfl 1 _ rfl).trans hys1
  have h2 : DataW.trod enc Tryz.prog W 0 (fun _ => true) true n' 3 [c2] = some y2 := (hfl 2 _ rfl).trans hys2
  have h3 : DataW.trod enc Tryz.prog W 0 (fun _ => true) true n' 22 [c3] = some y3 := (hfl 3 _ rfl).trans hys3
  obtain ⟨s0, e0, _, f0⟩ := DataW.trod_int Tryz.underlying5 h0
  obtain ⟨s1, e1, z1, hs1⟩ := DataW.trod_string Tryz.underlying9 h1
  obtain ⟨s2, e2, _, f2⟩ := DataW.trod_int Tryz.underlying3 h2
  obtain ⟨A, len, cap, l, e3, k1, k2, k3, _, k5, ds, k6, k7, k8⟩ := rows_in (α := Te) Tryz.underlying22 (by kernel_rfl) (by decide) Te.cells Te.cells_len (fun e d => e.in_ (fun b => b < W.heap.size) W ∧ bT e.t ≤ Rows.uptoBulk d) (fun n hn => ih n (by omega)) h3
  simp at e0 e1 e2
  obtain ⟨k, rfl, hk⟩ := wf_u8n f0
  have hin : ∀ (r : Nat) (e : Te), l[r]? = some e → e.in_ (fun b => b < W.heap.size) W := fun r e he => by
    obtain ⟨d, hd⟩ : ∃ d, ds[r]? = some d := ⟨_, List.getElem?_eq_getElem (by rw [← k6]; exact (List.getElem?_eq_some_iff.1 he).1)⟩
    exact (k8 r e d he hd).1
  refine ⟨⟨.node k s1.data.toList s2 (l.map Te.t), A, cap⟩, ?_, ⟨tys_of k5 hin, ⟨hk, wf_i64 f2, (show s1.data.toList.length ≤ maxLen by rw [Array.length_toList]; exact hs1)⟩, (by show (l.map Te.t).length ≤ cap; rw [List.length_map]; omega), k3⟩, ?_⟩
  · show [c0, c1, c2, c3] = [.int .u8 (k : Int), .string (str s1.data.toList), .int .i64 s2, .slice A (l.map Te.t).length cap]
    rw [e0, e1, e2, e3, str_of, List.length_map, k1]
  · have hb := sum_bulk (fun e : Te => bT e.t) l ds k6 fun r a d ha hd => (k8 r a d ha hd).2
    have hz1 : Rows.uptoBulk y1.1 = s1.data.toList.length + 1 := by rw [z1]; simp [Rows.uptoBulk]
    have g0 := bulk_one y0.1
    have g2 := bulk_one y2.1
    rw [bT_eq, hy, hys]
    show s1.data.toList.length + bTs (l.map Te.t) + 5 ≤ Rows.uptoBulk (.agg [y0.1, y1.1, y2.1, y3.1])
    rw [bTs_sum, List.map_map]
    simp only [Rows.uptoBulk, Rows.uptoBulkAll]
    have : (l.map (bT ∘ Te.t)).sum = (l.map fun e : Te => bT e.t).sum := rfl
    omega
/-- A text that came in. -/
theorem text_in (fuel : Nat) (cs : List Value) (y : DataW H × List MemPlace) (_ : cs.length = 1) (ht : DataW.trod enc Tryz.prog W 0 (fun _ => true) true fuel 9 cs = some y) : ∃ s : List UInt8, cs = [.string (str s)] ∧ s.length ≤ maxLen ∧ s.length + 1 ≤ Rows.uptoBulk y.1 := by
  obtain ⟨s1, e1, z1, hs1⟩ := DataW.trod_string Tryz.underlying9 ht
  exact ⟨s1.data.toList, by rw [e1, str_of], by rw [Array.length_toList]; exact hs1, by rw [z1]; simp [Rows.uptoBulk]⟩
end
/-- A constructor, and where its type's kids lie. -/
structure Ce where
  c : Cn
  A : Option Addr
  d : Nat
instance : Inhabited Ce := ⟨⟨⟨[], false, .node 0 [] 0 []⟩, none, 0⟩⟩
def Ce.cells (e : Ce) : List Value := e.c.cells e.A e.d
def bC (c : Cn) : Nat := c.nm.length + bT c.ty + 3
section
variable {H : Type} {enc : TypeId × Value → H} {W : World}
set_option maxRecDepth 100000 in
theorem con_in (fuel : Nat) (cs : List Value) (y : DataW H × List MemPlace) (hlen : cs.length = 6) (ht : DataW.trod enc Tryz.prog W 0 (fun _ => true) true fuel 44 cs = some y) : ∃ e : Ce, cs = e.cells ∧ Te.in_ (fun b => b < W.heap.size) W ⟨e.c.ty, e.A, e.d⟩ ∧ bC e.c ≤ Rows.uptoBulk y.1 := by
  obtain ⟨c0, c1, c2, c3, c4, c5, rfl⟩ : ∃ c0 c1 c2 c3 c4 c5, cs = [c0, c1, c2, c3, c4, c5] := by
    match cs, hlen with
    | [c0, c1, c2, c3, c4, c5], _ => exact ⟨c0, c1, c2, c3, c4, c5, rfl⟩
  obtain ⟨ys, n', hfu, hy, _, hyl, hfl⟩ := DataW.trod_struct Tryz.underlying44 ht
  obtain ⟨y0, y1, y2, hys⟩ : ∃ y0 y1 y2, ys = [y0, y1, y2] := by
    match ys, hyl with
    | [y0, y1, y2], _ => exact ⟨y0, y1, y2, rfl⟩
  have hys0 : ys[0]? = some y0 := by rw [hys]; rfl
  have hys1 : ys[1]? = some y1 := by rw [hys]; rfl
  have hys2 : ys[2]? = some y2 := by rw [hys]; rfl
  have hc4 : Tryz.prog.cellsOf 24 = 4 := by kernel_rfl
  have h0 : DataW.trod enc Tryz.prog W 0 (fun _ => true) true n' 9 [c0] = some y0 := (hfl 0 _ rfl).trans hys0
  have h1 : DataW.trod enc Tryz.prog W 0 (fun _ => true) true n' 4 [c1] = some y1 := (hfl 1 _ rfl).trans hys1
  have h2 : DataW.trod enc Tryz.prog W 0 (fun _ => true) true n' 24 [c2, c3, c4, c5] = some y2 := by
    have : DataW.trod enc Tryz.prog W 0 (fun _ => true) true n' 24 (([c0, c1, c2, c3, c4, c5].drop 2).take (Tryz.prog.cellsOf 24)) = some y2 := (hfl 2 _ rfl).trans hys2
    rw [hc4] at this
    exact this
  obtain ⟨s0, e0, z0, hs0⟩ := text_in n' _ _ rfl h0
  obtain ⟨s1, e1, _⟩ := DataW.trod_bool Tryz.underlying4 h1
  obtain ⟨e, e2, hin, hb⟩ := ty_in n' _ _ rfl h2
  simp at e0 e1
  refine ⟨⟨⟨s0, s1, e.t⟩, e.A, e.c⟩, ?_, hin, ?_⟩
  · show [c0, c1, c2, c3, c4, c5] = .string (str s0) :: .bool s1 :: e.cells
    rw [e0, e1, e2]
  · have g1 := bulk_one y1.1
    rw [hy, hys]
    show s0.length + bT e.t + 3 ≤ Rows.uptoBulk (.agg [y0.1, y1.1, y2.1])
    simp only [Rows.uptoBulk, Rows.uptoBulkAll]
    omega
/-- A slice that came in, of whatever. -/
theorem slice_in {st et : TypeId} (hu : Tryz.prog.underlying st = some (.slice et)) {fuel : Nat} {v : Value} {y : DataW H × List MemPlace} (h : DataW.trod enc Tryz.prog W 0 (fun _ => true) true fuel st [v] = some y) : ∃ A len cap, v = .slice A len cap := by
  rcases DataW.trod_slice hu h with ⟨hcs, _⟩ | ⟨x, len, cap, _, _, _, _, hcs, _⟩
  · simp at hcs
    exact ⟨none, 0, 0, hcs⟩
  · simp at hcs
    exact ⟨_, len, cap, hcs⟩
end
def bD (d : Dc) : Nat := d.nm.length + (d.vs.map fun s => s.length + 1).sum + (d.cs.map bC).sum + 6
instance : Inhabited Dc := ⟨⟨0, [], [], [], none, 0, none, 0, ⟨none, 0, 0, 0, ⟨#[]⟩, 0, none, 0, 0, 0, ⟨#[]⟩, 0, ⟨#[]⟩, none, 0, 0, none, 0, 0, none, 0, 0⟩⟩⟩
/-- A declaration that came in. -/
def Dc.In (W : World) (d : Dc) : Prop := d.K (fun b => b < W.heap.size) W ∧ d.nm.length ≤ maxLen ∧ d.k < 256 ∧ (d.vs.length ≤ maxLen ∧ d.cs.length ≤ maxLen)
section
variable {H : Type} {enc : TypeId × Value → H} {W : World}
set_option maxRecDepth 100000 in
theorem dec_in (fuel : Nat) (cs : List Value) (y : DataW H × List MemPlace) (hlen : cs.length = 16) (ht : DataW.trod enc Tryz.prog W 0 (fun _ => true) true fuel 42 cs = some y) : ∃ d : Dc, cs = d.cells ∧ d.In W ∧ bD d ≤ Rows.uptoBulk y.1 := by
  obtain ⟨c0, c1, c2, c3, c4, c5, c6, c7, c8, c9, ca, cb, cc, cd, ce, cf, rfl⟩ : ∃ c0 c1 c2 c3 c4 c5 c6 c7 c8 c9 ca cb cc cd ce cf, cs = [c0, c1, c2, c3, c4, c5, c6, c7, c8, c9, ca, cb, cc, cd, ce, cf] := by
    match cs, hlen with
    | [c0, c1, c2, c3, c4, c5, c6, c7, c8, c9, ca, cb, cc, cd, ce, cf], _ => exact ⟨c0, c1, c2, c3, c4, c5, c6, c7, c8, c9, ca, cb, cc, cd, ce, cf, rfl⟩
  obtain ⟨ys, n', hfu, hy, _, hyl, hfl⟩ := DataW.trod_struct Tryz.underlying42 ht
  obtain ⟨y0, y1, y2, y3, y4, y5, y6, hys⟩ : ∃ y0 y1 y2 y3 y4 y5 y6, ys = [y0, y1, y2, y3, y4, y5, y6] := by
    match ys, hyl with
    | [y0, y1, y2, y3, y4, y5, y6], _ => exact ⟨y0, y1, y2, y3, y4, y5, y6, rfl⟩
  have hys0 : ys[0]? = some y0 := by rw [hys]; rfl
  have hys1 : ys[1]? = some y1 := by rw [hys]; rfl
  have hys2 : ys[2]? = some y2 := by rw [hys]; rfl
  have hys3 : ys[3]? = some y3 := by rw [hys]; rfl
  have hys4 : ys[4]? = some y4 := by rw [hys]; rfl
  have hys5 : ys[5]? = some y5 := by rw [hys]; rfl
  have hys6 : ys[6]? = some y6 := by rw [hys]; rfl
  have hc4 : Tryz.prog.cellsOf 24 = 4 := by kernel_rfl
  have hc7 : Tryz.prog.cellsOf 40 = 7 := by kernel_rfl
  have h0 : DataW.trod enc Tryz.prog W 0 (fun _ => true) true n' 5 [c0] = some y0 := (hfl 0 _ rfl).trans hys0
  have h1 : DataW.trod enc Tryz.prog W 0 (fun _ => true) true n' 9 [c1] = some y1 := (hfl 1 _ rfl).trans hys1
  have h2 : DataW.trod enc Tryz.prog W 0 (fun _ => true) true n' 32 [c2] = some y2 := (hfl 2 _ rfl).trans hys2
  have h3 : DataW.trod enc Tryz.prog W 0 (fun _ => true) true n' 35 [c3] = some y3 := (hfl 3 _ rfl).trans hys3
  have h4 : DataW.trod enc Tryz.prog W 0 (fun _ => true) true n' 36 [c4] = some y4 := (hfl 4 _ rfl).trans hys4
  have h5 : DataW.trod enc Tryz.prog W 0 (fun _ => true) true n' 24 [c5, c6, c7, c8] = some y5 := by
    have : DataW.trod enc Tryz.prog W 0 (fun _ => true) true n' 24 (([c0, c1, c2, c3, c4, c5, c6, c7, c8, c9, ca, cb, cc, cd, ce, cf].drop 5).take (Tryz.prog.cellsOf 24)) = some y5 := (hfl 5 _ rfl).trans hys5
    rw [hc4] at this
    exact this
  have h6 : DataW.trod enc Tryz.prog W 0 (fun _ => true) true n' 40 [c9, ca, cb, cc, cd, ce, cf] = some y6 := by
    have : DataW.trod enc Tryz.prog W 0 (fun _ => true) true n' 40 (([c0, c1, c2, c3, c4, c5, c6, c7, c8, c9, ca, cb, cc, cd, ce, cf].drop 9).take (Tryz.prog.cellsOf 40)) = some y6 := (hfl 6 _ rfl).trans hys6
    rw [hc7] at this
    exact this
  obtain ⟨s0, e0, _, f0⟩ := DataW.trod_int Tryz.underlying5 h0
  obtain ⟨s1, e1, z1, hs1⟩ := text_in n' _ _ rfl h1
  obtain ⟨vA, vl, vc, vs, e2, v1, v2, v3, _, v5, vds, v6, v7, v8⟩ := rows_in (α := List UInt8) Tryz.underlying32 (by kernel_rfl) (by decide) (fun s => [Value.string (str s)]) (fun _ => rfl) (fun s d => s.length ≤ maxLen ∧ s.length + 1 ≤ Rows.uptoBulk d) (fun n _ cs y => text_in n cs y) h2
  obtain ⟨cA, cl, cp, cns, e3, k1, k2, k3, _, k5, kds, k6, k7, k8⟩ := rows_in (α := Ce) Tryz.underlying35 (by kernel_rfl) (by decide) Ce.cells (fun _ => rfl) (fun e d => Te.in_ (fun b => b < W.heap.size) W ⟨e.c.ty, e.A, e.d⟩ ∧ bC e.c ≤ Rows.uptoBulk d) (fun n _ cs y => con_in n cs y) h3
  obtain ⟨fA, fl, fc, e4⟩ := slice_in Tryz.underlying36 h4
  obtain ⟨te, e5, _⟩ := ty_in n' _ _ rfl h5
  obtain ⟨xs, n2, _, _, _, hxl, hxf⟩ := DataW.trod_struct Tryz.underlying40 h6
  obtain ⟨x0, x1, x2, x3, x4, x5, x6, hxs⟩ : ∃ x0 x1 x2 x3 x4 x5 x6, xs = [x0, x1, x2, x3, x4, x5, x6] := by
    match xs, hxl with
    | [x0, x1, x2, x3, x4, x5, x6], _ => exact ⟨x0, x1, x2, x3, x4, x5, x6, rfl⟩
  have hxs0 : xs[0]? = some x0 := by rw [hxs]; rfl
  have hxs1 : xs[1]? = some x1 := by rw [hxs]; rfl
  have hxs2 : xs[2]? = some x2 := by rw [hxs]; rfl
  have hxs3 : xs[3]? = some x3 := by rw [hxs]; rfl
  have hxs4 : xs[4]? = some x4 := by rw [hxs]; rfl
  have hxs5 : xs[5]? = some x5 := by rw [hxs]; rfl
  have hxs6 : xs[6]? = some x6 := by rw [hxs]; rfl
  have g0 : DataW.trod enc Tryz.prog W 0 (fun _ => true) true n2 5 [c9] = some x0 := (hxf 0 _ rfl).trans hxs0
  have g1 : DataW.trod enc Tryz.prog W 0 (fun _ => true) true n2 9 [ca] = some x1 := (hxf 1 _ rfl).trans hxs1
  have g2 : DataW.trod enc Tryz.prog W 0 (fun _ => true) true n2 2 [cb] = some x2 := (hxf 2 _ rfl).trans hxs2
  have g3 : DataW.trod enc Tryz.prog W 0 (fun _ => true) true n2 9 [cc] = some x3 := (hxf 3 _ rfl).trans hxs3
  have g4 : DataW.trod enc Tryz.prog W 0 (fun _ => true) true n2 37 [cd] = some x4 := (hxf 4 _ rfl).trans hxs4
  have g5 : DataW.trod enc Tryz.prog W 0 (fun _ => true) true n2 38 [ce] = some x5 := (hxf 5 _ rfl).trans hxs5
  have g6 : DataW.trod enc Tryz.prog W 0 (fun _ => true) true n2 25 [cf] = some x6 := (hxf 6 _ rfl).trans hxs6
  obtain ⟨p0, q0, _, _⟩ := DataW.trod_int Tryz.underlying5 g0
  obtain ⟨p1, q1, _, _⟩ := DataW.trod_string Tryz.underlying9 g1
  obtain ⟨p2, q2, _, _⟩ := DataW.trod_int Tryz.underlying2 g2
  obtain ⟨p3, q3, _, _⟩ := DataW.trod_string Tryz.underlying9 g3
  obtain ⟨aA, al, ac, q4⟩ := slice_in Tryz.underlying37 g4
  obtain ⟨rA, rl, rc, q5⟩ := slice_in Tryz.underlying38 g5
  obtain ⟨dA, dl, dc, q6⟩ := slice_in Tryz.underlying25 g6
  simp at e0 e1 q0 q1 q2 q3
  obtain ⟨k, rfl, hk⟩ := wf_u8n f0
  obtain ⟨r5, r6, r7, r8⟩ : c5 = .int .u8 (te.t.k : Int) ∧ c6 = .string (str te.t.nm) ∧ c7 = .int .i64 te.t.n ∧ c8 = .slice te.A te.t.ks.length te.c := by
    unfold Te.cells Ty.cells at e5
    simpa using e5
  refine ⟨⟨k, s1, vs, cns.map Ce.c, vA, vc, cA, cp, ⟨fA, fl, fc, (te.t.k : Int), str te.t.nm, te.t.n, te.A, te.t.ks.length, te.c, p0, p1, p2, p3, aA, al, ac, rA, rl, rc, dA, dl, dc⟩⟩, ?_, ⟨⟨fun r s hs => ?_, fun r c hc => ?_⟩, z1, hk, (by show vs.length ≤ maxLen; omega), (by show (cns.map Ce.c).length ≤ maxLen; rw [List.length_map]; omega)⟩, ?_⟩
  · unfold Dc.cells dcells
    rw [e0, e1, e2, e3, e4, r5, r6, r7, r8, q0, q1, q2, q3, q4, q5, q6, List.length_map, k1, v1]
  · obtain ⟨b, off, e, hlt, hc⟩ := v5 r s hs
    refine ⟨b, off, e, hlt, hlt, ?_⟩
    have := hc 0 _ rfl
    rwa [Nat.mul_one, Nat.add_zero] at this
  · have hc : (cns.map Ce.c)[r]? = some c := hc
    rw [List.getElem?_map] at hc
    cases he : cns[r]? with
    | none => rw [he] at hc; cases hc
    | some e =>
      rw [he] at hc
      have hc : e.c = c := by simpa using hc
      subst hc
      obtain ⟨b, off, e1, hlt, hcl⟩ := k5 r e he
      obtain ⟨d, hd⟩ : ∃ d, kds[r]? = some d := ⟨_, List.getElem?_eq_getElem (by rw [← k6]; exact (List.getElem?_eq_some_iff.1 he).1)⟩
      exact ⟨b, off, e.A, e.d, e1, hlt, hlt, fun j v hj => hcl j v hj, (k8 r e d he hd).1⟩
  · have hb1 := sum_bulk (fun s : List UInt8 => s.length + 1) vs vds v6 fun r a d ha hd => (v8 r a d ha hd).2
    have hb2 := sum_bulk (fun e : Ce => bC e.c) cns kds k6 fun r a d ha hd => (k8 r a d ha hd).2
    have j0 := bulk_one y0.1
    have j4 := bulk_one y4.1
    have j5 := bulk_one y5.1
    have j6 := bulk_one y6.1
    rw [hy, hys]
    show s1.length + (vs.map fun s => s.length + 1).sum + ((cns.map Ce.c).map bC).sum + 6 ≤ Rows.uptoBulk (.agg [y0.1, y1.1, y2.1, y3.1, y4.1, y5.1, y6.1])
    rw [List.map_map]
    simp only [Rows.uptoBulk, Rows.uptoBulkAll]
    have : (cns.map (bC ∘ Ce.c)).sum = (cns.map fun e : Ce => bC e.c).sum := rfl
    omega
end
end Go.Proofs.YtadogebhkldeiaaGreatDoor
