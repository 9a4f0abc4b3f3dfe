/- heap: things done, that came in. -/
import Derived.Test.YtclkkfffecmjnaaAb
import Derived.Test.YtclkkfffecmjnaaLt
import Derived.OpenShut
import Derived.Deep.Slices
import Derived.Deep.Fields
import Derived.Lib.SmallJoins
import Derived.ChangeSlices
import Derived.ShutString
namespace Go.Proofs.Ytclkkfffecmjnaa
open Go.RowKit Go.ChangeShapes Go.WideShapes
set_option linter.unusedVariables false

set_option maxRecDepth 20000
theorem add_none {b off : Nat} (i : Nat) : (⟨b, off, none⟩ : Addr).add i = ⟨b, off + i, none⟩ := by unfold Addr.add; split <;> simp_all
theorem str_of (s : ByteArray) : str s.data.toList = s := by
  unfold str
  simp
section
variable {H : Type} {enc : TypeId × Value → H} {W : World} {n : Nat}
theorem ints_in {v : Value} {y : DataW H × List MemPlace} (h : DataW.trod enc Try.prog W 0 (fun _ => true) true n 41 [v] = some y) : ∃ A len cap ks, v = .slice A len cap ∧ ks.length = len ∧ len ≤ cap ∧ cap ≤ maxLen ∧ Ints W A ks ∧ (Light Try.prog 41 y.1 → len ≤ 140737488351232) := by
  rcases Deep.open_slice1 Try.underlying41 (by kernel_rfl) h with ⟨hcs, _⟩ | ⟨x, l, c, m, n, V, D, Pl, hcs, _, hl, hm, hmm, hy, hr⟩
  · simp at hcs
    exact ⟨none, 0, 0, [], hcs, rfl, Nat.le_refl _, Nat.zero_le _, Ints.nil _ _, fun _ => Nat.zero_le _⟩
  · simp at hcs
    simp only [if_true] at hmm
    subst hmm
    have each : ∀ r, r < m → ∃ z : Int, W.cell? (x.add r) = some (.int .i64 z) ∧ -9223372036854775808 ≤ z ∧ z < 9223372036854775808 := by
      intro r hrm
      obtain ⟨h1, h2⟩ := hr r hrm
      obtain ⟨z, e, _, f⟩ := DataW.trod_int Try.underlying3 h2
      simp at e
      rw [e] at h1
      exact ⟨z, h1, wf_i64 f⟩
    obtain ⟨F, hF⟩ := Deep.choose_lt each
    refine ⟨some x, l, m, (List.range l).map F, hcs, by simp, hl, hm, fun k z hk => ?_, fun hlt => ?_⟩
    · rw [List.getElem?_map] at hk
      have hkl : k < l := by
        rcases Nat.lt_or_ge k l with h | h
        · exact h
        · rw [List.getElem?_eq_none (by simp; omega)] at hk; cases hk
      rw [List.getElem?_range hkl] at hk
      simp only [Option.map_some, Option.some.injEq] at hk
      obtain ⟨hc, hz⟩ := hF k (by omega)
      obtain ⟨hc0, _⟩ := hF 0 (by omega)
      obtain ⟨b, off, spot⟩ := x
      have hspot : spot = none := by simpa [Addr.add] using World.cell?_spot hc0
      subst hspot
      rw [add_none] at hc
      rw [hk] at hc hz
      exact ⟨b, off, rfl, World.block_lt_of_cell? W _ hc, hc, hz⟩
    · rw [hy] at hlt
      have := Light.len hlt Try.underlying41
      rw [show Try.prog.bytesOf 3 = 8 by kernel_rfl] at this
      simp only [List.length_map, List.length_range] at this
      omega
theorem wcell_in {v0 v1 : Value} {y0 y1 : DataW H × List MemPlace} (h0 : DataW.trod enc Try.prog W 0 (fun _ => true) true n 5 [v0] = some y0) (h1 : DataW.trod enc Try.prog W 0 (fun _ => true) true n 2 [v1] = some y1) :
    ∃ z : Wd, v0 = .int .u8 (z.k : Int) ∧ v1 = .int .i64 z.n ∧ z.ok := by
  obtain ⟨s0, e0, _, f0⟩ := DataW.trod_int Try.underlying5 h0
  obtain ⟨s1, e1, _, f1⟩ := DataW.trod_int Try.underlying2 h1
  simp at e0 e1
  obtain ⟨u, rfl, hu⟩ := wf_u8n f0
  exact ⟨⟨u, s1⟩, e0, e1, hu, wf_i64 f1⟩
theorem word2_in {v0 v1 : Value} {y : DataW H × List MemPlace} (h : DataW.trod enc Try.prog W 0 (fun _ => true) true n 37 [v0, v1] = some y) : ∃ z : Wd, v0 = .int .u8 (z.k : Int) ∧ v1 = .int .i64 z.n ∧ z.ok := by
  obtain ⟨ys, n', _, _, _, hyl, hfl⟩ := DataW.trod_struct Try.underlying37 h
  have ya : ∀ j, j < 2 → ∃ y, ys[j]? = some y := fun j hj => ⟨_, List.getElem?_eq_getElem (by rw [hyl]; exact hj)⟩
  obtain ⟨y0, hy0⟩ := ya 0 (by decide)
  obtain ⟨y1, hy1⟩ := ya 1 (by decide)
  exact wcell_in ((hfl 0 _ rfl).trans hy0) ((hfl 1 _ rfl).trans hy1)
/-- A slice of words among what came in. -/
theorem words_in {v : Value} {y : DataW H × List MemPlace} (h : DataW.trod enc Try.prog W 0 (fun _ => true) true n 33 [v] = some y) : ∃ A len cap ws, v = .slice A len cap ∧ ws.length = len ∧ len ≤ cap ∧ cap ≤ maxLen ∧ Words W A ws ∧ (Light Try.prog 33 y.1 → len ≤ 140737488351232) := by
  rcases Deep.open_slice Try.underlying33 h with ⟨hcs, _⟩ | ⟨x, l, c, m, n, D, Pl, hcs, _, hl, hm, hmm, hy, hr⟩
  · simp at hcs
    exact ⟨none, 0, 0, [], hcs, rfl, Nat.le_refl _, Nat.zero_le _, (fun r bs h => by simp at h), fun _ => Nat.zero_le _⟩
  · simp at hcs
    subst hcs
    simp only [if_true] at hmm
    subst hmm
    have hC : Try.prog.cellsOf 37 = 2 := by kernel_rfl
    have each : ∀ r, r < m → ∃ z : Wd, W.cell? (x.add (r * 2)) = some (.int .u8 (z.k : Int)) ∧ W.cell? (x.add (r * 2 + 1)) = some (.int .i64 z.n) ∧ z.ok := by
      intro r hrm
      obtain ⟨cs', hc, ht⟩ := hr r hrm
      rw [hC] at hc
      obtain ⟨_, hlen, hat⟩ := World.cells?_some hc
      obtain ⟨c0, c1, rfl⟩ : ∃ c0 c1, cs' = [c0, c1] := by
        match cs', hlen with
        | [c0, c1], _ => exact ⟨c0, c1, rfl⟩
      obtain ⟨z, e0, e1, hz⟩ := word2_in ht
      have q : ∀ j, j < 2 → W.cell? (x.add (r * 2 + j)) = [c0, c1][j]? := fun j hj => by
        have := hat j hj
        rw [Deep.add_add] at this
        exact this
      exact ⟨z, by rw [← e0]; exact q 0 (by decide), by rw [← e1]; exact q 1 (by decide), hz⟩
    obtain ⟨F, hF⟩ := Deep.choose_lt each
    refine ⟨some x, l, m, (List.range l).map F, rfl, by simp, hl, hm, fun r z hz => ?_, fun hlt => ?_⟩
    case refine_2 =>
      rw [hy] at hlt
      have := Light.len hlt Try.underlying33
      rw [show Try.prog.bytesOf 37 = 16 by kernel_rfl] at this
      simp only [List.length_map, List.length_range] at this
      omega
    rw [List.getElem?_map] at hz
    have hrl : r < l := by
      rcases Nat.lt_or_ge r l with h | h
      · exact h
      · rw [List.getElem?_eq_none (by simp; omega)] at hz; cases hz
    rw [List.getElem?_range hrl] at hz
    simp only [Option.map_some, Option.some.injEq] at hz
    obtain ⟨k0, k1, hs⟩ := hF r (by omega)
    obtain ⟨z0, _⟩ := hF 0 (by omega)
    obtain ⟨b, off, spot⟩ := x
    have hspot : spot = none := by simpa [Addr.add] using World.cell?_spot z0
    subst hspot
    rw [add_none] at k0 k1
    rw [hz] at k0 k1 hs
    exact ⟨b, off, rfl, World.block_lt_of_cell? W _ k0, k0, by rw [Nat.add_assoc]; exact k1, hs⟩
/-- An object among what came in. -/
theorem objf_in {c3 c4 c5 c6 : Value} {y0 y1 y2 y3 : DataW H × List MemPlace} (h0 : DataW.trod enc Try.prog W 0 (fun _ => true) true n 5 [c3] = some y0) (h1 : DataW.trod enc Try.prog W 0 (fun _ => true) true n 3 [c4] = some y1)
    (h2 : DataW.trod enc Try.prog W 0 (fun _ => true) true n 33 [c5] = some y2) (h3 : DataW.trod enc Try.prog W 0 (fun _ => true) true n 9 [c6] = some y3) :
    ∃ (o : Ob) (A : Option Addr) (c : Nat), c3 = .int .u8 (o.k : Int) ∧ c4 = .int .i64 o.tag ∧ c5 = .slice A o.ws.length c ∧ c6 = .string (str o.t) ∧ o.k < 256 ∧ rng o.tag ∧ Words W A o.ws ∧ o.ws.length ≤ c ∧ c ≤ maxLen ∧ (Light Try.prog 33 y2.1 → o.ws.length ≤ 140737488351232) ∧ (Light Try.prog 9 y3.1 → o.t.length ≤ 140737488351232) := by
  obtain ⟨s0, e0, _, f0⟩ := DataW.trod_int Try.underlying5 h0
  obtain ⟨s1, e1, _, f1⟩ := DataW.trod_int Try.underlying3 h1
  obtain ⟨A, l, c, ws, e2, rfl, q2, q3, q4, q5⟩ := words_in h2
  obtain ⟨s, e3, hy3, _⟩ := DataW.trod_string Try.underlying9 h3
  simp at e0 e1 e3
  obtain ⟨u, rfl, hu⟩ := wf_u8n f0
  exact ⟨⟨u, s1, ws, s.data.toList⟩, A, c, e0, e1, e2, by rw [str_of, e3], hu, wf_i64 f1, q4, q2, q3, q5, fun hlt => by rw [hy3] at hlt; exact hlt.text⟩
set_option maxRecDepth 20000 in
theorem obj_in {c3 c4 c5 c6 : Value} {y : DataW H × List MemPlace} (h : DataW.trod enc Try.prog W 0 (fun _ => true) true n 35 [c3, c4, c5, c6] = some y) :
    ∃ (o : Ob) (A : Option Addr) (c : Nat), c3 = .int .u8 (o.k : Int) ∧ c4 = .int .i64 o.tag ∧ c5 = .slice A o.ws.length c ∧ c6 = .string (str o.t) ∧ o.k < 256 ∧ rng o.tag ∧ Words W A o.ws ∧ o.ws.length ≤ c ∧ c ≤ maxLen ∧ (Light Try.prog 35 y.1 → o.ws.length ≤ 140737488351232 ∧ o.t.length ≤ 140737488351232) := by
  obtain ⟨ys, n', _, hy, _, hyl, hfl⟩ := DataW.trod_struct Try.underlying35 h
  have ya : ∀ j, j < 4 → ∃ y, ys[j]? = some y := fun j hj => ⟨_, List.getElem?_eq_getElem (by rw [hyl]; exact hj)⟩
  obtain ⟨y0, hy0⟩ := ya 0 (by decide)
  obtain ⟨y1, hy1⟩ := ya 1 (by decide)
  obtain ⟨y2, hy2⟩ := ya 2 (by decide)
  obtain ⟨y3, hy3⟩ := ya 3 (by decide)
  obtain ⟨o, A, c, p0, p1, p2, p3, p4, p5, p6, p7, p8, p9, p10⟩ := objf_in ((hfl 0 _ rfl).trans hy0) ((hfl 1 _ rfl).trans hy1) ((hfl 2 _ rfl).trans hy2) ((hfl 3 _ rfl).trans hy3)
  refine ⟨o, A, c, p0, p1, p2, p3, p4, p5, p6, p7, p8, fun hlt => ?_⟩
  rw [hy] at hlt
  exact ⟨p9 (hlt.field Try.underlying35 (i := 2) rfl (by rw [List.getElem?_map, hy2]; rfl)), p10 (hlt.field Try.underlying35 (i := 3) rfl (by rw [List.getElem?_map, hy3]; rfl))⟩
/-- Within the form's reach. -/
def LtO (o : Ov) : Prop := o.o.ws.length ≤ 140737488351232 ∧ o.o.t.length ≤ 140737488351232 ∧ o.roots.length ≤ 140737488351232
theorem opf_in {c0 c1 c2 c3 c4 c5 c6 c7 c8 c9 : Value} {y0 y1 y2 y3 y4 y5 : DataW H × List MemPlace} (h0 : DataW.trod enc Try.prog W 0 (fun _ => true) true n 3 [c0] = some y0) (h1 : DataW.trod enc Try.prog W 0 (fun _ => true) true n 3 [c1] = some y1) (h2 : DataW.trod enc Try.prog W 0 (fun _ => true) true n 3 [c2] = some y2)
    (h3 : DataW.trod enc Try.prog W 0 (fun _ => true) true n 35 [c3, c4, c5, c6] = some y3) (h4 : DataW.trod enc Try.prog W 0 (fun _ => true) true n 37 [c7, c8] = some y4) (h5 : DataW.trod enc Try.prog W 0 (fun _ => true) true n 41 [c9] = some y5) :
    ∃ o A c R d, #[c0, c1, c2, c3, c4, c5, c6, c7, c8, c9] = opC o A c R d ∧ OpV W o A c R d ∧ (Light Try.prog 35 y3.1 → Light Try.prog 41 y5.1 → LtO o) := by
  obtain ⟨s0, e0, _, f0⟩ := DataW.trod_int Try.underlying3 h0
  obtain ⟨s1, e1, _, f1⟩ := DataW.trod_int Try.underlying3 h1
  obtain ⟨s2, e2, _, f2⟩ := DataW.trod_int Try.underlying3 h2
  obtain ⟨o, A, c, p0, p1, p2, p3, p4, p5, p6, p7, p8, p9⟩ := obj_in h3
  obtain ⟨z, z0, z1, z2⟩ := word2_in h4
  obtain ⟨R, l, d, ks, r0, rfl, r2, r3, r4, r5⟩ := ints_in h5
  simp at e0 e1 e2
  refine ⟨⟨s0, s1, s2, o, z, ks⟩, A, c, R, d, ?_, ⟨wf_i64 f0, wf_i64 f1, wf_i64 f2, p4, p5, p6, z2, r4, ⟨p7, p8⟩, ⟨r2, r3⟩⟩, fun l3 l5 => ⟨(p9 l3).1, (p9 l3).2, r5 l5⟩⟩
  unfold opC
  rw [e0, e1, e2, p0, p1, p2, p3, z0, z1, r0]
set_option maxRecDepth 20000 in
theorem op_cells {cs : List Value} {y : DataW H × List MemPlace} (hlen : cs.length = 10) (ht : DataW.trod enc Try.prog W 0 (fun _ => true) true n 43 cs = some y) : ∃ o A c R d, cs = (opC o A c R d).toList ∧ OpV W o A c R d ∧ (Light Try.prog 43 y.1 → LtO o) := by
  obtain ⟨c0, c1, c2, c3, c4, c5, c6, c7, c8, c9, rfl⟩ : ∃ c0 c1 c2 c3 c4 c5 c6 c7 c8 c9, cs = [c0, c1, c2, c3, c4, c5, c6, c7, c8, c9] := by
    match cs, hlen with
    | [c0, c1, c2, c3, c4, c5, c6, c7, c8, c9], _ => exact ⟨c0, c1, c2, c3, c4, c5, c6, c7, c8, c9, rfl⟩
  obtain ⟨ys, n', _, hy, _, hyl, hfl⟩ := DataW.trod_struct Try.underlying43 ht
  have ya : ∀ j, j < 6 → ∃ y, ys[j]? = some y := fun j hj => ⟨_, List.getElem?_eq_getElem (by rw [hyl]; exact hj)⟩
  obtain ⟨y0, hy0⟩ := ya 0 (by decide)
  obtain ⟨y1, hy1⟩ := ya 1 (by decide)
  obtain ⟨y2, hy2⟩ := ya 2 (by decide)
  obtain ⟨y3, hy3⟩ := ya 3 (by decide)
  obtain ⟨y4, hy4⟩ := ya 4 (by decide)
  obtain ⟨y5, hy5⟩ := ya 5 (by decide)
  obtain ⟨o, A, c, R, d, e, hs, hlo⟩ := opf_in ((hfl 0 _ rfl).trans hy0) ((hfl 1 _ rfl).trans hy1) ((hfl 2 _ rfl).trans hy2) ((hfl 3 _ rfl).trans hy3) ((hfl 4 _ rfl).trans hy4) ((hfl 5 _ rfl).trans hy5)
  refine ⟨o, A, c, R, d, by rw [← e], hs, fun hlt => ?_⟩
  rw [hy] at hlt
  exact hlo (hlt.field Try.underlying43 (i := 3) rfl (by rw [List.getElem?_map, hy3]; rfl)) (hlt.field Try.underlying43 (i := 5) rfl (by rw [List.getElem?_map, hy5]; rfl))
end
/-- What a value of type []Op reads as. -/
def OpsM (w : World) (A : Option Addr) (ls : List Ov) : Prop :=
  ∀ (r : Nat) (o : Ov), ls[r]? = some o → ∃ b off B c R d, A = some ⟨b, off, none⟩ ∧ b < w.heap.size ∧ (∀ (j : Nat) (v : Value), (opC o B c R d)[j]? = some v → w.cell? ⟨b, off + r * 10 + j, none⟩ = some v) ∧ OpV w o B c R d
theorem OpsM.below {w w' : World} {A : Option Addr} {ls : List Ov} (h : OpsM w A ls) (hb : Below w.heap.size w w') : OpsM w' A ls := fun r st hr => by
  obtain ⟨b, off, B, c, R, d, e, hlt, hc, hs⟩ := h r st hr
  exact ⟨b, off, B, c, R, d, e, Nat.lt_of_lt_of_le hlt hb.size, fun j v hj => (hb.cell (p := ⟨b, off + r * 10 + j, none⟩) hlt).trans (hc j v hj), hs.below hb⟩
def OpenedOp (w : World) (v : Value) : Prop := ∃ o A c R d, v = .agg (opC o A c R d) ∧ OpV w o A c R d ∧ LtO o
def OpenedOps (w : World) (v : Value) : Prop := ∃ A len cap ls, v = .slice A len cap ∧ ls.length = len ∧ len ≤ cap ∧ cap ≤ maxLen ∧ OpsM w A ls ∧ ∀ o ∈ ls, LtO o
def OpenedO (w : World) (v : Value) : Prop := ∃ (o : Ob) (A : Option Addr) (c : Nat), v = .agg #[.int .u8 (o.k : Int), .int .i64 o.tag, .slice A o.ws.length c, .string (str o.t)] ∧ o.k < 256 ∧ rng o.tag ∧ Words w A o.ws ∧ o.ws.length ≤ c ∧ c ≤ maxLen ∧ o.ws.length ≤ 140737488351232 ∧ o.t.length ≤ 140737488351232
theorem openedO {H : Type} {enc : TypeId × Value → H} {W : World} {v : Value} {d : DataW H} {p : List MemPlace} {ts : List TypeId} {ds : List (DataW H)} (hsz : (DataW.weightsEach Try.prog ts ds).all (· ≤ reachBytes) = true) {j : Nat} (hts : ts[j]? = some 35) (hds : ds[j]? = some d) (hok : Value.okWide Try.prog W .any 0 35 v)
    (h : DataW.Trod enc Try.prog W 0 (fun _ => true) true 35 v d p) : OpenedO W v := by
  obtain ⟨cs, rfl, hcz⟩ := okWide_struct Try.underlying35 hok
  obtain ⟨fuel, hf⟩ := h
  have hC : Try.prog.cellsOf 35 = 4 := by kernel_rfl
  rw [hC] at hcz
  have hf : DataW.trod enc Try.prog W 0 (fun _ => true) true fuel 35 cs.toList = some (d, p) := by simpa [Value.cells] using hf
  obtain ⟨c0, c1, c2, c3, e⟩ : ∃ c0 c1 c2 c3, cs.toList = [c0, c1, c2, c3] := by
    have hl : cs.toList.length = 4 := by simpa using hcz
    match cs.toList, hl with
    | [c0, c1, c2, c3], _ => exact ⟨c0, c1, c2, c3, rfl⟩
  rw [e] at hf
  obtain ⟨o, A, c, p0, p1, p2, p3, p4, p5, p6, p7, p8, p9⟩ := obj_in hf
  exact ⟨o, A, c, by rw [show cs = cs.toList.toArray by simp, e, p0, p1, p2, p3], p4, p5, p6, p7, p8, p9 (Light.top hsz hts hds)⟩
set_option maxRecDepth 20000 in
theorem openedOp {H : Type} {enc : TypeId × Value → H} {W : World} {v : Value} {d : DataW H} {p : List MemPlace} {ts : List TypeId} {ds : List (DataW H)} (hsz : (DataW.weightsEach Try.prog ts ds).all (· ≤ reachBytes) = true) {j : Nat} (hts : ts[j]? = some 43) (hds : ds[j]? = some d) (hok : Value.okWide Try.prog W .any 0 43 v)
    (h : DataW.Trod enc Try.prog W 0 (fun _ => true) true 43 v d p) : OpenedOp W v := by
  obtain ⟨cs, rfl, hcz⟩ := okWide_struct Try.underlying43 hok
  obtain ⟨fuel, hf⟩ := h
  have hC : Try.prog.cellsOf 43 = 10 := by kernel_rfl
  rw [hC] at hcz
  obtain ⟨o, A, c, R, d', e, hs, hlo⟩ := op_cells (cs := cs.toList) (by simpa using hcz) (by simpa [Value.cells] using hf)
  exact ⟨o, A, c, R, d', by rw [show cs = cs.toList.toArray by simp, e], hs, hlo (Light.top hsz hts hds)⟩
set_option maxRecDepth 20000 in
theorem openedOps {H : Type} {enc : TypeId × Value → H} {W : World} {v : Value} {d : DataW H} {p : List MemPlace} {ts : List TypeId} {ds : List (DataW H)} (hsz : (DataW.weightsEach Try.prog ts ds).all (· ≤ reachBytes) = true) {j : Nat} (hts : ts[j]? = some 22) (hds : ds[j]? = some d) (hok : Value.okWide Try.prog W .any 0 22 v)
    (h : DataW.Trod enc Try.prog W 0 (fun _ => true) true 22 v d p) : OpenedOps W v := by
  obtain ⟨a0, len0, cap0, rfl⟩ := okWide_slice Try.underlying22 hok
  obtain ⟨fuel, hf⟩ := h
  rcases Deep.open_slice Try.underlying22 hf with ⟨hcs, _⟩ | ⟨x, l, c, m, n, D, Pl, hcs, _, hl, hm, hmm, hy, hr⟩
  · simp [Value.cells] at hcs
    obtain ⟨rfl, rfl, rfl⟩ := hcs
    exact ⟨none, 0, 0, [], rfl, rfl, Nat.le_refl _, Nat.zero_le _, (fun r bs h => by simp at h), (fun o h => by cases h)⟩
  · simp [Value.cells] at hcs
    obtain ⟨rfl, rfl, rfl⟩ := hcs
    simp only [if_true] at hmm
    subst hmm
    have hC : Try.prog.cellsOf 43 = 10 := by kernel_rfl
    have each : ∀ r, r < m → ∃ o : Ov, ∃ B c R d, (∀ (j : Nat) (v : Value), (opC o B c R d)[j]? = some v → W.cell? (x.add (r * 10 + j)) = some v) ∧ OpV W o B c R d ∧ (r < len0 → LtO o) := by
      intro r hrm
      obtain ⟨cs', hc, ht⟩ := hr r hrm
      rw [hC] at hc
      obtain ⟨_, hlen, hat⟩ := World.cells?_some hc
      obtain ⟨o, B, c, R, d', e, hs, hlo⟩ := op_cells hlen ht
      refine ⟨o, B, c, R, d', fun j v hj => ?_, hs, fun hrl => hlo ?_⟩
      case refine_2 =>
        have hlt := Light.top hsz hts hds
        have hde := congrArg Prod.fst hy
        dsimp only at hde
        rw [hde] at hlt
        exact hlt.elem Try.underlying22 (List.mem_map.2 ⟨r, List.mem_range.2 hrl, rfl⟩)
      have hj10 : j < 10 := by
        have := (Array.getElem?_eq_some_iff.1 hj).1
        simpa [opC] using this
      have := hat j hj10
      rw [Deep.add_add, e] at this
      rw [this]
      simpa using hj
    obtain ⟨F, hF⟩ := Deep.choose_lt each
    refine ⟨some x, len0, m, (List.range len0).map F, rfl, by simp, hl, hm, fun r o ho => ?_, fun o ho => ?_⟩
    case refine_2 =>
      obtain ⟨r, hr', rfl⟩ := List.mem_map.1 ho
      have hrl := List.mem_range.1 hr'
      obtain ⟨_, _, _, _, _, _, hlo⟩ := hF r (by omega)
      exact hlo hrl
    rw [List.getElem?_map] at ho
    have hrl : r < len0 := by
      rcases Nat.lt_or_ge r len0 with h | h
      · exact h
      · rw [List.getElem?_eq_none (by simp; omega)] at ho; cases ho
    rw [List.getElem?_range hrl] at ho
    simp only [Option.map_some, Option.some.injEq] at ho
    obtain ⟨B, c, R, d', hc, hs, _⟩ := hF r (by omega)
    obtain ⟨B0, c0, R0, d0, hc0, _, _⟩ := hF 0 (by omega)
    obtain ⟨b, off, spot⟩ := x
    have hspot : spot = none := by simpa [Addr.add] using World.cell?_spot (hc0 0 _ rfl)
    subst hspot
    rw [ho] at hc hs
    have hc : ∀ (j : Nat) (v : Value), (opC o B c R d')[j]? = some v → W.cell? ⟨b, off + r * 10 + j, none⟩ = some v := fun j v hj => by
      have := hc j v hj
      rw [add_none, ← Nat.add_assoc] at this
      exact this
    exact ⟨b, off, B, c, R, d', rfl, World.block_lt_of_cell? W _ (hc 0 _ rfl), hc, hs⟩
end Go.Proofs.Ytclkkfffecmjnaa
