/- cache: a cache and its disk; putOut of a clean frame. -/
import Derived.Test.YtiemfhncadcemaaCg
namespace Go.Proofs.Ytiemfhncadcemaa
open Go.RowKit Dsk

/-- The blocks of a cache. -/
def zone (E : Nat → Prop) (g mb : Nat) (B : Nat → Nat) (L : List Fr) : Nat → Prop := fun k => k = g ∨ k = mb ∨ E k ∨ ∃ x ∈ L, k = B x.s
/-- A cache and a disk that this call has made, all of it behind w0, and apart from X. -/
structure RunC (w0 w : World) (X : Nat → Prop) (g dg mb n most time : Nat) (B : Nat → Nat) (L : List Fr) (D : DS) (E : Nat → Prop) : Prop where
  cm : Cm w E g dg mb n B most time L
  run : Run w0 w (fun k => X k ∨ zone E g mb B L k) dg D
  far : ∀ k, zone E g mb B L k → w0.heap.size ≤ k ∧ ¬ X k
section
variable {w0 w : World} {X E : Nat → Prop} {g dg mb n most time : Nat} {B : Nat → Nat} {L : List Fr} {D : DS}
theorem Cm.keep {w' : World} (h : Cm w E g dg mb n B most time L) (hk : ∀ k, zone E g mb B L k → w'.heap[k]? = w.heap[k]?) (hs : w.heap.size ≤ w'.heap.size) : Cm w' E g dg mb n B most time L :=
  ⟨Blk.same h.head (hk g (.inl rfl)), h.map.same (hk mb (.inr (.inl rfl))), fun x hx => by
    obtain ⟨v, h1, h2⟩ := h.frm x hx
    exact ⟨v, Blk.same h1 (hk _ (.inr (.inr (.inr ⟨x, hx, rfl⟩)))), h2.same hs (fun k he _ => hk k (.inr (.inr (.inl he))))⟩, h.secs, h.nodup, h.inj, h.apart, h.e1, h.e2, h.ne⟩
theorem RunC.disk (h : RunC w0 w X g dg mb n most time B L D E) : ∃ F, Disk w F dg D := by obtain ⟨F, h1, _⟩ := h.run.own; exact ⟨F, h1⟩
/-- Behind something that the disk does. -/
theorem RunC.step {w' : World} {D' : DS} (h : RunC w0 w X g dg mb n most time B L D E) (hr : Run w0 w' (fun k => X k ∨ zone E g mb B L k) dg D') (hk : Keep (fun k => X k ∨ zone E g mb B L k) w w') : RunC w0 w' X g dg mb n most time B L D' E :=
  ⟨h.cm.keep (fun k hz => hk.at_ k (.inr hz)) hk.size, hr, h.far⟩
theorem zone_del {s k : Nat} (h : zone E g mb B (delL s L) k) : zone E g mb B L k := by
  rcases h with h | h | h | ⟨x, hx, h⟩
  · exact .inl h
  · exact .inr (.inl h)
  · exact .inr (.inr (.inl h))
  · exact .inr (.inr (.inr ⟨x, (List.mem_filter.1 hx).1, h⟩))
/-- Behind a frame that goes. -/
theorem RunC.gone {w' : World} {s : Nat} (h : RunC w0 w X g dg mb n most time B L D E) (hc : Cm w' E g dg mb n B most time (delL s L)) (ho : Off (fun k => k = mb) w w') : RunC w0 w' X g dg mb n most time B (delL s L) D E ∧ Keep X w w' :=
  ⟨⟨hc, h.run.turn ho (fun k e => ⟨.inr (.inr (.inl e)), (h.far k (.inr (.inl e))).1⟩) _ (fun k hk => by
      rcases hk with hk | hk
      · exact .inl (.inl hk)
      · exact .inl (.inr (zone_del hk))), fun k hk => h.far k (zone_del hk)⟩,
    ⟨ho.size, fun k hk => ho.block k (h.run.lt k (.inl hk)) (fun e => (h.far k (.inr (.inl e))).2 hk)⟩⟩
/-- Behind a frame that is turned. -/
theorem RunC.turned {w' : World} {y : Fr} {time' : Nat} (h : RunC w0 w X g dg mb n most time B L D E) (hy : ∃ x ∈ L, x.s = y.s) (hc : Cm w' (grow E w w') g dg mb n B most time' (updL y L)) (ho : Off (fun k => k = B y.s ∨ k = g) w w') : RunC w0 w' X g dg mb n most time' B (updL y L) D (grow E w w') ∧ Keep X w w' := by
  obtain ⟨x0, hx0, e0⟩ := hy
  have hz : ∀ k, zone (grow E w w') g mb B (updL y L) k → zone E g mb B L k ∨ (w.heap.size ≤ k ∧ k < w'.heap.size) := fun k hk => by
    rcases hk with hk | hk | hk | ⟨x, hx, hk⟩
    · exact .inl (.inl hk)
    · exact .inl (.inr (.inl hk))
    · rcases hk with hk | hk
      · exact .inl (.inr (.inr (.inl hk)))
      · exact .inr hk
    · rcases updL_mem hx with ⟨rfl, z, hz, e⟩ | ⟨hx, _⟩
      · exact .inl (.inr (.inr (.inr ⟨z, hz, by rw [hk, e]⟩)))
      · exact .inl (.inr (.inr (.inr ⟨x, hx, hk⟩)))
  have hF : ∀ k, (k = B y.s ∨ k = g) → zone E g mb B L k := fun k e => by
    rcases e with e | e
    · exact .inr (.inr (.inr ⟨x0, hx0, by rw [e, e0]⟩))
    · exact .inl e
  refine ⟨⟨hc, h.run.turn ho (fun k e => ⟨.inr (hF k e), (h.far k (hF k e)).1⟩) _ (fun k hk => ?_), fun k hk => ?_⟩, ⟨ho.size, fun k hk => ho.block k (h.run.lt k (.inl hk)) (fun e => (h.far k (hF k e)).2 hk)⟩⟩
  · rcases hk with hk | hk
    · exact .inl (.inl hk)
    · rcases hz k hk with hk | hk
      · exact .inl (.inr hk)
      · exact .inr hk
  · rcases hz k hk with hk | hk
    · exact h.far k hk
    · exact ⟨by have := h.run.size; omega, fun hx => by have := h.run.lt k (.inl hx); omega⟩
set_option maxRecDepth 20000 in
theorem putOut_clean (h : RunC w0 w X g dg mb n most time B L D E) {x : Fr} (hx : x ∈ L) (hd : x.dirty = false) :
    Calls Try.prog 40 #[.pointer (some ⟨g, 0, none⟩), .int .i64 (x.s : Int)] w fun e w' => e = .returned (.int .i64 0) ∧ RunC w0 w' X g dg mb n most time B (delL x.s L) D E ∧ Keep X w w' := by
  have hl := h.cm.look_yes hx
  obtain ⟨c0, c1, c2, c3, _⟩ := h.cm.head.told
  obtain ⟨v, hf, _⟩ := h.cm.frm x hx
  obtain ⟨f0, f1, f2, f3, _⟩ := hf.told
  rw [hd] at f1
  obtain ⟨w1, hdel, hm, ho⟩ := h.cm.map.drop (x.s : Int) (WalkArith.wf_i64 (by have := (h.cm.secs x hx).2.1; omega)) 0
  have HO := Lib.hid (h.gone (h.cm.del x.s ⟨x, hx, rfl⟩ hm ho) ho)
  clear h hd hx hf hm ho
  go_enter Try.func40, Try.ntmps40
  go_wp2_with fail
  go_ret
  exact ⟨rfl, HO.out⟩
end
end Go.Proofs.Ytiemfhncadcemaa
