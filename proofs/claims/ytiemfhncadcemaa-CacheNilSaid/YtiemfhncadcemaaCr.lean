/- cache: bring. -/
import Derived.Test.YtiemfhncadcemaaCq
namespace Go.Proofs.Ytiemfhncadcemaa
open Go.RowKit Dsk
section
variable {w0 w w' : World} {X E E' : Nat → Prop} {g dg mb n n' most time time' : Nat} {B B' : Nat → Nat} {L L' : List Fr} {D : DS}
theorem Cm.add2 (h : Cm w E g dg mb n B most time L) (hEl : ∀ k, E k → k < w.heap.size) (y : Fr) (f : Nat) (v : Value) (hno : ∀ x ∈ L, x.s ≠ y.s) (hh : CHead w' g dg mb most time')
    (hf : Frm w' f v y.dirty y.pins y.used) (hv : Sec w' (fun k => w.heap.size ≤ k ∧ k < w'.heap.size ∧ k ≠ f) v y.b) (hfl : w.heap.size ≤ f) (hs : y.b.length = 256 ∧ y.s < 1000000 ∧ y.pins < 1000000000)
    (hm : PMap w' mb (n + 1) (if (atS B L (y.s : Int)).isSome then L.length else L.length + 1) (fun j => if j = (y.s : Int) then some f else atS B L j)) (ho : Off (fun k => k = mb ∨ k = g) w w') :
    Cm w' (fun k => E k ∨ (w.heap.size ≤ k ∧ k < w'.heap.size ∧ k ≠ f)) g dg mb (n + 1) (addB B y.s f) most time' (L ++ [y]) := by
  have hlt : ∀ x ∈ L, B x.s < w.heap.size := fun x hx => by obtain ⟨v, h1, _⟩ := h.frm x hx; exact Blk.lt h1
  have hgl := Blk.lt h.head
  have hml := h.map.lt
  have hc : ∀ x ∈ L ++ [y], (x ∈ L ∧ addB B y.s f x.s = B x.s) ∨ (x = y ∧ addB B y.s f x.s = f) := fun x hx => by
    rcases List.mem_append.1 hx with hx | hx
    · exact .inl ⟨hx, addB_other B (hno x hx)⟩
    · rw [List.mem_singleton.1 hx]; exact .inr ⟨rfl, addB_same B _ _⟩
  rw [atS_none hno, atS_add B y f L hno] at hm
  refine ⟨hh, by rw [List.length_append]; exact hm, fun x hx => ?_, fun x hx => ?_, ?_, fun x hx z hz e => ?_, fun x hx => ?_, fun e => ?_, fun e => ?_, h.ne⟩
  · rcases hc x hx with ⟨hx, e⟩ | ⟨rfl, e⟩
    · rw [e]
      obtain ⟨u, h1, h2⟩ := h.frm x hx
      exact ⟨u, Blk.same h1 (ho.block _ (Blk.lt h1) (fun e => by rcases e with e | e; exact (h.apart x hx).2.1 e; exact (h.apart x hx).1 e)), (h2.same ho.size (fun k hk hl => ho.block k hl (fun e => by rcases e with e | e; exact h.e2 (e ▸ hk); exact h.e1 (e ▸ hk)))).mono fun k hk => .inl hk⟩
    · rw [e]
      exact ⟨v, hf, hv.mono fun k hk => .inr hk⟩
  · rcases hc x hx with ⟨hx, _⟩ | ⟨rfl, _⟩
    · exact h.secs x hx
    · exact hs
  · rw [List.pairwise_append]
    exact ⟨h.nodup, List.pairwise_singleton _ _, fun a ha b hb => by rw [List.mem_singleton.1 hb]; exact hno a ha⟩
  · rcases hc x hx with ⟨hx', e1⟩ | ⟨ex, e1⟩
    · rcases hc z hz with ⟨hz', e2⟩ | ⟨ez, e2⟩
      · exact h.inj x hx' z hz' (by rw [← e1, ← e2]; exact e)
      · rw [e1, e2] at e; have := hlt x hx'; omega
    · rcases hc z hz with ⟨hz', e2⟩ | ⟨ez, e2⟩
      · rw [e1, e2] at e; have := hlt z hz'; omega
      · rw [ex, ez]
  · rcases hc x hx with ⟨hx, e1⟩ | ⟨rfl, e1⟩
    · rw [e1]
      exact ⟨(h.apart x hx).1, (h.apart x hx).2.1, fun e => by
        rcases e with e | e
        · exact (h.apart x hx).2.2 e
        · have := hlt x hx; omega⟩
    · rw [e1]
      exact ⟨by omega, by omega, fun e => by
        rcases e with e | e
        · have := hEl _ e; omega
        · exact e.2.2 rfl⟩
  · rcases e with e | e
    · exact h.e1 e
    · omega
  · rcases e with e | e
    · exact h.e2 e
    · omega
theorem RunC.elt (h : RunC w0 w X g dg mb n most time B L D E) : ∀ k, E k → k < w.heap.size := fun k hk => h.run.lt k (.inr (.inr (.inr (.inl hk))))
theorem RunC.moved {w' : World} {B' : Nat → Nat} {L' : List Fr} {E' : Nat → Prop} {n' time' : Nat} (h : RunC w0 w X g dg mb n most time B L D E) (hc : Cm w' E' g dg mb n' B' most time' L') {G : Nat → Prop} (ho : Off G w w') (hG : ∀ k, G k → zone E g mb B L k)
    (hz : ∀ k, zone E' g mb B' L' k → zone E g mb B L k ∨ (w.heap.size ≤ k ∧ k < w'.heap.size)) : RunC w0 w' X g dg mb n' most time' B' L' D E' ∧ Keep X w w' := by
  refine ⟨⟨hc, h.run.turn ho (fun k e => ⟨.inr (hG k e), (h.far k (hG k e)).1⟩) _ (fun k hk => ?_), fun k hk => ?_⟩, ⟨ho.size, fun k hk => ho.block k (h.run.lt k (.inl hk)) (fun e => (h.far k (hG k e)).2 hk)⟩⟩
  · rcases hk with hk | hk
    · exact .inl (.inl hk)
    · rcases hz k hk with hk | hk
      · exact .inl (.inr hk)
      · exact .inr hk
  · rcases hz k hk with hk | hk
    · exact h.far k hk
    · exact ⟨by have := h.run.size; omega, fun hx => by have := h.run.lt k (.inl hx); omega⟩
/-- A frame more, apart from the world's steps. -/
theorem RunC.added {w' : World} {time' : Nat} (h : RunC w0 w X g dg mb n most time B L D E) (y : Fr) (f : Nat) (v : Value) (hno : ∀ x ∈ L, x.s ≠ y.s) (hh : CHead w' g dg mb most time')
    (hf : Frm w' f v y.dirty y.pins y.used) (hv : Sec w' (fun k => w.heap.size ≤ k ∧ k < w'.heap.size ∧ k ≠ f) v y.b) (hfl : w.heap.size ≤ f) (hs : y.b.length = 256 ∧ y.s < 1000000 ∧ y.pins < 1000000000)
    (hm : PMap w' mb (n + 1) (if (atS B L (y.s : Int)).isSome then L.length else L.length + 1) (fun j => if j = (y.s : Int) then some f else atS B L j)) (ho : Off (fun k => k = mb ∨ k = g) w w') :
    ∃ E', RunC w0 w' X g dg mb (n + 1) most time' (addB B y.s f) (L ++ [y]) D E' ∧ Keep X w w' := by
  have hc := h.cm.add2 h.elt y f v hno hh hf hv hfl hs hm ho
  have hfs : f < w'.heap.size := Blk.lt hf
  refine ⟨_, h.moved hc ho (fun k e => by rcases e with e | e; exact .inr (.inl e); exact .inl e) (fun k hk => ?_)⟩
  rcases hk with hk | hk | hk | ⟨x, hx, hk⟩
  · exact .inl (.inl hk)
  · exact .inl (.inr (.inl hk))
  · rcases hk with hk | hk
    · exact .inl (.inr (.inr (.inl hk)))
    · exact .inr ⟨hk.1, hk.2.1⟩
  · rcases List.mem_append.1 hx with hx | hx
    · rw [addB_other B (hno x hx)] at hk
      exact .inl (.inr (.inr (.inr ⟨x, hx, hk⟩)))
    · rw [List.mem_singleton.1 hx, addB_same] at hk
      exact .inr (by omega)
/-- use. -/
theorem RunC.use (h : RunC w0 w X g dg mb n most time B L D E) {x : Fr} (hx : x ∈ L) (ht : time < 1000000) :
    Calls Try.prog 42 #[.pointer (some ⟨g, 0, none⟩), .pointer (some ⟨B x.s, 0, none⟩)] w fun e w' => e = .returned (.tuple #[]) ∧ ∃ E', RunC w0 w' X g dg mb n most (time + 1) B (updL { x with used := time + 1 } L) D E' ∧ Keep X w w' := by
  obtain ⟨v, hf, hv⟩ := h.cm.frm x hx
  have hap := h.cm.apart x hx
  refine (cuse_any g dg mb most time (B x.s) x.pins x.used v x.dirty w h.cm.head hf (fun e => hap.1 e.symm) (by omega)).mono ?_
  rintro e w' ⟨rfl, h1, h2, h3, h4⟩
  have ho : Off (fun k => k = B x.s ∨ k = g) w w' := h3.mono fun k _ e => e.symm
  refine ⟨rfl, _, h.turned (y := { x with used := time + 1 }) ⟨x, hx, rfl⟩ (h.cm.upd { x with used := time + 1 } v ⟨x, hx, rfl⟩ ho h1 h2 ?_ ⟨(h.cm.secs x hx).1, (h.cm.secs x hx).2.2⟩) ho⟩
  exact (hv.same ho.size (fun k hk hl => ho.block k hl (fun e => by
    rcases e with e | e
    · exact hap.2.2 (e ▸ hk)
    · exact h.cm.e1 (e ▸ hk)))).mono fun k hk => grow.old hk
/-- makeRoom, over a disk whose power stays. -/
theorem room_any {nn t : Nat} (h : RunC w0 w X g dg mb n most time B L D E) (hst : Sta nn most t D L) (ht : t < 1000000) :
    Calls Try.prog 41 #[.pointer (some ⟨g, 0, none⟩)] w fun e w' =>
      (e = .returned (.int .i64 3) ∧ (most ≤ L.length ∧ ∀ x ∈ L, x.pins ≠ 0) ∧ RunC w0 w' X g dg mb n most time B L D E ∧ Keep X w w') ∨
      ∃ D' L', e = .returned (.int .i64 0) ∧ Room most D L D' L' ∧ RunC w0 w' X g dg mb n most time B L' D' E ∧ Keep X w w' := by
  by_cases hl : L.length < most
  · refine (room_yes h hl).mono ?_
    rintro e w' ⟨rfl, h1⟩
    exact .inr ⟨D, L, rfl, .inl ⟨hl, rfl, rfl⟩, h1⟩
  · have hl' : most ≤ L.length := by omega
    refine (room_no h hl' (by have := hst.hale.P; omega) (by have := hst.hale.steps; omega)).mono ?_
    rintro e w' (⟨h1, rfl, h2⟩ | ⟨x, hx, hp, rfl, h2⟩)
    · exact .inl ⟨rfl, ⟨hl', h1⟩, h2⟩
    · rw [hst.outL hx] at h2
      exact .inr ⟨_, _, by rw [hst.outE hx], .inr ⟨hl', x, hx, hp, rfl, rfl⟩, h2⟩
end
/-- A sector brought into a frame. -/
def Brought (most : Nat) (D : DS) (L : List Fr) (s : Nat) (D' : DS) (L' : List Fr) (y : Fr) : Prop :=
  (∃ x ∈ L, x.s = s ∧ y = { x with used := y.used } ∧ D' = D ∧ L' = updL y L) ∨
  ((∀ x ∈ L, x.s ≠ s) ∧ ∃ L1, Room most D L D' L1 ∧ y = ⟨s, readS D' s, false, 0, y.used⟩ ∧ L' = L1 ++ [y])
theorem Brought.sec {most s : Nat} {D D' : DS} {L L' : List Fr} {y : Fr} (h : Brought most D L s D' L' y) : y.s = s := by
  rcases h with ⟨x, _, e, ey, _⟩ | ⟨_, L1, _, ey, _⟩
  · rw [ey]; exact e
  · rw [ey]
section
variable {w0 w : World} {X E : Nat → Prop} {g dg mb n most time : Nat} {B : Nat → Nat} {L : List Fr} {D : DS}
set_option maxRecDepth 20000 in
theorem bring_yes (h : RunC w0 w X g dg mb n most time B L D E) {x : Fr} (hx : x ∈ L) (ht : time < 1000000) :
    Calls Try.prog 38 #[.pointer (some ⟨g, 0, none⟩), .int .i64 (x.s : Int)] w fun e w' => e = .returned (.tuple #[.pointer (some ⟨B x.s, 0, none⟩), .int .i64 0]) ∧ ∃ E', RunC w0 w' X g dg mb n most (time + 1) B (updL { x with used := time + 1 } L) D E' ∧ Keep X w w' := by
  have hl := h.cm.look_yes hx
  obtain ⟨c0, c1, c2, c3, _⟩ := h.cm.head.told
  have HU := Lib.hid (h.use hx ht)
  clear h hx ht
  go_enter Try.func38, Try.ntmps38
  go_wp2_with fail
  refine HU.out.mono ?_
  rintro e w' ⟨rfl, h1⟩
  have H1 := Lib.hid h1
  clear h1
  go_wp2_with fail
  go_ret2
  exact ⟨rfl, H1.out⟩
set_option maxRecDepth 20000 in
set_option maxHeartbeats 1000000 in
theorem bring_no {nn t s : Nat} (h : RunC w0 w X g dg mb n most time B L D E) (hst : Sta nn most t D L) (hs : s < nn) (hno : ∀ x ∈ L, x.s ≠ s) (ht : time < 1000000) (hn : n < 1000000) (htt : t < 1000000) (hm : 0 < most) :
    Calls Try.prog 38 #[.pointer (some ⟨g, 0, none⟩), .int .i64 (s : Int)] w fun e w' =>
      (e = .returned (.tuple #[.pointer none, .int .i64 3]) ∧ (most ≤ L.length ∧ ∀ x ∈ L, x.pins ≠ 0) ∧ RunC w0 w' X g dg mb n most time B L D E ∧ Keep X w w') ∨
      ∃ D' L1 f E', e = .returned (.tuple #[.pointer (some ⟨f, 0, none⟩), .int .i64 0]) ∧ Room most D L D' L1 ∧ RunC w0 w' X g dg mb (n + 1) most (time + 1) (addB B s f) (L1 ++ [⟨s, readS D' s, false, 0, time + 1⟩]) D' E' ∧ Keep X w w' := by
  have hsz : s < 4096 := by have := hst.top; omega
  have hwf := WalkArith.wf_i64 (n := (s : Int)) (by omega)
  have hl := h.cm.look_no hwf (atS_none hno)
  obtain ⟨c0, c1, c2, c3, _⟩ := h.cm.head.told
  have H1 := Lib.hid (room_any h hst htt)
  have HST := Lib.hid (And.intro hst (And.intro hs (And.intro hno hm)))
  clear h hst hs hno htt hm
  go_enter Try.func38, Try.ntmps38
  go_wp2_with fail
  refine H1.out.mono ?_
  rintro e w1 (⟨rfl, h1, h2⟩ | ⟨D1, L1, rfl, hr, h2, hk⟩)
  · have H2 := Lib.hid (And.intro h1 h2)
    clear h1 h2
    go_wp2_with fail
    go_ret2
    exact .inl ⟨rfl, H2.out⟩
  · obtain ⟨st1, hl1, hsub, _⟩ := hr.sta HST.out.1 HST.out.2.2.2
    have hno1 : ∀ x ∈ L1, x.s ≠ s := fun x hx => HST.out.2.2.1 x (hsub x hx)
    obtain ⟨hb256, he0⟩ := st1.hale.read HST.out.2.1
    have hrd := h2.run.read_yes (s : Int) he0
    rw [Int.toNat_natCast] at hrd
    obtain ⟨d0, d1, d2, d3, _⟩ := h2.cm.head.told
    obtain ⟨bs, hbs⟩ : ∃ bs, readS D1 s = bs := ⟨_, rfl⟩
    rw [hbs] at hrd hb256
    have HRD := Lib.hid hrd
    have HR := Lib.hid (And.intro hr (And.intro h2 (And.intro hk (And.intro hno1 (And.intro hb256 hbs)))))
    clear hr h2 hk hno1 hb256 hbs hrd st1 hl1 hsub he0 H1
    go_wp2_with fail
    refine HRD.out.mono ?_
    rintro e w2 ⟨rfl, hB, _, hrun, hbel⟩
    have hc2 := HR.out.2.1.cm.below hbel
    have hbel3 : Below w2.heap.size w2 (w2.alloc (.cells #[.slice (some ⟨w1.heap.size, 0, none⟩) 256 256, .bool false, .int .i64 0, .int .u64 0] 70)) := (Below.refl _ _).alloc (Nat.le_refl _) _
    have hc3 := hc2.below hbel3
    have hB3 := hB.below hbel3 hB.lt
    have hF3 : Frm (w2.alloc (.cells #[.slice (some ⟨w1.heap.size, 0, none⟩) 256 256, .bool false, .int .i64 0, .int .u64 0] 70)) w2.heap.size (.slice (some ⟨w1.heap.size, 0, none⟩) 256 256) false 0 0 := Blk.new w2 _ _
    obtain ⟨w4, hput, hm4, ho4⟩ := hc3.map.put (s : Int) w2.heap.size hwf hn
    have hgl := Blk.lt HR.out.2.1.cm.head
    have hml := HR.out.2.1.cm.map.lt
    have hg12 := hbel.size
    have hB1 := hB.lt
    have hF4 := Blk.same hF3 (ho4.block w2.heap.size (by rw [World.size_alloc]; omega) (fun e => by have e' : w2.heap.size = mb := e; omega))
    have hB4 := Blk.same hB3 (ho4.block w1.heap.size (by rw [World.size_alloc]; omega) (fun e => by have e' : w1.heap.size = mb := e; omega))
    have hH4 := Blk.same hc3.head (ho4.block g (by rw [World.size_alloc]; omega) HR.out.2.1.cm.ne)
    have hu := cuse_any g dg mb most time w2.heap.size 0 0 _ false w4 hH4 hF4 (by omega) (by omega)
    have ho14 : Off (fun k => k = mb ∨ k = g) w1 w4 := ((Off.of_new hbel _).trans ((Off.of_new (hbel3.mono (Nat.le_refl _)) _).trans (ho4.mono fun k _ e => .inl e)))
    have HF := Lib.hid (And.intro hm4 (And.intro hB4 (And.intro ho14 ho4.size)))
    have HU := Lib.hid hu
    have HN := Lib.hid (And.intro hgl (And.intro hml (And.intro hg12 hB1)))
    obtain ⟨e0, e1, e2, e3, _⟩ := hc3.head.told
    have d0' := (hbel.cell (p := ⟨g, 2, none⟩) hgl).trans d2
    clear hB hrun hbel hc2 hbel3 hc3 hB3 hF3 hm4 ho4 hgl hml hg12 hB1 hF4 hB4 hH4 hu ho14 HRD
    go_wp2_with (first
      | (go_at_call 42; refine HU.out.mono ?_)
      | fail)
    rintro e w5 ⟨rfl, k1, k2, k3, k4⟩
    have HA := Lib.hid (show ∃ E', RunC w0 w5 X g dg mb (n + 1) most (time + 1) (addB B s w2.heap.size) (L1 ++ [⟨s, bs, false, 0, time + 1⟩]) D1 E' ∧ Keep X w1 w5 by
      obtain ⟨hm4, hB4, ho14, hs4⟩ := HF.out
      obtain ⟨hgl, hml, hg12, hB1⟩ := HN.out
      rw [World.size_alloc] at hs4
      refine HR.out.2.1.added ⟨s, bs, false, 0, time + 1⟩ w2.heap.size (.slice (some ⟨w1.heap.size, 0, none⟩) 256 256) HR.out.2.2.2.1 k1 k2 (Sec.of_blk (g := w1.heap.size) (t := 5) (Blk.same hB4 (k3.block w1.heap.size (by omega) (fun e => by rcases e with e | e <;> omega))) ⟨Nat.le_refl _, by omega, by omega⟩ (by rw [HR.out.2.2.2.2.1]; unfold maxLen; omega) 256 HR.out.2.2.2.2.1) (by omega) ⟨HR.out.2.2.2.2.1, by show s < _; omega, by show (0 : Nat) < _; omega⟩ ?_ (ho14.then k3 (fun k hk e => by rcases e with e | e; exact .inr e; omega))
      exact hm4.same (k3.block mb (by omega) (fun e => by rcases e with e | e; exact HR.out.2.1.cm.ne e.symm; omega)))
    clear k1 k2 k3 k4 HU
    go_wp2_with fail
    go_ret2
    obtain ⟨E', q1, q2⟩ := HA.out
    exact .inr ⟨D1, L1, w2.heap.size, E', rfl, HR.out.1, by rw [HR.out.2.2.2.2.2]; exact q1, HR.out.2.2.1.trans q2⟩
end
end Go.Proofs.Ytiemfhncadcemaa
