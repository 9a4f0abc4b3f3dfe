/- cache: a cache over a disk whose power stays; Read, Pin. -/
import Derived.Test.YtiemfhncadcemaaCr
namespace Go.Proofs.Ytiemfhncadcemaa
open Go.RowKit Dsk
theorem updL_last {y0 y : Fr} {L : List Fr} (h : ∀ x ∈ L, x.s ≠ y.s) (e : y0.s = y.s) : updL y (L ++ [y0]) = L ++ [y] := by
  unfold updL
  rw [List.map_append]
  congr 1
  · refine (List.map_congr_left (fun x hx => ?_)).trans (List.map_id _)
    rw [if_neg (h x hx)]; rfl
  · simp [e]
theorem Brought.sta {nn most t s : Nat} {D D' : DS} {L L' : List Fr} {y : Fr} (h : Brought most D L s D' L' y) (hst : Sta nn most t D L) (hs : s < nn) (hm : 0 < most) :
    Sta nn most (t + 1) D' L' ∧ (∀ j, what D' L' j = what D L j) ∧ y.b = what D L s ∧ y ∈ L' ∧ y.s = s := by
  rcases h with ⟨x, hx, rfl, ey, rfl, rfl⟩ | ⟨hno, L1, hr, ey, rfl⟩
  · have e1 : y.s = x.s := by rw [ey]
    have e2 : y.b = x.b := by rw [ey]
    have e3 : y.pins = x.pins := by rw [ey]
    have e4 : y.dirty = x.dirty := by rw [ey]
    have hex : ∃ z ∈ L, z.s = y.s := ⟨x, hx, e1.symm⟩
    have hin := hst.inn x hx
    refine ⟨(hst.mono (Nat.le_succ _)).upd hex (fun hd => by rw [e1, e2]; exact hst.clean x hx (by rw [← e4]; exact hd)) (by rw [e3]; omega) (by rw [e2]; exact hin.2.2), fun j => ?_, by rw [what_yes hst.nodup hx, e2], updL_yes hex, e1⟩
    rw [what_upd hst.nodup hex]
    split
    · rename_i e; rw [e, e1, what_yes hst.nodup hx, e2]
    · rfl
  · obtain ⟨st1, hl, hsub, hw⟩ := hr.sta hst hm
    have hno1 : ∀ x ∈ L1, x.s ≠ y.s := fun x hx => by rw [ey]; exact hno x (hsub x hx)
    have e1 : y.s = s := by rw [ey]
    have e2 : y.b = readS D' s := by rw [ey]
    have hrd := st1.hale.read hs
    refine ⟨st1.add hno1 hl (by rw [e1]; exact hs) (fun _ => by rw [e2, e1]) (by rw [ey]; exact Nat.zero_le _) (by rw [e2]; exact hrd.1), fun j => ?_, ?_, by simp, e1⟩
    · rw [what_add st1.nodup hno1]
      split
      · rename_i e
        rw [e2, e, e1, ← hw, what_no (fun x hx => by have := hno1 x hx; rw [e1] at this; exact this)]
      · exact hw j
    · rw [e2, ← hw, what_no (fun x hx => by have := hno1 x hx; rw [e1] at this; exact this)]
section
variable {w0 w : World} {X E : Nat → Prop} {g dg mb n most time nn t s : Nat} {B : Nat → Nat} {L : List Fr} {D : DS}
theorem RunC.more {w' : World} (h : RunC w0 w X g dg mb n most time B L D E) (hb : Below w.heap.size w w') (Y : Nat → Prop) (hY : ∀ k, Y k → X k ∨ (w.heap.size ≤ k ∧ k < w'.heap.size)) : RunC w0 w' Y g dg mb n most time B L D E :=
  ⟨h.cm.below hb, h.run.add hb _ (fun k hk => by
      rcases hk with hk | hk
      · rcases hY k hk with h1 | h1
        · exact .inl (.inl h1)
        · exact .inr h1
      · exact .inl (.inr hk)),
    fun k hk => ⟨(h.far k hk).1, fun hy => by
      rcases hY k hy with h1 | h1
      · exact (h.far k hk).2 h1
      · have := h.run.lt k (.inr hk); omega⟩⟩
theorem bring_any (h : RunC w0 w X g dg mb n most time B L D E) (hst : Sta nn most t D L) (hs : s < nn) (ht : time < 1000000) (hn : n < 1000000) (htt : t < 1000000) (hm : 0 < most) :
    Calls Try.prog 38 #[.pointer (some ⟨g, 0, none⟩), .int .i64 (s : Int)] w fun e w' =>
      (e = .returned (.tuple #[.pointer none, .int .i64 3]) ∧ ((most ≤ L.length ∧ ∀ x ∈ L, x.pins ≠ 0) ∧ ∀ x ∈ L, x.s ≠ s) ∧ RunC w0 w' X g dg mb n most time B L D E ∧ Keep X w w') ∨
      ∃ D' L' y n' B' E', e = .returned (.tuple #[.pointer (some ⟨B' y.s, 0, none⟩), .int .i64 0]) ∧ Brought most D L s D' L' y ∧ RunC w0 w' X g dg mb n' most (time + 1) B' L' D' E' ∧ n' ≤ n + 1 ∧ Keep X w w' := by
  by_cases hx : ∃ x ∈ L, x.s = s
  · obtain ⟨x, hx, rfl⟩ := hx
    refine (bring_yes h hx ht).mono ?_
    rintro e w' ⟨rfl, E', h1, h2⟩
    exact .inr ⟨D, _, { x with used := time + 1 }, n, B, E', rfl, .inl ⟨x, hx, rfl, rfl, rfl, rfl⟩, h1, Nat.le_succ _, h2⟩
  · have hno : ∀ x ∈ L, x.s ≠ s := fun x h e => hx ⟨x, h, e⟩
    refine (bring_no h hst hs hno ht hn htt hm).mono ?_
    rintro e w' (⟨rfl, h1, h2⟩ | ⟨D', L1, f, E', rfl, h1, h2, h3⟩)
    · exact .inl ⟨rfl, ⟨h1, hno⟩, h2⟩
    · exact .inr ⟨D', _, ⟨s, readS D' s, false, 0, time + 1⟩, n + 1, _, E', by rw [addB_same], .inr ⟨hno, L1, h1, rfl, rfl⟩, h2, Nat.le_refl _, h3⟩
end
/-- A cache of the call's own over a disk whose power stays. -/
structure CS (w0 w : World) (X : Nat → Prop) (g dg nn most t : Nat) (D : DS) (L : List Fr) : Prop where
  ex : ∃ mb n time B E, RunC w0 w X g dg mb n most time B L D E ∧ n ≤ t ∧ time ≤ t
  st : Sta nn most t D L
  pos : 0 < most
/-- All frames are pinned, none is the sector's. -/
def Stuck (most : Nat) (L : List Fr) (s : Nat) : Prop := (most ≤ L.length ∧ ∀ x ∈ L, x.pins ≠ 0) ∧ ∀ x ∈ L, x.s ≠ s
section
variable {w0 w : World} {X : Nat → Prop} {g dg nn most t s : Nat} {L : List Fr} {D : DS}
theorem CS.more {w' : World} (h : CS w0 w X g dg nn most t D L) (hb : Below w.heap.size w w') (Y : Nat → Prop) (hY : ∀ k, Y k → X k ∨ (w.heap.size ≤ k ∧ k < w'.heap.size)) : CS w0 w' Y g dg nn most t D L := by
  obtain ⟨⟨mb, n, time, B, E, h1, h2⟩, h3, h4⟩ := h
  exact ⟨⟨mb, n, time, B, E, h1.more hb Y hY, h2⟩, h3, h4⟩
theorem CS.below {w' : World} (h : CS w0 w X g dg nn most t D L) (hb : Below w.heap.size w w') : CS w0 w' X g dg nn most t D L := h.more hb X fun _ h => .inl h
theorem CS.mono {u : Nat} (h : CS w0 w X g dg nn most t D L) (hu : t ≤ u) : CS w0 w X g dg nn most u D L := by
  obtain ⟨⟨mb, n, time, B, E, h1, h2, h5⟩, h3, h4⟩ := h
  exact ⟨⟨mb, n, time, B, E, h1, Nat.le_trans h2 hu, Nat.le_trans h5 hu⟩, h3.mono hu, h4⟩
theorem CS.less {Y : Nat → Prop} (h : CS w0 w X g dg nn most t D L) (hY : ∀ k, Y k → X k) : CS w0 w Y g dg nn most t D L := by
  obtain ⟨⟨mb, n, time, B, E, h1, h2⟩, h3, h4⟩ := h
  exact ⟨⟨mb, n, time, B, E, ⟨h1.cm, h1.run.less (fun k hk => hk.imp (hY k) id), fun k hk => ⟨(h1.far k hk).1, fun hy => (h1.far k hk).2 (hY k hy)⟩⟩, h2⟩, h3, h4⟩
theorem CS.lt (h : CS w0 w X g dg nn most t D L) : ∀ k, X k → k < w.heap.size := by
  obtain ⟨⟨mb, n, time, B, E, h1, h2⟩, h3, h4⟩ := h
  exact fun k hk => h1.run.lt k (.inl hk)
theorem CS.bel (h : CS w0 w X g dg nn most t D L) : Below w0.heap.size w0 w := by
  obtain ⟨⟨mb, n, time, B, E, h1, h2⟩, h3, h4⟩ := h
  exact h1.run.bel
theorem refS_in {D : DS} {s nn : Nat} (h : Hale nn t D) (hs : s < nn) : refS D (s : Int) = 0 := by
  unfold refS
  rw [h.dead, h.len, if_neg (by decide), if_neg (by omega)]
theorem refS_out {D : DS} {i : Int} (h : Hale nn t D) (hs : i < 0 ∨ (nn : Int) ≤ i) : refS D i = 1 := by
  unfold refS
  rw [h.dead, h.len, if_neg (by decide), if_pos hs]
theorem CS.refS_ (h : CS w0 w X g dg nn most t D L) (i : Int) : Calls Try.prog 37 #[.pointer (some ⟨g, 0, none⟩), .int .i64 i] w fun e w' => e = .returned (.int .i64 (refS D i : Int)) ∧ w = w' := by
  obtain ⟨⟨mb, n, time, B, E, h1, h2⟩, h3, h4⟩ := h
  obtain ⟨F, hD⟩ := h1.disk
  exact crefusesS_any g dg mb most time i F D w h1.cm.head hD
theorem CS.ref_ (h : CS w0 w X g dg nn most t D L) : Calls Try.prog 32 #[.pointer (some ⟨g, 0, none⟩)] w fun e w' => e = .returned (.int .i64 0) ∧ w = w' := by
  obtain ⟨⟨mb, n, time, B, E, h1, h2⟩, h3, h4⟩ := h
  obtain ⟨F, hD⟩ := h1.disk
  exact h1.cm.alive hD h3.hale.dead
theorem CS.read_bad (h : CS w0 w X g dg nn most t D L) (i : Int) (hi : i < 0 ∨ (nn : Int) ≤ i) :
    Calls Try.prog 20 #[.pointer (some ⟨g, 0, none⟩), .int .i64 i] w fun e w' => e = .returned (.tuple #[.slice none 0 0, .int .i64 1]) ∧ w = w' := by
  have H1 := h.refS_ i
  rw [refS_out h.st.hale hi] at H1
  replace H1 := Lib.hid H1
  clear h hi
  go_enter Try.func20, Try.ntmps20
  go_wp2_with fail
  refine H1.out.mono ?_
  rintro e w' ⟨rfl, rfl⟩
  go_wp2_with fail
  go_ret2
  exact ⟨rfl, rfl⟩
theorem CS.pin_bad (h : CS w0 w X g dg nn most t D L) (i : Int) (hi : i < 0 ∨ (nn : Int) ≤ i) :
    Calls Try.prog 19 #[.pointer (some ⟨g, 0, none⟩), .int .i64 i] w fun e w' => e = .returned (.int .i64 1) ∧ w = w' := by
  have H1 := h.refS_ i
  rw [refS_out h.st.hale hi] at H1
  replace H1 := Lib.hid H1
  clear h hi
  go_enter Try.func19, Try.ntmps19
  go_wp2_with fail
  refine H1.out.mono ?_
  rintro e w' ⟨rfl, rfl⟩
  go_wp2_with fail
  go_ret
  exact ⟨rfl, rfl⟩
set_option maxRecDepth 20000 in
set_option maxHeartbeats 1000000 in
theorem CS.read (h : CS w0 w X g dg nn most t D L) (hs : s < nn) (ht : t < 900000) :
    Calls Try.prog 20 #[.pointer (some ⟨g, 0, none⟩), .int .i64 (s : Int)] w fun e w' =>
      (e = .returned (.tuple #[.slice none 0 0, .int .i64 3]) ∧ Stuck most L s ∧ CS w0 w' X g dg nn most t D L ∧ Keep X w w') ∨
      ∃ D' L' y q c, e = .returned (.tuple #[.slice (some ⟨q, 0, none⟩) 256 c, .int .i64 0]) ∧ Brought most D L s D' L' y ∧ Rw w' q 256 c y.b ∧ w.heap.size ≤ q ∧ CS w0 w' (fun k => X k ∨ k = q) g dg nn most (t + 1) D' L' ∧ Keep X w w' := by
  have H1 := h.refS_ (s : Int)
  rw [refS_in h.st.hale hs] at H1
  replace H1 := Lib.hid H1
  have hnn : s < 4096 := by have := h.st.top; omega
  obtain ⟨⟨mb, n, time, B, E, h1, h2, h5⟩, h3, h4⟩ := h
  have H2 := Lib.hid (bring_any h1 h3 hs (by omega) (by omega) (by omega) h4)
  have H3 := Lib.hid (And.intro h2 (And.intro h5 (And.intro h3 (And.intro h4 (And.intro hs h1.run.bel)))))
  clear h1 h2 h5 h3 h4 hs
  go_enter Try.func20, Try.ntmps20
  go_wp2_with fail
  refine H1.out.mono ?_
  rintro e w' ⟨rfl, rfl⟩
  go_wp2_with fail
  refine H2.out.mono ?_
  rintro e w1 (⟨rfl, k1, k2, k3⟩ | ⟨D', L', y, n', B', E', rfl, k1, k2, k3, k4⟩)
  · have HK := Lib.hid (show Stuck most L s ∧ CS w0 w1 X g dg nn most t D L ∧ Keep X w w1 from ⟨k1, ⟨⟨mb, n, time, B, E, k2, H3.out.1, H3.out.2.1⟩, H3.out.2.2.1, H3.out.2.2.2.1⟩, k3⟩)
    clear k1 k2 k3 H1 H2
    go_wp2_with fail
    go_ret2
    exact .inl ⟨rfl, HK.out⟩
  · obtain ⟨st', _, _, hy, _⟩ := k1.sta H3.out.2.2.1 H3.out.2.2.2.2.1 H3.out.2.2.2.1
    obtain ⟨v, hf, A, c, rfl, hc1, hc2, hby, _⟩ := k2.cm.frm y hy
    obtain ⟨f0, f1, f2, f3, _⟩ := hf.told
    have hl := (st'.inn y hy).2.2
    rw [hl] at f0
    obtain ⟨b, off, rfl, _, _⟩ := hby.at_ (k := 0) (by omega)
    have hcl := clone_any b off 256 c y.b w1 hl (by omega) (by omega) hby
    have HC := Lib.hid hcl
    have HK := Lib.hid (And.intro k1 (And.intro k2 (And.intro k3 (And.intro k4 st'))))
    obtain ⟨bf, hbf⟩ : ∃ bf, B' y.s = bf := ⟨_, rfl⟩
    rw [hbf] at f0
    rw [hbf]
    clear k1 k2 k3 k4 H1 H2 hy hf hc1 hc2 hby hl hcl f1 f2 f3 st' hbf
    go_wp2_with fail
    refine HC.out.mono ?_
    rintro e w2 ⟨q, cq, rfl, hrw, hq, hb2⟩
    have HF := Lib.hid (show Brought most D L s D' L' y ∧ Rw w2 q 256 cq y.b ∧ w.heap.size ≤ q ∧ CS w0 w2 (fun k => X k ∨ k = q) g dg nn most (t + 1) D' L' ∧ Keep X w w2 by
      obtain ⟨k1, k2, k3, k4, st'⟩ := HK.out
      have hk2 := k4.size
      exact ⟨k1, hrw, by omega, ⟨⟨mb, n', time + 1, B', E', k2.more hb2 _ (fun k hk => hk.imp id fun e => by have := hrw.lt; omega), by have := H3.out.1; omega, by have := H3.out.2.1; omega⟩, st', H3.out.2.2.2.1⟩, k4.trans ((k2.below hb2).2)⟩)
    clear hrw hq hb2
    go_wp2_with fail
    go_ret2
    exact .inr ⟨D', L', y, q, cq, rfl, HF.out⟩
set_option maxRecDepth 20000 in
set_option maxHeartbeats 1000000 in
theorem CS.pin (h : CS w0 w X g dg nn most t D L) (hs : s < nn) (ht : t < 900000) :
    Calls Try.prog 19 #[.pointer (some ⟨g, 0, none⟩), .int .i64 (s : Int)] w fun e w' =>
      (e = .returned (.int .i64 3) ∧ Stuck most L s ∧ CS w0 w' X g dg nn most t D L ∧ Keep X w w') ∨
      ∃ D' L' y, e = .returned (.int .i64 0) ∧ Brought most D L s D' L' y ∧ CS w0 w' X g dg nn most (t + 1) D' (updL { y with pins := y.pins + 1 } L') ∧ Keep X w w' := by
  have H1 := h.refS_ (s : Int)
  rw [refS_in h.st.hale hs] at H1
  replace H1 := Lib.hid H1
  have hnn : s < 4096 := by have := h.st.top; omega
  obtain ⟨⟨mb, n, time, B, E, h1, h2, h5⟩, h3, h4⟩ := h
  have H2 := Lib.hid (bring_any h1 h3 hs (by omega) (by omega) (by omega) h4)
  have H3 := Lib.hid (And.intro h2 (And.intro h5 (And.intro h3 (And.intro h4 (And.intro hs h1.run.bel)))))
  clear h1 h2 h5 h3 h4 hs
  go_enter Try.func19, Try.ntmps19
  go_wp2_with fail
  refine H1.out.mono ?_
  rintro e w' ⟨rfl, rfl⟩
  go_wp2_with fail
  refine H2.out.mono ?_
  rintro e w1 (⟨rfl, k1, k2, k3⟩ | ⟨D', L', y, n', B', E', rfl, k1, k2, k3, k4⟩)
  · have HK := Lib.hid (show Stuck most L s ∧ CS w0 w1 X g dg nn most t D L ∧ Keep X w w1 from ⟨k1, ⟨⟨mb, n, time, B, E, k2, H3.out.1, H3.out.2.1⟩, H3.out.2.2.1, H3.out.2.2.2.1⟩, k3⟩)
    clear k1 k2 k3 H1 H2
    go_wp2_with fail
    go_ret
    exact .inl ⟨rfl, HK.out⟩
  · obtain ⟨st', _, _, hy, _⟩ := k1.sta H3.out.2.2.1 H3.out.2.2.2.2.1 H3.out.2.2.2.1
    obtain ⟨v, hf, hv⟩ := k2.cm.frm y hy
    obtain ⟨f0, f1, f2, f3, ff⟩ := hf.told
    have hin := st'.inn y hy
    have hsec := k2.cm.secs y hy
    obtain ⟨w2, hw2⟩ : ∃ w2, w1.setCell ⟨B' y.s, 2, none⟩ (.int .i64 ((y.pins + 1 : Nat) : Int)) = w2 := ⟨_, rfl⟩
    have ho : Off (fun k => k = B' y.s) w1 w2 := by rw [← hw2]; exact Off.setc _ _ _ _
    have hf1 : Frm w2 (B' y.s) v y.dirty (y.pins + 1) y.used := by rw [← hw2]; exact Blk.set_ hf 2 _
    have hap := k2.cm.apart y hy
    have ho2 : Off (fun k => k = B' y.s ∨ k = g) w1 w2 := ho.mono fun k _ e => .inl e
    have hc := k2.cm.upd (w' := w2) { y with pins := y.pins + 1 } v ⟨y, hy, rfl⟩ ho2 (Blk.same k2.cm.head (ho.block g (Blk.lt k2.cm.head) (fun e => hap.1 e.symm))) hf1
      ((hv.same ho.size (fun k hk hlt => ho.block k hlt (fun e => hap.2.2 (e ▸ hk)))).mono fun k hk => grow.old hk) ⟨hsec.1, by show y.pins + 1 < _; omega⟩
    obtain ⟨q1, q2⟩ := k2.turned (y := { y with pins := y.pins + 1 }) ⟨y, hy, rfl⟩ hc ho2
    have hst2 : Sta nn most (t + 1) D' (updL { y with pins := y.pins + 1 } L') := by
      refine st'.upd (y := { y with pins := y.pins + 1 }) ⟨y, hy, rfl⟩ (fun hd => st'.clean y hy hd) ?_ hin.2.2
      show y.pins + 1 ≤ t + 1
      rcases k1 with ⟨x, hx, _, ey, _⟩ | ⟨_, _, _, ey, _⟩
      · have := (H3.out.2.2.1.inn x hx).2.1
        rw [show y.pins = x.pins by rw [ey]]; omega
      · rw [show y.pins = 0 by rw [ey]]; omega
    have HF := Lib.hid (show Brought most D L s D' L' y ∧ CS w0 w2 X g dg nn most (t + 1) D' (updL { y with pins := y.pins + 1 } L') ∧ Keep X w w2 from
      ⟨k1, ⟨⟨mb, n', time + 1, B', _, q1, by have := H3.out.1; omega, by have := H3.out.2.1; omega⟩, hst2, H3.out.2.2.2.1⟩, k4.trans q2⟩)
    obtain ⟨pp, hpp⟩ : ∃ pp, y.pins = pp := ⟨_, rfl⟩
    have hpl : pp < 1000000000 := by rw [← hpp]; exact hsec.2.2
    rw [hpp] at f2 hw2
    have hwp : IntKind.i64.wrap ((pp : Int) + 1) = ((pp + 1 : Nat) : Int) := by rw [show (pp : Int) + 1 = ((pp + 1 : Nat) : Int) by omega]; exact IntWalk.i64_in _ (by omega)
    obtain ⟨p1, hp1⟩ : ∃ p1, pp + 1 = p1 := ⟨_, rfl⟩
    rw [hp1] at hw2 hwp
    obtain ⟨bf, hbf⟩ : ∃ bf, B' y.s = bf := ⟨_, rfl⟩
    rw [hbf] at f0 f1 f2 f3 ff hw2
    rw [hbf]
    clear k1 k2 k3 k4 H1 H2 hy hf hv hsec hin ho hf1 hap ho2 hc q1 q2 hst2 st' hbf hpp hp1
    go_wp2_with fail
    go_ret
    exact .inr ⟨D', L', y, rfl, HF.out⟩
end
end Go.Proofs.Ytiemfhncadcemaa
