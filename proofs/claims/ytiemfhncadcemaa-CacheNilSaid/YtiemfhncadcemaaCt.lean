/- cache: Write. -/
import Derived.Test.YtiemfhncadcemaaCs
namespace Go.Proofs.Ytiemfhncadcemaa
open Go.RowKit Dsk
/-- A frame filled up anew: the worlds between, and what is so in the last. -/
theorem fillup (w : World) (f g dg mb most time p u len cap : Nat) (v : Value) (d : Bool) (A : Option Addr) (bs : List UInt8) (hf : Frm w f v d p u) (hh : CHead w g dg mb most time) (hne : g ≠ f) (hl : bs.length = len) (h256 : len ≤ 256) (hby : Bytes w A bs) (hA : ∀ p : Addr, A = some p → p.block ≠ f) :
    ∃ w1 w2 w3 w4, (Instr.makeSlice 33 (.int .i64 256) (.int .i64 256)).run Try.prog w = .ok (.slice (some ⟨w.heap.size, 0, none⟩) 256 256) w1 ∧
      (w1.cell? ⟨f, 0, none⟩ = some v ∧ ∀ i, w1.frozen? ⟨f, i, none⟩ = false) ∧ w1.setCell ⟨f, 0, none⟩ (.slice (some ⟨w.heap.size, 0, none⟩) 256 256) = w2 ∧
      (w2.cell? ⟨f, 1, none⟩ = some (.bool d) ∧ ∀ i, w2.frozen? ⟨f, i, none⟩ = false) ∧ w2.setCell ⟨f, 1, none⟩ (.bool true) = w3 ∧
      w3.cell? ⟨f, 0, none⟩ = some (.slice (some ⟨w.heap.size, 0, none⟩) 256 256) ∧
      (Builtin.copy_ #[33, 33] 3 #[.slice (some ⟨w.heap.size, 0, none⟩) 256 256, .slice A len cap]).run Try.prog w3 = .ok (.int .i64 (len : Int)) w4 ∧
      CHead w4 g dg mb most time ∧ Frm w4 f (.slice (some ⟨w.heap.size, 0, none⟩) 256 256) true p u ∧ Blk w4 w.heap.size 5 (row8 (filled bs 256)) ∧ Off (fun k => k = f) w w4 := by
  have hfl := Blk.lt hf
  have hgl := Blk.lt hh
  obtain ⟨w1, hw1⟩ : ∃ w1, w.alloc (.cells (mk8 256) 5) = w1 := ⟨_, rfl⟩
  have hmk := run_mk8 256 (by omega) w
  rw [hw1] at hmk
  have hb1 : Below w.heap.size w w1 := by rw [← hw1]; exact (Below.refl _ _).alloc (Nat.le_refl _) _
  have hN1 : Blk w1 w.heap.size 5 (List.replicate 256 (bv 0)).toArray := by rw [← hw1, ← mk8_eq]; exact Blk.new _ _ _
  have hF1 : Frm w1 f v d p u := Blk.below hf hb1 hfl
  have hH1 : CHead w1 g dg mb most time := Blk.below hh hb1 hgl
  have hY1 := hby.below hb1
  obtain ⟨w2, hw2⟩ : ∃ w2, w1.setCell ⟨f, 0, none⟩ (.slice (some ⟨w.heap.size, 0, none⟩) 256 256) = w2 := ⟨_, rfl⟩
  have hF2 : Frm w2 f (.slice (some ⟨w.heap.size, 0, none⟩) 256 256) d p u := by rw [← hw2]; exact Blk.set_ hF1 0 _
  have hH2 : CHead w2 g dg mb most time := by rw [← hw2]; exact Blk.far hH1 (p := ⟨f, 0, none⟩) hne _
  have hN2 : Blk w2 w.heap.size 5 (List.replicate 256 (bv 0)).toArray := by rw [← hw2]; exact Blk.far hN1 (p := ⟨f, 0, none⟩) (by show w.heap.size ≠ f; omega) _
  have ho2 : Off (fun k => k = f) w1 w2 := by rw [← hw2]; exact Off.setc _ _ _ _
  obtain ⟨w3, hw3⟩ : ∃ w3, w2.setCell ⟨f, 1, none⟩ (.bool true) = w3 := ⟨_, rfl⟩
  have hF3 : Frm w3 f (.slice (some ⟨w.heap.size, 0, none⟩) 256 256) true p u := by rw [← hw3]; exact Blk.set_ hF2 1 _
  have hH3 : CHead w3 g dg mb most time := by rw [← hw3]; exact Blk.far hH2 (p := ⟨f, 1, none⟩) hne _
  have hN3 : Blk w3 w.heap.size 5 (List.replicate 256 (bv 0)).toArray := by rw [← hw3]; exact Blk.far hN2 (p := ⟨f, 1, none⟩) (by show w.heap.size ≠ f; omega) _
  have ho3 : Off (fun k => k = f) w1 w3 := ho2.trans (by rw [← hw3]; exact Off.setc _ _ _ _)
  have hY3 : Bytes w3 A bs := hY1.same ho3.size (fun q e hq => ho3.block _ hq (hA q e))
  obtain ⟨w4, hcp, hN4, hg4, hs4⟩ := run_copy8 w3 3 w.heap.size 256 256 A cap bs _ hY3 hN3 (by omega) (by rw [List.length_replicate]; exact Nat.le_refl _)
  rw [hl] at hcp
  have eN : bs.map bv ++ (List.replicate 256 (bv 0)).drop bs.length = (filled bs 256).map bv := by
    unfold filled
    rw [List.map_append, List.map_replicate, List.drop_replicate]
  rw [eN] at hN4
  obtain ⟨a0, a1, a2, a3, af⟩ := hF1.told
  obtain ⟨b0, b1, b2, b3, bf⟩ := hF2.told
  obtain ⟨d0, d1, d2, d3, df⟩ := hF3.told
  have hg4o : Off (fun k => k = w.heap.size) w3 w4 := (Off.of_grown hg4).mono fun k _ e => (Option.some.inj e).symm
  exact ⟨w1, w2, w3, w4, hmk, ⟨a0, af⟩, hw2, ⟨b1, bf⟩, hw3, d0, hcp, Blk.same hH3 (hg4o.block g (Blk.lt hH3) (by omega)), Blk.same hF3 (hg4o.block f (Blk.lt hF3) (by omega)), hN4,
    ((Off.of_new hb1 _).trans ho3).then hg4o (fun j hj e => by omega)⟩
/-- A sector written into a frame. -/
def Wrote (most : Nat) (D : DS) (L : List Fr) (s : Nat) (b : List UInt8) (D' : DS) (L' : List Fr) (y : Fr) : Prop :=
  (∃ x ∈ L, x.s = s ∧ y = { x with b := b, dirty := true, used := y.used } ∧ D' = D ∧ L' = updL y L) ∨
  ((∀ x ∈ L, x.s ≠ s) ∧ ∃ L1, Room most D L D' L1 ∧ y = ⟨s, b, true, 0, y.used⟩ ∧ L' = L1 ++ [y])
theorem Wrote.sta {nn most t s : Nat} {D D' : DS} {L L' : List Fr} {y : Fr} {b : List UInt8} (h : Wrote most D L s b D' L' y) (hst : Sta nn most t D L) (hs : s < nn) (hm : 0 < most) (hb : b.length = 256) :
    Sta nn most (t + 1) D' L' ∧ (∀ j, what D' L' j = if j = s then b else what D L j) ∧ y ∈ L' ∧ y.s = s := by
  rcases h with ⟨x, hx, rfl, ey, rfl, rfl⟩ | ⟨hno, L1, hr, ey, rfl⟩
  · have e1 : y.s = x.s := by rw [ey]
    have e2 : y.b = b := by rw [ey]
    have e3 : y.pins = x.pins := by rw [ey]
    have e4 : y.dirty = true := by rw [ey]
    have hex : ∃ z ∈ L, z.s = y.s := ⟨x, hx, e1.symm⟩
    have hin := hst.inn x hx
    refine ⟨(hst.mono (Nat.le_succ _)).upd hex (fun hd => by rw [e4] at hd; cases hd) (by rw [e3]; omega) (by rw [e2]; exact hb), fun j => ?_, updL_yes hex, e1⟩
    rw [what_upd hst.nodup hex, e1, e2]
  · obtain ⟨st1, hl, hsub, hw⟩ := hr.sta hst hm
    have hno1 : ∀ x ∈ L1, x.s ≠ y.s := fun x hx => by rw [ey]; exact hno x (hsub x hx)
    have e1 : y.s = s := by rw [ey]
    have e2 : y.b = b := by rw [ey]
    refine ⟨st1.add hno1 hl (by rw [e1]; exact hs) (fun hd => by rw [ey] at hd; cases hd) (by rw [ey]; exact Nat.zero_le _) (by rw [e2]; exact hb), fun j => ?_, by simp, e1⟩
    rw [what_add st1.nodup hno1, e1, e2, hw]
section
variable {w0 w : World} {X : Nat → Prop} {g dg nn most t s : Nat} {L : List Fr} {D : DS}
theorem CS.write_bad (h : CS w0 w X g dg nn most t D L) (i : Int) (A : Option Addr) (len cap : Nat) (hi : i < 0 ∨ (nn : Int) ≤ i) :
    Calls Try.prog 24 #[.pointer (some ⟨g, 0, none⟩), .int .i64 i, .slice A len cap] w fun e w' => e = .returned (.int .i64 1) ∧ w = w' := by
  have H1 := h.refS_ i
  rw [refS_out h.st.hale hi] at H1
  replace H1 := Lib.hid H1
  clear h hi
  go_enter Try.func24, Try.ntmps24
  go_wp2_with fail
  refine H1.out.mono ?_
  rintro e w' ⟨rfl, rfl⟩
  go_wp2_with fail
  go_ret
  exact ⟨rfl, rfl⟩
theorem CS.write_long (h : CS w0 w X g dg nn most t D L) (A : Option Addr) (len cap : Nat) (hs : s < nn) (hl : 256 < len) :
    Calls Try.prog 24 #[.pointer (some ⟨g, 0, none⟩), .int .i64 (s : Int), .slice A len cap] w fun e w' => e = .returned (.int .i64 1) ∧ w = w' := by
  have H1 := h.refS_ (s : Int)
  rw [refS_in h.st.hale hs] at H1
  replace H1 := Lib.hid H1
  have hd : decide ((len : Int) > 256) = true := by simp; omega
  clear h hs hl
  go_enter Try.func24, Try.ntmps24
  go_wp2_with fail
  refine H1.out.mono ?_
  rintro e w' ⟨rfl, rfl⟩
  go_wp2_with fail
  go_ret
  exact ⟨rfl, rfl⟩
set_option maxRecDepth 20000 in
set_option maxHeartbeats 1000000 in
theorem CS.write_yes (h : CS w0 w X g dg nn most t D L) (A : Option Addr) (len cap : Nat) (bs : List UInt8) (ht : t < 900000) (hl : bs.length = len) (h256 : len ≤ 256) (hby : Bytes w A bs) (hAX : ∀ p : Addr, A = some p → X p.block) {x : Fr} (hx : x ∈ L) :
    Calls Try.prog 24 #[.pointer (some ⟨g, 0, none⟩), .int .i64 (x.s : Int), .slice A len cap] w fun e w' =>
      ∃ D' L' y, e = .returned (.int .i64 0) ∧ Wrote most D L x.s (filled bs 256) D' L' y ∧ CS w0 w' X g dg nn most (t + 1) D' L' ∧ Keep X w w' := by
  have H1 := h.refS_ (x.s : Int)
  have hxn := (h.st.inn x hx).1
  rw [refS_in h.st.hale hxn] at H1
  replace H1 := Lib.hid H1
  have hst := h.st
  have hpos := h.pos
  obtain ⟨⟨mb, n, time, B, E, h1, h2, h5⟩, _, _⟩ := h
  have hlk := h1.cm.look_yes hx
  obtain ⟨c0, c1, c2, c3, _⟩ := h1.cm.head.told
  obtain ⟨v, hf, _⟩ := h1.cm.frm x hx
  have hap := h1.cm.apart x hx
  have hzx : zone E g mb B L (B x.s) := .inr (.inr (.inr ⟨x, hx, rfl⟩))
  obtain ⟨w1, w2, w3, w4, hmk, ⟨a0, af⟩, hw2, ⟨b1, bf⟩, hw3, d0, hcp, hH4, hF4, hN4, ho4⟩ := fillup w (B x.s) g dg mb most time x.pins x.used len cap v x.dirty A bs hf h1.cm.head (fun e => hap.1 e.symm) hl h256 hby (fun p e hp => (h1.far _ hzx).2 (by rw [← hp]; exact hAX p e))
  have hu := cuse_any g dg mb most time (B x.s) x.pins x.used _ true w4 hH4 hF4 (fun e => hap.1 e.symm) (by omega)
  have HU := Lib.hid hu
  have HF := Lib.hid (And.intro hN4 (And.intro ho4 (And.intro h1 (And.intro hst (And.intro hx (And.intro h2 (And.intro h5 (And.intro hpos (Blk.lt hf)))))))))
  have hd : decide ((len : Int) > 256) = false := by simp; omega
  have HLB := Lib.hid (filled_length bs 256 (by omega))
  have HT := Lib.hid ht
  obtain ⟨b, hb⟩ : ∃ b, filled bs 256 = b := ⟨_, rfl⟩
  rw [hb] at HF HLB
  rw [hb]
  obtain ⟨f, hff⟩ : ∃ f, B x.s = f := ⟨_, rfl⟩
  have HFF := Lib.hid hff
  rw [hff] at hlk a0 af hw2 b1 bf hw3 d0 HU
  clear h1 h2 h5 hst hpos hx hf hap hzx hH4 hF4 hN4 ho4 hu hby hAX hl hb hff hxn ht
  go_enter Try.func24, Try.ntmps24
  go_wp2_with fail
  refine H1.out.mono ?_
  rintro e w' ⟨rfl, rfl⟩
  go_wp2_with fail
  refine HU.out.mono ?_
  rintro e w5 ⟨rfl, k1, k2, k3, k4⟩
  have HR := Lib.hid (show ∃ D' L' y, Wrote most D L x.s b D' L' y ∧ CS w0 w5 X g dg nn most (t + 1) D' L' ∧ Keep X w w5 by
    obtain ⟨hN4, ho4, h1, hst, hx, h2, h5, hpos, hfl⟩ := HF.out
    have hap := h1.cm.apart x hx
    rw [HFF.out] at hap ho4 hfl
    have ho : Off (fun k => k = B x.s ∨ k = g) w w5 := by
      rw [HFF.out]
      exact (ho4.mono fun k _ e => .inl e).trans (k3.mono fun k _ e => e.symm)
    have hsz : w.heap.size < w4.heap.size := hN4.lt
    have hN5 : Blk w5 w.heap.size 5 (row8 b) := Blk.same hN4 (k3.block _ hsz (fun e => by have hgl := Blk.lt h1.cm.head; rcases e with e | e <;> omega))
    have hc := h1.cm.upd { x with b := b, dirty := true, used := time + 1 } (.slice (some ⟨w.heap.size, 0, none⟩) 256 256) ⟨x, hx, rfl⟩ ho k1 (by show Frm w5 (B x.s) _ _ _ _; rw [HFF.out]; exact k2)
      (Sec.of_blk hN5 (.inr ⟨Nat.le_refl _, by omega⟩) (by rw [HLB.out]; unfold maxLen; omega) 256 HLB.out) ⟨HLB.out, (h1.cm.secs x hx).2.2⟩
    obtain ⟨q1, q2⟩ := h1.turned (y := { x with b := b, dirty := true, used := time + 1 }) ⟨x, hx, rfl⟩ hc ho
    have hW : Wrote most D L x.s b D (updL { x with b := b, dirty := true, used := time + 1 } L) { x with b := b, dirty := true, used := time + 1 } := .inl ⟨x, hx, rfl, rfl, rfl, rfl⟩
    exact ⟨D, _, _, hW, ⟨⟨mb, n, time + 1, B, _, q1, by omega, by omega⟩, (hW.sta hst (hst.inn x hx).1 hpos HLB.out).1, hpos⟩, q2⟩)
  clear k1 k2 k3 k4 HU
  go_wp2_with fail
  go_ret
  obtain ⟨D', L', y, q⟩ := HR.out
  exact ⟨D', L', y, rfl, q⟩
set_option maxRecDepth 20000 in
set_option maxHeartbeats 1000000 in
theorem CS.write_no (h : CS w0 w X g dg nn most t D L) (A : Option Addr) (len cap : Nat) (bs : List UInt8) (hs : s < nn) (ht : t < 900000) (hl : bs.length = len) (h256 : len ≤ 256) (hby : Bytes w A bs) (hAX : ∀ p : Addr, A = some p → X p.block) (hno : ∀ x ∈ L, x.s ≠ s) :
    Calls Try.prog 24 #[.pointer (some ⟨g, 0, none⟩), .int .i64 (s : Int), .slice A len cap] w fun e w' =>
      (e = .returned (.int .i64 3) ∧ Stuck most L s ∧ CS w0 w' X g dg nn most t D L ∧ Keep X w w') ∨
      ∃ D' L' y, e = .returned (.int .i64 0) ∧ Wrote most D L s (filled bs 256) D' L' y ∧ CS w0 w' X g dg nn most (t + 1) D' L' ∧ Keep X w w' := by
  have H1 := h.refS_ (s : Int)
  rw [refS_in h.st.hale hs] at H1
  replace H1 := Lib.hid H1
  have hst := h.st
  have hpos := h.pos
  have hnn : s < 4096 := by have := hst.top; omega
  have hwf := WalkArith.wf_i64 (n := (s : Int)) (by omega)
  obtain ⟨⟨mb, n, time, B, E, h1, h2, h5⟩, _, _⟩ := h
  have hlk := h1.cm.look_no hwf (atS_none hno)
  obtain ⟨c0, c1, c2, c3, _⟩ := h1.cm.head.told
  have HRM := Lib.hid (room_any h1 hst (by omega))
  have hd : decide ((len : Int) > 256) = false := by simp; omega
  have HLB := Lib.hid (filled_length bs 256 (by omega))
  have HT := Lib.hid ht
  have HN := Lib.hid (And.intro h2 (And.intro h5 (And.intro hst (And.intro hpos (And.intro hs (And.intro hno (And.intro hl (And.intro h256 (And.intro hby (And.intro hAX (h1.run.lt)))))))))))
  clear h1 h2 h5 hst hpos hby hAX hl hs hno ht
  go_enter Try.func24, Try.ntmps24
  go_wp2_with fail
  refine H1.out.mono ?_
  rintro e w' ⟨rfl, rfl⟩
  go_wp2_with fail
  refine HRM.out.mono ?_
  rintro e w1 (⟨rfl, k1, k2, k3⟩ | ⟨D1, L1, rfl, hr, h2, hk⟩)
  · have HK := Lib.hid (show Stuck most L s ∧ CS w0 w1 X g dg nn most t D L ∧ Keep X w w1 from ⟨⟨k1, HN.out.2.2.2.2.2.1⟩, ⟨⟨mb, n, time, B, E, k2, HN.out.1, HN.out.2.1⟩, HN.out.2.2.1, HN.out.2.2.2.1⟩, k3⟩)
    clear k1 k2 k3 H1 HRM
    go_wp2_with fail
    go_ret
    exact .inl ⟨rfl, HK.out⟩
  · obtain ⟨hn5, ht5, hst, hpos, hs, hno, hl, h256, hby, hAX, hXl⟩ := HN.out
    obtain ⟨st1, hl1, hsub, _⟩ := hr.sta hst hpos
    have hno1 : ∀ x ∈ L1, x.s ≠ s := fun x hx => hno x (hsub x hx)
    have hXl1 := h2.run.lt
    have hby1 : Bytes w1 A bs := hby.same hk.size (fun p e hp => hk.at_ _ (hAX p e))
    have hb2 : Below w1.heap.size w1 (w1.alloc (.cells #[.slice none 0 0, .bool false, .int .i64 0, .int .u64 0] 70)) := (Below.refl _ _).alloc (Nat.le_refl _) _
    have hc2 := h2.cm.below hb2
    have hF2 : Frm (w1.alloc (.cells #[.slice none 0 0, .bool false, .int .i64 0, .int .u64 0] 70)) w1.heap.size (.slice none 0 0) false 0 0 := Blk.new w1 _ _
    obtain ⟨w3, hput, hm3, ho3⟩ := hc2.map.put (s : Int) w1.heap.size hwf (by have := HT.out; omega)
    have hgl := Blk.lt h2.cm.head
    have hml := h2.cm.map.lt
    have hs3 := ho3.size
    rw [World.size_alloc] at hs3
    have hF3 := Blk.same hF2 (ho3.block w1.heap.size (by rw [World.size_alloc]; omega) (fun e => by have e' : w1.heap.size = mb := e; omega))
    have hH3 := Blk.same hc2.head (ho3.block g (by rw [World.size_alloc]; omega) h2.cm.ne)
    have ho13 : Off (fun k => k = mb ∨ k = g) w1 w3 := (Off.of_new hb2 _).trans (ho3.mono fun k _ e => .inl e)
    have hAl : ∀ p : Addr, A = some p → p.block < w1.heap.size ∧ p.block ≠ mb ∧ p.block ≠ g := fun p e => by
      have hX := hAX p e
      exact ⟨hXl1 _ (.inl hX), fun e' => (h2.far mb (.inr (.inl rfl))).2 (e' ▸ hX), fun e' => (h2.far g (.inl rfl)).2 (e' ▸ hX)⟩
    have hby3 : Bytes w3 A bs := hby1.same (by omega) (fun p e hp => ho13.block _ hp (fun e' => by rcases e' with e' | e'; exact (hAl p e).2.1 e'; exact (hAl p e).2.2 e'))
    obtain ⟨w4, w5, w6, w7, hmk, ⟨a0, af⟩, hw5, ⟨b1, bf⟩, hw6, d0, hcp, hH7, hF7, hN7, ho7⟩ := fillup w3 w1.heap.size g dg mb most time 0 0 len cap (.slice none 0 0) false A bs hF3 hH3 (by omega) hl h256 hby3 (fun p e => by have := (hAl p e).1; omega)
    have hu := cuse_any g dg mb most time w1.heap.size 0 0 _ true w7 hH7 hF7 (by omega) (by have := HT.out; omega)
    have HU := Lib.hid hu
    have HF := Lib.hid (And.intro hr (And.intro h2 (And.intro hk (And.intro hno1 (And.intro hm3 (And.intro ho13 (And.intro hN7 (And.intro ho7 hs3))))))))
    obtain ⟨e0, e1, e2, e3, _⟩ := hc2.head.told
    clear hr h2 hk hno1 st1 hl1 hsub hn5 ht5 hst hpos hs hno hl hby hAX hXl hXl1 hby1 hb2 hc2 hF2 hm3 ho3 hgl hml hF3 hH3 ho13 hAl hby3 hH7 hF7 hN7 ho7 hu H1 HRM hs3 c0 c1 c2 c3 hlk
    go_wp2_with (first
      | (go_at_call 42; refine HU.out.mono ?_)
      | fail)
    rintro e w8 ⟨rfl, k1, k2, k3, k4⟩
    have HR := Lib.hid (show ∃ D' L' y, Wrote most D L s (filled bs 256) D' L' y ∧ CS w0 w8 X g dg nn most (t + 1) D' L' ∧ Keep X w w8 by
      obtain ⟨hn5, ht5, hst, hpos, hs, hno, hl, h256, hby, hAX, hXl⟩ := HN.out
      obtain ⟨hr, h2, hk, hno1, hm3, ho13, hN7, ho7, hs3⟩ := HF.out
      have hgl := Blk.lt h2.cm.head
      have hml := h2.cm.map.lt
      have hsz := hN7.lt
      have hfs : w1.heap.size < w8.heap.size := Blk.lt k2
      have hN8 : Blk w8 w3.heap.size 5 (row8 (filled bs 256)) := Blk.same hN7 (k3.block _ hsz (fun e => by rcases e with e | e <;> omega))
      have ho : Off (fun k => k = mb ∨ k = g) w1 w8 := ho13.then ((ho7.mono (G := fun k => k = w1.heap.size ∨ k = g ∨ k = w1.heap.size) fun k _ e => .inl e).trans (k3.mono fun k _ e => .inr e)) (fun j hj e => by rcases e with e | e | e <;> first | omega | exact .inr e)
      have hm8 := hm3.same (w' := w8) ((k3.block mb (by have := ho7.size; omega) (fun e => by rcases e with e | e; exact h2.cm.ne e.symm; omega)).trans (ho7.block mb (by omega) (by omega)))
      obtain ⟨E', q1, q2⟩ := h2.added ⟨s, filled bs 256, true, 0, time + 1⟩ w1.heap.size (.slice (some ⟨w3.heap.size, 0, none⟩) 256 256) hno1 k1 k2 (Sec.of_blk hN8 ⟨by omega, hN8.lt, by omega⟩ (by rw [HLB.out]; unfold maxLen; omega) 256 HLB.out) (Nat.le_refl _) ⟨HLB.out, by show s < _; omega, by show (0 : Nat) < _; omega⟩ hm8 ho
      have hW : Wrote most D L s (filled bs 256) D1 (L1 ++ [⟨s, filled bs 256, true, 0, time + 1⟩]) ⟨s, filled bs 256, true, 0, time + 1⟩ := .inr ⟨hno, L1, hr, rfl, rfl⟩
      exact ⟨D1, _, _, hW, ⟨⟨mb, n + 1, time + 1, _, E', q1, by omega, by omega⟩, (hW.sta hst hs hpos HLB.out).1, hpos⟩, hk.trans q2⟩)
    clear k1 k2 k3 k4 HU
    go_wp2_with fail
    go_ret
    obtain ⟨D', L', y, q⟩ := HR.out
    exact .inr ⟨D', L', y, rfl, q⟩
theorem CS.write (h : CS w0 w X g dg nn most t D L) (A : Option Addr) (len cap : Nat) (bs : List UInt8) (hs : s < nn) (ht : t < 900000) (hl : bs.length = len) (h256 : len ≤ 256) (hby : Bytes w A bs) (hAX : ∀ p : Addr, A = some p → X p.block) :
    Calls Try.prog 24 #[.pointer (some ⟨g, 0, none⟩), .int .i64 (s : Int), .slice A len cap] w fun e w' =>
      (e = .returned (.int .i64 3) ∧ Stuck most L s ∧ CS w0 w' X g dg nn most t D L ∧ Keep X w w') ∨
      ∃ D' L' y, e = .returned (.int .i64 0) ∧ Wrote most D L s (filled bs 256) D' L' y ∧ CS w0 w' X g dg nn most (t + 1) D' L' ∧ Keep X w w' := by
  by_cases hx : ∃ x ∈ L, x.s = s
  · obtain ⟨x, hx, rfl⟩ := hx
    exact (h.write_yes A len cap bs ht hl h256 hby hAX hx).mono fun e w' h => .inr h
  · exact h.write_no A len cap bs hs ht hl h256 hby hAX (fun x h e => hx ⟨x, h, e⟩)
end
end Go.Proofs.Ytiemfhncadcemaa
