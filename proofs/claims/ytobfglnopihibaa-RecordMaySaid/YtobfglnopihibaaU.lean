/- record.Read. -/
import Derived.Test.YtobfglnopihibaaT
import Derived.Deep.RegionLaw
namespace Go.Proofs.Ytobfglnopihibaa
open Go.RowKit Rcd

theorem results_cell_row2 {P : Program} {fn : Func} {p u : Tmp} {ty : TypeId} (h : fn.results = #[.cell p ty, .tmp u]) (tmps : Array Value) (w : World) (g : Nat) (t : TypeId) (cs : Array Value) (fr : Nat × Nat) (d : TypeDesc)
    (hp : tmps.getD p undef = .pointer (some ⟨g, 0, none⟩)) (hg : w.heap[g]? = some (.cells cs t fr))
    (hu : P.underlying ty = some d) (hd : (match d with | .struct _ | .array _ _ => true | _ => false) = true) (hi : (P.info? ty).map (·.size) = some cs.size) :
    (results fn tmps).run P w = .ok (.tuple #[.agg cs, tmps.getD u undef]) w := by
  have hp' : tmps[p]?.getD undef = .pointer (some ⟨g, 0, none⟩) := by simpa using hp
  simp [results, h, hp', asAddr, run_loadVar_row w g t ty cs fr d hg hu hd hi, Result.andThen]
theorem step_app {P : Program} {ops : Array Oper} {o : Oper} {a : Act} {w : World} {K : Act → World → Prop} {Q : Exit → Act → World → Prop} {E : Prop} (hg : o.guard = none) (s x : Operand) (t : TypeId)
    (hop : o.op = Op.call { callee := Callee.builtin Builtin.append, args := #[s, x], argTypes := #[t, t] }) (v xv v' : Value) (w' : World) (hs : a.eval s = v) (hx : a.eval x = xv)
    (hrun : (Builtin.append_ #[t, t] o.type #[v, xv]).run P w = .ok v' w') (hK : K (a.put o.dst v') w') : if Region.wanted o (yielded ops a.tmps) = true then Oper.wp P o a w K Q else E := by
  rw [if_pos (show Region.wanted o (yielded ops a.tmps) = true by simp [Region.wanted, hg])]
  unfold Oper.wp execOp
  simp only [hop, resolve, invoke, builtin, Sem.run_bind, Sem.run_pure, Result.andThen_ok, List.map_toArray, List.map_cons, List.map_nil, hs, hx, hrun]
  exact hK
theorem i64_wrap (n : Nat) (h : n < 18446744073709551616) : IntKind.i64.wrap (n : Int) = s64 n := by
  unfold s64
  split
  · exact IntWalk.i64_in _ (by omega)
  · rw [IntKind.wrap_i64]; omega

/-- The zero object. -/
abbrev zeroO : Array Value := #[.int .u8 0, .int .i64 0, .slice none 0 0, .string ⟨#[]⟩]
/-- Behind the bytes' two readings: the object that mayBe is asked about. -/
structure RdJ (w wx : World) (G : Nat) (o : Ob) : Prop where
  obj : ∃ A c, Blk wx G 24 #[bv o.k, .int .i64 o.tag, .slice A o.ws.length c, .string (str o.t)] ∧ o.ws.length ≤ c ∧ c ≤ maxLen ∧ Words wx A o.ws ∧ ∀ p : Addr, A = some p → w.heap.size ≤ p.block ∧ p.block < wx.heap.size ∧ p.block ≠ w.heap.size
  res : Blk wx w.heap.size 24 #[.int .u8 0, .int .i64 0, .slice none 0 0, .string ⟨#[]⟩]
  bel : Below w.heap.size w wx
  lo : w.heap.size < G
/-- Between the rounds. -/
structure RdL (w wr : World) (G kn tg : Nat) (sv : Value) (ws : List Wd) : Prop where
  words : WdsZ w.heap.size wr sv ws
  own : ∀ j, sv.ownBlock = some j → j ≠ G ∧ j ≠ w.heap.size
  obj : Blk wr G 24 #[.int .u8 (kn : Int), .int .i64 (tg : Int), sv, .string ⟨#[]⟩]
  res : Blk wr w.heap.size 24 #[.int .u8 0, .int .i64 0, .slice none 0 0, .string ⟨#[]⟩]
  bel : Below w.heap.size w wr
  lo : w.heap.size < G
theorem RdL.frame {w wr w2 : World} {G kn tg : Nat} {sv : Value} {ws : List Wd} (h : RdL w wr G kn tg sv ws) (hb : Below wr.heap.size wr w2) : RdL w w2 G kn tg sv ws :=
  ⟨h.words.below hb, h.own, h.obj.below hb h.obj.lt, h.res.below hb h.res.lt, h.bel.trans (hb.mono h.bel.size), h.lo⟩
/-- A word more. -/
theorem RdL.step {w wr w5 : World} {G kn tg : Nat} {sv v' : Value} {ws ws' : List Wd} (h : RdL w wr G kn tg sv ws) (hw : WdsZ w.heap.size w5 v' ws') (hg : wr.grownBy w5 sv.ownBlock) (ho : v'.ownBlock = sv.ownBlock ∨ v'.ownBlock = some wr.heap.size) :
    RdL w (w5.setCell ⟨G, 2, none⟩ v') G kn tg v' ws' := by
  have hGlt := h.obj.lt
  have hRlt := h.res.lt
  have hown : ∀ j, v'.ownBlock = some j → j ≠ G ∧ j ≠ w.heap.size := fun j hj => by
    rcases ho with e | e
    · rw [e] at hj; exact h.own j hj
    · rw [e] at hj; have := Option.some.inj hj; omega
  have hs : ∀ j, j ≠ G → (w5.setCell ⟨G, 2, none⟩ v').heap[j]? = w5.heap[j]? := fun j hj => Below.heap_setCell _ _ _ _ hj
  have hlo := h.lo
  refine ⟨hw.same fun k hk => hs k (hown k hk).1, hown, ?_, ?_, ?_, h.lo⟩
  · exact (h.obj.grown hg (fun e => (h.own G e.symm).1 rfl)).set_ 2 v'
  · exact (h.res.grown hg (fun e => (h.own _ e.symm).2 rfl)).far (p := ⟨G, 2, none⟩) (by show w.heap.size ≠ G; omega) v'
  · refine (h.bel.grown hg h.bel.size (fun j hj => (h.words.lt j hj).1)).setCell (p := ⟨G, 2, none⟩) (by show w.heap.size ≤ G; omega) _

theorem RdL.text {w wr : World} {G kn tg : Nat} {x0 : UInt8} (h : RdL w wr G kn tg (.slice none 0 0) []) (hx : bv x0 = .int .u8 (kn : Int)) (t : List UInt8) : RdJ w (wr.setCell ⟨G, 3, none⟩ (.string (str t))) G ⟨x0, tg, [], t⟩ := by
  have hlo := h.lo
  refine ⟨⟨none, 0, ?_, Nat.le_refl _, Nat.zero_le _, fun r x hx => by simp at hx, fun p e => by cases e⟩, h.res.far (p := ⟨G, 3, none⟩) (by show w.heap.size ≠ G; omega) _, h.bel.setCell (p := ⟨G, 3, none⟩) (by show w.heap.size ≤ G; omega) _, hlo⟩
  rw [hx]
  exact h.obj.set_ 3 _
theorem RdL.done {w wr : World} {G kn tg : Nat} {x0 : UInt8} {sv : Value} {ws : List Wd} (h : RdL w wr G kn tg sv ws) (hx : bv x0 = .int .u8 (kn : Int)) : RdJ w wr G ⟨x0, tg, ws, []⟩ := by
  obtain ⟨A, c, rfl, h1, h2, h3, h4⟩ := h.words.words
  refine ⟨⟨A, c, ?_, h1, h2, h3, fun p e => ⟨(h4 p e).1, (h4 p e).2, ?_⟩⟩, h.res, h.bel, h.lo⟩
  · rw [hx]; exact h.obj
  · subst e; exact (h.own p.block rfl).2

/-- What Read answers. -/
def RdP (b : List UInt8) (w : World) (e : Ending) (w' : World) : Prop :=
  (readO b = none ∧ e = .returned (.tuple #[.agg #[.int .u8 0, .int .i64 0, .slice none 0 0, .string ⟨#[]⟩], .int .i64 8]) ∧ Below w.heap.size w w') ∨
  ∃ o v, readO b = some o ∧ e = .returned (.tuple #[v, .int .i64 0]) ∧ ObV w.heap.size w' v o ∧ Below w.heap.size w w'

set_option maxRecDepth 20000 in
set_option maxHeartbeats 4000000 in
theorem read_any (A : Option Addr) (l cap : Nat) (b : List UInt8) (w : World) (hl : b.length = l) (hA : Bytes w A b) (hcap : l ≤ cap) (hcm : cap ≤ maxLen) :
    Calls Try.prog 18 #[.slice A l cap] w (RdP b w) := by
  unfold maxLen at hcm
  have HA := Lib.hid hA
  have HL := Lib.hid hl
  obtain ⟨w0, hw0⟩ : ∃ w0, w.alloc (.cells #[.int .u8 0, .int .i64 0, .slice none 0 0, .string ⟨#[]⟩] 24) = w0 := ⟨_, rfl⟩
  have hR0 : Blk w0 w.heap.size 24 #[.int .u8 0, .int .i64 0, .slice none 0 0, .string ⟨#[]⟩] := by rw [← hw0]; exact Blk.new _ _ _
  have hb0 : Below w.heap.size w w0 := by rw [← hw0]; exact (Below.refl _ _).alloc (Nat.le_refl _) _
  have HR0 := Lib.hid hR0
  have HB0 := Lib.hid hb0
  have r0 : w0.cell? ⟨w.heap.size, 0, none⟩ = some (.int .u8 0) := hR0.cell 0
  have r1 : w0.cell? ⟨w.heap.size, 1, none⟩ = some (.int .i64 0) := hR0.cell 1
  have r2 : w0.cell? ⟨w.heap.size, 2, none⟩ = some (.slice none 0 0) := hR0.cell 2
  have r3 : w0.cell? ⟨w.heap.size, 3, none⟩ = some (.string ⟨#[]⟩) := hR0.cell 3
  have f0 := hR0.frozen
  clear hA hl hR0 hb0
  go_enter Try.func18, Try.ntmps18
  by_cases h5 : l < 5
  · have hd : decide ((l : Int) < 5) = true := by simp; omega
    go_wp2_with fail
    have HB6 : Blk ((((w0.setCell ⟨w.heap.size, 0, none⟩ (.int .u8 0)).setCell ⟨w.heap.size, 1, none⟩ (.int .i64 0)).setCell ⟨w.heap.size, 2, none⟩ (.slice none 0 0)).setCell ⟨w.heap.size, 3, none⟩ (.string ⟨#[]⟩)) w.heap.size 24 #[.int .u8 0, .int .i64 0, .slice none 0 0, .string ⟨#[]⟩] :=
      (((HR0.out.set_ 0 _).set_ 1 _).set_ 2 _).set_ 3 _
    refine bodyPost_ret (results_cell_row2 rfl _ _ w.heap.size 24 _ (0, 0) _ rfl HB6 Try.underlying24 rfl (by kernel_rfl)) rfl ?_
    exact .inl ⟨by unfold readO fitsO; rw [HL.out]; simp; omega, rfl, (((HB0.out.setCell (p := ⟨w.heap.size, 0, none⟩) (Nat.le_refl _) _).setCell (p := ⟨w.heap.size, 1, none⟩) (Nat.le_refl _) _).setCell (p := ⟨w.heap.size, 2, none⟩) (Nat.le_refl _) _).setCell (p := ⟨w.heap.size, 3, none⟩) (Nat.le_refl _) _⟩
  have hd : decide ((l : Int) < 5) = false := by simp; omega
  by_cases h8 : 8192 < l
  · have hd8 : decide ((8192 : Int) < (l : Int)) = true := by simp; omega
    go_wp2_with fail
    have HB6 : Blk ((((w0.setCell ⟨w.heap.size, 0, none⟩ (.int .u8 0)).setCell ⟨w.heap.size, 1, none⟩ (.int .i64 0)).setCell ⟨w.heap.size, 2, none⟩ (.slice none 0 0)).setCell ⟨w.heap.size, 3, none⟩ (.string ⟨#[]⟩)) w.heap.size 24 #[.int .u8 0, .int .i64 0, .slice none 0 0, .string ⟨#[]⟩] :=
      (((HR0.out.set_ 0 _).set_ 1 _).set_ 2 _).set_ 3 _
    refine bodyPost_ret (results_cell_row2 rfl _ _ w.heap.size 24 _ (0, 0) _ rfl HB6 Try.underlying24 rfl (by kernel_rfl)) rfl ?_
    exact .inl ⟨by unfold readO fitsO; rw [HL.out]; simp; omega, rfl, (((HB0.out.setCell (p := ⟨w.heap.size, 0, none⟩) (Nat.le_refl _) _).setCell (p := ⟨w.heap.size, 1, none⟩) (Nat.le_refl _) _).setCell (p := ⟨w.heap.size, 2, none⟩) (Nat.le_refl _) _).setCell (p := ⟨w.heap.size, 3, none⟩) (Nat.le_refl _) _⟩
  have hd8 : decide ((8192 : Int) < (l : Int)) = false := by simp; omega
  have h1 := get_okL A l cap 1 2 b w0 HL.out rfl (by omega) (by unfold maxLen; omega) (HA.out.below HB0.out)
  have H1 := Lib.hid h1
  clear h1
  go_wp2_with fail
  refine H1.out.mono ?_
  rintro e w1 ⟨rfl, hb1⟩
  have HB1 := Lib.hid (HB0.out.trans (hb1.mono HB0.out.size))
  have HR1 := Lib.hid (HR0.out.below hb1 HR0.out.lt)
  have h2 := get_okL A l cap 3 2 b w1 HL.out rfl (by omega) (by unfold maxLen; omega) (HA.out.below HB1.out)
  have H2 := Lib.hid h2
  clear h2 H1 hb1 r0 r1 r2 r3 f0
  go_wp2_with fail
  refine H2.out.mono ?_
  rintro e w2 ⟨rfl, hb2⟩
  have HB2 := Lib.hid (HB1.out.trans (hb2.mono HB1.out.size))
  have HR2 := Lib.hid (HR1.out.below hb2 HR1.out.lt)
  clear H2 hb2 HR1 HR0
  obtain ⟨tg, htg⟩ : ∃ tg, leN (fieldOf b 1 2) = tg := ⟨_, rfl⟩
  obtain ⟨nn, hnn⟩ : ∃ nn, leN (fieldOf b 3 2) = nn := ⟨_, rfl⟩
  rw [htg, hnn]
  have HTG := Lib.hid htg
  have HNN := Lib.hid hnn
  have htb : tg < 65536 := by have := leN_lt (fieldOf b 1 2); rw [htg, show (fieldOf b 1 2).length = 2 by have := HL.out; unfold fieldOf; simp; omega] at this; omega
  have hnb : nn < 65536 := by have := leN_lt (fieldOf b 3 2); rw [hnn, show (fieldOf b 3 2).length = 2 by have := HL.out; unfold fieldOf; simp; omega] at this; omega
  obtain ⟨x0, br, hbr⟩ : ∃ x r, b = x :: r := by
    match hb' : b, HL.out with
    | [], h => simp at h; omega
    | x :: r, _ => exact ⟨x, r, rfl⟩
  obtain ⟨bb, off, rfl, hblt, hcb⟩ := HA.out.at_ (k := 0) (by rw [HL.out]; omega)
  obtain ⟨kn, hkn⟩ : ∃ kn, x0.toNat = kn := ⟨_, rfl⟩
  have HK := Lib.hid hkn
  have cb : w2.cell? ⟨bb, off, none⟩ = some (.int .u8 (kn : Int)) := by
    have := hcb 0 x0 (by rw [hbr]; rfl)
    rw [hkn] at this
    exact (HB2.out.cell (p := ⟨bb, off, none⟩) hblt).trans this
  have HBR := Lib.hid hbr
  have hwt : IntKind.i64.wrap (tg : Int) = tg := IntWalk.i64_in _ (by omega)
  clear htg hnn hkn hcb hbr
  have hwn : IntKind.i64.wrap (nn : Int) = nn := IntWalk.i64_in _ (by omega)
  have hc5 : (5 : Int) ≤ (l : Int) := by omega
  have hc6 : (l : Int) ≤ (cap : Int) := by omega
  go_upto_region 6 with fail
  obtain ⟨w3, hw3⟩ : ∃ w3, w2.alloc (.cells #[.int .u8 (kn : Int), .int .i64 (tg : Int), .slice none 0 0, .string ⟨#[]⟩] 24) = w3 := ⟨_, rfl⟩
  rw [hw3]
  have hq5 : cap - 5 + 5 = cap := by omega
  go_cut [9, 10] from 39 to 42 (fun p q wx => p = .int .i64 (nn : Int) ∧ ∃ A5, q = .slice A5 (l - 5) (cap - 5) ∧ Hid (Below w3.heap.size w3 wx ∧ ∀ W, Bytes W (some ⟨bb, off, none⟩) b → Bytes W A5 (b.drop 5)))
  case first =>
    by_cases hcc : cap = 5
    · subst hcc
      obtain rfl : l = 5 := by omega
      go_quiet (fail)
      go_wp2_with fail
      go_meet
      exact ⟨rfl, _, rfl, Lib.hid ⟨drewN_below w3 _, fun W _ => by rw [List.drop_eq_nil_of_le (by rw [HL.out]; exact Nat.le_refl _)]; exact Bytes.nil _ _⟩⟩
    · go_quiet (fail)
      go_wp2_with fail
      go_meet
      refine ⟨rfl, _, rfl, Lib.hid ⟨drewN_below w3 _, fun W hW k c hk => ?_⟩⟩
      rw [List.getElem?_drop] at hk
      obtain ⟨b', off', e, h1, h2⟩ := hW _ _ hk
      cases e
      exact ⟨bb, off + 5, rfl, h1, by rw [Nat.add_assoc]; exact h2⟩
  case rest =>
    obtain ⟨rfl, A5, rfl, hcc⟩ := hcut
    obtain ⟨w4, rfl⟩ : ∃ w4, w4 = wc := ⟨_, rfl⟩
    have hA5 := hcc.out.2
    have hb4 := hcc.out.1
    have hz3 : w3.heap.size = w2.heap.size + 1 := by rw [← hw3]; simp
    have hb23 : Below w2.heap.size w2 w3 := by rw [← hw3]; exact (Below.refl _ _).alloc (Nat.le_refl _) _
    have hO3 : Blk w3 w2.heap.size 24 #[.int .u8 (kn : Int), .int .i64 (tg : Int), .slice none 0 0, .string ⟨#[]⟩] := by rw [← hw3]; exact Blk.new _ _ _
    have hO4 := hO3.below hb4 hO3.lt
    have hb24 : Below w2.heap.size w2 w4 := hb23.trans (hb4.mono (by omega))
    have hR4 := HR2.out.below hb24 HR2.out.lt
    have hbw4 := HB2.out.trans (hb24.mono HB2.out.size)
    have hlo : w.heap.size < w2.heap.size := HR2.out.lt
    have HL4 : Hid (RdL w w4 w2.heap.size kn tg (.slice none 0 0) []) := Lib.hid ⟨WdsZ.nil _ _, fun j hj => (by cases hj), hO4, hR4, hbw4, hlo⟩
    have HA5 : Hid (∀ W, Below w.heap.size w W → Bytes W A5 (b.drop 5)) := Lib.hid (fun W hW => hA5 W (HA.out.below hW))
    obtain ⟨m, hm⟩ : ∃ m, l - 5 = m := ⟨_, rfl⟩
    obtain ⟨c5, hc5'⟩ : ∃ c5, cap - 5 = c5 := ⟨_, rfl⟩
    rw [hm, hc5']
    have HM : Hid (l = m + 5) := Lib.hid (by omega)
    have hmc : m ≤ c5 := by omega
    have hm8 : m ≤ 8187 := by omega
    have hcm' : c5 ≤ 9223372036854775807 := by omega
    have HDL : Hid ((b.drop 5).length = m) := Lib.hid (by rw [List.length_drop, HL.out]; omega)
    have hk5 : x0 = 5 ↔ kn = 5 := by rw [← HK.out]; exact ⟨fun e => by rw [e]; rfl, fun e => UInt8.toNat_inj.1 (by rw [e]; rfl)⟩
    have hg0 : b.getD 0 0 = x0 := by rw [HBR.out]; rfl
    have HN5 : Hid (needO b = if kn = 5 then nn else nn * 9) := Lib.hid (by unfold needO; rw [hg0, HNN.out]; simp only [hk5])
    have HLO : Hid (lenO b = if kn = 5 then ⟨x0, tg, [], b.drop 5⟩ else ⟨x0, tg, wordsOf (b.drop 5) (m / 9), []⟩) := Lib.hid (by unfold lenO; rw [hg0, HTG.out, HL.out, hm]; simp only [hk5])
    have HNO : Hid (m ≠ needO b → readO b = none) := Lib.hid (fun h => by unfold readO fitsO; rw [HL.out, hm]; simp [h])
    have HIF : Hid (m = needO b → readO b = if mayB (lenO b) then some (lenO b) else none) := Lib.hid (fun h => by
      have e1 : decide (5 ≤ b.length) = true := by rw [HL.out]; simp; omega
      have e2 : decide (b.length ≤ 8192) = true := by rw [HL.out]; simp; omega
      have e3 : decide (b.length - 5 = needO b) = true := by rw [HL.out, hm]; simpa using h
      unfold readO fitsO
      rw [e1, e2, e3]
      cases mayB (lenO b) <;> rfl)
    have hsl := fun W hW => run_str8L W A5 m c5 (b.drop 5) HDL.out (HA5.out W hW)
    have HBX := Lib.hid (show bv x0 = .int .u8 (kn : Int) by rw [← HK.out]; rfl)
    clear hA5 hb4 hz3 hb23 hO3 hb24 hm hc5' hk5 hg0 hcc hw3 hc5 hc6 hcm hcap hq5 h5 h8 hd hd8
    have r0 : w4.cell? ⟨w.heap.size, 0, none⟩ = some (.int .u8 0) := hR4.cell 0
    have r1 : w4.cell? ⟨w.heap.size, 1, none⟩ = some (.int .i64 0) := hR4.cell 1
    have r2 : w4.cell? ⟨w.heap.size, 2, none⟩ = some (.slice none 0 0) := hR4.cell 2
    have r3 : w4.cell? ⟨w.heap.size, 3, none⟩ = some (.string ⟨#[]⟩) := hR4.cell 3
    have fR := hR4.frozen
    have fO := hO4.frozen
    have g0 : w4.cell? ⟨w2.heap.size, 0, none⟩ = some (.int .u8 (kn : Int)) := hO4.cell 0
    have g2 : w4.cell? ⟨w2.heap.size, 2, none⟩ = some (.slice none 0 0) := hO4.cell 2
    have g3 : w4.cell? ⟨w2.heap.size, 3, none⟩ = some (.string ⟨#[]⟩) := hO4.cell 3
    go_upto_if 45 with fail
    go_cut [11, 12, 13, 45] from 46 to 85 (fun p q r s wx => Hid (RdJ w wx w2.heap.size (lenO b) ∧ m = needO b))
    case first =>
      by_cases hk : kn = 5
      · subst hk
        by_cases hmn : m = nn
        · subst hmn
          have hss := hsl w4 hbw4
          go_wp2_with fail
          go_meet
          have hlo5 := HLO.out
          simp only [if_true] at hlo5
          rw [hlo5]
          exact Lib.hid ⟨HL4.out.text HBX.out _, by have := HN5.out; simpa using this.symm⟩
        · have hne : ((m : Int) != (nn : Int)) = true := by simp; omega
          go_wp2_with fail
          have HB6 : Blk ((((w4.setCell ⟨w.heap.size, 0, none⟩ (.int .u8 0)).setCell ⟨w.heap.size, 1, none⟩ (.int .i64 0)).setCell ⟨w.heap.size, 2, none⟩ (.slice none 0 0)).setCell ⟨w.heap.size, 3, none⟩ (.string ⟨#[]⟩)) w.heap.size 24 #[.int .u8 0, .int .i64 0, .slice none 0 0, .string ⟨#[]⟩] :=
            (((hR4.set_ 0 _).set_ 1 _).set_ 2 _).set_ 3 _
          refine bodyPost_ret (results_cell_row2 rfl _ _ w.heap.size 24 _ (0, 0) _ rfl HB6 Try.underlying24 rfl (by kernel_rfl)) rfl ?_
          exact .inl ⟨HNO.out (by rw [HN5.out]; simpa using hmn), rfl, (((hbw4.setCell (p := ⟨w.heap.size, 0, none⟩) (Nat.le_refl _) _).setCell (p := ⟨w.heap.size, 1, none⟩) (Nat.le_refl _) _).setCell (p := ⟨w.heap.size, 2, none⟩) (Nat.le_refl _) _).setCell (p := ⟨w.heap.size, 3, none⟩) (Nat.le_refl _) _⟩
      · have hk5 : ((kn : Int) == 5) = false := by simp; omega
        by_cases hmn : m = nn * 9
        · have hne : ((m : Int) != (nn : Int) * 9) = false := by simp; omega
          have hlon : lenO b = ⟨x0, tg, wordsOf (b.drop 5) nn, []⟩ := by rw [HLO.out, if_neg hk, show m / 9 = nn by omega]
          have HLN := Lib.hid hlon
          have HMN := Lib.hid hmn
          clear hmn hlon r0 r1 r2 r3 fR fO g0 g2 g3 hR4 hO4 hbw4 cb
          go_wp2_with fail
          rw [hk5]
          go_loopw [11, 12, 13, 61] (fun p q r iv wr => ∃ (i : Nat) (sv : Value), i ≤ nn ∧ iv = .int .i64 (i : Int) ∧ Hid (RdL w wr w2.heap.size kn tg sv (wordsOf (b.drop 5) i))) (fun _ _ _ iv _ => nn - (intOf iv).toNat)
          case atStart => exact ⟨0, _, Nat.zero_le _, rfl, HL4⟩
          case round =>
            clear HL4
            obtain ⟨i, sv, hi, rfl, hI⟩ := hrel
            by_cases hlt : i < nn
            · have hd : decide ((i : Int) < (nn : Int)) = true := by simpa using hlt
              have h1 := get_okL A5 m c5 (i * 9 + 1) 8 (b.drop 5) wr HDL.out rfl (by have := HMN.out; omega) (by unfold maxLen; omega) (HA5.out wr hI.out.bel)
              have e1 : ((i * 9 + 1 : Nat) : Int) = (i : Int) * 9 + 1 := by omega
              rw [e1] at h1
              have H1 := Lib.hid h1
              clear h1
              go_wp2_with fail
              refine H1.out.mono ?_
              rintro e w5 ⟨rfl, hb5⟩
              obtain ⟨num, hnum⟩ : ∃ num, leN (fieldOf (b.drop 5) (i * 9 + 1) 8) = num := ⟨_, rfl⟩
              have hnlt : num < 18446744073709551616 := by
                have h1 := leN_lt (fieldOf (b.drop 5) (i * 9 + 1) 8)
                have h2 := HDL.out
                have h3 := HMN.out
                rw [hnum, show (fieldOf (b.drop 5) (i * 9 + 1) 8).length = 8 by unfold fieldOf; rw [List.length_take, List.length_drop, h2]; omega] at h1
                exact h1
              rw [hnum]
              have hi5 := hI.out.frame hb5
              have hmi : i * 9 < m := by have := HMN.out; omega
              obtain ⟨b5, o5, rfl, hblt5, hcell5⟩ := (HA5.out w5 hi5.bel).at_ (k := i * 9) (by rw [HDL.out]; exact hmi)
              obtain ⟨u, hu⟩ : ∃ u, (b.drop 5)[i * 9]? = some u := ⟨_, List.getElem?_eq_getElem (by rw [HDL.out]; exact hmi)⟩
              obtain ⟨un, hun⟩ : ∃ un, u.toNat = un := ⟨_, rfl⟩
              have k5 : w5.cell? ⟨b5, o5 + i * 9, none⟩ = some (.int .u8 (un : Int)) := by rw [← hun]; exact hcell5 _ u hu
              obtain ⟨z, hz⟩ : ∃ z, s64 num = z := ⟨_, rfl⟩
              have hwz : IntKind.i64.wrap (num : Int) = z := by rw [i64_wrap num hnlt, hz]
              have hzr := s64_in num hnlt
              rw [hz] at hzr
              have hx : wordAt (b.drop 5) i = ⟨u, z⟩ := by unfold wordAt; rw [hnum, hz]; simp [List.getD, hu]
              obtain ⟨As, cs, hsv, hs1, hs2, _, _⟩ := hi5.words.words
              rw [wordsOf_len] at hsv hs1
              subst hsv
              have hB6 : Below w5.heap.size w5 (w5.alloc (.cells #[.int .u8 (un : Int), .int .i64 z] 44)).drew := ((Below.refl _ _).alloc (Nat.le_refl _) _).drew
              have hi6 := hi5.frame hB6
              have hsw : Words (w5.alloc (.cells #[.int .u8 (un : Int), .int .i64 z] 44)).drew (some ⟨w5.heap.size, 0, none⟩) [⟨u, z⟩] := fun r x hr => by
                rcases r with _ | r
                · cases hr
                  have hB := Blk.new w5 44 #[.int .u8 (un : Int), .int .i64 z]
                  refine ⟨w5.heap.size, 0, rfl, Nat.lt_of_lt_of_le (Nat.lt_succ_self _) (by show _ ≤ (w5.alloc _).heap.size; rw [World.size_alloc]; exact Nat.le_refl _), ?_, hB.cell 1, hzr⟩
                  have h0 := hB.cell 0
                  rw [← hun] at h0
                  rw [← hun]
                  exact h0
                · simp at hr
              obtain ⟨v', w7, hrun, hw7, hg7, ho7⟩ := hi6.words.push (some ⟨w5.heap.size, 0, none⟩) 1 1 [⟨u, z⟩] rfl hsw hi6.bel.size (by rw [wordsOf_len]; omega)
              rw [← hx, ← wordsOf_succ] at hw7
              have HI7 := Lib.hid (hi6.step hw7 hg7 ho7)
              have hO7 := hi6.obj.grown hg7 (fun e => (hi6.own _ e.symm).1 rfl)
              have k7 : w7.cell? ⟨w2.heap.size, 2, none⟩ = some (.slice As i cs) := hO7.cell 2
              have f7 := hO7.frozen 2
              have k6 : w5.cell? ⟨w2.heap.size, 2, none⟩ = some (.slice As i cs) := hi5.obj.cell 2
              have k62 : (w5.alloc (.cells #[.int .u8 (un : Int), .int .i64 z] 44)).cell? ⟨w2.heap.size, 2, none⟩ = some (.slice As i cs) := Lib.cell?_alloc_some _ k6
              obtain ⟨A7, c7, hv7, _, _⟩ := hw7.words
              rw [wordsOf_len] at hv7
              subst hv7
              have HRUN := Lib.hid hrun
              have q0 : IntKind.i64.wrap ((i : Int) * 9) = (i : Int) * 9 := IntWalk.i64_in _ (by omega)
              have q1 : (0 : Int) ≤ (i : Int) * 9 := by omega
              have q2 : ((i : Int) * 9).toNat = i * 9 := by omega
              have q3 : (i : Int) * 9 < (m : Int) := by omega
              clear hi5 hB6 hi6 hsw hrun hw7 hg7 ho7 hO7 hx hz hzr hun hu hcell5 hnum hI hb5 H1 hnlt hsl
              go_wp2_with fail
              go_region_law (refine step_app rfl (.tmp 73) (.tmp 82) 22 rfl _ _ _ _ (by simp [Act.eval]) (by simp [Act.eval]) HRUN.out ?_)
              all_goals
                go_wp2_with fail
                go_roundw
                case rel => exact ⟨i + 1, _, by omega, by go_num, HI7⟩
                case measure => simp [intOf]; omega
            · obtain rfl : nn = i := by omega
              have hd : decide ((nn : Int) < (nn : Int)) = false := by simp
              have HD := Lib.hid (hI.out.done HBX.out)
              go_wp2_with fail
              go_meet
              rw [HLN.out]
              exact Lib.hid ⟨HD.out, by have := HN5.out; have := HMN.out; rw [if_neg hk] at *; omega⟩
        · have hne : ((m : Int) != (nn : Int) * 9) = true := by simp; omega
          go_wp2_with fail
          have HB6 : Blk ((((w4.setCell ⟨w.heap.size, 0, none⟩ (.int .u8 0)).setCell ⟨w.heap.size, 1, none⟩ (.int .i64 0)).setCell ⟨w.heap.size, 2, none⟩ (.slice none 0 0)).setCell ⟨w.heap.size, 3, none⟩ (.string ⟨#[]⟩)) w.heap.size 24 #[.int .u8 0, .int .i64 0, .slice none 0 0, .string ⟨#[]⟩] :=
            (((hR4.set_ 0 _).set_ 1 _).set_ 2 _).set_ 3 _
          refine bodyPost_ret (results_cell_row2 rfl _ _ w.heap.size 24 _ (0, 0) _ rfl HB6 Try.underlying24 rfl (by kernel_rfl)) rfl ?_
          exact .inl ⟨HNO.out (by rw [HN5.out, if_neg hk]; exact hmn), rfl, (((hbw4.setCell (p := ⟨w.heap.size, 0, none⟩) (Nat.le_refl _) _).setCell (p := ⟨w.heap.size, 1, none⟩) (Nat.le_refl _) _).setCell (p := ⟨w.heap.size, 2, none⟩) (Nat.le_refl _) _).setCell (p := ⟨w.heap.size, 3, none⟩) (Nat.le_refl _) _⟩
    case rest =>
      obtain ⟨w6, rfl⟩ : ∃ w6, w6 = wc := ⟨_, rfl⟩
      have hJ := hcut.out.1
      have hlw : (lenO b).ws.length ≤ 8187 := by
        rw [HLO.out]
        split
        · simp
        · simp [wordsOf_len]; omega
      have HI2 := Lib.hid (HIF.out hcut.out.2)
      clear r0 r1 r2 r3 fR fO g0 g2 g3 hR4 hO4 hbw4 hcut HL4 hsl cb
      obtain ⟨o, ho⟩ : ∃ o, lenO b = o := ⟨_, rfl⟩
      rw [ho] at hJ hlw HI2
      clear ho HLO HIF
      obtain ⟨ko, tago, ws, t⟩ := o
      dsimp only at hlw
      obtain ⟨⟨Ao, co, hobj, hc1, hc2, hws, hAo⟩, hres, hbel, _⟩ := hJ
      dsimp only at hobj hc1 hws
      obtain ⟨n, hn⟩ : ∃ n, ws.length = n := ⟨_, rfl⟩
      rw [hn] at hobj hc1 hlw
      have hmay := maybe_any ko tago Ao n co t ws w6 hn hws (by omega)
      obtain ⟨q, hq⟩ : ∃ q, ko.toNat = q := ⟨_, rfl⟩
      have hbv : bv ko = .int .u8 (q : Int) := by rw [← hq]; rfl
      have HBV := Lib.hid hbv
      rw [hbv] at hobj hmay
      obtain ⟨mb, hmb⟩ : ∃ mb, mayB ⟨ko, tago, ws, t⟩ = mb := ⟨_, rfl⟩
      rw [hmb] at hmay HI2
      have HMAY := Lib.hid hmay
      have g0 : w6.cell? ⟨w2.heap.size, 0, none⟩ = some (.int .u8 (q : Int)) := hobj.cell 0
      have g1 : w6.cell? ⟨w2.heap.size, 1, none⟩ = some (.int .i64 tago) := hobj.cell 1
      have g2 : w6.cell? ⟨w2.heap.size, 2, none⟩ = some (.slice Ao n co) := hobj.cell 2
      have g3 : w6.cell? ⟨w2.heap.size, 3, none⟩ = some (.string (str t)) := hobj.cell 3
      have HOBJ := Lib.hid hobj
      have HRES := Lib.hid hres
      have HBEL := Lib.hid hbel
      have HV : Hid (n ≤ co ∧ co ≤ maxLen ∧ Words w6 Ao ws ∧ (∀ p : Addr, Ao = some p → w.heap.size ≤ p.block ∧ p.block < w6.heap.size ∧ p.block ≠ w.heap.size) ∧ ws.length = n) := Lib.hid ⟨hc1, hc2, hws, hAo, hn⟩
      clear hobj hres hbel hws hAo hc1 hc2 hn hmay hbv hmb
      go_wp2_with fail
      refine HMAY.out.mono ?_
      rintro e w7 ⟨rfl, hb7⟩
      have hR7 := HRES.out.below hb7 HRES.out.lt
      have hO7 := HOBJ.out.below hb7 HOBJ.out.lt
      have HB7 := Lib.hid (HBEL.out.trans (hb7.mono HBEL.out.size))
      have r0 : w7.cell? ⟨w.heap.size, 0, none⟩ = some (.int .u8 0) := hR7.cell 0
      have r1 : w7.cell? ⟨w.heap.size, 1, none⟩ = some (.int .i64 0) := hR7.cell 1
      have r2 : w7.cell? ⟨w.heap.size, 2, none⟩ = some (.slice none 0 0) := hR7.cell 2
      have r3 : w7.cell? ⟨w.heap.size, 3, none⟩ = some (.string ⟨#[]⟩) := hR7.cell 3
      have fR := hR7.frozen
      have HR7 := Lib.hid hR7
      cases mb
      · clear hO7 g0 g1 g2 g3 hb7 hR7
        go_wp2_with fail
        have HB6 : Blk ((((w7.setCell ⟨w.heap.size, 0, none⟩ (.int .u8 0)).setCell ⟨w.heap.size, 1, none⟩ (.int .i64 0)).setCell ⟨w.heap.size, 2, none⟩ (.slice none 0 0)).setCell ⟨w.heap.size, 3, none⟩ (.string ⟨#[]⟩)) w.heap.size 24 #[.int .u8 0, .int .i64 0, .slice none 0 0, .string ⟨#[]⟩] :=
          (((HR7.out.set_ 0 _).set_ 1 _).set_ 2 _).set_ 3 _
        refine bodyPost_ret (results_cell_row2 rfl _ _ w.heap.size 24 _ (0, 0) _ rfl HB6 Try.underlying24 rfl (by kernel_rfl)) rfl ?_
        exact .inl ⟨by rw [HI2.out]; rfl, rfl, (((HB7.out.setCell (p := ⟨w.heap.size, 0, none⟩) (Nat.le_refl _) _).setCell (p := ⟨w.heap.size, 1, none⟩) (Nat.le_refl _) _).setCell (p := ⟨w.heap.size, 2, none⟩) (Nat.le_refl _) _).setCell (p := ⟨w.heap.size, 3, none⟩) (Nat.le_refl _) _⟩
      · have k0 : w7.cell? ⟨w2.heap.size, 0, none⟩ = some (.int .u8 (q : Int)) := hO7.cell 0
        have k1 : w7.cell? ⟨w2.heap.size, 1, none⟩ = some (.int .i64 tago) := hO7.cell 1
        have k2 : w7.cell? ⟨w2.heap.size, 2, none⟩ = some (.slice Ao n co) := hO7.cell 2
        have k3 : w7.cell? ⟨w2.heap.size, 3, none⟩ = some (.string (str t)) := hO7.cell 3
        have HB77 := Lib.hid hb7
        clear hO7 g0 g1 g2 g3 hb7 hR7
        go_wp2_with fail
        have HB6 : Blk ((((w7.setCell ⟨w.heap.size, 0, none⟩ (.int .u8 (q : Int))).setCell ⟨w.heap.size, 1, none⟩ (.int .i64 tago)).setCell ⟨w.heap.size, 2, none⟩ (.slice Ao n co)).setCell ⟨w.heap.size, 3, none⟩ (.string (str t))) w.heap.size 24 #[.int .u8 (q : Int), .int .i64 tago, .slice Ao n co, .string (str t)] :=
          (((HR7.out.set_ 0 _).set_ 1 _).set_ 2 _).set_ 3 _
        refine bodyPost_ret (results_cell_row2 rfl _ _ w.heap.size 24 _ (0, 0) _ rfl HB6 Try.underlying24 rfl (by kernel_rfl)) rfl ?_
        obtain ⟨v1, v2, v3, v4, v5⟩ := HV.out
        refine .inr ⟨⟨ko, tago, ws, t⟩, _, HI2.out, rfl, ⟨Ao, co, ?_, by rw [v5]; exact v1, v2, fun r x hx => ?_, fun p e => ?_⟩, (((HB7.out.setCell (p := ⟨w.heap.size, 0, none⟩) (Nat.le_refl _) _).setCell (p := ⟨w.heap.size, 1, none⟩) (Nat.le_refl _) _).setCell (p := ⟨w.heap.size, 2, none⟩) (Nat.le_refl _) _).setCell (p := ⟨w.heap.size, 3, none⟩) (Nat.le_refl _) _⟩
        · dsimp only; rw [HBV.out, v5]
        · obtain ⟨bq, oq, e, hlt, z0, z1, zr⟩ := v3.below HB77.out r x hx
          have hne := (v4 _ e).2.2
          have hs : ((((w7.setCell ⟨w.heap.size, 0, none⟩ (.int .u8 (q : Int))).setCell ⟨w.heap.size, 1, none⟩ (.int .i64 tago)).setCell ⟨w.heap.size, 2, none⟩ (.slice Ao n co)).setCell ⟨w.heap.size, 3, none⟩ (.string (str t))).heap[bq]? = w7.heap[bq]? := by
            rw [Below.heap_setCell _ _ _ _ hne, Below.heap_setCell _ _ _ _ hne, Below.heap_setCell _ _ _ _ hne, Below.heap_setCell _ _ _ _ hne]
          exact ⟨bq, oq, e, by simp only [World.setCell, Array.size_modify]; exact hlt, (World.cell?_of_block (a := ⟨bq, oq + r * 2, none⟩) hs).trans z0, (World.cell?_of_block (a := ⟨bq, oq + r * 2 + 1, none⟩) hs).trans z1, zr⟩
        · have := v4 p e
          exact ⟨this.1, by simp only [World.setCell, Array.size_modify]; exact Nat.lt_of_lt_of_le this.2.1 HB77.out.size⟩
end Go.Proofs.Ytobfglnopihibaa
