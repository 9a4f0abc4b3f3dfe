/- Contracts, part BO. -/
import Derived.Test.YtimkiifcmegfeaaBP
import Derived.Test.YtimkiifcmegfeaaBA
import Derived.Lib.AppendStr
import Derived.Laws.EntriesVeiled
/- code: Write's closures. -/
namespace Go.Proofs.Ytimkiifcmegfeaa
open Go.RowKit
set_option linter.unusedVariables false
set_option linter.unusedSimpArgs false
attribute [local go_sem] Oper.semAt_some
/-- A row of bytes that grows, and the cell that holds it. -/
structure WB (w : World) (pb B : Nat) (v : Value) (bs : List UInt8) : Prop where
  blk : Blk w pb 26 #[v]
  own : w.ownsRow B 5 1 v bs.length (bs.map bv)
  lt : pb < B ∧ B ≤ w.heap.size
/-- What a call that makes it grow turns. -/
def WR (pb : Nat) (v : Value) (k : Nat) : Prop := k = pb ∨ v.ownBlock = some k
def WPost (pb B : Nat) (v : Value) (bs : List UInt8) (w w' : World) : Prop := ∃ v', WB w' pb B v' bs ∧ Off (WR pb v) w w' ∧ Grew w v v'
theorem WB.bel {w w' : World} {pb B : Nat} {v : Value} {bs : List UInt8} (h : WB w pb B v bs) (hb : Below w.heap.size w w') : WB w' pb B v bs :=
  ⟨h.blk.below hb h.blk.lt, own_below h.own hb, h.lt.1, Nat.le_trans h.lt.2 hb.size⟩
theorem WB.wr_ge {w : World} {pb B : Nat} {v : Value} {bs : List UInt8} (h : WB w pb B v bs) {k : Nat} (hk : WR pb v k) : k < w.heap.size ∧ pb ≤ k := by
  rcases hk with rfl | hk
  · exact ⟨h.blk.lt, Nat.le_refl _⟩
  · have := h.own.lt k hk; have := h.lt; omega
theorem WPost.trans {pb B : Nat} {v : Value} {bs bs2 : List UInt8} {w w1 w2 : World} {v1 : Value} (h : WB w1 pb B v1 bs ∧ Off (WR pb v) w w1 ∧ Grew w v v1) (h2 : WPost pb B v1 bs2 w1 w2) : WPost pb B v bs2 w w2 := by
  obtain ⟨v', k1, k2, k3⟩ := h2
  refine ⟨v', k1, h.2.1.then k2 ?_, fun k hk => ?_⟩
  · intro j hj e
    rcases e with rfl | e
    · exact .inl rfl
    · rcases h.2.2 j e with e | e
      · exact .inr e
      · omega
  · rcases k3 k hk with e | e
    · exact h.2.2 k e
    · exact .inr (Nat.le_trans h.2.1.size e)
theorem app_own (w : World) (B : Nat) (v : Value) (n : Nat) (xs : List UInt8) (hown : w.ownsRow B 5 1 v n (xs.map bv)) (g len c : Nat) (bs : List UInt8) (hlen : bs.length = len) (hA : Bytes w (some ⟨g, 0, none⟩) bs)
    (hb : n + len ≤ 140737488355328) (hbase : B ≤ w.heap.size) :
    ∃ v' w', (Builtin.append_ #[26, 26] 26 #[v, .slice (some ⟨g, 0, none⟩) len c]).run Try.prog w = .ok v' w' ∧ w'.ownsRow B 5 1 v' (n + len) ((xs ++ bs).map bv) ∧ w.grownBy w' v.ownBlock ∧ (v'.ownBlock = v.ownBlock ∨ v'.ownBlock = some w.heap.size) := by
  obtain ⟨i0, hi, hz0, hz1, hz2⟩ := info_parts Try.info8
  have hcells : ∀ (j : Nat) (u : Value), (bs.map bv)[j]? = some u → w.cell? ((⟨g, 0, none⟩ : Addr).add j) = some u := fun j u hu => by
    rw [List.getElem?_map] at hu
    cases hj : bs[j]? with
    | none => rw [hj] at hu; cases hu
    | some d =>
      rw [hj] at hu
      simp only [Option.map_some, Option.some.injEq] at hu
      subst hu
      obtain ⟨b, off, e', _, hc⟩ := hA j d hj
      cases e'
      have e2 : (⟨g, 0, none⟩ : Addr).add j = ⟨g, 0 + j, none⟩ := by unfold Addr.add; split <;> simp_all
      rw [e2]; exact hc
  have h1 : ∀ u ∈ bs.map bv, u.oneCell' = true := fun u hu => by obtain ⟨d, _, rfl⟩ := List.mem_map.1 hu; rfl
  obtain ⟨v', w', hrun, h2, h3, _, h5⟩ := run_append_own_at (P := Try.prog) w B 26 26 5 i0 (.int .u8 0) 1 1 Try.underlying26 hi hz0 hz1 hz2 rfl (by decide) v n (xs.map bv) hown ⟨g, 0, none⟩ len c (bs.map bv) (by simp; omega) hcells h1 (by unfold maxLen; omega) (by omega) hbase
  exact ⟨v', w', hrun, by rw [List.map_append]; exact h2, h3, h5⟩
/-- A store of the longer row. -/
theorem WB.grew {w w3 : World} {pb B : Nat} {v v' : Value} {bs bs' : List UInt8} (h : WB w pb B v bs) (hown : w3.ownsRow B 5 1 v' bs'.length (bs'.map bv)) (hgr : w.grownBy w3 v.ownBlock) (hob : v'.ownBlock = v.ownBlock ∨ ∀ k, v'.ownBlock = some k → w.heap.size ≤ k) : WPost pb B v bs' w (w3.setCell ⟨pb, 0, none⟩ v') := by
  have hno : v.ownBlock ≠ some pb := fun e => by have := h.own.lt pb e; have := h.lt; omega
  have hb3 : Blk w3 pb 26 #[v] := h.blk.grown hgr fun e => hno e.symm
  refine ⟨v', ⟨?_, own_same hown fun k hk => ?_, h.lt.1, Nat.le_trans h.lt.2 ?_⟩, ?_, ?_⟩
  · have := Blk.set_ hb3 0 v'
    simpa using this
  · have : k ≠ pb := by have := hown.lt k hk; have := h.lt; omega
    exact Below.heap_setCell w3 ⟨pb, 0, none⟩ v' k this
  · exact Nat.le_trans hgr.size (by simp)
  · exact ((Off.of_grown hgr).mono (G := WR pb v) fun k _ e => .inr e).trans ((Off.setc w3 pb 0 v').mono fun k _ e => .inl e)
  · intro k hk
    rcases hob with e | e
    · exact .inl (e ▸ hk)
    · exact .inr (e k hk)
theorem put_new (n x : Nat) (w : World) (hn : sizeB n = true) :
    Calls Try.prog 27 #[.slice none 0 0, .int .u64 x, .int .i64 n] w fun e W' => e = .returned (.slice (some ⟨w.heap.size + 2, 0, none⟩) n n) ∧ Bytes W' (some ⟨w.heap.size + 2, 0, none⟩) (lePut x n) ∧ Below w.heap.size w W' := by
  refine (put_okL none 0 0 n x [] w rfl hn (by omega) (Bytes.nil _ _)).mono ?_
  rintro e W' ⟨rfl, h1, h2⟩
  exact ⟨by simp, Bytes.row h1, h2⟩
/-- A number, as so many bytes. -/
def nb (x : Int) (n : Nat) : List UInt8 := lePut (x % 18446744073709551616).toNat n
set_option maxRecDepth 20000 in
theorem wnum_any (x : Int) (n : Nat) (hn : sizeB n = true) (pb B : Nat) (v : Value) (bs : List UInt8) (w : World) (h : WB w pb B v bs) (hl : bs.length ≤ 70368744177664) :
    Calls Try.prog 26 #[.int .i64 x, .int .i64 (n : Int), .pointer (some ⟨pb, 0, none⟩)] w fun e w' => e = .returned (.tuple #[]) ∧ WPost pb B v (bs ++ nb x n) w w' := by
  obtain ⟨X, hX⟩ : ∃ X : Nat, (x % 18446744073709551616).toNat = X := ⟨_, rfl⟩
  have hx : IntKind.u64.wrap x = (X : Int) := by rw [← hX]; simp [IntKind.wrap, IntKind.bits, IntKind.signed]; omega
  have hl8 : (lePut X n).length = n := lePut_length X n
  have hn8 : n ≤ 8 := by rcases (sizeB_iff n).1 (by exact_mod_cast hn) with h | h | h | h <;> omega
  have HP := Lib.hid (fun V => put_new n X V hn)
  have c0 := h.blk.cell 0
  have HH := Lib.hid h
  have HX : Hid (nb x n = lePut X n) := Lib.hid (by unfold nb; rw [hX])
  clear h hX
  go_enter Try.func26, Try.ntmps26
  go_wp2_with fail
  go_region_law (first
    | (refine step_app rfl (.tmp 5) (.tmp 9) 26 rfl _ _ _ _ (by simp [Act.eval]) (by simp [Act.eval]) hrun ?_)
    | (go_simp; go_at_call 27; refine (HP.out _).mono ?_; rintro e w2 ⟨rfl, hb2, hw2⟩
       have hB2 : WB w2 pb B v bs := HH.out.bel (Below.trans (⟨rfl, rfl, rfl, Nat.le_refl _, fun _ _ => rfl⟩ : Below w.heap.size w w.drew) hw2)
       have ho2 : Off (WR pb v) w w2 := Off.of_new (Below.trans (⟨rfl, rfl, rfl, Nat.le_refl _, fun _ _ => rfl⟩ : Below w.heap.size w w.drew) hw2) _
       obtain ⟨v', w3, hrun, hown, hgr, hob⟩ := app_own w2 B v bs.length bs hB2.own _ n n (lePut X n) hl8 hb2 (by omega) hB2.lt.2
       obtain ⟨A', c', rfl⟩ := own_shape hown
       have c0 : w2.cell? ⟨pb, 0, none⟩ = some v := hB2.blk.cell 0
       have hb3 := hB2.blk.grown hgr fun e => by have := hB2.own.lt pb e.symm; have := hB2.lt; omega
       have c3 := hb3.frozen 0
       have c4 : w3.cell? ⟨pb, 0, none⟩ = some v := hb3.cell 0
       clear hb3
       have HG : Hid (WPost pb B v (bs ++ nb x n) w (w3.setCell ⟨pb, 0, none⟩ (.slice A' (bs.length + n) c'))) := Lib.hid (by
         rw [HX.out]
         have h1 := hB2.grew (bs' := bs ++ lePut X n) (by rw [List.length_append, hl8]; exact hown) hgr (by rcases hob with e | e; exact .inl e; exact .inr fun k hk => by rw [e] at hk; injection hk with hk; omega)
         exact WPost.trans ⟨hB2, ho2, fun k hk => .inl hk⟩ h1)
       clear hown hgr hob hB2 ho2 hw2 hb2))
  all_goals (go_end0; exact ⟨rfl, HG.out⟩)
end Go.Proofs.Ytimkiifcmegfeaa
/- code: a text, as Write writes it. -/
namespace Go.Proofs.Ytimkiifcmegfeaa
open Go.RowKit
set_option linter.unusedVariables false
set_option linter.unusedSimpArgs false
attribute [local go_sem] Oper.semAt_some
theorem wpList_app2 {P : Program} {w : World} {ops : Array Oper} {rest : List Oper} {o : Oper} {a : Act} {Q : Exit → Act → World → Prop} (hgd : o.guard = none) (s x : Operand) (t tx : TypeId)
    (ho : o.op = .call { callee := .builtin .append, args := #[s, x], argTypes := #[t, tx] }) (v xv v' : Value) (w' : World) (hs : a.eval s = v) (hx : a.eval x = xv)
    (hrun : (Builtin.append_ #[t, tx] o.type #[v, xv]).run P w = .ok v' w') (h : wpList P ops Q rest (a.put o.dst v') w') : wpList P ops Q (o :: rest) a w :=
  wpList_plain hgd fun K hK => by
    unfold Oper.wp execOp
    simp only [ho, resolve, invoke, builtin, Sem.run_bind, Sem.run_pure, Result.andThen_ok, List.map_toArray, List.map_cons, List.map_nil, hs, hx, hrun]
    exact hK _ _ h

theorem strCells_str (l : List UInt8) : Lib.strCells (str l) = l.map bv := rfl
/-- append of a text: the row stays, or is a new one. -/
theorem app_str (B : Nat) (w : World) (hBw : B ≤ w.heap.size) (v : Value) (n : Nat) (xs : List Value) (hown : w.ownsRow B 5 1 v n xs) (s : ByteArray) (hs : n + s.size ≤ 140737488355328) :
    ∃ v' w', (Builtin.append_ #[26, 9] 26 #[v, .string s]).run Try.prog w = .ok v' w' ∧ w'.ownsRow B 5 1 v' (n + s.size) (xs ++ Lib.strCells s) ∧ w.grownBy w' v.ownBlock ∧ (v'.ownBlock = v.ownBlock ∨ ∀ k, v'.ownBlock = some k → w.heap.size ≤ k) := by
  obtain ⟨i0, hi, hz0, hz1, hz2⟩ := info_parts Try.info8
  obtain ⟨v', w', hrun, hO, hg, _⟩ := Lib.run_append_own_string (P := Try.prog) w B 26 9 26 5 i0 Try.underlying26 Try.underlying9 hi hz0 hz1 hz2 v n xs hown s (by unfold maxLen; omega) hs hBw
  refine ⟨v', w', hrun, hO, hg, ?_⟩
  have hxl : xs.length = n := by simpa using hown.1
  rcases hown.2 with ⟨rfl, rfl⟩ | ⟨g, cap, cur, rfl, hbg, hg2, hnc, hcm, hcs, htake⟩
  · have hx : xs = [] := List.eq_nil_of_length_eq_zero hxl
    subst hx
    obtain ⟨v2, w2, hr2, hO2, _, _⟩ := Lib.run_append_own_string (P := Try.prog) w w.heap.size 26 9 26 5 i0 Try.underlying26 Try.underlying9 hi hz0 hz1 hz2 (.slice none 0 0) 0 [] (World.ownsRow_nil _ _ _ _) s (by unfold maxLen; omega) hs (Nat.le_refl _)
    rw [hrun] at hr2
    injection hr2 with e1 e2
    subst e1
    exact .inr fun k hk => by
      rcases hO2.2 with ⟨e3, _⟩ | ⟨g, _, _, e3, h5, _⟩
      · rw [e3] at hk; cases hk
      · rw [e3] at hk; cases hk; exact h5
  · by_cases hroom : n + s.size ≤ cap
    · have hcs' : cur.size = cap := by simpa using hcs
      have hr := Lib.run_append_room_string (P := Try.prog) w 26 9 26 5 i0 Try.underlying26 Try.underlying9 hi hz1 g n cap cur hg2 s hroom (by omega)
      rw [hrun] at hr
      injection hr with e1 e2
      exact .inl (by rw [e1]; rfl)
    · have holds : ∀ j u, xs[j]? = some u → w.cell? ((⟨g, 0, none⟩ : Addr).add j) = some u := hown.cells (g := g) rfl
      have hr := Lib.run_append_grow_string (P := Try.prog) w 26 9 26 5 i0 (.int .u8 0) Try.underlying26 Try.underlying9 hi hz0 ⟨g, 0, none⟩ n cap xs (by rw [hz1]; simpa using hxl) holds s (by omega) (by omega) (by rw [hz2]; exact growslice_fits (by omega) (by omega))
      rw [hrun] at hr
      injection hr with e1 e2
      exact .inr fun k hk => by rw [e1] at hk; cases hk; exact Nat.le_refl _
/-- A text, as its length and itself. -/
def tb (s : List UInt8) : List UInt8 := nb (s.length : Int) 4 ++ s
set_option maxRecDepth 20000 in
theorem wtext_any (s : List UInt8) (hs : s.length ≤ 1000000) (pb pn B : Nat) (v : Value) (bs : List UInt8) (w : World) (h : WB w pb B v bs) (hl : bs.length ≤ 70368744177664) (hp : Blk w pn 62 #[.func (.func 26) #[] #[.pointer (some ⟨pb, 0, none⟩)]]) :
    Calls Try.prog 28 #[.string (str s), .pointer (some ⟨pn, 0, none⟩), .pointer (some ⟨pb, 0, none⟩)] w fun e w' => e = .returned (.tuple #[]) ∧ WPost pb B v (bs ++ tb s) w w' := by
  have c0 : w.cell? ⟨pn, 0, none⟩ = some (.func (.func 26) #[] #[.pointer (some ⟨pb, 0, none⟩)]) := hp.cell 0
  have hsz : (str s).size = s.length := by rw [str_size]
  have HC := Lib.hid (wnum_any (s.length : Int) 4 (by decide) pb B v bs w h hl)
  obtain ⟨sl, hsl⟩ : ∃ z, s.length = z := ⟨_, rfl⟩
  rw [hsl] at HC hsz
  have hs1 : IntKind.i64.wrap (sl : Int) = (sl : Int) := IntWalk.i64_in _ ⟨by omega, by omega⟩
  have HSL := Lib.hid (And.intro hsl hs)
  clear h hp hsl
  go_enter Try.func28, Try.ntmps28
  go_wp2_with fail
  refine HC.out.mono ?_
  rintro e w2 ⟨rfl, v2, h2, ho2, hg2⟩
  obtain ⟨v3, w3, hrun, hown, hgr, hob⟩ := app_str B w2 h2.lt.2 v2 _ _ h2.own (str s) (by rw [str_size, List.length_append]; have := HSL.out.2; unfold nb; rw [lePut_length]; omega)
  rw [strCells_str, ← List.map_append, str_size, ← List.length_append] at hown
  obtain ⟨A', c', rfl⟩ := own_shape hown
  have c1 : w2.cell? ⟨pb, 0, none⟩ = some v2 := h2.blk.cell 0
  have hb3 := h2.blk.grown hgr fun e => by have := h2.own.lt pb e.symm; have := h2.lt; omega
  have c3 := hb3.frozen 0
  have c4 : w3.cell? ⟨pb, 0, none⟩ = some v2 := hb3.cell 0
  have HG : Hid (WPost pb B v (bs ++ tb s) w (w3.setCell ⟨pb, 0, none⟩ (.slice A' ((bs ++ nb (sl : Int) 4) ++ s).length c'))) := Lib.hid (by
    have h1 := h2.grew hown hgr hob
    have := WPost.trans ⟨h2, ho2, hg2⟩ h1
    unfold tb
    rw [HSL.out.1, ← List.append_assoc]
    exact this)
  have HR := Lib.hid hrun
  obtain ⟨L, hL⟩ : ∃ z, ((bs ++ nb (sl : Int) 4) ++ s).length = z := ⟨_, rfl⟩
  rw [hL] at HR HG
  clear hrun hown hgr hob hb3 h2 ho2 hg2 HC
  go_wp2_with (at_builtin; refine wpList_app2 rfl _ _ 26 9 rfl _ _ _ _ rfl rfl HR.out ?_)
  go_end0
  exact ⟨rfl, HG.out⟩
end Go.Proofs.Ytimkiifcmegfeaa
/- code: Write. -/
namespace Go.Proofs.Ytimkiifcmegfeaa
open Go.RowKit
set_option linter.unusedVariables false
set_option linter.unusedSimpArgs false
attribute [local go_sem] Oper.semAt_some
/-- An instruction's bytes. -/
def ib (i : Ins) : List UInt8 := nb (i.op : Int) 1 ++ (nb i.a 8 ++ (nb i.b 8 ++ (nb i.c 8 ++ tb i.tx)))
def ibs : List Ins → List UInt8
  | [] => []
  | i :: is => ib i ++ ibs is
def fbs : List (List Ins) → List UInt8
  | [] => []
  | f :: fs => nb (f.length : Int) 4 ++ (ibs f ++ fbs fs)
def rbs : List (List UInt8 × List UInt8) → List UInt8
  | [] => []
  | r :: rs => tb r.1 ++ (tb r.2 ++ rbs rs)
/-- A code's bytes. -/
def cbytes (c : Cd) : List UInt8 := nb (c.fs.length : Int) 4 ++ (fbs c.fs ++ (nb (c.rs.length : Int) 4 ++ rbs c.rs))
/-- A block that is none of those that grow. -/
structure Box (w : World) (pb : Nat) (v : Value) (g : Nat) (t : TypeId) (cs : Array Value) : Prop where
  blk : Blk w g t cs
  ne : g ≠ pb
  no : v.ownBlock ≠ some g
theorem Box.next {w w' : World} {pb : Nat} {v v' : Value} {g : Nat} {t : TypeId} {cs : Array Value} (h : Box w pb v g t cs) (ho : Off (WR pb v) w w') (hg : Grew w v v') : Box w' pb v' g t cs :=
  ⟨h.blk.off ho (by rintro (e | e); exact h.ne e; exact h.no e), h.ne, fun e => by
    rcases hg g e with e | e
    · exact h.no e
    · have := h.blk.lt; omega⟩
theorem Box.bel {w w' : World} {pb : Nat} {v : Value} {g : Nat} {t : TypeId} {cs : Array Value} (h : Box w pb v g t cs) (hb : Below w.heap.size w w') : Box w' pb v g t cs := ⟨h.blk.below hb h.blk.lt, h.ne, h.no⟩
def fnv (pb : Nat) : Value := .func (.func 26) #[] #[.pointer (some ⟨pb, 0, none⟩)]
/-- Write under way. -/
structure WJ (w : World) (cs : Array Value) (q pb pn B : Nat) (v : Value) (bs : List UInt8) (wx : World) : Prop where
  wb : WB wx pb B v bs
  n : Box wx pb v pn 62 #[.func (.func 26) #[] #[.pointer (some ⟨pb, 0, none⟩)]]
  c : Box wx pb v q 25 cs
  b : Below w.heap.size w wx
  lt : w.heap.size ≤ pb
section
variable {w : World} {cs : Array Value} {q pb pn B : Nat} {v : Value} {bs : List UInt8} {wx : World}
theorem WJ.bel {wy : World} (h : WJ w cs q pb pn B v bs wx) (hb : Below wx.heap.size wx wy) : WJ w cs q pb pn B v bs wy := ⟨h.wb.bel hb, h.n.bel hb, h.c.bel hb, h.b.trans (hb.mono h.b.size), h.lt⟩
/-- What is so behind a call that puts bytes. -/
def WN (w : World) (cs : Array Value) (q pb pn B : Nat) (v : Value) (bs : List UInt8) (wx wy : World) : Prop := ∃ v', WJ w cs q pb pn B v' bs wy ∧ wx.heap.size ≤ wy.heap.size ∧ ∀ g t ks, Box wx pb v g t ks → Box wy pb v' g t ks
theorem WJ.next {wy : World} {bs' : List UInt8} (h : WJ w cs q pb pn B v bs wx) (hp : WPost pb B v bs' wx wy) : WN w cs q pb pn B v bs' wx wy := by
  obtain ⟨v', h1, h2, h3⟩ := hp
  exact ⟨v', ⟨h1, h.n.next h2 h3, h.c.next h2 h3, h.b.trans (h2.below h.b.size fun k hk => by have := (h.wb.wr_ge hk).2; have := h.lt; omega), h.lt⟩, h2.size, fun g t ks hb => hb.next h2 h3⟩
theorem WJ.num (h : WJ w cs q pb pn B v bs wx) (x : Int) (n : Nat) (hn : sizeB n = true) (hl : bs.length ≤ 70368744177664) :
    Calls Try.prog 26 #[.int .i64 x, .int .i64 (n : Int), .pointer (some ⟨pb, 0, none⟩)] wx fun e w' => e = .returned (.tuple #[]) ∧ WN w cs q pb pn B v (bs ++ nb x n) wx w' := by
  refine (wnum_any x n hn pb B v bs wx h.wb hl).mono ?_
  rintro e w' ⟨rfl, hp⟩
  exact ⟨rfl, h.next hp⟩
theorem WJ.text (h : WJ w cs q pb pn B v bs wx) (s : List UInt8) (hs : s.length ≤ 1000000) (hl : bs.length ≤ 70368744177664) :
    Calls Try.prog 28 #[.string (str s), .pointer (some ⟨pn, 0, none⟩), .pointer (some ⟨pb, 0, none⟩)] wx fun e w' => e = .returned (.tuple #[]) ∧ WN w cs q pb pn B v (bs ++ tb s) wx w' := by
  refine (wtext_any s hs pb pn B v bs wx h.wb hl h.n.blk).mono ?_
  rintro e w' ⟨rfl, hp⟩
  exact ⟨rfl, h.next hp⟩
end
theorem wstep {bs x r cb : List UInt8} (h : bs ++ (x ++ r) = cb) : (bs ++ x) ++ r = cb := by rw [List.append_assoc]; exact h
theorem wlen {bs r cb : List UInt8} (h : bs ++ r = cb) (hc : cb.length ≤ 1000000) : bs.length ≤ 70368744177664 := by
  have := congrArg List.length h
  rw [List.length_append] at this
  omega
theorem wmid {bs s r cb : List UInt8} (h : bs ++ (tb s ++ r) = cb) (hc : cb.length ≤ 1000000) : s.length ≤ 1000000 := by
  have := congrArg List.length h
  unfold tb at this
  simp only [List.length_append] at this
  omega
theorem drop_fe {fs : List Fe} {n : Nat} {f : Fe} (h : fs[n]? = some f) : (fs.drop n).map Fe.is = f.is :: (fs.drop (n + 1)).map Fe.is := by
  obtain ⟨h1, h2⟩ := List.getElem?_eq_some_iff.1 h
  rw [List.drop_eq_getElem_cons h1, h2]; rfl
theorem drop_in {α : Type} {l : List α} {n : Nat} {x : α} (h : l[n]? = some x) : l.drop n = x :: l.drop (n + 1) := by
  obtain ⟨h1, h2⟩ := List.getElem?_eq_some_iff.1 h
  rw [List.drop_eq_getElem_cons h1, h2]
theorem drop_rt {α : Type} {l : List α} {n : Nat} {x : α} (h : l[n]? = some x) : l.drop n = x :: l.drop (n + 1) := drop_in h
theorem own_base {w : World} {b b' : Nat} {e : TypeId} {s : Nat} {v : Value} {n : Nat} {xs : List Value} (h : w.ownsRow b e s v n xs) (hb : b' ≤ b) : w.ownsRow b' e s v n xs := by
  refine ⟨h.1, ?_⟩
  rcases h.2 with h0 | ⟨g, cap, cur, rfl, h1, h2⟩
  · exact .inl h0
  · exact .inr ⟨g, cap, cur, rfl, Nat.le_trans hb h1, h2⟩
set_option maxRecDepth 20000 in
set_option maxHeartbeats 8000000 in
theorem write_any (cl : Cl) (w : World) (hC : cl.At (fun b => b < w.heap.size) w) (hL : (cbytes cl.cd).length ≤ 1000000) :
    Calls Try.prog 12 #[.agg #[.slice cl.fA cl.fs.length cl.fc, .slice cl.rA cl.rs.length cl.rc]] w fun e w' => ∃ v, e = .returned v ∧ w'.ownsRow w.heap.size 5 1 v (cbytes cl.cd).length ((cbytes cl.cd).map bv) ∧ Below w.heap.size w w' := by
  have hmf : ∀ (fn : Fn) (first cap : Array Value) (w : World), (Instr.makeFunc fn first cap).run Try.prog w = .ok (.func fn first cap) w := fun _ _ _ _ => rfl
  obtain ⟨cb, hcb⟩ : ∃ z, cbytes cl.cd = z := ⟨_, rfl⟩
  rw [hcb] at hL ⊢
  obtain ⟨m, hm⟩ : ∃ z, cl.fs.length = z := ⟨_, rfl⟩
  obtain ⟨rk, hrk⟩ : ∃ z, cl.rs.length = z := ⟨_, rfl⟩
  rw [hm, hrk]
  obtain ⟨fA, hfA⟩ : ∃ z, cl.fA = z := ⟨_, rfl⟩
  obtain ⟨rA, hrA⟩ : ∃ z, cl.rA = z := ⟨_, rfl⟩
  rw [hfA, hrA]
  have HFA := Lib.hid (And.intro hfA hrA)
  have HFS : Hid (∀ V, Below w.heap.size w V → FsAt (fun b => b < w.heap.size) V cl.fA cl.fs ∧ RsAt (fun b => b < w.heap.size) V cl.rA cl.rs) := Lib.hid fun V hV => ⟨hC.fs.bel hV, hC.rs.bel hV⟩
  have HI := Lib.hid (And.intro hC (And.intro hL (And.intro hcb (And.intro hm hrk))))
  have hcb2 : nb (m : Int) 4 ++ (fbs (cl.fs.map Fe.is) ++ (nb (rk : Int) 4 ++ rbs cl.rs)) = cb := by
    rw [← hcb]; unfold cbytes Cl.cd; simp only [List.length_map, hm, hrk]
  have hmx : m ≤ maxLen := by have h1 := hC.fl; omega
  have hrx : rk ≤ maxLen := by have h1 := hC.rl; omega
  unfold maxLen at hmx hrx
  clear hC hL hcb hm hrk hfA hrA
  have hJ : WJ w #[.slice fA m cl.fc, .slice rA rk cl.rc] w.heap.size (w.heap.size + 1) (w.heap.size + 1 + 1) (w.heap.size + 1 + 1 + 1) (.slice none 0 0) [] (((w.alloc (.cells #[.slice fA m cl.fc, .slice rA rk cl.rc] 25)).alloc (.cells #[.slice none 0 0] 26)).alloc (.cells #[.func (.func 26) #[] #[.pointer (some ⟨w.heap.size + 1, 0, none⟩)]] 62)) := by
    obtain ⟨a, ha⟩ : ∃ V, w.alloc (.cells #[.slice fA m cl.fc, .slice rA rk cl.rc] 25) = V := ⟨_, rfl⟩
    obtain ⟨b, hb⟩ : ∃ V, a.alloc (.cells #[.slice none 0 0] 26) = V := ⟨_, rfl⟩
    obtain ⟨c, hc⟩ : ∃ V, b.alloc (.cells #[.func (.func 26) #[] #[.pointer (some ⟨w.heap.size + 1, 0, none⟩)]] 62) = V := ⟨_, rfl⟩
    rw [ha, hb, hc]
    have k : ∀ (x y : World) (o : Obj), x.alloc o = y → Below x.heap.size x y ∧ y.heap.size = x.heap.size + 1 := fun x y o h => by subst h; exact ⟨(Below.refl _ _).alloc (Nat.le_refl _) _, by simp⟩
    have ka := k _ _ _ ha
    have kb := k _ _ _ hb
    have kc := k _ _ _ hc
    have Ba : Blk a w.heap.size 25 #[.slice fA m cl.fc, .slice rA rk cl.rc] := by rw [← ha]; exact Blk.new _ _ _
    have Bb : Blk b (w.heap.size + 1) 26 #[.slice none 0 0] := by rw [← hb, ← ka.2]; exact Blk.new _ _ _
    have Bc : Blk c (w.heap.size + 1 + 1) 62 #[.func (.func 26) #[] #[.pointer (some ⟨w.heap.size + 1, 0, none⟩)]] := by rw [← hc, ← ka.2, ← kb.2]; exact Blk.new _ _ _
    have Ba2 := (Ba.below kb.1 Ba.lt).below kc.1 (Ba.below kb.1 Ba.lt).lt
    have Bb2 := Bb.below kc.1 Bb.lt
    exact ⟨⟨Bb2, World.ownsRow_nil _ _ _ _, by omega, by omega⟩, ⟨Bc, by omega, by simp [Value.ownBlock]⟩, ⟨Ba2, by omega, by simp [Value.ownBlock]⟩, ka.1.trans ((kb.1.trans (kc.1.mono kb.1.size)).mono ka.1.size), by omega⟩
  have c9 : (((w.alloc (.cells #[.slice fA m cl.fc, .slice rA rk cl.rc] 25)).alloc (.cells #[.slice none 0 0] 26)).alloc (.cells #[.nilFunc] 62)).cell? ⟨w.heap.size + 1 + 1, 0, none⟩ = some .nilFunc := by
    have hs : ((w.alloc (.cells #[.slice fA m cl.fc, .slice rA rk cl.rc] 25)).alloc (.cells #[.slice none 0 0] 26)).heap.size = w.heap.size + 1 + 1 := by simp
    rw [← hs]
    exact (Blk.new _ _ _).cell 0
  have f9 : (((w.alloc (.cells #[.slice fA m cl.fc, .slice rA rk cl.rc] 25)).alloc (.cells #[.slice none 0 0] 26)).alloc (.cells #[.nilFunc] 62)).frozen? ⟨w.heap.size + 1 + 1, 0, none⟩ = false := by
    have hs : ((w.alloc (.cells #[.slice fA m cl.fc, .slice rA rk cl.rc] 25)).alloc (.cells #[.slice none 0 0] 26)).heap.size = w.heap.size + 1 + 1 := by simp
    rw [← hs]
    exact (Blk.new _ _ _).frozen 0
  obtain ⟨w4, hw4⟩ : ∃ V, (((w.alloc (.cells #[.slice fA m cl.fc, .slice rA rk cl.rc] 25)).alloc (.cells #[.slice none 0 0] 26)).alloc (.cells #[.func (.func 26) #[] #[.pointer (some ⟨w.heap.size + 1, 0, none⟩)]] 62)) = V := ⟨_, rfl⟩
  rw [hw4] at hJ
  have HJI := Lib.hid (And.intro hJ hw4)
  clear hJ hw4
  go_enter Try.func12, Try.ntmps12
  go_upto_region 4 with fail
  (try rw [HJI.out.2])
  clear c9 f9
  obtain ⟨q, hq⟩ : ∃ z, w.heap.size = z := ⟨_, rfl⟩
  obtain ⟨pb, hpb⟩ : ∃ z, q + 1 = z := ⟨_, rfl⟩
  obtain ⟨pn, hpn⟩ : ∃ z, pb + 1 = z := ⟨_, rfl⟩
  obtain ⟨B, hB⟩ : ∃ z, pn + 1 = z := ⟨_, rfl⟩
  have HJ : Hid (WJ w #[.slice fA m cl.fc, .slice rA rk cl.rc] q pb pn B (.slice none 0 0) [] w4 ∧ [] ++ (nb (m : Int) 4 ++ (fbs (cl.fs.map Fe.is) ++ (nb (rk : Int) 4 ++ rbs cl.rs))) = cb) := Lib.hid ⟨by rw [← hB, ← hpn, ← hpb, ← hq]; exact HJI.out.1, hcb2⟩
  rw [hq, hpb, hpn]
  clear HJI hcb2 hq hpb hpn hB
  have x0 : w4.cell? ⟨q, 0, none⟩ = some (.slice fA m cl.fc) := HJ.out.1.c.blk.cell 0
  have x1 : w4.cell? ⟨q, 1, none⟩ = some (.slice rA rk cl.rc) := HJ.out.1.c.blk.cell 1
  have xn : w4.cell? ⟨pn, 0, none⟩ = some (.func (.func 26) #[] #[.pointer (some ⟨pb, 0, none⟩)]) := HJ.out.1.n.blk.cell 0
  go_wp2_with fail
  refine (HJ.out.1.num (m : Int) 4 (by decide) (wlen HJ.out.2 HI.out.2.1)).mono ?_
  rintro e w5 ⟨rfl, v1, hJ, hsz, hbx⟩
  have HJ1 := Lib.hid (And.intro hJ (wstep HJ.out.2))
  clear hJ hsz hbx x0 x1 xn
  have x0 : w5.cell? ⟨q, 0, none⟩ = some (.slice fA m cl.fc) := HJ1.out.1.c.blk.cell 0
  have x1 : w5.cell? ⟨q, 1, none⟩ = some (.slice rA rk cl.rc) := HJ1.out.1.c.blk.cell 1
  have xn : w5.cell? ⟨pn, 0, none⟩ = some (.func (.func 26) #[] #[.pointer (some ⟨pb, 0, none⟩)]) := HJ1.out.1.n.blk.cell 0
  go_wp2_with fail
  go_loopw [22] (fun v22 wr => ∃ (i : Nat) (v : Value) (bs : List UInt8), i ≤ m ∧ v22 = .int .i64 (i : Int) ∧ Hid (WJ w #[.slice fA m cl.fc, .slice rA rk cl.rc] q pb pn B v bs wr ∧ bs ++ (fbs ((cl.fs.drop i).map Fe.is) ++ (nb (rk : Int) 4 ++ rbs cl.rs)) = cb)) (fun v22 _ => m - (intOf v22).toNat)
  case atStart => exact ⟨0, _, _, Nat.zero_le _, rfl, HJ1⟩
  case round =>
    clear HJ HJ1 x0 x1 xn
    obtain ⟨i, v, bs, hi, rfl, HJ⟩ := hrel
    obtain ⟨w5, rfl⟩ : ∃ v, v = wr := ⟨_, rfl⟩
    have x0 : w5.cell? ⟨q, 0, none⟩ = some (.slice fA m cl.fc) := HJ.out.1.c.blk.cell 0
    have x1 : w5.cell? ⟨q, 1, none⟩ = some (.slice rA rk cl.rc) := HJ.out.1.c.blk.cell 1
    have xn : w5.cell? ⟨pn, 0, none⟩ = some (.func (.func 26) #[] #[.pointer (some ⟨pb, 0, none⟩)]) := HJ.out.1.n.blk.cell 0
    by_cases hli : i < m
    · have hd : decide ((i : Int) < (m : Int)) = true := by simpa using hli
      obtain ⟨f, hf⟩ : ∃ x, cl.fs[i]? = some x := ⟨_, List.getElem?_eq_getElem (by rw [HI.out.2.2.2.1]; exact hli)⟩
      obtain ⟨fb, fo, eA, _, _, z0, hfe⟩ := (HFS.out w5 HJ.out.1.b).1.get hf
      have eA2 : fA = some ⟨fb, fo, none⟩ := by rw [← HFA.out.1]; exact eA
      subst eA2
      obtain ⟨l, hl⟩ : ∃ l, f.is.length = l := ⟨_, rfl⟩
      rw [hl] at z0
      obtain ⟨A', hA'⟩ : ∃ A, f.A = A := ⟨_, rfl⟩
      rw [hA'] at z0
      have HJ0 := Lib.hid (And.intro HJ.out.1 (show bs ++ (nb (l : Int) 4 ++ (ibs f.is ++ (fbs ((cl.fs.drop (i + 1)).map Fe.is) ++ (nb (rk : Int) 4 ++ rbs cl.rs)))) = cb by
        have h := HJ.out.2
        rw [drop_fe hf, fbs, hl] at h
        rw [← h]
        simp only [List.append_assoc]))
      have hlx : l ≤ maxLen := by have h1 := hfe.len; have h2 := hfe.cap; omega
      unfold maxLen at hlx
      have HFI := Lib.hid (And.intro hf (And.intro hl (And.intro hA' hli)))
      clear hfe hf hl hA' eA
      go_wp2_with fail
      refine (HJ0.out.1.num (l : Int) 4 (by decide) (wlen HJ0.out.2 HI.out.2.1)).mono ?_
      rintro e w6 ⟨rfl, v1, hJ, hsz, hbx⟩
      have HJ1 := Lib.hid (And.intro hJ (wstep HJ0.out.2))
      clear hJ hsz hbx x0 x1 xn z0
      have x0 : w6.cell? ⟨q, 0, none⟩ = some (.slice (some ⟨fb, fo, none⟩) m cl.fc) := HJ1.out.1.c.blk.cell 0
      have x1 : w6.cell? ⟨q, 1, none⟩ = some (.slice rA rk cl.rc) := HJ1.out.1.c.blk.cell 1
      have xn : w6.cell? ⟨pn, 0, none⟩ = some (.func (.func 26) #[] #[.pointer (some ⟨pb, 0, none⟩)]) := HJ1.out.1.n.blk.cell 0
      go_wp2_with fail
      go_loopw [32] (fun v32 wr => ∃ (j : Nat) (v : Value) (bs : List UInt8), j ≤ l ∧ v32 = .int .i64 (j : Int) ∧ Hid (WJ w #[.slice (some ⟨fb, fo, none⟩) m cl.fc, .slice rA rk cl.rc] q pb pn B v bs wr ∧ bs ++ (ibs (f.is.drop j) ++ (fbs ((cl.fs.drop (i + 1)).map Fe.is) ++ (nb (rk : Int) 4 ++ rbs cl.rs))) = cb)) (fun v32 _ => l - (intOf v32).toNat)
      case atStart => exact ⟨0, _, _, Nat.zero_le _, rfl, HJ1⟩
      case round =>
        clear HJ HJ0 HJ1 x0 x1 xn
        obtain ⟨j, v, bs, hj, rfl, HJ⟩ := hrel
        obtain ⟨w6, rfl⟩ : ∃ v, v = wr := ⟨_, rfl⟩
        have x0 : w6.cell? ⟨q, 0, none⟩ = some (.slice (some ⟨fb, fo, none⟩) m cl.fc) := HJ.out.1.c.blk.cell 0
        have x1 : w6.cell? ⟨q, 1, none⟩ = some (.slice rA rk cl.rc) := HJ.out.1.c.blk.cell 1
        have xn : w6.cell? ⟨pn, 0, none⟩ = some (.func (.func 26) #[] #[.pointer (some ⟨pb, 0, none⟩)]) := HJ.out.1.n.blk.cell 0
        by_cases hlj : j < l
        · have hd : decide ((j : Int) < (l : Int)) = true := by simpa using hlj
          obtain ⟨x, hx⟩ : ∃ x, f.is[j]? = some x := ⟨_, List.getElem?_eq_getElem (by rw [HFI.out.2.1]; exact hlj)⟩
          have hfin := (HFS.out w6 HJ.out.1.b).1.fs f (List.mem_of_getElem? HFI.out.1)
          obtain ⟨bi, oi, eI, _, _, z0, z1, z2, z3, z4, hok⟩ := hfin.ins.get hx
          rw [HFI.out.2.2.1] at eI
          subst eI
          have HJ0 := Lib.hid (And.intro HJ.out.1 (show bs ++ (nb (x.op : Int) 1 ++ (nb x.a 8 ++ (nb x.b 8 ++ (nb x.c 8 ++ (tb x.tx ++ (ibs (f.is.drop (j + 1)) ++ (fbs ((cl.fs.drop (i + 1)).map Fe.is) ++ (nb (rk : Int) 4 ++ rbs cl.rs)))))))) = cb by
            have h := HJ.out.2
            rw [drop_in hx, ibs, ib] at h
            rw [← h]
            simp only [List.append_assoc]))
          obtain ⟨k, a, b, c, tx⟩ := x
          replace z0 : w6.cell? ⟨bi, oi + j * 5, none⟩ = some (.int .u8 (k : Int)) := z0
          replace z1 : w6.cell? ⟨bi, oi + j * 5 + 1, none⟩ = some (.int .i64 a) := z1
          replace z2 : w6.cell? ⟨bi, oi + j * 5 + 2, none⟩ = some (.int .i64 b) := z2
          replace z3 : w6.cell? ⟨bi, oi + j * 5 + 3, none⟩ = some (.int .i64 c) := z3
          replace z4 : w6.cell? ⟨bi, oi + j * 5 + 4, none⟩ = some (.string (str tx)) := z4
          have hkw : IntKind.i64.wrap (k : Int) = (k : Int) := IntWalk.i64_in _ ⟨by omega, by have : k < 256 := hok.op; omega⟩
          have hk0 : (k : Int) < 256 := by have : k < 256 := hok.op; omega
          obtain ⟨w7, hw7⟩ : ∃ W, w6.alloc (.cells #[.int .u8 (k : Int), .int .i64 a, .int .i64 b, .int .i64 c, .string (str tx)] 46) = W := ⟨_, rfl⟩
          have hb7 : Below w6.heap.size w6 w7 := by rw [← hw7]; exact (Below.refl _ _).alloc (Nat.le_refl _) _
          have B7 : Blk w7 w6.heap.size 46 #[.int .u8 (k : Int), .int .i64 a, .int .i64 b, .int .i64 c, .string (str tx)] := by rw [← hw7]; exact Blk.new _ _ _
          have hbx7 : Box w7 pb v w6.heap.size 46 #[.int .u8 (k : Int), .int .i64 a, .int .i64 b, .int .i64 c, .string (str tx)] := ⟨B7, fun e => by have := HJ.out.1.wb.blk.lt; omega, fun e => by have := (HJ.out.1.wb.own.lt _ e).2; omega⟩
          obtain ⟨q9, hq9⟩ : ∃ q, w6.heap.size = q := ⟨_, rfl⟩
          rw [hq9] at hbx7
          have HB0 := Lib.hid hbx7
          have HJ9 := Lib.hid (And.intro (HJ0.out.1.bel hb7) HJ0.out.2)
          have HW := Lib.hid (And.intro hw7 (And.intro hq9 hlj))
          clear hfin hx hok hb7 B7 hbx7 hw7 hq9 hi hli HJ0
          go_upto_region 12 with fail
          (try rw [HW.out.1])
          (try rw [HW.out.2.1])
          clear z0 z1 z2 z3 z4 x0 x1 xn
          have xn : w7.cell? ⟨pn, 0, none⟩ = some (.func (.func 26) #[] #[.pointer (some ⟨pb, 0, none⟩)]) := HJ9.out.1.n.blk.cell 0
          have y0 : w7.cell? ⟨q9, 0, none⟩ = some (.int .u8 (k : Int)) := HB0.out.blk.cell 0
          go_wp2_with fail
          refine (HJ9.out.1.num (k : Int) 1 (by decide) (wlen HJ9.out.2 HI.out.2.1)).mono ?_
          rintro e u0x ⟨rfl, v0x, hJ, hsz, hbx⟩
          have HK0 := Lib.hid (And.intro hJ (wstep HJ9.out.2))
          have HC0 := Lib.hid (hbx _ _ _ HB0.out)
          clear hJ hsz hbx xn y0
          have xn : u0x.cell? ⟨pn, 0, none⟩ = some (.func (.func 26) #[] #[.pointer (some ⟨pb, 0, none⟩)]) := HK0.out.1.n.blk.cell 0
          have y0 : u0x.cell? ⟨q9, 1, none⟩ = some (.int .i64 a) := HC0.out.blk.cell 1
          go_wp2_with fail
          refine (HK0.out.1.num a 8 (by decide) (wlen HK0.out.2 HI.out.2.1)).mono ?_
          rintro e u1x ⟨rfl, v1x, hJ, hsz, hbx⟩
          have HK1 := Lib.hid (And.intro hJ (wstep HK0.out.2))
          have HC1 := Lib.hid (hbx _ _ _ HC0.out)
          clear hJ hsz hbx xn y0
          have xn : u1x.cell? ⟨pn, 0, none⟩ = some (.func (.func 26) #[] #[.pointer (some ⟨pb, 0, none⟩)]) := HK1.out.1.n.blk.cell 0
          have y0 : u1x.cell? ⟨q9, 2, none⟩ = some (.int .i64 b) := HC1.out.blk.cell 2
          go_wp2_with fail
          refine (HK1.out.1.num b 8 (by decide) (wlen HK1.out.2 HI.out.2.1)).mono ?_
          rintro e u2x ⟨rfl, v2x, hJ, hsz, hbx⟩
          have HK2 := Lib.hid (And.intro hJ (wstep HK1.out.2))
          have HC2 := Lib.hid (hbx _ _ _ HC1.out)
          clear hJ hsz hbx xn y0
          have xn : u2x.cell? ⟨pn, 0, none⟩ = some (.func (.func 26) #[] #[.pointer (some ⟨pb, 0, none⟩)]) := HK2.out.1.n.blk.cell 0
          have y0 : u2x.cell? ⟨q9, 3, none⟩ = some (.int .i64 c) := HC2.out.blk.cell 3
          go_wp2_with fail
          refine (HK2.out.1.num c 8 (by decide) (wlen HK2.out.2 HI.out.2.1)).mono ?_
          rintro e u3x ⟨rfl, v3x, hJ, hsz, hbx⟩
          have HK3 := Lib.hid (And.intro hJ (wstep HK2.out.2))
          have HC3 := Lib.hid (hbx _ _ _ HC2.out)
          clear hJ hsz hbx xn y0
          have xn : u3x.cell? ⟨pn, 0, none⟩ = some (.func (.func 26) #[] #[.pointer (some ⟨pb, 0, none⟩)]) := HK3.out.1.n.blk.cell 0
          have y0 : u3x.cell? ⟨q9, 4, none⟩ = some (.string (str tx)) := HC3.out.blk.cell 4
          go_wp2_with fail
          refine (HK3.out.1.text tx (wmid HK3.out.2 HI.out.2.1) (wlen HK3.out.2 HI.out.2.1)).mono ?_
          rintro e u4x ⟨rfl, v4x, hJ, hsz, hbx⟩
          have HK4 := Lib.hid (And.intro hJ (wstep HK3.out.2))
          have HC4 := Lib.hid (hbx _ _ _ HC3.out)
          clear hJ hsz hbx xn y0
          go_wp2_with fail
          go_roundw
          case rel => exact ⟨j + 1, _, _, by have := HW.out.2.2; omega, by go_num, HK4⟩
          case measure => have := HW.out.2.2; simp [intOf]; omega
        · obtain rfl : l = j := by omega
          have hd : decide ((l : Int) < (l : Int)) = false := by simp
          have HN := Lib.hid (And.intro HJ.out.1 (show bs ++ (fbs ((cl.fs.drop (i + 1)).map Fe.is) ++ (nb (rk : Int) 4 ++ rbs cl.rs)) = cb by
            have h := HJ.out.2
            rw [List.drop_of_length_le (by rw [HFI.out.2.1]; exact Nat.le_refl _), ibs, List.nil_append] at h
            exact h))
          go_wp2_with fail
          go_roundw
          case rel => exact ⟨i + 1, _, _, by have := HFI.out.2.2.2; omega, by go_num, HN⟩
          case measure => have := HFI.out.2.2.2; simp [intOf]; omega
    · obtain rfl : m = i := by omega
      have hd : decide ((m : Int) < (m : Int)) = false := by simp
      have HN := Lib.hid (And.intro HJ.out.1 (show bs ++ (nb (rk : Int) 4 ++ rbs cl.rs) = cb by
        have h := HJ.out.2
        rw [List.drop_of_length_le (by rw [HI.out.2.2.2.1]; exact Nat.le_refl _), List.map_nil, fbs, List.nil_append] at h
        exact h))
      go_wp2_with fail
      refine (HN.out.1.num (rk : Int) 4 (by decide) (wlen HN.out.2 HI.out.2.1)).mono ?_
      rintro e w6 ⟨rfl, v1, hJ, hsz, hbx⟩
      have HJ1 := Lib.hid (And.intro hJ (wstep HN.out.2))
      clear hJ hsz hbx x0 x1 xn
      have x0 : w6.cell? ⟨q, 0, none⟩ = some (.slice fA m cl.fc) := HJ1.out.1.c.blk.cell 0
      have x1 : w6.cell? ⟨q, 1, none⟩ = some (.slice rA rk cl.rc) := HJ1.out.1.c.blk.cell 1
      have xn : w6.cell? ⟨pn, 0, none⟩ = some (.func (.func 26) #[] #[.pointer (some ⟨pb, 0, none⟩)]) := HJ1.out.1.n.blk.cell 0
      go_wp2_with fail
      go_loopw [67] (fun v67 wr => ∃ (j : Nat) (v : Value) (bs : List UInt8), j ≤ rk ∧ v67 = .int .i64 (j : Int) ∧ Hid (WJ w #[.slice fA m cl.fc, .slice rA rk cl.rc] q pb pn B v bs wr ∧ bs ++ rbs (cl.rs.drop j) = cb)) (fun v67 _ => rk - (intOf v67).toNat)
      case atStart => exact ⟨0, _, _, Nat.zero_le _, rfl, HJ1⟩
      case round =>
        clear HJ HN HJ1 x0 x1 xn
        obtain ⟨j, v, bs, hj, rfl, HJ⟩ := hrel
        obtain ⟨w6, rfl⟩ : ∃ v, v = wr := ⟨_, rfl⟩
        have x0 : w6.cell? ⟨q, 0, none⟩ = some (.slice fA m cl.fc) := HJ.out.1.c.blk.cell 0
        have x1 : w6.cell? ⟨q, 1, none⟩ = some (.slice rA rk cl.rc) := HJ.out.1.c.blk.cell 1
        have xn : w6.cell? ⟨pn, 0, none⟩ = some (.func (.func 26) #[] #[.pointer (some ⟨pb, 0, none⟩)]) := HJ.out.1.n.blk.cell 0
        by_cases hlj : j < rk
        · have hd : decide ((j : Int) < (rk : Int)) = true := by simpa using hlj
          obtain ⟨x, hx⟩ : ∃ x, cl.rs[j]? = some x := ⟨_, List.getElem?_eq_getElem (by rw [HI.out.2.2.2.2]; exact hlj)⟩
          obtain ⟨ba, oa, eA, _, _, z0, z1, hok⟩ := (HFS.out w6 HJ.out.1.b).2.get hx
          have eA2 : rA = some ⟨ba, oa, none⟩ := by rw [← HFA.out.2]; exact eA
          subst eA2
          obtain ⟨r1, r2⟩ := x
          have HJ0 := Lib.hid (And.intro HJ.out.1 (show bs ++ (tb r1 ++ (tb r2 ++ rbs (cl.rs.drop (j + 1)))) = cb by
            have h := HJ.out.2
            rw [drop_rt hx, rbs] at h
            exact h))
          replace z0 : w6.cell? ⟨ba, oa + j * 2, none⟩ = some (.string (str r1)) := z0
          replace z1 : w6.cell? ⟨ba, oa + j * 2 + 1, none⟩ = some (.string (str r2)) := z1
          obtain ⟨w7, hw7⟩ : ∃ W, w6.alloc (.cells #[.string (str r1), .string (str r2)] 48) = W := ⟨_, rfl⟩
          have hb7 : Below w6.heap.size w6 w7 := by rw [← hw7]; exact (Below.refl _ _).alloc (Nat.le_refl _) _
          have B7 : Blk w7 w6.heap.size 48 #[.string (str r1), .string (str r2)] := by rw [← hw7]; exact Blk.new _ _ _
          have hbx7 : Box w7 pb v w6.heap.size 48 #[.string (str r1), .string (str r2)] := ⟨B7, fun e => by have := HJ.out.1.wb.blk.lt; omega, fun e => by have := (HJ.out.1.wb.own.lt _ e).2; omega⟩
          obtain ⟨q9, hq9⟩ : ∃ q, w6.heap.size = q := ⟨_, rfl⟩
          rw [hq9] at hbx7
          have HB0 := Lib.hid hbx7
          have HJ9 := Lib.hid (And.intro (HJ0.out.1.bel hb7) HJ0.out.2)
          have HW := Lib.hid (And.intro hw7 (And.intro hq9 hlj))
          clear hx hok hb7 B7 hbx7 hw7 hq9 HJ0
          go_upto_region 23 with fail
          (try rw [HW.out.1])
          (try rw [HW.out.2.1])
          clear z0 z1 x0 x1 xn
          have xn : w7.cell? ⟨pn, 0, none⟩ = some (.func (.func 26) #[] #[.pointer (some ⟨pb, 0, none⟩)]) := HJ9.out.1.n.blk.cell 0
          have y0 : w7.cell? ⟨q9, 0, none⟩ = some (.string (str r1)) := HB0.out.blk.cell 0
          go_wp2_with fail
          refine (HJ9.out.1.text r1 (wmid HJ9.out.2 HI.out.2.1) (wlen HJ9.out.2 HI.out.2.1)).mono ?_
          rintro e u0x ⟨rfl, v0x, hJ, hsz, hbx⟩
          have HK0 := Lib.hid (And.intro hJ (wstep HJ9.out.2))
          have HC0 := Lib.hid (hbx _ _ _ HB0.out)
          clear hJ hsz hbx xn y0
          have xn : u0x.cell? ⟨pn, 0, none⟩ = some (.func (.func 26) #[] #[.pointer (some ⟨pb, 0, none⟩)]) := HK0.out.1.n.blk.cell 0
          have y0 : u0x.cell? ⟨q9, 1, none⟩ = some (.string (str r2)) := HC0.out.blk.cell 1
          go_wp2_with fail
          refine (HK0.out.1.text r2 (wmid HK0.out.2 HI.out.2.1) (wlen HK0.out.2 HI.out.2.1)).mono ?_
          rintro e u1x ⟨rfl, v1x, hJ, hsz, hbx⟩
          have HK1 := Lib.hid (And.intro hJ (wstep HK0.out.2))
          have HC1 := Lib.hid (hbx _ _ _ HC0.out)
          clear hJ hsz hbx xn y0
          go_wp2_with fail
          go_roundw
          case rel => exact ⟨j + 1, _, _, by have := HW.out.2.2; omega, by go_num, HK1⟩
          case measure => have := HW.out.2.2; simp [intOf]; omega
        · obtain rfl : rk = j := by omega
          have hd : decide ((rk : Int) < (rk : Int)) = false := by simp
          have HZ : Hid (bs = cb) := Lib.hid (by
            have h := HJ.out.2
            rw [List.drop_of_length_le (by rw [HI.out.2.2.2.2]; exact Nat.le_refl _), rbs, List.append_nil] at h
            exact h)
          have HE : Hid (w6.ownsRow w.heap.size 5 1 v cb.length (cb.map bv) ∧ Below w.heap.size w w6) := Lib.hid ⟨by rw [← HZ.out]; exact own_base HJ.out.1.wb.own (by have h1 := HJ.out.1.lt; have h2 := HJ.out.1.wb.lt; omega), HJ.out.1.b⟩
          have xb : w6.cell? ⟨pb, 0, none⟩ = some v := HJ.out.1.wb.blk.cell 0
          clear x0 x1 xn
          go_wp2_with fail
          go_ret
          exact ⟨_, rfl, HE.out⟩
end Go.Proofs.Ytimkiifcmegfeaa
