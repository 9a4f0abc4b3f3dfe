/- stamp, numbers too: of the library: a Builder. -/
import Derived.Test.YtadogebhkldeiaaGreatDoorZNu
import Derived.Test.YtadogebhkldeiaaGreatDoorTake
import Derived.Shelf.Strings.Builder1
import Derived.Shelf.LaysM
import Derived.Lib.AppendStr
namespace Go.Proofs.YtadogebhkldeiaaGreatDoor
open Go.RowKit Go.Shelf
set_option linter.unusedVariables false
set_option linter.unusedSimpArgs false
theorem lt_of_heap {w : World} {g : Nat} {o : Obj} (h : w.heap[g]? = some o) : g < w.heap.size := by
  rcases Nat.lt_or_ge g w.heap.size with hlt | hge
  · exact hlt
  · rw [Array.getElem?_eq_none hge] at h; cases h
theorem run_app8 (w : World) (base : Nat) (v : Value) (n : Nat) (xs : List UInt8) (hown : w.ownsRow base 5 1 v n (xs.map bv)) (A : Option Addr) (len c : Nat) (bs : List UInt8) (hlen : bs.length = len) (hA : Bytes w A bs)
    (hb : n + len ≤ 140737488355328) (hbase : base ≤ w.heap.size) :
    ∃ v' w', (Builtin.append_ #[91, 91] 91 #[v, .slice A len c]).run Tryz.prog w = .ok v' w' ∧ w'.ownsRow base 5 1 v' (n + len) ((xs ++ bs).map bv) ∧ w.grownBy w' v.ownBlock := by
  obtain ⟨i0, hi, hz0, hz1, hz2⟩ := info_parts Tryz.info8
  have hcells : ∀ (a : Addr), A = some a → ∀ (j : Nat) (u : Value), (bs.map bv)[j]? = some u → w.cell? (a.add j) = some u := fun a e j u hu => by
    rw [List.getElem?_map] at hu
    cases hj : bs[j]? with
    | none => rw [hj] at hu; cases hu
    | some d =>
      rw [hj] at hu
      simp only [Option.map_some, Option.some.injEq] at hu
      subst hu
      obtain ⟨b, off, e', _, hc⟩ := hA j d hj
      rw [e] at e'; cases e'
      have e2 : (⟨b, off, none⟩ : Addr).add j = ⟨b, off + j, none⟩ := by unfold Addr.add; split <;> simp_all
      rw [e2]; exact hc
  have h1 : ∀ u ∈ bs.map bv, u.oneCell' = true := fun u hu => by obtain ⟨d, _, rfl⟩ := List.mem_map.1 hu; rfl
  cases A with
  | some a =>
    obtain ⟨v', w', hrun, h2, h3, _, _⟩ := run_append_own_at (P := Tryz.prog) w base 91 91 5 i0 (.int .u8 0) 1 1 Tryz.underlying91 hi hz0 hz1 hz2 rfl (by decide) v n (xs.map bv) hown a len c (bs.map bv) (by simp; omega) (hcells a rfl) h1 (by unfold maxLen; omega) (by omega) hbase
    exact ⟨v', w', hrun, by rw [List.map_append]; exact h2, h3⟩
  | none =>
    have h0 : bs = [] := by
      cases bs with
      | nil => rfl
      | cons d r =>
        obtain ⟨b, off, e, _⟩ := hA 0 d rfl
        cases e
    subst h0
    obtain rfl : 0 = len := hlen
    refine ⟨v, w, ?_, by simpa using hown, World.grownBy.refl w _⟩
    rcases hown.2 with ⟨rfl, rfl⟩ | ⟨g, cap, cur, rfl, _, _, hnc, _⟩
    · simp [Builtin.append_, run_underlying Tryz.underlying91, sizeOf, typeInfo, hi, Builtin.lenOf, Builtin.firstCells]
    · simp [Builtin.append_, run_underlying Tryz.underlying91, sizeOf, typeInfo, hi, Builtin.lenOf, Builtin.firstCells, hnc, storeCells]

theorem str_size (bs : List UInt8) : (str bs).size = bs.length := by simp [str, ByteArray.size]
theorem wpList_app2 {P : Program} {w : World} {ops : Array Oper} {rest : List Oper} {o : Oper} {a : Act} {Q : Exit → Act → World → Prop} (hgd : o.guard = none) (s x : Operand) (t tx : TypeId)
    (ho : o.op = .call { callee := .builtin .append, args := #[s, x], argTypes := #[t, tx] }) (v xv v' : Value) (w' : World) (hs : a.eval s = v) (hx : a.eval x = xv)
    (hrun : (Builtin.append_ #[t, tx] o.type #[v, xv]).run P w = .ok v' w') (h : wpList P ops Q rest (a.put o.dst v') w') : wpList P ops Q (o :: rest) a w :=
  wpList_plain hgd fun K hK => by
    unfold Oper.wp execOp
    simp only [ho, resolve, invoke, builtin, Sem.run_bind, Sem.run_pure, Result.andThen_ok, List.map_toArray, List.map_cons, List.map_nil, hs, hx, hrun]
    exact hK _ _ h

def stringRen : Go.Shelf.Ren := ⟨fun | 169 => 35 | n => n, fun | 70 => 90 | 9 => 9 | 0 => 0 | 72 => 93 | 37 => 91 | 127 => 110 | 3 => 3 | 5 => 5 | n => n, fun | n => n⟩
theorem stringLays : Go.Proofs.Lays.n169 Tryz.prog stringRen := {
  mixed := by kernel_rfl
  f169 := Tryz.func35.trans (congrArg some (by kernel_rfl))
  t0 := Tryz.underlying0
  a0 := Tryz.isAgg0
  z0 := Tryz.sizeOf0
  v0 := Tryz.zeroValue0
  t3 := Tryz.underlying3
  a3 := Tryz.isAgg3
  z3 := Tryz.sizeOf3
  v3 := Tryz.zeroValue3
  t9 := Tryz.underlying9
  a9 := Tryz.isAgg9
  z9 := Tryz.sizeOf9
  v9 := Tryz.zeroValue9
  t37 := Tryz.underlying91
  a37 := Tryz.isAgg91
  z37 := Tryz.sizeOf91
  v37 := Tryz.zeroValue91
  t70 := Tryz.underlying90
  a70 := Tryz.isAgg90
  z70 := Tryz.sizeOf90
  v70 := Tryz.zeroValue90
  t72 := Tryz.underlying93
  a72 := Tryz.isAgg93
  z72 := Tryz.sizeOf93
  v72 := Tryz.zeroValue93
  t127 := Tryz.underlying110
  a127 := Tryz.isAgg110
  z127 := Tryz.sizeOf110
  v127 := Tryz.zeroValue110 }
theorem stringExtra : Builder.Extra Tryz.prog stringRen := {
  sizeBuilder := by kernel_rfl
  liesBuilder := by kernel_rfl
  t5 := Tryz.underlying5
  a5 := Tryz.isAgg5
  z5 := Tryz.sizeOf5
  v5 := Tryz.zeroValue5
  infoByte := by kernel_rfl
  cellsByte := by kernel_rfl
  sizeByte := by kernel_rfl
  neB5 := by decide }
theorem byteCells_bv (l : List UInt8) : Lib.byteCells l = l.map bv := rfl
theorem strCells_str (l : List UInt8) : Lib.strCells (str l) = l.map bv := rfl
/-- A builder that has a text, apart from X. -/
structure Bd (B : Nat) (X : Nat → Prop) (b : Nat) (l : List UInt8) (w : World) (p v : Value) : Prop where
  ptr : p = .pointer none ∨ p = .pointer (some ⟨b, 0, none⟩)
  at_ : w.heap[b]? = some (.cells #[p, v] 93 (0, 0))
  low : B ≤ b
  own : w.ownsRow B 5 1 v l.length (l.map bv)
  ne : v.ownBlock ≠ some b
  off : ∀ k, X k → k < w.heap.size ∧ k ≠ b ∧ v.ownBlock ≠ some k
  num : NumK B w
def IsB (B : Nat) (X : Nat → Prop) (b : Nat) (l : List UInt8) (w : World) : Prop := ∃ p v, Bd B X b l w p v
section
variable {B : Nat} {X Y : Nat → Prop} {b : Nat} {l : List UInt8} {w w' : World} {p v : Value}
theorem Bd.at0 (h : Bd B X b l w p v) : Lib.BuilderAt 93 5 B b p (l.map bv) w := ⟨h.low, v, h.at_, by rw [List.length_map]; exact h.own, h.ne⟩
theorem IsB.mono (h : IsB B X b l w) (hX : ∀ k, Y k → X k) : IsB B Y b l w := by
  obtain ⟨p, v, h⟩ := h
  exact ⟨p, v, h.ptr, h.at_, h.low, h.own, h.ne, fun k hk => h.off k (hX k hk), h.num⟩
theorem IsB.builder (h : IsB B X b l w) : Lib.IsBuilder 93 5 B b (l.map bv) w := by
  obtain ⟨p, v, h⟩ := h
  rcases h.ptr with rfl | rfl
  · exact .inl h.at0
  · exact .inr h.at0
/-- New blocks come. -/
theorem IsB.bel (h : IsB B X b l w) (hb : Below w.heap.size w w') (hY : ∀ k, Y k → X k ∨ (w.heap.size ≤ k ∧ k < w'.heap.size)) : IsB B Y b l w' := by
  obtain ⟨p, v, h⟩ := h
  have hlt : b < w.heap.size := lt_of_heap h.at_
  refine ⟨p, v, h.ptr, (hb.block b hlt).trans h.at_, h.low, own_below h.own hb, h.ne, fun k hk => ?_, h.num.bel (hb.mono (Nat.le_trans h.low (Nat.le_of_lt hlt)))⟩
  rcases hY k hk with h1 | h1
  · have := h.off k h1
    exact ⟨Nat.lt_of_lt_of_le this.1 hb.size, this.2⟩
  · exact ⟨h1.2, by omega, fun e => by have := (h.own.lt k e).2; omega⟩
theorem IsB.lt (h : IsB B X b l w) : b < w.heap.size := by
  obtain ⟨p, v, h⟩ := h
  exact lt_of_heap h.at_
end
set_option maxRecDepth 20000 in
theorem copyCheck_bd {B : Nat} {X : Nat → Prop} {b : Nat} {l : List UInt8} {w : World} {p v : Value} (hbd : Bd B X b l w p v) :
    Calls Tryz.prog 49 #[.pointer (some ⟨b, 0, none⟩)] w fun e w' => e = .returned (.tuple #[]) ∧ Bd B X b l w' (.pointer (some ⟨b, 0, none⟩)) v ∧ Off (fun k => k = b) w w' := by
  obtain ⟨j, hj, hjs⟩ := Option.map_eq_some_iff.1 (show (Tryz.prog.info? 93).map (·.size) = some 2 by kernel_rfl)
  have h := hbd.at0
  rcases hbd.ptr with rfl | rfl
  · have c0 := h.cell0
    have hsh := h.shape
    have hfz := h.frozen0
    have ho : Off (fun k => k = b) w (w.setCell ⟨b, 0, none⟩ (.pointer (some ⟨b, 0, none⟩))) := Off.setc w b 0 _
    have hB : Blk w b 93 #[.pointer none, v] := hbd.at_
    have HU : Hid (Bd B X b l (w.setCell ⟨b, 0, none⟩ (.pointer (some ⟨b, 0, none⟩))) (.pointer (some ⟨b, 0, none⟩)) v ∧ Off (fun k => k = b) w (w.setCell ⟨b, 0, none⟩ (.pointer (some ⟨b, 0, none⟩)))) := Lib.hid ⟨⟨.inr rfl, by
      have h1 : Blk (w.setCell ⟨b, 0, none⟩ (.pointer (some ⟨b, 0, none⟩))) b 93 #[.pointer (some ⟨b, 0, none⟩), v] := by simpa using hB.set_ 0 (.pointer (some ⟨b, 0, none⟩))
      exact h1, hbd.low, by
      refine ⟨hbd.own.1, ?_⟩
      rcases hbd.own.2 with h0 | ⟨g, cap, cur, e2, h5, h6, h7⟩
      · exact .inl h0
      · refine .inr ⟨g, cap, cur, e2, h5, (ho.block g (Array.getElem?_eq_some_iff.1 h6).1 (fun e3 => hbd.ne (by rw [e2, e3]; rfl))).trans h6, h7⟩, hbd.ne, fun k hk => ⟨Nat.lt_of_lt_of_le (hbd.off k hk).1 ho.size, (hbd.off k hk).2⟩, hbd.num.bel (ho.below (Nat.le_trans hbd.low (Nat.le_of_lt (lt_of_heap hbd.at_))) fun k e => by subst e; exact hbd.low)⟩, ho⟩
    clear h hbd ho hB
    go_enter Tryz.func49, Tryz.ntmps49
    go_wp2
    rw [Lib.run_to_unsafe w ⟨b, 0, none⟩ Tryz.underlying90 Tryz.underlying124 hj (by rw [hjs]; decide) hsh (Nat.zero_lt_succ 1)]
    simp only [Result.andThen]
    rw [Oper.upon_value]
    go_wp2
    rw [run_callFunc_extern Tryz.func61 (by kernel_rfl) (by kernel_rfl) (by kernel_rfl) (e := Extern.AbiNoEscape.same) (by kernel_rfl)]
    rw [Lib.run_noEscape]
    simp only [Result.andThen]
    rw [Oper.upon_value]
    go_wp2
    rw [Lib.run_from_unsafe w ⟨b, 0, none⟩ Tryz.underlying124 Tryz.underlying90 hj hsh (by kernel_rfl)]
    simp only [Result.andThen]
    rw [Oper.upon_value]
    go_wp2
    go_end0
    exact ⟨rfl, HU.out⟩
  · have c0 := h.cell0
    have HU := Lib.hid hbd
    have hne := Lib.run_neq_ptr_same (P := Tryz.prog) (w := w) (⟨b, 0, none⟩ : Addr) Tryz.underlying90 hj
    clear h hbd
    go_enter Tryz.func49, Tryz.ntmps49
    go_wp2
    go_end0
    exact ⟨rfl, HU.out, Off.refl _ _⟩
/-- Behind an append. -/
theorem Bd.app {B : Nat} {X : Nat → Prop} {b : Nat} {l s : List UInt8} {w1 w2 : World} {v v' : Value} (h : Bd B X b l w1 (.pointer (some ⟨b, 0, none⟩)) v) (hO : w2.ownsRow B 5 1 v' (l.length + s.length) ((l ++ s).map bv)) (hg : w1.grownBy w2 v.ownBlock) (hn : v'.ownBlock = v.ownBlock ∨ ∀ k, v'.ownBlock = some k → w1.heap.size ≤ k) :
    Blk w2 b 93 #[.pointer (some ⟨b, 0, none⟩), v] ∧ Bd B X b (l ++ s) (w2.setCell ⟨b, 1, none⟩ v') (.pointer (some ⟨b, 0, none⟩)) v' ∧ Off (fun k => ¬ X k) w1 (w2.setCell ⟨b, 1, none⟩ v') := by
  have hlt : b < w1.heap.size := lt_of_heap h.at_
  have ho : Off (fun k => v.ownBlock = some k) w1 w2 := Off.of_grown hg
  have hB : Blk w2 b 93 #[.pointer (some ⟨b, 0, none⟩), v] := (ho.block b hlt h.ne).trans h.at_
  have hs := Off.setc w2 b 1 v'
  have hnb : v'.ownBlock ≠ some b := fun e => by
    rcases hn with e2 | e2
    · exact h.ne (e2 ▸ e)
    · have := e2 b e; omega
  have hbl : B ≤ w1.heap.size := Nat.le_trans h.low (Nat.le_of_lt hlt)
  refine ⟨hB, ⟨.inr rfl, ?_, h.low, ?_, hnb, fun k hk => ?_, (h.num.bel (ho.below hbl fun k e => (h.own.lt k e).1)).bel (hs.below (Nat.le_trans hbl ho.size) fun k e => by subst e; exact h.low)⟩, ?_⟩
  · have h1 : Blk (w2.setCell ⟨b, 1, none⟩ v') b 93 #[.pointer (some ⟨b, 0, none⟩), v'] := by simpa using hB.set_ 1 v'
    exact h1
  · rw [List.length_append]
    refine ⟨hO.1, ?_⟩
    rcases hO.2 with h0 | ⟨g, cap, cur, e2, h5, h6, h7⟩
    · exact .inl h0
    · exact .inr ⟨g, cap, cur, e2, h5, (hs.block g (Array.getElem?_eq_some_iff.1 h6).1 (fun e3 => hnb (by rw [e2, e3]; rfl))).trans h6, h7⟩
  · obtain ⟨k1, k2, k3⟩ := h.off k hk
    refine ⟨Nat.lt_of_lt_of_le k1 (Nat.le_trans ho.size hs.size), k2, fun e => ?_⟩
    rcases hn with e2 | e2
    · exact k3 (e2 ▸ e)
    · have := e2 k e; omega
  · exact (ho.mono (G := fun k => ¬ X k) (fun k _ hk hX => (h.off k hX).2.2 hk)).trans (hs.mono (fun k _ hk hX => (h.off k hX).2.1 hk))
/-- append of a text: the row stays, or is a new one. -/
theorem app_str (B : Nat) (w : World) (hBw : B ≤ w.heap.size) (v : Value) (n : Nat) (xs : List Value) (hown : w.ownsRow B 5 1 v n xs) (s : ByteArray) (hs : n + s.size ≤ 140737488355328) :
    ∃ v' w', (Builtin.append_ #[91, 9] 91 #[v, .string s]).run Tryz.prog w = .ok v' w' ∧ w'.ownsRow B 5 1 v' (n + s.size) (xs ++ Lib.strCells s) ∧ w.grownBy w' v.ownBlock ∧ (v'.ownBlock = v.ownBlock ∨ ∀ k, v'.ownBlock = some k → w.heap.size ≤ k) := by
  obtain ⟨i0, hi, hz0, hz1, hz2⟩ := info_parts Tryz.info8
  obtain ⟨v', w', hrun, hO, hg, _⟩ := Lib.run_append_own_string (P := Tryz.prog) w B 91 9 91 5 i0 Tryz.underlying91 Tryz.underlying9 hi hz0 hz1 hz2 v n xs hown s (by unfold maxLen; omega) hs hBw
  refine ⟨v', w', hrun, hO, hg, ?_⟩
  have hxl : xs.length = n := by simpa using hown.1
  rcases hown.2 with ⟨rfl, rfl⟩ | ⟨g, cap, cur, rfl, hbg, hg2, hnc, hcm, hcs, htake⟩
  · have hx : xs = [] := List.eq_nil_of_length_eq_zero hxl
    subst hx
    obtain ⟨v2, w2, hr2, hO2, _, _⟩ := Lib.run_append_own_string (P := Tryz.prog) w w.heap.size 91 9 91 5 i0 Tryz.underlying91 Tryz.underlying9 hi hz0 hz1 hz2 (.slice none 0 0) 0 [] (World.ownsRow_nil _ _ _ _) s (by unfold maxLen; omega) hs (Nat.le_refl _)
    rw [hrun] at hr2
    injection hr2 with e1 e2
    subst e1
    exact .inr fun k hk => by
      rcases hO2.2 with ⟨e3, _⟩ | ⟨g, _, _, e3, h5, _⟩
      · rw [e3] at hk; cases hk
      · rw [e3] at hk; cases hk; exact h5
  · by_cases hroom : n + s.size ≤ cap
    · have hcs' : cur.size = cap := by simpa using hcs
      have hr := Lib.run_append_room_string (P := Tryz.prog) w 91 9 91 5 i0 Tryz.underlying91 Tryz.underlying9 hi hz1 g n cap cur hg2 s hroom (by omega)
      rw [hrun] at hr
      injection hr with e1 e2
      exact .inl (by rw [e1]; rfl)
    · have holds : ∀ j u, xs[j]? = some u → w.cell? ((⟨g, 0, none⟩ : Addr).add j) = some u := hown.cells (g := g) rfl
      have hr := Lib.run_append_grow_string (P := Tryz.prog) w 91 9 91 5 i0 (.int .u8 0) Tryz.underlying91 Tryz.underlying9 hi hz0 ⟨g, 0, none⟩ n cap xs (by rw [hz1]; simpa using hxl) holds s (by omega) (by omega) (by rw [hz2]; exact growslice_fits (by omega) (by omega))
      rw [hrun] at hr
      injection hr with e1 e2
      exact .inr fun k hk => by rw [e1] at hk; cases hk; exact Nat.le_refl _
set_option maxRecDepth 20000 in
theorem ws_any {B : Nat} {X : Nat → Prop} {b : Nat} {l : List UInt8} {w : World} (h : IsB B X b l w) (s : List UInt8) (z : ByteArray) (hz : str s = z) (hlen : l.length + s.length < 4294967296) :
    Calls Tryz.prog 36 #[.pointer (some ⟨b, 0, none⟩), .string z] w fun e w' => e = .returned (.tuple #[.int .i64 (s.length : Int), .nilIface]) ∧ IsB B X b (l ++ s) w' ∧ Off (fun k => ¬ X k) w w' := by
  obtain ⟨p, v, hbd⟩ := h
  have H := Lib.hid (copyCheck_bd hbd)
  have hsz : z.size = s.length := by rw [← hz, str_size]
  obtain ⟨sl, hsl⟩ : ∃ sl, s.length = sl := ⟨_, rfl⟩
  rw [hsl] at hlen hsz ⊢
  have HS := Lib.hid (And.intro hz (And.intro hsl fun k hk => (hbd.off k hk).2.1))
  clear hbd hz hsl
  go_enter Tryz.func36, Tryz.ntmps36
  go_wp2_with fail
  refine H.out.mono ?_
  rintro e w1 ⟨rfl, h1, ho1⟩
  have c0 : w1.cell? ⟨b, 0, none⟩ = some (.pointer (some ⟨b, 0, none⟩)) := by rw [Lib.cell_of_heap h1.at_]; rfl
  have c1 : w1.cell? ⟨b, 1, none⟩ = some v := by rw [Lib.cell_of_heap h1.at_]; rfl
  obtain ⟨v', w2, hrun, hO, hg, hn⟩ := app_str B w1 (Nat.le_trans h1.low (Nat.le_of_lt (lt_of_heap h1.at_))) v l.length (l.map bv) h1.own z (by omega)
  rw [hsz, ← HS.out.1, strCells_str, ← List.map_append, ← HS.out.2.1] at hO
  obtain ⟨hB2, hbd2, ho2⟩ := h1.app hO hg hn
  have d0 : w2.cell? ⟨b, 0, none⟩ = some (.pointer (some ⟨b, 0, none⟩)) := hB2.cell 0
  have d1 : w2.cell? ⟨b, 1, none⟩ = some v := hB2.cell 1
  have f1 : w2.frozen? ⟨b, 1, none⟩ = false := hB2.frozen 1
  have HR := Lib.hid hrun
  have HP : Hid (IsB B X b (l ++ s) (w2.setCell ⟨b, 1, none⟩ v') ∧ Off (fun k => ¬ X k) w (w2.setCell ⟨b, 1, none⟩ v')) := Lib.hid ⟨⟨_, _, hbd2⟩, (ho1.mono fun k _ e hX => HS.out.2.2 k hX e).trans ho2⟩
  obtain ⟨A, cap, rfl⟩ : ∃ A cap, v' = .slice A (l.length + sl) cap := by
    rw [HS.out.2.1] at hO
    rcases hO.2 with ⟨hv, h0⟩ | ⟨g, cap, cur, hv, _⟩
    · exact ⟨none, 0, by rw [hv, h0]⟩
    · exact ⟨_, cap, hv⟩
  clear hrun hO hB2 hg hn hbd2 ho2 h1 ho1
  go_wp2_with (at_builtin; refine wpList_app2 rfl _ _ 91 9 rfl _ _ _ _ rfl rfl HR.out ?_)
  go_ret2
  exact ⟨by first | rfl | (rw [hsz]), HP.out⟩
set_option maxRecDepth 20000 in
theorem wb_any {B : Nat} {X : Nat → Prop} {b : Nat} {l : List UInt8} {w : World} (h : IsB B X b l w) (c : UInt8) (z : Int) (hz : (c.toNat : Int) = z) (hlen : l.length < 4294967295) :
    Calls Tryz.prog 42 #[.pointer (some ⟨b, 0, none⟩), .int .u8 z] w fun e w' => e = .returned .nilIface ∧ IsB B X b (l ++ [c]) w' ∧ Off (fun k => ¬ X k) w w' := by
  obtain ⟨p, v, hbd⟩ := h
  obtain ⟨i0, hi, hz0, hz1, hz2⟩ := info_parts Tryz.info8
  have H := Lib.hid (copyCheck_bd hbd)
  have HS := Lib.hid (And.intro hz fun k hk => (hbd.off k hk).2.1)
  clear hbd hz
  go_enter Tryz.func42, Tryz.ntmps42
  go_wp2_with fail
  refine H.out.mono ?_
  rintro e w1 ⟨rfl, h1, ho1⟩
  have c0 : w1.cell? ⟨b, 0, none⟩ = some (.pointer (some ⟨b, 0, none⟩)) := by rw [Lib.cell_of_heap h1.at_]; rfl
  have c1 : w1.cell? ⟨b, 1, none⟩ = some v := by rw [Lib.cell_of_heap h1.at_]; rfl
  obtain ⟨w3, hw3⟩ : ∃ W, w1.alloc (.cells #[.int .u8 z] 5) = W := ⟨_, rfl⟩
  have hb3 : Below w1.heap.size w1 w3 := by rw [← hw3]; exact (Below.refl _ _).alloc (Nat.le_refl _) _
  have hB3 : Blk w3 w1.heap.size 5 #[.int .u8 z] := by rw [← hw3]; exact Blk.new _ _ _
  have h3 : Bd B X b l w3 (.pointer (some ⟨b, 0, none⟩)) v := ⟨.inr rfl, (hb3.block b (lt_of_heap h1.at_)).trans h1.at_, h1.low, own_below h1.own hb3, h1.ne, fun k hk => ⟨Nat.lt_of_lt_of_le (h1.off k hk).1 hb3.size, (h1.off k hk).2⟩, h1.num.bel (hb3.mono (Nat.le_trans h1.low (Nat.le_of_lt (lt_of_heap h1.at_))))⟩
  obtain ⟨v', w2, hrun, hO, hg, _, hn⟩ := run_append_own_at (P := Tryz.prog) w3 B 91 91 5 i0 (.int .u8 0) 1 1 Tryz.underlying91 hi hz0 hz1 hz2 rfl (by decide) v l.length _ h3.own ⟨w1.heap.size, 0, none⟩ 1 1 [bv c] rfl (fun j u hj => by
    cases j with
    | zero =>
      simp at hj
      subst hj
      have := hB3.cell 0
      unfold bv
      rw [HS.out.1]
      exact this
    | succ j => simp at hj) (fun u hu => by rw [List.mem_singleton.1 hu]; rfl) (by unfold maxLen; omega) (by omega) (by have := h3.low; have := lt_of_heap h3.at_; omega)
  have hO' : w2.ownsRow B 5 1 v' (l.length + [c].length) ((l ++ [c]).map bv) := by rw [List.map_append]; exact hO
  obtain ⟨hB2, hbd2, ho2⟩ := h3.app hO' hg (hn.imp id fun e k hk => by rw [e] at hk; cases hk; exact Nat.le_refl _)
  have d0 : w2.cell? ⟨b, 0, none⟩ = some (.pointer (some ⟨b, 0, none⟩)) := hB2.cell 0
  have d1 : w2.cell? ⟨b, 1, none⟩ = some v := hB2.cell 1
  have f1 : w2.frozen? ⟨b, 1, none⟩ = false := hB2.frozen 1
  have HR := Lib.hid hrun
  have HP : Hid (IsB B X b (l ++ [c]) (w2.setCell ⟨b, 1, none⟩ v') ∧ Off (fun k => ¬ X k) w (w2.setCell ⟨b, 1, none⟩ v')) := Lib.hid ⟨⟨_, _, hbd2⟩, (ho1.mono fun k _ e hX => HS.out.2 k hX e).trans ((Off.of_new hb3 _).trans ho2)⟩
  obtain ⟨A, cap, rfl⟩ : ∃ A cap, v' = .slice A (l.length + 1) cap := by
    rcases hO.2 with ⟨hv, h0⟩ | ⟨g, cap, cur, hv, _⟩
    · omega
    · exact ⟨_, cap, hv⟩
  clear hrun hO hO' hB2 hg hn hbd2 ho2 h1 ho1 hb3 hB3 h3 hi hz0 hz1 hz2
  go_wp2_with (at_builtin; refine wpList_app rfl _ _ 91 rfl _ _ _ _ rfl rfl HR.out ?_)
  go_ret
  exact ⟨rfl, HP.out⟩
set_option maxRecDepth 20000 in
theorem number_any {B : Nat} {X : Nat → Prop} {b : Nat} {l : List UInt8} {w : World} (h : IsB B X b l w) (n : Int) (h0 : -9223372036854775808 ≤ n) (h1 : n ≤ 9223372036854775807) (hlen : l.length + (numT n).length < 4294967296) :
    Calls Tryz.prog 37 #[.pointer (some ⟨b, 0, none⟩), .int .i64 n] w fun e w' => e = .returned (.tuple #[]) ∧ IsB B X b (l ++ numT n) w' ∧ Off (fun k => ¬ X k) w w' := by
  have hnk : NumK B w := by obtain ⟨p, v, h⟩ := h; exact h.num
  have hbl : B ≤ w.heap.size := by obtain ⟨p, v, h⟩ := h; exact Nat.le_trans h.low (Nat.le_of_lt (lt_of_heap h.at_))
  have HF := Lib.hid (format_any hnk hbl n h0 h1)
  have HI := Lib.hid (And.intro h (And.intro hnk (And.intro hbl (And.intro h0 (And.intro h1 hlen)))))
  clear h hnk hbl h0 h1 hlen
  go_enter Tryz.func37, Tryz.ntmps37
  go_wp2_with fail
  refine HF.out.mono ?_
  rintro e w1 ⟨rfl, hb1⟩
  have HR := Lib.hid (replace_any (HI.out.2.1.bel (hb1.mono HI.out.2.2.1)) n HI.out.2.2.2.1 HI.out.2.2.2.2.1)
  have HB := Lib.hid hb1
  clear hb1 HF
  go_wp2_with fail
  refine HR.out.mono ?_
  rintro e w2 ⟨rfl, hb2⟩
  have hb02 := HB.out.trans (hb2.mono HB.out.size)
  have HI2 := Lib.hid (And.intro (HI.out.1.bel hb02 fun k hk => .inl hk) hb02)
  clear hb2 hb02 HR
  go_wp2_with fail
  refine (ws_any HI2.out.1 (numT n) _ rfl HI.out.2.2.2.2.2).mono ?_
  rintro e w3 ⟨rfl, h3, o3⟩
  have HP := Lib.hid (And.intro h3 ((Off.of_new HI2.out.2 (fun k => ¬ X k)).trans o3))
  clear h3 o3
  go_wp2_with fail
  go_end0
  exact ⟨rfl, HP.out⟩
theorem bstring_any {B : Nat} {X : Nat → Prop} {b : Nat} {l : List UInt8} {w : World} (h : IsB B X b l w) :
    Calls Tryz.prog 35 #[.pointer (some ⟨b, 0, none⟩)] w fun e w' => e = .returned (.string (str l)) ∧ Below B w w' :=
  Any.Builder_String_any stringLays stringExtra B b l w h.builder (by obtain ⟨p, v, h⟩ := h; exact Nat.le_trans h.low (Nat.le_of_lt (lt_of_heap h.at_)))
end Go.Proofs.YtadogebhkldeiaaGreatDoor
