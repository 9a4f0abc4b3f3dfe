/- Words for memory: a block known whole; a slice value that reads as a list of bytes; a made row of bytes. -/
import Derived.Test.YtiemfhncadcemaaRows
import Derived.WalkKit
import Derived.WalkSpells
import Derived.WalkLawsBesides
import Derived.Laws.CopyOwn
import Derived.Laws.MakeOwn
import Derived.Lib.Hide
import Derived.RangeFuncBox
import Derived.Deep.Draws
import Derived.Lib.BufferRead
import Derived.ProofKit
import Derived.Maps.AppendAt
namespace Go.Proofs.Ytiemfhncadcemaa
open Go.RowKit

def Blk (w : World) (g : Nat) (t : TypeId) (cs : Array Value) : Prop := w.heap[g]? = some (.cells cs t (0, 0))

section
variable {w w' : World} {g : Nat} {t : TypeId} {cs : Array Value}
theorem Blk.lt (h : Blk w g t cs) : g < w.heap.size := by
  rcases Nat.lt_or_ge g w.heap.size with hlt | hge
  · exact hlt
  · unfold Blk at h; rw [Array.getElem?_eq_none hge] at h; cases h
theorem Blk.cell (h : Blk w g t cs) (i : Nat) : w.cell? ⟨g, i, none⟩ = cs[i]? := cell_of_row w g i cs t (0, 0) h
theorem Blk.frozen (h : Blk w g t cs) (i : Nat) : w.frozen? ⟨g, i, none⟩ = false := by
  unfold Blk at h
  simp [World.frozen?, h]
theorem Blk.new (w : World) (t : TypeId) (cs : Array Value) : Blk (w.alloc (.cells cs t)) w.heap.size t cs := heap_alloc_new w _
theorem Blk.drew (h : Blk w g t cs) : Blk w.drew g t cs := h
theorem Blk.drewN (h : Blk w g t cs) (n : Nat) : Blk (w.drewN n) g t cs := h
theorem Blk.alloc (h : Blk w g t cs) (o : Obj) : Blk (w.alloc o) g t cs := (Below.heap_alloc w o g h.lt).trans h
theorem Blk.set_ (h : Blk w g t cs) (i : Nat) (u : Value) : Blk (w.setCell ⟨g, i, none⟩ u) g t (cs.setIfInBounds i u) := by
  unfold Blk at h ⊢
  simp [World.setCell, Array.getElem?_modify, h]
theorem Blk.far (h : Blk w g t cs) {p : Addr} (hp : g ≠ p.block) (u : Value) : Blk (w.setCell p u) g t cs := (Below.heap_setCell w p u g hp).trans h
theorem Blk.below {B : Nat} (h : Blk w g t cs) (hb : Below B w w') (hg : g < B) : Blk w' g t cs := (hb.block g hg).trans h
theorem Blk.grown {row : Option Nat} (h : Blk w g t cs) (hb : w.grownBy w' row) (hg : some g ≠ row) : Blk w' g t cs := (hb.block g h.lt hg).trans h
theorem Blk.kept {row : Option Nat} (h : Blk w g t cs) (hg : w.grownBy w' row) (hr : ∀ r, row = some r → ∃ o : Obj, w.heap[r]? = some o ∧ o.isCells = false) : Blk w' g t cs :=
  h.grown hg fun e => by
    obtain ⟨o, ho, hc⟩ := hr g e.symm
    rw [show w.heap[g]? = _ from h] at ho; cases ho; cases hc
theorem Blk.putObj (h : Blk w g t cs) {l : Nat} {o : Obj} (o' : Obj) (hl : w.heap[l]? = some o) (ho : o.isCells = false) : Blk (w.putObj l o') g t cs :=
  h.kept (grownBy_putObj' w l o') (fun r e => by cases e; exact ⟨o, hl, ho⟩)
end

/-- A byte as a value. -/
def bv (c : UInt8) : Value := .int .u8 (c.toNat : Int)
theorem bv_one (c : UInt8) : (bv c).oneCell' = true := rfl

/-- What a slice value of bytes reads as. -/
def Bytes (w : World) (A : Option Addr) (bs : List UInt8) : Prop :=
  ∀ (k : Nat) (c : UInt8), bs[k]? = some c → ∃ b off, A = some ⟨b, off, none⟩ ∧ b < w.heap.size ∧ w.cell? ⟨b, off + k, none⟩ = some (.int .u8 (c.toNat : Int))

theorem Bytes.nil (w : World) (A : Option Addr) : Bytes w A [] := fun k c h => by simp at h
theorem Bytes.below {w w' : World} {A : Option Addr} {bs : List UInt8} (h : Bytes w A bs) (hb : Below w.heap.size w w') : Bytes w' A bs := fun k c hk => by
  obtain ⟨b, off, e, hlt, hc⟩ := h k c hk
  exact ⟨b, off, e, Nat.lt_of_lt_of_le hlt hb.size, (hb.cell (p := ⟨b, off + k, none⟩) hlt).trans hc⟩
theorem Bytes.of_blk {w : World} {g : Nat} {t : TypeId} {cs : Array Value} {bs : List UInt8} (h : Blk w g t cs) (hcs : ∀ (k : Nat) (c : UInt8), bs[k]? = some c → cs[k]? = some (bv c)) : Bytes w (some ⟨g, 0, none⟩) bs := fun k c hk =>
  ⟨g, 0, rfl, h.lt, by rw [Nat.zero_add, h.cell, hcs k c hk]; rfl⟩
theorem Bytes.at_ {w : World} {A : Option Addr} {bs : List UInt8} (h : Bytes w A bs) {k : Nat} (hk : k < bs.length) : ∃ b off, A = some ⟨b, off, none⟩ ∧ b < w.heap.size ∧ ∀ (j : Nat) (c : UInt8), bs[j]? = some c → w.cell? ⟨b, off + j, none⟩ = some (.int .u8 (c.toNat : Int)) := by
  obtain ⟨b, off, rfl, hlt, _⟩ := h k bs[k] (List.getElem?_eq_getElem hk)
  refine ⟨b, off, rfl, hlt, fun j c hj => ?_⟩
  obtain ⟨b', off', e, _, hc⟩ := h j c hj
  cases e
  exact hc

/-- A made row of n bytes. -/
def mk8 (n : Nat) : Array Value := madeCells #[.int .u8 0] n
theorem mk8_list (n : Nat) : (mk8 n).toList = List.replicate n (bv 0) := by
  apply List.ext_getElem
  · simp [mk8, madeCells]
  · intro i h1 h2
    simp [mk8, madeCells, bv, Nat.mod_one]
theorem mk8_eq (n : Nat) : mk8 n = (List.replicate n (bv 0)).toArray := by
  rw [← mk8_list]

theorem Try.info8 : (Try.prog.info? 5).map (fun i => (i.zero, i.size, i.bytes)) = some (some (.int .u8 0), 1, 1) := by kernel_rfl

theorem run_mk8 (n : Nat) (hn : n ≤ 281474976710656) (w : World) :
    (Instr.makeSlice 33 (.int .i64 (n : Int)) (.int .i64 (n : Int))).run Try.prog w = .ok (.slice (some ⟨w.heap.size, 0, none⟩) n n) (w.alloc (.cells (mk8 n) 5)) := by
  obtain ⟨i0, hi, hz0, hz1, hz2⟩ := info_parts Try.info8
  have h := run_make (P := Try.prog) w 33 5 i0 (.int .u8 0) Try.underlying33 hi hz0 .i64 .i64 (n : Int) (n : Int) (by omega) (by omega) (by rw [hz2]; omega) (by omega)
  simpa [hz1, mk8, Value.cells] using h

theorem Try.size8 : (Try.prog.info? 5).map (·.size) = some 1 := by kernel_rfl

/-- copy of a whole slice of bytes to the front of a row of the call's own. -/
theorem run_copy8 (w : World) (ty : TypeId) (g m c : Nat) (A : Option Addr) (cap : Nat) (bs : List UInt8) (cur : List Value) (hA : Bytes w A bs) (hR : Blk w g 5 cur.toArray) (hm : bs.length ≤ m) (hc : m ≤ cur.length) :
    ∃ w', (Builtin.copy_ #[33, 33] ty #[.slice (some ⟨g, 0, none⟩) m c, .slice A bs.length cap]).run Try.prog w = .ok (goInt bs.length) w' ∧
      Blk w' g 5 (bs.map bv ++ cur.drop bs.length).toArray ∧ w.grownBy w' (some g) ∧ w'.heap.size = w.heap.size := by
  rcases Nat.eq_zero_or_pos bs.length with h0 | h0
  · obtain rfl : bs = [] := List.eq_nil_of_length_eq_zero h0
    exact ⟨w, run_copy_none (P := Try.prog) w _ _ ty 5 _ _ _ _ _ _ Try.underlying33 Try.size8 (by simp), by simpa using hR, World.grownBy.refl w _, rfl⟩
  · obtain ⟨b, off, rfl, hb, hcell⟩ := hA.at_ h0
    have hrun := run_copy_row (P := Try.prog) w 33 33 ty 5 g 0 m c ⟨b, off, none⟩ bs.length cap cur.toArray 5 (bs.map bv) Try.underlying33 Try.size8 hR (by rw [List.length_map]; exact (Nat.min_eq_left hm).symm)
      (fun j v hv => by
        rw [List.getElem?_map] at hv
        cases hj : bs[j]? with
        | none => rw [hj] at hv; cases hv
        | some d =>
          rw [hj] at hv
          simp only [Option.map_some, Option.some.injEq] at hv
          subst hv
          have e : (⟨b, off, none⟩ : Addr).add j = ⟨b, off + j, none⟩ := by unfold Addr.add; split <;> simp_all
          rw [e]; exact hcell j d hj)
      (by simp; omega) (fun v hv => by obtain ⟨d, _, rfl⟩ := List.mem_map.1 hv; rfl)
    refine ⟨_, by simpa using hrun, ?_, ?_, by simp [World.setRow]⟩
    · have := setRow_heap w g cur.toArray (cur.take 0 ++ bs.map bv ++ cur.drop (0 + (bs.map bv).length)).toArray 5 (0, 0) hR
      simpa [Blk] using this
    · exact ⟨rfl, rfl, rfl, by simp [World.setRow], fun k hk hne => setRow_other w g k _ (fun e => hne (by rw [e]))⟩

/-- The cells of a row of bytes. -/
def row8 (bs : List UInt8) : Array Value := (bs.map bv).toArray

theorem row8_get {bs : List UInt8} (k : Nat) (c : UInt8) (h : bs[k]? = some c) : (row8 bs)[k]? = some (bv c) := by
  unfold row8
  simp [h]
theorem Bytes.row {w : World} {g : Nat} {t : TypeId} {bs : List UInt8} (h : Blk w g t (row8 bs)) : Bytes w (some ⟨g, 0, none⟩) bs := Bytes.of_blk h (fun k c hk => row8_get k c hk)

/-- What the walk is told of a slice of integers that came in. -/
def IsRow (k : IntKind) (w : World) (a : Option Addr) (len cap : Nat) (zs : List Int) : Prop :=
  (a = none ∧ len = 0 ∧ cap = 0 ∧ zs = []) ∨
  ∃ x, a = some x ∧ len ≤ cap ∧ cap ≤ maxLen ∧ zs.length = cap ∧ (∀ i, i < zs.length → w.cell? (x.add i) = some (.int k (zs.getD i 0))) ∧ ∀ n ∈ zs, (Lit.int k n).wf = true

theorem wf_u8 {n : Int} (h : (Lit.int .u8 n).wf = true) : 0 ≤ n ∧ n ≤ 255 := by
  have h' := h
  simp [Lit.wf, IntKind.min, IntKind.max, IntKind.bits, IntKind.signed] at h'
  omega
theorem wf_u16 {n : Int} (h : (Lit.int .u16 n).wf = true) : ∃ m : Nat, n = m ∧ m < 65536 := by
  have h' := h
  simp [Lit.wf, IntKind.min, IntKind.max, IntKind.bits, IntKind.signed] at h'
  exact ⟨n.toNat, by omega, by omega⟩

theorem wf_u8n {n : Int} (h : (Lit.int .u8 n).wf = true) : ∃ m : Nat, n = m ∧ m < 256 := by
  have h' := wf_u8 h
  exact ⟨n.toNat, by omega, by omega⟩
theorem wf_u64 {n : Int} (h : (Lit.int .u64 n).wf = true) : ∃ m : Nat, n = m ∧ m < 18446744073709551616 := by
  have h' := h
  simp [Lit.wf, IntKind.min, IntKind.max, IntKind.bits, IntKind.signed] at h'
  exact ⟨n.toNat, by omega, by omega⟩
theorem wf_i64 {n : Int} (h : (Lit.int .i64 n).wf = true) : -9223372036854775808 ≤ n ∧ n < 9223372036854775808 := by
  have h' := h
  simp [Lit.wf, IntKind.min, IntKind.max, IntKind.bits, IntKind.signed] at h'
  omega

theorem bytes_of_row8 {w : World} {a : Option Addr} {len cap : Nat} {zs : List Int} (h : IsRow .u8 w a len cap zs) : ∃ bs : List UInt8, bs.length = len ∧ Bytes w a bs ∧ len ≤ maxLen := by
  rcases h with ⟨rfl, rfl, rfl, rfl⟩ | ⟨x, rfl, hl, hm, hz, hc, hw⟩
  · exact ⟨[], rfl, Bytes.nil _ _, Nat.zero_le _⟩
  · refine ⟨(zs.take len).map fun z => UInt8.ofNat z.toNat, by simp; omega, fun k c hk => ?_, Nat.le_trans hl hm⟩
    rw [List.getElem?_map] at hk
    have hkl : k < len := by
      rcases Nat.lt_or_ge k len with h | h
      · exact h
      · rw [List.getElem?_eq_none (by simp; omega)] at hk; cases hk
    have hkz : k < zs.length := by omega
    rw [List.getElem?_take_of_lt hkl, List.getElem?_eq_getElem hkz] at hk
    simp only [Option.map_some, Option.some.injEq] at hk
    have hcell := hc k hkz
    have hcell0 := hc 0 (by omega)
    obtain ⟨b, off, spot⟩ := x
    have hspot : spot = none := by simpa [Addr.add] using World.cell?_spot hcell0
    subst hspot
    have e : (⟨b, off, none⟩ : Addr).add k = ⟨b, off + k, none⟩ := by unfold Addr.add; split <;> simp_all
    rw [e] at hcell
    have hwf := wf_u8 (hw zs[k] (List.getElem_mem hkz))
    have hg : zs.getD k 0 = zs[k] := by simp [List.getD, hkz]
    refine ⟨b, off, rfl, World.block_lt_of_cell? w _ hcell, ?_⟩
    rw [hcell, hg, ← hk, UInt8.toNat_ofNat']
    congr 2
    omega

/-- A text. -/
def str (bs : List UInt8) : ByteArray := ⟨bs.toArray⟩
theorem str_toList (bs : List UInt8) : (str bs).toList = bs := by
  unfold str
  simp [ByteArray.toList_eq]
theorem str_eq {a b : List UInt8} (h : a = b) : ((str a).toList == (str b).toList) = true := by rw [h]; simp
theorem run_str8 (w : World) (A : Option Addr) (cap : Nat) (bs : List UInt8) (hA : Bytes w A bs) :
    (convert 33 9 (.slice A bs.length cap)).run Try.prog w = .ok (.string (str bs)) w := by
  rcases Nat.eq_zero_or_pos bs.length with h0 | h0
  · obtain rfl : bs = [] := List.eq_nil_of_length_eq_zero h0
    cases A with
    | none => exact Lib.run_convert_nil_bytes w _ _ 5 cap Try.underlying33 Try.underlying5 Try.underlying9
    | some a => exact run_convert_bytes_back w _ _ 5 a cap [] Try.underlying33 Try.underlying5 Try.underlying9 (fun j hj => by simp at hj)
  · obtain ⟨b, off, rfl, _, hc⟩ := hA.at_ h0
    exact run_convert_bytes_back w _ _ 5 ⟨b, off, none⟩ cap bs Try.underlying33 Try.underlying5 Try.underlying9 (fun j hj => by
      have e : (⟨b, off, none⟩ : Addr).add j = ⟨b, off + j, none⟩ := by unfold Addr.add; split <;> simp_all
      rw [e]; exact hc j _ (List.getElem?_eq_getElem hj))

theorem run_str8L (w : World) (A : Option Addr) (len cap : Nat) (bs : List UInt8) (hl : bs.length = len) (hA : Bytes w A bs) :
    (convert 33 9 (.slice A len cap)).run Try.prog w = .ok (.string (str bs)) w := by subst hl; exact run_str8 w A cap bs hA

theorem own_below {w w' : World} {base : Nat} {e : TypeId} {size : Nat} {v : Value} {n : Nat} {xs : List Value} (h : w.ownsRow base e size v n xs) (hb : Below w.heap.size w w') : w'.ownsRow base e size v n xs :=
  h.kept (row := none) ⟨hb.os, hb.tape, hb.output, hb.size, fun k hk _ => hb.block k hk⟩ (by cases v.ownBlock <;> simp)

/-- append, where its run is known. -/
theorem wpList_app {P : Program} {w : World} {ops : Array Oper} {rest : List Oper} {o : Oper} {a : Act} {Q : Exit → Act → World → Prop} (hgd : o.guard = none) (s x : Operand) (t : TypeId)
    (ho : o.op = .call { callee := .builtin .append, args := #[s, x], argTypes := #[t, t] }) (v xv v' : Value) (w' : World) (hs : a.eval s = v) (hx : a.eval x = xv)
    (hrun : (Builtin.append_ #[t, t] o.type #[v, xv]).run P w = .ok v' w') (h : wpList P ops Q rest (a.put o.dst v') w') : wpList P ops Q (o :: rest) a w :=
  wpList_plain hgd fun K hK => by
    unfold Oper.wp execOp
    simp only [ho, resolve, invoke, builtin, Sem.run_bind, Sem.run_pure, Result.andThen_ok, List.map_toArray, List.map_cons, List.map_nil, hs, hx, hrun]
    exact hK _ _ h

/-- append of bytes to a row of the call's own. -/
theorem run_app8 (w : World) (base : Nat) (v : Value) (n : Nat) (xs : List UInt8) (hown : w.ownsRow base 5 1 v n (xs.map bv)) (A : Option Addr) (len c : Nat) (bs : List UInt8) (hlen : bs.length = len) (hA : Bytes w A bs)
    (hb : n + len ≤ 140737488355328) (hbase : base ≤ w.heap.size) :
    ∃ v' w', (Builtin.append_ #[33, 33] 33 #[v, .slice A len c]).run Try.prog w = .ok v' w' ∧ w'.ownsRow base 5 1 v' (n + len) ((xs ++ bs).map bv) ∧ w.grownBy w' v.ownBlock := by
  obtain ⟨i0, hi, hz0, hz1, hz2⟩ := info_parts Try.info8
  have hcells : ∀ (a : Addr), A = some a → ∀ (j : Nat) (u : Value), (bs.map bv)[j]? = some u → w.cell? (a.add j) = some u := fun a e j u hu => by
    rw [List.getElem?_map] at hu
    cases hj : bs[j]? with
    | none => rw [hj] at hu; cases hu
    | some d =>
      rw [hj] at hu
      simp only [Option.map_some, Option.some.injEq] at hu
      subst hu
      obtain ⟨b, off, e', _, hc⟩ := hA j d hj
      rw [e] at e'; cases e'
      have e2 : (⟨b, off, none⟩ : Addr).add j = ⟨b, off + j, none⟩ := by unfold Addr.add; split <;> simp_all
      rw [e2]; exact hc
  have h1 : ∀ u ∈ bs.map bv, u.oneCell' = true := fun u hu => by obtain ⟨d, _, rfl⟩ := List.mem_map.1 hu; rfl
  cases A with
  | some a =>
    obtain ⟨v', w', hrun, h2, h3, _, _⟩ := run_append_own_at (P := Try.prog) w base 33 33 5 i0 (.int .u8 0) 1 1 Try.underlying33 hi hz0 hz1 hz2 rfl (by decide) v n (xs.map bv) hown a len c (bs.map bv) (by simp; omega) (hcells a rfl) h1 (by unfold maxLen; omega) (by omega) hbase
    exact ⟨v', w', hrun, by rw [List.map_append]; exact h2, h3⟩
  | none =>
    have h0 : bs = [] := by
      cases bs with
      | nil => rfl
      | cons d r =>
        obtain ⟨b, off, e, _⟩ := hA 0 d rfl
        cases e
    subst h0
    obtain rfl : 0 = len := hlen
    refine ⟨v, w, ?_, by simpa using hown, World.grownBy.refl w _⟩
    rcases hown.2 with ⟨rfl, rfl⟩ | ⟨g, cap, cur, rfl, _, _, hnc, _⟩
    · simp [Builtin.append_, run_underlying Try.underlying33, sizeOf, typeInfo, hi, Builtin.lenOf, Builtin.firstCells]
    · simp [Builtin.append_, run_underlying Try.underlying33, sizeOf, typeInfo, hi, Builtin.lenOf, Builtin.firstCells, hnc, storeCells]

theorem Bytes.of_own {w : World} {base n : Nat} {t : TypeId} {A : Option Addr} {c : Nat} {bs : List UInt8} (h : w.ownsRow base t 1 (.slice A n c) n (bs.map bv)) : Bytes w A bs := fun k d hk => by
  rcases h.2 with ⟨e, rfl⟩ | ⟨g, cap, cur, e, hb, hg, hn, hm, hs, ht⟩
  · have := h.1; simp at this; subst this; simp at hk
  · injection e with e1 e2 e3
    have hlt : g < w.heap.size := (Array.getElem?_eq_some_iff.1 hg).1
    refine ⟨g, 0, e1, hlt, ?_⟩
    have hkl : k < n := by have := h.1; simp at this; have := (List.getElem?_eq_some_iff.1 hk).1; omega
    rw [Nat.zero_add, cell_of_row w g k cur t (0, 0) hg]
    have h2 : (cur.toList.take (n * 1))[k]? = some (bv d) := by rw [ht]; simp [hk]
    rw [List.getElem?_take_of_lt (by omega)] at h2
    simpa [bv] using h2

/-- string(b) of a row of the call's own. -/
theorem run_strOwn (w : World) (base n : Nat) (v : Value) (bs : List UInt8) (h : w.ownsRow base 5 1 v n (bs.map bv)) :
    (convert 33 9 v).run Try.prog w = .ok (.string (str bs)) w := by
  have hl : bs.length = n := by have := h.1; simp at this; exact this
  rcases h.2 with ⟨rfl, rfl⟩ | ⟨g, cap, cur, rfl, _⟩
  · exact run_str8L w none 0 0 bs hl (Bytes.of_own h)
  · exact run_str8L w _ n cap bs hl (Bytes.of_own h)

end Go.Proofs.Ytiemfhncadcemaa
