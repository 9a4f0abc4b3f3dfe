/- Sets of bits, maps of pages: contracts. -/
import Derived.Test.YtolpgpphjnkehaaGreatDoorRows
import Derived.WalkKit
import Derived.WalkSpells
import Derived.WalkLawsBesides
import Derived.Laws.CopyOwn
import Derived.Laws.MakeOwn
import Derived.Lib.Hide
import Derived.RangeFuncBox
import Derived.Deep.Draws
import Derived.Lib.BufferRead
import Derived.ProofKit
import Derived.Maps.AppendAt
import Derived.Laws.Tables
import Derived.IntWalk
import Derived.Deep.WholeRow
import Derived.RangeFuncNested
import Derived.RangeFuncBound
import Derived.RangeFuncCalls
import Derived.RangeFuncLeaves
import Derived.Shelf.Abstract
import Derived.Shelf.RegionOpen
import Derived.OwnWalkIn
import Derived.TacticsInMore
import Derived.LoopNIn
import Derived.LoopIn
import Derived.StillTailTactics
import Derived.BigQuiet
import Derived.Deep.QuietTactic
import Derived.RegionTactic
import Derived.ChangeAlike
import Derived.Outline
import Derived.BigRegionIn
import Derived.Deep.AppendSrc
import Derived.Lib.ConvBytes
import Derived.Deep.CutRange
import Derived.Deep.CutBlock
import Derived.Laws.CopyRow
import Derived.Lib.SliceRun
import Derived.Lib.TrailingZeros
import Derived.Laws.Bits64b
import Derived.LoopTactic
import Derived.Deep.RegionWith
/- Words for memory: a block known whole; a slice value that reads as a list of bytes; a made row of bytes. -/
namespace Go.Proofs.YtolpgpphjnkehaaGreatDoor.Pag
set_option maxRecDepth 20000
open Go.RowKit

def Blk (w : World) (g : Nat) (t : TypeId) (cs : Array Value) : Prop := w.heap[g]? = some (.cells cs t (0, 0))

section
variable {w w' : World} {g : Nat} {t : TypeId} {cs : Array Value}
theorem Blk.lt (h : Blk w g t cs) : g < w.heap.size := by
  rcases Nat.lt_or_ge g w.heap.size with hlt | hge
  · exact hlt
  · unfold Blk at h; rw [Array.getElem?_eq_none hge] at h; cases h
theorem Blk.cell (h : Blk w g t cs) (i : Nat) : w.cell? ⟨g, i, none⟩ = cs[i]? := cell_of_row w g i cs t (0, 0) h
theorem Blk.frozen (h : Blk w g t cs) (i : Nat) : w.frozen? ⟨g, i, none⟩ = false := by
  unfold Blk at h
  simp [World.frozen?, h]
theorem Blk.new (w : World) (t : TypeId) (cs : Array Value) : Blk (w.alloc (.cells cs t)) w.heap.size t cs := heap_alloc_new w _
theorem Blk.drew (h : Blk w g t cs) : Blk w.drew g t cs := h
theorem Blk.drewN (h : Blk w g t cs) (n : Nat) : Blk (w.drewN n) g t cs := h
theorem Blk.alloc (h : Blk w g t cs) (o : Obj) : Blk (w.alloc o) g t cs := (Below.heap_alloc w o g h.lt).trans h
theorem Blk.set_ (h : Blk w g t cs) (i : Nat) (u : Value) : Blk (w.setCell ⟨g, i, none⟩ u) g t (cs.setIfInBounds i u) := by
  unfold Blk at h ⊢
  simp [World.setCell, Array.getElem?_modify, h]
theorem Blk.far (h : Blk w g t cs) {p : Addr} (hp : g ≠ p.block) (u : Value) : Blk (w.setCell p u) g t cs := (Below.heap_setCell w p u g hp).trans h
theorem Blk.below {B : Nat} (h : Blk w g t cs) (hb : Below B w w') (hg : g < B) : Blk w' g t cs := (hb.block g hg).trans h
theorem Blk.grown {row : Option Nat} (h : Blk w g t cs) (hb : w.grownBy w' row) (hg : some g ≠ row) : Blk w' g t cs := (hb.block g h.lt hg).trans h
theorem Blk.kept {row : Option Nat} (h : Blk w g t cs) (hg : w.grownBy w' row) (hr : ∀ r, row = some r → ∃ o : Obj, w.heap[r]? = some o ∧ o.isCells = false) : Blk w' g t cs :=
  h.grown hg fun e => by
    obtain ⟨o, ho, hc⟩ := hr g e.symm
    rw [show w.heap[g]? = _ from h] at ho; cases ho; cases hc
theorem Blk.putObj (h : Blk w g t cs) {l : Nat} {o : Obj} (o' : Obj) (hl : w.heap[l]? = some o) (ho : o.isCells = false) : Blk (w.putObj l o') g t cs :=
  h.kept (grownBy_putObj' w l o') (fun r e => by cases e; exact ⟨o, hl, ho⟩)
end

/-- A byte as a value. -/
def bv (c : UInt8) : Value := .int .u8 (c.toNat : Int)
theorem bv_one (c : UInt8) : (bv c).oneCell' = true := rfl

/-- What a slice value of bytes reads as. -/
def Bytes (w : World) (A : Option Addr) (bs : List UInt8) : Prop :=
  ∀ (k : Nat) (c : UInt8), bs[k]? = some c → ∃ b off, A = some ⟨b, off, none⟩ ∧ b < w.heap.size ∧ w.cell? ⟨b, off + k, none⟩ = some (.int .u8 (c.toNat : Int))

theorem Bytes.nil (w : World) (A : Option Addr) : Bytes w A [] := fun k c h => by simp at h
theorem Bytes.below {w w' : World} {A : Option Addr} {bs : List UInt8} (h : Bytes w A bs) (hb : Below w.heap.size w w') : Bytes w' A bs := fun k c hk => by
  obtain ⟨b, off, e, hlt, hc⟩ := h k c hk
  exact ⟨b, off, e, Nat.lt_of_lt_of_le hlt hb.size, (hb.cell (p := ⟨b, off + k, none⟩) hlt).trans hc⟩
theorem Bytes.of_blk {w : World} {g : Nat} {t : TypeId} {cs : Array Value} {bs : List UInt8} (h : Blk w g t cs) (hcs : ∀ (k : Nat) (c : UInt8), bs[k]? = some c → cs[k]? = some (bv c)) : Bytes w (some ⟨g, 0, none⟩) bs := fun k c hk =>
  ⟨g, 0, rfl, h.lt, by rw [Nat.zero_add, h.cell, hcs k c hk]; rfl⟩
theorem Bytes.at_ {w : World} {A : Option Addr} {bs : List UInt8} (h : Bytes w A bs) {k : Nat} (hk : k < bs.length) : ∃ b off, A = some ⟨b, off, none⟩ ∧ b < w.heap.size ∧ ∀ (j : Nat) (c : UInt8), bs[j]? = some c → w.cell? ⟨b, off + j, none⟩ = some (.int .u8 (c.toNat : Int)) := by
  obtain ⟨b, off, rfl, hlt, _⟩ := h k bs[k] (List.getElem?_eq_getElem hk)
  refine ⟨b, off, rfl, hlt, fun j c hj => ?_⟩
  obtain ⟨b', off', e, _, hc⟩ := h j c hj
  cases e
  exact hc

/-- A made row of n bytes. -/
def mk8 (n : Nat) : Array Value := madeCells #[.int .u8 0] n
theorem mk8_list (n : Nat) : (mk8 n).toList = List.replicate n (bv 0) := by
  apply List.ext_getElem
  · simp [mk8, madeCells]
  · intro i h1 h2
    simp [mk8, madeCells, bv, Nat.mod_one]
theorem mk8_eq (n : Nat) : mk8 n = (List.replicate n (bv 0)).toArray := by
  rw [← mk8_list]

theorem Tryz.info8 : (Tryz.prog.info? 5).map (fun i => (i.zero, i.size, i.bytes)) = some (some (.int .u8 0), 1, 1) := by kernel_rfl

theorem run_mk8 (n : Nat) (hn : n ≤ 281474976710656) (w : World) :
    (Instr.makeSlice 32 (.int .i64 (n : Int)) (.int .i64 (n : Int))).run Tryz.prog w = .ok (.slice (some ⟨w.heap.size, 0, none⟩) n n) (w.alloc (.cells (mk8 n) 5)) := by
  obtain ⟨i0, hi, hz0, hz1, hz2⟩ := info_parts Tryz.info8
  have h := run_make (P := Tryz.prog) w 32 5 i0 (.int .u8 0) Tryz.underlying32 hi hz0 .i64 .i64 (n : Int) (n : Int) (by omega) (by omega) (by rw [hz2]; omega) (by omega)
  simpa [hz1, mk8, Value.cells] using h

theorem Tryz.size8 : (Tryz.prog.info? 5).map (·.size) = some 1 := by kernel_rfl

/-- copy of a whole slice of bytes to the front of a row of the call's own. -/
theorem run_copy8 (w : World) (ty : TypeId) (g m c : Nat) (A : Option Addr) (cap : Nat) (bs : List UInt8) (cur : List Value) (hA : Bytes w A bs) (hR : Blk w g 5 cur.toArray) (hm : bs.length ≤ m) (hc : m ≤ cur.length) :
    ∃ w', (Builtin.copy_ #[32, 32] ty #[.slice (some ⟨g, 0, none⟩) m c, .slice A bs.length cap]).run Tryz.prog w = .ok (goInt bs.length) w' ∧
      Blk w' g 5 (bs.map bv ++ cur.drop bs.length).toArray ∧ w.grownBy w' (some g) ∧ w'.heap.size = w.heap.size := by
  rcases Nat.eq_zero_or_pos bs.length with h0 | h0
  · obtain rfl : bs = [] := List.eq_nil_of_length_eq_zero h0
    exact ⟨w, run_copy_none (P := Tryz.prog) w _ _ ty 5 _ _ _ _ _ _ Tryz.underlying32 Tryz.size8 (by simp), by simpa using hR, World.grownBy.refl w _, rfl⟩
  · obtain ⟨b, off, rfl, hb, hcell⟩ := hA.at_ h0
    have hrun := run_copy_row (P := Tryz.prog) w 32 32 ty 5 g 0 m c ⟨b, off, none⟩ bs.length cap cur.toArray 5 (bs.map bv) Tryz.underlying32 Tryz.size8 hR (by rw [List.length_map]; exact (Nat.min_eq_left hm).symm)
      (fun j v hv => by
        rw [List.getElem?_map] at hv
        cases hj : bs[j]? with
        | none => rw [hj] at hv; cases hv
        | some d =>
          rw [hj] at hv
          simp only [Option.map_some, Option.some.injEq] at hv
          subst hv
          have e : (⟨b, off, none⟩ : Addr).add j = ⟨b, off + j, none⟩ := by unfold Addr.add; split <;> simp_all
          rw [e]; exact hcell j d hj)
      (by simp; omega) (fun v hv => by obtain ⟨d, _, rfl⟩ := List.mem_map.1 hv; rfl)
    refine ⟨_, by simpa using hrun, ?_, ?_, by simp [World.setRow]⟩
    · have := setRow_heap w g cur.toArray (cur.take 0 ++ bs.map bv ++ cur.drop (0 + (bs.map bv).length)).toArray 5 (0, 0) hR
      simpa [Blk] using this
    · exact ⟨rfl, rfl, rfl, by simp [World.setRow], fun k hk hne => setRow_other w g k _ (fun e => hne (by rw [e]))⟩

/-- The cells of a row of bytes. -/
def row8 (bs : List UInt8) : Array Value := (bs.map bv).toArray

theorem row8_get {bs : List UInt8} (k : Nat) (c : UInt8) (h : bs[k]? = some c) : (row8 bs)[k]? = some (bv c) := by
  unfold row8
  simp [h]
theorem Bytes.row {w : World} {g : Nat} {t : TypeId} {bs : List UInt8} (h : Blk w g t (row8 bs)) : Bytes w (some ⟨g, 0, none⟩) bs := Bytes.of_blk h (fun k c hk => row8_get k c hk)

/-- What the walk is told of a slice of integers that came in. -/
def IsRow (k : IntKind) (w : World) (a : Option Addr) (len cap : Nat) (zs : List Int) : Prop :=
  (a = none ∧ len = 0 ∧ cap = 0 ∧ zs = []) ∨
  ∃ x, a = some x ∧ len ≤ cap ∧ cap ≤ maxLen ∧ zs.length = cap ∧ (∀ i, i < zs.length → w.cell? (x.add i) = some (.int k (zs.getD i 0))) ∧ ∀ n ∈ zs, (Lit.int k n).wf = true

theorem wf_u8 {n : Int} (h : (Lit.int .u8 n).wf = true) : 0 ≤ n ∧ n ≤ 255 := by
  have h' := h
  simp [Lit.wf, IntKind.min, IntKind.max, IntKind.bits, IntKind.signed] at h'
  omega
theorem wf_u16 {n : Int} (h : (Lit.int .u16 n).wf = true) : ∃ m : Nat, n = m ∧ m < 65536 := by
  have h' := h
  simp [Lit.wf, IntKind.min, IntKind.max, IntKind.bits, IntKind.signed] at h'
  exact ⟨n.toNat, by omega, by omega⟩

theorem wf_u8n {n : Int} (h : (Lit.int .u8 n).wf = true) : ∃ m : Nat, n = m ∧ m < 256 := by
  have h' := wf_u8 h
  exact ⟨n.toNat, by omega, by omega⟩
theorem wf_u64 {n : Int} (h : (Lit.int .u64 n).wf = true) : ∃ m : Nat, n = m ∧ m < 18446744073709551616 := by
  have h' := h
  simp [Lit.wf, IntKind.min, IntKind.max, IntKind.bits, IntKind.signed] at h'
  exact ⟨n.toNat, by omega, by omega⟩
theorem wf_i64 {n : Int} (h : (Lit.int .i64 n).wf = true) : -9223372036854775808 ≤ n ∧ n < 9223372036854775808 := by
  have h' := h
  simp [Lit.wf, IntKind.min, IntKind.max, IntKind.bits, IntKind.signed] at h'
  omega

theorem bytes_of_row8 {w : World} {a : Option Addr} {len cap : Nat} {zs : List Int} (h : IsRow .u8 w a len cap zs) : ∃ bs : List UInt8, bs.length = len ∧ Bytes w a bs ∧ len ≤ maxLen := by
  rcases h with ⟨rfl, rfl, rfl, rfl⟩ | ⟨x, rfl, hl, hm, hz, hc, hw⟩
  · exact ⟨[], rfl, Bytes.nil _ _, Nat.zero_le _⟩
  · refine ⟨(zs.take len).map fun z => UInt8.ofNat z.toNat, by simp; omega, fun k c hk => ?_, Nat.le_trans hl hm⟩
    rw [List.getElem?_map] at hk
    have hkl : k < len := by
      rcases Nat.lt_or_ge k len with h | h
      · exact h
      · rw [List.getElem?_eq_none (by simp; omega)] at hk; cases hk
    have hkz : k < zs.length := by omega
    rw [List.getElem?_take_of_lt hkl, List.getElem?_eq_getElem hkz] at hk
    simp only [Option.map_some, Option.some.injEq] at hk
    have hcell := hc k hkz
    have hcell0 := hc 0 (by omega)
    obtain ⟨b, off, spot⟩ := x
    have hspot : spot = none := by simpa [Addr.add] using World.cell?_spot hcell0
    subst hspot
    have e : (⟨b, off, none⟩ : Addr).add k = ⟨b, off + k, none⟩ := by unfold Addr.add; split <;> simp_all
    rw [e] at hcell
    have hwf := wf_u8 (hw zs[k] (List.getElem_mem hkz))
    have hg : zs.getD k 0 = zs[k] := by simp [List.getD, hkz]
    refine ⟨b, off, rfl, World.block_lt_of_cell? w _ hcell, ?_⟩
    rw [hcell, hg, ← hk, UInt8.toNat_ofNat']
    congr 2
    omega

/-- A text. -/
def str (bs : List UInt8) : ByteArray := ⟨bs.toArray⟩
theorem str_toList (bs : List UInt8) : (str bs).toList = bs := by
  unfold str
  simp [ByteArray.toList_eq]
theorem str_eq {a b : List UInt8} (h : a = b) : ((str a).toList == (str b).toList) = true := by rw [h]; simp
theorem run_str8 (w : World) (A : Option Addr) (cap : Nat) (bs : List UInt8) (hA : Bytes w A bs) :
    (convert 32 9 (.slice A bs.length cap)).run Tryz.prog w = .ok (.string (str bs)) w := by
  rcases Nat.eq_zero_or_pos bs.length with h0 | h0
  · obtain rfl : bs = [] := List.eq_nil_of_length_eq_zero h0
    cases A with
    | none => exact Lib.run_convert_nil_bytes w _ _ 5 cap Tryz.underlying32 Tryz.underlying5 Tryz.underlying9
    | some a => exact run_convert_bytes_back w _ _ 5 a cap [] Tryz.underlying32 Tryz.underlying5 Tryz.underlying9 (fun j hj => by simp at hj)
  · obtain ⟨b, off, rfl, _, hc⟩ := hA.at_ h0
    exact run_convert_bytes_back w _ _ 5 ⟨b, off, none⟩ cap bs Tryz.underlying32 Tryz.underlying5 Tryz.underlying9 (fun j hj => by
      have e : (⟨b, off, none⟩ : Addr).add j = ⟨b, off + j, none⟩ := by unfold Addr.add; split <;> simp_all
      rw [e]; exact hc j _ (List.getElem?_eq_getElem hj))

theorem run_str8L (w : World) (A : Option Addr) (len cap : Nat) (bs : List UInt8) (hl : bs.length = len) (hA : Bytes w A bs) :
    (convert 32 9 (.slice A len cap)).run Tryz.prog w = .ok (.string (str bs)) w := by subst hl; exact run_str8 w A cap bs hA

theorem own_below {w w' : World} {base : Nat} {e : TypeId} {size : Nat} {v : Value} {n : Nat} {xs : List Value} (h : w.ownsRow base e size v n xs) (hb : Below w.heap.size w w') : w'.ownsRow base e size v n xs :=
  h.kept (row := none) ⟨hb.os, hb.tape, hb.output, hb.size, fun k hk _ => hb.block k hk⟩ (by cases v.ownBlock <;> simp)

/-- append, where its run is known. -/
theorem wpList_app {P : Program} {w : World} {ops : Array Oper} {rest : List Oper} {o : Oper} {a : Act} {Q : Exit → Act → World → Prop} (hgd : o.guard = none) (s x : Operand) (t : TypeId)
    (ho : o.op = .call { callee := .builtin .append, args := #[s, x], argTypes := #[t, t] }) (v xv v' : Value) (w' : World) (hs : a.eval s = v) (hx : a.eval x = xv)
    (hrun : (Builtin.append_ #[t, t] o.type #[v, xv]).run P w = .ok v' w') (h : wpList P ops Q rest (a.put o.dst v') w') : wpList P ops Q (o :: rest) a w :=
  wpList_plain hgd fun K hK => by
    unfold Oper.wp execOp
    simp only [ho, resolve, invoke, builtin, Sem.run_bind, Sem.run_pure, Result.andThen_ok, List.map_toArray, List.map_cons, List.map_nil, hs, hx, hrun]
    exact hK _ _ h

/-- append of bytes to a row of the call's own. -/
theorem run_app8 (w : World) (base : Nat) (v : Value) (n : Nat) (xs : List UInt8) (hown : w.ownsRow base 5 1 v n (xs.map bv)) (A : Option Addr) (len c : Nat) (bs : List UInt8) (hlen : bs.length = len) (hA : Bytes w A bs)
    (hb : n + len ≤ 140737488355328) (hbase : base ≤ w.heap.size) :
    ∃ v' w', (Builtin.append_ #[32, 32] 32 #[v, .slice A len c]).run Tryz.prog w = .ok v' w' ∧ w'.ownsRow base 5 1 v' (n + len) ((xs ++ bs).map bv) ∧ w.grownBy w' v.ownBlock := by
  obtain ⟨i0, hi, hz0, hz1, hz2⟩ := info_parts Tryz.info8
  have hcells : ∀ (a : Addr), A = some a → ∀ (j : Nat) (u : Value), (bs.map bv)[j]? = some u → w.cell? (a.add j) = some u := fun a e j u hu => by
    rw [List.getElem?_map] at hu
    cases hj : bs[j]? with
    | none => rw [hj] at hu; cases hu
    | some d =>
      rw [hj] at hu
      simp only [Option.map_some, Option.some.injEq] at hu
      subst hu
      obtain ⟨b, off, e', _, hc⟩ := hA j d hj
      rw [e] at e'; cases e'
      have e2 : (⟨b, off, none⟩ : Addr).add j = ⟨b, off + j, none⟩ := by unfold Addr.add; split <;> simp_all
      rw [e2]; exact hc
  have h1 : ∀ u ∈ bs.map bv, u.oneCell' = true := fun u hu => by obtain ⟨d, _, rfl⟩ := List.mem_map.1 hu; rfl
  cases A with
  | some a =>
    obtain ⟨v', w', hrun, h2, h3, _, _⟩ := run_append_own_at (P := Tryz.prog) w base 32 32 5 i0 (.int .u8 0) 1 1 Tryz.underlying32 hi hz0 hz1 hz2 rfl (by decide) v n (xs.map bv) hown a len c (bs.map bv) (by simp; omega) (hcells a rfl) h1 (by unfold maxLen; omega) (by omega) hbase
    exact ⟨v', w', hrun, by rw [List.map_append]; exact h2, h3⟩
  | none =>
    have h0 : bs = [] := by
      cases bs with
      | nil => rfl
      | cons d r =>
        obtain ⟨b, off, e, _⟩ := hA 0 d rfl
        cases e
    subst h0
    obtain rfl : 0 = len := hlen
    refine ⟨v, w, ?_, by simpa using hown, World.grownBy.refl w _⟩
    rcases hown.2 with ⟨rfl, rfl⟩ | ⟨g, cap, cur, rfl, _, _, hnc, _⟩
    · simp [Builtin.append_, run_underlying Tryz.underlying32, sizeOf, typeInfo, hi, Builtin.lenOf, Builtin.firstCells]
    · simp [Builtin.append_, run_underlying Tryz.underlying32, sizeOf, typeInfo, hi, Builtin.lenOf, Builtin.firstCells, hnc, storeCells]

theorem Bytes.of_own {w : World} {base n : Nat} {t : TypeId} {A : Option Addr} {c : Nat} {bs : List UInt8} (h : w.ownsRow base t 1 (.slice A n c) n (bs.map bv)) : Bytes w A bs := fun k d hk => by
  rcases h.2 with ⟨e, rfl⟩ | ⟨g, cap, cur, e, hb, hg, hn, hm, hs, ht⟩
  · have := h.1; simp at this; subst this; simp at hk
  · injection e with e1 e2 e3
    have hlt : g < w.heap.size := (Array.getElem?_eq_some_iff.1 hg).1
    refine ⟨g, 0, e1, hlt, ?_⟩
    have hkl : k < n := by have := h.1; simp at this; have := (List.getElem?_eq_some_iff.1 hk).1; omega
    rw [Nat.zero_add, cell_of_row w g k cur t (0, 0) hg]
    have h2 : (cur.toList.take (n * 1))[k]? = some (bv d) := by rw [ht]; simp [hk]
    rw [List.getElem?_take_of_lt (by omega)] at h2
    simpa [bv] using h2

/-- string(b) of a row of the call's own. -/
theorem run_strOwn (w : World) (base n : Nat) (v : Value) (bs : List UInt8) (h : w.ownsRow base 5 1 v n (bs.map bv)) :
    (convert 32 9 v).run Tryz.prog w = .ok (.string (str bs)) w := by
  have hl : bs.length = n := by have := h.1; simp at this; exact this
  rcases h.2 with ⟨rfl, rfl⟩ | ⟨g, cap, cur, rfl, _⟩
  · exact run_str8L w none 0 0 bs hl (Bytes.of_own h)
  · exact run_str8L w _ n cap bs hl (Bytes.of_own h)

end Go.Proofs.YtolpgpphjnkehaaGreatDoor.Pag
/- What a step may turn: a set of blocks. -/
namespace Go.Proofs.YtolpgpphjnkehaaGreatDoor.Pag
set_option maxRecDepth 20000
open Go.RowKit

/-- From w to w' only blocks of F, and new ones, have turned. -/
structure Off (F : Nat → Prop) (w w' : World) : Prop where
  os : w'.os = w.os
  tape : w'.tape = w.tape
  output : w'.output = w.output
  size : w.heap.size ≤ w'.heap.size
  block : ∀ k, k < w.heap.size → ¬ F k → w'.heap[k]? = w.heap[k]?

section
variable {F G : Nat → Prop} {w w1 w2 : World}
theorem Off.refl (F : Nat → Prop) (w : World) : Off F w w := ⟨rfl, rfl, rfl, Nat.le_refl _, fun _ _ _ => rfl⟩
theorem Off.trans (h : Off F w w1) (k : Off F w1 w2) : Off F w w2 :=
  ⟨k.os.trans h.os, k.tape.trans h.tape, k.output.trans h.output, Nat.le_trans h.size k.size, fun i hi hn => (k.block i (Nat.lt_of_lt_of_le hi h.size) hn).trans (h.block i hi hn)⟩
theorem Off.mono (h : Off F w w1) (hF : ∀ k, k < w.heap.size → F k → G k) : Off G w w1 :=
  ⟨h.os, h.tape, h.output, h.size, fun k hk hn => h.block k hk fun hf => hn (hF k hk hf)⟩
/-- Two steps, the second of which may turn what the first has made. -/
theorem Off.then (h : Off F w w1) (k : Off G w1 w2) (hG : ∀ j, j < w.heap.size → G j → F j) : Off F w w2 :=
  ⟨k.os.trans h.os, k.tape.trans h.tape, k.output.trans h.output, Nat.le_trans h.size k.size, fun i hi hn => (k.block i (Nat.lt_of_lt_of_le hi h.size) fun hg => hn (hG i hi hg)).trans (h.block i hi hn)⟩
theorem Off.below {B : Nat} (h : Off F w w1) (hB : B ≤ w.heap.size) (hF : ∀ k, F k → B ≤ k) : Below B w w1 :=
  ⟨h.os, h.tape, h.output, h.size, fun k hk => h.block k (by omega) fun hf => by have := hF k hf; omega⟩
theorem Off.of_below {B : Nat} (h : Below B w w1) (F : Nat → Prop) (hF : ∀ k, k < w.heap.size → B ≤ k → F k) : Off F w w1 :=
  ⟨h.os, h.tape, h.output, h.size, fun k hk hn => h.block k (by
    rcases Nat.lt_or_ge k B with hb | hb
    · exact hb
    · exact absurd (hF k hk hb) hn)⟩
theorem Off.of_new (h : Below w.heap.size w w1) (F : Nat → Prop) : Off F w w1 := Off.of_below h F fun k h1 h2 => by omega
theorem Off.of_grown {row : Option Nat} (h : w.grownBy w1 row) : Off (fun k => row = some k) w w1 :=
  ⟨h.os, h.tape, h.output, h.size, fun k hk hn => h.block k hk fun e => hn e.symm⟩
theorem Off.set_ (w : World) (p : Addr) (u : Value) : Off (fun k => k = p.block) w (w.setCell p u) :=
  ⟨rfl, rfl, rfl, by simp [World.setCell], fun k _ hn => Below.heap_setCell _ _ _ _ hn⟩
theorem Off.setc (w : World) (g i : Nat) (u : Value) : Off (fun k => k = g) w (w.setCell ⟨g, i, none⟩ u) := Off.set_ w ⟨g, i, none⟩ u
theorem Off.drew (F : Nat → Prop) (w : World) : Off F w w.drew := ⟨rfl, rfl, rfl, Nat.le_refl _, fun _ _ _ => rfl⟩
theorem Off.drewN (F : Nat → Prop) (w : World) (n : Nat) : Off F w (w.drewN n) := ⟨rfl, rfl, rfl, Nat.le_refl _, fun _ _ _ => rfl⟩
theorem Off.alloc (F : Nat → Prop) (w : World) (o : Obj) : Off F w (w.alloc o) := ⟨rfl, rfl, rfl, by simp, fun k hk _ => Below.heap_alloc _ _ _ hk⟩
end

/-- A set of blocks, and those made since. -/
def grow (F : Nat → Prop) (w w' : World) : Nat → Prop := fun k => F k ∨ (w.heap.size ≤ k ∧ k < w'.heap.size)
theorem grow.old {F : Nat → Prop} {w w' : World} {k : Nat} (h : F k) : grow F w w' k := .inl h

theorem Blk.off {F : Nat → Prop} {w w' : World} {g : Nat} {t : TypeId} {cs : Array Value} (h : Blk w g t cs) (ho : Off F w w') (hg : ¬ F g) : Blk w' g t cs := (ho.block g h.lt hg).trans h
theorem Blk.same {w w' : World} {g : Nat} {t : TypeId} {cs : Array Value} (h : Blk w g t cs) (he : w'.heap[g]? = w.heap[g]?) : Blk w' g t cs := he.trans h

/-- A value that is a slice of bytes, which reads as bs; its block is one of E. -/
def Sec (w : World) (E : Nat → Prop) (v : Value) (bs : List UInt8) : Prop :=
  ∃ A c, v = .slice A bs.length c ∧ bs.length ≤ c ∧ c ≤ maxLen ∧ Bytes w A bs ∧ ∀ p : Addr, A = some p → E p.block

theorem Bytes.same {w w' : World} {A : Option Addr} {bs : List UInt8} (h : Bytes w A bs) (hs : w.heap.size ≤ w'.heap.size) (he : ∀ p : Addr, A = some p → p.block < w.heap.size → w'.heap[p.block]? = w.heap[p.block]?) : Bytes w' A bs := fun k c hk => by
  obtain ⟨b, off, e, hlt, hc⟩ := h k c hk
  exact ⟨b, off, e, Nat.lt_of_lt_of_le hlt hs, (World.cell?_of_block (a := ⟨b, off + k, none⟩) (he ⟨b, off, none⟩ e hlt)).trans hc⟩
theorem Sec.same {w w' : World} {E : Nat → Prop} {v : Value} {bs : List UInt8} (h : Sec w E v bs) (hs : w.heap.size ≤ w'.heap.size) (he : ∀ k, E k → k < w.heap.size → w'.heap[k]? = w.heap[k]?) : Sec w' E v bs := by
  obtain ⟨A, c, h1, h2, h3, h4, h5⟩ := h
  exact ⟨A, c, h1, h2, h3, h4.same hs (fun p e hp => he _ (h5 p e) hp), h5⟩
theorem Sec.mono {w : World} {E E' : Nat → Prop} {v : Value} {bs : List UInt8} (h : Sec w E v bs) (hE : ∀ k, E k → E' k) : Sec w E' v bs := by
  obtain ⟨A, c, h1, h2, h3, h4, h5⟩ := h
  exact ⟨A, c, h1, h2, h3, h4, fun p e => hE _ (h5 p e)⟩
theorem Sec.nil (w : World) (E : Nat → Prop) : Sec w E (.slice none 0 0) [] := ⟨none, 0, rfl, Nat.le_refl _, Nat.zero_le _, Bytes.nil _ _, fun p e => by cases e⟩
theorem Sec.of_blk {w : World} {E : Nat → Prop} {g : Nat} {t : TypeId} {bs : List UInt8} (h : Blk w g t (row8 bs)) (hE : E g) (hl : bs.length ≤ maxLen) (n : Nat) (hn : bs.length = n) : Sec w E (.slice (some ⟨g, 0, none⟩) n n) bs :=
  ⟨some ⟨g, 0, none⟩, n, by rw [hn], by omega, by omega, Bytes.row h, fun p e => by cases e; exact hE⟩

end Go.Proofs.YtolpgpphjnkehaaGreatDoor.Pag
/- pages: maps apart from memory. -/
namespace Go.Proofs.YtolpgpphjnkehaaGreatDoor.Pag
set_option maxRecDepth 20000
open Go.RowKit

namespace Pgs
/-- A map without sectors: of the code's 1116 numbers. -/
def none_ : List Nat := List.replicate 1116 0
/-- What is kept: 1116 numbers of 16 bits, none of them behind page 1023. -/
structure Ok (L : List Nat) : Prop where
  len : L.length = 1116
  lt : ∀ (i x : Nat), L[i]? = some x → x < 65536
  end_ : ∀ i, 1024 ≤ i → L.getD i 0 = 0
theorem none_ok : Ok none_ := ⟨by unfold none_; rw [List.length_replicate], fun i x h => by
    have := List.mem_of_getElem? h
    rw [none_, List.mem_replicate] at this
    omega, fun i _ => by
    unfold none_
    rw [List.getD_eq_getElem?_getD, List.getElem?_replicate]
    split <;> rfl⟩
/-- A page's sector. -/
def got (L : List Nat) (p : Int) : Nat := if 0 ≤ p ∧ p < 1024 then L.getD p.toNat 0 else 0
/-- May a page have it? -/
def setB (p s : Int) : Bool := decide (0 ≤ p ∧ p < 1024) && decide (1 ≤ s ∧ s ≤ 65535)
def setL (L : List Nat) (p s : Int) : List Nat := if setB p s then L.set p.toNat s.toNat else L
def clearB (L : List Nat) (p : Int) : Bool := decide (got L p ≠ 0)
def clearL (L : List Nat) (p : Int) : List Nat := if clearB L p then L.set p.toNat 0 else L
theorem Ok.set {L : List Nat} (h : Ok L) (i x : Nat) (hi : i < 1024) (hx : x < 65536) : Ok (L.set i x) := by
  refine ⟨by rw [List.length_set]; exact h.len, fun j y hj => ?_, fun j hj => ?_⟩
  · by_cases e : j = i
    · subst e
      rw [List.getElem?_set_self (by rw [h.len]; omega)] at hj
      cases hj; exact hx
    · rw [List.getElem?_set_ne (fun e' => e e'.symm)] at hj
      exact h.lt j y hj
  · have := h.end_ j hj
    rw [List.getD_eq_getElem?_getD] at this ⊢
    rw [List.getElem?_set_ne (by omega)]
    exact this
theorem setL_ok {L : List Nat} (h : Ok L) (p s : Int) : Ok (setL L p s) := by
  unfold setL
  split
  · rename_i hb
    unfold setB at hb
    simp only [Bool.and_eq_true, decide_eq_true_eq] at hb
    exact h.set _ _ (by omega) (by omega)
  · exact h
theorem clearL_ok {L : List Nat} (h : Ok L) (p : Int) : Ok (clearL L p) := by
  unfold clearL
  split
  · rename_i hb
    unfold clearB got at hb
    simp only [decide_eq_true_eq] at hb
    have : 0 ≤ p ∧ p < 1024 := by
      by_cases e : 0 ≤ p ∧ p < 1024
      · exact e
      · rw [if_neg e] at hb; exact absurd rfl hb
    exact h.set _ _ (by omega) (by decide)
  · exact h

/-- The pages that have a sector, rising; their sectors. -/
def pagesL (L : List Nat) : List Nat := (List.range 1024).filter fun i => decide (L.getD i 0 ≠ 0)
def sectorsL (L : List Nat) : List Nat := (pagesL L).map fun i => L.getD i 0
/-- The pages below one. -/
def pagesTo (L : List Nat) (k : Nat) : List Nat := (List.range k).filter fun i => decide (L.getD i 0 ≠ 0)
theorem pagesTo_succ (L : List Nat) (k : Nat) : pagesTo L (k + 1) = if L.getD k 0 = 0 then pagesTo L k else pagesTo L k ++ [k] := by
  unfold pagesTo
  rw [List.range_succ, List.filter_append]
  by_cases h : L.getD k 0 = 0
  · rw [if_pos h]; rw [List.getD_eq_getElem?_getD] at h; simp [h]
  · rw [if_neg h]; rw [List.getD_eq_getElem?_getD] at h; simp [h]
theorem pagesTo_len (L : List Nat) (k : Nat) : (pagesTo L k).length ≤ k := by
  unfold pagesTo
  have := List.length_filter_le (fun i => decide (L.getD i 0 ≠ 0)) (List.range k)
  rw [List.length_range] at this
  exact this
theorem pagesTo_lt (L : List Nat) (k : Nat) : ∀ p ∈ pagesTo L k, p < k ∧ L.getD p 0 ≠ 0 := fun p hp => by
  unfold pagesTo at hp
  simp only [List.mem_filter, List.mem_range, decide_eq_true_eq] at hp
  exact hp

/-- A part's numbers. -/
def partN (L : List Nat) (i : Nat) : List Nat := (L.drop (i * 124)).take 124
/-- Without the noughts at its end. -/
def trim : List Nat → List Nat
  | [] => []
  | x :: r => if x = 0 ∧ trim r = [] then [] else x :: trim r
def bytes2 (l : List Nat) : List UInt8 := l.flatMap fun x => [UInt8.ofNat x, UInt8.ofNat (x / 256)]
def partB (L : List Nat) (i : Nat) : List UInt8 := bytes2 (trim (partN L i))
/-- The numbers that bytes say. -/
def said (b : List UInt8) : List Nat := (List.range (b.length / 2)).map fun k => (b.getD (2 * k) 0).toNat + 256 * (b.getD (2 * k + 1) 0).toNat
def layB (i : Int) (b : List UInt8) : Bool := decide (0 ≤ i ∧ i < 9) && decide (b.length ≤ 248) && decide (b.length % 2 = 0) && decide (∀ k, k < b.length / 2 → (said b).getD k 0 ≠ 0 → i.toNat * 124 + k < 1024) && decide (b.length = 0 ∨ (said b).getD (b.length / 2 - 1) 0 ≠ 0)
def layL (L : List Nat) (i : Int) (b : List UInt8) : List Nat := if layB i b then L.take (i.toNat * 124) ++ (said b ++ List.replicate (124 - b.length / 2) 0) ++ L.drop (i.toNat * 124 + 124) else L
/-- The parts that are not the same. -/
def turnedL (L K : List Nat) : List Nat := (List.range 9).filter fun i => decide (partN L i ≠ partN K i)
end Pgs
end Go.Proofs.YtolpgpphjnkehaaGreatDoor.Pag
/- pages: a map in memory; New, Copy. -/
namespace Go.Proofs.YtolpgpphjnkehaaGreatDoor.Pag
set_option maxRecDepth 20000
open Go.RowKit Pgs

/-- A row of numbers of 16 bits; of int. -/
def row16 (L : List Nat) : Array Value := (L.map fun (n : Nat) => Value.int .u16 (n : Int)).toArray
def rowI (L : List Nat) : Array Value := (L.map fun (n : Nat) => Value.int .i64 (n : Int)).toArray
theorem row16_size (L : List Nat) : (row16 L).size = L.length := by simp [row16]
theorem rowI_size (L : List Nat) : (rowI L).size = L.length := by simp [rowI]
theorem row16_get {L : List Nat} {i x : Nat} (h : L[i]? = some x) : (row16 L)[i]? = some (.int .u16 (x : Int)) := by simp [row16, h]
theorem rowI_get {L : List Nat} {i x : Nat} (h : L[i]? = some x) : (rowI L)[i]? = some (.int .i64 (x : Int)) := by simp [rowI, h]
theorem row16_set (L : List Nat) (i x : Nat) : (row16 L).setIfInBounds i (.int .u16 (x : Int)) = row16 (L.set i x) := by
  unfold row16
  rw [List.setIfInBounds_toArray, List.map_set]
theorem rowI_set (L : List Nat) (i x : Nat) : (rowI L).setIfInBounds i (.int .i64 (x : Int)) = rowI (L.set i x) := by
  unfold rowI
  rw [List.setIfInBounds_toArray, List.map_set]
theorem row16_one (L : List Nat) : (row16 L).all (·.oneCell') = true := by
  unfold row16
  simp [Value.oneCell']
theorem rowI_one (L : List Nat) : (rowI L).all (·.oneCell') = true := by
  unfold rowI
  simp [Value.oneCell']

/-- The code's map at block g. -/
structure PM (w : World) (g : Nat) (L : List Nat) : Prop where
  blk : Blk w g 173 (row16 L)
  ok : Ok L
theorem PM.below {w w' : World} {g : Nat} {L : List Nat} (h : PM w g L) (hb : Below w.heap.size w w') : PM w' g L := ⟨h.blk.below hb h.blk.lt, h.ok⟩
theorem PM.same {w w' : World} {g : Nat} {L : List Nat} (h : PM w g L) (hb : w'.heap[g]? = w.heap[g]?) : PM w' g L := ⟨h.blk.same hb, h.ok⟩
theorem PM.cell {w : World} {g : Nat} {L : List Nat} (h : PM w g L) {i x : Nat} (hx : L[i]? = some x) : w.cell? ⟨g, i, none⟩ = some (.int .u16 (x : Int)) := by rw [h.blk.cell i]; exact row16_get hx
theorem PM.set {w : World} {g : Nat} {L : List Nat} (h : PM w g L) (i x : Nat) (hi : i < 1024) (hx : x < 65536) : PM (w.setCell ⟨g, i, none⟩ (.int .u16 (x : Int))) g (L.set i x) := by
  refine ⟨?_, h.ok.set i x hi hx⟩
  have := h.blk.set_ i (.int .u16 (x : Int))
  rwa [row16_set] at this

/-- A value of one part. -/
theorem wpList_build1 {P : Program} {ops : Array Oper} {rest : List Oper} {o : Oper} {a : Act} {w : World} {Q : Exit → Act → World → Prop} (hg : o.guard = none) (t : TypeId) (x : Operand) (ho : o.op = .build t #[(0, x)]) (v : Value) (hx : a.eval x = v) (cells : Array Value)
    (hb : P.built t [(0, v)] = some cells) (h : wpList P ops Q rest (a.put o.dst (.agg cells)) w) : wpList P ops Q (o :: rest) a w := by
  subst hx
  refine wpList_build hg t #[(0, x)] ho (by simp [hb]) ?_
  simp only [List.map_toArray, List.map_cons, List.map_nil, hb, Option.getD_some]
  exact h
theorem built_new : Tryz.prog.built 173 [] = some (row16 none_) := by kernel_rfl

set_option maxHeartbeats 1000000 in
theorem new_any (w : World) : Calls Tryz.prog 165 #[] w fun e w' => e = .returned (.pointer (some ⟨w.heap.size, 0, none⟩)) ∧ PM w' w.heap.size none_ ∧ Below w.heap.size w w' := by
  have hb := built_new
  obtain ⟨Z, hZ⟩ : ∃ Z, row16 none_ = Z := ⟨_, rfl⟩
  rw [hZ] at hb
  have HP : Hid (PM (w.alloc (.cells Z 173)) w.heap.size none_) := Lib.hid ⟨by rw [hZ]; exact Blk.new _ _ _, none_ok⟩
  have HB : Hid (Below w.heap.size w (w.alloc (.cells Z 173))) := Lib.hid ((Below.refl _ _).alloc (Nat.le_refl _) _)
  clear hZ
  go_enter Tryz.func165, Tryz.ntmps165
  go_wp2_with (refine wpList_build rfl 173 #[] rfl (by simp [hb]) ?_; simp only [List.map_toArray, List.map_nil, hb, Option.getD_some])
  go_ret
  exact ⟨rfl, HP.out, HB.out⟩

theorem foldl_set (l : List Value) : ∀ (k : Nat) (a : Array Value), k + l.length ≤ a.size → ∀ i, ((l.zipIdx k).foldl (fun (a : Array Value) (x : Value × Nat) => a.setIfInBounds (0 + x.2) x.1) a)[i]? = if k ≤ i ∧ i < k + l.length then l[i - k]? else a[i]? := by
  induction l with
  | nil => intro k a _ i; rw [if_neg (by rw [List.length_nil]; omega)]; rfl
  | cons c r ih =>
    intro k a ha i
    rw [List.length_cons] at ha
    rw [List.zipIdx_cons, List.foldl_cons, ih (k + 1) _ (by rw [Array.size_setIfInBounds]; omega) i, List.length_cons]
    dsimp only
    by_cases h1 : k + 1 ≤ i ∧ i < k + 1 + r.length
    · rw [if_pos h1, if_pos (by omega), show i - k = (i - (k + 1)) + 1 by omega, List.getElem?_cons_succ]
    · rw [if_neg h1, Array.getElem?_setIfInBounds, Nat.zero_add]
      by_cases h2 : k = i
      · subst h2
        rw [if_pos rfl, if_pos (by omega), if_pos (by omega), Nat.sub_self]; rfl
      · rw [if_neg h2, if_neg (by omega)]
theorem fill_all (place : Nat → Option (Nat × Nat)) (z cs : Array Value) (hp : place 0 = some (0, cs.size)) (hz : z.size = cs.size) : Instr.fill place z [(0, .agg cs)] = some cs := by
  unfold Instr.fill
  rw [hp]
  have hc : (Value.agg cs).cells = cs := rfl
  simp only [hc, Nat.zero_add, ne_eq, not_true, decide_false, Bool.false_or, hz, gt_iff_lt, Nat.lt_irrefl, Bool.false_eq_true, reduceIte]
  unfold Instr.fill
  congr 1
  apply Array.ext_getElem?
  intro i
  have h := foldl_set cs.toList 0 z (by rw [Array.length_toList]; omega) i
  rw [← Array.foldl_toList, Array.toList_zipIdx]
  simp only [Nat.zero_add] at h ⊢
  rw [h]
  by_cases hi : i < cs.size
  · rw [if_pos (by simpa using hi)]; simp
  · rw [if_neg (by simpa using hi), Array.getElem?_eq_none (by omega), Array.getElem?_eq_none (by omega)]

theorem Tryz.infoMap : (Tryz.prog.info? 173).map (fun i => (i.zero.map (·.cells.size), i.size)) = some (some 1116, 1116) := by kernel_rfl
theorem Tryz.info1116 : (Tryz.prog.info? 171).map (·.size) = some 1116 := by kernel_rfl
theorem built_map (cs : Array Value) (h : cs.size = 1116) : Tryz.prog.built 173 [(0, .agg cs)] = some cs := by
  have hi := Tryz.infoMap
  have h1 := Tryz.info1116
  unfold Program.built
  cases hq : Tryz.prog.info? 173 with
  | none => rw [hq] at hi; cases hi
  | some it =>
    rw [hq] at hi
    simp only [Option.map_some, Option.some.injEq, Prod.mk.injEq] at hi
    rw [Tryz.underlying173]
    cases hz : it.zero with
    | none => rw [hz] at hi; cases hi.1
    | some z =>
      rw [hz] at hi
      simp only [Option.map_some, Option.some.injEq] at hi
      cases hq1 : Tryz.prog.info? 171 with
      | none => rw [hq1] at h1; cases h1
      | some ie =>
        rw [hq1] at h1
        simp only [Option.map_some, Option.some.injEq] at h1
        simp only [List.mapM_cons, List.mapM_nil, hq1, Option.map_some, h1]
        rw [hz]
        show Instr.fill _ z.cells [(0, .agg cs)] = some cs
        refine fill_all _ z.cells cs ?_ (by rw [hi.1, h])
        rw [h]
        rfl

set_option maxHeartbeats 1000000 in
theorem copy_some (g : Nat) (L : List Nat) (w : World) (h : PM w g L) : Calls Tryz.prog 63 #[.pointer (some ⟨g, 0, none⟩)] w fun e w' => e = .returned (.pointer (some ⟨w.heap.size, 0, none⟩)) ∧ PM w' w.heap.size L ∧ Below w.heap.size w w' := by
  obtain ⟨Z, hZ⟩ : ∃ Z, row16 L = Z := ⟨_, rfl⟩
  have hs : Z.size = 1116 := by rw [← hZ, row16_size, h.ok.len]
  have hb := built_map Z hs
  have HZ := Lib.hid hs
  have HG : Hid (w.heap[g]? = some (.cells Z 173 (0, 0))) := Lib.hid (by rw [← hZ]; exact h.blk)
  have HP : Hid (PM (w.alloc (.cells Z 173)) w.heap.size L) := Lib.hid ⟨by rw [hZ]; exact Blk.new _ _ _, h.ok⟩
  have HB : Hid (Below w.heap.size w (w.alloc (.cells Z 173))) := Lib.hid ((Below.refl _ _).alloc (Nat.le_refl _) _)
  clear hZ hs h
  go_enter Tryz.func63, Tryz.ntmps63
  go_wp2_with (first
    | (refine wpList_load_row rfl 171 (.tmp 7) rfl g rfl _ Z (0, 0) _ HG.out Tryz.underlying171 rfl (by rw [HZ.out]; exact Tryz.info1116) ?_)
    | (refine wpList_build1 rfl 173 (.tmp 8) rfl _ rfl Z hb ?_))
  go_ret
  exact ⟨rfl, HP.out, HB.out⟩
end Go.Proofs.YtolpgpphjnkehaaGreatDoor.Pag
/- pages: isPage, isPart, Get, Set, Clear. -/
namespace Go.Proofs.YtolpgpphjnkehaaGreatDoor.Pag
set_option maxRecDepth 20000
open Go.RowKit Pgs

theorem isPage_any (p : Int) (w : World) : Calls Tryz.prog 143 #[.int .i64 p] w fun e w' => e = .returned (.bool (decide (0 ≤ p ∧ p < 1024))) ∧ w = w' := by
  obtain ⟨b1, h1⟩ : ∃ b, decide (0 ≤ p) = b := ⟨_, rfl⟩
  obtain ⟨b2, h2⟩ : ∃ b, decide (p < 1024) = b := ⟨_, rfl⟩
  have hr : decide (0 ≤ p ∧ p < 1024) = (b1 && b2) := by rw [← h1, ← h2, Bool.decide_and]
  rw [hr]
  clear hr
  cases b1 <;> cases b2
  all_goals
    go_enter Tryz.func143, Tryz.ntmps143
    go_wp2_with fail
    go_ret
    exact ⟨rfl, rfl⟩
theorem isPart_any (p : Int) (w : World) : Calls Tryz.prog 157 #[.int .i64 p] w fun e w' => e = .returned (.bool (decide (0 ≤ p ∧ p < 9))) ∧ w = w' := by
  obtain ⟨b1, h1⟩ : ∃ b, decide (0 ≤ p) = b := ⟨_, rfl⟩
  obtain ⟨b2, h2⟩ : ∃ b, decide (p < 9) = b := ⟨_, rfl⟩
  have hr : decide (0 ≤ p ∧ p < 9) = (b1 && b2) := by rw [← h1, ← h2, Bool.decide_and]
  rw [hr]
  clear hr
  cases b1 <;> cases b2
  all_goals
    go_enter Tryz.func157, Tryz.ntmps157
    go_wp2_with fail
    go_ret
    exact ⟨rfl, rfl⟩

set_option maxRecDepth 20000 in
set_option maxHeartbeats 1000000 in
theorem get_nil (p : Int) (w : World) : Calls Tryz.prog 87 #[.pointer none, .int .i64 p] w fun e w' => e = .returned (.tuple #[.int .i64 0, .bool false]) ∧ w = w' := by
  go_enter Tryz.func87, Tryz.ntmps87
  go_wp2_with fail
  go_ret2
  exact ⟨rfl, rfl⟩
set_option maxRecDepth 20000 in
set_option maxHeartbeats 1000000 in
theorem get_some (g : Nat) (L : List Nat) (p : Int) (w : World) (h : PM w g L) : Calls Tryz.prog 87 #[.pointer (some ⟨g, 0, none⟩), .int .i64 p] w fun e w' => e = .returned (.tuple #[.int .i64 (got L p : Int), .bool (decide (got L p ≠ 0))]) ∧ w = w' := by
  have H1 := Lib.hid (isPage_any p w)
  by_cases hp : 0 ≤ p ∧ p < 1024
  · rw [decide_eq_true hp] at H1
    obtain ⟨k, rfl⟩ : ∃ k : Nat, p = k := ⟨p.toNat, by omega⟩
    have hk : k < 1024 := by omega
    obtain ⟨x, hx⟩ : ∃ x, L[k]? = some x := ⟨_, List.getElem?_eq_getElem (by rw [h.ok.len]; omega)⟩
    have hx6 := h.ok.lt k x hx
    have hg : got L (k : Int) = x := by unfold got; rw [if_pos hp, Int.toNat_natCast, List.getD_eq_getElem?_getD, hx]; rfl
    have c0 := h.cell hx
    rw [hg]
    have hki : (k : Int) < 1116 := by omega
    clear hg hx hp
    by_cases hx0 : x = 0
    · subst hx0
      go_enter Tryz.func87, Tryz.ntmps87
      go_wp2_with (go_at_call 143; refine Calls.mono H1.out ?_; rintro e w' ⟨rfl, rfl⟩)
      go_ret2
      exact ⟨rfl, rfl⟩
    · have hxi : ((x : Int) == 0) = false := by simp; omega
      have hxd : decide (x ≠ 0) = true := by simpa using hx0
      rw [hxd]
      clear hx0 hxd
      go_enter Tryz.func87, Tryz.ntmps87
      go_wp2_with (go_at_call 143; refine Calls.mono H1.out ?_; rintro e w' ⟨rfl, rfl⟩)
      go_ret2
      exact ⟨rfl, rfl⟩
  · rw [decide_eq_false hp] at H1
    have hg : got L p = 0 := by unfold got; rw [if_neg hp]
    rw [hg]
    clear hg hp
    go_enter Tryz.func87, Tryz.ntmps87
    go_wp2_with (go_at_call 143; refine Calls.mono H1.out ?_; rintro e w' ⟨rfl, rfl⟩)
    go_ret2
    exact ⟨rfl, rfl⟩

set_option maxRecDepth 20000 in
set_option maxHeartbeats 1000000 in
theorem set_nil (p s : Int) (w : World) : Calls Tryz.prog 97 #[.pointer none, .int .i64 p, .int .i64 s] w fun e w' => e = .returned (.bool false) ∧ w = w' := by
  go_enter Tryz.func97, Tryz.ntmps97
  go_wp2_with fail
  go_ret
  exact ⟨rfl, rfl⟩
/-- What a step on a map at block g leaves. -/
def Stp (w w' : World) (g : Nat) (L : List Nat) : Prop := PM w' g L ∧ Off (fun k => k = g) w w'
set_option maxRecDepth 20000 in
set_option maxHeartbeats 1000000 in
theorem set_some (g : Nat) (L : List Nat) (p s : Int) (w : World) (h : PM w g L) : Calls Tryz.prog 97 #[.pointer (some ⟨g, 0, none⟩), .int .i64 p, .int .i64 s] w fun e w' => e = .returned (.bool (setB p s)) ∧ Stp w w' g (setL L p s) := by
  have H1 := Lib.hid (isPage_any p w)
  by_cases hp : 0 ≤ p ∧ p < 1024
  · rw [decide_eq_true hp] at H1
    by_cases hs : 1 ≤ s ∧ s ≤ 65535
    · have hb : setB p s = true := by unfold setB; simp [hp, hs]
      have hl : setL L p s = L.set p.toNat s.toNat := by unfold setL; rw [hb]; rfl
      rw [hb, hl]
      obtain ⟨k, rfl⟩ : ∃ k : Nat, p = k := ⟨p.toNat, by omega⟩
      obtain ⟨x, rfl⟩ : ∃ x : Nat, s = x := ⟨s.toNat, by omega⟩
      have hk : k < 1024 := by omega
      obtain ⟨y, hy⟩ : ∃ y, L[k]? = some y := ⟨_, List.getElem?_eq_getElem (by rw [h.ok.len]; omega)⟩
      have c0 := h.cell hy
      have f0 := h.blk.frozen k
      have hw : IntKind.u16.wrap (x : Int) = x := by rw [IntKind.wrap_u16]; omega
      have hki : (k : Int) < 1116 := by omega
      have HS : Hid (Stp w (w.setCell ⟨g, k, none⟩ (.int .u16 (x : Int))) g (L.set k x)) := Lib.hid ⟨h.set k x hk (by omega), Off.setc _ _ _ _⟩
      have hx1 : (1 : Int) ≤ (x : Int) := hs.1
      have hx2 : (x : Int) ≤ 65535 := hs.2
      clear h hb hl hy hp hs
      go_enter Tryz.func97, Tryz.ntmps97
      go_wp2_with (go_at_call 143; refine Calls.mono H1.out ?_; rintro e w' ⟨rfl, rfl⟩)
      go_ret
      exact ⟨rfl, HS.out⟩
    · have hb : setB p s = false := by unfold setB; simp [hs]
      have hl : setL L p s = L := by unfold setL; rw [hb]; rfl
      rw [hb, hl]
      have HS : Hid (Stp w w g L) := Lib.hid ⟨h, Off.refl _ _⟩
      by_cases h1 : s < 1
      · clear h hb hl hp hs
        go_enter Tryz.func97, Tryz.ntmps97
        go_wp2_with (go_at_call 143; refine Calls.mono H1.out ?_; rintro e w' ⟨rfl, rfl⟩)
        go_ret
        exact ⟨rfl, HS.out⟩
      · have h2 : (65535 : Int) < s := by omega
        clear h hb hl hp hs
        go_enter Tryz.func97, Tryz.ntmps97
        go_wp2_with (go_at_call 143; refine Calls.mono H1.out ?_; rintro e w' ⟨rfl, rfl⟩)
        go_ret
        exact ⟨rfl, HS.out⟩
  · rw [decide_eq_false hp] at H1
    have hb : setB p s = false := by unfold setB; rw [decide_eq_false hp]; rfl
    have hl : setL L p s = L := by unfold setL; rw [hb]; rfl
    rw [hb, hl]
    have HS : Hid (Stp w w g L) := Lib.hid ⟨h, Off.refl _ _⟩
    clear h hb hl hp
    go_enter Tryz.func97, Tryz.ntmps97
    go_wp2_with (go_at_call 143; refine Calls.mono H1.out ?_; rintro e w' ⟨rfl, rfl⟩)
    go_ret
    exact ⟨rfl, HS.out⟩

set_option maxRecDepth 20000 in
set_option maxHeartbeats 1000000 in
theorem clear_nil (p : Int) (w : World) : Calls Tryz.prog 103 #[.pointer none, .int .i64 p] w fun e w' => e = .returned (.bool false) ∧ w = w' := by
  have H1 := Lib.hid (get_nil p w)
  go_enter Tryz.func103, Tryz.ntmps103
  go_wp2_with (go_at_call 87; refine Calls.mono H1.out ?_; rintro e w' ⟨rfl, rfl⟩)
  go_ret
  exact ⟨rfl, rfl⟩
set_option maxRecDepth 20000 in
set_option maxHeartbeats 1000000 in
theorem clear_some (g : Nat) (L : List Nat) (p : Int) (w : World) (h : PM w g L) : Calls Tryz.prog 103 #[.pointer (some ⟨g, 0, none⟩), .int .i64 p] w fun e w' => e = .returned (.bool (clearB L p)) ∧ Stp w w' g (clearL L p) := by
  have h1 := get_some g L p w h
  by_cases hc : clearB L p = true
  · have hn : got L p ≠ 0 := by unfold clearB at hc; simpa using hc
    have hp : 0 ≤ p ∧ p < 1024 := by
      by_cases e : 0 ≤ p ∧ p < 1024
      · exact e
      · unfold got at hn; rw [if_neg e] at hn; exact absurd rfl hn
    have hl : clearL L p = L.set p.toNat 0 := by unfold clearL; rw [hc]; rfl
    rw [hc, hl]
    rw [show decide (got L p ≠ 0) = true from hc] at h1
    obtain ⟨gx, hgx⟩ : ∃ gx, got L p = gx := ⟨_, rfl⟩
    rw [hgx] at h1
    obtain ⟨k, rfl⟩ : ∃ k : Nat, p = k := ⟨p.toNat, by omega⟩
    have hk : k < 1024 := by omega
    obtain ⟨y, hy⟩ : ∃ y, L[k]? = some y := ⟨_, List.getElem?_eq_getElem (by rw [h.ok.len]; omega)⟩
    have c0 := h.cell hy
    have f0 := h.blk.frozen k
    have hki : (k : Int) < 1116 := by omega
    have HS : Hid (Stp w (w.setCell ⟨g, k, none⟩ (.int .u16 0)) g (L.set k 0)) := Lib.hid ⟨h.set k 0 hk (by decide), Off.setc _ _ _ _⟩
    have H1 := Lib.hid h1
    clear h hc hn hp hl hgx hy h1
    go_enter Tryz.func103, Tryz.ntmps103
    go_wp2_with (go_at_call 87; refine Calls.mono H1.out ?_; rintro e w' ⟨rfl, rfl⟩)
    go_ret
    exact ⟨rfl, HS.out⟩
  · have hc' : clearB L p = false := by simpa using hc
    have hl : clearL L p = L := by unfold clearL; rw [hc']; rfl
    rw [hc', hl]
    rw [show decide (got L p ≠ 0) = false from hc'] at h1
    obtain ⟨gx, hgx⟩ : ∃ gx, got L p = gx := ⟨_, rfl⟩
    rw [hgx] at h1
    have HS : Hid (Stp w w g L) := Lib.hid ⟨h, Off.refl _ _⟩
    have H1 := Lib.hid h1
    clear h hc hc' hl hgx h1
    go_enter Tryz.func103, Tryz.ntmps103
    go_wp2_with (go_at_call 87; refine Calls.mono H1.out ?_; rintro e w' ⟨rfl, rfl⟩)
    go_ret
    exact ⟨rfl, HS.out⟩
end Go.Proofs.YtolpgpphjnkehaaGreatDoor.Pag
/- The reference's maps: New, Copy, has, Get, Set, Clear. -/
namespace Go.Proofs.YtolpgpphjnkehaaGreatDoor.Pag
set_option maxRecDepth 20000
open Go.RowKit Pgs

/-- The reference's map at block g. -/
structure PR (w : World) (g : Nat) (L : List Nat) : Prop where
  blk : Blk w g 182 (rowI (L.take 1024))
  ok : Ok L
theorem PR.below {w w' : World} {g : Nat} {L : List Nat} (h : PR w g L) (hb : Below w.heap.size w w') : PR w' g L := ⟨h.blk.below hb h.blk.lt, h.ok⟩
theorem PR.same {w w' : World} {g : Nat} {L : List Nat} (h : PR w g L) (hb : w'.heap[g]? = w.heap[g]?) : PR w' g L := ⟨h.blk.same hb, h.ok⟩
theorem PR.cell {w : World} {g : Nat} {L : List Nat} (h : PR w g L) {i x : Nat} (hx : L[i]? = some x) (hi : i < 1024) : w.cell? ⟨g, i, none⟩ = some (.int .i64 (x : Int)) := by
  rw [h.blk.cell i]
  exact rowI_get (by rw [List.getElem?_take_of_lt hi]; exact hx)
theorem PR.set {w : World} {g : Nat} {L : List Nat} (h : PR w g L) (i x : Nat) (hi : i < 1024) (hx : x < 65536) : PR (w.setCell ⟨g, i, none⟩ (.int .i64 (x : Int))) g (L.set i x) := by
  refine ⟨?_, h.ok.set i x hi hx⟩
  have := h.blk.set_ i (.int .i64 (x : Int))
  rw [rowI_set, ← List.take_set] at this
  exact this
def StR (w w' : World) (g : Nat) (L : List Nat) : Prop := PR w' g L ∧ Off (fun k => k = g) w w'

def none1 : List Nat := List.replicate 1024 0
theorem none1_is : none_.take 1024 = none1 := by unfold none_ none1; rw [List.take_replicate]; rfl
theorem builtR_new : Tryz.prog.built 182 [] = some (rowI none1) := by kernel_rfl
theorem infoR : (Tryz.prog.info? 182).map (fun i => (i.zero, i.size)) = some (some (.agg (rowI none1)), 1024) := by kernel_rfl

set_option maxRecDepth 20000 in
set_option maxHeartbeats 1000000 in
theorem rnew_any (w : World) : Calls Tryz.prog 120 #[] w fun e w' => e = .returned (.pointer (some ⟨w.heap.size, 0, none⟩)) ∧ PR w' w.heap.size none_ ∧ Below w.heap.size w w' := by
  have hb := builtR_new
  obtain ⟨Z, hZ⟩ : ∃ Z, rowI none1 = Z := ⟨_, rfl⟩
  rw [hZ] at hb
  have HP : Hid (PR (w.alloc (.cells Z 182)) w.heap.size none_) := Lib.hid ⟨by rw [none1_is, hZ]; exact Blk.new _ _ _, none_ok⟩
  have HB : Hid (Below w.heap.size w (w.alloc (.cells Z 182))) := Lib.hid ((Below.refl _ _).alloc (Nat.le_refl _) _)
  clear hZ
  go_enter Tryz.func120, Tryz.ntmps120
  go_wp2_with (refine wpList_build rfl 182 #[] rfl (by simp [hb]) ?_; simp only [List.map_toArray, List.map_nil, hb, Option.getD_some])
  go_ret
  exact ⟨rfl, HP.out, HB.out⟩

set_option maxRecDepth 20000 in
set_option maxHeartbeats 1000000 in
theorem rcopy_some (g : Nat) (L : List Nat) (w : World) (h : PR w g L) : Calls Tryz.prog 67 #[.pointer (some ⟨g, 0, none⟩)] w fun e w' => e = .returned (.pointer (some ⟨w.heap.size, 0, none⟩)) ∧ PR w' w.heap.size L ∧ Below w.heap.size w w' := by
  obtain ⟨Y, hY⟩ : ∃ Y, rowI none1 = Y := ⟨_, rfl⟩
  obtain ⟨hzero, hsz⟩ := zero_of_info infoR
  rw [hY] at hzero
  obtain ⟨Z, hZ⟩ : ∃ Z, rowI (L.take 1024) = Z := ⟨_, rfl⟩
  have hs : Z.size = 1024 := by rw [← hZ, rowI_size, List.length_take, h.ok.len]; rfl
  have hsY : Y.size = 1024 := by rw [← hY, rowI_size]; rfl
  have h1 : Z.all (·.oneCell') = true := by rw [← hZ]; exact rowI_one _
  have HG : Hid (w.heap[g]? = some (.cells Z 182 (0, 0))) := Lib.hid (by rw [← hZ]; exact h.blk)
  have HZ := Lib.hid hs
  have HSY := Lib.hid hsY
  have HSZ := Lib.hid hsz
  have H1 := Lib.hid h1
  have HP : Hid (PR (w.alloc (.cells Z 182)) w.heap.size L) := Lib.hid ⟨by rw [hZ]; exact Blk.new _ _ _, h.ok⟩
  have HB : Hid (Below w.heap.size w (w.alloc (.cells Z 182))) := Lib.hid ((Below.refl _ _).alloc (Nat.le_refl _) _)
  have HSET : Hid ((w.alloc (.cells Y 182)).setRow w.heap.size Z = w.alloc (.cells Z 182)) := Lib.hid (World.setRow_alloc_new w Y Z _)
  clear hY hZ hs hsY h1 h hsz
  go_enter Tryz.func67, Tryz.ntmps67
  go_wp2_with (first
    | (refine wpList_load_row rfl 182 (.tmp 7) rfl g rfl _ Z (0, 0) _ HG.out Tryz.underlying182 rfl (by rw [HZ.out]; exact HSZ.out) ?_)
    | (refine wpList_store_row rfl 182 (.tmp 3) (.tmp 8) rfl w.heap.size Z rfl rfl 182 Y (heap_alloc_last w _) (by rw [HZ.out]; exact HSZ.out) (by rw [HZ.out, HSY.out]) H1.out ?_; rw [HSET.out]))
  go_ret
  exact ⟨rfl, HP.out, HB.out⟩

set_option maxRecDepth 20000 in
set_option maxHeartbeats 1000000 in
theorem has_nil (p : Int) (w : World) : Calls Tryz.prog 135 #[.pointer none, .int .i64 p] w fun e w' => e = .returned (.bool false) ∧ w = w' := by
  go_enter Tryz.func135, Tryz.ntmps135
  go_wp2_with fail
  go_ret
  exact ⟨rfl, rfl⟩
set_option maxRecDepth 20000 in
set_option maxHeartbeats 1000000 in
theorem has_some (g : Nat) (L : List Nat) (p : Int) (w : World) (h : PR w g L) : Calls Tryz.prog 135 #[.pointer (some ⟨g, 0, none⟩), .int .i64 p] w fun e w' => e = .returned (.bool (decide (got L p ≠ 0))) ∧ w = w' := by
  by_cases hp : 0 ≤ p ∧ p < 1024
  · obtain ⟨k, rfl⟩ : ∃ k : Nat, p = k := ⟨p.toNat, by omega⟩
    have hk : k < 1024 := by omega
    obtain ⟨x, hx⟩ : ∃ x, L[k]? = some x := ⟨_, List.getElem?_eq_getElem (by rw [h.ok.len]; omega)⟩
    have hg : got L (k : Int) = x := by unfold got; rw [if_pos hp, Int.toNat_natCast, List.getD_eq_getElem?_getD, hx]; rfl
    have c0 := h.cell hx hk
    rw [hg]
    have hki : (k : Int) < 1024 := by omega
    obtain ⟨bx, hbx⟩ : ∃ bx, decide (0 < x) = bx := ⟨_, rfl⟩
    have hd : decide (x ≠ 0) = bx := by rw [← hbx, Bool.eq_iff_iff]; simp; omega
    rw [hd]
    clear hg hx hp h hd
    cases bx
    all_goals
      go_enter Tryz.func135, Tryz.ntmps135
      go_wp2_with fail
      go_ret
      exact ⟨rfl, rfl⟩
  · have hg : got L p = 0 := by unfold got; rw [if_neg hp]
    rw [hg]
    clear hg h
    by_cases h0 : 0 ≤ p
    · have h1 : ¬ (p < 1024) := by omega
      have h2 : decide (p < 1024) = false := by simpa using h1
      have h3 : decide (0 ≤ p) = true := by simpa using h0
      clear hp
      go_enter Tryz.func135, Tryz.ntmps135
      go_wp2_with fail
      go_ret
      exact ⟨rfl, rfl⟩
    · have h2 : decide (0 ≤ p) = false := by simpa using h0
      clear hp
      go_enter Tryz.func135, Tryz.ntmps135
      go_wp2_with fail
      go_ret
      exact ⟨rfl, rfl⟩

set_option maxRecDepth 20000 in
set_option maxHeartbeats 1000000 in
theorem rget_nil (p : Int) (w : World) : Calls Tryz.prog 91 #[.pointer none, .int .i64 p] w fun e w' => e = .returned (.tuple #[.int .i64 0, .bool false]) ∧ w = w' := by
  have H1 := Lib.hid (has_nil p w)
  go_enter Tryz.func91, Tryz.ntmps91
  go_wp2_with (go_at_call 135; refine Calls.mono H1.out ?_; rintro e w' ⟨rfl, rfl⟩)
  go_ret2
  exact ⟨rfl, rfl⟩
theorem got_in {L : List Nat} {p : Int} (h : got L p ≠ 0) : 0 ≤ p ∧ p < 1024 := by
  by_cases e : 0 ≤ p ∧ p < 1024
  · exact e
  · unfold got at h; rw [if_neg e] at h; exact absurd rfl h
set_option maxRecDepth 20000 in
set_option maxHeartbeats 1000000 in
theorem rget_some (g : Nat) (L : List Nat) (p : Int) (w : World) (h : PR w g L) : Calls Tryz.prog 91 #[.pointer (some ⟨g, 0, none⟩), .int .i64 p] w fun e w' => e = .returned (.tuple #[.int .i64 (got L p : Int), .bool (decide (got L p ≠ 0))]) ∧ w = w' := by
  have h1 := has_some g L p w h
  by_cases hn : got L p ≠ 0
  · rw [decide_eq_true hn] at h1 ⊢
    have hp := got_in hn
    obtain ⟨k, rfl⟩ : ∃ k : Nat, p = k := ⟨p.toNat, by omega⟩
    have hk : k < 1024 := by omega
    obtain ⟨x, hx⟩ : ∃ x, L[k]? = some x := ⟨_, List.getElem?_eq_getElem (by rw [h.ok.len]; omega)⟩
    have hg : got L (k : Int) = x := by unfold got; rw [if_pos hp, Int.toNat_natCast, List.getD_eq_getElem?_getD, hx]; rfl
    have c0 := h.cell hx hk
    rw [hg]
    have hki : (k : Int) < 1024 := by omega
    have H1 := Lib.hid h1
    clear hg hx hp h hn h1
    go_enter Tryz.func91, Tryz.ntmps91
    go_wp2_with (go_at_call 135; refine Calls.mono H1.out ?_; rintro e w' ⟨rfl, rfl⟩)
    go_ret2
    exact ⟨rfl, rfl⟩
  · rw [decide_eq_false hn] at h1 ⊢
    have hg : got L p = 0 := by omega
    rw [hg]
    have H1 := Lib.hid h1
    clear hg h hn h1
    go_enter Tryz.func91, Tryz.ntmps91
    go_wp2_with (go_at_call 135; refine Calls.mono H1.out ?_; rintro e w' ⟨rfl, rfl⟩)
    go_ret2
    exact ⟨rfl, rfl⟩
set_option maxRecDepth 20000 in
set_option maxHeartbeats 1000000 in
theorem rclear_some (g : Nat) (L : List Nat) (p : Int) (w : World) (h : PR w g L) : Calls Tryz.prog 128 #[.pointer (some ⟨g, 0, none⟩), .int .i64 p] w fun e w' => e = .returned (.bool (clearB L p)) ∧ StR w w' g (clearL L p) := by
  have h1 := has_some g L p w h
  by_cases hn : got L p ≠ 0
  · have hc : clearB L p = true := decide_eq_true hn
    have hl : clearL L p = L.set p.toNat 0 := by unfold clearL; rw [hc]; rfl
    rw [hc, hl]
    rw [decide_eq_true hn] at h1
    have hp := got_in hn
    obtain ⟨k, rfl⟩ : ∃ k : Nat, p = k := ⟨p.toNat, by omega⟩
    have hk : k < 1024 := by omega
    obtain ⟨x, hx⟩ : ∃ x, L[k]? = some x := ⟨_, List.getElem?_eq_getElem (by rw [h.ok.len]; omega)⟩
    have c0 := h.cell hx hk
    have f0 := h.blk.frozen k
    have hki : (k : Int) < 1024 := by omega
    have HS : Hid (StR w (w.setCell ⟨g, k, none⟩ (.int .i64 0)) g (L.set k 0)) := Lib.hid ⟨h.set k 0 hk (by decide), Off.setc _ _ _ _⟩
    have H1 := Lib.hid h1
    clear hx hp h hn h1 hc hl
    go_enter Tryz.func128, Tryz.ntmps128
    go_wp2_with (go_at_call 135; refine Calls.mono H1.out ?_; rintro e w' ⟨rfl, rfl⟩)
    go_ret
    exact ⟨rfl, HS.out⟩
  · have hc : clearB L p = false := decide_eq_false hn
    have hl : clearL L p = L := by unfold clearL; rw [hc]; rfl
    rw [hc, hl]
    rw [decide_eq_false hn] at h1
    have HS : Hid (StR w w g L) := Lib.hid ⟨h, Off.refl _ _⟩
    have H1 := Lib.hid h1
    clear h hn h1 hc hl
    go_enter Tryz.func128, Tryz.ntmps128
    go_wp2_with (go_at_call 135; refine Calls.mono H1.out ?_; rintro e w' ⟨rfl, rfl⟩)
    go_ret
    exact ⟨rfl, HS.out⟩
set_option maxRecDepth 20000 in
set_option maxHeartbeats 1000000 in
theorem rset_some (g : Nat) (L : List Nat) (p s : Int) (w : World) (h : PR w g L) : Calls Tryz.prog 127 #[.pointer (some ⟨g, 0, none⟩), .int .i64 p, .int .i64 s] w fun e w' => e = .returned (.bool (setB p s)) ∧ StR w w' g (setL L p s) := by
  by_cases hb : setB p s = true
  · have hl : setL L p s = L.set p.toNat s.toNat := by unfold setL; rw [hb]; rfl
    rw [hl]
    rw [hb]
    unfold setB at hb
    simp only [Bool.and_eq_true, decide_eq_true_eq] at hb
    obtain ⟨⟨hp0, hp1⟩, hs0, hs1⟩ := hb
    obtain ⟨k, rfl⟩ : ∃ k : Nat, p = k := ⟨p.toNat, by omega⟩
    obtain ⟨x, rfl⟩ : ∃ x : Nat, s = x := ⟨s.toNat, by omega⟩
    have hk : k < 1024 := by omega
    obtain ⟨y, hy⟩ : ∃ y, L[k]? = some y := ⟨_, List.getElem?_eq_getElem (by rw [h.ok.len]; omega)⟩
    have c0 := h.cell hy hk
    have f0 := h.blk.frozen k
    have HS : Hid (StR w (w.setCell ⟨g, k, none⟩ (.int .i64 (x : Int))) g (L.set k x)) := Lib.hid ⟨h.set k x hk (by omega), Off.setc _ _ _ _⟩
    clear hy h hl
    go_enter Tryz.func127, Tryz.ntmps127
    go_wp2_with fail
    go_ret
    exact ⟨rfl, HS.out⟩
  · have hb' : setB p s = false := by simpa using hb
    have hl : setL L p s = L := by unfold setL; rw [hb']; rfl
    rw [hl, hb']
    have HS : Hid (StR w w g L) := Lib.hid ⟨h, Off.refl _ _⟩
    have hor : p < 0 ∨ 1024 ≤ p ∨ s < 1 ∨ 65535 < s := by
      unfold setB at hb
      simp only [Bool.and_eq_true, decide_eq_true_eq] at hb
      omega
    clear h hb hb' hl
    by_cases q0 : p < 0
    · clear hor
      go_enter Tryz.func127, Tryz.ntmps127
      go_wp2_with fail
      go_ret
      exact ⟨rfl, HS.out⟩
    by_cases q1 : 1024 ≤ p
    · clear hor
      go_enter Tryz.func127, Tryz.ntmps127
      go_wp2_with fail
      go_ret
      exact ⟨rfl, HS.out⟩
    by_cases q2 : s < 1
    · clear hor
      go_enter Tryz.func127, Tryz.ntmps127
      go_wp2_with fail
      go_ret
      exact ⟨rfl, HS.out⟩
    · have q3 : (65535 : Int) < s := by omega
      clear hor
      go_enter Tryz.func127, Tryz.ntmps127
      go_wp2_with fail
      go_ret
      exact ⟨rfl, HS.out⟩
end Go.Proofs.YtolpgpphjnkehaaGreatDoor.Pag
/- The iterator of a map's pages. -/
namespace Go.Proofs.YtolpgpphjnkehaaGreatDoor.Pag
set_option maxRecDepth 20000
open Go.RowKit Go.Shelf Pgs
attribute [local go_sem] Oper.semAt_some

/-- What the iterator reads: its box, and the map's cells. -/
structure EInv (Bp g : Nat) (L : List Nat) (W : World) : Prop where
  box : W.cell? ⟨Bp, 0, none⟩ = some (.pointer (some ⟨g, 0, none⟩))
  by_ : ∀ (i x : Nat), L[i]? = some x → W.cell? ⟨g, i, none⟩ = some (.int .u16 (x : Int))
theorem EInv.kept {Bp g : Nat} {L : List Nat} {W W' : World} (h : EInv Bp g L W) (hk : ∀ (p : Addr) v, W.cell? p = some v → W'.cell? p = W.cell? p) : EInv Bp g L W' :=
  ⟨(hk _ _ h.box).trans h.box, fun i x hx => (hk _ _ (h.by_ i x hx)).trans (h.by_ i x hx)⟩
theorem EInv.far {Bp g X : Nat} {L : List Nat} {W W' : World} (h : EInv Bp g L W) (h1 : Bp ≠ X) (h2 : g ≠ X) (hk : ∀ q : Addr, q.block ≠ X → W'.cell? q = W.cell? q) : EInv Bp g L W' :=
  ⟨(hk ⟨Bp, 0, none⟩ h1).trans h.box, fun i x hx => (hk ⟨g, i, none⟩ h2).trans (h.by_ i x hx)⟩

abbrev Slot (n : Nat) := { k : Nat // k < n }
/-- So have the first k come. -/
def Come {n : Nat} (k : Nat) (pre : List (Slot n)) : Prop := pre.map (·.1) = List.range k
theorem Come.nil {n : Nat} : Come 0 ([] : List (Slot n)) := rfl
theorem Come.snoc {n k : Nat} {pre : List (Slot n)} (h : Come k pre) (hk : k < n) : Come (k + 1) (pre ++ [⟨k, hk⟩]) := by
  unfold Come at h ⊢
  rw [List.map_append, h, List.range_succ]; rfl
theorem Come.length {n k : Nat} {pre : List (Slot n)} (h : Come k pre) : pre.length = k := by
  have := congrArg List.length h
  simpa using this
/-- The k-th page that has a sector. -/
def pgK (L : List Nat) (k : Nat) : Nat := (pagesL L).getD k 0
def epair (L : List Nat) {n : Nat} (x : Slot n) : Array Value := #[.int .i64 (pgK L x.1 : Int), .int .i64 (L.getD (pgK L x.1) 0 : Int)]

theorem pagesTo_pre (L : List Nat) (j : Nat) : ∀ d, ∃ r, pagesTo L (j + d) = pagesTo L j ++ r := by
  intro d
  induction d with
  | zero => exact ⟨[], by simp⟩
  | succ d ih =>
    obtain ⟨r, hr⟩ := ih
    rw [← Nat.add_assoc, pagesTo_succ, hr]
    split
    · exact ⟨r, rfl⟩
    · exact ⟨r ++ [j + d], by rw [List.append_assoc]⟩
theorem pgK_at (L : List Nat) (k : Nat) (hk : k < 1024) (hx : L.getD k 0 ≠ 0) : (pagesTo L k).length < (pagesL L).length ∧ pgK L (pagesTo L k).length = k ∧ (pagesTo L (k + 1)).length = (pagesTo L k).length + 1 := by
  obtain ⟨r, hr⟩ := pagesTo_pre L (k + 1) (1024 - (k + 1))
  rw [show k + 1 + (1024 - (k + 1)) = 1024 by omega, pagesTo_succ L k, if_neg hx] at hr
  have e : pagesL L = pagesTo L k ++ [k] ++ r := hr
  refine ⟨by rw [e]; simp, ?_, by rw [pagesTo_succ, if_neg hx, List.length_append]; rfl⟩
  unfold pgK
  rw [e, List.append_assoc, List.getD_eq_getElem?_getD, List.getElem?_append_right (Nat.le_refl _), Nat.sub_self]
  rfl

set_option maxRecDepth 100000 in
set_option maxHeartbeats 2000000 in
theorem each1_in (m : Nat) (hm : 2 ≤ m) (l Bp g n : Nat) (L : List Nat) (hok : Ok L) (hn : (pagesL L).length = n) (J Jx : List (Slot n) → World → Prop)
    (hY : ∀ pre x W, J pre W → pre.length < n → YieldAt Fence.wide (m - 1) Tryz.prog l (epair L x) W fun e W' =>
      (e = .returned (.bool true) ∧ J (pre ++ [x]) W' ∧ (EInv Bp g L W → EInv Bp g L W')) ∨ (e = .returned (.bool false) ∧ Jx (pre ++ [x]) W'))
    (W : World) (hI : EInv Bp g L W) (h0 : J [] W) :
    CallsIn Fence.wide m Tryz.prog 176 #[.func (.yield l) #[] #[], .pointer (some ⟨Bp, 0, none⟩)] W fun e W' => (∃ v, e = .returned v) ∧
      ((∃ ys, Come n ys ∧ J ys W') ∨ (∃ pre, Come pre.length pre ∧ Jx pre W')) := by
  have hbx := hI.box
  have HOK := Lib.hid hok
  have HN := Lib.hid hn
  have HI := Lib.hid hI
  have HST : Hid (Come (pagesTo L 0).length ([] : List (Slot n)) ∧ J [] W) := Lib.hid ⟨Come.nil, h0⟩
  clear hn hok hI h0
  refine callsIn_of_wp Tryz.func176 rfl trivial ?_ rfl
  simp only [Tryz.ntmps176, List.size_toArray, List.length_cons, List.length_nil, Nat.reduceAdd, Nat.reduceSub, Array.replicate_succ, Array.replicate_zero, List.push_toArray, List.append_toArray, List.nil_append, List.cons_append]
  gi_wp2_with fail
  gi_loopw [3, 4, 7] (fun pg sc i wr => ∃ (k : Nat) (pre : List (Slot n)), k ≤ 1024 ∧ i = .int .i64 (k : Int) ∧ Hid (Come (pagesTo L k).length pre ∧ J pre wr) ∧ Hid (EInv Bp g L wr))
    (fun _ _ i _ => 1024 - (intOf i).toNat)
  case atStart => exact ⟨0, [], Nat.zero_le _, rfl, HST, HI⟩
  case round =>
    obtain ⟨k, pre, hk, rfl, hC, hF⟩ := hrel
    clear HST HI hbx
    have hbx := hF.out.box
    by_cases hlt : k < 1024
    · have hd : decide ((k : Int) < 1024) = true := by simp; omega
      have hk6 : (k : Int) < 1116 := by omega
      obtain ⟨x, hx⟩ : ∃ x, L[k]? = some x := ⟨_, List.getElem?_eq_getElem (by rw [HOK.out.len]; omega)⟩
      have hc := hF.out.by_ k x hx
      have hgd : L.getD k 0 = x := by rw [List.getD_eq_getElem?_getD, hx]; rfl
      have hx6 := HOK.out.lt k x hx
      have hwx : IntKind.i64.wrap (x : Int) = x := IntWalk.i64_in _ (by omega)
      by_cases hx0 : x = 0
      · subst hx0
        have hC2 : Hid (Come (pagesTo L (k + 1)).length pre ∧ J pre wr) := Lib.hid (by rw [pagesTo_succ, if_pos hgd]; exact hC.out)
        clear hx hgd hC
        gi_wp2_with fail
        refine ⟨(fun f h => by cases h), ?_⟩
        gi_wp2_with fail
        go_roundw
        case rel => exact ⟨k + 1, pre, by omega, by go_num, hC2, hF⟩
        case measure => simp [intOf]; omega
      · have hne : ((x : Int) != 0) = true := by simp; omega
        obtain ⟨h1, h2, h3⟩ := pgK_at L k hlt (by rw [hgd]; exact hx0)
        rw [HN.out] at h1
        obtain ⟨fn, tmps, assign, body, hy, hR⟩ := hY pre ⟨(pagesTo L k).length, h1⟩ wr hC.out.2 (by rw [hC.out.1.length]; exact h1)
        dsimp only [epair] at hy
        rw [h2, hgd] at hy
        have HR := Lib.hid hR
        have H1 := Lib.hid h1
        have H3 := Lib.hid h3
        clear hR h2 h3 hx hgd hx0
        gi_wp2_with fail
        refine ⟨fun _ => by omega, HR.out.mono ?_⟩
        rintro e W3 (⟨rfl, hJ3, hk3⟩ | ⟨rfl, hJx3⟩)
        · have hC3 : Hid (Come (pagesTo L (k + 1)).length (pre ++ [⟨(pagesTo L k).length, h1⟩]) ∧ J (pre ++ [⟨(pagesTo L k).length, h1⟩]) W3) := Lib.hid ⟨by rw [H3.out]; exact hC.out.1.snoc h1, hJ3⟩
          have hF3 := Lib.hid (hk3 hF.out)
          clear hJ3 hk3
          gi_wp2_with fail
          go_roundw
          case rel => exact ⟨k + 1, _, by omega, by go_num, hC3, hF3⟩
          case measure => simp [intOf]; omega
        · have hC3 : Hid (Come (pre ++ [(⟨(pagesTo L k).length, h1⟩ : Slot n)]).length (pre ++ [⟨(pagesTo L k).length, h1⟩]) ∧ Jx (pre ++ [⟨(pagesTo L k).length, h1⟩]) W3) := Lib.hid ⟨by rw [(hC.out.1.snoc h1).length]; exact hC.out.1.snoc h1, hJx3⟩
          clear hJx3
          gi_wp2_with fail
          refine bodyPost_ret (results_none rfl _ _ _) rfl ?_
          exact And.intro ⟨_, rfl⟩ (Or.inr (Exists.intro (pre ++ [⟨(pagesTo L k).length, h1⟩]) hC3.out))
    · obtain rfl : 1024 = k := by omega
      have hd : decide (((1024 : Nat) : Int) < 1024) = false := by simp
      have hC2 : Hid (Come n pre ∧ J pre wr) := Lib.hid (by have := hC.out; rw [show (pagesTo L 1024).length = n from HN.out] at this; exact this)
      clear hC
      gi_wp2_with fail
      go_end0
      exact ⟨⟨_, rfl⟩, .inl ⟨_, hC2.out.1, hC2.out.2⟩⟩

/-- The closure's contract. -/
theorem each1_stops (m : Nat) (hm : 2 ≤ m) (Bp g n : Nat) (L : List Nat) (hok : Ok L) (hn : (pagesL L).length = n) (w : World) (hI : EInv Bp g L w) :
    SeqStopsK Fence.wide m Tryz.prog 176 #[.pointer (some ⟨Bp, 0, none⟩)] (epair L (n := n))
      (fun W W' => EInv Bp g L W → EInv Bp g L W') (Come n) (fun pre => Come pre.length pre) n w := fun l J Jx W hW _ _ hY h0 => by
  have hI' : EInv Bp g L W := hI.kept fun p v hp => hW.cell (World.block_lt_of_cell? w _ hp)
  exact each1_in m hm l Bp g n L hok hn J Jx hY W hI' h0
theorem einv_t {Bp g : Nat} {L : List Nat} {X Y Z : World} (h : EInv Bp g L X → EInv Bp g L Y) (k : EInv Bp g L Y → EInv Bp g L Z) : EInv Bp g L X → EInv Bp g L Z := fun x => k (h x)
theorem einv_b {Bp g : Nat} {L : List Nat} (W : World) (l : Nat) (o o' : Obj) (h : W.heap[l]? = some o) (hc : o.isCells = false) : EInv Bp g L W → EInv Bp g L (W.putObj l o') := fun h0 => h0.kept fun p v hp => by
  rw [hp]
  exact cell_kept hp (grownBy_putObj' W l o') (fun r e => by cases e; exact ⟨o, h, hc⟩)
/-- each: a function value over a box of its own. -/
theorem each_any (v : Option Addr) (w : World) : Calls Tryz.prog 134 #[.pointer v] w fun e W' => e = .returned (.func (.func 176) #[] #[.pointer (some ⟨w.heap.size, 0, none⟩)]) ∧ w.alloc (.cells #[.pointer v] 106) = W' := by
  go_enter Tryz.func134, Tryz.ntmps134
  go_wp2
  go_ret
  exact ⟨rfl, rfl⟩
end Go.Proofs.YtolpgpphjnkehaaGreatDoor.Pag
/- A region that draws its order in a round of a loop over a function: what holds of it outside a round holds in it. -/
namespace Go.Proofs.YtolpgpphjnkehaaGreatDoor.Pag
set_option maxRecDepth 20000
open Go.RowKit

section
variable {P : Program} {l n : Nat}

theorem upon_in {o : Oper} {a : Act} {K : Act → World → Prop} {Q : Exit → Act → World → Prop} {r : Result Next} (h : o.upon P a K Q r) : o.uponIn (Fence.wide.inRound l) n P a K Q r := by
  cases r with
  | halt e w' => cases e <;> first | exact h | exact h.elim
  | ok x w' =>
    cases x with
    | value v => exact h
    | skip => exact h
    | defer d => exact h
    | enter f args =>
      refine ⟨fun hd => by simp [Fence.wide, Fence.inRound] at hd, (CallsIn.inRound l (callsIn_wide.2 h)).mono ?_⟩
      intro e w2 he
      cases e <;> exact he
    | row s args => exact ⟨fun hd => by simp [Fence.wide, Fence.inRound] at hd, fun c cs _ => let ⟨v, w2, r, s⟩ := h c cs; ⟨v, w2, r, stepsIn_wide.2 s⟩⟩
    | _ => exact h.elim

theorem oper_in {o : Oper} {a : Act} {w : World} {K : Act → World → Prop} {Q : Exit → Act → World → Prop} (hd : ∀ c, o.op ≠ .defer c) (h : o.wp P a w K Q) : o.wpIn (Fence.wide.inRound l) n P a w K Q := by
  refine ⟨fun _ _ => trivial, ?_⟩
  have e : (Fence.wide.inRound l).round = some l := rfl
  rw [e, Oper.semAt_some l a.eval o hd]
  exact upon_in h

theorem any_in {md : Region.Mode} {ops : Array Oper} {Q : Exit → Act → World → Prop} (hQ : ¬ LetsOut Q) (hd : ∀ (i : Nat) (o : Oper), ops[i]? = some o → ∀ c, o.op ≠ .defer c) :
    ∀ (fuel : Nat) (listed : Array Bool) (a : Act) (w : World), wpAny P md ops Q fuel listed a w → wpAnyIn (Fence.wide.inRound l) n P md ops Q fuel listed a w
  | 0, _, _, _, h => h
  | fuel + 1, listed, a, w, h => by
    refine ⟨h.1, fun i hi => ?_⟩
    have hop := h.2 i hi
    unfold wpOp at hop
    unfold wpOpIn
    cases ho : ops[i]? with
    | none => rw [ho] at hop; exact any_in hQ hd fuel _ _ _ hop
    | some o =>
      rw [ho] at hop
      dsimp only at hop ⊢
      split at hop
      · rename_i hw
        rw [if_pos hw]
        rcases hop with hop | hop
        · exact Oper.wpIn_mono (fun a' w' hk => any_in hQ hd fuel _ _ _ hk) (oper_in (hd i o ho) hop)
        · exact absurd hop.2 hQ
      · rename_i hw
        rw [if_neg hw]
        exact ⟨fun _ _ => trivial, any_in hQ hd fuel _ _ _ hop⟩

def noDefer (ops : List Oper) : Bool := ops.all fun o => match o.op with | .defer _ => false | _ => true
theorem noDefer_get {ops : List Oper} (h : noDefer ops = true) (i : Nat) (o : Oper) (hi : ops.toArray[i]? = some o) : ∀ c, o.op ≠ .defer c := by
  intro c hc
  have hm : o ∈ ops := List.mem_of_getElem? (by simpa using hi)
  have := List.all_eq_true.1 h o hm
  rw [hc] at this
  cases this

/-- All operations but the last ones only read, in whatever order; then the last ones, in theirs. -/
theorem round_tail {id : Nat} {Q : Exit → Act → World → Prop} {a : Act} {w : World} {ops : List Oper} (k : Nat) (hm : P.follows .mixedOrders = true) (hB : Region.lexTailB .any ops.toArray k = true) (hno : noDefer ops = true) (hQ : ¬ LetsOut Q)
    (h : wpStill P ops.toArray w.drew (fun a' => wpList P ops.toArray Q (ops.drop k) a' w.drew) (ops.take k) a) : (Code.region id ops.toArray true).wpIn (Fence.wide.inRound l) n P Q a w := by
  simp only [Region.lexTailB, Bool.and_eq_true, decide_eq_true_eq] at hB
  obtain ⟨⟨⟨⟨hsel, hk⟩, hs⟩, hc⟩, hlex⟩ := hB
  have h1 : (ops.take k).length = k := by simp at hk ⊢; omega
  have h2 : (ops.drop k).length = ops.toArray.size - k := by simp
  have inv0 : HeadInv .any ops.toArray k (Array.replicate ops.toArray.size false) :=
    ⟨by simp, fun j oj _ hl => (by rw [getD_replicate_false] at hl; cases hl), fun t _ ht => getD_in (by simpa using ht) (getD_replicate_false _ _)⟩
  have H := wpAnyL_lex (md := .any) (g := ops.toArray.size - k) hsel hs hc hk (ops.take k) 0 _ a (fun j hj => by
    rw [h1] at hj; simp [hj]) (by rw [h1]; omega) inv0 (by rw [h1]; exact hlex) h
  refine wpIn_region_any hm (any_in hQ (fun i o hi => noDefer_get hno i o hi) _ _ _ _ ?_)
  have G := wpAny_of_head (Q' := Q) (g := ops.toArray.size - k) (fun listed a' hL => by
    have g := wpAny_of_seq (md := .any) (Q' := Q) (ops.drop k) k listed a' w.drew (fun j => by simp [List.getElem?_drop]) (by rw [h2]; exact hL.1) hL.2
    rwa [h2] at g) _ _ _ H
  rw [h1, show k + (ops.toArray.size - k) = ops.toArray.size by omega] at G
  exact G

end
end Go.Proofs.YtolpgpphjnkehaaGreatDoor.Pag
/- Pages and Sectors. -/
namespace Go.Proofs.YtolpgpphjnkehaaGreatDoor.Pag
set_option maxRecDepth 20000
open Go.RowKit Go.Shelf Pgs
attribute [local go_sem] Oper.semAt_some

theorem wpListIn_app {F : Fence} {n : Nat} {P : Program} {w : World} {ops : Array Oper} {rest : List Oper} {o : Oper} {a : Act} {Q : Exit → Act → World → Prop} (hgd : o.guard = none) (s x : Operand) (t : TypeId)
    (ho : o.op = .call { callee := .builtin .append, args := #[s, x], argTypes := #[t, t] }) (v xv v' : Value) (w' : World) (hs : a.eval s = v) (hx : a.eval x = xv)
    (hrun : (Builtin.append_ #[t, t] o.type #[v, xv]).run P w = .ok v' w') (h : wpListIn F n P ops Q rest (a.put o.dst v') w') : wpListIn F n P ops Q (o :: rest) a w := by
  refine wpListIn_plain hgd fun K hK => ?_
  unfold Oper.wpIn
  refine ⟨by simp [Oper.about, ho, resolve, Target.leads, Sem.run_pure], ?_⟩
  rw [Oper.semAt_plain F _ _ (by rw [ho]; intro c hc'; cases hc')]
  unfold execOp
  simp only [ho, resolve, invoke, builtin, Sem.run_bind, Sem.run_pure, Result.andThen_ok, List.map_toArray, List.map_cons, List.map_nil, hs, hx, hrun]
  exact hK _ _ h

theorem EInv.off {Bp g : Nat} {L : List Nat} {W W' : World} (h : EInv Bp g L W) (hb : W'.heap[Bp]? = W.heap[Bp]?) (hk : W'.heap[g]? = W.heap[g]?) : EInv Bp g L W' :=
  ⟨(World.cell?_of_block (a := ⟨Bp, 0, none⟩) hb).trans h.box, fun i x hx => (World.cell?_of_block (a := ⟨g, i, none⟩) hk).trans (h.by_ i x hx)⟩
/-- Numbers that were appended. -/
structure IntsO (W : World) (sv : Value) (zs : List Nat) : Prop where
  own : W.ownsRow 0 3 1 sv zs.length (zs.map fun (z : Nat) => Value.int .i64 (z : Int))
theorem IntsO.nil (W : World) : IntsO W (.slice none 0 0) [] := ⟨World.ownsRow_nil _ _ _ _⟩
theorem IntsO.shape {W : World} {sv : Value} {zs : List Nat} (h : IntsO W sv zs) : ∃ A c, sv = .slice A zs.length c ∧ zs.length ≤ c ∧ c ≤ maxLen := by
  rcases h.own.2 with ⟨rfl, h0⟩ | ⟨g, cap, cur, rfl, _, _, h1, h2, _⟩
  · exact ⟨none, 0, by rw [h0], by omega, Nat.zero_le _⟩
  · exact ⟨_, _, rfl, h1, h2⟩
theorem IntsO.lt {W : World} {sv : Value} {zs : List Nat} (h : IntsO W sv zs) (k : Nat) (hk : sv.ownBlock = some k) : k < W.heap.size := (h.own.lt k hk).2
theorem IntsO.same {W W' : World} {sv : Value} {zs : List Nat} (h : IntsO W sv zs) (hr : ∀ k, sv.ownBlock = some k → W'.heap[k]? = W.heap[k]?) : IntsO W' sv zs := by
  refine ⟨h.own.1, ?_⟩
  rcases h.own.2 with h0 | ⟨g, cap, cur, rfl, h1, h2, h3⟩
  · exact .inl h0
  · exact .inr ⟨g, cap, cur, rfl, h1, (hr g rfl).trans h2, h3⟩
theorem IntsO.cells {W : World} {sv : Value} {zs : List Nat} (h : IntsO W sv zs) (k : Nat) (hk : sv.ownBlock = some k) : ∃ o : Obj, W.heap[k]? = some o ∧ o.isCells = true := by
  rcases h.own.2 with ⟨rfl, _⟩ | ⟨g, cap, cur, rfl, _, h1, _⟩
  · cases hk
  · injection hk with hk; subst hk; exact ⟨_, h1, rfl⟩
theorem IntsO.get {W : World} {sv : Value} {zs : List Nat} (h : IntsO W sv zs) (k z : Nat) (hz : zs[k]? = some z) : ∃ g c, sv = .slice (some ⟨g, 0, none⟩) zs.length c ∧ g < W.heap.size ∧ W.cell? ⟨g, k, none⟩ = some (.int .i64 (z : Int)) := by
  have hk := (List.getElem?_eq_some_iff.1 hz).1
  rcases h.own.2 with ⟨rfl, e⟩ | ⟨g, cap, cur, rfl, _, h1, _⟩
  · omega
  · have c1 := h.own.cellAt k (by omega)
    rw [List.getElem?_map, hz] at c1
    exact ⟨g, cap, rfl, h.lt g rfl, c1⟩
theorem IntsO.push {W : World} {sv : Value} {zs : List Nat} (h : IntsO W sv zs) (z b : Nat) (h0 : W.cell? ⟨b, 0, none⟩ = some (.int .i64 (z : Int))) (hl : zs.length < 1000000) :
    ∃ v' w', (Builtin.append_ #[33, 33] 33 #[sv, .slice (some ⟨b, 0, none⟩) 1 1]).run Tryz.prog W = .ok v' w' ∧ IntsO w' v' (zs ++ [z]) ∧ W.grownBy w' sv.ownBlock ∧ (v'.ownBlock = sv.ownBlock ∨ v'.ownBlock = some W.heap.size) := by
  have hI : (Tryz.prog.info? 3).map (fun i => (i.zero, i.size, i.bytes)) = some (some (.int .i64 0), 1, 8) := by kernel_rfl
  obtain ⟨i0, hi, hz0, hz1, hz2⟩ := info_parts hI
  have hcell : ∀ (j : Nat) (u : Value), [Value.int .i64 (z : Int)][j]? = some u → W.cell? ((⟨b, 0, none⟩ : Addr).add j) = some u := fun j u hj => by
    have e2 : (⟨b, 0, none⟩ : Addr).add j = ⟨b, 0 + j, none⟩ := by unfold Addr.add; split <;> simp_all
    rw [e2, Nat.zero_add]
    rcases j with _ | j
    · cases hj; exact h0
    · simp at hj
  obtain ⟨v', w', hrun, h2, h3, _, h5⟩ := run_append_own_at (P := Tryz.prog) W 0 33 33 3 i0 (.int .i64 0) 1 8 Tryz.underlying33 hi hz0 hz1 hz2 rfl (by decide) sv zs.length _ h.own ⟨b, 0, none⟩ 1 1 [.int .i64 (z : Int)] (by simp) hcell
    (fun u hu => by rw [List.mem_singleton.1 hu]; rfl) (by unfold maxLen; omega) (by omega) (Nat.zero_le _)
  exact ⟨v', w', hrun, ⟨by rw [List.length_append, List.length_singleton, List.map_append]; exact h2⟩, h3, h5⟩

structure ZInv (w : World) (zs : List Nat) (W : World) : Prop where
  ex : ∃ sv, Blk W w.heap.size 33 #[sv] ∧ IntsO W sv zs ∧ ∀ j, sv.ownBlock = some j → w.heap.size + 2 ≤ j
  bel : Below w.heap.size w W
  sz : w.heap.size + 2 ≤ W.heap.size
theorem ZInv.own {β : Type} (w : World) (f : β → List Nat) : OwnFrom (w.heap.size + 2) (fun (s : β) W => ZInv w (f s) W) := fun s W W' row hs hg hr => by
  obtain ⟨sv, h1, h2, h3⟩ := hs.ex
  have hb := hs.bel.size
  refine ⟨⟨sv, h1.kept hg (fun r e => (hr r e).2), h2.same fun k hk => hg.block k (h2.lt k hk) (fun e => ?_), h3⟩, hs.bel.grown hg hb (fun k e => by have := (hr k e).1; omega), Nat.le_trans hs.sz hg.size⟩
  obtain ⟨_, o, ho, hc⟩ := hr k e.symm
  obtain ⟨o', ho', hc'⟩ := h2.cells k hk
  rw [ho] at ho'; cases ho'; rw [hc] at hc'; cases hc'
theorem ZInv.push {w W : World} {zs : List Nat} (h : ZInv w zs W) (hl : zs.length < 1000000) (z : Nat) :
    ∃ As cS, W.cell? ⟨w.heap.size, 0, none⟩ = some (.slice As zs.length cS) ∧ W.frozen? ⟨w.heap.size, 0, none⟩ = false ∧ w.heap.size < W.heap.size ∧ ∃ v' w5, (∃ A5 n5 c5, v' = .slice A5 n5 c5) ∧ (Builtin.append_ #[33, 33] 33 #[.slice As zs.length cS, .slice (some ⟨W.heap.size, 0, none⟩) 1 1]).run Tryz.prog (W.alloc (.cells #[.int .i64 (z : Int)] 3)) = .ok v' w5 ∧
      w5.cell? ⟨w.heap.size, 0, none⟩ = some (.slice As zs.length cS) ∧ w5.frozen? ⟨w.heap.size, 0, none⟩ = false ∧
      KeepsOthers W (w5.setCell ⟨w.heap.size, 0, none⟩ v') ∧ ZInv w (zs ++ [z]) (w5.setCell ⟨w.heap.size, 0, none⟩ v') ∧
      ∀ (g : Nat) (L : List Nat), g < w.heap.size → EInv (w.heap.size + 1) g L W → EInv (w.heap.size + 1) g L (w5.setCell ⟨w.heap.size, 0, none⟩ v') := by
  obtain ⟨sv, h1, h2, h3⟩ := h.ex
  obtain ⟨As, cS, hsv, _, _⟩ := h2.shape
  have hsz := h.sz
  have hb : Below W.heap.size W (W.alloc (.cells #[.int .i64 (z : Int)] 3)) := (Below.refl _ _).alloc (Nat.le_refl _) _
  have h2' : IntsO (W.alloc (.cells #[.int .i64 (z : Int)] 3)) sv zs := h2.same (fun k hk => hb.block k (h2.lt k hk))
  obtain ⟨v', w5, hrun, hp, hg, ho⟩ := h2'.push z W.heap.size ((Blk.new W 3 #[.int .i64 (z : Int)]).cell 0) (by omega)
  have hgs := hg.size
  rw [World.size_alloc] at hgs ho
  have nw : sv.ownBlock ≠ some w.heap.size := fun e => by have := h3 _ e; omega
  have hB5 : Blk w5 w.heap.size 33 #[sv] := (h1.alloc _).grown hg (fun e => nw e.symm)
  have hvb : ∀ j, v'.ownBlock = some j → w.heap.size + 2 ≤ j := fun j hj => by
    rcases ho with ho | ho
    · exact h3 j (ho ▸ hj)
    · rw [ho] at hj; injection hj with hj; omega
  have st : ∀ j, j ≠ w.heap.size → (w5.setCell ⟨w.heap.size, 0, none⟩ v').heap[j]? = w5.heap[j]? := fun j hj => Below.heap_setCell _ _ _ _ hj
  have ssz : w5.heap.size = (w5.setCell ⟨w.heap.size, 0, none⟩ v').heap.size := by simp [World.setCell]
  have hko : KeepsOthers W (w5.setCell ⟨w.heap.size, 0, none⟩ v') := ((KeepsOthers.alloc W _).trans (KeepsOthers.of_grownBy hg fun j o hj ho => by
    obtain ⟨o', ho', hc'⟩ := h2'.cells j hj
    rw [ho] at ho'; cases ho'; exact hc')).trans (KeepsOthers.setCell _ _ _)
  subst hsv
  refine ⟨As, cS, h1.cell 0, h1.frozen 0, by omega, v', w5, (by obtain ⟨A5, c5, e5, _⟩ := hp.shape; exact ⟨_, _, _, e5⟩), hrun, hB5.cell 0, hB5.frozen 0, hko, ⟨⟨v', ?_, ?_, hvb⟩, ?_, by rw [← ssz]; omega⟩, fun g L hgl hI => ?_⟩
  · have := hB5.set_ 0 v'
    simpa using this
  · exact hp.same (fun k hk => st k (by have := hvb k hk; omega))
  · exact ((h.bel.trans (hb.mono h.bel.size)).grown hg (by rw [World.size_alloc]; have := h.bel.size; omega) (fun k hk => by have := h3 k hk; omega)).setCell (p := ⟨w.heap.size, 0, none⟩) (Nat.le_refl _) _
  · refine hI.off ((st _ (by omega)).trans ((hg.block _ (by rw [World.size_alloc]; omega) (fun e => by have := h3 _ e.symm; omega)).trans (hb.block _ (by omega)))) ((st _ (by omega)).trans ((hg.block _ (by rw [World.size_alloc]; omega) (fun e => by have := h3 _ e.symm; omega)).trans (hb.block _ (by omega))))


def gPages (L : List Nat) {n : Nat} (pre : List (Slot n)) : List Nat := pre.map fun x => pgK L x.1
def gSectors (L : List Nat) {n : Nat} (pre : List (Slot n)) : List Nat := pre.map fun x => L.getD (pgK L x.1) 0
theorem come_pages {L : List Nat} {n : Nat} (hn : (pagesL L).length = n) {ys : List (Slot n)} (h : Come n ys) : gPages L ys = pagesL L := by
  have e : gPages L ys = (ys.map (·.1)).map (pgK L) := by unfold gPages; simp only [List.map_map, Function.comp_def]
  rw [e, h]
  apply List.ext_getElem?
  intro i
  rcases Nat.lt_or_ge i n with hi | hi
  · rw [List.getElem?_map, List.getElem?_range hi, Option.map_some, List.getElem?_eq_getElem (show i < (pagesL L).length by omega)]
    unfold pgK
    rw [List.getD_eq_getElem?_getD, List.getElem?_eq_getElem (show i < (pagesL L).length by omega), Option.getD_some]
  · rw [List.getElem?_eq_none (by rw [List.length_map, List.length_range]; exact hi), List.getElem?_eq_none (by omega)]
theorem come_sectors {L : List Nat} {n : Nat} (hn : (pagesL L).length = n) {ys : List (Slot n)} (h : Come n ys) : gSectors L ys = sectorsL L := by
  have e : gSectors L ys = (gPages L ys).map fun i => L.getD i 0 := by unfold gSectors gPages; simp only [List.map_map, Function.comp_def]
  rw [e, come_pages hn h]
  unfold sectorsL
  exact Eq.refl _

set_option maxRecDepth 100000 in
set_option maxHeartbeats 1000000 in
theorem pages_some (g : Nat) (L : List Nat) (w : World) (h : PM w g L) :
    Calls Tryz.prog 78 #[.pointer (some ⟨g, 0, none⟩)] w fun e W' => ∃ sv, e = .returned sv ∧ IntsO W' sv (pagesL L) ∧ (∀ j, sv.ownBlock = some j → w.heap.size ≤ j) ∧ Below w.heap.size w W' := by
  obtain ⟨n, hn⟩ : ∃ n, (pagesL L).length = n := ⟨_, rfl⟩
  have hglt := h.blk.lt
  refine (callsIn_wide (n := 5)).1 ?_
  have hro : (Fence.wide).round = none := rfl
  refine callsIn_of_wp_marks Tryz.func78 rfl trivial ?_ hro
  simp only [Tryz.ntmps78, List.size_toArray, List.length_cons, List.length_nil, Nat.reduceAdd, Nat.reduceSub, Array.replicate_succ, Array.replicate_zero, List.push_toArray, List.append_toArray, List.nil_append, List.cons_append]
  gi_wp2_with fail
  refine ⟨trivial, ?_⟩
  refine (callsIn_wide.2 (each_any _ _)).mono ?_
  rintro e w' ⟨rfl, rfl⟩
  gi_wp2_with fail
  obtain ⟨ws, hws⟩ : ∃ ws, ((w.alloc (.cells #[.slice none 0 0] 33)).alloc (.cells #[.pointer (some ⟨g, 0, none⟩)] 106)) = ws := ⟨_, rfl⟩
  have bX : Blk ws w.heap.size 33 #[.slice none 0 0] := by rw [← hws]; exact (Blk.new w _ _).alloc _
  have bP : Blk ws (w.heap.size + 1) 106 #[.pointer (some ⟨g, 0, none⟩)] := by
    have := Blk.new (w.alloc (.cells #[.slice none 0 0] 33)) 106 #[.pointer (some ⟨g, 0, none⟩)]
    rw [World.size_alloc] at this
    rw [← hws]; exact this
  have hB0 : Below w.heap.size w ws := by
    rw [← hws]; exact ((Below.refl _ w).alloc (Nat.le_refl _) _).alloc (by simp) _
  have hsz : ws.heap.size = w.heap.size + 2 := by rw [← hws]; simp
  have hE0 : EInv (w.heap.size + 1) g L ws := ⟨bP.cell 0, fun i x hx => (h.below hB0).cell hx⟩
  have hI0 : ZInv w [] ws := ⟨⟨_, bX, IntsO.nil _, fun j hj => (by cases hj)⟩, hB0, by omega⟩
  rw [hws]
  clear hws
  have HN := Lib.hid hn
  have HG := Lib.hid hglt
  have hn24 : n ≤ 1024 := by rw [← hn]; exact pagesTo_len L 1024
  have hown := ZInv.own w (fun (pre : List (Slot n)) => gPages L pre)
  rw [← hsz] at hown
  have hst := each1_stops 4 (by omega) _ g n L h.ok hn ws hE0
  clear hn h
  refine wpIn_rangeFunc_ownG hro (by omega) (gf := 176) (lb := #[.pointer (some ⟨w.heap.size + 1, 0, none⟩)]) rfl trivial (enters_of Tryz.func176 (by kernel_rfl) rfl)
    hst einv_t (fun W l o o' _ h hc _ => einv_b W l o o' h hc) (Below.refl _ _) (fun _ => rfl)
    (fun (pre : List (Slot n)) W => ZInv w (gPages L pre) W)
    (fun _ _ _ => False)
    hown
    (fun _ _ _ _ _ hs _ _ => hs)
    hI0
    (fun x => { tmps := #[.pointer (some ⟨g, 0, none⟩), undef, .slice none 0 0, .pointer (some ⟨w.heap.size, 0, none⟩), .int .i64 (pgK L x.1 : Int), .pointer (some ⟨g, 0, none⟩), .func (.func 176) #[] #[.pointer (some ⟨w.heap.size + 1, 0, none⟩)], .int .i64 (pgK L x.1 : Int), .int .i64 (L.getD (pgK L x.1) 0 : Int), undef, undef, undef, undef, undef], defers := [] }) ?assign ?body ?done ?stop
  case assign =>
    intro l x W K hK
    dsimp only [epair]
    gi_wp2
    exact hK
  case body =>
    rintro l pre x W hI hlp
    have hlen9 : (gPages L pre).length < 1000000 := by
      unfold gPages
      rw [List.length_map]
      omega
    have hsn : gPages L (pre ++ [x]) = gPages L pre ++ [pgK L x.1] := by unfold gPages; simp
    obtain ⟨As, cS, hc, hf, hlt, v', w5, ⟨A5, n5, c5, rfl⟩, hrun, hc5, hf5, hko, hR, hEI⟩ := hI.push hlen9 (pgK L x.1)
    obtain ⟨nS, hnS⟩ : ∃ nS, (gPages L pre).length = nS := ⟨_, rfl⟩
    rw [hnS] at hrun
    rw [hnS] at hc hc5 hlen9
    have HFIN : Hid (KeepsFrom ws.heap.size W (w5.setCell ⟨w.heap.size, 0, none⟩ (.slice A5 n5 c5)) ∧ (EInv (w.heap.size + 1) g L W → EInv (w.heap.size + 1) g L (w5.setCell ⟨w.heap.size, 0, none⟩ (.slice A5 n5 c5))) ∧ ZInv w (gPages L (pre ++ [x])) (w5.setCell ⟨w.heap.size, 0, none⟩ (.slice A5 n5 c5))) :=
      Lib.hid ⟨hko.from _, hEI g L HG.out, by rw [hsn]; exact hR⟩
    have HRUN := Lib.hid hrun
    clear hrun hko hR hEI hI hlen9 hnS hsn
    gi_wp2_with (gi_at_builtin; refine wpListIn_app rfl _ _ 33 rfl _ _ _ _ rfl rfl HRUN.out ?_; clear HRUN)
    exact HFIN.out
  case done =>
    rintro D ys W hD hS hI hK
    obtain ⟨sv, h1, h2, h3⟩ := hI.ex
    rw [show gPages L ys = pagesL L from come_pages HN.out hS] at h2
    have hc := h1.cell 0
    have HF : Hid (IntsO W sv (pagesL L) ∧ (∀ j, sv.ownBlock = some j → w.heap.size ≤ j) ∧ Below w.heap.size w W) := Lib.hid ⟨h2, fun j hj => by have := h3 j hj; omega, hI.bel⟩
    clear h1 h2 h3 hI
    gi_wp2
    refine ⟨by simp, .inl ⟨_, _, rfl, run_takeDeferred hK, ?_⟩⟩
    obtain ⟨g1, g2, g3⟩ := HF.out
    have hb := belowK_b (w := w) (Nat.le_refl _) W D _ (.deferred none) (by omega) hK rfl rfl
    refine ⟨_, results_tmp rfl _ _ _, sv, rfl, ?_, g2, g3.trans hb⟩
    refine g1.same fun k hk => (grownBy_putObj' W D (.deferred none)).block k (g1.lt k hk) fun e => ?_
    injection e with e
    obtain ⟨o, ho, hc⟩ := g1.cells k hk
    rw [e, hK] at ho; cases ho; cases hc
  case stop =>
    rintro D c pre W _ _ h _
    exact h.elim

set_option maxRecDepth 100000 in
set_option maxHeartbeats 1000000 in
theorem sectors_some (g : Nat) (L : List Nat) (w : World) (h : PM w g L) :
    Calls Tryz.prog 117 #[.pointer (some ⟨g, 0, none⟩)] w fun e W' => ∃ sv, e = .returned sv ∧ IntsO W' sv (sectorsL L) ∧ (∀ j, sv.ownBlock = some j → w.heap.size ≤ j) ∧ Below w.heap.size w W' := by
  obtain ⟨n, hn⟩ : ∃ n, (pagesL L).length = n := ⟨_, rfl⟩
  have hglt := h.blk.lt
  refine (callsIn_wide (n := 5)).1 ?_
  have hro : (Fence.wide).round = none := rfl
  refine callsIn_of_wp_marks Tryz.func117 rfl trivial ?_ hro
  simp only [Tryz.ntmps117, List.size_toArray, List.length_cons, List.length_nil, Nat.reduceAdd, Nat.reduceSub, Array.replicate_succ, Array.replicate_zero, List.push_toArray, List.append_toArray, List.nil_append, List.cons_append]
  gi_wp2_with fail
  refine ⟨trivial, ?_⟩
  refine (callsIn_wide.2 (each_any _ _)).mono ?_
  rintro e w' ⟨rfl, rfl⟩
  gi_wp2_with fail
  obtain ⟨ws, hws⟩ : ∃ ws, ((w.alloc (.cells #[.slice none 0 0] 33)).alloc (.cells #[.pointer (some ⟨g, 0, none⟩)] 106)) = ws := ⟨_, rfl⟩
  have bX : Blk ws w.heap.size 33 #[.slice none 0 0] := by rw [← hws]; exact (Blk.new w _ _).alloc _
  have bP : Blk ws (w.heap.size + 1) 106 #[.pointer (some ⟨g, 0, none⟩)] := by
    have := Blk.new (w.alloc (.cells #[.slice none 0 0] 33)) 106 #[.pointer (some ⟨g, 0, none⟩)]
    rw [World.size_alloc] at this
    rw [← hws]; exact this
  have hB0 : Below w.heap.size w ws := by
    rw [← hws]; exact ((Below.refl _ w).alloc (Nat.le_refl _) _).alloc (by simp) _
  have hsz : ws.heap.size = w.heap.size + 2 := by rw [← hws]; simp
  have hE0 : EInv (w.heap.size + 1) g L ws := ⟨bP.cell 0, fun i x hx => (h.below hB0).cell hx⟩
  have hI0 : ZInv w [] ws := ⟨⟨_, bX, IntsO.nil _, fun j hj => (by cases hj)⟩, hB0, by omega⟩
  rw [hws]
  clear hws
  have HN := Lib.hid hn
  have HG := Lib.hid hglt
  have hn24 : n ≤ 1024 := by rw [← hn]; exact pagesTo_len L 1024
  have hown := ZInv.own w (fun (pre : List (Slot n)) => gSectors L pre)
  rw [← hsz] at hown
  have hst := each1_stops 4 (by omega) _ g n L h.ok hn ws hE0
  clear hn h
  refine wpIn_rangeFunc_ownG hro (by omega) (gf := 176) (lb := #[.pointer (some ⟨w.heap.size + 1, 0, none⟩)]) rfl trivial (enters_of Tryz.func176 (by kernel_rfl) rfl)
    hst einv_t (fun W l o o' _ h hc _ => einv_b W l o o' h hc) (Below.refl _ _) (fun _ => rfl)
    (fun (pre : List (Slot n)) W => ZInv w (gSectors L pre) W)
    (fun _ _ _ => False)
    hown
    (fun _ _ _ _ _ hs _ _ => hs)
    hI0
    (fun x => { tmps := #[.pointer (some ⟨g, 0, none⟩), undef, .slice none 0 0, .pointer (some ⟨w.heap.size, 0, none⟩), undef, .int .i64 (L.getD (pgK L x.1) 0 : Int), .pointer (some ⟨g, 0, none⟩), .func (.func 176) #[] #[.pointer (some ⟨w.heap.size + 1, 0, none⟩)], .int .i64 (pgK L x.1 : Int), .int .i64 (L.getD (pgK L x.1) 0 : Int), undef, undef, undef, undef, undef], defers := [] }) ?assign ?body ?done ?stop
  case assign =>
    intro l x W K hK
    dsimp only [epair]
    gi_wp2
    exact hK
  case body =>
    rintro l pre x W hI hlp
    have hlen9 : (gSectors L pre).length < 1000000 := by
      unfold gSectors
      rw [List.length_map]
      omega
    have hsn : gSectors L (pre ++ [x]) = gSectors L pre ++ [L.getD (pgK L x.1) 0] := by unfold gSectors; simp
    obtain ⟨As, cS, hc, hf, hlt, v', w5, ⟨A5, n5, c5, rfl⟩, hrun, hc5, hf5, hko, hR, hEI⟩ := hI.push hlen9 (L.getD (pgK L x.1) 0)
    obtain ⟨nS, hnS⟩ : ∃ nS, (gSectors L pre).length = nS := ⟨_, rfl⟩
    rw [hnS] at hrun
    rw [hnS] at hc hc5 hlen9
    have HFIN : Hid (KeepsFrom ws.heap.size W (w5.setCell ⟨w.heap.size, 0, none⟩ (.slice A5 n5 c5)) ∧ (EInv (w.heap.size + 1) g L W → EInv (w.heap.size + 1) g L (w5.setCell ⟨w.heap.size, 0, none⟩ (.slice A5 n5 c5))) ∧ ZInv w (gSectors L (pre ++ [x])) (w5.setCell ⟨w.heap.size, 0, none⟩ (.slice A5 n5 c5))) :=
      Lib.hid ⟨hko.from _, hEI g L HG.out, by rw [hsn]; exact hR⟩
    have HRUN := Lib.hid hrun
    clear hrun hko hR hEI hI hlen9 hnS hsn
    gi_wp2_with (gi_at_builtin; refine wpListIn_app rfl _ _ 33 rfl _ _ _ _ rfl rfl HRUN.out ?_; clear HRUN)
    exact HFIN.out
  case done =>
    rintro D ys W hD hS hI hK
    obtain ⟨sv, h1, h2, h3⟩ := hI.ex
    rw [show gSectors L ys = sectorsL L from come_sectors HN.out hS] at h2
    have hc := h1.cell 0
    have HF : Hid (IntsO W sv (sectorsL L) ∧ (∀ j, sv.ownBlock = some j → w.heap.size ≤ j) ∧ Below w.heap.size w W) := Lib.hid ⟨h2, fun j hj => by have := h3 j hj; omega, hI.bel⟩
    clear h1 h2 h3 hI
    gi_wp2
    refine ⟨by simp, .inl ⟨_, _, rfl, run_takeDeferred hK, ?_⟩⟩
    obtain ⟨g1, g2, g3⟩ := HF.out
    have hb := belowK_b (w := w) (Nat.le_refl _) W D _ (.deferred none) (by omega) hK rfl rfl
    refine ⟨_, results_tmp rfl _ _ _, sv, rfl, ?_, g2, g3.trans hb⟩
    refine g1.same fun k hk => (grownBy_putObj' W D (.deferred none)).block k (g1.lt k hk) fun e => ?_
    injection e with e
    obtain ⟨o, ho, hc⟩ := g1.cells k hk
    rw [e, hK] at ho; cases ho; cases hc
  case stop =>
    rintro D c pre W _ _ h _
    exact h.elim
end Go.Proofs.YtolpgpphjnkehaaGreatDoor.Pag
/- Contracts of octet's small functions: isSize, within, field. -/
namespace Go.Proofs.YtolpgpphjnkehaaGreatDoor.Pag
set_option maxRecDepth 20000
open Go.RowKit

def sizeB (n : Int) : Bool := n == 1 || n == 2 || n == 4 || n == 8
def insideB (len at_ n : Int) : Bool := decide (0 ≤ at_) && decide (0 ≤ n) && decide (at_ ≤ len) && decide (n ≤ len - at_)

set_option maxHeartbeats 400000 in
theorem isSize_any (n : Int) (w : World) :
    Calls Tryz.prog 182 #[.int .i64 n] w fun e w' => e = .returned (.bool (sizeB n)) ∧ w = w' := by
  have key : ∀ b : Bool, (n == 1 || n == 2 || n == 4 || n == 8) = b → sizeB n = b := fun b h => h
  by_cases h1 : n = 1
  · subst h1
    go_enter Tryz.func182, Tryz.ntmps182
    go_wp2
    go_ret
    exact ⟨rfl, rfl⟩
  · by_cases h2 : n = 2
    · subst h2
      go_enter Tryz.func182, Tryz.ntmps182
      go_wp2
      go_ret
      exact ⟨rfl, rfl⟩
    · by_cases h4 : n = 4
      · subst h4
        go_enter Tryz.func182, Tryz.ntmps182
        go_wp2
        go_ret
        exact ⟨rfl, rfl⟩
      · go_enter Tryz.func182, Tryz.ntmps182
        go_wp2
        go_ret
        exact ⟨rfl, rfl⟩

theorem ret_bool {a b : Bool} (h : a = b) : Ending.returned (.bool a) = .returned (.bool b) := by rw [h]

set_option maxHeartbeats 400000 in
theorem within_any (A : Option Addr) (len cap : Nat) (at_ n : Int) (w : World) (hl : len ≤ maxLen) (_hn : n < 9223372036854775808) (ha : at_ < 9223372036854775808) :
    Calls Tryz.prog 183 #[.slice A len cap, .int .i64 at_, .int .i64 n] w fun e w' => e = .returned (.bool (insideB len at_ n)) ∧ w = w' := by
  unfold maxLen at hl
  by_cases h1 : 0 ≤ at_
  · by_cases h2 : 0 ≤ n
    · by_cases h3 : at_ ≤ len
      · go_enter Tryz.func183, Tryz.ntmps183
        go_wp2
        go_ret
        exact ⟨ret_bool (by simp [insideB, h1, h2, h3]), rfl⟩
      · go_enter Tryz.func183, Tryz.ntmps183
        go_wp2
        go_ret
        exact ⟨ret_bool (by simp [insideB]; omega), rfl⟩
    · go_enter Tryz.func183, Tryz.ntmps183
      go_wp2
      go_ret
      exact ⟨ret_bool (by simp [insideB]; omega), rfl⟩
  · go_enter Tryz.func183, Tryz.ntmps183
    go_wp2
    go_ret
    exact ⟨ret_bool (by simp [insideB]; omega), rfl⟩

set_option maxHeartbeats 400000 in
theorem field_any (A : Option Addr) (len cap : Nat) (at_ n : Int) (w : World) :
    Calls Tryz.prog 184 #[.slice A len cap, .int .i64 at_, .int .i64 n] w fun e w' =>
      e = .returned (.func (.func 196) #[] #[.pointer (some ⟨w.heap.size + 2, 0, none⟩), .pointer (some ⟨w.heap.size, 0, none⟩), .pointer (some ⟨w.heap.size + 1, 0, none⟩)]) ∧
      ((w.alloc (.cells #[.slice A len cap] 32)).alloc (.cells #[.int .i64 at_] 3)).alloc (.cells #[.int .i64 n] 3) = w' := by
  go_enter Tryz.func184, Tryz.ntmps184
  go_wp2
  go_ret
  exact ⟨rfl, rfl⟩

end Go.Proofs.YtolpgpphjnkehaaGreatDoor.Pag
/- The iterator of octet: what field's closure tells of the bytes of a field. -/
namespace Go.Proofs.YtolpgpphjnkehaaGreatDoor.Pag
set_option maxRecDepth 20000
open Go.RowKit Go.Shelf
attribute [local go_sem] Oper.semAt_some

/-- What the iterator reads: its three boxes, and the field's bytes, of each of which G holds. -/
structure FInv (Bn Bb Ba : Nat) (A : Option Addr) (len cap at_ n : Nat) (G : Nat → UInt8 → Prop) (W : World) : Prop where
  bn : W.cell? ⟨Bn, 0, none⟩ = some (.int .i64 (n : Int))
  bb : W.cell? ⟨Bb, 0, none⟩ = some (.slice A len cap)
  ba : W.cell? ⟨Ba, 0, none⟩ = some (.int .i64 (at_ : Int))
  by_ : ∀ k, k < n → ∃ b off c, A = some ⟨b, off, none⟩ ∧ G k c ∧ W.cell? ⟨b, off + (at_ + k), none⟩ = some (.int .u8 (c.toNat : Int))

theorem FInv.kept {Bn Bb Ba : Nat} {A : Option Addr} {len cap at_ n : Nat} {G : Nat → UInt8 → Prop} {W W' : World} (h : FInv Bn Bb Ba A len cap at_ n G W)
    (hk : ∀ (p : Addr) v, W.cell? p = some v → W'.cell? p = W.cell? p) : FInv Bn Bb Ba A len cap at_ n G W' :=
  ⟨(hk _ _ h.bn).trans h.bn, (hk _ _ h.bb).trans h.bb, (hk _ _ h.ba).trans h.ba, fun k hlt => by
    obtain ⟨b, off, c, e, g, hc⟩ := h.by_ k hlt
    exact ⟨b, off, c, e, g, (hk _ _ hc).trans hc⟩⟩

theorem FInv.far {Bn Bb Ba X : Nat} {A : Option Addr} {len cap at_ n : Nat} {G : Nat → UInt8 → Prop} {W W' : World} (h : FInv Bn Bb Ba A len cap at_ n G W)
    (h1 : Bn ≠ X) (h2 : Bb ≠ X) (h3 : Ba ≠ X) (h4 : 0 < n → ∀ ad, A = some ad → ad.block ≠ X) (hk : ∀ p : Addr, p.block ≠ X → W'.cell? p = W.cell? p) : FInv Bn Bb Ba A len cap at_ n G W' :=
  ⟨(hk _ h1).trans h.bn, (hk _ h2).trans h.bb, (hk _ h3).trans h.ba, fun k hlt => by
    obtain ⟨b, off, c, e, g, hc⟩ := h.by_ k hlt
    exact ⟨b, off, c, e, g, (hk ⟨b, off + (at_ + k), none⟩ (show b ≠ X from h4 (by omega) _ e)).trans hc⟩⟩

/-- The pairs that have come. -/
abbrev BPair (n : Nat) := { x : Nat × UInt8 // x.1 < n }
def bpair {n : Nat} (x : BPair n) : Array Value := #[Value.int .i64 (x.1.1 : Int), Value.int .u8 (x.1.2.toNat : Int)]

/-- So have the first k come. -/
def Came {n : Nat} (G : Nat → UInt8 → Prop) (k : Nat) (pre : List (BPair n)) : Prop := pre.map (fun x => x.1.1) = List.range k ∧ ∀ x ∈ pre, G x.1.1 x.1.2

theorem Came.nil {n : Nat} (G : Nat → UInt8 → Prop) : Came G 0 ([] : List (BPair n)) := ⟨rfl, by simp⟩
theorem Came.snoc {n : Nat} {G : Nat → UInt8 → Prop} {k : Nat} {pre : List (BPair n)} (h : Came G k pre) (hk : k < n) {c : UInt8} (hc : G k c) : Came G (k + 1) (pre ++ [⟨(k, c), hk⟩]) := by
  refine ⟨by rw [List.map_append, h.1, List.range_succ]; rfl, fun x hx => ?_⟩
  rcases List.mem_append.1 hx with hx | hx
  · exact h.2 x hx
  · simp at hx; subst hx; exact hc
theorem Came.length {n : Nat} {G : Nat → UInt8 → Prop} {k : Nat} {pre : List (BPair n)} (h : Came G k pre) : pre.length = k := by
  have := congrArg List.length h.1
  simpa using this

set_option maxRecDepth 100000 in
set_option maxHeartbeats 1000000 in
theorem field1_in (F : Fence) (m : Nat) (h8 : F.fn 196) (hro : F.round = none) (hm : 1 ≤ m) (l Bn Bb Ba : Nat) (A : Option Addr) (len cap at_ n : Nat) (G : Nat → UInt8 → Prop)
    (hle : at_ + n ≤ len) (hlm : len ≤ 9223372036854775807) (J Jx : List (BPair n) → World → Prop)
    (hY : ∀ pre x W, J pre W → pre.length < n → YieldAt F (m - 1) Tryz.prog l (bpair x) W fun e W' =>
      (e = .returned (.bool true) ∧ J (pre ++ [x]) W' ∧ (FInv Bn Bb Ba A len cap at_ n G W → FInv Bn Bb Ba A len cap at_ n G W')) ∨ (e = .returned (.bool false) ∧ Jx (pre ++ [x]) W'))
    (W : World) (hI : FInv Bn Bb Ba A len cap at_ n G W) (h0 : J [] W) :
    CallsIn F m Tryz.prog 196 #[.func (.yield l) #[] #[], .pointer (some ⟨Bn, 0, none⟩), .pointer (some ⟨Bb, 0, none⟩), .pointer (some ⟨Ba, 0, none⟩)] W fun e W' => (∃ v, e = .returned v) ∧
      ((∃ ys, Came G n ys ∧ J ys W') ∨ (∃ pre, True ∧ Jx pre W')) := by
  refine callsIn_of_wp Tryz.func196 rfl h8 ?_ hro
  simp only [Tryz.ntmps196, List.size_toArray, List.length_cons, List.length_nil, Nat.reduceAdd, Nat.reduceSub, Array.replicate_succ, Array.replicate_zero, List.push_toArray, List.append_toArray, List.nil_append, List.cons_append]
  gi_wp2
  gi_loopw [5] (fun i wr => ∃ (k : Nat) (pre : List (BPair n)), k ≤ n ∧ i = .int .i64 k ∧ Came G k pre ∧ J pre wr ∧ FInv Bn Bb Ba A len cap at_ n G wr)
    (fun i _ => n - (intOf i).toNat)
  case atStart => exact ⟨0, [], Nat.zero_le _, rfl, Came.nil G, h0, hI⟩
  case round =>
    obtain ⟨k, pre, hk, rfl, hC, hJs, hF⟩ := hrel
    have hbn := hF.bn
    by_cases hlt : k < n
    · obtain ⟨b, off, c, rfl, hG, hc⟩ := hF.by_ k hlt
      have hbb := hF.bb
      have hba := hF.ba
      obtain ⟨fn, tmps, assign, body, hy, hR⟩ := hY pre ⟨(k, c), hlt⟩ wr hJs (by rw [hC.length]; exact hlt)
      dsimp only [bpair] at hy
      gi_wp2
      refine hR.mono ?_
      rintro e W3 (⟨rfl, hJ3, hk3⟩ | ⟨rfl, hJx3⟩)
      · gi_wp2
        go_roundw
        case rel => exact ⟨k + 1, _, by omega, by go_num, hC.snoc hlt hG, hJ3, hk3 hF⟩
        case measure => simp [intOf]; omega
      · gi_wp2
        refine bodyPost_ret (results_none rfl _ _ _) rfl ?_
        exact ⟨⟨_, rfl⟩, .inr ⟨_, trivial, hJx3⟩⟩
    · obtain rfl : k = n := by omega
      gi_wp2
      go_end0
      exact ⟨⟨_, rfl⟩, .inl ⟨_, hC, hJs⟩⟩

end Go.Proofs.YtolpgpphjnkehaaGreatDoor.Pag
/- octet.Get, octet.Cut. -/
namespace Go.Proofs.YtolpgpphjnkehaaGreatDoor.Pag
set_option maxRecDepth 20000
open Go.RowKit Go.Shelf
attribute [local go_sem] Oper.semAt_some

/-- The closure's contract. -/
theorem field1_stops (F : Fence) (m : Nat) (h8 : F.fn 196) (hro : F.round = none) (hm : 1 ≤ m) (Bn Bb Ba : Nat) (A : Option Addr) (len cap at_ n : Nat) (G : Nat → UInt8 → Prop)
    (hle : at_ + n ≤ len) (hlm : len ≤ 9223372036854775807) (w : World) (hI : FInv Bn Bb Ba A len cap at_ n G w) :
    SeqStopsK F m Tryz.prog 196 #[.pointer (some ⟨Bn, 0, none⟩), .pointer (some ⟨Bb, 0, none⟩), .pointer (some ⟨Ba, 0, none⟩)] (bpair (n := n))
      (fun W W' => FInv Bn Bb Ba A len cap at_ n G W → FInv Bn Bb Ba A len cap at_ n G W') (Came G n) (fun _ => True) n w := fun l J Jx W hW _ _ hY h0 => by
  have hI' : FInv Bn Bb Ba A len cap at_ n G W := hI.kept fun p v hp => hW.cell (by
    rcases Nat.lt_or_ge p.block w.heap.size with h | h
    · exact h
    · simp [World.cell?, Array.getElem?_eq_none h] at hp)
  exact field1_in F m h8 hro hm l Bn Bb Ba A len cap at_ n G hle hlm J Jx hY W hI' h0

theorem finv_t {Bn Bb Ba : Nat} {A : Option Addr} {len cap at_ n : Nat} {G : Nat → UInt8 → Prop} {X Y Z : World}
    (h : FInv Bn Bb Ba A len cap at_ n G X → FInv Bn Bb Ba A len cap at_ n G Y) (k : FInv Bn Bb Ba A len cap at_ n G Y → FInv Bn Bb Ba A len cap at_ n G Z) :
    FInv Bn Bb Ba A len cap at_ n G X → FInv Bn Bb Ba A len cap at_ n G Z := fun x => k (h x)
theorem finv_b {Bn Bb Ba : Nat} {A : Option Addr} {len cap at_ n : Nat} {G : Nat → UInt8 → Prop} (W : World) (l : Nat) (o o' : Obj) (h : W.heap[l]? = some o) (hc : o.isCells = false) :
    FInv Bn Bb Ba A len cap at_ n G W → FInv Bn Bb Ba A len cap at_ n G (W.putObj l o') := fun h0 => h0.kept fun p v hp => by
  rw [hp]
  exact cell_kept hp (grownBy_putObj' W l o') (fun r e => by cases e; exact ⟨o, h, hc⟩)

/-- What the bytes of a field come to. -/
def acc {n : Nat} (pre : List (BPair n)) : Nat := pre.foldl (fun s x => s ||| (x.1.2.toNat <<< (8 * x.1.1))) 0
theorem acc_snoc {n : Nat} (pre : List (BPair n)) (x : BPair n) : acc (pre ++ [x]) = acc pre ||| (x.1.2.toNat <<< (8 * x.1.1)) := by simp [acc]
theorem acc_lt {n : Nat} (hn : n ≤ 8) (pre : List (BPair n)) : acc pre < 2 ^ 64 := by
  suffices h : ∀ (l : List (BPair n)) (s : Nat), s < 2 ^ 64 → l.foldl (fun s x => s ||| (x.1.2.toNat <<< (8 * x.1.1))) s < 2 ^ 64 from h pre 0 (by decide)
  intro l
  induction l with
  | nil => intro s hs; exact hs
  | cons x l ih =>
    intro s hs
    refine ih _ (Nat.or_lt_two_pow hs ?_)
    rw [Nat.shiftLeft_eq]
    have h1 : x.1.2.toNat < 2 ^ 8 := x.1.2.toNat_lt
    have h2 : (2 : Nat) ^ (8 * x.1.1) ≤ 2 ^ 56 := Nat.pow_le_pow_right (by decide) (by have := x.2; omega)
    calc x.1.2.toNat * 2 ^ (8 * x.1.1) ≤ x.1.2.toNat * 2 ^ 56 := Nat.mul_le_mul_left _ h2
      _ < 2 ^ 8 * 2 ^ 56 := Nat.mul_lt_mul_of_pos_right h1 (by decide)
      _ = 2 ^ 64 := by decide

/-- A number as bytes, the lowest first. -/
def leN : List UInt8 → Nat
  | [] => 0
  | c :: r => c.toNat + 256 * leN r
theorem leN_snoc (l : List UInt8) (c : UInt8) : leN (l ++ [c]) = leN l + c.toNat * 256 ^ l.length := by
  induction l with
  | nil => simp [leN]
  | cons d l ih => simp only [List.cons_append, leN, ih, List.length_cons, Nat.pow_succ, Nat.mul_add]; rw [Nat.add_assoc]; congr 2; rw [Nat.mul_comm (256 ^ l.length) 256, ← Nat.mul_assoc, ← Nat.mul_assoc, Nat.mul_comm 256]
theorem leN_lt (l : List UInt8) : leN l < 256 ^ l.length := by
  induction l with
  | nil => simp [leN]
  | cons d l ih => simp only [leN, List.length_cons, Nat.pow_succ]; have := d.toNat_lt; omega
theorem acc_came {n : Nat} (bs : List UInt8) : ∀ (k : Nat) (ys : List (BPair n)), Came (fun k c => bs[k]? = some c) k ys → acc ys = leN (bs.take k) := by
  intro k
  induction k with
  | zero =>
    intro ys h
    have : ys = [] := by have := h.length; exact List.eq_nil_of_length_eq_zero this
    subst this; simp [acc, leN]
  | succ k ih =>
    intro ys h
    have h1 := h.1
    rw [List.range_succ] at h1
    obtain ⟨pre, last, rfl, hp, hl⟩ := List.map_eq_append_iff.1 h1
    obtain ⟨x, r, rfl, hx, hr⟩ := List.map_eq_cons_iff.1 hl
    have hr' : r = [] := List.map_eq_nil_iff.1 hr
    subst hr'
    have hG := h.2 x (by simp)
    rw [hx] at hG
    have ihp := ih pre ⟨hp, fun y hy => h.2 y (List.mem_append_left _ hy)⟩
    have hkl : k < bs.length := (List.getElem?_eq_some_iff.1 hG).1
    have hxe : bs[k] = x.1.2 := (List.getElem?_eq_some_iff.1 hG).2
    have hlen : (bs.take k).length = k := by simp; omega
    rw [acc_snoc, ihp, List.take_succ_eq_append_getElem hkl, leN_snoc, hlen, hx, hxe]
    have hlt := leN_lt (bs.take k)
    rw [hlen] at hlt
    have h256 : (256 : Nat) ^ k = 2 ^ (8 * k) := by rw [show (256 : Nat) = 2 ^ 8 by decide, ← Nat.pow_mul]
    rw [h256] at hlt ⊢
    rw [Nat.or_comm, ← Nat.shiftLeft_add_eq_or_of_lt hlt, Nat.shiftLeft_eq, Nat.add_comm]

theorem get_round {n i : Nat} {c : UInt8} {s : Nat} (hi : i < n) (hn : n ≤ 8) (hs : s < 2 ^ 64) :
    bits .or .u64 (s : Int) (IntKind.u64.wrap ((c.toNat : Int) * 2 ^ (8 * (i : Int)).toNat)) = ((s ||| (c.toNat <<< (8 * i)) : Nat) : Int) := by
  have h1 : c.toNat < 2 ^ 8 := c.toNat_lt
  have h2 : (2 : Nat) ^ (8 * i) ≤ 2 ^ 56 := Nat.pow_le_pow_right (by decide) (by omega)
  have h3 : c.toNat * 2 ^ (8 * i) < 2 ^ 64 := by
    calc c.toNat * 2 ^ (8 * i) ≤ c.toNat * 2 ^ 56 := Nat.mul_le_mul_left _ h2
      _ < 2 ^ 8 * 2 ^ 56 := Nat.mul_lt_mul_of_pos_right h1 (by decide)
      _ = 2 ^ 64 := by decide
  have e : ((c.toNat : Int) * 2 ^ (8 * (i : Int)).toNat) = ((c.toNat * 2 ^ (8 * i) : Nat) : Int) := by
    rw [show (8 * (i : Int)).toNat = 8 * i by omega]; push_cast; rfl
  rw [e, IntKind.wrap_u64, Nat.shiftLeft_eq, Int.emod_eq_of_lt (by omega) (by omega)]
  exact u64_or_nat _ _ (by omega) (by omega)

theorem sizeB_iff (n : Nat) : sizeB n = true ↔ n = 1 ∨ n = 2 ∨ n = 4 ∨ n = 8 := by
  simp [sizeB]; omega

theorem get_fin {w ws W : World} {b off len cap at_ n : Nat} {G : Nat → UInt8 → Prop} {pre : List (BPair n)} {x : BPair n} (hb : b < w.heap.size) (hn8 : n ≤ 8)
    (hc : W.cell? ⟨w.heap.size, 0, none⟩ = some (.int .u64 (acc pre : Int))) (hf : W.frozen? ⟨w.heap.size, 0, none⟩ = false) (hB : Below w.heap.size w W) :
    let W2 := (W.setCell ⟨w.heap.size, 0, none⟩ (.int .u64 (bits BinOp.or IntKind.u64 (acc pre : Int) (IntKind.u64.wrap ((x.1.2.toNat : Int) * 2 ^ (8 * (x.1.1 : Int)).toNat))))).drew
    KeepsFrom ws.heap.size W W2 ∧ (FInv (w.heap.size + 1 + 2) (w.heap.size + 1) (w.heap.size + 1 + 1) (some ⟨b, off, none⟩) len cap at_ n G W → FInv (w.heap.size + 1 + 2) (w.heap.size + 1) (w.heap.size + 1 + 1) (some ⟨b, off, none⟩) len cap at_ n G W2) ∧
    (W2.cell? ⟨w.heap.size, 0, none⟩ = some (.int .u64 (acc (pre ++ [x]) : Int)) ∧ W2.frozen? ⟨w.heap.size, 0, none⟩ = false) ∧ Below w.heap.size w W2 := by
  intro W2
  have hW2 : W2 = (W.setCell ⟨w.heap.size, 0, none⟩ (.int .u64 (acc (pre ++ [x]) : Int))).drew := by
    show (W.setCell _ _).drew = _
    rw [get_round x.2 hn8 (acc_lt hn8 pre), acc_snoc]
  rw [hW2]
  refine ⟨((KeepsOthers.setCell _ _ _).trans (KeepsOthers.drew _)).from _, fun h => h.far (X := w.heap.size) (by omega) (by omega) (by omega) (fun _ ad e => by cases e; simp; omega) (fun p hp => ?_), ⟨?_, ?_⟩, ?_⟩
  · exact World.cell?_setCell_other W _ p _ (fun e => hp (by rw [← e]))
  · exact World.cell?_setCell_same' _ _ _ (by rw [hc]; rfl)
  · show (W.setCell _ _).frozen? _ = false
    rw [World.frozen?_setCell]; exact hf
  · exact (hB.setCell (p := ⟨w.heap.size, 0, none⟩) (Nat.le_refl _) _).drew

set_option maxRecDepth 100000 in
set_option maxHeartbeats 1000000 in
theorem get_in (A : Option Addr) (len cap at_ n : Nat) (bs : List UInt8) (w : World) (hn : sizeB n = true) (hle : at_ + n ≤ len) (hlm : len ≤ 9223372036854775807)
    (hR : ∀ k, k < n → ∃ b off c, A = some ⟨b, off, none⟩ ∧ bs[k]? = some c ∧ w.cell? ⟨b, off + (at_ + k), none⟩ = some (.int .u8 (c.toNat : Int))) :
    Calls Tryz.prog 146 #[.slice A len cap, .int .i64 at_, .int .i64 n] w fun e W' => e = .returned (.tuple #[.int .u64 (leN (bs.take n) : Int), .int .i64 0]) ∧ Below w.heap.size w W' := by
  have hins : insideB len at_ n = true := by simp [insideB]; omega
  have hn8 : n ≤ 8 := by rcases (sizeB_iff n).1 hn with h | h | h | h <;> omega
  have hn1 : 0 < n := by rcases (sizeB_iff n).1 hn with h | h | h | h <;> omega
  obtain ⟨b, off, c0, rfl, _, hcell0⟩ := hR 0 hn1
  have hb : b < w.heap.size := by
    rcases Nat.lt_or_ge b w.heap.size with h | h
    · exact h
    · simp [World.cell?, Array.getElem?_eq_none h] at hcell0
  have hR' : ∀ k, k < n → ∃ c, bs[k]? = some c ∧ w.cell? ⟨b, off + (at_ + k), none⟩ = some (.int .u8 (c.toNat : Int)) := fun k hk => by
    obtain ⟨b', off', c, e, h1, h2⟩ := hR k hk
    cases e
    exact ⟨c, h1, h2⟩
  clear hR hcell0
  have HR := Lib.hid hR'
  clear hR'
  refine (callsIn_wide (n := 5)).1 ?_
  have hro : (Fence.wide).round = none := rfl
  refine callsIn_of_wp_marks Tryz.func146 rfl trivial ?_ hro
  simp only [Tryz.ntmps146, List.size_toArray, List.length_cons, List.length_nil, Nat.reduceAdd, Nat.reduceSub, Array.replicate_succ, Array.replicate_zero, List.push_toArray, List.append_toArray, List.nil_append, List.cons_append]
  gi_wp2_with (first
    | (refine ⟨trivial, ?_⟩; gi_at_call 182; refine (callsIn_wide.2 (isSize_any _ _)).mono ?_; rintro e w' ⟨rfl, rfl⟩)
    | (refine ⟨trivial, ?_⟩; gi_at_call 183; refine (callsIn_wide.2 (within_any _ _ _ _ _ _ (by unfold maxLen; omega) (by omega) (by omega))).mono ?_; rintro e w' ⟨rfl, rfl⟩)
    | (refine ⟨trivial, ?_⟩; gi_at_call 184; refine (callsIn_wide.2 (field_any _ _ _ _ _ _)).mono ?_; rintro e w' ⟨rfl, rfl⟩))
  obtain ⟨ws, hws⟩ : ∃ ws, ((((w.alloc (.cells #[.int .u64 0] 160)).alloc (.cells #[.slice (some ⟨b, off, none⟩) len cap] 32)).alloc (.cells #[.int .i64 (at_ : Int)] 3)).alloc (.cells #[.int .i64 (n : Int)] 3)) = ws := ⟨_, rfl⟩
  have bX : Boxed ws w.heap.size 160 (.int .u64 0) := by rw [← hws]; exact (((Boxed.new w _ _).alloc _).alloc _).alloc _
  have bB : Boxed ws (w.heap.size + 1) 32 (.slice (some ⟨b, off, none⟩) len cap) := by
    have := Boxed.new (w.alloc (.cells #[.int .u64 0] 160)) 32 (.slice (some ⟨b, off, none⟩) len cap)
    rw [World.size_alloc] at this
    rw [← hws]; exact (this.alloc _).alloc _
  have bA : Boxed ws (w.heap.size + 1 + 1) 3 (.int .i64 (at_ : Int)) := by
    have := Boxed.new ((w.alloc (.cells #[.int .u64 0] 160)).alloc (.cells #[.slice (some ⟨b, off, none⟩) len cap] 32)) 3 (.int .i64 (at_ : Int))
    rw [World.size_alloc, World.size_alloc] at this
    rw [← hws]; exact this.alloc _
  have bN : Boxed ws (w.heap.size + 1 + 2) 3 (.int .i64 (n : Int)) := by
    have := Boxed.new (((w.alloc (.cells #[.int .u64 0] 160)).alloc (.cells #[.slice (some ⟨b, off, none⟩) len cap] 32)).alloc (.cells #[.int .i64 (at_ : Int)] 3)) 3 (.int .i64 (n : Int))
    rw [World.size_alloc, World.size_alloc, World.size_alloc] at this
    rw [← hws]; exact this
  have hB0 : Below w.heap.size w ws := by
    rw [← hws]; exact ((((Below.refl _ w).alloc (Nat.le_refl _) _).alloc (by simp) _).alloc (by simp; omega) _).alloc (by simp; omega) _
  have hsz : w.heap.size + 4 ≤ ws.heap.size := by rw [← hws]; simp
  rw [hws]
  have hF0 : FInv (w.heap.size + 1 + 2) (w.heap.size + 1) (w.heap.size + 1 + 1) (some ⟨b, off, none⟩) len cap at_ n (fun k c => bs[k]? = some c) ws :=
    ⟨bN.cell, bB.cell, bA.cell, fun k hk => by
      obtain ⟨c, h1, h2⟩ := HR.out k hk
      exact ⟨b, off, c, rfl, h1, (hB0.cell (p := ⟨b, off + (at_ + k), none⟩) hb).trans h2⟩⟩
  refine wpIn_rangeFunc_ownG hro (by omega) (gf := 196) (lb := #[.pointer (some ⟨w.heap.size + 1 + 2, 0, none⟩), .pointer (some ⟨w.heap.size + 1, 0, none⟩), .pointer (some ⟨w.heap.size + 1 + 1, 0, none⟩)]) rfl trivial (enters_of Tryz.func196 (by kernel_rfl) rfl)
    (field1_stops Fence.wide 4 trivial hro (by omega) _ _ _ _ len cap at_ n _ hle hlm ws hF0) finv_t (fun W l o o' _ h hc _ => finv_b W l o o' h hc) (Below.refl _ _) (fun _ => rfl)
    (fun pre W => (W.cell? ⟨w.heap.size, 0, none⟩ = some (.int .u64 (acc pre : Int)) ∧ W.frozen? ⟨w.heap.size, 0, none⟩ = false) ∧ Below w.heap.size w W)
    (fun _ _ _ => False)
    (OwnFrom.and (Own.from (fun s A B row hs hg hr => ⟨cell_kept hs.1 hg hr, (frozen_kept hs.1 hg hr).trans hs.2⟩) _) (ownFrom_below (Nat.le_refl _) (by omega)))
    (fun _ _ _ _ _ hs _ _ => hs)
    ⟨⟨bX.cell, bX.frozen⟩, hB0⟩
    (fun x => { tmps := #[.slice (some ⟨b, off, none⟩) len cap, .int .i64 at_, .int .i64 n, undef, undef, undef, .int .u64 0, .int .i64 0, .pointer (some ⟨w.heap.size, 0, none⟩), .int .i64 (x.1.1 : Int), .int .u8 (x.1.2.toNat : Int), .int .i64 n, .bool true, .bool false, .bool false, .slice (some ⟨b, off, none⟩) len cap, .int .i64 at_, .int .i64 n, .bool true, .bool false, .bool false, .slice (some ⟨b, off, none⟩) len cap, .int .i64 at_, .int .i64 n, .func (.func 196) #[] #[.pointer (some ⟨w.heap.size + 1 + 2, 0, none⟩), .pointer (some ⟨w.heap.size + 1, 0, none⟩), .pointer (some ⟨w.heap.size + 1 + 1, 0, none⟩)], .int .i64 (x.1.1 : Int), .int .u8 (x.1.2.toNat : Int), undef, undef, undef, undef, undef, undef, undef, undef], defers := [] }) ?assign ?body ?done ?stop
  case assign =>
    intro l x W K hK
    dsimp only [bpair]
    gi_wp2
    exact hK
  case body =>
    rintro l pre ⟨⟨i, c⟩, hi⟩ W ⟨⟨hc, hf⟩, hB⟩ _
    dsimp only at hi
    gi_wp2
    have hcl : c.toNat < 256 := c.toNat_lt
    have f1 : IntKind.u64.wrap (c.toNat : Int) = c.toNat := IntWalk.u64_in _ (by omega)
    have f2 : IntKind.i64.wrap (8 * (i : Int)) = 8 * i := IntWalk.i64_in _ (by omega)
    have f3 : (0 : Int) ≤ 8 * (i : Int) := by omega
    have hs := acc_lt (n := n) hn8 pre
    have hlt : w.heap.size < W.heap.size := by have := hB.size; have : (W.cell? ⟨w.heap.size, 0, none⟩).isSome := by rw [hc]; rfl
                                               rcases Nat.lt_or_ge w.heap.size W.heap.size with h | h
                                               · exact h
                                               · simp [World.cell?, Array.getElem?_eq_none h] at hc
    have fin := get_fin (w := w) (ws := ws) (len := len) (cap := cap) (at_ := at_) (n := n) (G := fun k c => bs[k]? = some c) (pre := pre) (x := ⟨(i, c), hi⟩) (off := off) hb hn8 hc hf hB
    have FIN := Lib.hid fin
    clear fin
    refine round_tail 7 (by kernel_rfl) (by kernel_rfl) (by kernel_rfl) (fun ⟨_, _, h⟩ => h) ?_
    simp only [List.take_succ_cons, List.take_zero, List.drop_succ_cons, List.drop_zero]
    repeat still_step
    try refine wpStill_nil ?_
    go_wp2
    exact FIN.out
  case done =>
    rintro D ys W hD hS ⟨⟨hc, hf⟩, hB⟩ hK
    have hacc := acc_came bs n ys hS
    have HA := Lib.hid hacc
    clear hacc
    gi_wp2
    refine ⟨by simp, .inl ⟨_, _, rfl, run_takeDeferred hK, ?_⟩⟩
    exact ⟨_, results_tmp2 rfl _ _ _, by rw [← HA.out]; rfl, hB.trans (belowK_b (w := w) (Nat.le_refl _) W D _ _ (by omega) hK rfl rfl)⟩
  case stop =>
    rintro D c pre W _ _ h _
    exact h.elim

end Go.Proofs.YtolpgpphjnkehaaGreatDoor.Pag
/- octet.Cut. -/
namespace Go.Proofs.YtolpgpphjnkehaaGreatDoor.Pag
set_option maxRecDepth 20000
open Go.RowKit Go.Shelf
attribute [local go_sem] Oper.semAt_some

/-- The row when some bytes have been laid. -/
def laid {n : Nat} (m : Nat) (pre : List (BPair n)) : List Value := pre.foldl (fun L x => L.set x.1.1 (bv x.1.2)) (List.replicate m (bv 0))
theorem laid_snoc {n m : Nat} (pre : List (BPair n)) (x : BPair n) : laid m (pre ++ [x]) = (laid m pre).set x.1.1 (bv x.1.2) := by simp [laid]
theorem laid_length {n m : Nat} (pre : List (BPair n)) : (laid m pre).length = m := by
  suffices h : ∀ (l : List (BPair n)) (L : List Value), (l.foldl (fun L x => L.set x.1.1 (bv x.1.2)) L).length = L.length by
    unfold laid; rw [h]; simp
  intro l
  induction l with
  | nil => intro L; rfl
  | cons x l ih => intro L; simp only [List.foldl_cons]; rw [ih]; simp

theorem came_snoc_inv {n : Nat} {G : Nat → UInt8 → Prop} {k : Nat} {ys : List (BPair n)} (h : Came G (k + 1) ys) : ∃ pre x, ys = pre ++ [x] ∧ Came G k pre ∧ x.1.1 = k ∧ G k x.1.2 := by
  have h1 := h.1
  rw [List.range_succ] at h1
  obtain ⟨pre, last, rfl, hp, hl⟩ := List.map_eq_append_iff.1 h1
  obtain ⟨x, r, rfl, hx, hr⟩ := List.map_eq_cons_iff.1 hl
  have hr' : r = [] := List.map_eq_nil_iff.1 hr
  subst hr'
  have hG := h.2 x (by simp)
  exact ⟨pre, x, rfl, ⟨hp, fun y hy => h.2 y (List.mem_append_left _ hy)⟩, hx, by rw [← hx]; exact hG⟩

theorem laid_came {n : Nat} (bs : List UInt8) (m : Nat) : ∀ (k : Nat) (ys : List (BPair n)), k ≤ m → Came (fun k c => bs[k]? = some c) k ys → laid m ys = (bs.take k).map bv ++ List.replicate (m - k) (bv 0) := by
  intro k
  induction k with
  | zero =>
    intro ys _ h
    have : ys = [] := List.eq_nil_of_length_eq_zero h.length
    subst this; simp [laid]
  | succ k ih =>
    intro ys hm h
    obtain ⟨pre, x, rfl, hp, hx, hG⟩ := came_snoc_inv h
    have hkl : k < bs.length := (List.getElem?_eq_some_iff.1 hG).1
    have hxe : bs[k] = x.1.2 := (List.getElem?_eq_some_iff.1 hG).2
    rw [laid_snoc, ih pre (by omega) hp, hx, List.take_succ_eq_append_getElem hkl, hxe]
    have hl : ((bs.take k).map bv).length = k := by simp; omega
    obtain ⟨r, hr⟩ : ∃ r, m - k = r + 1 := ⟨m - k - 1, by omega⟩
    rw [hr, show m - (k + 1) = r by omega, List.set_append, hl, if_neg (Nat.lt_irrefl _), Nat.sub_self]
    simp [List.replicate_succ, List.set_cons_zero]

theorem cut_fin {w ws W : World} {A : Option Addr} {len cap at_ n : Nat} {G : Nat → UInt8 → Prop} {pre : List (BPair n)} {x : BPair n} {tb : TypeId} (hb : 0 < n → ∀ ad : Addr, A = some ad → ad.block < w.heap.size)
    (hR : Blk W w.heap.size tb (laid n pre).toArray) (bX : Boxed W (w.heap.size + 1) 32 (.slice (some ⟨w.heap.size, 0, none⟩) n n)) (hB : Below w.heap.size w W) :
    let W2 := W.setCell ⟨w.heap.size, x.1.1, none⟩ (.int .u8 (x.1.2.toNat : Int))
    KeepsFrom ws.heap.size W W2 ∧ (FInv (w.heap.size + 1 + 1 + 2) (w.heap.size + 1 + 1) (w.heap.size + 1 + 1 + 1) A len cap at_ n G W → FInv (w.heap.size + 1 + 1 + 2) (w.heap.size + 1 + 1) (w.heap.size + 1 + 1 + 1) A len cap at_ n G W2) ∧
    (Blk W2 w.heap.size tb (laid n (pre ++ [x])).toArray ∧ Boxed W2 (w.heap.size + 1) 32 (.slice (some ⟨w.heap.size, 0, none⟩) n n)) ∧ Below w.heap.size w W2 := by
  intro W2
  refine ⟨(KeepsOthers.setCell _ _ _).from _, fun h => h.far (X := w.heap.size) (by omega) (by omega) (by omega) (fun h0 ad e => by have := hb h0 ad e; omega) (fun p hp => ?_), ⟨?_, ?_⟩, ?_⟩
  · exact World.cell?_setCell_other W _ p _ (fun e => hp (by rw [← e]))
  · have := hR.set_ x.1.1 (bv x.1.2)
    rw [laid_snoc]
    rw [List.setIfInBounds_toArray] at this
    exact this
  · exact Blk.far (cs := #[_]) bX (p := ⟨w.heap.size, x.1.1, none⟩) (by simp) _
  · exact hB.setCell (p := ⟨w.heap.size, x.1.1, none⟩) (Nat.le_refl _) _

end Go.Proofs.YtolpgpphjnkehaaGreatDoor.Pag
/- octet.Put, of a size that there is. -/
namespace Go.Proofs.YtolpgpphjnkehaaGreatDoor.Pag
set_option maxRecDepth 20000
open Go.RowKit Go.Shelf
attribute [local go_sem] Oper.semAt_some

/-- A number as so many bytes, the lowest first. -/
def lePut (x : Nat) : Nat → List UInt8
  | 0 => []
  | n + 1 => UInt8.ofNat x :: lePut (x / 256) n

/-- The row when some bytes have been put. -/
def putRow {n : Nat} (bs : List UInt8) (x : Nat) (pre : List (BPair n)) : List Value := pre.foldl (fun L y => L.set (bs.length + y.1.1) (bv (UInt8.ofNat (x / 2 ^ (8 * y.1.1))))) (bs.map bv ++ List.replicate n (bv 0))
theorem putRow_snoc {n : Nat} (bs : List UInt8) (x : Nat) (pre : List (BPair n)) (y : BPair n) : putRow bs x (pre ++ [y]) = (putRow bs x pre).set (bs.length + y.1.1) (bv (UInt8.ofNat (x / 2 ^ (8 * y.1.1)))) := by simp [putRow]
theorem putRow_length {n : Nat} (bs : List UInt8) (x : Nat) (pre : List (BPair n)) : (putRow bs x pre).length = bs.length + n := by
  suffices h : ∀ (l : List (BPair n)) (L : List Value), (l.foldl (fun L y => L.set (bs.length + y.1.1) (bv (UInt8.ofNat (x / 2 ^ (8 * y.1.1))))) L).length = L.length by
    unfold putRow; rw [h]; simp
  intro l
  induction l with
  | nil => intro L; rfl
  | cons y l ih => intro L; simp only [List.foldl_cons]; rw [ih]; simp

theorem lePut_length (x n : Nat) : (lePut x n).length = n := by
  induction n generalizing x with
  | zero => rfl
  | succ n ih => simp [lePut, ih]
theorem lePut_get (x : Nat) : ∀ (n k : Nat), k < n → (lePut x n)[k]? = some (UInt8.ofNat (x / 2 ^ (8 * k))) := by
  intro n
  induction n generalizing x with
  | zero => intro k h; omega
  | succ n ih =>
    intro k h
    cases k with
    | zero => simp [lePut]
    | succ k =>
      simp only [lePut, List.getElem?_cons_succ]
      rw [ih (x / 256) k (by omega), Nat.div_div_eq_div_mul, show (256 : Nat) = 2 ^ 8 by decide, ← Nat.pow_add, show 8 + 8 * k = 8 * (k + 1) by omega]

theorem putRow_came {n : Nat} (bs : List UInt8) (x : Nat) : ∀ (k : Nat) (ys : List (BPair n)), k ≤ n → Came (fun _ _ => True) k ys → putRow bs x ys = (bs ++ (lePut x n).take k).map bv ++ List.replicate (n - k) (bv 0) := by
  intro k
  induction k with
  | zero =>
    intro ys _ h
    have : ys = [] := List.eq_nil_of_length_eq_zero h.length
    subst this; simp [putRow]
  | succ k ih =>
    intro ys hk h
    obtain ⟨pre, y, rfl, hp, hy, _⟩ := came_snoc_inv h
    have hkl : k < (lePut x n).length := by rw [lePut_length]; omega
    have hg := lePut_get x n k (by omega)
    have hke : (lePut x n)[k] = UInt8.ofNat (x / 2 ^ (8 * k)) := by
      rw [List.getElem?_eq_getElem hkl] at hg; exact Option.some.inj hg
    rw [putRow_snoc, ih pre (by omega) hp, hy, List.take_succ_eq_append_getElem hkl, hke]
    have hl : ((bs ++ (lePut x n).take k).map bv).length = bs.length + k := by simp; rw [lePut_length]; omega
    obtain ⟨r, hr⟩ : ∃ r, n - k = r + 1 := ⟨n - k - 1, by omega⟩
    rw [hr, show n - (k + 1) = r by omega, List.set_append, hl, if_neg (Nat.lt_irrefl _), Nat.sub_self]
    simp [List.replicate_succ, List.set_cons_zero]

theorem put_byte (x i : Nat) : ((x : Int) / 2 ^ (8 * i) % 256) = ((UInt8.ofNat (x / 2 ^ (8 * i))).toNat : Int) := by
  rw [UInt8.toNat_ofNat']
  have e : ((x : Int) / 2 ^ (8 * i)) = ((x / 2 ^ (8 * i) : Nat) : Int) := by rw [Int.natCast_ediv, Int.natCast_pow]; rfl
  rw [e, Int.natCast_emod]
  rfl

theorem put_fin {w w1 ws W : World} {A : Option Addr} {cap n x : Nat} {bs : List UInt8} {pre : List (BPair n)} {y : BPair n} (h4 : w.heap.size + 4 ≤ w1.heap.size)
    (hR : Blk W (w.heap.size + 1 + 1) 5 (putRow bs x pre).toArray) (hB' : Boxed W w.heap.size 32 (.slice A bs.length cap)) (hX' : Boxed W (w.heap.size + 1) 160 (.int .u64 (x : Int)))
    (hL' : Boxed W (w.heap.size + 1 + 1 + 1) 32 (.slice (some ⟨w.heap.size + 1 + 1, 0, none⟩) (bs.length + n) (bs.length + n))) (hB : Below w.heap.size w W) :
    let W2 := (W.setCell ⟨w.heap.size + 1 + 1, bs.length + y.1.1, none⟩ (.int .u8 ((x : Int) / 2 ^ (8 * y.1.1) % 256))).drew
    KeepsFrom ws.heap.size W W2 ∧
    (FInv (w1.heap.size + 2) w1.heap.size (w1.heap.size + 1) (some ⟨w.heap.size + 1 + 1, 0, none⟩) (bs.length + n) (bs.length + n) bs.length n (fun _ _ => True) W →
      FInv (w1.heap.size + 2) w1.heap.size (w1.heap.size + 1) (some ⟨w.heap.size + 1 + 1, 0, none⟩) (bs.length + n) (bs.length + n) bs.length n (fun _ _ => True) W2) ∧
    (Blk W2 (w.heap.size + 1 + 1) 5 (putRow bs x (pre ++ [y])).toArray ∧ Boxed W2 w.heap.size 32 (.slice A bs.length cap) ∧ Boxed W2 (w.heap.size + 1) 160 (.int .u64 (x : Int)) ∧
      Boxed W2 (w.heap.size + 1 + 1 + 1) 32 (.slice (some ⟨w.heap.size + 1 + 1, 0, none⟩) (bs.length + n) (bs.length + n))) ∧ Below w.heap.size w W2 := by
  intro W2
  have hW2 : W2 = (W.setCell ⟨w.heap.size + 1 + 1, bs.length + y.1.1, none⟩ (bv (UInt8.ofNat (x / 2 ^ (8 * y.1.1))))).drew := by
    show (W.setCell _ _).drew = _
    rw [put_byte]; rfl
  have hother : ∀ p : Addr, p ≠ ⟨w.heap.size + 1 + 1, bs.length + y.1.1, none⟩ → W2.cell? p = W.cell? p := fun p hp => by
    rw [hW2]; exact World.cell?_setCell_other W _ p _ (fun e => hp e.symm)
  have hR2 : Blk W2 (w.heap.size + 1 + 1) 5 (putRow bs x (pre ++ [y])).toArray := by
    have := hR.set_ (bs.length + y.1.1) (bv (UInt8.ofNat (x / 2 ^ (8 * y.1.1))))
    rw [List.setIfInBounds_toArray, ← putRow_snoc] at this
    rw [hW2]; exact this
  refine ⟨?_, fun h => ⟨(hother _ (by simp <;> omega)).trans h.bn, (hother _ (by simp <;> omega)).trans h.bb, (hother _ (by simp <;> omega)).trans h.ba, fun k hk => ?_⟩, ⟨hR2, ?_, ?_, ?_⟩, ?_⟩
  · rw [hW2]; exact ((KeepsOthers.setCell _ _ _).trans (KeepsOthers.drew _)).from _
  · have hl := putRow_length (n := n) bs x (pre ++ [y])
    by_cases hki : k = y.1.1
    · subst hki
      refine ⟨_, _, UInt8.ofNat (x / 2 ^ (8 * y.1.1)), rfl, trivial, ?_⟩
      rw [Nat.zero_add, hR2.cell, putRow_snoc]
      have hl' := putRow_length (n := n) bs x pre
      simp [hl', y.2, bv]
    · obtain ⟨b, off, c, e, g, hc⟩ := h.by_ k hk
      cases e
      exact ⟨_, _, c, rfl, trivial, (hother ⟨w.heap.size + 1 + 1, 0 + (bs.length + k), none⟩ (by simp <;> omega)).trans hc⟩
  · rw [hW2]; exact Blk.far (cs := #[_]) hB' (p := ⟨w.heap.size + 1 + 1, bs.length + y.1.1, none⟩) (by simp <;> omega) _
  · rw [hW2]; exact Blk.far (cs := #[_]) hX' (p := ⟨w.heap.size + 1 + 1, bs.length + y.1.1, none⟩) (by simp) _
  · rw [hW2]; exact Blk.far (cs := #[_]) hL' (p := ⟨w.heap.size + 1 + 1, bs.length + y.1.1, none⟩) (by simp) _
  · rw [hW2]; exact (hB.setCell (p := ⟨w.heap.size + 1 + 1, bs.length + y.1.1, none⟩) (by simp <;> omega) _).drew

set_option maxRecDepth 100000 in
set_option maxHeartbeats 1000000 in
theorem put_in (A : Option Addr) (cap n x : Nat) (bs : List UInt8) (w : World) (hn : sizeB n = true) (hlm : bs.length ≤ 140737488355328) (hA : Bytes w A bs) :
    Calls Tryz.prog 154 #[.slice A bs.length cap, .int .u64 x, .int .i64 n] w fun e W' => e = .returned (.slice (some ⟨w.heap.size + 2, 0, none⟩) (bs.length + n) (bs.length + n)) ∧
      Blk W' (w.heap.size + 2) 5 ((bs ++ lePut x n).map bv).toArray ∧ Below w.heap.size w W' := by
  have hn8 : n ≤ 8 := by rcases (sizeB_iff n).1 hn with h | h | h | h <;> omega
  have hmk := run_mk8 (bs.length + n) (by omega)
  have e0 : (((bs.length + n : Nat) : Int)) = (bs.length : Int) + (n : Int) := by omega
  rw [e0] at hmk
  obtain ⟨wc, hwc⟩ : ∃ wc, (((w.alloc (.cells #[.slice A bs.length cap] 32)).alloc (.cells #[.int .u64 (x : Int)] 160)).alloc (.cells (mk8 (bs.length + n)) 5)).alloc (.cells #[.slice (some ⟨w.heap.size + 1 + 1, 0, none⟩) (bs.length + n) (bs.length + n)] 32) = wc := ⟨_, rfl⟩
  have cB : Boxed wc w.heap.size 32 (.slice A bs.length cap) := by rw [← hwc]; exact (((Boxed.new w _ _).alloc _).alloc _).alloc _
  have cX : Boxed wc (w.heap.size + 1) 160 (.int .u64 (x : Int)) := by
    have := Boxed.new (w.alloc (.cells #[.slice A bs.length cap] 32)) 160 (.int .u64 (x : Int))
    rw [World.size_alloc] at this
    rw [← hwc]; exact (this.alloc _).alloc _
  have cR : Blk wc (w.heap.size + 1 + 1) 5 (List.replicate (bs.length + n) (bv 0)).toArray := by
    have := Blk.new ((w.alloc (.cells #[.slice A bs.length cap] 32)).alloc (.cells #[.int .u64 (x : Int)] 160)) 5 (mk8 (bs.length + n))
    rw [World.size_alloc, World.size_alloc] at this
    rw [← hwc, ← mk8_eq]; exact this.alloc _
  have cL : Boxed wc (w.heap.size + 1 + 1 + 1) 32 (.slice (some ⟨w.heap.size + 1 + 1, 0, none⟩) (bs.length + n) (bs.length + n)) := by
    have := Boxed.new (((w.alloc (.cells #[.slice A bs.length cap] 32)).alloc (.cells #[.int .u64 (x : Int)] 160)).alloc (.cells (mk8 (bs.length + n)) 5)) 32 (.slice (some ⟨w.heap.size + 1 + 1, 0, none⟩) (bs.length + n) (bs.length + n))
    rw [World.size_alloc, World.size_alloc, World.size_alloc] at this
    rw [← hwc]; exact this
  have cW : Below w.heap.size w wc := by
    rw [← hwc]; exact ((((Below.refl _ w).alloc (Nat.le_refl _) _).alloc (by simp) _).alloc (by simp; omega) _).alloc (by simp; omega) _
  have csz : wc.heap.size = w.heap.size + 4 := by rw [← hwc]; simp
  obtain ⟨w1, hcp, hR1, hg1, hs1⟩ := run_copy8 wc 3 (w.heap.size + 1 + 1) (bs.length + n) (bs.length + n) A cap bs _ (hA.below cW) cR (by omega) (by simp)
  have dB := Blk.grown (cs := #[_]) cB hg1 (by simp; omega)
  have dX := Blk.grown (cs := #[_]) cX hg1 (by simp)
  have dL := Blk.grown (cs := #[_]) cL hg1 (by simp)
  have hB1 : Below w.heap.size w w1 := cW.grown hg1 (by omega) (fun k e => by cases e; omega)
  have hsz1 : w.heap.size + 4 ≤ w1.heap.size := by omega
  have fB : w1.cell? ⟨w.heap.size, 0, none⟩ = some (.slice A bs.length cap) := dB.cell 0
  have fX : w1.cell? ⟨w.heap.size + 1, 0, none⟩ = some (.int .u64 (x : Int)) := dX.cell 0
  have fL : w1.cell? ⟨w.heap.size + 1 + 1 + 1, 0, none⟩ = some (.slice (some ⟨w.heap.size + 1 + 1, 0, none⟩) (bs.length + n) (bs.length + n)) := dL.cell 0
  have DB := Lib.hid dB
  have DX := Lib.hid dX
  have DL := Lib.hid dL
  have DR := Lib.hid hR1
  have HB1 := Lib.hid hB1
  simp only [goInt] at hcp
  rw [← hwc] at hcp
  clear dB dX dL hR1 hB1 cB cX cR cL cW csz hs1 hg1 hwc
  refine (callsIn_wide (n := 5)).1 ?_
  have hro : (Fence.wide).round = none := rfl
  refine callsIn_of_wp_marks Tryz.func154 rfl trivial ?_ hro
  simp only [Tryz.ntmps154, List.size_toArray, List.length_cons, List.length_nil, Nat.reduceAdd, Nat.reduceSub, Array.replicate_succ, Array.replicate_zero, List.push_toArray, List.append_toArray, List.nil_append, List.cons_append]
  gi_wp2_with (first
    | (refine ⟨trivial, ?_⟩; gi_at_call 182; refine (callsIn_wide.2 (isSize_any _ _)).mono ?_; rintro e w' ⟨rfl, rfl⟩)
    | (refine ⟨trivial, ?_⟩; gi_at_call 184; refine (callsIn_wide.2 (field_any _ _ _ _ _ _)).mono ?_; rintro e w' ⟨rfl, rfl⟩))
  obtain ⟨ws, hws⟩ : ∃ ws, (((w1.alloc (.cells #[.slice (some ⟨w.heap.size + 1 + 1, 0, none⟩) (bs.length + n) (bs.length + n)] 32)).alloc (.cells #[.int .i64 (bs.length : Int)] 3)).alloc (.cells #[.int .i64 (n : Int)] 3)) = ws := ⟨_, rfl⟩
  have bB : Boxed ws w1.heap.size 32 (.slice (some ⟨w.heap.size + 1 + 1, 0, none⟩) (bs.length + n) (bs.length + n)) := by
    rw [← hws]; exact ((Boxed.new w1 _ _).alloc _).alloc _
  have bA : Boxed ws (w1.heap.size + 1) 3 (.int .i64 (bs.length : Int)) := by
    have := Boxed.new (w1.alloc (.cells #[.slice (some ⟨w.heap.size + 1 + 1, 0, none⟩) (bs.length + n) (bs.length + n)] 32)) 3 (.int .i64 (bs.length : Int))
    rw [World.size_alloc] at this
    rw [← hws]; exact this.alloc _
  have bN : Boxed ws (w1.heap.size + 2) 3 (.int .i64 (n : Int)) := by
    have := Boxed.new ((w1.alloc (.cells #[.slice (some ⟨w.heap.size + 1 + 1, 0, none⟩) (bs.length + n) (bs.length + n)] 32)).alloc (.cells #[.int .i64 (bs.length : Int)] 3)) 3 (.int .i64 (n : Int))
    rw [World.size_alloc, World.size_alloc] at this
    rw [← hws]; exact this
  have hk1 : Below w1.heap.size w1 ws := by
    rw [← hws]; exact (((Below.refl _ w1).alloc (Nat.le_refl _) _).alloc (by simp) _).alloc (by simp; omega) _
  have hB0 : Below w.heap.size w ws := HB1.out.trans (hk1.mono (by omega))
  have hsz : w1.heap.size + 3 ≤ ws.heap.size := by rw [← hws]; simp
  rw [hws]
  clear hws hmk hcp
  have eB : Boxed ws w.heap.size 32 (.slice A bs.length cap) := Blk.below (cs := #[_]) DB.out hk1 (by omega)
  have eX : Boxed ws (w.heap.size + 1) 160 (.int .u64 (x : Int)) := Blk.below (cs := #[_]) DX.out hk1 (by omega)
  have eL : Boxed ws (w.heap.size + 1 + 1 + 1) 32 (.slice (some ⟨w.heap.size + 1 + 1, 0, none⟩) (bs.length + n) (bs.length + n)) := Blk.below (cs := #[_]) DL.out hk1 (by omega)
  have eR : Blk ws (w.heap.size + 1 + 1) 5 (putRow (n := n) bs x []).toArray := by
    have := Blk.below DR.out hk1 (by omega)
    simpa [putRow] using this
  have hF0 : FInv (w1.heap.size + 2) w1.heap.size (w1.heap.size + 1) (some ⟨w.heap.size + 1 + 1, 0, none⟩) (bs.length + n) (bs.length + n) bs.length n (fun _ _ => True) ws :=
    ⟨bN.cell, bB.cell, bA.cell, fun k hk => ⟨w.heap.size + 1 + 1, 0, 0, rfl, trivial, by
      rw [Nat.zero_add, eR.cell]; simp [putRow]; rw [List.getElem?_append_right (by simp)]; simp [hk, bv]⟩⟩
  have HL := Lib.hid (putRow_came (n := n) bs x n)
  refine wpIn_rangeFunc_ownG hro (by omega) (gf := 196) (lb := #[.pointer (some ⟨w1.heap.size + 2, 0, none⟩), .pointer (some ⟨w1.heap.size, 0, none⟩), .pointer (some ⟨w1.heap.size + 1, 0, none⟩)]) rfl trivial (enters_of Tryz.func196 (by kernel_rfl) rfl)
    (field1_stops Fence.wide 4 trivial hro (by omega) _ _ _ _ (bs.length + n) (bs.length + n) bs.length n _ (Nat.le_refl _) (by omega) ws hF0) finv_t (fun W l o o' _ h hc _ => finv_b W l o o' h hc) (Below.refl _ _) (fun _ => rfl)
    (fun pre W => (Blk W (w.heap.size + 1 + 1) 5 (putRow bs x pre).toArray ∧ Boxed W w.heap.size 32 (.slice A bs.length cap) ∧ Boxed W (w.heap.size + 1) 160 (.int .u64 (x : Int)) ∧ Boxed W (w.heap.size + 1 + 1 + 1) 32 (.slice (some ⟨w.heap.size + 1 + 1, 0, none⟩) (bs.length + n) (bs.length + n))) ∧ Below w.heap.size w W)
    (fun _ _ _ => False)
    (OwnFrom.and (Own.from (fun s A B row hs hg hr => ⟨hs.1.kept hg hr, Blk.kept (cs := #[_]) hs.2.1 hg hr, Blk.kept (cs := #[_]) hs.2.2.1 hg hr, Blk.kept (cs := #[_]) hs.2.2.2 hg hr⟩) _) (ownFrom_below (Nat.le_refl _) (by omega)))
    (fun _ _ _ _ _ hs _ _ => hs)
    ⟨⟨eR, eB, eX, eL⟩, hB0⟩
    (fun y => { tmps := #[.slice A bs.length cap, .int .u64 x, .int .i64 n, .pointer (some ⟨w.heap.size, 0, none⟩), .pointer (some ⟨w.heap.size + 1, 0, none⟩), undef, .slice none 0 0, .pointer (some ⟨w.heap.size + 1 + 1 + 1, 0, none⟩), .int .i64 (y.1.1 : Int), .int .i64 n, .bool true, .bool false, undef, undef, .slice A bs.length cap, .int .i64 bs.length, .int .i64 n, .int .i64 (bs.length + n), .slice (some ⟨w.heap.size + 1 + 1, 0, none⟩) (bs.length + n) (bs.length + n), .slice (some ⟨w.heap.size + 1 + 1, 0, none⟩) (bs.length + n) (bs.length + n), .slice A bs.length cap, .int .i64 bs.length, .slice (some ⟨w.heap.size + 1 + 1, 0, none⟩) (bs.length + n) (bs.length + n), .slice A bs.length cap, .int .i64 bs.length, .int .i64 n, .func (.func 196) #[] #[.pointer (some ⟨w1.heap.size + 2, 0, none⟩), .pointer (some ⟨w1.heap.size, 0, none⟩), .pointer (some ⟨w1.heap.size + 1, 0, none⟩)], .int .i64 (y.1.1 : Int), .int .u8 (y.1.2.toNat : Int), undef, undef, undef, undef, undef, undef, undef, undef, undef, undef, undef, undef], defers := [] }) ?assign ?body ?done ?stop
  case assign =>
    intro l x W K hK
    dsimp only [bpair]
    gi_wp2
    exact hK
  case body =>
    rintro l pre ⟨⟨i, c⟩, hi⟩ W ⟨⟨hR, hB', hX', hL'⟩, hB⟩ _
    dsimp only at hi
    have g1 := hB'.cell
    have g2 := hX'.cell
    have g3 := hL'.cell
    have hl := putRow_length (n := n) bs x pre
    obtain ⟨u, hu⟩ : ∃ u, (putRow bs x pre)[bs.length + i]? = some u := ⟨_, List.getElem?_eq_getElem (by omega)⟩
    have hcell : W.cell? ⟨w.heap.size + 1 + 1, bs.length + i, none⟩ = some u := by rw [hR.cell]; simpa using hu
    have hfz := hR.frozen (bs.length + i)
    clear hl hu
    have FIN := Lib.hid (put_fin (ws := ws) (y := ⟨(i, c), hi⟩) hsz1 hR hB' hX' hL' hB)
    clear hR
    have hw8 : IntKind.i64.wrap (8 * (i : Int)) = 8 * i := IntWalk.i64_in _ (by omega)
    have hw9 : IntKind.i64.wrap ((bs.length : Int) + (i : Int)) = (bs.length : Int) + i := IntWalk.i64_in _ (by omega)
    have f3 : (0 : Int) ≤ 8 * (i : Int) := by omega
    have f4 : (0 : Int) ≤ (bs.length : Int) + (i : Int) := by omega
    have f5 : ((bs.length : Int) + (i : Int)).toNat = bs.length + i := by omega
    have f6 : (bs.length : Int) + (i : Int) < (bs.length : Int) + (n : Int) := by omega
    gi_wp2
    refine round_tail 11 (by kernel_rfl) (by kernel_rfl) (by kernel_rfl) ?hq ?_
    case hq => exact fun ⟨_, _, h⟩ => h
    simp only [List.take_succ_cons, List.take_zero, List.drop_succ_cons, List.drop_zero]
    repeat still_step
    try refine wpStill_nil ?_
    go_wp2
    exact FIN.out
  case done =>
    rintro D ys W hD hS ⟨⟨hR, hB', hX', hL'⟩, hB⟩ hK
    have g3 := hL'.cell
    have hfin : Blk W (w.heap.size + 1 + 1) 5 ((bs ++ lePut x n).map bv).toArray := by
      have e := HL.out ys (Nat.le_refl _) hS
      rw [e, Nat.sub_self, List.replicate_zero, List.append_nil, List.take_of_length_le (by rw [lePut_length]; exact Nat.le_refl _)] at hR
      exact hR
    clear hR
    have HF := Lib.hid hfin
    clear hfin
    gi_wp2
    refine ⟨by simp, .inl ⟨_, _, rfl, run_takeDeferred hK, ?_⟩⟩
    exact ⟨_, results_tmp rfl _ _ _, rfl, HF.out.putObj _ hK rfl, hB.trans (belowK_b (w := w) (Nat.le_refl _) W D _ _ (by omega) hK rfl rfl)⟩
  case stop =>
    rintro D c pre W _ _ h _
    exact h.elim

end Go.Proofs.YtolpgpphjnkehaaGreatDoor.Pag
/- octet's Get, Cut, Put in one form. -/
namespace Go.Proofs.YtolpgpphjnkehaaGreatDoor.Pag
set_option maxRecDepth 20000
open Go.RowKit Go.Shelf

def filled (bs : List UInt8) (n : Nat) : List UInt8 := bs ++ List.replicate (n - bs.length) 0

def fieldOf (bs : List UInt8) (at_ n : Nat) : List UInt8 := (bs.drop at_).take n
theorem get_ok (A : Option Addr) (cap at_ n : Nat) (bs : List UInt8) (w : World) (hn : sizeB n = true) (hle : at_ + n ≤ bs.length) (hlm : bs.length ≤ maxLen) (hA : Bytes w A bs) :
    Calls Tryz.prog 146 #[.slice A bs.length cap, .int .i64 at_, .int .i64 n] w fun e W' => e = .returned (.tuple #[.int .u64 (leN (fieldOf bs at_ n) : Int), .int .i64 0]) ∧ Below w.heap.size w W' := by
  unfold maxLen at hlm
  refine (get_in A bs.length cap at_ n (fieldOf bs at_ n) w hn hle (by omega) (fun k hk => ?_)).mono ?_
  · have h1 : at_ + k < bs.length := by omega
    obtain ⟨b, off, e, _, hc⟩ := hA (at_ + k) _ (List.getElem?_eq_getElem h1)
    exact ⟨b, off, _, e, by unfold fieldOf; rw [List.getElem?_take_of_lt hk, List.getElem?_drop]; exact List.getElem?_eq_getElem h1, hc⟩
  · rintro e W' ⟨rfl, hB⟩
    refine ⟨?_, hB⟩
    have : (fieldOf bs at_ n).take n = fieldOf bs at_ n := by unfold fieldOf; rw [List.take_take, Nat.min_self]
    rw [this]
theorem put_ok (A : Option Addr) (cap n x : Nat) (bs : List UInt8) (w : World) (hn : sizeB n = true) (hlm : bs.length ≤ 140737488355328) (hA : Bytes w A bs) :
    Calls Tryz.prog 154 #[.slice A bs.length cap, .int .u64 x, .int .i64 n] w fun e W' => e = .returned (.slice (some ⟨w.heap.size + 2, 0, none⟩) (bs.length + n) (bs.length + n)) ∧
      Blk W' (w.heap.size + 2) 5 (row8 (bs ++ lePut x n)) ∧ Below w.heap.size w W' := put_in A cap n x bs w hn hlm hA

set_option maxHeartbeats 400000 in
theorem get_no (A : Option Addr) (len cap : Nat) (at_ n : Int) (w : World) (hl : len ≤ maxLen) (hn : n < 9223372036854775808) (ha : at_ < 9223372036854775808) (h : sizeB n = false ∨ insideB len at_ n = false) :
    Calls Tryz.prog 146 #[.slice A len cap, .int .i64 at_, .int .i64 n] w fun e W' => e = .returned (.tuple #[.int .u64 0, .int .i64 1]) ∧ w = W' := by
  by_cases h1 : sizeB n = true
  · have h2 : insideB len at_ n = false := by
      rcases h with h | h
      · rw [h1] at h; cases h
      · exact h
    clear h
    go_enter Tryz.func146, Tryz.ntmps146
    go_wp2_with (first
      | (go_at_call 182; refine (isSize_any _ _).mono ?_; rintro e w' ⟨rfl, rfl⟩)
      | (go_at_call 183; refine (within_any _ _ _ _ _ _ hl hn ha).mono ?_; rintro e w' ⟨rfl, rfl⟩))
    go_ret2
    exact ⟨rfl, rfl⟩
  · have h2 : sizeB n = false := by simpa using h1
    clear h h1
    go_enter Tryz.func146, Tryz.ntmps146
    go_wp2_with (first
      | (go_at_call 182; refine (isSize_any _ _).mono ?_; rintro e w' ⟨rfl, rfl⟩)
      | (go_at_call 183; refine (within_any _ _ _ _ _ _ hl hn ha).mono ?_; rintro e w' ⟨rfl, rfl⟩))
    go_ret2
    exact ⟨rfl, rfl⟩

theorem get_okL (A : Option Addr) (len cap at_ n : Nat) (bs : List UInt8) (w : World) (hl : bs.length = len) (hn : sizeB n = true) (hle : at_ + n ≤ len) (hlm : len ≤ maxLen) (hA : Bytes w A bs) :
    Calls Tryz.prog 146 #[.slice A len cap, .int .i64 at_, .int .i64 n] w fun e W' => e = .returned (.tuple #[.int .u64 (leN (fieldOf bs at_ n) : Int), .int .i64 0]) ∧ Below w.heap.size w W' := by
  subst hl; exact get_ok A cap at_ n bs w hn hle hlm hA
theorem put_okL (A : Option Addr) (len cap n x : Nat) (bs : List UInt8) (w : World) (hl : bs.length = len) (hn : sizeB n = true) (hlm : len ≤ 140737488355328) (hA : Bytes w A bs) :
    Calls Tryz.prog 154 #[.slice A len cap, .int .u64 x, .int .i64 n] w fun e W' => e = .returned (.slice (some ⟨w.heap.size + 2, 0, none⟩) (len + n) (len + n)) ∧
      Blk W' (w.heap.size + 2) 5 (row8 (bs ++ lePut x n)) ∧ Below w.heap.size w W' := by subst hl; exact put_ok A cap n x bs w hn hlm hA

end Go.Proofs.YtolpgpphjnkehaaGreatDoor.Pag
/- Slices of bytes whose room may be written. -/
namespace Go.Proofs.YtolpgpphjnkehaaGreatDoor.Pag
set_option maxRecDepth 20000
open Go.RowKit

/-- The slice (g, 0), len, cap: it reads as cs; all its room is there, and none of it is frozen. -/
structure Rw (w : World) (g len cap : Nat) (cs : List UInt8) : Prop where
  lt : g < w.heap.size
  long : cs.length = len
  le : len ≤ cap
  max : cap ≤ maxLen
  holds : ∀ (j : Nat) (c : UInt8), cs[j]? = some c → w.cell? ⟨g, j, none⟩ = some (bv c)
  there : ∀ j, j < cap → (w.cell? ⟨g, j, none⟩).isSome = true ∧ w.frozen? ⟨g, j, none⟩ = false

theorem Rw.bytes {w : World} {g len cap : Nat} {cs : List UInt8} (h : Rw w g len cap cs) : Bytes w (some ⟨g, 0, none⟩) cs := fun k c hk =>
  ⟨g, 0, rfl, h.lt, by rw [Nat.zero_add]; exact h.holds k c hk⟩
theorem Rw.frame {w w' : World} {g len cap : Nat} {cs : List UInt8} (h : Rw w g len cap cs) (hs : w.heap.size ≤ w'.heap.size) (hb : w'.heap[g]? = w.heap[g]?) : Rw w' g len cap cs :=
  ⟨Nat.lt_of_lt_of_le h.lt hs, h.long, h.le, h.max, fun j c hj => (World.cell?_of_block (a := ⟨g, j, none⟩) hb).trans (h.holds j c hj),
    fun j hj => ⟨by rw [World.cell?_of_block (a := ⟨g, j, none⟩) hb]; exact (h.there j hj).1, (World.frozen?_of_block (a := ⟨g, j, none⟩) hb).trans (h.there j hj).2⟩⟩
theorem Rw.below {w w' : World} {g len cap : Nat} {cs : List UInt8} (h : Rw w g len cap cs) (hb : Below w.heap.size w w') : Rw w' g len cap cs := h.frame hb.size (hb.block g h.lt)
theorem Rw.of_own {w : World} {base g n cap : Nat} {cs : List UInt8} (h : w.ownsRow base 5 1 (.slice (some ⟨g, 0, none⟩) n cap) n (cs.map bv)) : Rw w g n cap cs := by
  rcases h.2 with ⟨e, _⟩ | ⟨g', cap', cur, e, _, hg, hn, hm, hs, ht⟩
  · cases e
  · injection e with e1 e2 e3
    injection e1 with e1
    injection e1 with e1
    subst e1; subst e3
    rw [Nat.mul_one] at hs ht
    have hB : Blk w g 5 cur := hg
    have hl : cs.length = n := by have := h.1; simpa using this
    refine ⟨hB.lt, hl, hn, hm, fun j c hj => ?_, fun j hj => ⟨?_, hB.frozen j⟩⟩
    · rw [hB.cell j]
      have hjl : j < n := by rw [← hl]; exact (List.getElem?_eq_some_iff.1 hj).1
      have e : (cs.map bv)[j]? = some (bv c) := by rw [List.getElem?_map, hj]; rfl
      rw [← ht, List.getElem?_take_of_lt hjl] at e
      rw [← Array.getElem?_toList]; exact e
    · rw [hB.cell j, Array.getElem?_eq_getElem (by rw [hs]; exact hj)]; rfl

/-- What a slice reads as is a source for append. -/
theorem bytes_src {w : World} {b off n c : Nat} {xs : List UInt8} (hn : xs.length = n) (h : ∀ j u, xs[j]? = some u → w.cell? ⟨b, off + j, none⟩ = some (bv u)) : Src Tryz.prog 1 32 (.slice (some ⟨b, off, none⟩) n c) n (xs.map bv) w :=
  Src.ofSlice w Tryz.underlying32 ⟨b, off, none⟩ n c (xs.map bv) (by simp [hn]) (fun j u hu => by
    rw [List.getElem?_map] at hu
    cases hj : xs[j]? with
    | none => rw [hj] at hu; cases hu
    | some d =>
      rw [hj] at hu
      simp only [Option.map_some, Option.some.injEq] at hu
      subst hu
      have e2 : (⟨b, off, none⟩ : Addr).add j = ⟨b, off + j, none⟩ := by unfold Addr.add; split <;> simp_all
      rw [e2]; exact h j d hj)
    (fun u hu => by obtain ⟨d, _, rfl⟩ := List.mem_map.1 hu; rfl)

theorem setCells_other (g : Nat) : ∀ (vs : List Value) (o : Nat) (w : World), (w.setCells g o vs).os = w.os ∧ (w.setCells g o vs).tape = w.tape ∧ (w.setCells g o vs).output = w.output ∧ (w.setCells g o vs).heap.size = w.heap.size ∧ (∀ k, k ≠ g → (w.setCells g o vs).heap[k]? = w.heap[k]?) ∧ ∀ a, (w.setCells g o vs).frozen? a = w.frozen? a
  | [], _, w => ⟨rfl, rfl, rfl, rfl, fun _ _ => rfl, fun _ => rfl⟩
  | v :: r, o, w => by
    obtain ⟨h1, h2, h3, h4, h5, h6⟩ := setCells_other g r (o + 1) (w.setCell ⟨g, o, none⟩ v)
    refine ⟨h1, h2, h3, h4.trans (by simp [World.setCell]), fun k hk => (h5 k hk).trans ?_, fun a => (h6 a).trans (World.frozen?_setCell _ _ _ _)⟩
    simp only [World.setCell, Array.getElem?_modify]
    rw [if_neg (fun e => hk e.symm)]

theorem run_rwapp {w : World} {g len cap : Nat} {cs xs : List UInt8} (h : Rw w g len cap cs) (b off n c : Nat) (hn : xs.length = n) (hx : ∀ j u, xs[j]? = some u → w.cell? ⟨b, off + j, none⟩ = some (bv u)) (hb : len + n ≤ 140737488355328) :
    ∃ g' cap' w', (Builtin.append_ #[32, 32] 32 #[.slice (some ⟨g, 0, none⟩) len cap, .slice (some ⟨b, off, none⟩) n c]).run Tryz.prog w = .ok (.slice (some ⟨g', 0, none⟩) (len + n) cap') w' ∧
      Rw w' g' (len + n) cap' (cs ++ xs) ∧ Rw w' g len cap cs ∧ (g' = g ∧ cap' = cap ∨ g' = w.heap.size) ∧ (∀ k, k < w.heap.size → k ≠ g → w'.heap[k]? = w.heap[k]?) ∧ (∀ B, B ≤ g → Below B w w') := by
  obtain ⟨i0, hi, hz0, hz1, hz2⟩ := info_parts Tryz.info8
  have hs := bytes_src (c := c) hn hx
  rw [← hz1] at hs
  have hml : (cs ++ xs).length = len + n := by rw [List.length_append, h.long, hn]
  by_cases hroom : len + n ≤ cap
  · have hr := run_append_room_src (P := Tryz.prog) w 32 32 32 5 i0 Tryz.underlying32 hi g 0 len cap _ n _ hs hroom
      (fun j hj => by rw [hz1]; simp at hj; exact (h.there _ (by omega)).1) (fun j hj => by rw [hz1]; simp at hj; exact (h.there _ (by omega)).2)
    rw [hz1, Nat.zero_add, Nat.mul_one] at hr
    obtain ⟨o1, o2, o3, o4, o5, o6⟩ := setCells_other g (xs.map bv) len w
    have hin := World.cell?_setCells_in g (xs.map bv) len w (fun j hj => by simp at hj; exact (h.there _ (by omega)).1)
    have hout := fun k (hk : k < len ∨ len + n ≤ k) => World.cell?_setCells_out g (xs.map bv) len w ⟨g, k, none⟩ (fun _ _ => by simp; omega)
    have hth : ∀ j, j < cap → ((w.setCells g len (xs.map bv)).cell? ⟨g, j, none⟩).isSome = true ∧ (w.setCells g len (xs.map bv)).frozen? ⟨g, j, none⟩ = false := fun j hj => by
      refine ⟨?_, by rw [o6]; exact (h.there j hj).2⟩
      by_cases h1 : j < len ∨ len + n ≤ j
      · rw [hout j h1]; exact (h.there j hj).1
      · have := hin (j - len) (by simp; omega)
        rw [show len + (j - len) = j by omega] at this
        rw [this]; rfl
    have hol : ∀ (j : Nat) (c : UInt8), cs[j]? = some c → (w.setCells g len (xs.map bv)).cell? ⟨g, j, none⟩ = some (bv c) := fun j c hj => by
      have hjl := (List.getElem?_eq_some_iff.1 hj).1
      rw [h.long] at hjl
      rw [hout j (.inl hjl)]; exact h.holds j c hj
    refine ⟨g, cap, _, hr, ⟨by rw [o4]; exact h.lt, hml, hroom, h.max, fun j c hj => ?_, hth⟩, ⟨by rw [o4]; exact h.lt, h.long, h.le, h.max, hol, hth⟩, .inl ⟨rfl, rfl⟩, fun k _ hk => o5 k hk, fun B hB => ⟨o1, o2, o3, by rw [o4]; exact Nat.le_refl _, fun k hk => o5 k (by omega)⟩⟩
    by_cases hjl : j < len
    · rw [List.getElem?_append_left (by rw [h.long]; exact hjl)] at hj
      exact hol j c hj
    · rw [List.getElem?_append_right (by rw [h.long]; omega), h.long] at hj
      have hj' := (List.getElem?_eq_some_iff.1 hj).1
      have := hin (j - len) (by simp; exact hj')
      rw [show len + (j - len) = j by omega] at this
      rw [this]
      obtain ⟨_, e⟩ := List.getElem?_eq_some_iff.1 hj
      rw [List.getElem_map, e]
  · have hho : (Builtin.firstCells i0.size len (.slice (some ⟨g, 0, none⟩) len cap)).run Tryz.prog w.drew = .ok (cs.map bv).toArray w.drew := by
      rw [hz1]
      exact run_firstCells_some w.drew 1 len ⟨g, 0, none⟩ len cap (cs.map bv) (by simp [h.long]) (fun j u hu => by
        rw [List.getElem?_map] at hu
        cases hj : cs[j]? with
        | none => rw [hj] at hu; cases hu
        | some d =>
          rw [hj] at hu
          simp only [Option.map_some, Option.some.injEq] at hu
          subst hu
          rw [Addr.add_lit, Nat.zero_add]
          exact h.holds j d hj)
    have hmx := h.max
    have hr := run_append_grow_src (P := Tryz.prog) w 32 32 32 5 i0 _ Tryz.underlying32 hi hz0 (some ⟨g, 0, none⟩) len cap _ hho _ n _ hs (by omega) (by omega) (growslice_fits (by omega) (by rw [hz2]; omega))
    have hge := grownCap_ge w (len + n) cap 5
    have hcm := grownCap_le_maxLen w (len + n) cap 5 (by unfold maxLen; omega)
    refine ⟨w.heap.size, _, _, hr, ?_, h.frame (by simp) (Below.heap_alloc w.drew _ g h.lt), .inr rfl, fun k hk _ => Below.heap_alloc w.drew _ k hk, fun B hB => ⟨rfl, rfl, rfl, by simp, fun k hk => Below.heap_alloc w.drew _ k (show k < w.heap.size by have := h.lt; omega)⟩⟩
    have hcell := fun j => World.cell?_alloc_new w.drew ((List.map bv cs ++ List.map bv xs).toArray ++ Builtin.zeroCells (Value.int IntKind.u8 0).cells (grownCap w (len + n) cap 5 - (len + n))) 5 j
    refine ⟨by simp, hml, hge, hcm, fun j c hj => ?_, fun j hj => ⟨?_, World.frozen?_alloc_new w.drew _ _ j⟩⟩
    · refine (hcell j).trans ?_
      have hj' := (List.getElem?_eq_some_iff.1 hj).1
      rw [Array.getElem?_append_left (by simpa using hj'), List.getElem?_toArray, ← List.map_append, List.getElem?_map, hj]
      rfl
    · have e1 := hcell j
      refine (congrArg Option.isSome e1).trans ?_
      rw [Array.getElem?_eq_getElem]
      · rfl
      · rw [Array.size_append, size_zeroCells]
        simp only [List.size_toArray, List.length_append, List.length_map, h.long, hn]
        show j < len + n + (grownCap w (len + n) cap 5 - (len + n)) * 1
        omega


theorem run_bytes8 (w : World) (bs : List UInt8) (hl : bs.length ≤ maxLen) : ∃ c w', (convert 9 32 (.string (str bs))).run Tryz.prog w = .ok (.slice (some ⟨w.heap.size, 0, none⟩) bs.length c) w' ∧ Rw w' w.heap.size bs.length c bs ∧ Below w.heap.size w w' := by
  have h := Lib.run_convert_string_bytes (P := Tryz.prog) w 9 32 5 (str bs) Tryz.underlying9 Tryz.underlying32 Tryz.underlying5
  have hsz : (str bs).size = bs.length := by simp [str, ByteArray.size]
  rw [hsz] at h
  have hge := grownCap_ge w bs.length 0 5
  have hcm := grownCap_le_maxLen w bs.length 0 5 hl
  have hn := Lib.bytesWorld_at_new w 5 (str bs)
  have hcs : (Lib.bytesCells w 5 (str bs)).size = grownCap w bs.length 0 5 := by
    unfold Lib.bytesCells
    rw [hsz, Array.size_append]
    simp only [str, List.map_toArray, List.size_toArray, List.length_map, Array.size_replicate]
    omega
  have hcell : ∀ j, (Lib.bytesWorld w 5 (str bs)).cell? ⟨w.heap.size, j, none⟩ = (Lib.bytesCells w 5 (str bs))[j]? := fun j => by
    simp [World.cell?, hn]
  refine ⟨_, _, h, ⟨by rw [Lib.bytesWorld_size]; omega, rfl, hge, hcm, fun j c hj => ?_, fun j hj => ⟨?_, ?_⟩⟩, ⟨rfl, rfl, rfl, by rw [Lib.bytesWorld_size]; omega, fun k hk => Lib.bytesWorld_at_old w 5 (str bs) k hk⟩⟩
  · have hjl := (List.getElem?_eq_some_iff.1 hj).1
    rw [hcell, Lib.bytesCells, Array.getElem?_append_left (by simp [str]; exact hjl)]
    simp only [str, List.map_toArray, List.getElem?_toArray, List.getElem?_map, hj]
    rfl
  · rw [hcell, Array.getElem?_eq_getElem (by rw [hcs]; exact hj)]; rfl
  · simp only [World.frozen?, hn, hcs]
    simp
    omega

theorem drewN_below (w : World) (n : Nat) : Below w.heap.size w (w.drewN n) := ⟨rfl, rfl, rfl, Nat.le_refl _, fun _ _ => rfl⟩
end Go.Proofs.YtolpgpphjnkehaaGreatDoor.Pag
/- pages: parts apart from memory. -/
namespace Go.Proofs.YtolpgpphjnkehaaGreatDoor.Pag
set_option maxRecDepth 20000
open Go.RowKit Pgs

namespace Pgs
theorem trim_zeros (l : List Nat) (h : ∀ x ∈ l, x = 0) : trim l = [] := by
  induction l with
  | nil => rfl
  | cons x r ih =>
    have hx := h x (List.mem_cons_self)
    have hr := ih (fun y hy => h y (List.mem_cons_of_mem _ hy))
    unfold trim
    rw [if_pos ⟨hx, hr⟩]
theorem trim_app (a b : List Nat) (hb : ∀ x ∈ b, x = 0) (ha : a = [] ∨ ∃ x, a.getLast? = some x ∧ x ≠ 0) : trim (a ++ b) = a := by
  induction a with
  | nil => exact trim_zeros b hb
  | cons x r ih =>
    rcases ha with h | ⟨y, hy, hn⟩
    · cases h
    · cases r with
      | nil =>
        simp at hy
        subst hy
        show trim (x :: b) = [x]
        unfold trim
        rw [trim_zeros b hb, if_neg (fun h => hn h.1)]
      | cons z r =>
        have ih2 := ih (.inr ⟨y, by simpa using hy, hn⟩)
        show trim (x :: ((z :: r) ++ b)) = x :: z :: r
        unfold trim
        rw [ih2, if_neg (fun h => by cases h.2)]
/-- What the loop over a part's end leaves. -/
theorem trim_take (l : List Nat) (n : Nat) (hn : n ≤ l.length) (hz : ∀ j, n ≤ j → j < l.length → l[j]? = some 0) (he : n = 0 ∨ ∃ x, l[n - 1]? = some x ∧ x ≠ 0) : trim l = l.take n := by
  have e : l = l.take n ++ l.drop n := (List.take_append_drop n l).symm
  conv => lhs; rw [e]
  refine trim_app _ _ (fun x hx => ?_) ?_
  · obtain ⟨j, hj, rfl⟩ := List.getElem_of_mem hx
    rw [List.length_drop] at hj
    have h := hz (n + j) (by omega) (by omega)
    rw [List.getElem?_eq_getElem (by omega)] at h
    rw [List.getElem_drop]
    exact Option.some.inj h
  · rcases he with h | ⟨x, hx, hne⟩
    · subst h; exact .inl rfl
    · by_cases h0 : n = 0
      · subst h0; exact .inl rfl
      · refine .inr ⟨x, ?_, hne⟩
        rw [List.getLast?_eq_getElem?, List.length_take, Nat.min_eq_left hn, List.getElem?_take_of_lt (by omega)]
        exact hx
theorem partN_len {L : List Nat} (h : Ok L) {i : Nat} (hi : i < 9) : (partN L i).length = 124 := by
  unfold partN
  rw [List.length_take, List.length_drop, h.len]
  omega
theorem partN_get {L : List Nat} (h : Ok L) {i j : Nat} (hi : i < 9) (hj : j < 124) : ∃ x, (partN L i)[j]? = some x ∧ L[i * 124 + j]? = some x ∧ x < 65536 := by
  obtain ⟨x, hx⟩ : ∃ x, L[i * 124 + j]? = some x := ⟨_, List.getElem?_eq_getElem (by rw [h.len]; omega)⟩
  refine ⟨x, ?_, hx, h.lt _ _ hx⟩
  unfold partN
  rw [List.getElem?_take_of_lt hj, List.getElem?_drop]
  exact hx
theorem bytes2_snoc (l : List Nat) (x : Nat) : bytes2 (l ++ [x]) = bytes2 l ++ lePut x 2 := by
  unfold bytes2
  rw [List.flatMap_append]
  congr 1
theorem bytes2_len (l : List Nat) : (bytes2 l).length = 2 * l.length := by
  induction l with
  | nil => rfl
  | cons x l ih => unfold bytes2 at ih ⊢; rw [List.flatMap_cons, List.length_append, ih, List.length_cons]; simp; omega
end Pgs
end Go.Proofs.YtolpgpphjnkehaaGreatDoor.Pag
/- pages: Part. -/
namespace Go.Proofs.YtolpgpphjnkehaaGreatDoor.Pag
set_option maxRecDepth 20000
open Go.RowKit Pgs

theorem arrayLen16 : Tryz.prog.arrayLen 171 = 1116 := by kernel_rfl
theorem slice_part (g i : Nat) (hi : i < 9) (w : World) :
    (Instr.sliceAt 171 (.pointer (some ⟨g, 0, none⟩)) (some (.int .i64 ((i : Int) * 124))) (some (.int .i64 (((i : Int) + 1) * 124))) none).run Tryz.prog w = .ok (.slice (some ⟨g, i * 124, none⟩) 124 (1116 - i * 124)) w := by
  have ht : Tryz.prog.underlying 171 = some (.array (Tryz.prog.arrayLen 171) (Tryz.prog.elem 171)) := by kernel_rfl
  have hs : (sizeOf (Tryz.prog.elem 171)).run Tryz.prog w = .ok 1 w := by kernel_rfl
  rw [run_sliceAt_array_lh w 171 ⟨g, 0, none⟩ ht .i64 .i64 _ _ (by omega) (by omega) (by rw [arrayLen16]; omega), hs]
  have e1 : ((i : Int) * 124).toNat = i * 124 := by omega
  have e2 : (((i : Int) + 1) * 124).toNat = i * 124 + 124 := by omega
  have e3 : ¬ (1116 = i * 124) := by omega
  have ea : (⟨g, 0, none⟩ : Addr).add (i * 124 * 1) = ⟨g, i * 124, none⟩ := by unfold Addr.add; split <;> simp_all
  simp only [Result.andThen, slicedAt, e1, e2, arrayLen16, if_neg e3, ea, Nat.add_sub_cancel_left]
set_option maxRecDepth 20000 in
set_option maxHeartbeats 1000000 in
theorem part_nil (i : Int) (w : World) : Calls Tryz.prog 100 #[.pointer none, .int .i64 i] w fun e w' => e = .returned (.slice none 0 0) ∧ w = w' := by
  go_enter Tryz.func100, Tryz.ntmps100
  go_wp2_with fail
  go_ret
  exact ⟨rfl, rfl⟩
set_option maxRecDepth 20000 in
set_option maxHeartbeats 1000000 in
theorem part_no (g : Nat) (i : Int) (w : World) (h : ¬ (0 ≤ i ∧ i < 9)) : Calls Tryz.prog 100 #[.pointer (some ⟨g, 0, none⟩), .int .i64 i] w fun e w' => e = .returned (.slice none 0 0) ∧ w = w' := by
  have h1 := isPart_any i w
  rw [decide_eq_false h] at h1
  have H1 := Lib.hid h1
  clear h1 h
  go_enter Tryz.func100, Tryz.ntmps100
  go_wp2_with (go_at_call 157; refine Calls.mono H1.out ?_; rintro e w' ⟨rfl, rfl⟩)
  go_ret
  exact ⟨rfl, rfl⟩

set_option maxRecDepth 20000 in
set_option maxHeartbeats 2000000 in
theorem part_some (g i : Nat) (L : List Nat) (w : World) (h : PM w g L) (hi : i < 9) :
    Calls Tryz.prog 100 #[.pointer (some ⟨g, 0, none⟩), .int .i64 (i : Int)] w fun e w' => ∃ A n c, e = .returned (.slice A n c) ∧ n ≤ c ∧ c ≤ maxLen ∧ (partB L i).length = n ∧ Bytes w' A (partB L i) ∧ Below w.heap.size w w' := by
  have h1 := isPart_any (i : Int) w
  rw [decide_eq_true (by omega)] at h1
  have H1 := Lib.hid h1
  have HP := Lib.hid h
  have hpl := partN_len h.ok hi
  obtain ⟨P, hP⟩ : ∃ P, partN L i = P := ⟨_, rfl⟩
  have HG : Hid (∀ j, j < 124 → ∃ x : Nat, P[j]? = some x ∧ x < 65536 ∧ ∀ W, Below w.heap.size w W → W.cell? ⟨g, i * 124 + j, none⟩ = some (.int .u16 (x : Int))) := Lib.hid (fun j hj => by
    obtain ⟨x, e1, e2, e3⟩ := partN_get h.ok hi hj
    rw [hP] at e1
    exact ⟨x, e1, e3, fun W hW => ((PM.below h hW).cell e2)⟩)
  rw [hP] at hpl
  have HPL := Lib.hid hpl
  have hB : partB L i = bytes2 (trim P) := by unfold partB; rw [hP]
  rw [hB]
  clear h1 h hpl hP hB
  have q1 : (0 : Int) ≤ (i : Int) * 124 := by omega
  have q2 : ((i : Int) * 124).toNat = i * 124 := by omega
  have q3 : (i : Int) * 124 ≤ ((i : Int) + 1) * 124 := by omega
  have q4 : ((i : Int) + 1) * 124 ≤ 1116 := by omega
  have q5 : (((i : Int) + 1) * 124).toNat = i * 124 + 124 := by omega
  have q6 : i * 124 + 124 - i * 124 = 124 := by omega
  have hsl := slice_part g i hi w
  have q9 : 124 ≤ 1116 - i * 124 := by omega
  have q7 : (0 : Int) ≤ ((i : Int) + 1) * 124 := by omega
  go_enter Tryz.func100, Tryz.ntmps100
  go_upto_block 0 with (go_at_call 157; refine Calls.mono H1.out ?_; rintro e w' ⟨rfl, rfl⟩)
  go_cut [6] from 28 to 39 (fun nv wx => ∃ n : Nat, n ≤ 124 ∧ nv = .int .i64 (n : Int) ∧ Hid (trim P = P.take n) ∧ wx = w)
  case first =>
    go_wp2_with fail
    go_loopw [6] (fun nv wr => ∃ n : Nat, n ≤ 124 ∧ nv = .int .i64 (n : Int) ∧ wr = w ∧ Hid (∀ j, n ≤ j → j < 124 → P[j]? = some 0)) (fun nv _ => (intOf nv).toNat)
    case atStart => exact ⟨124, Nat.le_refl _, rfl, rfl, Lib.hid (fun j h1 h2 => by omega)⟩
    case round =>
      obtain ⟨n, hn, rfl, rfl, hZ⟩ := hrel
      cases n with
      | zero =>
        have HT : Hid (trim P = P.take 0) := Lib.hid (trim_take P 0 (Nat.zero_le _) (fun j h1 h2 => hZ.out j h1 (by rw [← HPL.out]; exact h2)) (.inl rfl))
        go_wp2_with fail
        go_meet
        exact ⟨0, by omega, rfl, HT, rfl⟩
      | succ q =>
        obtain ⟨x, hx, hx6, hc⟩ := HG.out q (by omega)
        have c0 := hc wr (Below.refl _ _)
        have e1 : ((q + 1 : Nat) : Int) - 1 = (q : Int) := by omega
        have e2 : (0 : Int) < ((q + 1 : Nat) : Int) := by omega
        by_cases hx0 : x = 0
        · subst hx0
          have HZ2 : Hid (∀ j, q ≤ j → j < 124 → P[j]? = some 0) := Lib.hid (fun j h1 h2 => by
            by_cases e : j = q
            · subst e; exact hx
            · exact hZ.out j (by omega) h2)
          clear hc hx hZ
          go_wp2_with fail
          go_roundw
          case rel => exact ⟨q, by omega, rfl, by trivial, HZ2⟩
          case measure => simp [intOf]
        · have hxi : ((x : Int) == 0) = false := by simp; omega
          have HT : Hid (trim P = P.take (q + 1)) := Lib.hid (trim_take P (q + 1) (by rw [HPL.out]; omega) (fun j h1 h2 => hZ.out j h1 (by rw [← HPL.out]; exact h2)) (.inr ⟨x, by rw [Nat.add_sub_cancel]; exact hx, hx0⟩))
          clear hc hx hZ
          go_wp2_with fail
          go_meet
          exact ⟨q + 1, by omega, rfl, HT, rfl⟩
  case rest =>
    obtain ⟨n, hn, rfl, hT, hwc⟩ := hcut
    obtain rfl : w = wc := hwc.symm
    have hn2 : (n : Int) ≤ ((1116 - i * 124 : Nat) : Int) := by omega
    have HW : Hid (Bytes w none (bytes2 (P.take 0)) ∧ Below w.heap.size w w) := Lib.hid ⟨Bytes.nil _ _, Below.refl _ _⟩
    clear hsl q1 q2 q3 q4 q5 q6 q7
    go_wp2_with fail
    go_loopw [7, 9, 44] (fun bvv sv iv wr => ∃ (k : Nat) (Ab : Option Addr) (cb : Nat), k ≤ n ∧ iv = .int .i64 (k : Int) ∧ bvv = .slice Ab (2 * k) cb ∧ 2 * k ≤ cb ∧ cb ≤ 1000000 ∧ Hid (Bytes wr Ab (bytes2 (P.take k)) ∧ Below w.heap.size w wr)) (fun _ _ iv _ => n - (intOf iv).toNat)
    case atStart => exact ⟨0, none, 0, Nat.zero_le _, rfl, rfl, Nat.le_refl _, by omega, HW⟩
    case round =>
      clear HW
      obtain ⟨k, Ab, cb, hk, rfl, rfl, hcb, hcb2, hI⟩ := hrel
      by_cases hlt : k < n
      · have hd : decide ((k : Int) < (n : Int)) = true := by simpa using hlt
        obtain ⟨x, hx, hx6, hc⟩ := HG.out k (by omega)
        have c0 := hc wr hI.out.2
        have hlk : (bytes2 (P.take k)).length = 2 * k := by rw [bytes2_len, List.length_take, HPL.out]; omega
        have hput := put_okL Ab (2 * k) cb 2 x (bytes2 (P.take k)) wr hlk rfl (by omega) hI.out.1
        have hts : P.take (k + 1) = P.take k ++ [x] := by
          obtain ⟨h1, h2⟩ := List.getElem?_eq_some_iff.1 hx
          rw [List.take_succ_eq_append_getElem h1, h2]
        have HTS : Hid (bytes2 (P.take (k + 1)) = bytes2 (P.take k) ++ lePut x 2) := Lib.hid (by rw [hts, bytes2_snoc])
        have HPUT := Lib.hid hput
        have HIB := Lib.hid hI.out.2
        have hwx : IntKind.u64.wrap (x : Int) = x := IntWalk.u64_in _ (by omega)
        have e2 : 2 * k + 2 = 2 * (k + 1) := by omega
        clear hx hc hlk hput hts hI
        go_wp2_with fail
        refine HPUT.out.mono ?_
        rintro e w5 ⟨rfl, hR5, hb5⟩
        rw [← HTS.out] at hR5
        have HI5 : Hid (Bytes w5 (some ⟨wr.heap.size + 2, 0, none⟩) (bytes2 (P.take (k + 1))) ∧ Below w.heap.size w w5) := Lib.hid ⟨Bytes.row hR5, HIB.out.trans (hb5.mono HIB.out.size)⟩
        clear hR5 hb5 HPUT HTS c0
        go_wp2_with fail
        go_roundw
        case rel => exact ⟨k + 1, _, _, by omega, by go_num, rfl, by omega, by omega, HI5⟩
        case measure => simp [intOf]; omega
      · obtain rfl : n = k := by omega
        have hd : decide ((n : Int) < (n : Int)) = false := by simp
        go_wp2_with fail
        go_ret
        exact ⟨Ab, 2 * n, cb, rfl, hcb, by unfold maxLen; omega, by rw [hT.out, bytes2_len, List.length_take, HPL.out]; omega, by rw [hT.out]; exact hI.out.1, hI.out.2⟩
end Go.Proofs.YtolpgpphjnkehaaGreatDoor.Pag
/- pages: Turned. -/
namespace Go.Proofs.YtolpgpphjnkehaaGreatDoor.Pag
set_option maxRecDepth 20000
open Go.RowKit Pgs

namespace Pgs
def turnedTo (L K : List Nat) (k : Nat) : List Nat := (List.range k).filter fun i => decide (partN L i ≠ partN K i)
theorem turnedTo_succ (L K : List Nat) (k : Nat) : turnedTo L K (k + 1) = if partN L k = partN K k then turnedTo L K k else turnedTo L K k ++ [k] := by
  unfold turnedTo
  rw [List.range_succ, List.filter_append]
  by_cases h : partN L k = partN K k
  · rw [if_pos h]; simp [h]
  · rw [if_neg h]; simp [h]
theorem turnedTo_len (L K : List Nat) (k : Nat) : (turnedTo L K k).length ≤ k := by
  unfold turnedTo
  have := List.length_filter_le (fun i => decide (partN L i ≠ partN K i)) (List.range k)
  rw [List.length_range] at this
  exact this
theorem part_eq {L K : List Nat} (hL : Ok L) (hK : Ok K) {i : Nat} (hi : i < 9) (h : ∀ j, j < 124 → L[i * 124 + j]? = K[i * 124 + j]?) : partN L i = partN K i := by
  apply List.ext_getElem?
  intro j
  by_cases hj : j < 124
  · unfold partN
    rw [List.getElem?_take_of_lt hj, List.getElem?_take_of_lt hj, List.getElem?_drop, List.getElem?_drop]
    exact h j hj
  · rw [List.getElem?_eq_none (by rw [partN_len hL hi]; omega), List.getElem?_eq_none (by rw [partN_len hK hi]; omega)]
theorem part_ne {L K : List Nat} {i j : Nat} (hj : j < 124) (h : L[i * 124 + j]? ≠ K[i * 124 + j]?) : partN L i ≠ partN K i := fun e => by
  apply h
  have := congrArg (fun l => l[j]?) e
  unfold partN at this
  simp only [List.getElem?_take_of_lt hj, List.getElem?_drop] at this
  exact this
end Pgs

theorem infoMap2 : (Tryz.prog.info? 173).map (fun i => (i.zero, i.size)) = some (some (.agg (row16 none_)), 1116) := by kernel_rfl
/-- A map, or none. -/
def PV (w : World) (a : Option Addr) (L : List Nat) : Prop := (a = none ∧ L = none_) ∨ ∃ g, a = some ⟨g, 0, none⟩ ∧ PM w g L
/-- Between the rounds of Turned. -/
structure TuI (w w1 wr : World) (lv : Value) (zs : List Nat) : Prop where
  ints : IntsO wr lv zs
  own : ∀ j, lv.ownBlock = some j → w1.heap.size ≤ j
  bel : Below w1.heap.size w1 wr
theorem TuI.drewN {w w1 wr : World} {lv : Value} {zs : List Nat} (h : TuI w w1 wr lv zs) (q : Nat) : TuI w w1 (wr.drewN q) lv zs :=
  ⟨h.ints.same fun _ _ => rfl, h.own, h.bel.trans ((drewN_below wr q).mono h.bel.size)⟩

theorem TuI.push {w w1 wr : World} {lv : Value} {zs : List Nat} (h : TuI w w1 wr lv zs) (z q : Nat) (hl : zs.length < 1000000) :
    ∃ v' w', (Builtin.append_ #[33, 33] 33 #[lv, .slice (some ⟨wr.heap.size, 0, none⟩) 1 1]).run Tryz.prog ((wr.drewN q).alloc (.cells #[.int .i64 (z : Int)] 3)) = .ok v' w' ∧ TuI w w1 w' v' (zs ++ [z]) := by
  have h1 := h.drewN q
  have hb : Below wr.heap.size (wr.drewN q) ((wr.drewN q).alloc (.cells #[.int .i64 (z : Int)] 3)) := (Below.refl wr.heap.size (wr.drewN q)).alloc (Nat.le_refl _) _
  have hi2 : IntsO ((wr.drewN q).alloc (.cells #[.int .i64 (z : Int)] 3)) lv zs := h1.ints.same fun k hk => hb.block k (h1.ints.lt k hk)
  obtain ⟨v', w', hrun, hp, hg, ho⟩ := hi2.push z wr.heap.size ((Blk.new (wr.drewN q) 3 #[.int .i64 (z : Int)]).cell 0) hl
  have hsz := h.bel.size
  have hb2 : Below w1.heap.size w1 ((wr.drewN q).alloc (.cells #[.int .i64 (z : Int)] 3)) := h1.bel.trans (hb.mono hsz)
  refine ⟨v', w', hrun, hp, fun j hj => ?_, hb2.grown hg hb2.size (fun j hj => h.own j hj)⟩
  rcases ho with e | e
  · rw [e] at hj; exact h.own j hj
  · rw [e] at hj
    have e2 := Option.some.inj hj
    rw [World.size_alloc] at e2
    have e3 : (wr.drewN q).heap.size = wr.heap.size := rfl
    omega

set_option maxRecDepth 20000 in
set_option maxHeartbeats 4000000 in
theorem turned_any (a b : Option Addr) (L K : List Nat) (w : World) (ha : PV w a L) (hb : PV w b K) :
    Calls Tryz.prog 99 #[.pointer a, .pointer b] w fun e w' => ∃ lv, e = .returned lv ∧ IntsO w' lv (turnedL L K) ∧ (∀ j, lv.ownBlock = some j → w.heap.size ≤ j) ∧ Below w.heap.size w w' := by
  obtain ⟨hzero, _⟩ := zero_of_info infoMap2
  obtain ⟨Z, hZ⟩ : ∃ Z, row16 none_ = Z := ⟨_, rfl⟩
  rw [hZ] at hzero
  obtain ⟨w1, hw1⟩ : ∃ w1, w.alloc (.cells Z 173) = w1 := ⟨_, rfl⟩
  have hP1 : PM w1 w.heap.size none_ := ⟨by rw [← hw1, hZ]; exact Blk.new _ _ _, none_ok⟩
  have hb1 : Below w.heap.size w w1 := by rw [← hw1]; exact (Below.refl _ _).alloc (Nat.le_refl _) _
  have HB1 := Lib.hid hb1
  have HP1 := Lib.hid hP1
  have HA : Hid (∃ g, PM w1 g L ∧ (a = none ∧ g = w.heap.size ∨ a = some ⟨g, 0, none⟩)) := Lib.hid (by
    rcases ha with ⟨e1, e2⟩ | ⟨g, e1, e2⟩
    · exact ⟨w.heap.size, by rw [e2]; exact hP1, .inl ⟨e1, rfl⟩⟩
    · exact ⟨g, e2.below hb1, .inr e1⟩)
  have HB : Hid (∃ g, PM w1 g K ∧ (b = none ∧ g = w.heap.size ∨ b = some ⟨g, 0, none⟩)) := Lib.hid (by
    rcases hb with ⟨e1, e2⟩ | ⟨g, e1, e2⟩
    · exact ⟨w.heap.size, by rw [e2]; exact hP1, .inl ⟨e1, rfl⟩⟩
    · exact ⟨g, e2.below hb1, .inr e1⟩)
  clear hZ hP1 hb1 ha hb
  go_enter Tryz.func99, Tryz.ntmps99
  go_upto_if 10 with fail
  go_cut [0, 10] from 11 to 11 (fun p q wx => ∃ g, p = .pointer (some ⟨g, 0, none⟩) ∧ Hid (PM w1 g L) ∧ wx = w1)
  case first =>
    obtain ⟨g, hP, hor⟩ := HA.out
    rcases hor with ⟨rfl, rfl⟩ | rfl
    · go_wp2_with fail
      go_meet
      exact ⟨_, rfl, Lib.hid hP, rfl⟩
    · go_wp2_with fail
      go_meet
      exact ⟨_, rfl, Lib.hid hP, rfl⟩
  case rest =>
    obtain ⟨g, rfl, hPL, hwc⟩ := hcut
    obtain rfl : w1 = wc := hwc.symm
    go_upto_if 12 with fail
    go_cut [1, 12] from 13 to 13 (fun p q wx => ∃ g, p = .pointer (some ⟨g, 0, none⟩) ∧ Hid (PM w1 g K) ∧ wx = w1)
    case first =>
      obtain ⟨g, hP, hor⟩ := HB.out
      rcases hor with ⟨rfl, rfl⟩ | rfl
      · go_wp2_with fail
        go_meet
        exact ⟨_, rfl, Lib.hid hP, rfl⟩
      · go_wp2_with fail
        go_meet
        exact ⟨_, rfl, Lib.hid hP, rfl⟩
    case rest =>
      obtain ⟨h, rfl, hPK, hwc⟩ := hcut
      obtain rfl : w1 = wc := hwc.symm
      have HT : Hid (TuI w w1 w1 (.slice none 0 0) (turnedTo L K 0)) := Lib.hid ⟨IntsO.nil _, fun j hj => (by cases hj), Below.refl _ _⟩
      clear HA HB hw1 hzero
      go_wp2_with fail
      go_loopw [6, 7, 8, 13] (fun lv pi pk iv wr => ∃ i : Nat, i ≤ 9 ∧ iv = .int .i64 (i : Int) ∧ Hid (TuI w w1 wr lv (turnedTo L K i))) (fun _ _ _ iv _ => 9 - (intOf iv).toNat)
      case atStart => exact ⟨0, Nat.zero_le _, rfl, HT⟩
      case round =>
        clear HT
        obtain ⟨i, hi, rfl, hI⟩ := hrel
        by_cases hlt : i < 9
        · have hd : decide ((i : Int) < 9) = true := by simp; omega
          obtain ⟨Al, cl, hlv, _, _⟩ := hI.out.ints.shape
          have hlen := turnedTo_len L K i
          obtain ⟨nl, hnl⟩ : ∃ nl, (turnedTo L K i).length = nl := ⟨_, rfl⟩
          rw [hnl] at hlv hlen
          subst hlv
          have HNL := Lib.hid hnl
          clear hnl
          go_wp2_with fail
          go_loopw [6, 8] (fun lv kv wx => ∃ j q : Nat, j ≤ 124 ∧ kv = .int .i64 ((i : Int) * 124 + (j : Int)) ∧ lv = .slice Al nl cl ∧ wx = wr.drewN q ∧ Hid (∀ j', j' < j → L[i * 124 + j']? = K[i * 124 + j']?)) (fun _ kv _ => i * 124 + 124 - (intOf kv).toNat)
          case atStart => exact ⟨0, 0, Nat.zero_le _, by simp, rfl, rfl, Lib.hid (fun j' h => by omega)⟩
          case round =>
            obtain ⟨j, q, hj, rfl, rfl, rfl, hE⟩ := hrel
            by_cases hlt2 : j < 124
            · have hd2 : decide ((i : Int) * 124 + (j : Int) < ((i : Int) + 1) * 124) = true := by simp; omega
              obtain ⟨x, hx⟩ : ∃ x, L[i * 124 + j]? = some x := ⟨_, List.getElem?_eq_getElem (by rw [hPL.out.ok.len]; omega)⟩
              obtain ⟨y, hy⟩ : ∃ y, K[i * 124 + j]? = some y := ⟨_, List.getElem?_eq_getElem (by rw [hPK.out.ok.len]; omega)⟩
              have c1 := (hPL.out.below hI.out.bel).cell hx
              have c2 := (hPK.out.below hI.out.bel).cell hy
              have r1 : (0 : Int) ≤ (i : Int) * 124 + (j : Int) := by omega
              have r2 : ((i : Int) * 124 + (j : Int)).toNat = i * 124 + j := by omega
              have r3 : (i : Int) * 124 + (j : Int) < 1116 := by omega
              by_cases hxy : x = y
              · subst hxy
                have hE2 : Hid (∀ j', j' < j + 1 → L[i * 124 + j']? = K[i * 124 + j']?) := Lib.hid (fun j' h' => by
                  by_cases e : j' = j
                  · subst e; rw [hx, hy]
                  · exact hE.out j' (by omega))
                clear hx hy hE
                go_wp2_with fail
                go_quiet (fail)
                go_wp2_with fail
                go_roundw
                case rel => exact ⟨j + 1, _, by omega, by go_num, rfl, rfl, hE2⟩
                case measure => simp [intOf]; omega
              · have hne : ((x : Int) != (y : Int)) = true := by simp; omega
                have hpn : turnedTo L K (i + 1) = turnedTo L K i ++ [i] := by rw [turnedTo_succ, if_neg (part_ne hlt2 (by rw [hx, hy]; simpa using hxy))]
                have hpush := fun q => hI.out.push i q (by rw [HNL.out]; omega)
                have hsh : ∀ q, ∃ A5 c5 w5, (Builtin.append_ #[33, 33] 33 #[.slice Al nl cl, .slice (some ⟨wr.heap.size, 0, none⟩) 1 1]).run Tryz.prog ((wr.drewN q).alloc (.cells #[.int .i64 (i : Int)] 3)) = .ok (.slice A5 (nl + 1) c5) w5 ∧ TuI w w1 w5 (.slice A5 (nl + 1) c5) (turnedTo L K (i + 1)) := fun q => by
                  obtain ⟨v', w', hrun, hT⟩ := hpush q
                  obtain ⟨A5, c5, e, _, _⟩ := hT.ints.shape
                  rw [List.length_append, HNL.out, List.length_singleton] at e
                  subst e
                  exact ⟨A5, c5, w', hrun, by rw [hpn]; exact hT⟩
                obtain ⟨fA, hA⟩ := Classical.skolem.1 hsh
                obtain ⟨fc, hC⟩ := Classical.skolem.1 hA
                obtain ⟨fw, hW⟩ := Classical.skolem.1 hC
                have hrun := fun q => (hW q).1
                have hT := fun q => (hW q).2
                have HRUN := Lib.hid hrun
                have HT := Lib.hid hT
                clear hx hy hE hpush hrun hT hpn hxy hsh hA hC hW
                go_wp2_with fail
                go_quiet (fail)
                go_wp2_with (at_builtin; refine wpList_app rfl _ _ 33 rfl _ _ _ _ rfl rfl (HRUN.out _) ?_)
                go_roundw
                case rel => exact ⟨i + 1, by omega, by go_num, Lib.hid (HT.out _)⟩
                case measure => simp [intOf]; omega
            · obtain rfl : 124 = j := by omega
              have hd2 : decide ((i : Int) * 124 + ((124 : Nat) : Int) < ((i : Int) + 1) * 124) = false := by simp; omega
              have hI2 : Hid (TuI w w1 (wr.drewN q) (.slice Al nl cl) (turnedTo L K (i + 1))) := Lib.hid (by
                rw [turnedTo_succ, if_pos (part_eq hPL.out.ok hPK.out.ok hlt hE.out)]
                exact hI.out.drewN q)
              go_wp2_with fail
              go_roundw
              case rel => exact ⟨i + 1, by omega, by go_num, hI2⟩
              case measure => simp [intOf]; omega
        · obtain rfl : 9 = i := by omega
          have hd : decide (((9 : Nat) : Int) < 9) = false := by simp
          obtain ⟨Al, cl, hlv, _, _⟩ := hI.out.ints.shape
          go_wp2_with fail
          go_ret
          exact ⟨_, rfl, hI.out.ints, fun j hj => Nat.le_trans HB1.out.size (hI.out.own j hj), HB1.out.trans (hI.out.bel.mono HB1.out.size)⟩
end Go.Proofs.YtolpgpphjnkehaaGreatDoor.Pag
/- pages: Lay. -/
namespace Go.Proofs.YtolpgpphjnkehaaGreatDoor.Pag
set_option maxRecDepth 20000
open Go.RowKit Pgs

theorem Blk.setCells {g : Nat} {t : TypeId} : ∀ (vs : List Value) (o : Nat) (cs : List Value) (w : World), Blk w g t cs.toArray → o + vs.length ≤ cs.length → Blk (w.setCells g o vs) g t (cs.take o ++ vs ++ cs.drop (o + vs.length)).toArray
  | [], o, cs, w, h, _ => by
    simpa [World.setCells] using h
  | v :: r, o, cs, w, h, hl => by
    rw [List.length_cons] at hl
    have h1 := h.set_ o v
    rw [List.setIfInBounds_toArray] at h1
    have ih := Blk.setCells r (o + 1) (cs.set o v) _ h1 (by rw [List.length_set]; omega)
    have e : (cs.set o v).take (o + 1) ++ r ++ (cs.set o v).drop (o + 1 + r.length) = cs.take o ++ (v :: r) ++ cs.drop (o + (v :: r).length) := by
      rw [List.drop_set_of_lt (by omega), List.length_cons, show o + (r.length + 1) = o + 1 + r.length by omega]
      congr 1
      have : (cs.set o v).take (o + 1) = cs.take o ++ [v] := by
        apply List.ext_getElem?
        intro i
        by_cases hi : i < o
        · rw [List.getElem?_take_of_lt (by omega), List.getElem?_set_ne (by omega), List.getElem?_append_left (by rw [List.length_take]; omega), List.getElem?_take_of_lt hi]
        · by_cases hi2 : i = o
          · subst hi2
            rw [List.getElem?_take_of_lt (by omega), List.getElem?_set_self (by omega), List.getElem?_append_right (by rw [List.length_take]; omega), List.length_take, Nat.min_eq_left (by omega), Nat.sub_self]; rfl
          · rw [List.getElem?_eq_none (by rw [List.length_take, List.length_set]; omega), List.getElem?_eq_none (by rw [List.length_append, List.length_take, List.length_singleton]; omega)]
      rw [this, List.append_assoc]; rfl
    rw [e] at ih
    exact ih

theorem setCells_size (g : Nat) : ∀ (vs : List Value) (o : Nat) (w : World), (w.setCells g o vs).heap.size = w.heap.size
  | [], _, _ => rfl
  | v :: r, o, w => by
    rw [World.setCells, setCells_size g r (o + 1)]
    simp [World.setCell]
theorem setCells_ne (g : Nat) {j : Nat} (hj : j ≠ g) : ∀ (vs : List Value) (o : Nat) (w : World), (w.setCells g o vs).heap[j]? = w.heap[j]?
  | [], _, _ => rfl
  | v :: r, o, w => by
    rw [World.setCells, setCells_ne g hj r (o + 1)]
    exact Below.heap_setCell _ _ _ _ hj

/-- 'clear(part)'. -/
theorem run_clear16 (w : World) (g i : Nat) (L : List Nat) (c : Nat) (h : PM w g L) (hi : i < 9) :
    ∃ w', (∀ ty, (Builtin.clear_ #[206] ty #[.slice (some ⟨g, i * 124, none⟩) 124 c]).run Tryz.prog w = .ok (.tuple #[]) w') ∧
      Blk w' g 173 (row16 (L.take (i * 124) ++ List.replicate 124 0 ++ L.drop (i * 124 + 124))) ∧ Off (fun k => k = g) w w' := by
  have hlen := h.ok.len
  refine ⟨_, fun ty => Lib.run_clear_slice w 206 77 ty (.int .u16 0) Tryz.underlying206 (fun _ => by kernel_rfl) rfl rfl g (i * 124) 124 c (by decide) (fun j hj => ?_) (fun j _ => h.blk.frozen _), ?_, ?_⟩
  · have := h.cell (List.getElem?_eq_getElem (show i * 124 + j < L.length by omega))
    rw [this]; rfl
  · have h1 := Blk.setCells (List.replicate 124 (Value.int .u16 0)) (i * 124) (L.map fun (n : Nat) => Value.int .u16 (n : Int)) w h.blk (by rw [List.length_replicate, List.length_map]; omega)
    rw [List.length_replicate] at h1
    have e : row16 (L.take (i * 124) ++ List.replicate 124 0 ++ L.drop (i * 124 + 124)) = ((L.map fun (n : Nat) => Value.int .u16 (n : Int)).take (i * 124) ++ List.replicate 124 (Value.int .u16 0) ++ (L.map fun (n : Nat) => Value.int .u16 (n : Int)).drop (i * 124 + 124)).toArray := by
      unfold row16
      rw [List.map_append, List.map_append, List.map_take, List.map_drop, List.map_replicate]; rfl
    rw [e]; exact h1
  · obtain ⟨a1, a2, a3, _⟩ := setCells_other g (List.replicate 124 (Value.int .u16 0)) (i * 124) w
    exact ⟨a1, a2, a3, Nat.le_of_eq (setCells_size _ _ _ _).symm, fun j _ hj => setCells_ne g hj _ _ _⟩

/-- 'copy(part, said[:n])'. -/
theorem run_copy16 (w : World) (g i s n c cs : Nat) (L : List Nat) (S : List Nat) (h : Blk w g 173 (row16 L)) (hl : L.length = 1116) (hi : i < 9) (t : TypeId) (hS : Blk w s t (row16 S)) (hn : n ≤ 124) (hSl : n ≤ S.length) :
    ∃ w', (∀ ty, (Builtin.copy_ #[206, 206] ty #[.slice (some ⟨g, i * 124, none⟩) 124 c, .slice (some ⟨s, 0, none⟩) n cs]).run Tryz.prog w = .ok (goInt n) w') ∧
      Blk w' g 173 (row16 (L.take (i * 124) ++ S.take n ++ L.drop (i * 124 + n))) ∧ Off (fun k => k = g) w w' := by
  have hsz : (Tryz.prog.info? 77).map (·.size) = some 1 := by kernel_rfl
  have hln : ((S.take n).map fun (n : Nat) => Value.int .u16 (n : Int)).length = n := by rw [List.length_map, List.length_take]; omega
  have hrun := fun ty => run_copy_row (P := Tryz.prog) w 206 206 ty 77 g (i * 124) 124 c ⟨s, 0, none⟩ n cs (row16 L) 173 ((S.take n).map fun (n : Nat) => Value.int .u16 (n : Int))
    Tryz.underlying206 hsz h (by rw [hln]; exact (Nat.min_eq_left hn).symm) (fun j v hj => by
      have ea : (⟨s, 0, none⟩ : Addr).add j = ⟨s, j, none⟩ := by unfold Addr.add; split <;> simp_all
      rw [ea, hS.cell j]
      rw [List.getElem?_map] at hj
      rcases Nat.lt_or_ge j n with h1 | h1
      · rw [List.getElem?_take_of_lt h1] at hj
        unfold row16
        simpa using hj
      · rw [List.getElem?_eq_none (by rw [List.length_take]; omega)] at hj; cases hj) (by rw [hln, row16_size]; omega) (fun v hv => by
      obtain ⟨x, _, rfl⟩ := List.mem_map.1 hv
      rfl)
  simp only [hln] at hrun
  have e : ((row16 L).toList.take (i * 124) ++ ((S.take n).map fun (n : Nat) => Value.int .u16 (n : Int)) ++ (row16 L).toList.drop (i * 124 + n)).toArray = row16 (L.take (i * 124) ++ S.take n ++ L.drop (i * 124 + n)) := by
    unfold row16
    simp only [List.map_append, List.map_take, List.map_drop]
  simp only [e] at hrun
  refine ⟨_, hrun, setRow_heap w g _ _ _ (0, 0) h, rfl, rfl, rfl, ?_, fun j _ hj => ?_⟩
  · unfold World.setRow
    simp
  · unfold World.setRow
    simp only [Array.getElem?_modify]
    rw [if_neg (Ne.symm hj)]

set_option maxRecDepth 20000 in
set_option maxHeartbeats 1000000 in
theorem lay_nil (i : Int) (A : Option Addr) (n c : Nat) (w : World) : Calls Tryz.prog 116 #[.pointer none, .int .i64 i, .slice A n c] w fun e w' => e = .returned (.bool false) ∧ w = w' := by
  go_enter Tryz.func116, Tryz.ntmps116
  go_wp2_with fail
  go_ret
  exact ⟨rfl, rfl⟩
set_option maxRecDepth 20000 in
set_option maxHeartbeats 1000000 in
theorem lay_no (g : Nat) (i : Int) (A : Option Addr) (n c : Nat) (w : World) (h : ¬ (0 ≤ i ∧ i < 9)) : Calls Tryz.prog 116 #[.pointer (some ⟨g, 0, none⟩), .int .i64 i, .slice A n c] w fun e w' => e = .returned (.bool false) ∧ w = w' := by
  have h1 := isPart_any i w
  rw [decide_eq_false h] at h1
  have H1 := Lib.hid h1
  clear h1 h
  go_enter Tryz.func116, Tryz.ntmps116
  go_wp2_with (go_at_call 157; refine Calls.mono H1.out ?_; rintro e w' ⟨rfl, rfl⟩)
  go_ret
  exact ⟨rfl, rfl⟩
set_option maxRecDepth 20000 in
set_option maxHeartbeats 1000000 in
theorem lay_long (g i : Nat) (A : Option Addr) (n c : Nat) (w : World) (hi : i < 9) (hn : 248 < n) : Calls Tryz.prog 116 #[.pointer (some ⟨g, 0, none⟩), .int .i64 (i : Int), .slice A n c] w fun e w' => e = .returned (.bool false) ∧ w = w' := by
  have h1 := isPart_any (i : Int) w
  rw [decide_eq_true (by omega)] at h1
  have H1 := Lib.hid h1
  have hd : decide ((n : Int) > 248) = true := by simp; omega
  clear h1 hi
  go_enter Tryz.func116, Tryz.ntmps116
  go_wp2_with (go_at_call 157; refine Calls.mono H1.out ?_; rintro e w' ⟨rfl, rfl⟩)
  go_ret
  exact ⟨rfl, rfl⟩
set_option maxRecDepth 20000 in
set_option maxHeartbeats 1000000 in
theorem lay_odd (g i : Nat) (A : Option Addr) (n c : Nat) (w : World) (hi : i < 9) (hn : n ≤ 248) (ho : n % 2 ≠ 0) : Calls Tryz.prog 116 #[.pointer (some ⟨g, 0, none⟩), .int .i64 (i : Int), .slice A n c] w fun e w' => e = .returned (.bool false) ∧ w = w' := by
  have h1 := isPart_any (i : Int) w
  rw [decide_eq_true (by omega)] at h1
  have H1 := Lib.hid h1
  have hd : decide ((n : Int) > 248) = false := by simp; omega
  have ht : (n : Int).tmod 2 = 1 := by rw [Int.tmod_eq_emod_of_nonneg (by omega)]; omega
  clear h1 hi
  go_enter Tryz.func116, Tryz.ntmps116
  go_wp2_with (go_at_call 157; refine Calls.mono H1.out ?_; rintro e w' ⟨rfl, rfl⟩)
  go_ret
  exact ⟨rfl, rfl⟩
end Go.Proofs.YtolpgpphjnkehaaGreatDoor.Pag
/- pages: what Lay lays, apart from memory. -/
namespace Go.Proofs.YtolpgpphjnkehaaGreatDoor.Pag
set_option maxRecDepth 20000
open Go.RowKit Pgs

namespace Pgs
/-- The numbers that were read when k of them were. -/
def sf (bs : List UInt8) (k : Nat) : List Nat := (said bs).take k ++ List.replicate (124 - k) 0
theorem said_len (bs : List UInt8) : (said bs).length = bs.length / 2 := by unfold said; rw [List.length_map, List.length_range]
theorem sf_zero (bs : List UInt8) : sf bs 0 = List.replicate 124 0 := by unfold sf; rw [List.take_zero, List.nil_append]
theorem sf_len (bs : List UInt8) (k : Nat) (hk : k ≤ bs.length / 2) (h : k ≤ 124) : (sf bs k).length = 124 := by
  unfold sf
  rw [List.length_append, List.length_take, said_len, List.length_replicate]; omega
theorem said_get (bs : List UInt8) {k n : Nat} (hn : bs.length = 2 * n) (hk : k < n) : (said bs)[k]? = some (leN (fieldOf bs (2 * k) 2)) := by
  have e : fieldOf bs (2 * k) 2 = [bs.getD (2 * k) 0, bs.getD (2 * k + 1) 0] := by
    unfold fieldOf
    apply List.ext_getElem?
    intro j
    rcases j with _ | _ | j
    · rw [List.getElem?_take_of_lt (by omega), List.getElem?_drop, Nat.add_zero, List.getD_eq_getElem?_getD, List.getElem?_eq_getElem (show 2 * k < bs.length by omega)]; rfl
    · rw [List.getElem?_take_of_lt (by omega), List.getElem?_drop, List.getD_eq_getElem?_getD, List.getD_eq_getElem?_getD, List.getElem?_eq_getElem (show 2 * k + (0 + 1) < bs.length by omega)]; rfl
    · rw [List.getElem?_eq_none (by rw [List.length_take]; omega), List.getElem?_eq_none (by simp)]
  unfold said
  rw [List.getElem?_map, List.getElem?_range (by omega), Option.map_some, e]
  simp [leN]
theorem said_lt (bs : List UInt8) {k x : Nat} (h : (said bs)[k]? = some x) : x < 65536 := by
  unfold said at h
  rw [List.getElem?_map] at h
  obtain ⟨j, _, e⟩ := Option.map_eq_some_iff.1 h
  have h1 := (bs.getD (2 * j) 0).toNat_lt
  have h2 := (bs.getD (2 * j + 1) 0).toNat_lt
  omega
theorem sf_set (bs : List UInt8) {k x : Nat} (hk : k < 124) (hx : (said bs)[k]? = some x) : (sf bs k).set k x = sf bs (k + 1) := by
  have hkl := (List.getElem?_eq_some_iff.1 hx).1
  have ht : (said bs).take (k + 1) = (said bs).take k ++ [x] := by
    rw [List.take_succ_eq_append_getElem hkl, (List.getElem?_eq_some_iff.1 hx).2]
  unfold sf
  rw [ht, show 124 - k = (124 - (k + 1)) + 1 by omega, List.replicate_succ, List.set_append_right _ _ (by rw [List.length_take]; omega), List.length_take, Nat.min_eq_left (by omega), Nat.sub_self, List.set_cons_zero, List.append_assoc]
  rfl
theorem sf_get (bs : List UInt8) {k n : Nat} (hl : bs.length = 2 * n) (hk : k < n) : (sf bs n)[k]? = (said bs)[k]? := by
  unfold sf
  rw [List.getElem?_append_left (by rw [List.length_take, said_len]; omega), List.getElem?_take_of_lt hk]
theorem sf_take (bs : List UInt8) {n : Nat} (hl : bs.length = 2 * n) : (sf bs n).take n = said bs := by
  unfold sf
  rw [List.take_append_of_le_length (by rw [List.length_take, said_len]; omega), List.take_of_length_le (by rw [List.length_take]; omega), List.take_of_length_le (by rw [said_len]; omega)]
theorem layB_page {bs : List UInt8} {i k n : Nat} (hl : bs.length = 2 * n) (hk : k < n) {x : Nat} (hx : (said bs)[k]? = some x) (h0 : x ≠ 0) (hp : ¬ i * 124 + k < 1024) : layB (i : Int) bs = false := by
  unfold layB
  have : decide (∀ k, k < bs.length / 2 → (said bs).getD k 0 ≠ 0 → (i : Int).toNat * 124 + k < 1024) = false := by
    apply decide_eq_false
    intro h
    exact hp (h k (by omega) (by rw [List.getD_eq_getElem?_getD, hx]; exact h0))
  rw [this, Bool.and_false, Bool.false_and]
theorem layB_end {bs : List UInt8} {i n : Nat} (hl : bs.length = 2 * n) (hn : 0 < n) (hx : (said bs)[n - 1]? = some 0) : layB (i : Int) bs = false := by
  unfold layB
  have : decide (bs.length = 0 ∨ (said bs).getD (bs.length / 2 - 1) 0 ≠ 0) = false := by
    apply decide_eq_false
    rintro (h | h)
    · omega
    · apply h
      rw [show bs.length / 2 - 1 = n - 1 by omega, List.getD_eq_getElem?_getD, hx]; rfl
  rw [this, Bool.and_false]
theorem layB_true {bs : List UInt8} {i n : Nat} (hi : i < 9) (hl : bs.length = 2 * n) (hn : n ≤ 124) (hp : ∀ k x, k < n → (said bs)[k]? = some x → x ≠ 0 → i * 124 + k < 1024) (he : n = 0 ∨ ∃ x, (said bs)[n - 1]? = some x ∧ x ≠ 0) : layB (i : Int) bs = true := by
  unfold layB
  simp only [Bool.and_eq_true, decide_eq_true_eq]
  refine ⟨⟨⟨⟨⟨by omega, by omega⟩, by omega⟩, by omega⟩, fun k hk h0 => ?_⟩, ?_⟩
  · have hkl : k < (said bs).length := by rw [said_len]; exact hk
    rw [List.getD_eq_getElem?_getD, List.getElem?_eq_getElem hkl] at h0
    exact hp k _ (by omega) (List.getElem?_eq_getElem hkl) h0
  · rcases he with e | ⟨x, e, h0⟩
    · left; omega
    · right
      rw [show bs.length / 2 - 1 = n - 1 by omega, List.getD_eq_getElem?_getD, e]; exact h0
theorem layL_eq {L : List Nat} {bs : List UInt8} {i n : Nat} (hL : L.length = 1116) (hi : i < 9) (hl : bs.length = 2 * n) (hn : n ≤ 124) (hb : layB (i : Int) bs = true) :
    (L.take (i * 124) ++ List.replicate 124 0 ++ L.drop (i * 124 + 124)).take (i * 124) ++ (sf bs n).take n ++ (L.take (i * 124) ++ List.replicate 124 0 ++ L.drop (i * 124 + 124)).drop (i * 124 + n) = layL L (i : Int) bs := by
  have h1 : (L.take (i * 124)).length = i * 124 := by rw [List.length_take]; omega
  unfold layL
  rw [if_pos hb, sf_take bs hl, Int.toNat_natCast, show bs.length / 2 = n by omega, List.append_assoc (L.take (i * 124)) (List.replicate 124 0)]
  rw [List.take_append_of_le_length (by omega), List.take_of_length_le (by omega), List.drop_append, h1, List.drop_of_length_le (by omega), List.nil_append, Nat.add_sub_cancel_left, List.drop_append_of_le_length (by rw [List.length_replicate]; exact hn), List.drop_replicate]
  simp only [List.append_assoc]
theorem layL_ok {L : List Nat} (h : Ok L) (i : Int) (bs : List UInt8) : Ok (layL L i bs) := by
  unfold layL
  split
  · rename_i hb
    unfold layB at hb
    simp only [Bool.and_eq_true, decide_eq_true_eq] at hb
    obtain ⟨⟨⟨⟨hi, hl⟩, hm⟩, hp⟩, he⟩ := hb
    obtain ⟨j, rfl⟩ : ∃ j : Nat, i = j := ⟨i.toNat, by omega⟩
    rw [Int.toNat_natCast] at *
    have hL := h.len
    have hs := said_len bs
    have h1 : (L.take (j * 124)).length = j * 124 := by rw [List.length_take]; omega
    have h2 : (said bs ++ List.replicate (124 - bs.length / 2) 0).length = 124 := by rw [List.length_append, List.length_replicate, hs]; omega
    have hg : ∀ k, (L.take (j * 124) ++ (said bs ++ List.replicate (124 - bs.length / 2) 0) ++ L.drop (j * 124 + 124))[k]? = if k < j * 124 then L[k]? else if k < j * 124 + 124 then (said bs ++ List.replicate (124 - bs.length / 2) 0)[k - j * 124]? else L[k]? := fun k => by
      by_cases e1 : k < j * 124
      · rw [if_pos e1, List.getElem?_append_left (by rw [List.length_append]; omega), List.getElem?_append_left (by omega), List.getElem?_take_of_lt e1]
      · rw [if_neg e1]
        by_cases e2 : k < j * 124 + 124
        · rw [if_pos e2, List.getElem?_append_left (by rw [List.length_append]; omega), List.getElem?_append_right (by omega), h1]
        · rw [if_neg e2, List.getElem?_append_right (by rw [List.length_append]; omega), List.length_append, h1, h2, List.getElem?_drop, show j * 124 + 124 + (k - (j * 124 + 124)) = k by omega]
    refine ⟨by rw [List.length_append, List.length_append, List.length_drop, h1, h2]; omega, fun k x hx => ?_, fun k hk => ?_⟩
    · rw [hg] at hx
      split at hx
      · exact h.lt k x hx
      · split at hx
        · by_cases e : k - j * 124 < (said bs).length
          · rw [List.getElem?_append_left e] at hx; exact said_lt bs hx
          · rw [List.getElem?_append_right (by omega)] at hx
            have := List.mem_of_getElem? hx
            rw [List.mem_replicate] at this; omega
        · exact h.lt k x hx
    · rw [List.getD_eq_getElem?_getD, hg]
      split
      · rw [← List.getD_eq_getElem?_getD]; exact h.end_ k hk
      · split
        · by_cases e : k - j * 124 < (said bs).length
          · rw [List.getElem?_append_left e, ← List.getD_eq_getElem?_getD]
            by_cases e0 : (said bs).getD (k - j * 124) 0 = 0
            · exact e0
            · have := hp (k - j * 124) (by omega) e0
              omega
          · rw [List.getElem?_append_right (by omega), List.getElem?_replicate]
            split <;> rfl
        · rw [← List.getD_eq_getElem?_getD]; exact h.end_ k hk
  · exact h
end Pgs
end Go.Proofs.YtolpgpphjnkehaaGreatDoor.Pag
/- pages: Lay, of an even row. -/
namespace Go.Proofs.YtolpgpphjnkehaaGreatDoor.Pag
set_option maxRecDepth 20000
open Go.RowKit Pgs

theorem infoSaid : (Tryz.prog.info? 214).map (fun i => (i.zero, i.size)) = some (some (.agg (row16 (List.replicate 124 0))), 124) := by kernel_rfl
theorem arrayLen124 : Tryz.prog.arrayLen 214 = 124 := by kernel_rfl
theorem slice_said (s n : Nat) (hn : n ≤ 124) (w : World) :
    (Instr.sliceAt 214 (.pointer (some ⟨s, 0, none⟩)) none (some (.int .i64 (n : Int))) none).run Tryz.prog w = .ok (.slice (some ⟨s, 0, none⟩) n 124) w := by
  have ht : Tryz.prog.underlying 214 = some (.array (Tryz.prog.arrayLen 214) (Tryz.prog.elem 214)) := by kernel_rfl
  have hs : (sizeOf (Tryz.prog.elem 214)).run Tryz.prog w = .ok 1 w := by kernel_rfl
  rw [run_sliceAt_array_h w 214 ⟨s, 0, none⟩ ht .i64 _ (by omega) (by rw [arrayLen124]; omega), hs]
  have ea : (⟨s, 0, none⟩ : Addr).add 0 = ⟨s, 0, none⟩ := by unfold Addr.add; split <;> simp_all
  simp only [Result.andThen, slicedAt, arrayLen124, Int.toNat_natCast, Nat.zero_mul, ea, Nat.sub_zero, reduceCtorEq, ite_self]
/-- While the numbers are read. -/
structure LyI (w wr : World) (bs : List UInt8) (k : Nat) : Prop where
  blk : Blk wr w.heap.size 214 (row16 (sf bs k))
  bel : Below w.heap.size w wr
theorem sf_at (bs : List UInt8) {k : Nat} (hk : k < 124) (h : k ≤ bs.length / 2) : (sf bs k)[k]? = some 0 := by
  unfold sf
  rw [List.getElem?_append_right (by rw [List.length_take]; omega), List.length_take, said_len, Nat.min_eq_left h, Nat.sub_self, List.getElem?_replicate, if_pos (by omega)]
theorem LyI.cell {w wr W : World} {bs : List UInt8} {k : Nat} (h : LyI w wr bs k) (hk : k < 124) (hl : k ≤ bs.length / 2) (hb : Below wr.heap.size wr W) : W.cell? ⟨w.heap.size, k, none⟩ = some (.int .u16 0) ∧ W.frozen? ⟨w.heap.size, k, none⟩ = false :=
  ⟨((h.blk.below hb h.blk.lt).cell k).trans (row16_get (sf_at bs hk hl)), (h.blk.below hb h.blk.lt).frozen k⟩
theorem LyI.step {w wr w2 : World} {bs : List UInt8} {k x : Nat} (h : LyI w wr bs k) (hb : Below wr.heap.size wr w2) (hk : k < 124) (hx : (said bs)[k]? = some x) : LyI w (w2.setCell ⟨w.heap.size, k, none⟩ (.int .u16 (x : Int))) bs (k + 1) := by
  have h1 := (h.blk.below hb h.blk.lt).set_ k (.int .u16 (x : Int))
  rw [row16_set, sf_set bs hk hx] at h1
  exact ⟨h1, (h.bel.trans (hb.mono h.bel.size)).setCell (p := ⟨w.heap.size, k, none⟩) (Nat.le_refl _) _⟩

set_option maxRecDepth 20000 in
set_option maxHeartbeats 4000000 in
theorem lay_even (g i n c : Nat) (A : Option Addr) (L : List Nat) (bs : List UInt8) (w : World) (h : PM w g L) (hi : i < 9) (hn : n ≤ 124) (hl : bs.length = 2 * n) (hA : Bytes w A bs) :
    Calls Tryz.prog 116 #[.pointer (some ⟨g, 0, none⟩), .int .i64 (i : Int), .slice A (2 * n) c] w fun e w' => e = .returned (.bool (layB (i : Int) bs)) ∧ Stp w w' g (layL L (i : Int) bs) := by
  have h1 := isPart_any (i : Int) w
  rw [decide_eq_true (by omega)] at h1
  have H1 := Lib.hid h1
  have HPM := Lib.hid h
  have HA := Lib.hid hA
  have HL := Lib.hid hl
  obtain ⟨hzero, _⟩ := zero_of_info infoSaid
  obtain ⟨Z, hZ⟩ : ∃ Z, row16 (List.replicate 124 0) = Z := ⟨_, rfl⟩
  rw [hZ] at hzero
  obtain ⟨w1, hw1⟩ : ∃ w1, w.alloc (.cells Z 214) = w1 := ⟨_, rfl⟩
  have HI0 : Hid (LyI w w1 bs 0) := Lib.hid (by rw [← hw1, ← hZ, ← sf_zero bs]; exact ⟨Blk.new _ _ _, (Below.refl _ _).alloc (Nat.le_refl _) _⟩)
  have hd : decide (((2 * n : Nat) : Int) > 248) = false := by simp; omega
  have ht : ((2 * n : Nat) : Int).tmod 2 = 0 := by rw [Int.tmod_eq_emod_of_nonneg (by omega)]; omega
  have ht2 : ((2 * n : Nat) : Int).tdiv 2 = n := by rw [Int.tdiv_eq_ediv_of_nonneg (by omega)]; omega
  obtain ⟨m, hm⟩ : ∃ m : Nat, 2 * n = m := ⟨_, rfl⟩
  rw [hm] at hd ht ht2
  have HM := Lib.hid hm
  rw [show (Value.slice A (2 * n) c) = Value.slice A m c by rw [hm]]
  have HF : Hid (layB (i : Int) bs = false → ∀ w', Below w.heap.size w w' → Stp w w' g (layL L (i : Int) bs)) := Lib.hid (fun hb w' hb' => by
    have : layL L (i : Int) bs = L := by unfold layL; rw [hb]; rfl
    rw [this]; exact ⟨h.below hb', Off.of_new hb' _⟩)
  clear h1 h hA hl hm hZ
  go_enter Tryz.func116, Tryz.ntmps116
  go_wp2_with (go_at_call 157; refine Calls.mono H1.out ?_; rintro e w' ⟨rfl, rfl⟩)
  go_loopw [9, 10, 11, 35] (fun _ _ _ iv wr => ∃ k : Nat, k ≤ n ∧ iv = .int .i64 (k : Int) ∧ Hid (LyI w wr bs k ∧ ∀ j x, j < k → (said bs)[j]? = some x → x ≠ 0 → i * 124 + j < 1024)) (fun _ _ _ iv _ => n - (intOf iv).toNat)
  case atStart => exact ⟨0, Nat.zero_le _, rfl, Lib.hid ⟨HI0.out, fun j x h => by omega⟩⟩
  case round =>
    clear HI0
    obtain ⟨k, hk, rfl, hI⟩ := hrel
    by_cases hlt : k < n
    · have hdk : decide ((k : Int) < (n : Int)) = true := by simpa using hlt
      obtain ⟨x, hx⟩ : ∃ x, leN (fieldOf bs (2 * k) 2) = x := ⟨_, rfl⟩
      have hsx := said_get bs HL.out hlt
      rw [hx] at hsx
      have hx6 := said_lt bs hsx
      have hget := get_okL A m c (2 * k) 2 bs wr (by rw [HL.out, HM.out]) rfl (by have := HM.out; omega) (by have := HM.out; unfold maxLen; omega) (HA.out.below hI.out.1.bel)
      rw [hx] at hget
      have HG := Lib.hid hget
      have HSX := Lib.hid hsx
      have ei : ((2 * k : Nat) : Int) = 2 * (k : Int) := by omega
      rw [ei] at HG
      have hwx : IntKind.u16.wrap (x : Int) = x := by rw [IntKind.wrap_u16]; omega
      have hk124 : (k : Int) < 124 := by omega
      have HC : Hid (∀ W, Below wr.heap.size wr W → W.cell? ⟨w.heap.size, k, none⟩ = some (.int .u16 0) ∧ W.frozen? ⟨w.heap.size, k, none⟩ = false) := Lib.hid (fun W hW => hI.out.1.cell (by omega) (by rw [HL.out]; omega) hW)
      have HQ : Hid (∀ W, Calls Tryz.prog 143 #[.int .i64 ((i : Int) * 124 + (k : Int))] W fun e w' => e = .returned (.bool (decide (i * 124 + k < 1024))) ∧ W = w') := Lib.hid (fun W => (isPage_any ((i : Int) * 124 + (k : Int)) W).mono (by
        rintro e w' ⟨rfl, rfl⟩
        refine ⟨?_, rfl⟩
        congr 3
        apply propext; omega))
      clear hx hsx hget
      by_cases hx0 : x = 0
      · subst hx0
        have HN : Hid (∀ W, Below wr.heap.size wr W → LyI w (W.setCell ⟨w.heap.size, k, none⟩ (.int .u16 0)) bs (k + 1) ∧ ∀ j x, j < k + 1 → (said bs)[j]? = some x → x ≠ 0 → i * 124 + j < 1024) := Lib.hid (fun W hW => ⟨hI.out.1.step hW (by omega) HSX.out, fun j x hj hjx h0 => by
          by_cases e : j = k
          · subst e; rw [HSX.out] at hjx; injection hjx with e2; exact absurd e2.symm h0
          · exact hI.out.2 j x (by omega) hjx h0⟩)
        clear hI HSX
        go_wp2_with (go_at_call 146; refine Calls.mono HG.out ?_; rintro e w5 ⟨rfl, hb5⟩; have HB5 := Lib.hid hb5; obtain ⟨c5, f5⟩ := HC.out _ hb5; clear hb5)
        go_roundw
        case rel => exact ⟨k + 1, by omega, by go_num, Lib.hid (HN.out _ HB5.out)⟩
        case measure => simp [intOf]; omega
      · by_cases hp : i * 124 + k < 1024
        · rw [decide_eq_true hp] at HQ
          have HN : Hid (∀ W, Below wr.heap.size wr W → LyI w (W.setCell ⟨w.heap.size, k, none⟩ (.int .u16 (x : Int))) bs (k + 1) ∧ ∀ j x, j < k + 1 → (said bs)[j]? = some x → x ≠ 0 → i * 124 + j < 1024) := Lib.hid (fun W hW => ⟨hI.out.1.step hW (by omega) HSX.out, fun j x hj hjx h0 => by
            by_cases e : j = k
            · subst e; exact hp
            · exact hI.out.2 j x (by omega) hjx h0⟩)
          clear hI HSX
          go_wp2_with (first
            | (go_at_call 146; refine Calls.mono HG.out ?_; rintro e w5 ⟨rfl, hb5⟩; have HB5 := Lib.hid hb5; obtain ⟨c5, f5⟩ := HC.out _ hb5; clear hb5)
            | (go_at_call 143; refine Calls.mono (HQ.out _) ?_; rintro e w' ⟨rfl, rfl⟩))
          go_roundw
          case rel => exact ⟨k + 1, by omega, by go_num, Lib.hid (HN.out _ HB5.out)⟩
          case measure => simp [intOf]; omega
        · rw [decide_eq_false hp] at HQ
          have HLB : Hid (layB (i : Int) bs = false) := Lib.hid (layB_page HL.out hlt HSX.out hx0 hp)
          have HIB := Lib.hid hI.out.1.bel
          clear hI HSX
          go_wp2_with (first
            | (go_at_call 146; refine Calls.mono HG.out ?_; rintro e w5 ⟨rfl, hb5⟩; have HB5 := Lib.hid hb5; obtain ⟨c5, f5⟩ := HC.out _ hb5; clear hb5)
            | (go_at_call 143; refine Calls.mono (HQ.out _) ?_; rintro e w' ⟨rfl, rfl⟩))
          go_ret
          exact ⟨by rw [HLB.out]; rfl, HF.out HLB.out _ (HIB.out.trans (HB5.out.mono HIB.out.size))⟩
    · obtain rfl : n = k := by omega
      have hdk : decide ((n : Int) < (n : Int)) = false := by simp
      have hlen := HL.out
      have hOk := HPM.out.ok
      have hP := HPM.out.below hI.out.1.bel
      have hgl := HPM.out.blk.lt
      have hsl := slice_part g i hi wr
      obtain ⟨w2, hcl, hB2, hO2⟩ := run_clear16 wr g i L (1116 - i * 124) hP hi
      have hS2 : Blk w2 w.heap.size 214 (row16 (sf bs n)) := (hO2.block _ hI.out.1.blk.lt (by omega)).trans hI.out.1.blk
      have hs2 := slice_said w.heap.size n hn w2
      obtain ⟨w3, hcp, hB3, hO3⟩ := run_copy16 w2 g i w.heap.size n (1116 - i * 124) 124 _ (sf bs n) hB2 (by simp [hOk.len]; omega) hi _ hS2 hn (by rw [sf_len bs n (by omega) hn]; exact hn)
      have HE0 : Hid (layB (i : Int) bs = true → Stp w w3 g (layL L (i : Int) bs)) := Lib.hid (fun hb => by
        rw [layL_eq hOk.len hi hlen hn hb] at hB3
        exact ⟨⟨hB3, layL_ok hOk _ _⟩, ((Off.of_new hI.out.1.bel _).trans hO2).trans hO3⟩)
      have HPG := Lib.hid hI.out.2
      have HIB := Lib.hid hI.out.1.bel
      have q1 : (0 : Int) ≤ (i : Int) * 124 := by omega
      have q2 : ((i : Int) * 124).toNat = i * 124 := by omega
      have q3 : (i : Int) * 124 ≤ ((i : Int) + 1) * 124 := by omega
      have q4 : ((i : Int) + 1) * 124 ≤ 1116 := by omega
      have q5 : (((i : Int) + 1) * 124).toNat = i * 124 + 124 := by omega
      have q7 : (0 : Int) ≤ ((i : Int) + 1) * 124 := by omega
      have hn2 : (n : Int) ≤ 124 := by omega
      clear hB2 hO2 hS2 hB3 hO3
      by_cases hn0 : n = 0
      · have HB : Hid (layB (i : Int) bs = true) := Lib.hid (layB_true hi hlen hn (fun k x h => by omega) (.inl hn0))
        have HE := Lib.hid (HE0.out HB.out)
        subst hn0
        clear hI hP hOk hgl hlen HE0
        go_wp2_with fail
        go_ret
        exact ⟨by rw [HB.out]; rfl, HE.out⟩
      · have hnp : decide ((n : Int) > 0) = true := by simp; omega
        obtain ⟨q, hq⟩ : ∃ q, n = q + 1 := ⟨n - 1, by omega⟩
        have hqn : q < n := by omega
        have hn1 : n - 1 = q := by omega
        have hsx := said_get bs hlen hqn
        obtain ⟨x, hx⟩ : ∃ x, leN (fieldOf bs (2 * q) 2) = x := ⟨_, rfl⟩
        rw [hx] at hsx
        have c7 : wr.cell? ⟨w.heap.size, q, none⟩ = some (.int .u16 (x : Int)) := (hI.out.1.blk.cell q).trans (row16_get (by rw [sf_get bs hlen hqn]; exact hsx))
        have e7 : (n : Int) - 1 = (q : Int) := by omega
        have e8 : (0 : Int) < (n : Int) := by omega
        have e9 : (q : Int) < 124 := by omega
        clear hq
        by_cases hx0 : x = 0
        · subst hx0
          have HB : Hid (layB (i : Int) bs = false) := Lib.hid (layB_end hlen (by omega) (by rw [hn1]; exact hsx))
          clear hI hP hOk hgl hlen HE0 hx hsx hcl hcp hsl hs2
          go_wp2_with fail
          go_ret
          exact ⟨by rw [HB.out]; rfl, HF.out HB.out _ HIB.out⟩
        · have HB : Hid (layB (i : Int) bs = true) := Lib.hid (layB_true hi hlen hn (fun k x h hkx h0 => HPG.out k x h hkx h0) (.inr ⟨x, by rw [hn1]; exact hsx, hx0⟩))
          have HE := Lib.hid (HE0.out HB.out)
          clear hI hP hOk hgl hlen HE0 hx hsx
          go_wp2_with fail
          go_ret
          exact ⟨by rw [HB.out]; rfl, HE.out⟩
end Go.Proofs.YtolpgpphjnkehaaGreatDoor.Pag
/- pages: Lay, whole. -/
namespace Go.Proofs.YtolpgpphjnkehaaGreatDoor.Pag
set_option maxRecDepth 20000
open Go.RowKit Pgs
theorem lay_some (g len c : Nat) (i : Int) (A : Option Addr) (L : List Nat) (bs : List UInt8) (w : World) (h : PM w g L) (hl : bs.length = len) (hA : Bytes w A bs) :
    Calls Tryz.prog 116 #[.pointer (some ⟨g, 0, none⟩), .int .i64 i, .slice A len c] w fun e w' => e = .returned (.bool (layB i bs)) ∧ Stp w w' g (layL L i bs) := by
  have no : layB i bs = false → Stp w w g (layL L i bs) := fun hb => by
    have : layL L i bs = L := by unfold layL; rw [hb]; rfl
    rw [this]; exact ⟨h, Off.refl _ _⟩
  by_cases hi : 0 ≤ i ∧ i < 9
  · obtain ⟨j, rfl⟩ : ∃ j : Nat, i = j := ⟨i.toNat, by omega⟩
    by_cases h1 : len ≤ 248
    · by_cases h2 : len % 2 = 0
      · obtain ⟨n, rfl⟩ : ∃ n, len = 2 * n := ⟨len / 2, by omega⟩
        exact lay_even g j n c A L bs w h (by omega) (by omega) hl hA
      · have hb : layB (j : Int) bs = false := by
          unfold layB
          rw [decide_eq_false (p := bs.length % 2 = 0) (by omega), Bool.and_false, Bool.false_and, Bool.false_and]
        refine (lay_odd g j A len c w (by omega) h1 h2).mono ?_
        rintro e w' ⟨rfl, rfl⟩
        exact ⟨by rw [hb], no hb⟩
    · have hb : layB (j : Int) bs = false := by
        unfold layB
        rw [decide_eq_false (p := bs.length ≤ 248) (by omega), Bool.and_false, Bool.false_and, Bool.false_and, Bool.false_and]
      refine (lay_long g j A len c w (by omega) (by omega)).mono ?_
      rintro e w' ⟨rfl, rfl⟩
      exact ⟨by rw [hb], no hb⟩
  · have hb : layB i bs = false := by
      unfold layB
      rw [decide_eq_false hi, Bool.false_and, Bool.false_and, Bool.false_and, Bool.false_and]
    refine (lay_no g i A len c w hi).mono ?_
    rintro e w' ⟨rfl, rfl⟩
    exact ⟨by rw [hb], no hb⟩
end Go.Proofs.YtolpgpphjnkehaaGreatDoor.Pag
/- pages: Pages, Sectors of a map that is none. -/
namespace Go.Proofs.YtolpgpphjnkehaaGreatDoor.Pag
set_option maxRecDepth 20000
open Go.RowKit Go.Shelf Pgs
attribute [local go_sem] Oper.semAt_some
theorem pagesL_none : pagesL none_ = [] := by
  unfold pagesL
  rw [List.filter_eq_nil_iff]
  intro i hi
  have : none_.getD i 0 = 0 := by
    unfold none_
    rw [List.getD_eq_getElem?_getD, List.getElem?_replicate]
    split <;> rfl
  rw [this]; simp
/-- The iterator's box, without a map. -/
def ENil (Bp : Nat) (W : World) : Prop := W.cell? ⟨Bp, 0, none⟩ = some (.pointer none)
theorem enil_t {Bp : Nat} {X Y Z : World} (h : ENil Bp X → ENil Bp Y) (k : ENil Bp Y → ENil Bp Z) : ENil Bp X → ENil Bp Z := fun x => k (h x)
theorem enil_b {Bp : Nat} (W : World) (l : Nat) (o o' : Obj) (h : W.heap[l]? = some o) (hc : o.isCells = false) : ENil Bp W → ENil Bp (W.putObj l o') := fun h0 =>
  cell_kept h0 (grownBy_putObj' W l o') (fun r e => by cases e; exact ⟨o, h, hc⟩)
set_option maxHeartbeats 1000000 in
theorem each1n_in (m : Nat) (l Bp : Nat) (J Jx : List (Slot 0) → World → Prop) (W : World) (hbx : W.cell? ⟨Bp, 0, none⟩ = some (.pointer none)) (h0 : J [] W) :
    CallsIn Fence.wide m Tryz.prog 176 #[.func (.yield l) #[] #[], .pointer (some ⟨Bp, 0, none⟩)] W fun e W' => (∃ v, e = .returned v) ∧
      ((∃ ys, Come 0 ys ∧ J ys W') ∨ (∃ pre, Come pre.length pre ∧ Jx pre W')) := by
  have HST := Lib.hid h0
  clear h0
  refine callsIn_of_wp Tryz.func176 rfl trivial ?_ rfl
  simp only [Tryz.ntmps176, List.size_toArray, List.length_cons, List.length_nil, Nat.reduceAdd, Nat.reduceSub, Array.replicate_succ, Array.replicate_zero, List.push_toArray, List.append_toArray, List.nil_append, List.cons_append]
  gi_wp2_with fail
  refine bodyPost_ret (results_none rfl _ _ _) rfl ?_
  exact ⟨⟨_, rfl⟩, .inl ⟨[], Come.nil, HST.out⟩⟩
theorem each1n_stops (m : Nat) (Bp : Nat) (w : World) (hI : ENil Bp w) :
    SeqStopsK Fence.wide m Tryz.prog 176 #[.pointer (some ⟨Bp, 0, none⟩)] (epair none_ (n := 0))
      (fun W W' => ENil Bp W → ENil Bp W') (Come 0) (fun pre => Come pre.length pre) 0 w := fun l J Jx W hW _ _ _ h0 => by
  have hI' : ENil Bp W := (hW.cell (World.block_lt_of_cell? w _ hI)).trans hI
  exact each1n_in m l Bp J Jx W hI' h0

set_option maxRecDepth 100000 in
set_option maxHeartbeats 1000000 in
theorem pages_nil (w : World) :
    Calls Tryz.prog 78 #[.pointer none] w fun e W' => ∃ sv, e = .returned sv ∧ IntsO W' sv (pagesL none_) ∧ (∀ j, sv.ownBlock = some j → w.heap.size ≤ j) ∧ Below w.heap.size w W' := by
  have hn : (pagesL none_).length = 0 := by rw [pagesL_none]; rfl
  refine (callsIn_wide (n := 5)).1 ?_
  have hro : (Fence.wide).round = none := rfl
  refine callsIn_of_wp_marks Tryz.func78 rfl trivial ?_ hro
  simp only [Tryz.ntmps78, List.size_toArray, List.length_cons, List.length_nil, Nat.reduceAdd, Nat.reduceSub, Array.replicate_succ, Array.replicate_zero, List.push_toArray, List.append_toArray, List.nil_append, List.cons_append]
  gi_wp2_with fail
  refine ⟨trivial, ?_⟩
  refine (callsIn_wide.2 (each_any _ _)).mono ?_
  rintro e w' ⟨rfl, rfl⟩
  gi_wp2_with fail
  obtain ⟨ws, hws⟩ : ∃ ws, ((w.alloc (.cells #[.slice none 0 0] 33)).alloc (.cells #[.pointer none] 106)) = ws := ⟨_, rfl⟩
  have bX : Blk ws w.heap.size 33 #[.slice none 0 0] := by rw [← hws]; exact (Blk.new w _ _).alloc _
  have bP : Blk ws (w.heap.size + 1) 106 #[.pointer none] := by
    have := Blk.new (w.alloc (.cells #[.slice none 0 0] 33)) 106 #[.pointer none]
    rw [World.size_alloc] at this
    rw [← hws]; exact this
  have hB0 : Below w.heap.size w ws := by
    rw [← hws]; exact ((Below.refl _ w).alloc (Nat.le_refl _) _).alloc (by simp) _
  have hsz : ws.heap.size = w.heap.size + 2 := by rw [← hws]; simp
  have hE0 : ENil (w.heap.size + 1) ws := bP.cell 0
  have hI0 : ZInv w [] ws := ⟨⟨_, bX, IntsO.nil _, fun j hj => (by cases hj)⟩, hB0, by omega⟩
  rw [hws]
  clear hws
  have HN := Lib.hid hn
  have hown := ZInv.own w (fun (pre : List (Slot 0)) => gPages none_ pre)
  rw [← hsz] at hown
  have hst := each1n_stops 4 _ ws hE0
  clear hn
  refine wpIn_rangeFunc_ownG hro (by omega) (gf := 176) (lb := #[.pointer (some ⟨w.heap.size + 1, 0, none⟩)]) rfl trivial (enters_of Tryz.func176 (by kernel_rfl) rfl)
    hst enil_t (fun W l o o' _ h hc _ => enil_b W l o o' h hc) (Below.refl _ _) (fun _ => rfl)
    (fun (pre : List (Slot 0)) W => ZInv w (gPages none_ pre) W)
    (fun _ _ _ => False)
    hown
    (fun _ _ _ _ _ hs _ _ => hs)
    hI0
    (fun x => { tmps := #[.pointer none, undef, .slice none 0 0, .pointer (some ⟨w.heap.size, 0, none⟩), .int .i64 (pgK none_ x.1 : Int), .pointer none, .func (.func 176) #[] #[.pointer (some ⟨w.heap.size + 1, 0, none⟩)], .int .i64 (pgK none_ x.1 : Int), .int .i64 (none_.getD (pgK none_ x.1) 0 : Int), undef, undef, undef, undef, undef], defers := [] }) ?assign ?body ?done ?stop
  case assign =>
    intro l x W K hK
    dsimp only [epair]
    gi_wp2
    exact hK
  case body =>
    rintro l pre x W hI hlp
    exact absurd x.2 (Nat.not_lt_zero _)
  case done =>
    rintro D ys W hD hS hI hK
    obtain ⟨sv, h1, h2, h3⟩ := hI.ex
    rw [show gPages none_ ys = pagesL none_ from come_pages HN.out hS] at h2
    have hc := h1.cell 0
    have HF : Hid (IntsO W sv (pagesL none_) ∧ (∀ j, sv.ownBlock = some j → w.heap.size ≤ j) ∧ Below w.heap.size w W) := Lib.hid ⟨h2, fun j hj => by have := h3 j hj; omega, hI.bel⟩
    clear h1 h2 h3 hI
    gi_wp2
    refine ⟨by simp, .inl ⟨_, _, rfl, run_takeDeferred hK, ?_⟩⟩
    obtain ⟨g1, g2, g3⟩ := HF.out
    have hb := belowK_b (w := w) (Nat.le_refl _) W D _ (.deferred none) (by omega) hK rfl rfl
    refine ⟨_, results_tmp rfl _ _ _, sv, rfl, ?_, g2, g3.trans hb⟩
    refine g1.same fun k hk => (grownBy_putObj' W D (.deferred none)).block k (g1.lt k hk) fun e => ?_
    injection e with e
    obtain ⟨o, ho, hc⟩ := g1.cells k hk
    rw [e, hK] at ho; cases ho; cases hc
  case stop =>
    rintro D c pre W _ _ h _
    exact h.elim

set_option maxRecDepth 100000 in
set_option maxHeartbeats 1000000 in
theorem sectors_nil (w : World) :
    Calls Tryz.prog 117 #[.pointer none] w fun e W' => ∃ sv, e = .returned sv ∧ IntsO W' sv (sectorsL none_) ∧ (∀ j, sv.ownBlock = some j → w.heap.size ≤ j) ∧ Below w.heap.size w W' := by
  have hn : (pagesL none_).length = 0 := by rw [pagesL_none]; rfl
  refine (callsIn_wide (n := 5)).1 ?_
  have hro : (Fence.wide).round = none := rfl
  refine callsIn_of_wp_marks Tryz.func117 rfl trivial ?_ hro
  simp only [Tryz.ntmps117, List.size_toArray, List.length_cons, List.length_nil, Nat.reduceAdd, Nat.reduceSub, Array.replicate_succ, Array.replicate_zero, List.push_toArray, List.append_toArray, List.nil_append, List.cons_append]
  gi_wp2_with fail
  refine ⟨trivial, ?_⟩
  refine (callsIn_wide.2 (each_any _ _)).mono ?_
  rintro e w' ⟨rfl, rfl⟩
  gi_wp2_with fail
  obtain ⟨ws, hws⟩ : ∃ ws, ((w.alloc (.cells #[.slice none 0 0] 33)).alloc (.cells #[.pointer none] 106)) = ws := ⟨_, rfl⟩
  have bX : Blk ws w.heap.size 33 #[.slice none 0 0] := by rw [← hws]; exact (Blk.new w _ _).alloc _
  have bP : Blk ws (w.heap.size + 1) 106 #[.pointer none] := by
    have := Blk.new (w.alloc (.cells #[.slice none 0 0] 33)) 106 #[.pointer none]
    rw [World.size_alloc] at this
    rw [← hws]; exact this
  have hB0 : Below w.heap.size w ws := by
    rw [← hws]; exact ((Below.refl _ w).alloc (Nat.le_refl _) _).alloc (by simp) _
  have hsz : ws.heap.size = w.heap.size + 2 := by rw [← hws]; simp
  have hE0 : ENil (w.heap.size + 1) ws := bP.cell 0
  have hI0 : ZInv w [] ws := ⟨⟨_, bX, IntsO.nil _, fun j hj => (by cases hj)⟩, hB0, by omega⟩
  rw [hws]
  clear hws
  have HN := Lib.hid hn
  have hown := ZInv.own w (fun (pre : List (Slot 0)) => gSectors none_ pre)
  rw [← hsz] at hown
  have hst := each1n_stops 4 _ ws hE0
  clear hn
  refine wpIn_rangeFunc_ownG hro (by omega) (gf := 176) (lb := #[.pointer (some ⟨w.heap.size + 1, 0, none⟩)]) rfl trivial (enters_of Tryz.func176 (by kernel_rfl) rfl)
    hst enil_t (fun W l o o' _ h hc _ => enil_b W l o o' h hc) (Below.refl _ _) (fun _ => rfl)
    (fun (pre : List (Slot 0)) W => ZInv w (gSectors none_ pre) W)
    (fun _ _ _ => False)
    hown
    (fun _ _ _ _ _ hs _ _ => hs)
    hI0
    (fun x => { tmps := #[.pointer none, undef, .slice none 0 0, .pointer (some ⟨w.heap.size, 0, none⟩), undef, .int .i64 (none_.getD (pgK none_ x.1) 0 : Int), .pointer none, .func (.func 176) #[] #[.pointer (some ⟨w.heap.size + 1, 0, none⟩)], .int .i64 (pgK none_ x.1 : Int), .int .i64 (none_.getD (pgK none_ x.1) 0 : Int), undef, undef, undef, undef, undef], defers := [] }) ?assign ?body ?done ?stop
  case assign =>
    intro l x W K hK
    dsimp only [epair]
    gi_wp2
    exact hK
  case body =>
    rintro l pre x W hI hlp
    exact absurd x.2 (Nat.not_lt_zero _)
  case done =>
    rintro D ys W hD hS hI hK
    obtain ⟨sv, h1, h2, h3⟩ := hI.ex
    rw [show gSectors none_ ys = sectorsL none_ from come_sectors HN.out hS] at h2
    have hc := h1.cell 0
    have HF : Hid (IntsO W sv (sectorsL none_) ∧ (∀ j, sv.ownBlock = some j → w.heap.size ≤ j) ∧ Below w.heap.size w W) := Lib.hid ⟨h2, fun j hj => by have := h3 j hj; omega, hI.bel⟩
    clear h1 h2 h3 hI
    gi_wp2
    refine ⟨by simp, .inl ⟨_, _, rfl, run_takeDeferred hK, ?_⟩⟩
    obtain ⟨g1, g2, g3⟩ := HF.out
    have hb := belowK_b (w := w) (Nat.le_refl _) W D _ (.deferred none) (by omega) hK rfl rfl
    refine ⟨_, results_tmp rfl _ _ _, sv, rfl, ?_, g2, g3.trans hb⟩
    refine g1.same fun k hk => (grownBy_putObj' W D (.deferred none)).block k (g1.lt k hk) fun e => ?_
    injection e with e
    obtain ⟨o, ho, hc⟩ := g1.cells k hk
    rw [e, hK] at ho; cases ho; cases hc
  case stop =>
    rintro D c pre W _ _ h _
    exact h.elim
end Go.Proofs.YtolpgpphjnkehaaGreatDoor.Pag
/- Plain mathematics of sets of bits: words, how many are in, the lowest that is not. -/
namespace Bts

/-! ### How many bits a word has -/

/-- How many of the first n are in. -/
def card (S : Nat → Bool) : Nat → Nat
  | 0 => 0
  | n + 1 => card S n + (S n).toNat

theorem card_le (S : Nat → Bool) : ∀ n, card S n ≤ n
  | 0 => Nat.le_refl _
  | n + 1 => by have := card_le S n; have : (S n).toNat ≤ 1 := by cases S n <;> decide
                simp only [card]; omega
theorem card_add (S : Nat → Bool) (a : Nat) : ∀ b, card S (a + b) = card S a + card (fun k => S (a + k)) b
  | 0 => by simp [card]
  | b + 1 => by rw [← Nat.add_assoc]; simp only [card]; rw [card_add S a b]; omega
theorem card_congr {S T : Nat → Bool} : ∀ n, (∀ k, k < n → S k = T k) → card S n = card T n
  | 0, _ => rfl
  | n + 1, h => by simp only [card]; rw [card_congr n fun k hk => h k (by omega), h n (by omega)]
theorem card_zero {S : Nat → Bool} (n : Nat) (h : ∀ k, k < n → S k = false) : card S n = 0 := by
  induction n with
  | zero => rfl
  | succ n ih => simp only [card]; rw [ih fun k hk => h k (by omega), h n (by omega)]; rfl

/-- A byte's eight bits, counted. -/
def pop8 (c : Nat) : Nat := c % 2 + c / 2 % 2 + c / 4 % 2 + c / 8 % 2 + c / 16 % 2 + c / 32 % 2 + c / 64 % 2 + c / 128 % 2
theorem toNat_testBit (x k : Nat) : (x.testBit k).toNat = x / 2 ^ k % 2 := by
  rw [Nat.testBit_eq_decide_div_mod_eq]
  rcases Nat.mod_two_eq_zero_or_one (x / 2 ^ k) with h | h <;> simp [h]
theorem card_byte (c : Nat) : card c.testBit 8 = pop8 c := by
  simp only [card, toNat_testBit, pop8, Nat.reducePow, Nat.zero_add, Nat.div_one]
theorem card_shift (x : Nat) (j : Nat) : card (fun k => x.testBit (8 * j + k)) 8 = pop8 (x / 2 ^ (8 * j) % 256) := by
  rw [← card_byte]
  refine card_congr 8 fun k hk => ?_
  rw [show (256 : Nat) = 2 ^ 8 by decide, Nat.testBit_mod_two_pow, Nat.testBit_div_two_pow]
  simp [hk, Nat.add_comm]
theorem card_word (x : Nat) : card x.testBit 64 = pop8 (x % 256) + pop8 (x / 256 % 256) + pop8 (x / 65536 % 256) + pop8 (x / 16777216 % 256) + pop8 (x / 4294967296 % 256) + pop8 (x / 1099511627776 % 256) + pop8 (x / 281474976710656 % 256) + pop8 (x / 72057594037927936 % 256) := by
  have h : ∀ j, card x.testBit (8 * (j + 1)) = card x.testBit (8 * j) + pop8 (x / 2 ^ (8 * j) % 256) := fun j => by
    rw [show 8 * (j + 1) = 8 * j + 8 by omega, card_add, card_shift]
  rw [show (64 : Nat) = 8 * (7 + 1) from rfl, h 7, h 6, h 5, h 4, h 3, h 2, h 1, h 0]
  simp [card]

/-- And with a mask, byte by byte. -/
theorem and_byte (a r m M : Nat) (ha : a < 256) (hm : m < 256) : (a + 256 * r) &&& (m + 256 * M) = (a &&& m) + 256 * (r &&& M) := by
  have h1 := Nat.and_div_two_pow (a := a + 256 * r) (b := m + 256 * M) (n := 8)
  have h2 := Nat.and_mod_two_pow (a := a + 256 * r) (b := m + 256 * M) (n := 8)
  rw [show (2 : Nat) ^ 8 = 256 by decide] at h1 h2
  rw [show (a + 256 * r) / 256 = r by omega, show (m + 256 * M) / 256 = M by omega] at h1
  rw [show (a + 256 * r) % 256 = a by omega, show (m + 256 * M) % 256 = m by omega] at h2
  omega

/-- Eight bytes as a number. -/
def w8 (a0 a1 a2 a3 a4 a5 a6 a7 : Nat) : Nat := a0 + 256 * (a1 + 256 * (a2 + 256 * (a3 + 256 * (a4 + 256 * (a5 + 256 * (a6 + 256 * a7))))))
theorem and_w8 {a0 a1 a2 a3 a4 a5 a6 a7 m : Nat} (h0 : a0 < 256) (h1 : a1 < 256) (h2 : a2 < 256) (h3 : a3 < 256) (h4 : a4 < 256) (h5 : a5 < 256) (h6 : a6 < 256) (hm : m < 256) :
    w8 a0 a1 a2 a3 a4 a5 a6 a7 &&& w8 m m m m m m m m = w8 (a0 &&& m) (a1 &&& m) (a2 &&& m) (a3 &&& m) (a4 &&& m) (a5 &&& m) (a6 &&& m) (a7 &&& m) := by
  unfold w8
  rw [and_byte _ _ _ _ h0 hm, and_byte _ _ _ _ h1 hm, and_byte _ _ _ _ h2 hm, and_byte _ _ _ _ h3 hm, and_byte _ _ _ _ h4 hm, and_byte _ _ _ _ h5 hm, and_byte _ _ _ _ h6 hm]

theorem b85 : ∀ c, c < 256 → ∀ d, d < 2 → (c / 2 + 128 * d) &&& 85 = (c / 2) &&& 85 := by decide +kernel
theorem b51 : ∀ c, c < 256 → ∀ d, d < 4 → (c / 4 + 64 * d) &&& 51 = (c / 4) &&& 51 := by decide +kernel
def t1 (c : Nat) : Nat := (c / 2 &&& 85) + (c &&& 85)
def t2 (c : Nat) : Nat := (c / 4 &&& 51) + (c &&& 51)
theorem t1_lt : ∀ c, c < 256 → t1 c < 256 := by decide +kernel
theorem t2_lt : ∀ c, c < 256 → t2 (t1 c) ≤ 68 ∧ t2 (t1 c) % 16 ≤ 4 := by decide +kernel
theorem t3_pop : ∀ c, c < 256 → (t2 (t1 c) / 16 + t2 (t1 c)) % 16 = pop8 c ∧ pop8 c ≤ 8 := by decide +kernel
theorem and15 (x : Nat) : x &&& 15 = x % 16 := Nat.and_two_pow_sub_one_eq_mod x 4

/-- The library's way to count, in plain numbers. -/
def oc1 (x : Nat) : Nat := (x / 2 &&& 6148914691236517205) + (x &&& 6148914691236517205)
def oc2 (x : Nat) : Nat := (x / 4 &&& 3689348814741910323) + (x &&& 3689348814741910323)
def oc3 (x : Nat) : Nat := (x / 16 + x) &&& 1085102592571150095

theorem oc_split (x : Nat) (hx : x < 18446744073709551616) : ∃ a0 a1 a2 a3 a4 a5 a6 a7, x = w8 a0 a1 a2 a3 a4 a5 a6 a7 ∧ a0 < 256 ∧ a1 < 256 ∧ a2 < 256 ∧ a3 < 256 ∧ a4 < 256 ∧ a5 < 256 ∧ a6 < 256 ∧ a7 < 256 := by
  refine ⟨x % 256, x / 256 % 256, x / 65536 % 256, x / 16777216 % 256, x / 4294967296 % 256, x / 1099511627776 % 256, x / 281474976710656 % 256, x / 72057594037927936, ?_, ?_, ?_, ?_, ?_, ?_, ?_, ?_, ?_⟩ <;> (try unfold w8) <;> omega

theorem oc1_w8 {a0 a1 a2 a3 a4 a5 a6 a7 : Nat} (h0 : a0 < 256) (h1 : a1 < 256) (h2 : a2 < 256) (h3 : a3 < 256) (h4 : a4 < 256) (h5 : a5 < 256) (h6 : a6 < 256) (_h7 : a7 < 256) :
    oc1 (w8 a0 a1 a2 a3 a4 a5 a6 a7) = w8 (t1 a0) (t1 a1) (t1 a2) (t1 a3) (t1 a4) (t1 a5) (t1 a6) (t1 a7) := by
  unfold oc1
  have e : w8 a0 a1 a2 a3 a4 a5 a6 a7 / 2 = w8 (a0 / 2 + 128 * (a1 % 2)) (a1 / 2 + 128 * (a2 % 2)) (a2 / 2 + 128 * (a3 % 2)) (a3 / 2 + 128 * (a4 % 2)) (a4 / 2 + 128 * (a5 % 2)) (a5 / 2 + 128 * (a6 % 2)) (a6 / 2 + 128 * (a7 % 2)) (a7 / 2) := by unfold w8; omega
  rw [e, show (6148914691236517205 : Nat) = w8 85 85 85 85 85 85 85 85 from rfl, and_w8 (by omega) (by omega) (by omega) (by omega) (by omega) (by omega) (by omega) (by decide), and_w8 h0 h1 h2 h3 h4 h5 h6 (by decide),
    b85 _ h0 _ (Nat.mod_lt _ (by decide)), b85 _ h1 _ (Nat.mod_lt _ (by decide)), b85 _ h2 _ (Nat.mod_lt _ (by decide)), b85 _ h3 _ (Nat.mod_lt _ (by decide)), b85 _ h4 _ (Nat.mod_lt _ (by decide)), b85 _ h5 _ (Nat.mod_lt _ (by decide)), b85 _ h6 _ (Nat.mod_lt _ (by decide))]
  unfold w8 t1; omega

theorem oc2_w8 {a0 a1 a2 a3 a4 a5 a6 a7 : Nat} (h0 : a0 < 256) (h1 : a1 < 256) (h2 : a2 < 256) (h3 : a3 < 256) (h4 : a4 < 256) (h5 : a5 < 256) (h6 : a6 < 256) (_h7 : a7 < 256) :
    oc2 (w8 a0 a1 a2 a3 a4 a5 a6 a7) = w8 (t2 a0) (t2 a1) (t2 a2) (t2 a3) (t2 a4) (t2 a5) (t2 a6) (t2 a7) := by
  unfold oc2
  have e : w8 a0 a1 a2 a3 a4 a5 a6 a7 / 4 = w8 (a0 / 4 + 64 * (a1 % 4)) (a1 / 4 + 64 * (a2 % 4)) (a2 / 4 + 64 * (a3 % 4)) (a3 / 4 + 64 * (a4 % 4)) (a4 / 4 + 64 * (a5 % 4)) (a5 / 4 + 64 * (a6 % 4)) (a6 / 4 + 64 * (a7 % 4)) (a7 / 4) := by unfold w8; omega
  rw [e, show (3689348814741910323 : Nat) = w8 51 51 51 51 51 51 51 51 from rfl, and_w8 (by omega) (by omega) (by omega) (by omega) (by omega) (by omega) (by omega) (by decide), and_w8 h0 h1 h2 h3 h4 h5 h6 (by decide),
    b51 _ h0 _ (Nat.mod_lt _ (by decide)), b51 _ h1 _ (Nat.mod_lt _ (by decide)), b51 _ h2 _ (Nat.mod_lt _ (by decide)), b51 _ h3 _ (Nat.mod_lt _ (by decide)), b51 _ h4 _ (Nat.mod_lt _ (by decide)), b51 _ h5 _ (Nat.mod_lt _ (by decide)), b51 _ h6 _ (Nat.mod_lt _ (by decide))]
  unfold w8 t2; omega

theorem oc3_w8 {a0 a1 a2 a3 a4 a5 a6 a7 : Nat} (h0 : a0 ≤ 68 ∧ a0 % 16 ≤ 4) (h1 : a1 ≤ 68 ∧ a1 % 16 ≤ 4) (h2 : a2 ≤ 68 ∧ a2 % 16 ≤ 4) (h3 : a3 ≤ 68 ∧ a3 % 16 ≤ 4) (h4 : a4 ≤ 68 ∧ a4 % 16 ≤ 4) (h5 : a5 ≤ 68 ∧ a5 % 16 ≤ 4) (h6 : a6 ≤ 68 ∧ a6 % 16 ≤ 4) (h7 : a7 ≤ 68 ∧ a7 % 16 ≤ 4) :
    oc3 (w8 a0 a1 a2 a3 a4 a5 a6 a7) = w8 ((a0 / 16 + a0) % 16) ((a1 / 16 + a1) % 16) ((a2 / 16 + a2) % 16) ((a3 / 16 + a3) % 16) ((a4 / 16 + a4) % 16) ((a5 / 16 + a5) % 16) ((a6 / 16 + a6) % 16) ((a7 / 16 + a7) % 16) := by
  unfold oc3
  have e : w8 a0 a1 a2 a3 a4 a5 a6 a7 / 16 + w8 a0 a1 a2 a3 a4 a5 a6 a7 = w8 (a0 / 16 + 16 * (a1 % 16) + a0) (a1 / 16 + 16 * (a2 % 16) + a1) (a2 / 16 + 16 * (a3 % 16) + a2) (a3 / 16 + 16 * (a4 % 16) + a3) (a4 / 16 + 16 * (a5 % 16) + a4) (a5 / 16 + 16 * (a6 % 16) + a5) (a6 / 16 + 16 * (a7 % 16) + a6) (a7 / 16 + a7) := by unfold w8; omega
  rw [e, show (1085102592571150095 : Nat) = w8 15 15 15 15 15 15 15 15 from rfl, and_w8 (by omega) (by omega) (by omega) (by omega) (by omega) (by omega) (by omega) (by decide)]
  simp only [and15]
  congr 1 <;> omega

/-- The sum of eight small bytes stands in the lowest, behind three shifts. -/
theorem oc_sum {p0 p1 p2 p3 p4 p5 p6 p7 : Nat} (h0 : p0 ≤ 8) (h1 : p1 ≤ 8) (h2 : p2 ≤ 8) (h3 : p3 ≤ 8) (h4 : p4 ≤ 8) (h5 : p5 ≤ 8) (h6 : p6 ≤ 8) (h7 : p7 ≤ 8) :
    ∃ y z u, w8 p0 p1 p2 p3 p4 p5 p6 p7 + w8 p0 p1 p2 p3 p4 p5 p6 p7 / 256 = y ∧ y < 18446744073709551616 ∧ y + y / 65536 = z ∧ z < 18446744073709551616 ∧ z + z / 4294967296 = u ∧ u < 9223372036854775808 ∧ u % 128 = p0 + p1 + p2 + p3 + p4 + p5 + p6 + p7 := by
  refine ⟨w8 (p0 + p1) (p1 + p2) (p2 + p3) (p3 + p4) (p4 + p5) (p5 + p6) (p6 + p7) p7, w8 (p0 + p1 + (p2 + p3)) (p1 + p2 + (p3 + p4)) (p2 + p3 + (p4 + p5)) (p3 + p4 + (p5 + p6)) (p4 + p5 + (p6 + p7)) (p5 + p6 + p7) (p6 + p7) p7, 
    w8 (p0 + p1 + (p2 + p3) + (p4 + p5 + (p6 + p7))) (p1 + p2 + (p3 + p4) + (p5 + p6 + p7)) (p2 + p3 + (p4 + p5) + (p6 + p7)) (p3 + p4 + (p5 + p6) + p7) (p4 + p5 + (p6 + p7)) (p5 + p6 + p7) (p6 + p7) p7, ?_, ?_, ?_, ?_, ?_, ?_, ?_⟩ <;> unfold w8 <;> omega

theorem w8_lt {a0 a1 a2 a3 a4 a5 a6 a7 : Nat} (h0 : a0 < 256) (h1 : a1 < 256) (h2 : a2 < 256) (h3 : a3 < 256) (h4 : a4 < 256) (h5 : a5 < 256) (h6 : a6 < 256) (h7 : a7 < 256) : w8 a0 a1 a2 a3 a4 a5 a6 a7 < 18446744073709551616 := by unfold w8; omega
set_option maxHeartbeats 2000000 in
theorem card_w8 {a0 a1 a2 a3 a4 a5 a6 a7 : Nat} (h0 : a0 < 256) (h1 : a1 < 256) (h2 : a2 < 256) (h3 : a3 < 256) (h4 : a4 < 256) (h5 : a5 < 256) (h6 : a6 < 256) (h7 : a7 < 256) :
    card (w8 a0 a1 a2 a3 a4 a5 a6 a7).testBit 64 = pop8 a0 + pop8 a1 + pop8 a2 + pop8 a3 + pop8 a4 + pop8 a5 + pop8 a6 + pop8 a7 := by
  have hc := card_word (w8 a0 a1 a2 a3 a4 a5 a6 a7)
  generalize hx : w8 a0 a1 a2 a3 a4 a5 a6 a7 = x at hc ⊢
  unfold w8 at hx
  have c0 : x % 256 = a0 := by omega
  have c1 : x / 256 % 256 = a1 := by omega
  have c2 : x / 65536 % 256 = a2 := by omega
  have c3 : x / 16777216 % 256 = a3 := by omega
  have c4 : x / 4294967296 % 256 = a4 := by omega
  have c5 : x / 1099511627776 % 256 = a5 := by omega
  have c6 : x / 281474976710656 % 256 = a6 := by omega
  have c7 : x / 72057594037927936 % 256 = a7 := by omega
  rw [c0, c1, c2, c3, c4, c5, c6, c7] at hc
  exact hc

/-- The first three steps. -/
theorem oc_three (x : Nat) (hx : x < 18446744073709551616) : ∃ p0 p1 p2 p3 p4 p5 p6 p7, oc3 (oc2 (oc1 x)) = w8 p0 p1 p2 p3 p4 p5 p6 p7 ∧ card x.testBit 64 = p0 + p1 + p2 + p3 + p4 + p5 + p6 + p7 ∧ (p0 ≤ 8 ∧ p1 ≤ 8 ∧ p2 ≤ 8 ∧ p3 ≤ 8 ∧ p4 ≤ 8 ∧ p5 ≤ 8 ∧ p6 ≤ 8 ∧ p7 ≤ 8) ∧
    oc1 x < 18446744073709551616 ∧ oc2 (oc1 x) < 18446744073709551616 ∧ oc2 (oc1 x) / 16 + oc2 (oc1 x) < 18446744073709551616 := by
  obtain ⟨a0, a1, a2, a3, a4, a5, a6, a7, rfl, h0, h1, h2, h3, h4, h5, h6, h7⟩ := oc_split x hx
  have l0 := t1_lt _ h0; have l1 := t1_lt _ h1; have l2 := t1_lt _ h2; have l3 := t1_lt _ h3; have l4 := t1_lt _ h4; have l5 := t1_lt _ h5; have l6 := t1_lt _ h6; have l7 := t1_lt _ h7
  have k0 := t2_lt _ h0; have k1 := t2_lt _ h1; have k2 := t2_lt _ h2; have k3 := t2_lt _ h3; have k4 := t2_lt _ h4; have k5 := t2_lt _ h5; have k6 := t2_lt _ h6; have k7 := t2_lt _ h7
  have q0 := t3_pop _ h0; have q1 := t3_pop _ h1; have q2 := t3_pop _ h2; have q3 := t3_pop _ h3; have q4 := t3_pop _ h4; have q5 := t3_pop _ h5; have q6 := t3_pop _ h6; have q7 := t3_pop _ h7
  rw [oc1_w8 h0 h1 h2 h3 h4 h5 h6 h7, oc2_w8 l0 l1 l2 l3 l4 l5 l6 l7, oc3_w8 k0 k1 k2 k3 k4 k5 k6 k7, q0.1, q1.1, q2.1, q3.1, q4.1, q5.1, q6.1, q7.1]
  refine ⟨_, _, _, _, _, _, _, _, rfl, card_w8 h0 h1 h2 h3 h4 h5 h6 h7, ⟨q0.2, q1.2, q2.2, q3.2, q4.2, q5.2, q6.2, q7.2⟩, w8_lt l0 l1 l2 l3 l4 l5 l6 l7, ?_, ?_⟩
  · exact w8_lt (by omega) (by omega) (by omega) (by omega) (by omega) (by omega) (by omega) (by omega)
  · clear q0 q1 q2 q3 q4 q5 q6 q7 l0 l1 l2 l3 l4 l5 l6 l7 h0 h1 h2 h3 h4 h5 h6 h7
    generalize t2 (t1 a0) = b0 at *
    generalize t2 (t1 a1) = b1 at *
    generalize t2 (t1 a2) = b2 at *
    generalize t2 (t1 a3) = b3 at *
    generalize t2 (t1 a4) = b4 at *
    generalize t2 (t1 a5) = b5 at *
    generalize t2 (t1 a6) = b6 at *
    generalize t2 (t1 a7) = b7 at *
    unfold w8; omega

/-- All steps of the library's OnesCount64. -/
theorem oc_all (x : Nat) (hx : x < 18446744073709551616) :
    oc1 x < 18446744073709551616 ∧ oc2 (oc1 x) < 18446744073709551616 ∧ oc2 (oc1 x) / 16 + oc2 (oc1 x) < 18446744073709551616 ∧ oc3 (oc2 (oc1 x)) < 18446744073709551616 ∧
    ∃ y z u, oc3 (oc2 (oc1 x)) + oc3 (oc2 (oc1 x)) / 256 = y ∧ y < 18446744073709551616 ∧ y + y / 65536 = z ∧ z < 18446744073709551616 ∧ z + z / 4294967296 = u ∧ u < 9223372036854775808 ∧ u % 128 = card x.testBit 64 := by
  obtain ⟨p0, p1, p2, p3, p4, p5, p6, p7, e, hc, ⟨q0, q1, q2, q3, q4, q5, q6, q7⟩, h1, h2, h3⟩ := oc_three x hx
  rw [e, hc]
  exact ⟨h1, h2, h3, w8_lt (by omega) (by omega) (by omega) (by omega) (by omega) (by omega) (by omega) (by omega), oc_sum q0 q1 q2 q3 q4 q5 q6 q7⟩

/-! ### The lowest bit -/

theorem ctz_spec (x : Nat) (h0 : x ≠ 0) (hx : x < 2 ^ 64) : Go.Lib.ctz 64 x < 64 ∧ x.testBit (Go.Lib.ctz 64 x) = true ∧ ∀ k, k < Go.Lib.ctz 64 x → x.testBit k = false := by
  obtain ⟨m, hm, hk⟩ := Go.Lib.ctzFrom_spec 64 x (by omega) hx
  have e : Go.Lib.ctz 64 x = Go.Lib.ctzFrom 64 x := by simp [Go.Lib.ctz, h0]
  rw [e]
  generalize Go.Lib.ctzFrom 64 x = c at hm hk
  refine ⟨hk, ?_, fun k hkc => ?_⟩
  · rw [hm, Nat.mul_comm, Nat.testBit_mul_two_pow]; simp
  · rw [hm, Nat.mul_comm, Nat.testBit_mul_two_pow]; simp; omega

end Bts
/- Words for memory: a block known whole; a set of bits as it lies in memory. The library's counting and its lowest bit. -/
namespace Go.Proofs.YtolpgpphjnkehaaGreatDoor.Bit
set_option maxRecDepth 20000
open Go.RowKit Bts

def Blk (w : World) (g : Nat) (t : TypeId) (cs : Array Value) : Prop := w.heap[g]? = some (.cells cs t (0, 0))

section
variable {w w' : World} {g : Nat} {t : TypeId} {cs : Array Value}
theorem Blk.lt (h : Blk w g t cs) : g < w.heap.size := by
  rcases Nat.lt_or_ge g w.heap.size with hlt | hge
  · exact hlt
  · unfold Blk at h; rw [Array.getElem?_eq_none hge] at h; cases h
theorem Blk.cell (h : Blk w g t cs) (i : Nat) : w.cell? ⟨g, i, none⟩ = cs[i]? := cell_of_row w g i cs t (0, 0) h
theorem Blk.frozen (h : Blk w g t cs) (i : Nat) : w.frozen? ⟨g, i, none⟩ = false := by
  unfold Blk at h
  simp [World.frozen?, h]
theorem Blk.new (w : World) (t : TypeId) (cs : Array Value) : Blk (w.alloc (.cells cs t)) w.heap.size t cs := heap_alloc_new w _
theorem Blk.alloc (h : Blk w g t cs) (o : Obj) : Blk (w.alloc o) g t cs := (Below.heap_alloc w o g h.lt).trans h
theorem Blk.set_ (h : Blk w g t cs) (i : Nat) (u : Value) : Blk (w.setCell ⟨g, i, none⟩ u) g t (cs.setIfInBounds i u) := by
  unfold Blk at h ⊢
  simp [World.setCell, Array.getElem?_modify, h]
theorem Blk.below {B : Nat} (h : Blk w g t cs) (hb : Below B w w') (hg : g < B) : Blk w' g t cs := (hb.block g hg).trans h
theorem Blk.grown {row : Option Nat} (h : Blk w g t cs) (hb : w.grownBy w' row) (hg : some g ≠ row) : Blk w' g t cs := (hb.block g h.lt hg).trans h
end

theorem grown_set (w : World) (q i : Nat) (u : Value) : w.grownBy (w.setCell ⟨q, i, none⟩ u) (some q) :=
  ⟨rfl, rfl, rfl, by simp [World.setCell], fun k _ hk => Below.heap_setCell _ _ _ _ (fun e => hk (by rw [e]))⟩
theorem grown_drew (w : World) (row : Option Nat) : w.grownBy w.drew row := ⟨rfl, rfl, rfl, Nat.le_refl _, fun _ _ _ => rfl⟩
theorem grown_drewN (w : World) (n : Nat) (row : Option Nat) : w.grownBy (w.drewN n) row := ⟨rfl, rfl, rfl, Nat.le_refl _, fun _ _ _ => rfl⟩
theorem grown_trans {a b c : World} {row : Option Nat} (h : a.grownBy b row) (k : b.grownBy c row) : a.grownBy c row :=
  ⟨k.os.trans h.os, k.tape.trans h.tape, k.output.trans h.output, Nat.le_trans h.size k.size, fun i hi hne => (k.block i (Nat.lt_of_lt_of_le hi h.size) hne).trans (h.block i hi hne)⟩
theorem below_grown {w w' : World} (h : Below w.heap.size w w') (row : Option Nat) : w.grownBy w' row := ⟨h.os, h.tape, h.output, h.size, fun k hk _ => h.block k hk⟩
theorem ret_bool {a b : Bool} (h : a = b) : Ending.returned (.bool a) = .returned (.bool b) := by rw [h]

/-- A word as a value. -/
def uv (x : Nat) : Value := .int .u64 (x : Int)

/-- The words of a set. -/
structure Wds (ws : List Nat) (n : Nat) (S : Nat → Bool) : Prop where
  len : ws.length = (n + 63) / 64
  top : n ≤ 65536
  lt : ∀ i, i < ws.length → ws.getD i 0 < 18446744073709551616
  bit : ∀ i k, i < ws.length → k < 64 → (ws.getD i 0).testBit k = S (64 * i + k)
  out : ∀ j, n ≤ j → S j = false

/-- A set of bits below n, as it lies in blocks p (its head) and q (its words). -/
structure Bs (w : World) (p q n : Nat) (S : Nat → Bool) : Prop where
  mem : ∃ (c : Nat) (ws : List Nat) (cs : Array Value), Wds ws n S ∧ Blk w p 210 #[.int .i64 (n : Int), .slice (some ⟨q, 0, none⟩) ws.length c] ∧
    ws.length ≤ c ∧ c ≤ maxLen ∧ w.heap[q]? = some (.cells cs 160 (0, 0)) ∧ ∀ i, i < ws.length → cs[i]? = some (uv (ws.getD i 0))
  ne : p ≠ q

theorem Bs.lt {w : World} {p q n : Nat} {S : Nat → Bool} (h : Bs w p q n S) : p < w.heap.size ∧ q < w.heap.size := by
  obtain ⟨c, ws, cs, _, hp, _, _, hq, _⟩ := h.mem
  exact ⟨hp.lt, (Blk.lt (cs := cs) hq)⟩
theorem Bs.top {w : World} {p q n : Nat} {S : Nat → Bool} (h : Bs w p q n S) : n ≤ 65536 := by
  obtain ⟨c, ws, cs, hw, _⟩ := h.mem
  exact hw.top
theorem Bs.out {w : World} {p q n : Nat} {S : Nat → Bool} (h : Bs w p q n S) : ∀ j, n ≤ j → S j = false := by
  obtain ⟨c, ws, cs, hw, _⟩ := h.mem
  exact hw.out
theorem Bs.kept {w w' : World} {p q n : Nat} {S : Nat → Bool} (h : Bs w p q n S) {row : Option Nat} (hg : w.grownBy w' row) (hp : some p ≠ row) (hq : some q ≠ row) : Bs w' p q n S := by
  obtain ⟨c, ws, cs, hw, h1, h2, h3, h4, h5⟩ := h.mem
  exact ⟨⟨c, ws, cs, hw, h1.grown hg hp, h2, h3, Blk.grown (cs := cs) h4 hg hq, h5⟩, h.ne⟩
theorem Bs.below {w w' : World} {p q n : Nat} {S : Nat → Bool} (h : Bs w p q n S) (hb : Below w.heap.size w w') : Bs w' p q n S :=
  h.kept (below_grown hb none) (by simp) (by simp)
theorem Bs.congr {w : World} {p q n : Nat} {S T : Nat → Bool} (h : Bs w p q n S) (e : ∀ j, S j = T j) : Bs w p q n T := by
  obtain rfl : S = T := funext e
  exact h

/-- A word of a set, on its own. -/
structure At (w : World) (p q n i : Nat) (S : Nat → Bool) (L c x : Nat) : Prop where
  hd : w.cell? ⟨p, 0, none⟩ = some (.int .i64 (n : Int))
  sl : w.cell? ⟨p, 1, none⟩ = some (.slice (some ⟨q, 0, none⟩) L c)
  wd : w.cell? ⟨q, i, none⟩ = some (.int .u64 (x : Int))
  fz : w.frozen? ⟨q, i, none⟩ = false
  lt : x < 18446744073709551616
  bit : ∀ k, k < 64 → x.testBit k = S (64 * i + k)
theorem Bs.at_ {w : World} {p q n : Nat} {S : Nat → Bool} (h : Bs w p q n S) {i : Nat} (hi : i < n) :
    ∃ L c x, L = (n + 63) / 64 ∧ L ≤ c ∧ c ≤ maxLen ∧ At w p q n (i / 64) S L c x ∧ ∀ y : Nat, y < 18446744073709551616 → ∀ T : Nat → Bool, (∀ k, k < 64 → y.testBit k = T (64 * (i / 64) + k)) → (∀ j, j / 64 ≠ i / 64 → T j = S j) → (∀ j, n ≤ j → T j = false) → Bs (w.setCell ⟨q, i / 64, none⟩ (.int .u64 (y : Int))) p q n T := by
  obtain ⟨c, ws, cs, hw, hp, hc1, hc2, hq, hcs⟩ := h.mem
  have hl := hw.len
  have hil : i / 64 < ws.length := by omega
  have hp0 := hp.cell 0
  have hp1 := hp.cell 1
  have hqc := (Blk.cell (cs := cs) hq (i / 64)).trans (hcs _ hil)
  refine ⟨ws.length, c, ws.getD (i / 64) 0, hl, hc1, hc2, ⟨hp0, hp1, hqc, Blk.frozen (cs := cs) hq _, hw.lt _ hil, fun k hk => hw.bit _ _ hil hk⟩, fun y hy T hT1 hT2 hT3 => ?_⟩
  have hne := h.ne
  refine ⟨⟨c, ws.set (i / 64) y, cs.setIfInBounds (i / 64) (uv y), ⟨by simpa using hl, hw.top, fun j hj => ?_, fun j k hj hk => ?_, hT3⟩, ?_, by simpa using hc1, hc2, Blk.set_ (cs := cs) hq _ _, fun j hj => ?_⟩, hne⟩
  · rw [List.length_set] at hj
    by_cases e : j = i / 64
    · subst e; simp [List.getD, hil, hy]
    · have := hw.lt j hj
      simpa [List.getD, Ne.symm e] using this
  · rw [List.length_set] at hj
    by_cases e : j = i / 64
    · subst e; simp only [List.getD, List.getElem?_set, if_true, hil, Option.getD_some]; exact hT1 k hk
    · have := hw.bit j k hj hk
      rw [hT2 _ (by omega), ← this]
      simp [List.getD, Ne.symm e]
  · rw [List.length_set]
    exact hp.grown (grown_set w q (i / 64) _) (fun e => hne (by injection e))
  · rw [List.length_set] at hj
    by_cases e : j = i / 64
    · subst e
      have hlt : i / 64 < cs.size := by
        rcases Nat.lt_or_ge (i / 64) cs.size with h | h
        · exact h
        · have := hcs _ hil; rw [Array.getElem?_eq_none h] at this; cases this
      simp [List.getD, hil, uv, hlt]
    · rw [Array.getElem?_setIfInBounds_ne (Ne.symm e), hcs j hj]
      simp [List.getD, Ne.symm e]

/-! ### The library's two -/

theorem and64 (a m : Nat) (ha : a < 18446744073709551616) (hm : m < 18446744073709551616) {r : Nat} (h : a &&& m = r) : bits .and .u64 (a : Int) (m : Int) = (r : Int) := by
  rw [bits_and_u64_nat a m ha hm, h]
theorem and64i (a m : Nat) (mi : Int) (e : (m : Int) = mi) (ha : a < 18446744073709551616) (hm : m < 18446744073709551616) : bits .and .u64 (a : Int) mi = ((a &&& m : Nat) : Int) := by
  rw [← e, bits_and_u64_nat a m ha hm]
theorem and127 (a : Nat) (ha : a < 9223372036854775808) {r : Nat} (h : a % 128 = r) : bits .and .i64 (a : Int) 127 = (r : Int) := by
  have h1 : (BitVec.ofInt 64 (a : Int)).toNat = a := by
    rw [BitVec.ofInt_natCast, BitVec.toNat_ofNat]; exact Nat.mod_eq_of_lt (by omega)
  have h2 : (BitVec.ofInt 64 (127 : Int)).toNat = 127 := by decide
  show IntKind.i64.wrap ((BitVec.ofInt 64 (a : Int) &&& BitVec.ofInt 64 (127 : Int)).toNat : Int) = _
  rw [BitVec.toNat_and, h1, h2, show a &&& 127 = a % 128 from Nat.and_two_pow_sub_one_eq_mod a 7, h]
  exact IntWalk.i64_in _ (by omega)

end Go.Proofs.YtolpgpphjnkehaaGreatDoor.Bit
/- The set's functions: New, Size, Has, Set, Clear. -/
namespace Go.Proofs.YtolpgpphjnkehaaGreatDoor.Bit
set_option maxRecDepth 20000
open Go.RowKit Bts

theorem Tryz.info64 : (Tryz.prog.info? 160).map (fun i => (i.zero, i.size, i.bytes)) = some (some (.int .u64 0), 1, 8) := by kernel_rfl

theorem run_mk64 (n : Nat) (hn : n ≤ 65536) (w : World) :
    (Instr.makeSlice 208 (.int .i64 (n : Int)) (.int .i64 (n : Int))).run Tryz.prog w = .ok (.slice (some ⟨w.heap.size, 0, none⟩) n n) (w.alloc (.cells (madeCells #[.int .u64 0] n) 160)) := by
  obtain ⟨i0, hi, hz0, hz1, hz2⟩ := info_parts Tryz.info64
  have h := run_make (P := Tryz.prog) w 208 160 i0 (.int .u64 0) Tryz.underlying208 hi hz0 .i64 .i64 (n : Int) (n : Int) (by omega) (by omega) (by rw [hz2]; omega) (by omega)
  simpa [hz1, Value.cells] using h

def none_ : Nat → Bool := fun _ => false

theorem bs_new (w : World) (n : Nat) (hn : n ≤ 65536) :
    Bs ((w.alloc (.cells (madeCells #[.int .u64 0] ((n + 63) / 64)) 160)).alloc (.cells #[.int .i64 (n : Int), .slice (some ⟨w.heap.size, 0, none⟩) ((n + 63) / 64) ((n + 63) / 64)] 210)) (w.heap.size + 1) w.heap.size n none_ := by
  have h1 := Blk.new w 160 (madeCells #[.int .u64 0] ((n + 63) / 64))
  have h2 := Blk.new (w.alloc (.cells (madeCells #[.int .u64 0] ((n + 63) / 64)) 160)) 210 #[.int .i64 (n : Int), .slice (some ⟨w.heap.size, 0, none⟩) ((n + 63) / 64) ((n + 63) / 64)]
  rw [World.size_alloc] at h2
  have hl : (List.replicate ((n + 63) / 64) 0).length = (n + 63) / 64 := by simp
  have hg : ∀ i, (List.replicate ((n + 63) / 64) 0).getD i 0 = 0 := fun i => by
    simp only [List.getD, List.getElem?_replicate]; split <;> rfl
  refine ⟨⟨(n + 63) / 64, List.replicate ((n + 63) / 64) 0, _, ⟨hl, hn, fun i _ => by rw [hg]; decide, fun i k _ _ => by rw [hg]; simp [none_], fun _ _ => rfl⟩, by rw [hl]; exact h2, by rw [hl]; exact Nat.le_refl _, by unfold maxLen; omega, h1.alloc _, fun i hi => ?_⟩, by omega⟩
  rw [hl] at hi
  rw [hg]
  simp [madeCells, hi, uv, Nat.mod_one]

set_option maxHeartbeats 400000 in
theorem new_some (n : Nat) (w : World) (hn : n ≤ 65536) :
    Calls Tryz.prog 111 #[.int .i64 (n : Int)] w fun e w' => ∃ p q, e = .returned (.tuple #[.pointer (some ⟨p, 0, none⟩), .int .i64 0]) ∧ w.heap.size ≤ p ∧ w.heap.size ≤ q ∧ Bs w' p q n none_ ∧ Below w.heap.size w w' := by
  have hmk := run_mk64 ((n + 63) / 64) (by omega) w
  have hb := Lib.hid (bs_new w n hn)
  have ha : (((n + 63) / 64 : Nat) : Int) = ((n : Int) + 63) / 64 := by omega
  rw [ha] at hmk
  clear ha
  go_enter Tryz.func111, Tryz.ntmps111
  go_wp2
  go_ret2
  exact ⟨_, _, rfl, Nat.le_succ _, Nat.le_refl _, hb.out, ((Below.refl _ w).alloc (Nat.le_refl _) _).alloc (by simp) _⟩

theorem new_none (n : Int) (w : World) (hn : n < 0 ∨ 65536 < n) :
    Calls Tryz.prog 111 #[.int .i64 n] w fun e w' => e = .returned (.tuple #[.pointer none, .int .i64 1]) ∧ w = w' := by
  by_cases h : n < 0
  · go_enter Tryz.func111, Tryz.ntmps111
    go_wp2
    go_ret2
    exact ⟨rfl, rfl⟩
  · have h2 : 65536 < n := by omega
    go_enter Tryz.func111, Tryz.ntmps111
    go_wp2
    go_ret2
    exact ⟨rfl, rfl⟩

theorem size_nil (w : World) : Calls Tryz.prog 138 #[.pointer none] w fun e w' => e = .returned (.int .i64 0) ∧ w = w' := by
  go_enter Tryz.func138, Tryz.ntmps138
  go_wp2
  go_ret
  exact ⟨rfl, rfl⟩
theorem size_of (w : World) (p : Nat) (n : Int) (h : w.cell? ⟨p, 0, none⟩ = some (.int .i64 n)) : Calls Tryz.prog 138 #[.pointer (some ⟨p, 0, none⟩)] w fun e w' => e = .returned (.int .i64 n) ∧ w = w' := by
  go_enter Tryz.func138, Tryz.ntmps138
  go_wp2
  go_ret
  exact ⟨rfl, rfl⟩
theorem Bs.head {w : World} {p q n : Nat} {S : Nat → Bool} (h : Bs w p q n S) : w.cell? ⟨p, 0, none⟩ = some (.int .i64 (n : Int)) := by
  obtain ⟨c, ws, cs, hw, hp, _⟩ := h.mem
  exact hp.cell 0

end Go.Proofs.YtolpgpphjnkehaaGreatDoor.Bit
/- Has, Set, Clear. -/
namespace Go.Proofs.YtolpgpphjnkehaaGreatDoor.Bit
set_option maxRecDepth 20000
open Go.RowKit Bts

def hasB (S : Nat → Bool) (n : Nat) (i : Int) : Bool := decide (0 ≤ i) && decide (i < n) && S i.toNat

theorem hasB_in (S : Nat → Bool) (n i : Nat) (h : i < n) : hasB S n (i : Int) = S i := by simp [hasB, h]
theorem hasB_out (S : Nat → Bool) (n : Nat) (i : Int) (h : i < 0 ∨ (n : Int) ≤ i) : hasB S n i = false := by
  simp only [hasB, Bool.and_eq_false_iff, decide_eq_false_iff_not]
  omega

set_option maxHeartbeats 400000 in
theorem at_nil (f : Value) (i : Int) (w : World) : Calls Tryz.prog 166 #[.pointer none, .int .i64 i, f] w fun e w' => e = .returned (.bool false) ∧ w = w' := by
  have hs := size_nil w
  by_cases h : i < 0
  · go_enter Tryz.func166, Tryz.ntmps166
    go_wp2_with (go_at_call 138; refine hs.mono ?_; rintro e w' ⟨rfl, rfl⟩)
    go_ret
    exact ⟨rfl, rfl⟩
  · have h' : 0 ≤ i := by omega
    go_enter Tryz.func166, Tryz.ntmps166
    go_wp2_with (go_at_call 138; refine hs.mono ?_; rintro e w' ⟨rfl, rfl⟩)
    go_ret
    exact ⟨rfl, rfl⟩

set_option maxHeartbeats 400000 in
theorem at_out (f : Value) (p n : Nat) (i : Int) (w : World) (hh : w.cell? ⟨p, 0, none⟩ = some (.int .i64 (n : Int))) (hi : i < 0 ∨ (n : Int) ≤ i) :
    Calls Tryz.prog 166 #[.pointer (some ⟨p, 0, none⟩), .int .i64 i, f] w fun e w' => e = .returned (.bool false) ∧ w = w' := by
  have hs := Lib.hid (size_of w p n hh)
  clear hh
  by_cases h : i < 0
  · go_enter Tryz.func166, Tryz.ntmps166
    go_wp2_with (go_at_call 138; refine hs.out.mono ?_; rintro e w' ⟨rfl, rfl⟩)
    go_ret
    exact ⟨rfl, rfl⟩
  · have h' : (n : Int) ≤ i := by omega
    have h2 : 0 ≤ i := by omega
    clear hi
    go_enter Tryz.func166, Tryz.ntmps166
    go_wp2_with (go_at_call 138; refine hs.out.mono ?_; rintro e w' ⟨rfl, rfl⟩)
    go_ret
    exact ⟨rfl, rfl⟩

/-! ### The closures, at one word -/

theorem shl1 (k : Nat) (hk : k < 64) : IntKind.u64.wrap ((2 : Int) ^ k) = ((2 ^ k : Nat) : Int) := by
  have h : (2 : Nat) ^ k < 2 ^ 64 := Nat.pow_lt_pow_right (by decide) hk
  have e : ((2 : Int) ^ k) = ((2 ^ k : Nat) : Int) := by push_cast; rfl
  rw [e]
  generalize (2 : Nat) ^ k = y at *
  exact IntWalk.u64_in _ (by omega)

theorem and_bit (x k : Nat) : (x &&& 2 ^ k = 0) ↔ x.testBit k = false := by
  constructor
  · intro h
    have := congrArg (fun y => Nat.testBit y k) h
    simpa [Nat.testBit_and, Nat.testBit_two_pow] using this
  · intro h
    apply Nat.eq_of_testBit_eq
    intro j
    simp only [Nat.testBit_and, Nat.testBit_two_pow, Nat.zero_testBit]
    by_cases e : k = j
    · subst e; simp [h]
    · simp [e]

theorem has1 (q j x m : Nat) (w : World) (hm : m < 18446744073709551616) (hx : x < 18446744073709551616) (hc : w.cell? ⟨q, j, none⟩ = some (.int .u64 (x : Int))) :
    Calls Tryz.prog 179 #[.pointer (some ⟨q, j, none⟩), .int .u64 (m : Int)] w fun e w' => e = .returned (.bool (!decide (x &&& m = 0))) ∧ w = w' := by
  have ha := bits_and_u64_nat x m hx hm
  have hb : (((x &&& m : Nat) : Int) != 0) = (!decide (x &&& m = 0)) := by
    by_cases h : x &&& m = 0 <;> simp [h]
  clear hx hm
  go_enter Tryz.func179, Tryz.ntmps179
  go_wp2
  go_ret
  exact ⟨rfl, rfl⟩

theorem andnot64 (x m : Nat) (hx : x < 18446744073709551616) (hm : m < 18446744073709551616) : bits .andNot .u64 (x : Int) (m : Int) = ((x ^^^ (x &&& m) : Nat) : Int) := by
  have h1 : (BitVec.ofInt 64 (x : Int)).toNat = x := by
    rw [BitVec.ofInt_natCast, BitVec.toNat_ofNat]; exact Nat.mod_eq_of_lt (by omega)
  have h2 : (BitVec.ofInt 64 (m : Int)).toNat = m := by
    rw [BitVec.ofInt_natCast, BitVec.toNat_ofNat]; exact Nat.mod_eq_of_lt (by omega)
  have e : x &&& (2 ^ 64 - (m + 1)) = x ^^^ (x &&& m) := by
    apply Nat.eq_of_testBit_eq
    intro i
    rw [Nat.testBit_and, Nat.testBit_two_pow_sub_succ (show m < 2 ^ 64 by omega), Nat.testBit_xor, Nat.testBit_and]
    by_cases hi : i < 64
    · cases x.testBit i <;> cases m.testBit i <;> simp [hi]
    · have hxi : x.testBit i = false := Nat.testBit_lt_two_pow (Nat.lt_of_lt_of_le (show x < 2 ^ 64 by omega) (Nat.pow_le_pow_right (by decide) (by omega)))
      simp [hxi]
  have hlt : x ^^^ (x &&& m) < 2 ^ 64 := Nat.xor_lt_two_pow (by omega) (Nat.and_lt_two_pow _ (by omega))
  show IntKind.u64.wrap ((BitVec.ofInt 64 (x : Int) &&& ~~~(BitVec.ofInt 64 (m : Int))).toNat : Int) = _
  rw [BitVec.toNat_and, BitVec.toNat_not, h1, h2, show 2 ^ 64 - 1 - m = 2 ^ 64 - (m + 1) by omega, e]
  generalize x ^^^ (x &&& m) = y at *
  exact IntWalk.u64_in _ (by omega)

theorem bne_nat (x y : Nat) : ((x : Int) != (y : Int)) = (!decide (x = y)) := by
  by_cases h : x = y
  · subst h; simp
  · have : ¬ (x : Int) = (y : Int) := by omega
    simp [h, this]

set_option maxHeartbeats 400000 in
theorem set1 (q j x m y : Nat) (w : World) (ha : bits .or .u64 (x : Int) (m : Int) = (y : Int)) (hc : w.cell? ⟨q, j, none⟩ = some (.int .u64 (x : Int))) (hf : w.frozen? ⟨q, j, none⟩ = false) :
    Calls Tryz.prog 167 #[.pointer (some ⟨q, j, none⟩), .int .u64 (m : Int)] w fun e w' => e = .returned (.bool (!decide (x = y))) ∧ w.setCell ⟨q, j, none⟩ (.int .u64 (y : Int)) = w' := by
  have hb := bne_nat x y
  go_enter Tryz.func167, Tryz.ntmps167
  go_wp2
  go_ret
  exact ⟨rfl, rfl⟩

theorem pow64 (k : Nat) (hk : k < 64) : 2 ^ k < 18446744073709551616 := by
  have h : (2 : Nat) ^ k < 2 ^ 64 := Nat.pow_lt_pow_right (by decide) hk
  exact h

set_option maxHeartbeats 1000000 in
theorem at_has (p q n i L c x : Nat) (S : Nat → Bool) (w : World) (hi : i < n) (hn : n ≤ 65536) (hL : L = (n + 63) / 64) (hA : At w p q n (i / 64) S L c x) :
    Calls Tryz.prog 166 #[.pointer (some ⟨p, 0, none⟩), .int .i64 (i : Int), .func (.func 179) #[] #[]] w fun e w' => e = .returned (.bool (!decide (x &&& 2 ^ (i % 64) = 0))) ∧ w.drew = w' := by
  have hd := hA.hd
  have sl := hA.sl
  have fz := hA.fz
  have hs := Lib.hid (size_of w p n hd)
  have hsh := shl1 (i % 64) (Nat.mod_lt _ (by decide))
  have hm := pow64 (i % 64) (Nat.mod_lt _ (by decide))
  have h1 : ∀ w' : World, w'.cell? ⟨q, i / 64, none⟩ = some (.int .u64 (x : Int)) → w'.frozen? ⟨q, i / 64, none⟩ = false → _ := fun w' hw _ => has1 q (i / 64) x (2 ^ (i % 64)) w' hm hA.lt hw
  generalize hmm : 2 ^ (i % 64) = m at *
  have H1 := Lib.hid h1
  have wd := hA.wd
  have hil : i / 64 < L := by omega
  clear hA h1 hd hL hm hmm
  obtain ⟨j, hj⟩ : ∃ j, i / 64 = j := ⟨_, rfl⟩
  obtain ⟨k, hk⟩ : ∃ k, i % 64 = k := ⟨_, rfl⟩
  rw [hj] at hil wd fz H1
  try rw [hj]
  rw [hk] at hsh
  have k1 : IntKind.i64.wrap ((i : Int) / 64) = (j : Int) := by rw [IntWalk.i64_in _ (by omega)]; omega
  have k2 : (i : Int) % 64 = (k : Int) := by omega
  have k3 : (i : Int).tmod 64 = (k : Int) := by rw [Int.tmod_eq_emod_of_nonneg (by omega)]; exact k2
  have K1 := Lib.hid k1
  have K2 := Lib.hid k2
  have K3 := Lib.hid k3
  clear hj hk k1 k2 k3
  go_enter Tryz.func166, Tryz.ntmps166
  go_wp2_with (go_at_call 138; refine hs.out.mono ?_; rintro e w' ⟨rfl, rfl⟩)
  have k1 := K1.out
  have k2 := K2.out
  have k3 := K3.out
  go_still_tail 11, (by kernel_rfl)
  go_wp2_with (go_at_call 179; refine (H1.out w.drew wd fz).mono ?_; rintro e w' ⟨rfl, rfl⟩)
  go_ret
  exact ⟨rfl, rfl⟩

set_option maxHeartbeats 1000000 in
theorem at_set (p q n i L c x y : Nat) (S : Nat → Bool) (w : World) (hi : i < n) (hn : n ≤ 65536) (hL : L = (n + 63) / 64) (hA : At w p q n (i / 64) S L c x) (hy : bits .or .u64 (x : Int) ((2 ^ (i % 64) : Nat) : Int) = (y : Int)) :
    Calls Tryz.prog 166 #[.pointer (some ⟨p, 0, none⟩), .int .i64 (i : Int), .func (.func 167) #[] #[]] w fun e w' => e = .returned (.bool (!decide (x = y))) ∧ (w.setCell ⟨q, i / 64, none⟩ (.int .u64 (y : Int))).drew = w' := by
  have hd := hA.hd
  have sl := hA.sl
  have fz := hA.fz
  have hs := Lib.hid (size_of w p n hd)
  have hsh := shl1 (i % 64) (Nat.mod_lt _ (by decide))
  have hm := pow64 (i % 64) (Nat.mod_lt _ (by decide))
  have h1 : ∀ w' : World, w'.cell? ⟨q, i / 64, none⟩ = some (.int .u64 (x : Int)) → w'.frozen? ⟨q, i / 64, none⟩ = false → _ := fun w' hw hf => set1 q (i / 64) x (2 ^ (i % 64)) y w' hy hw hf
  generalize hmm : 2 ^ (i % 64) = m at *
  have H1 := Lib.hid h1
  have wd := hA.wd
  have hil : i / 64 < L := by omega
  clear hA h1 hd hL hm hmm hy
  obtain ⟨j, hj⟩ : ∃ j, i / 64 = j := ⟨_, rfl⟩
  obtain ⟨k, hk⟩ : ∃ k, i % 64 = k := ⟨_, rfl⟩
  rw [hj] at hil wd fz H1
  try rw [hj]
  rw [hk] at hsh
  have k1 : IntKind.i64.wrap ((i : Int) / 64) = (j : Int) := by rw [IntWalk.i64_in _ (by omega)]; omega
  have k2 : (i : Int) % 64 = (k : Int) := by omega
  have k3 : (i : Int).tmod 64 = (k : Int) := by rw [Int.tmod_eq_emod_of_nonneg (by omega)]; exact k2
  have K1 := Lib.hid k1
  have K2 := Lib.hid k2
  have K3 := Lib.hid k3
  clear hj hk k1 k2 k3
  go_enter Tryz.func166, Tryz.ntmps166
  go_wp2_with (go_at_call 138; refine hs.out.mono ?_; rintro e w' ⟨rfl, rfl⟩)
  have k1 := K1.out
  have k2 := K2.out
  have k3 := K3.out
  go_still_tail 11, (by kernel_rfl)
  go_wp2_with (go_at_call 167; refine (H1.out w.drew wd fz).mono ?_; rintro e w' ⟨rfl, rfl⟩)
  go_ret
  exact ⟨rfl, rfl⟩

end Go.Proofs.YtolpgpphjnkehaaGreatDoor.Bit
/- Has, Set, Clear, Count, Low of a set as it lies in memory. -/
namespace Go.Proofs.YtolpgpphjnkehaaGreatDoor.Bit
set_option maxRecDepth 20000
open Go.RowKit Bts

def ins (S : Nat → Bool) (n : Nat) (i : Int) : Nat → Bool := fun j => S j || (decide ((j : Int) = i) && decide (j < n))
def del (S : Nat → Bool) (i : Int) : Nat → Bool := fun j => S j && !decide ((j : Int) = i)
def setB (S : Nat → Bool) (n : Nat) (i : Int) : Bool := decide (0 ≤ i) && decide (i < n) && !S i.toNat

theorem bit_of {w : World} {p q n i L c x : Nat} {S : Nat → Bool} (hA : At w p q n (i / 64) S L c x) : x.testBit (i % 64) = S i := by
  rw [hA.bit _ (Nat.mod_lt _ (by decide)), show 64 * (i / 64) + i % 64 = i by omega]

theorem or_same (x k : Nat) : x = x ||| 2 ^ k ↔ x.testBit k = true := by
  constructor
  · intro h
    rw [h, Nat.testBit_or, Nat.testBit_two_pow]; simp
  · intro h
    apply Nat.eq_of_testBit_eq
    intro j
    rw [Nat.testBit_or, Nat.testBit_two_pow]
    by_cases e : k = j
    · subst e; simp [h]
    · simp [e]
theorem xor_same (x k : Nat) : x = x ^^^ (x &&& 2 ^ k) ↔ x.testBit k = false := by
  constructor
  · intro h
    have := congrArg (fun y => Nat.testBit y k) h
    simp only [Nat.testBit_xor, Nat.testBit_and, Nat.testBit_two_pow] at this
    cases hx : x.testBit k <;> simp [hx] at this ⊢
  · intro h
    apply Nat.eq_of_testBit_eq
    intro j
    rw [Nat.testBit_xor, Nat.testBit_and, Nat.testBit_two_pow]
    by_cases e : k = j
    · subst e; simp [h]
    · simp [e]

theorem grown_sd (w : World) (q j : Nat) (v : Value) : w.grownBy (w.setCell ⟨q, j, none⟩ v).drew (some q) := grown_trans (grown_set w q j v) (grown_drew _ _)

theorem has_any (p q n : Nat) (i : Int) (S : Nat → Bool) (w : World) (h : Bs w p q n S) :
    Calls Tryz.prog 139 #[.pointer (some ⟨p, 0, none⟩), .int .i64 i] w fun e w' => e = .returned (.bool (hasB S n i)) ∧ (w' = w ∨ w' = w.drew) := by
  by_cases hi : 0 ≤ i ∧ i < n
  · obtain ⟨i, rfl⟩ : ∃ k : Nat, i = k := ⟨i.toNat, by omega⟩
    have hin : i < n := by omega
    obtain ⟨L, c, x, hL, hc1, hc2, hA, _⟩ := h.at_ hin
    have hc := at_has p q n i L c x S w hin h.top hL hA
    have hr : (!decide (x &&& 2 ^ (i % 64) = 0)) = hasB S n (i : Int) := by
      rw [hasB_in S n i hin, ← bit_of hA]
      have := and_bit x (i % 64)
      by_cases e : x.testBit (i % 64) = true
      · rw [e] at this ⊢; simp [this]
      · have e' : x.testBit (i % 64) = false := by simpa using e
        rw [e'] at this ⊢; simp [this]
    rw [hr] at hc
    have H := Lib.hid hc
    clear hc hr hA h hi hin hL hc1 hc2
    go_enter Tryz.func139, Tryz.ntmps139
    go_wp2_with (go_at_call 166; refine H.out.mono ?_; rintro e w' ⟨rfl, rfl⟩)
    go_ret
    exact ⟨rfl, .inr rfl⟩
  · have hc := at_out (.func (.func 179) #[] #[]) p n i w h.head (by omega)
    have hr := hasB_out S n i (by omega)
    rw [← hr] at hc
    have H := Lib.hid hc
    clear hc hr h hi
    go_enter Tryz.func139, Tryz.ntmps139
    go_wp2_with (go_at_call 166; refine H.out.mono ?_; rintro e w' ⟨rfl, rfl⟩)
    go_ret
    exact ⟨rfl, .inl rfl⟩

theorem has_nil (i : Int) (w : World) :
    Calls Tryz.prog 139 #[.pointer none, .int .i64 i] w fun e w' => e = .returned (.bool false) ∧ w = w' := by
  have H := Lib.hid (at_nil (.func (.func 179) #[] #[]) i w)
  go_enter Tryz.func139, Tryz.ntmps139
  go_wp2_with (go_at_call 166; refine H.out.mono ?_; rintro e w' ⟨rfl, rfl⟩)
  go_ret
  exact ⟨rfl, rfl⟩
theorem set_nil (i : Int) (w : World) :
    Calls Tryz.prog 114 #[.pointer none, .int .i64 i] w fun e w' => e = .returned (.bool false) ∧ w = w' := by
  have H := Lib.hid (at_nil (.func (.func 167) #[] #[]) i w)
  go_enter Tryz.func114, Tryz.ntmps114
  go_wp2_with (go_at_call 166; refine H.out.mono ?_; rintro e w' ⟨rfl, rfl⟩)
  go_ret
  exact ⟨rfl, rfl⟩
theorem or_lt (x k : Nat) (hx : x < 18446744073709551616) (hk : k < 64) : x ||| 2 ^ k < 18446744073709551616 :=
  Nat.or_lt_two_pow (n := 64) hx (Nat.pow_lt_pow_right (by decide) hk)

theorem set_any (p q n : Nat) (i : Int) (S : Nat → Bool) (w : World) (h : Bs w p q n S) :
    Calls Tryz.prog 114 #[.pointer (some ⟨p, 0, none⟩), .int .i64 i] w fun e w' => e = .returned (.bool (setB S n i)) ∧ Bs w' p q n (ins S n i) ∧ w.grownBy w' (some q) := by
  by_cases hi : 0 ≤ i ∧ i < n
  · obtain ⟨i, rfl⟩ : ∃ k : Nat, i = k := ⟨i.toNat, by omega⟩
    have hin : i < n := by omega
    obtain ⟨L, c, x, hL, hc1, hc2, hA, hset⟩ := h.at_ hin
    have hk : i % 64 < 64 := Nat.mod_lt _ (by decide)
    have hc := at_set p q n i L c x (x ||| 2 ^ (i % 64)) S w hin h.top hL hA (bits_or_u64_nat _ _ hA.lt (pow64 _ hk))
    have hr : (!decide (x = x ||| 2 ^ (i % 64))) = setB S n (i : Int) := by
      have e := or_same x (i % 64)
      rw [bit_of hA] at e
      simp only [setB, Int.toNat_natCast]
      cases hS : S i
      · rw [hS] at e; simp [e, hi]
      · rw [hS] at e; simpa using e.2 rfl
    rw [hr] at hc
    have hT := hset (x ||| 2 ^ (i % 64)) (or_lt _ _ hA.lt hk) (ins S n (i : Int)) (fun k hk => by
        rw [Nat.testBit_or, Nat.testBit_two_pow, hA.bit k hk]
        simp only [ins]
        by_cases e : i % 64 = k
        · have e2 : 64 * (i / 64) + k = i := by omega
          simp [e, e2, hin]
        · have e2 : ¬ ((64 * (i / 64) + k : Nat) : Int) = (i : Int) := by omega
          simp only [e, e2, decide_false, Bool.false_and])
      (fun j hj => by
        have : ¬ ((j : Int) = (i : Int)) := fun e => hj (by rw [show j = i by omega])
        simp [ins, this])
      (fun j hj => by
        have : ¬ (j < n) := by omega
        simp [ins, this, h.out j hj])
    have HT := Lib.hid (hT.kept (grown_drew _ none) (by simp) (by simp))
    have H := Lib.hid hc
    clear hc hr hA h hi hin hL hc1 hc2 hset hT
    go_enter Tryz.func114, Tryz.ntmps114
    go_wp2_with (go_at_call 166; refine H.out.mono ?_; rintro e w' ⟨rfl, rfl⟩)
    go_ret
    exact ⟨rfl, HT.out, grown_sd _ _ _ _⟩
  · have hc := at_out (.func (.func 167) #[] #[]) p n i w h.head (by omega)
    have hr : setB S n i = false := by
      simp only [setB, Bool.and_eq_false_iff, decide_eq_false_iff_not]; omega
    rw [← hr] at hc
    have HT := Lib.hid (h.congr (T := ins S n i) fun j => by
      have : (decide ((j : Int) = i) && decide (j < n)) = false := by simp only [Bool.and_eq_false_iff, decide_eq_false_iff_not]; omega
      simp [ins, this])
    have H := Lib.hid hc
    clear hc hr h hi
    go_enter Tryz.func114, Tryz.ntmps114
    go_wp2_with (go_at_call 166; refine H.out.mono ?_; rintro e w' ⟨rfl, rfl⟩)
    go_ret
    exact ⟨rfl, HT.out, World.grownBy.refl w _⟩

end Go.Proofs.YtolpgpphjnkehaaGreatDoor.Bit
