/- Blocks, octets and sums: contracts. -/
import Derived.Test.YtolpgpphjnkehaaGreatDoorRows
import Derived.WalkKit
import Derived.WalkSpells
import Derived.WalkLawsBesides
import Derived.Laws.CopyOwn
import Derived.Laws.MakeOwn
import Derived.Lib.Hide
import Derived.RangeFuncBox
import Derived.Deep.Draws
import Derived.Lib.BufferRead
import Derived.ProofKit
import Derived.Maps.AppendAt
import Derived.LoopTactic
import Derived.Outline
import Derived.RangeFuncNested
import Derived.RangeFuncBound
import Derived.RangeFuncCalls
import Derived.RangeFuncLeaves
import Derived.Shelf.Abstract
import Derived.Shelf.RegionOpen
import Derived.OwnWalkIn
import Derived.TacticsInMore
import Derived.LoopNIn
import Derived.LoopIn
import Derived.StillTailTactics
import Derived.BigQuiet
import Derived.Deep.QuietTactic
import Derived.RegionTactic
import Derived.ChangeAlike
import Derived.IntWalk
import Derived.BigRegionIn
import Derived.Deep.DeepHandedRow
import Derived.Lib.LaidTab
import Derived.Deep.RegionHeld
import Derived.Laws.Cover3
/- Words for memory: a block known whole; a slice value that reads as a list of bytes; a made row of bytes. -/
namespace Go.Proofs.YtolpgpphjnkehaaGreatDoor.Blo
set_option maxRecDepth 20000
open Go.RowKit

def Blk (w : World) (g : Nat) (t : TypeId) (cs : Array Value) : Prop := w.heap[g]? = some (.cells cs t (0, 0))

section
variable {w w' : World} {g : Nat} {t : TypeId} {cs : Array Value}
theorem Blk.lt (h : Blk w g t cs) : g < w.heap.size := by
  rcases Nat.lt_or_ge g w.heap.size with hlt | hge
  · exact hlt
  · unfold Blk at h; rw [Array.getElem?_eq_none hge] at h; cases h
theorem Blk.cell (h : Blk w g t cs) (i : Nat) : w.cell? ⟨g, i, none⟩ = cs[i]? := cell_of_row w g i cs t (0, 0) h
theorem Blk.frozen (h : Blk w g t cs) (i : Nat) : w.frozen? ⟨g, i, none⟩ = false := by
  unfold Blk at h
  simp [World.frozen?, h]
theorem Blk.new (w : World) (t : TypeId) (cs : Array Value) : Blk (w.alloc (.cells cs t)) w.heap.size t cs := heap_alloc_new w _
theorem Blk.drew (h : Blk w g t cs) : Blk w.drew g t cs := h
theorem Blk.drewN (h : Blk w g t cs) (n : Nat) : Blk (w.drewN n) g t cs := h
theorem Blk.alloc (h : Blk w g t cs) (o : Obj) : Blk (w.alloc o) g t cs := (Below.heap_alloc w o g h.lt).trans h
theorem Blk.set_ (h : Blk w g t cs) (i : Nat) (u : Value) : Blk (w.setCell ⟨g, i, none⟩ u) g t (cs.setIfInBounds i u) := by
  unfold Blk at h ⊢
  simp [World.setCell, Array.getElem?_modify, h]
theorem Blk.far (h : Blk w g t cs) {p : Addr} (hp : g ≠ p.block) (u : Value) : Blk (w.setCell p u) g t cs := (Below.heap_setCell w p u g hp).trans h
theorem Blk.below {B : Nat} (h : Blk w g t cs) (hb : Below B w w') (hg : g < B) : Blk w' g t cs := (hb.block g hg).trans h
theorem Blk.grown {row : Option Nat} (h : Blk w g t cs) (hb : w.grownBy w' row) (hg : some g ≠ row) : Blk w' g t cs := (hb.block g h.lt hg).trans h
theorem Blk.kept {row : Option Nat} (h : Blk w g t cs) (hg : w.grownBy w' row) (hr : ∀ r, row = some r → ∃ o : Obj, w.heap[r]? = some o ∧ o.isCells = false) : Blk w' g t cs :=
  h.grown hg fun e => by
    obtain ⟨o, ho, hc⟩ := hr g e.symm
    rw [show w.heap[g]? = _ from h] at ho; cases ho; cases hc
theorem Blk.putObj (h : Blk w g t cs) {l : Nat} {o : Obj} (o' : Obj) (hl : w.heap[l]? = some o) (ho : o.isCells = false) : Blk (w.putObj l o') g t cs :=
  h.kept (grownBy_putObj' w l o') (fun r e => by cases e; exact ⟨o, hl, ho⟩)
end

/-- A byte as a value. -/
def bv (c : UInt8) : Value := .int .u8 (c.toNat : Int)
theorem bv_one (c : UInt8) : (bv c).oneCell' = true := rfl

/-- What a slice value of bytes reads as. -/
def Bytes (w : World) (A : Option Addr) (bs : List UInt8) : Prop :=
  ∀ (k : Nat) (c : UInt8), bs[k]? = some c → ∃ b off, A = some ⟨b, off, none⟩ ∧ b < w.heap.size ∧ w.cell? ⟨b, off + k, none⟩ = some (.int .u8 (c.toNat : Int))

theorem Bytes.nil (w : World) (A : Option Addr) : Bytes w A [] := fun k c h => by simp at h
theorem Bytes.below {w w' : World} {A : Option Addr} {bs : List UInt8} (h : Bytes w A bs) (hb : Below w.heap.size w w') : Bytes w' A bs := fun k c hk => by
  obtain ⟨b, off, e, hlt, hc⟩ := h k c hk
  exact ⟨b, off, e, Nat.lt_of_lt_of_le hlt hb.size, (hb.cell (p := ⟨b, off + k, none⟩) hlt).trans hc⟩
theorem Bytes.of_blk {w : World} {g : Nat} {t : TypeId} {cs : Array Value} {bs : List UInt8} (h : Blk w g t cs) (hcs : ∀ (k : Nat) (c : UInt8), bs[k]? = some c → cs[k]? = some (bv c)) : Bytes w (some ⟨g, 0, none⟩) bs := fun k c hk =>
  ⟨g, 0, rfl, h.lt, by rw [Nat.zero_add, h.cell, hcs k c hk]; rfl⟩
theorem Bytes.at_ {w : World} {A : Option Addr} {bs : List UInt8} (h : Bytes w A bs) {k : Nat} (hk : k < bs.length) : ∃ b off, A = some ⟨b, off, none⟩ ∧ b < w.heap.size ∧ ∀ (j : Nat) (c : UInt8), bs[j]? = some c → w.cell? ⟨b, off + j, none⟩ = some (.int .u8 (c.toNat : Int)) := by
  obtain ⟨b, off, rfl, hlt, _⟩ := h k bs[k] (List.getElem?_eq_getElem hk)
  refine ⟨b, off, rfl, hlt, fun j c hj => ?_⟩
  obtain ⟨b', off', e, _, hc⟩ := h j c hj
  cases e
  exact hc

/-- A made row of n bytes. -/
def mk8 (n : Nat) : Array Value := madeCells #[.int .u8 0] n
theorem mk8_list (n : Nat) : (mk8 n).toList = List.replicate n (bv 0) := by
  apply List.ext_getElem
  · simp [mk8, madeCells]
  · intro i h1 h2
    simp [mk8, madeCells, bv, Nat.mod_one]
theorem mk8_eq (n : Nat) : mk8 n = (List.replicate n (bv 0)).toArray := by
  rw [← mk8_list]

theorem Tryz.info8 : (Tryz.prog.info? 5).map (fun i => (i.zero, i.size, i.bytes)) = some (some (.int .u8 0), 1, 1) := by kernel_rfl

theorem run_mk8 (n : Nat) (hn : n ≤ 281474976710656) (w : World) :
    (Instr.makeSlice 32 (.int .i64 (n : Int)) (.int .i64 (n : Int))).run Tryz.prog w = .ok (.slice (some ⟨w.heap.size, 0, none⟩) n n) (w.alloc (.cells (mk8 n) 5)) := by
  obtain ⟨i0, hi, hz0, hz1, hz2⟩ := info_parts Tryz.info8
  have h := run_make (P := Tryz.prog) w 32 5 i0 (.int .u8 0) Tryz.underlying32 hi hz0 .i64 .i64 (n : Int) (n : Int) (by omega) (by omega) (by rw [hz2]; omega) (by omega)
  simpa [hz1, mk8, Value.cells] using h

theorem Tryz.size8 : (Tryz.prog.info? 5).map (·.size) = some 1 := by kernel_rfl

/-- copy of a whole slice of bytes to the front of a row of the call's own. -/
theorem run_copy8 (w : World) (ty : TypeId) (g m c : Nat) (A : Option Addr) (cap : Nat) (bs : List UInt8) (cur : List Value) (hA : Bytes w A bs) (hR : Blk w g 5 cur.toArray) (hm : bs.length ≤ m) (hc : m ≤ cur.length) :
    ∃ w', (Builtin.copy_ #[32, 32] ty #[.slice (some ⟨g, 0, none⟩) m c, .slice A bs.length cap]).run Tryz.prog w = .ok (goInt bs.length) w' ∧
      Blk w' g 5 (bs.map bv ++ cur.drop bs.length).toArray ∧ w.grownBy w' (some g) ∧ w'.heap.size = w.heap.size := by
  rcases Nat.eq_zero_or_pos bs.length with h0 | h0
  · obtain rfl : bs = [] := List.eq_nil_of_length_eq_zero h0
    exact ⟨w, run_copy_none (P := Tryz.prog) w _ _ ty 5 _ _ _ _ _ _ Tryz.underlying32 Tryz.size8 (by simp), by simpa using hR, World.grownBy.refl w _, rfl⟩
  · obtain ⟨b, off, rfl, hb, hcell⟩ := hA.at_ h0
    have hrun := run_copy_row (P := Tryz.prog) w 32 32 ty 5 g 0 m c ⟨b, off, none⟩ bs.length cap cur.toArray 5 (bs.map bv) Tryz.underlying32 Tryz.size8 hR (by rw [List.length_map]; exact (Nat.min_eq_left hm).symm)
      (fun j v hv => by
        rw [List.getElem?_map] at hv
        cases hj : bs[j]? with
        | none => rw [hj] at hv; cases hv
        | some d =>
          rw [hj] at hv
          simp only [Option.map_some, Option.some.injEq] at hv
          subst hv
          have e : (⟨b, off, none⟩ : Addr).add j = ⟨b, off + j, none⟩ := by unfold Addr.add; split <;> simp_all
          rw [e]; exact hcell j d hj)
      (by simp; omega) (fun v hv => by obtain ⟨d, _, rfl⟩ := List.mem_map.1 hv; rfl)
    refine ⟨_, by simpa using hrun, ?_, ?_, by simp [World.setRow]⟩
    · have := setRow_heap w g cur.toArray (cur.take 0 ++ bs.map bv ++ cur.drop (0 + (bs.map bv).length)).toArray 5 (0, 0) hR
      simpa [Blk] using this
    · exact ⟨rfl, rfl, rfl, by simp [World.setRow], fun k hk hne => setRow_other w g k _ (fun e => hne (by rw [e]))⟩

/-- The cells of a row of bytes. -/
def row8 (bs : List UInt8) : Array Value := (bs.map bv).toArray

theorem row8_get {bs : List UInt8} (k : Nat) (c : UInt8) (h : bs[k]? = some c) : (row8 bs)[k]? = some (bv c) := by
  unfold row8
  simp [h]
theorem Bytes.row {w : World} {g : Nat} {t : TypeId} {bs : List UInt8} (h : Blk w g t (row8 bs)) : Bytes w (some ⟨g, 0, none⟩) bs := Bytes.of_blk h (fun k c hk => row8_get k c hk)

/-- What the walk is told of a slice of integers that came in. -/
def IsRow (k : IntKind) (w : World) (a : Option Addr) (len cap : Nat) (zs : List Int) : Prop :=
  (a = none ∧ len = 0 ∧ cap = 0 ∧ zs = []) ∨
  ∃ x, a = some x ∧ len ≤ cap ∧ cap ≤ maxLen ∧ zs.length = cap ∧ (∀ i, i < zs.length → w.cell? (x.add i) = some (.int k (zs.getD i 0))) ∧ ∀ n ∈ zs, (Lit.int k n).wf = true

theorem wf_u8 {n : Int} (h : (Lit.int .u8 n).wf = true) : 0 ≤ n ∧ n ≤ 255 := by
  have h' := h
  simp [Lit.wf, IntKind.min, IntKind.max, IntKind.bits, IntKind.signed] at h'
  omega
theorem wf_u16 {n : Int} (h : (Lit.int .u16 n).wf = true) : ∃ m : Nat, n = m ∧ m < 65536 := by
  have h' := h
  simp [Lit.wf, IntKind.min, IntKind.max, IntKind.bits, IntKind.signed] at h'
  exact ⟨n.toNat, by omega, by omega⟩

theorem wf_u8n {n : Int} (h : (Lit.int .u8 n).wf = true) : ∃ m : Nat, n = m ∧ m < 256 := by
  have h' := wf_u8 h
  exact ⟨n.toNat, by omega, by omega⟩
theorem wf_u64 {n : Int} (h : (Lit.int .u64 n).wf = true) : ∃ m : Nat, n = m ∧ m < 18446744073709551616 := by
  have h' := h
  simp [Lit.wf, IntKind.min, IntKind.max, IntKind.bits, IntKind.signed] at h'
  exact ⟨n.toNat, by omega, by omega⟩
theorem wf_i64 {n : Int} (h : (Lit.int .i64 n).wf = true) : -9223372036854775808 ≤ n ∧ n < 9223372036854775808 := by
  have h' := h
  simp [Lit.wf, IntKind.min, IntKind.max, IntKind.bits, IntKind.signed] at h'
  omega

theorem bytes_of_row8 {w : World} {a : Option Addr} {len cap : Nat} {zs : List Int} (h : IsRow .u8 w a len cap zs) : ∃ bs : List UInt8, bs.length = len ∧ Bytes w a bs ∧ len ≤ maxLen := by
  rcases h with ⟨rfl, rfl, rfl, rfl⟩ | ⟨x, rfl, hl, hm, hz, hc, hw⟩
  · exact ⟨[], rfl, Bytes.nil _ _, Nat.zero_le _⟩
  · refine ⟨(zs.take len).map fun z => UInt8.ofNat z.toNat, by simp; omega, fun k c hk => ?_, Nat.le_trans hl hm⟩
    rw [List.getElem?_map] at hk
    have hkl : k < len := by
      rcases Nat.lt_or_ge k len with h | h
      · exact h
      · rw [List.getElem?_eq_none (by simp; omega)] at hk; cases hk
    have hkz : k < zs.length := by omega
    rw [List.getElem?_take_of_lt hkl, List.getElem?_eq_getElem hkz] at hk
    simp only [Option.map_some, Option.some.injEq] at hk
    have hcell := hc k hkz
    have hcell0 := hc 0 (by omega)
    obtain ⟨b, off, spot⟩ := x
    have hspot : spot = none := by simpa [Addr.add] using World.cell?_spot hcell0
    subst hspot
    have e : (⟨b, off, none⟩ : Addr).add k = ⟨b, off + k, none⟩ := by unfold Addr.add; split <;> simp_all
    rw [e] at hcell
    have hwf := wf_u8 (hw zs[k] (List.getElem_mem hkz))
    have hg : zs.getD k 0 = zs[k] := by simp [List.getD, hkz]
    refine ⟨b, off, rfl, World.block_lt_of_cell? w _ hcell, ?_⟩
    rw [hcell, hg, ← hk, UInt8.toNat_ofNat']
    congr 2
    omega

/-- A text. -/
def str (bs : List UInt8) : ByteArray := ⟨bs.toArray⟩
theorem str_toList (bs : List UInt8) : (str bs).toList = bs := by
  unfold str
  simp [ByteArray.toList_eq]
theorem str_eq {a b : List UInt8} (h : a = b) : ((str a).toList == (str b).toList) = true := by rw [h]; simp
theorem run_str8 (w : World) (A : Option Addr) (cap : Nat) (bs : List UInt8) (hA : Bytes w A bs) :
    (convert 32 9 (.slice A bs.length cap)).run Tryz.prog w = .ok (.string (str bs)) w := by
  rcases Nat.eq_zero_or_pos bs.length with h0 | h0
  · obtain rfl : bs = [] := List.eq_nil_of_length_eq_zero h0
    cases A with
    | none => exact Lib.run_convert_nil_bytes w _ _ 5 cap Tryz.underlying32 Tryz.underlying5 Tryz.underlying9
    | some a => exact run_convert_bytes_back w _ _ 5 a cap [] Tryz.underlying32 Tryz.underlying5 Tryz.underlying9 (fun j hj => by simp at hj)
  · obtain ⟨b, off, rfl, _, hc⟩ := hA.at_ h0
    exact run_convert_bytes_back w _ _ 5 ⟨b, off, none⟩ cap bs Tryz.underlying32 Tryz.underlying5 Tryz.underlying9 (fun j hj => by
      have e : (⟨b, off, none⟩ : Addr).add j = ⟨b, off + j, none⟩ := by unfold Addr.add; split <;> simp_all
      rw [e]; exact hc j _ (List.getElem?_eq_getElem hj))

theorem run_str8L (w : World) (A : Option Addr) (len cap : Nat) (bs : List UInt8) (hl : bs.length = len) (hA : Bytes w A bs) :
    (convert 32 9 (.slice A len cap)).run Tryz.prog w = .ok (.string (str bs)) w := by subst hl; exact run_str8 w A cap bs hA

theorem own_below {w w' : World} {base : Nat} {e : TypeId} {size : Nat} {v : Value} {n : Nat} {xs : List Value} (h : w.ownsRow base e size v n xs) (hb : Below w.heap.size w w') : w'.ownsRow base e size v n xs :=
  h.kept (row := none) ⟨hb.os, hb.tape, hb.output, hb.size, fun k hk _ => hb.block k hk⟩ (by cases v.ownBlock <;> simp)

/-- append, where its run is known. -/
theorem wpList_app {P : Program} {w : World} {ops : Array Oper} {rest : List Oper} {o : Oper} {a : Act} {Q : Exit → Act → World → Prop} (hgd : o.guard = none) (s x : Operand) (t : TypeId)
    (ho : o.op = .call { callee := .builtin .append, args := #[s, x], argTypes := #[t, t] }) (v xv v' : Value) (w' : World) (hs : a.eval s = v) (hx : a.eval x = xv)
    (hrun : (Builtin.append_ #[t, t] o.type #[v, xv]).run P w = .ok v' w') (h : wpList P ops Q rest (a.put o.dst v') w') : wpList P ops Q (o :: rest) a w :=
  wpList_plain hgd fun K hK => by
    unfold Oper.wp execOp
    simp only [ho, resolve, invoke, builtin, Sem.run_bind, Sem.run_pure, Result.andThen_ok, List.map_toArray, List.map_cons, List.map_nil, hs, hx, hrun]
    exact hK _ _ h

/-- append of bytes to a row of the call's own. -/
theorem run_app8 (w : World) (base : Nat) (v : Value) (n : Nat) (xs : List UInt8) (hown : w.ownsRow base 5 1 v n (xs.map bv)) (A : Option Addr) (len c : Nat) (bs : List UInt8) (hlen : bs.length = len) (hA : Bytes w A bs)
    (hb : n + len ≤ 140737488355328) (hbase : base ≤ w.heap.size) :
    ∃ v' w', (Builtin.append_ #[32, 32] 32 #[v, .slice A len c]).run Tryz.prog w = .ok v' w' ∧ w'.ownsRow base 5 1 v' (n + len) ((xs ++ bs).map bv) ∧ w.grownBy w' v.ownBlock := by
  obtain ⟨i0, hi, hz0, hz1, hz2⟩ := info_parts Tryz.info8
  have hcells : ∀ (a : Addr), A = some a → ∀ (j : Nat) (u : Value), (bs.map bv)[j]? = some u → w.cell? (a.add j) = some u := fun a e j u hu => by
    rw [List.getElem?_map] at hu
    cases hj : bs[j]? with
    | none => rw [hj] at hu; cases hu
    | some d =>
      rw [hj] at hu
      simp only [Option.map_some, Option.some.injEq] at hu
      subst hu
      obtain ⟨b, off, e', _, hc⟩ := hA j d hj
      rw [e] at e'; cases e'
      have e2 : (⟨b, off, none⟩ : Addr).add j = ⟨b, off + j, none⟩ := by unfold Addr.add; split <;> simp_all
      rw [e2]; exact hc
  have h1 : ∀ u ∈ bs.map bv, u.oneCell' = true := fun u hu => by obtain ⟨d, _, rfl⟩ := List.mem_map.1 hu; rfl
  cases A with
  | some a =>
    obtain ⟨v', w', hrun, h2, h3, _, _⟩ := run_append_own_at (P := Tryz.prog) w base 32 32 5 i0 (.int .u8 0) 1 1 Tryz.underlying32 hi hz0 hz1 hz2 rfl (by decide) v n (xs.map bv) hown a len c (bs.map bv) (by simp; omega) (hcells a rfl) h1 (by unfold maxLen; omega) (by omega) hbase
    exact ⟨v', w', hrun, by rw [List.map_append]; exact h2, h3⟩
  | none =>
    have h0 : bs = [] := by
      cases bs with
      | nil => rfl
      | cons d r =>
        obtain ⟨b, off, e, _⟩ := hA 0 d rfl
        cases e
    subst h0
    obtain rfl : 0 = len := hlen
    refine ⟨v, w, ?_, by simpa using hown, World.grownBy.refl w _⟩
    rcases hown.2 with ⟨rfl, rfl⟩ | ⟨g, cap, cur, rfl, _, _, hnc, _⟩
    · simp [Builtin.append_, run_underlying Tryz.underlying32, sizeOf, typeInfo, hi, Builtin.lenOf, Builtin.firstCells]
    · simp [Builtin.append_, run_underlying Tryz.underlying32, sizeOf, typeInfo, hi, Builtin.lenOf, Builtin.firstCells, hnc, storeCells]

theorem Bytes.of_own {w : World} {base n : Nat} {t : TypeId} {A : Option Addr} {c : Nat} {bs : List UInt8} (h : w.ownsRow base t 1 (.slice A n c) n (bs.map bv)) : Bytes w A bs := fun k d hk => by
  rcases h.2 with ⟨e, rfl⟩ | ⟨g, cap, cur, e, hb, hg, hn, hm, hs, ht⟩
  · have := h.1; simp at this; subst this; simp at hk
  · injection e with e1 e2 e3
    have hlt : g < w.heap.size := (Array.getElem?_eq_some_iff.1 hg).1
    refine ⟨g, 0, e1, hlt, ?_⟩
    have hkl : k < n := by have := h.1; simp at this; have := (List.getElem?_eq_some_iff.1 hk).1; omega
    rw [Nat.zero_add, cell_of_row w g k cur t (0, 0) hg]
    have h2 : (cur.toList.take (n * 1))[k]? = some (bv d) := by rw [ht]; simp [hk]
    rw [List.getElem?_take_of_lt (by omega)] at h2
    simpa [bv] using h2

/-- string(b) of a row of the call's own. -/
theorem run_strOwn (w : World) (base n : Nat) (v : Value) (bs : List UInt8) (h : w.ownsRow base 5 1 v n (bs.map bv)) :
    (convert 32 9 v).run Tryz.prog w = .ok (.string (str bs)) w := by
  have hl : bs.length = n := by have := h.1; simp at this; exact this
  rcases h.2 with ⟨rfl, rfl⟩ | ⟨g, cap, cur, rfl, _⟩
  · exact run_str8L w none 0 0 bs hl (Bytes.of_own h)
  · exact run_str8L w _ n cap bs hl (Bytes.of_own h)

end Go.Proofs.YtolpgpphjnkehaaGreatDoor.Blo
/- Plain mathematics of CRC-32: one bit's step is linear, and has no short period. Nothing of the program stands here. -/
namespace Go.Proofs.YtolpgpphjnkehaaGreatDoor.Blo.Crc
set_option maxRecDepth 20000

/-- The divisor, turned round, without its highest bit. -/
def poly : Nat := 3988292384
/-- One bit's step. -/
def L (x : Nat) : Nat := (x >>> 1) ^^^ (if x % 2 = 1 then poly else 0)
/-- So many steps. -/
def Ln : Nat → Nat → Nat
  | 0, x => x
  | n + 1, x => Ln n (L x)

theorem L_zero : L 0 = 0 := by decide
theorem xor_mod2 (x y : Nat) : (x ^^^ y) % 2 = (x % 2) ^^^ (y % 2) := Nat.xor_mod_two_pow (n := 1)
theorem L_xor (x y : Nat) : L (x ^^^ y) = L x ^^^ L y := by
  unfold L
  rw [Nat.shiftRight_xor_distrib, xor_mod2]
  rcases Nat.mod_two_eq_zero_or_one x with hx | hx <;> rcases Nat.mod_two_eq_zero_or_one y with hy | hy <;> simp [hx, hy]
  · simp only [Nat.xor_assoc]
  · rw [Nat.xor_assoc, Nat.xor_assoc]; congr 1; exact Nat.xor_comm _ _
  · rw [Nat.xor_assoc, ← Nat.xor_assoc poly, Nat.xor_comm poly (y >>> 1), Nat.xor_assoc, Nat.xor_self, Nat.xor_zero]
theorem L_lt {x : Nat} (h : x < 2 ^ 32) : L x < 2 ^ 32 := by
  unfold L
  refine Nat.xor_lt_two_pow ?_ ?_
  · rw [Nat.shiftRight_eq_div_pow]; omega
  · split <;> decide
theorem L_inj {x : Nat} (h : x < 2 ^ 32) (h0 : L x = 0) : x = 0 := by
  unfold L at h0
  have h1 : x >>> 1 = x / 2 := by rw [Nat.shiftRight_eq_div_pow]
  rw [h1] at h0
  split at h0
  · have e : x / 2 = poly := by
      have := congrArg (· ^^^ poly) h0
      simpa [Nat.xor_assoc] using this
    have : poly = 3988292384 := rfl
    omega
  · simp at h0
    omega
theorem L_double {x : Nat} : L (2 * x) = x := by
  unfold L
  rw [Nat.shiftRight_eq_div_pow, if_neg (by omega), Nat.xor_zero]
  omega

theorem Ln_xor (n x y : Nat) : Ln n (x ^^^ y) = Ln n x ^^^ Ln n y := by
  induction n generalizing x y with
  | zero => rfl
  | succ n ih => simp only [Ln, L_xor, ih]
theorem Ln_zero (n : Nat) : Ln n 0 = 0 := by
  induction n with
  | zero => rfl
  | succ n ih => simp only [Ln, L_zero, ih]
theorem Ln_lt (n : Nat) {x : Nat} (h : x < 2 ^ 32) : Ln n x < 2 ^ 32 := by
  induction n generalizing x with
  | zero => exact h
  | succ n ih => exact ih (L_lt h)
theorem Ln_inj (n : Nat) {x : Nat} (h : x < 2 ^ 32) (h0 : Ln n x = 0) : x = 0 := by
  induction n generalizing x with
  | zero => exact h0
  | succ n ih => exact L_inj h (ih (L_lt h) h0)
theorem Ln_add (m n x : Nat) : Ln (m + n) x = Ln n (Ln m x) := by
  induction m generalizing x with
  | zero => simp [Ln]
  | succ m ih => rw [show m + 1 + n = (m + n) + 1 by omega]; exact ih (L x)
theorem xor_eq_zero' {x y : Nat} (h : x ^^^ y = 0) : x = y := by
  have := congrArg (· ^^^ y) h
  simpa [Nat.xor_assoc] using this
theorem Ln_inj2 (n : Nat) {x y : Nat} (hx : x < 2 ^ 32) (hy : y < 2 ^ 32) (h : Ln n x = Ln n y) : x = y := by
  refine xor_eq_zero' (Ln_inj n (Nat.xor_lt_two_pow hx hy) ?_)
  rw [Ln_xor, h, Nat.xor_self]
theorem Ln_shift (n x : Nat) : Ln n (2 ^ n * x) = x := by
  induction n generalizing x with
  | zero => simp [Ln]
  | succ n ih =>
    simp only [Ln]
    rw [Nat.pow_succ, Nat.mul_comm (2 ^ n) 2, Nat.mul_assoc, L_double]
    exact ih x

/-! ### The period -/
/-- The highest bit: all others come of it by steps. -/
def e31 : Nat := 2147483648
/-- A number, as steps: of s. (k bits are still to come, the highest first.) -/
def act : Nat → Nat → Nat → Nat
  | 0, _, _ => 0
  | k + 1, v, s => (if v.testBit k then s else 0) ^^^ act k v (L s)

theorem act_xor_right (k v s t : Nat) : act k v (s ^^^ t) = act k v s ^^^ act k v t := by
  induction k generalizing s t with
  | zero => simp [act]
  | succ k ih =>
    simp only [act, L_xor, ih]
    split
    · rw [Nat.xor_assoc, Nat.xor_assoc]; congr 1
      rw [← Nat.xor_assoc, ← Nat.xor_assoc]; congr 1; exact Nat.xor_comm _ _
    · simp
theorem act_zero_right (k v : Nat) : act k v 0 = 0 := by
  induction k with
  | zero => rfl
  | succ k ih => simp [act, L_zero, ih]
theorem act_L (k v s : Nat) : L (act k v s) = act k v (L s) := by
  induction k generalizing s with
  | zero => exact L_zero
  | succ k ih =>
    simp only [act, L_xor, ih]
    split
    · rfl
    · rw [L_zero]
theorem act_Ln (n k v s : Nat) : Ln n (act k v s) = act k v (Ln n s) := by
  induction n generalizing s with
  | zero => rfl
  | succ n ih => simp only [Ln]; rw [act_L, ih]
theorem act_act (k j v u s : Nat) : act k v (act j u s) = act j u (act k v s) := by
  induction k generalizing s with
  | zero => simp [act, act_zero_right]
  | succ k ih =>
    simp only [act]
    rw [act_L, ih, act_xor_right]
    split
    · rfl
    · rw [act_zero_right]
theorem L_pow (k : Nat) : L (2 ^ (k + 1)) = 2 ^ k := by rw [Nat.pow_succ, Nat.mul_comm, L_double]
theorem act_e (k v : Nat) (hv : v < 2 ^ k) (hk : 0 < k) : act k v (2 ^ (k - 1)) = v := by
  induction k generalizing v with
  | zero => omega
  | succ k ih =>
    simp only [act, Nat.add_sub_cancel]
    cases k with
    | zero =>
      have : v = 0 ∨ v = 1 := by omega
      rcases this with rfl | rfl <;> decide
    | succ k =>
      rw [L_pow]
      have hm : act (k + 1) v (2 ^ k) = act (k + 1) (v % 2 ^ (k + 1)) (2 ^ k) := by
        have : ∀ j s, j ≤ k + 1 → act j v s = act j (v % 2 ^ (k + 1)) s := by
          intro j
          induction j with
          | zero => intros; rfl
          | succ j ihj =>
            intro s hj
            simp only [act]
            rw [ihj _ (by omega), Nat.testBit_mod_two_pow]
            simp [show j < k + 1 by omega]
        exact this _ _ (Nat.le_refl _)
      rw [hm]
      have := ih (v % 2 ^ (k + 1)) (Nat.mod_lt _ (Nat.two_pow_pos _)) (by omega)
      rw [Nat.add_sub_cancel] at this
      rw [this]
      have hd := Nat.div_add_mod v (2 ^ (k + 1))
      have hlt := Nat.mod_lt v (Nat.two_pow_pos (k + 1))
      have hq : v / 2 ^ (k + 1) < 2 := Nat.div_lt_of_lt_mul (by rw [← Nat.pow_succ]; exact hv)
      rw [Nat.testBit_eq_decide_div_mod_eq]
      have hq' : v / 2 ^ (k + 1) = 0 ∨ v / 2 ^ (k + 1) = 1 := by
        generalize v / 2 ^ (k + 1) = q at hq ⊢
        omega
      rcases hq' with h | h
      · rw [h] at hd ⊢
        simp; omega
      · rw [h] at hd ⊢
        simp only [Nat.one_mod, decide_true, if_true]
        rw [show 2 ^ (k + 1) = 1 <<< (k + 1) by rw [Nat.shiftLeft_eq, Nat.one_mul]]
        rw [show 1 <<< (k + 1) = 2 ^ (k + 1) by rw [Nat.shiftLeft_eq, Nat.one_mul]]
        have hx : 2 ^ (k + 1) ^^^ v % 2 ^ (k + 1) = 2 ^ (k + 1) + v % 2 ^ (k + 1) := by
          have ho := Nat.two_pow_add_eq_or_of_lt hlt 1
          rw [Nat.mul_one] at ho
          rw [ho]
          apply Nat.eq_of_testBit_eq
          intro i
          rw [Nat.testBit_xor, Nat.testBit_or]
          by_cases hi : i = k + 1
          · subst hi
            rw [Nat.testBit_lt_two_pow hlt]; simp
          · rw [Nat.testBit_two_pow_of_ne (by omega)]; simp
        rw [hx]; omega

theorem act_e31 {v : Nat} (hv : v < 2 ^ 32) : act 32 v e31 = v := act_e 32 v hv (by decide)

/-- What n steps do to any number hangs on what they do to the highest bit. -/
theorem Ln_act (n : Nat) {s : Nat} (hs : s < 2 ^ 32) : Ln n s = act 32 s (Ln n e31) := by
  rw [← act_Ln, act_e31 hs]

/-- Twice as many steps, and one. -/
theorem step2 {m v : Nat} (h : Ln m e31 = v) (hv : v < 2 ^ 32) : Ln (2 * m + 1) e31 = L (act 32 v v) := by
  have e : Ln (2 * m) e31 = act 32 v v := by
    rw [show 2 * m = m + m by omega, Ln_add, h, Ln_act m hv, h]
  have : Ln (2 * m + 1) e31 = L (Ln (2 * m) e31) := by rw [Ln_add]; rfl
  rw [this, e]

def dbl : Nat → Nat × Nat
  | 0 => (1, L e31)
  | k + 1 => let p := dbl k; (2 * p.1 + 1, L (act 32 p.2 p.2))
theorem dbl_ok (k : Nat) : Ln (dbl k).1 e31 = (dbl k).2 ∧ (dbl k).2 < 2 ^ 32 := by
  induction k with
  | zero => exact ⟨rfl, by decide⟩
  | succ k ih =>
    have h := step2 ih.1 ih.2
    refine ⟨h, ?_⟩
    show L (act 32 (dbl k).2 (dbl k).2) < 2 ^ 32
    rw [← h]
    exact Ln_lt _ (by decide)

theorem big : (dbl 31).2 = e31 := by decide +kernel
theorem big1 : (dbl 31).1 = 4294967295 := by decide +kernel
theorem mid : (dbl 15).2 = 3699072095 := by decide +kernel
theorem mid1 : (dbl 15).1 = 65535 := by decide +kernel

theorem Ln_big {s : Nat} (hs : s < 2 ^ 32) : Ln 4294967295 s = s := by
  have h := (dbl_ok 31).1
  rw [big, big1] at h
  rw [Ln_act _ hs, h, act_e31 hs]

theorem inv : act 32 3571894474 (3699072095 ^^^ e31) = e31 := by decide +kernel

theorem Ln_mid {s : Nat} (hs : s < 2 ^ 32) (h : Ln 65535 s = s) : s = 0 := by
  have h1 := (dbl_ok 15).1
  rw [mid, mid1] at h1
  have h2 : act 32 s (3699072095 ^^^ e31) = 0 := by
    rw [act_xor_right, ← h1, ← Ln_act _ hs, h, act_e31 hs, Nat.xor_self]
  have h3 := act_act 32 32 3571894474 s (3699072095 ^^^ e31)
  rw [h2, inv, act_zero_right, act_e31 hs] at h3
  exact h3.symm

/-- What comes back behind a steps and behind b comes back behind their greatest common divisor. -/
theorem Ln_mul {a s : Nat} (h : Ln a s = s) (k : Nat) : Ln (k * a) s = s := by
  induction k with
  | zero => simp [Ln]
  | succ k ih => rw [Nat.succ_mul, Ln_add, ih, h]
theorem Ln_gcd {s : Nat} : ∀ (a b : Nat), Ln a s = s → Ln b s = s → Ln (Nat.gcd a b) s = s := by
  intro a b
  induction a, b using Nat.gcd.induction with
  | H0 n => intro _ h; rw [Nat.gcd_zero_left]; exact h
  | H1 m n hm ih =>
    intro ha hb
    rw [Nat.gcd_rec]
    refine ih ?_ ha
    have e := Nat.div_add_mod n m
    have h2 : Ln (n / m * m + n % m) s = s := by rw [Nat.mul_comm, e]; exact hb
    rw [Ln_add, Ln_mul ha] at h2
    exact h2

theorem prime17 : ∀ h, h ≤ 256 → 2 ≤ h → 65537 % h ≠ 0 := by decide +kernel
theorem coprime17 {g : Nat} (h0 : 0 < g) (hg : g < 65537) : Nat.gcd g 65537 = 1 := by
  have hd := Nat.gcd_dvd_right g 65537
  have hle := Nat.le_of_dvd h0 (Nat.gcd_dvd_left g 65537)
  have hpos : 0 < Nat.gcd g 65537 := Nat.gcd_pos_of_pos_left _ h0
  generalize Nat.gcd g 65537 = h at *
  obtain ⟨q, hq⟩ := hd
  rcases Nat.lt_or_ge h 257 with h1 | h1
  · rcases Nat.lt_or_ge h 2 with h2 | h2
    · omega
    · exact absurd (by rw [hq]; exact Nat.mul_mod_right h q) (prime17 h (by omega) h2)
  · have hq1 : q < 257 := by
      rcases Nat.lt_or_ge q 257 with h2 | h2
      · exact h2
      · have := Nat.mul_le_mul h1 h2
        omega
    have hq2 : 2 ≤ q := by
      rcases Nat.lt_or_ge q 2 with h2 | h2
      · have : q = 0 ∨ q = 1 := by omega
        rcases this with rfl | rfl <;> omega
      · exact h2
    exact absurd (by rw [hq]; exact Nat.mul_mod_left h q) (prime17 q (by omega) hq2)

/-- No number but 0 comes back behind few steps. -/
theorem no_period {s d : Nat} (hs : s < 2 ^ 32) (h0 : 0 < d) (hd : d < 65535) (h : Ln d s = s) : s = 0 := by
  have hg := Ln_gcd d 4294967295 h (Ln_big hs)
  have hgp : 0 < Nat.gcd d 4294967295 := Nat.gcd_pos_of_pos_left _ h0
  have hgl : Nat.gcd d 4294967295 ≤ d := Nat.le_of_dvd h0 (Nat.gcd_dvd_left _ _)
  have hgd : Nat.gcd d 4294967295 ∣ 65535 * 65537 := Nat.gcd_dvd_right d 4294967295
  generalize Nat.gcd d 4294967295 = g at *
  have hc : Nat.Coprime g 65537 := coprime17 hgp (by omega)
  obtain ⟨k, hk⟩ := hc.dvd_of_dvd_mul_right hgd
  refine Ln_mid hs ?_
  rw [hk, Nat.mul_comm]
  exact Ln_mul hg k

end Go.Proofs.YtolpgpphjnkehaaGreatDoor.Blo.Crc
/- Plain mathematics of CRC-32, second part: bytes, turned bits, sealed texts. Nothing of the program stands here. -/
namespace Go.Proofs.YtolpgpphjnkehaaGreatDoor.Blo.Crc
set_option maxRecDepth 20000

/-- The rests of four bits each. -/
def tabL : List Nat := [0, 498536548, 997073096, 651767980, 1994146192, 1802195444, 1303535960, 1342533948, 3988292384, 4027552580, 3604390888, 3412177804, 2607071920, 2262029012, 2685067896, 3183342108]
def tab (i : Nat) : Nat := tabL.getD i 0
theorem tab_ok : ∀ i, i < 16 → Ln 4 i = tab i := by decide
theorem tab_lt : ∀ i, i < 16 → tab i < 4294967296 := by decide
theorem and15 (x : Nat) : x &&& 15 = x % 16 := Nat.and_two_pow_sub_one_eq_mod x 4

theorem split_xor (x k : Nat) : x = (2 ^ k * (x / 2 ^ k)) ^^^ (x % 2 ^ k) := by
  apply Nat.eq_of_testBit_eq
  intro i
  rw [Nat.testBit_xor, Nat.testBit_two_pow_mul, Nat.testBit_mod_two_pow, Nat.testBit_div_two_pow]
  by_cases h : k ≤ i
  · simp [h, show ¬ i < k by omega]
  · simp [h, show i < k by omega]

theorem nib (x : Nat) : (x / 16) ^^^ tab (x % 16) = Ln 4 x := by
  have h := split_xor x 4
  have e : Ln 4 x = Ln 4 ((2 ^ 4 * (x / 2 ^ 4)) ^^^ (x % 2 ^ 4)) := by rw [← h]
  rw [e, Ln_xor, Ln_shift]
  rw [show (2 : Nat) ^ 4 = 16 by decide, tab_ok _ (Nat.mod_lt _ (by decide))]
theorem nib2 (x : Nat) : ((x / 16) ^^^ tab (x % 16)) / 16 ^^^ tab (((x / 16) ^^^ tab (x % 16)) % 16) = Ln 8 x := by
  rw [nib x, nib (Ln 4 x), ← Ln_add]

/-- What a state comes to behind some bytes. -/
def F (s : Nat) (bs : List UInt8) : Nat := bs.foldl (fun s c => Ln 8 (s ^^^ c.toNat)) s
theorem F_nil (s : Nat) : F s [] = s := rfl
theorem F_cons (s : Nat) (c : UInt8) (bs : List UInt8) : F s (c :: bs) = F (Ln 8 (s ^^^ c.toNat)) bs := rfl
theorem F_append (s : Nat) (a b : List UInt8) : F s (a ++ b) = F (F s a) b := by simp [F, List.foldl_append]
theorem byte_lt (c : UInt8) : c.toNat < 2 ^ 32 := by have := c.toNat_lt; omega
theorem F_lt {s : Nat} (hs : s < 2 ^ 32) (bs : List UInt8) : F s bs < 2 ^ 32 := by
  induction bs generalizing s with
  | nil => exact hs
  | cons c bs ih => exact ih (Ln_lt 8 (Nat.xor_lt_two_pow hs (byte_lt c)))
theorem xor_right_comm (a b c : Nat) : (a ^^^ b) ^^^ c = (a ^^^ c) ^^^ b := by rw [Nat.xor_assoc, Nat.xor_comm b c, ← Nat.xor_assoc]
theorem F_xor (s t : Nat) (bs : List UInt8) : F (s ^^^ t) bs = F s bs ^^^ Ln (8 * bs.length) t := by
  induction bs generalizing s t with
  | nil => rfl
  | cons c bs ih =>
    rw [F_cons, F_cons, xor_right_comm, Ln_xor, ih, ← Ln_add]
    congr 2
    simp only [List.length_cons]; omega
theorem F_zeros (s n : Nat) : F s (List.replicate n 0) = Ln (8 * n) s := by
  induction n generalizing s with
  | zero => rfl
  | succ n ih =>
    rw [List.replicate_succ, F_cons, ih, show (0 : UInt8).toNat = 0 from rfl, Nat.xor_zero, ← Ln_add]
    congr 1; omega

/-- A text with one byte turned. -/
def turned (bs : List UInt8) (k : Nat) (t : UInt8) : List UInt8 := bs.modify k (· ^^^ t)
theorem turned_length (bs : List UInt8) (k : Nat) (t : UInt8) : (turned bs k t).length = bs.length := by simp [turned]
theorem F_turned (s : Nat) (bs : List UInt8) (k : Nat) (t : UInt8) (hk : k < bs.length) : F s (turned bs k t) = F s bs ^^^ Ln (8 * (bs.length - k)) t.toNat := by
  unfold turned
  induction bs generalizing s k with
  | nil => simp at hk
  | cons c bs ih =>
    cases k with
    | zero =>
      rw [List.modify_zero_cons, F_cons, F_cons, UInt8.toNat_xor, ← Nat.xor_assoc, Ln_xor, F_xor, ← Ln_add]
      congr 2
      simp only [List.length_cons]; omega
    | succ k =>
      rw [List.modify_succ_cons, F_cons, F_cons, ih _ k (by simpa using hk)]
      congr 2
      simp only [List.length_cons]; omega

/-- A text with one bit turned. -/
def bitTurned (bs : List UInt8) (p : Nat) : List UInt8 := turned bs (p / 8) (UInt8.ofNat (2 ^ (p % 8)))
theorem bitTurned_length (bs : List UInt8) (p : Nat) : (bitTurned bs p).length = bs.length := turned_length _ _ _
theorem ofNat_pow (j : Nat) (hj : j < 8) : (UInt8.ofNat (2 ^ j)).toNat = 2 ^ j := by
  rw [UInt8.toNat_ofNat']
  have : 2 ^ j < 2 ^ 8 := Nat.pow_lt_pow_right (by decide) hj
  exact Nat.mod_eq_of_lt this
theorem F_bit (s : Nat) (bs : List UInt8) (p : Nat) (hp : p < 8 * bs.length) : F s (bitTurned bs p) = F s bs ^^^ Ln (8 * bs.length - p) 1 := by
  unfold bitTurned
  have hj : p % 8 < 8 := Nat.mod_lt _ (by decide)
  rw [F_turned s bs (p / 8) _ (by omega), ofNat_pow _ hj]
  congr 1
  rw [show 8 * (bs.length - p / 8) = p % 8 + (8 * bs.length - p) by omega, Ln_add]
  have := Ln_shift (p % 8) 1
  rw [Nat.mul_one] at this
  rw [this]

/-- The bits of a mask, from a place on, turned, the first i of them. -/
def burst (bs : List UInt8) (at_ mask : Nat) : Nat → List UInt8
  | 0 => bs
  | i + 1 => if mask / 2 ^ i % 2 = 1 then bitTurned (burst bs at_ mask i) (at_ + i) else burst bs at_ mask i
theorem burst_length (bs : List UInt8) (at_ mask i : Nat) : (burst bs at_ mask i).length = bs.length := by
  induction i with
  | zero => rfl
  | succ i ih => unfold burst; split
                 · rw [bitTurned_length, ih]
                 · exact ih
theorem mod_succ_pow (x i : Nat) : x % 2 ^ (i + 1) = x % 2 ^ i + 2 ^ i * (x / 2 ^ i % 2) := by rw [Nat.pow_succ]; exact Nat.mod_mul
theorem F_burst (s : Nat) (bs : List UInt8) (at_ mask i : Nat) (h : at_ + i ≤ 8 * bs.length) : F s (burst bs at_ mask i) = F s bs ^^^ Ln (8 * bs.length - at_) (mask % 2 ^ i) := by
  induction i with
  | zero => rw [Nat.pow_zero, Nat.mod_one, Ln_zero, Nat.xor_zero]; rfl
  | succ i ih =>
    unfold burst
    rw [mod_succ_pow]
    split
    · rename_i hb
      rw [F_bit _ _ _ (by rw [burst_length]; omega), ih (by omega), burst_length, Nat.xor_assoc, hb, Nat.mul_one]
      congr 1
      have e : mask % 2 ^ i + 2 ^ i = mask % 2 ^ i ^^^ 2 ^ i := by
        have hlt := Nat.mod_lt mask (Nat.two_pow_pos i)
        have ho := Nat.two_pow_add_eq_or_of_lt hlt 1
        rw [Nat.mul_one] at ho
        rw [Nat.add_comm, ho]
        apply Nat.eq_of_testBit_eq
        intro j
        rw [Nat.testBit_or, Nat.testBit_xor]
        by_cases hj : j = i
        · subst hj; rw [Nat.testBit_lt_two_pow hlt]; simp
        · rw [Nat.testBit_two_pow_of_ne (by omega)]; simp
      rw [e, Ln_xor]
      congr 1
      rw [show 8 * bs.length - at_ = i + (8 * bs.length - (at_ + i)) by omega, Ln_add]
      have := Ln_shift i 1
      rw [Nat.mul_one] at this
      rw [this]
    · rename_i hb
      have : mask / 2 ^ i % 2 = 0 := by omega
      rw [ih (by omega), this, Nat.mul_zero, Nat.add_zero]

/-- The sum of some bytes, as it goes on from another one. -/
def ones : Nat := 4294967295
def sumFrom (x : Nat) (bs : List UInt8) : Nat := F (x ^^^ ones) bs ^^^ ones
theorem ones_lt : ones < 2 ^ 32 := by decide
theorem sumFrom_lt {x : Nat} (hx : x < 2 ^ 32) (bs : List UInt8) : sumFrom x bs < 2 ^ 32 := Nat.xor_lt_two_pow (F_lt (Nat.xor_lt_two_pow hx ones_lt) bs) ones_lt
theorem xor_xor_cancel (a b : Nat) : (a ^^^ b) ^^^ b = a := by rw [Nat.xor_assoc, Nat.xor_self, Nat.xor_zero]
theorem sumFrom_append (x : Nat) (a b : List UInt8) : sumFrom x (a ++ b) = sumFrom (sumFrom x a) b := by
  unfold sumFrom
  rw [F_append, xor_xor_cancel]
theorem xor_cancel_right {a b c : Nat} (h : a ^^^ c = b ^^^ c) : a = b := by
  have := congrArg (· ^^^ c) h
  simpa [Nat.xor_assoc] using this

/-- What is turned by a difference of the states is turned in the sum. -/
theorem sum_eq_iff {s d : Nat} (bs cs : List UInt8) (h : F s cs = F s bs ^^^ d) : (F s cs ^^^ ones = F s bs ^^^ ones) ↔ d = 0 := by
  constructor
  · intro e
    have e2 := xor_cancel_right e
    rw [h] at e2
    have := congrArg (F s bs ^^^ ·) e2
    simp only [← Nat.xor_assoc, Nat.xor_self, Nat.zero_xor] at this
    exact this
  · intro e; rw [h, e, Nat.xor_zero]

/-- The four bytes of a sum. -/
def le4 (x : Nat) : List UInt8 := [UInt8.ofNat x, UInt8.ofNat (x / 256), UInt8.ofNat (x / 65536), UInt8.ofNat (x / 16777216)]
theorem toNat_ofNat8 (x : Nat) : (UInt8.ofNat x).toNat = x % 256 := UInt8.toNat_ofNat'
theorem F_le4 (s x : Nat) (hx : x < 2 ^ 32) : F s (le4 x) = Ln 32 (s ^^^ x) := by
  have h0 : F s (le4 x) = F s (List.replicate 4 0) ^^^ F 0 (le4 x) := by
    have : F s (le4 x) = F (0 ^^^ s) (le4 x) := by rw [Nat.zero_xor]
    rw [this, F_xor, F_zeros, Nat.xor_comm]; rfl
  rw [h0, F_zeros, Ln_xor]
  congr 1
  unfold le4
  simp only [F_cons, F_nil, toNat_ofNat8, Nat.zero_xor]
  have step : ∀ y, Ln 8 y = Ln 8 (y / 256 * 256) ^^^ Ln 8 (y % 256) := fun y => by
    rw [← Ln_xor]
    congr 1
    have := split_xor y 8
    rw [Nat.mul_comm] at this
    exact this
  have down : ∀ y, Ln 8 (y * 256) = y := fun y => by have := Ln_shift 8 y; rw [Nat.mul_comm] at this; exact this
  have e1 : Ln 8 x = x / 256 ^^^ Ln 8 (x % 256) := by rw [step, down]
  have e2 : Ln 16 x = x / 65536 ^^^ Ln 8 (Ln 8 (x % 256) ^^^ x / 256 % 256) := by
    rw [show (16 : Nat) = 8 + 8 by decide, Ln_add, e1, Ln_xor, step (x / 256), down, Nat.div_div_eq_div_mul, Ln_xor, Nat.xor_assoc]
    congr 1; exact Nat.xor_comm _ _
  have e3 : Ln 24 x = x / 16777216 ^^^ Ln 8 (Ln 8 (Ln 8 (x % 256) ^^^ x / 256 % 256) ^^^ x / 65536 % 256) := by
    rw [show (24 : Nat) = 16 + 8 by decide, Ln_add, e2, Ln_xor, step (x / 65536), down, Nat.div_div_eq_div_mul, Ln_xor (x := Ln 8 _) (y := x / 65536 % 256), Nat.xor_assoc]
    congr 1; exact Nat.xor_comm _ _
  rw [show (32 : Nat) = 24 + 8 by decide, Ln_add, e3, show x / 16777216 % 256 = x / 16777216 by omega, Nat.xor_comm]

/-- A sealed text. -/
def sealed (bs : List UInt8) : List UInt8 := bs ++ le4 (sumFrom 0 bs)
theorem sum_sealed (bs : List UInt8) : sumFrom 0 (sealed bs) = 558161692 := by
  unfold sealed sumFrom
  rw [F_append, F_le4 _ _ (Nat.xor_lt_two_pow (F_lt (Nat.xor_lt_two_pow (by decide) ones_lt) bs) ones_lt), ← Nat.xor_assoc, Nat.xor_self, Nat.zero_xor]
  decide +kernel

end Go.Proofs.YtolpgpphjnkehaaGreatDoor.Blo.Crc
/- crc.Extend and crc.Sum. -/
namespace Go.Proofs.YtolpgpphjnkehaaGreatDoor.Blo
set_option maxRecDepth 20000
open Go.RowKit Crc

/-- The table of rests lies as its text lays it. -/
def Tab (W : World) : Prop := ∀ i, i < 16 → W.cell? ⟨0, i, none⟩ = some (.int .u32 (tab i : Int))
theorem Tab.below {W W' : World} (h : Tab W) (hb : Below W.heap.size W W') : Tab W' := fun i hi =>
  (hb.cell (p := ⟨0, i, none⟩) (World.block_lt_of_cell? W _ (h i hi))).trans (h i hi)

theorem not32 (s : Nat) (hs : s < 4294967296) : bits .xor .u32 IntKind.u32.max (s : Int) = ((s ^^^ ones : Nat) : Int) := by
  have h := u32_xor_nat 4294967295 s (by decide) hs
  rw [Nat.xor_comm] at h
  exact h
theorem xor32 (x c : Nat) (hx : x < 4294967296) (hc : c < 4294967296) : bits .xor .u32 (x : Int) (c : Int) = ((x ^^^ c : Nat) : Int) := u32_xor_nat x c hx hc
theorem and32 (y : Nat) (hy : y < 4294967296) : bits .and .u32 (y : Int) 15 = ((y % 16 : Nat) : Int) := by
  have h := u32_and_nat y 15 hy (by decide)
  rw [and15] at h
  exact h
theorem nib32 (y : Nat) (hy : y < 4294967296) : bits .xor .u32 ((y : Int) / 16) (tab (y % 16) : Int) = ((Ln 4 y : Nat) : Int) := by
  have h := u32_xor_nat (y / 16) (tab (y % 16)) (by omega) (tab_lt _ (Nat.mod_lt _ (by decide)))
  rw [nib] at h
  exact h

theorem F_take_succ (s : Nat) (bs : List UInt8) (k : Nat) (hk : k < bs.length) : F s (bs.take (k + 1)) = Ln 8 (F s (bs.take k) ^^^ bs[k].toNat) := by
  rw [List.take_succ_eq_append_getElem hk, F_append]; rfl

set_option maxHeartbeats 400000 in
theorem extend_any (A : Option Addr) (cap s : Nat) (bs : List UInt8) (w : World) (hT : Tab w) (hA : Bytes w A bs) (hl : bs.length ≤ maxLen) (hs : s < 4294967296) :
    Calls Tryz.prog 185 #[.int .u32 s, .slice A bs.length cap] w fun e w' => e = .returned (.int .u32 (sumFrom s bs : Int)) ∧ w = w' := by
  unfold maxLen at hl
  have HT := Lib.hid hT
  have HA := Lib.hid hA
  have q0 := not32 s hs
  have hs0 : s ^^^ ones < 2 ^ 32 := Nat.xor_lt_two_pow hs ones_lt
  have HS : Hid (sumFrom s bs = F (s ^^^ ones) bs ^^^ ones) := Lib.hid rfl
  obtain ⟨s0, hs0e⟩ : ∃ s0, s ^^^ ones = s0 := ⟨_, rfl⟩
  rw [hs0e] at q0 hs0 HS
  clear hT hA hs0e
  go_enter Tryz.func185, Tryz.ntmps185
  go_wp2
  go_loop [5, 12] (fun x i => ∃ k : Nat, k ≤ bs.length ∧ i = .int .i64 k ∧ x = .int .u32 (F s0 (bs.take k) : Int)) (fun _ i => bs.length - (intOf i).toNat)
  case atStart => exact ⟨0, Nat.zero_le _, rfl, by rw [List.take_zero, F_nil]⟩
  case round =>
    obtain ⟨k, hk, rfl, rfl⟩ := hrel
    by_cases hlt : k < bs.length
    · obtain ⟨b, off, rfl, _, hc⟩ := HA.out.at_ hlt
      have hc' := hc k _ (List.getElem?_eq_getElem hlt)
      clear hc
      have hb := bs[k].toNat_lt
      have hx := F_lt hs0 (bs.take k)
      have hF := F_take_succ s0 bs k hlt
      generalize bs[k].toNat = c at *
      generalize F s0 (bs.take k) = x at *
      have e1 := xor32 x c hx (by omega)
      have hy : x ^^^ c < 2 ^ 32 := Nat.xor_lt_two_pow hx (by omega)
      generalize x ^^^ c = y at *
      have e2 := and32 y hy
      have e3 := nib32 y hy
      have hz : Ln 4 y < 2 ^ 32 := Ln_lt 4 hy
      have hF2 : F s0 (bs.take (k + 1)) = Ln 4 (Ln 4 y) := by rw [hF, ← Ln_add]
      have t1 := HT.out (y % 16) (Nat.mod_lt _ (by decide))
      have m1 : y % 16 < 16 := Nat.mod_lt _ (by decide)
      generalize Ln 4 y = z at *
      generalize tab (y % 16) = r1 at *
      generalize y % 16 = i1 at *
      have e4 := and32 z hz
      have e5 := nib32 z hz
      have t2 := HT.out (z % 16) (Nat.mod_lt _ (by decide))
      have m2 : z % 16 < 16 := Nat.mod_lt _ (by decide)
      generalize Ln 4 z = u at *
      generalize tab (z % 16) = r2 at *
      generalize z % 16 = i2 at *
      have HF := Lib.hid hF2
      clear hF hF2
      go_wp2
      go_round
      case rel => exact ⟨k + 1, by omega, by go_num, by rw [HF.out]⟩
      case measure => simp [intOf]; omega
    · obtain rfl : k = bs.length := by omega
      have ht : bs.take bs.length = bs := List.take_length
      have hx := F_lt hs0 bs
      rw [ht]
      have q1 := not32 (F s0 bs) hx
      rw [← HS.out] at q1
      clear hx
      go_wp2
      go_ret
      exact ⟨rfl, rfl⟩

set_option maxHeartbeats 400000 in
theorem sum_any (A : Option Addr) (cap : Nat) (bs : List UInt8) (w : World) (hT : Tab w) (hA : Bytes w A bs) (hl : bs.length ≤ maxLen) :
    Calls Tryz.prog 148 #[.slice A bs.length cap] w fun e w' => e = .returned (.int .u32 (sumFrom 0 bs : Int)) ∧ w = w' := by
  have hx := extend_any A cap 0 bs w hT hA hl (by decide)
  have HX := Lib.hid hx
  clear hx hA hT
  go_enter Tryz.func148, Tryz.ntmps148
  go_wp2_with fail
  refine HX.out.mono ?_
  rintro e w' ⟨rfl, rfl⟩
  go_wp2
  go_ret
  exact ⟨rfl, rfl⟩

theorem extend_anyL (A : Option Addr) (len cap s : Nat) (bs : List UInt8) (w : World) (hlen : bs.length = len) (hT : Tab w) (hA : Bytes w A bs) (hl : len ≤ maxLen) (hs : s < 4294967296) :
    Calls Tryz.prog 185 #[.int .u32 s, .slice A len cap] w fun e w' => e = .returned (.int .u32 (sumFrom s bs : Int)) ∧ w = w' := by subst hlen; exact extend_any A cap s bs w hT hA hl hs
theorem sum_anyL (A : Option Addr) (len cap : Nat) (bs : List UInt8) (w : World) (hlen : bs.length = len) (hT : Tab w) (hA : Bytes w A bs) (hl : len ≤ maxLen) :
    Calls Tryz.prog 148 #[.slice A len cap] w fun e w' => e = .returned (.int .u32 (sumFrom 0 bs : Int)) ∧ w = w' := by subst hlen; exact sum_any A cap bs w hT hA hl

end Go.Proofs.YtolpgpphjnkehaaGreatDoor.Blo
/- Contracts of octet's small functions: isSize, within, field. -/
namespace Go.Proofs.YtolpgpphjnkehaaGreatDoor.Blo
set_option maxRecDepth 20000
open Go.RowKit

def sizeB (n : Int) : Bool := n == 1 || n == 2 || n == 4 || n == 8
def insideB (len at_ n : Int) : Bool := decide (0 ≤ at_) && decide (0 ≤ n) && decide (at_ ≤ len) && decide (n ≤ len - at_)

set_option maxHeartbeats 400000 in
theorem isSize_any (n : Int) (w : World) :
    Calls Tryz.prog 182 #[.int .i64 n] w fun e w' => e = .returned (.bool (sizeB n)) ∧ w = w' := by
  have key : ∀ b : Bool, (n == 1 || n == 2 || n == 4 || n == 8) = b → sizeB n = b := fun b h => h
  by_cases h1 : n = 1
  · subst h1
    go_enter Tryz.func182, Tryz.ntmps182
    go_wp2
    go_ret
    exact ⟨rfl, rfl⟩
  · by_cases h2 : n = 2
    · subst h2
      go_enter Tryz.func182, Tryz.ntmps182
      go_wp2
      go_ret
      exact ⟨rfl, rfl⟩
    · by_cases h4 : n = 4
      · subst h4
        go_enter Tryz.func182, Tryz.ntmps182
        go_wp2
        go_ret
        exact ⟨rfl, rfl⟩
      · go_enter Tryz.func182, Tryz.ntmps182
        go_wp2
        go_ret
        exact ⟨rfl, rfl⟩

theorem ret_bool {a b : Bool} (h : a = b) : Ending.returned (.bool a) = .returned (.bool b) := by rw [h]

set_option maxHeartbeats 400000 in
theorem within_any (A : Option Addr) (len cap : Nat) (at_ n : Int) (w : World) (hl : len ≤ maxLen) (_hn : n < 9223372036854775808) (ha : at_ < 9223372036854775808) :
    Calls Tryz.prog 183 #[.slice A len cap, .int .i64 at_, .int .i64 n] w fun e w' => e = .returned (.bool (insideB len at_ n)) ∧ w = w' := by
  unfold maxLen at hl
  by_cases h1 : 0 ≤ at_
  · by_cases h2 : 0 ≤ n
    · by_cases h3 : at_ ≤ len
      · go_enter Tryz.func183, Tryz.ntmps183
        go_wp2
        go_ret
        exact ⟨ret_bool (by simp [insideB, h1, h2, h3]), rfl⟩
      · go_enter Tryz.func183, Tryz.ntmps183
        go_wp2
        go_ret
        exact ⟨ret_bool (by simp [insideB]; omega), rfl⟩
    · go_enter Tryz.func183, Tryz.ntmps183
      go_wp2
      go_ret
      exact ⟨ret_bool (by simp [insideB]; omega), rfl⟩
  · go_enter Tryz.func183, Tryz.ntmps183
    go_wp2
    go_ret
    exact ⟨ret_bool (by simp [insideB]; omega), rfl⟩

set_option maxHeartbeats 400000 in
theorem field_any (A : Option Addr) (len cap : Nat) (at_ n : Int) (w : World) :
    Calls Tryz.prog 184 #[.slice A len cap, .int .i64 at_, .int .i64 n] w fun e w' =>
      e = .returned (.func (.func 196) #[] #[.pointer (some ⟨w.heap.size + 2, 0, none⟩), .pointer (some ⟨w.heap.size, 0, none⟩), .pointer (some ⟨w.heap.size + 1, 0, none⟩)]) ∧
      ((w.alloc (.cells #[.slice A len cap] 32)).alloc (.cells #[.int .i64 at_] 3)).alloc (.cells #[.int .i64 n] 3) = w' := by
  go_enter Tryz.func184, Tryz.ntmps184
  go_wp2
  go_ret
  exact ⟨rfl, rfl⟩

end Go.Proofs.YtolpgpphjnkehaaGreatDoor.Blo
/- The iterator of octet: what field's closure tells of the bytes of a field. -/
namespace Go.Proofs.YtolpgpphjnkehaaGreatDoor.Blo
set_option maxRecDepth 20000
open Go.RowKit Go.Shelf
attribute [local go_sem] Oper.semAt_some

/-- What the iterator reads: its three boxes, and the field's bytes, of each of which G holds. -/
structure FInv (Bn Bb Ba : Nat) (A : Option Addr) (len cap at_ n : Nat) (G : Nat → UInt8 → Prop) (W : World) : Prop where
  bn : W.cell? ⟨Bn, 0, none⟩ = some (.int .i64 (n : Int))
  bb : W.cell? ⟨Bb, 0, none⟩ = some (.slice A len cap)
  ba : W.cell? ⟨Ba, 0, none⟩ = some (.int .i64 (at_ : Int))
  by_ : ∀ k, k < n → ∃ b off c, A = some ⟨b, off, none⟩ ∧ G k c ∧ W.cell? ⟨b, off + (at_ + k), none⟩ = some (.int .u8 (c.toNat : Int))

theorem FInv.kept {Bn Bb Ba : Nat} {A : Option Addr} {len cap at_ n : Nat} {G : Nat → UInt8 → Prop} {W W' : World} (h : FInv Bn Bb Ba A len cap at_ n G W)
    (hk : ∀ (p : Addr) v, W.cell? p = some v → W'.cell? p = W.cell? p) : FInv Bn Bb Ba A len cap at_ n G W' :=
  ⟨(hk _ _ h.bn).trans h.bn, (hk _ _ h.bb).trans h.bb, (hk _ _ h.ba).trans h.ba, fun k hlt => by
    obtain ⟨b, off, c, e, g, hc⟩ := h.by_ k hlt
    exact ⟨b, off, c, e, g, (hk _ _ hc).trans hc⟩⟩

theorem FInv.far {Bn Bb Ba X : Nat} {A : Option Addr} {len cap at_ n : Nat} {G : Nat → UInt8 → Prop} {W W' : World} (h : FInv Bn Bb Ba A len cap at_ n G W)
    (h1 : Bn ≠ X) (h2 : Bb ≠ X) (h3 : Ba ≠ X) (h4 : 0 < n → ∀ ad, A = some ad → ad.block ≠ X) (hk : ∀ p : Addr, p.block ≠ X → W'.cell? p = W.cell? p) : FInv Bn Bb Ba A len cap at_ n G W' :=
  ⟨(hk _ h1).trans h.bn, (hk _ h2).trans h.bb, (hk _ h3).trans h.ba, fun k hlt => by
    obtain ⟨b, off, c, e, g, hc⟩ := h.by_ k hlt
    exact ⟨b, off, c, e, g, (hk ⟨b, off + (at_ + k), none⟩ (show b ≠ X from h4 (by omega) _ e)).trans hc⟩⟩

/-- The pairs that have come. -/
abbrev BPair (n : Nat) := { x : Nat × UInt8 // x.1 < n }
def bpair {n : Nat} (x : BPair n) : Array Value := #[Value.int .i64 (x.1.1 : Int), Value.int .u8 (x.1.2.toNat : Int)]

/-- So have the first k come. -/
def Came {n : Nat} (G : Nat → UInt8 → Prop) (k : Nat) (pre : List (BPair n)) : Prop := pre.map (fun x => x.1.1) = List.range k ∧ ∀ x ∈ pre, G x.1.1 x.1.2

theorem Came.nil {n : Nat} (G : Nat → UInt8 → Prop) : Came G 0 ([] : List (BPair n)) := ⟨rfl, by simp⟩
theorem Came.snoc {n : Nat} {G : Nat → UInt8 → Prop} {k : Nat} {pre : List (BPair n)} (h : Came G k pre) (hk : k < n) {c : UInt8} (hc : G k c) : Came G (k + 1) (pre ++ [⟨(k, c), hk⟩]) := by
  refine ⟨by rw [List.map_append, h.1, List.range_succ]; rfl, fun x hx => ?_⟩
  rcases List.mem_append.1 hx with hx | hx
  · exact h.2 x hx
  · simp at hx; subst hx; exact hc
theorem Came.length {n : Nat} {G : Nat → UInt8 → Prop} {k : Nat} {pre : List (BPair n)} (h : Came G k pre) : pre.length = k := by
  have := congrArg List.length h.1
  simpa using this

set_option maxRecDepth 100000 in
set_option maxHeartbeats 1000000 in
theorem field1_in (F : Fence) (m : Nat) (h8 : F.fn 196) (hro : F.round = none) (hm : 1 ≤ m) (l Bn Bb Ba : Nat) (A : Option Addr) (len cap at_ n : Nat) (G : Nat → UInt8 → Prop)
    (hle : at_ + n ≤ len) (hlm : len ≤ 9223372036854775807) (J Jx : List (BPair n) → World → Prop)
    (hY : ∀ pre x W, J pre W → pre.length < n → YieldAt F (m - 1) Tryz.prog l (bpair x) W fun e W' =>
      (e = .returned (.bool true) ∧ J (pre ++ [x]) W' ∧ (FInv Bn Bb Ba A len cap at_ n G W → FInv Bn Bb Ba A len cap at_ n G W')) ∨ (e = .returned (.bool false) ∧ Jx (pre ++ [x]) W'))
    (W : World) (hI : FInv Bn Bb Ba A len cap at_ n G W) (h0 : J [] W) :
    CallsIn F m Tryz.prog 196 #[.func (.yield l) #[] #[], .pointer (some ⟨Bn, 0, none⟩), .pointer (some ⟨Bb, 0, none⟩), .pointer (some ⟨Ba, 0, none⟩)] W fun e W' => (∃ v, e = .returned v) ∧
      ((∃ ys, Came G n ys ∧ J ys W') ∨ (∃ pre, True ∧ Jx pre W')) := by
  refine callsIn_of_wp Tryz.func196 rfl h8 ?_ hro
  simp only [Tryz.ntmps196, List.size_toArray, List.length_cons, List.length_nil, Nat.reduceAdd, Nat.reduceSub, Array.replicate_succ, Array.replicate_zero, List.push_toArray, List.append_toArray, List.nil_append, List.cons_append]
  gi_wp2
  gi_loopw [5] (fun i wr => ∃ (k : Nat) (pre : List (BPair n)), k ≤ n ∧ i = .int .i64 k ∧ Came G k pre ∧ J pre wr ∧ FInv Bn Bb Ba A len cap at_ n G wr)
    (fun i _ => n - (intOf i).toNat)
  case atStart => exact ⟨0, [], Nat.zero_le _, rfl, Came.nil G, h0, hI⟩
  case round =>
    obtain ⟨k, pre, hk, rfl, hC, hJs, hF⟩ := hrel
    have hbn := hF.bn
    by_cases hlt : k < n
    · obtain ⟨b, off, c, rfl, hG, hc⟩ := hF.by_ k hlt
      have hbb := hF.bb
      have hba := hF.ba
      obtain ⟨fn, tmps, assign, body, hy, hR⟩ := hY pre ⟨(k, c), hlt⟩ wr hJs (by rw [hC.length]; exact hlt)
      dsimp only [bpair] at hy
      gi_wp2
      refine hR.mono ?_
      rintro e W3 (⟨rfl, hJ3, hk3⟩ | ⟨rfl, hJx3⟩)
      · gi_wp2
        go_roundw
        case rel => exact ⟨k + 1, _, by omega, by go_num, hC.snoc hlt hG, hJ3, hk3 hF⟩
        case measure => simp [intOf]; omega
      · gi_wp2
        refine bodyPost_ret (results_none rfl _ _ _) rfl ?_
        exact ⟨⟨_, rfl⟩, .inr ⟨_, trivial, hJx3⟩⟩
    · obtain rfl : k = n := by omega
      gi_wp2
      go_end0
      exact ⟨⟨_, rfl⟩, .inl ⟨_, hC, hJs⟩⟩

end Go.Proofs.YtolpgpphjnkehaaGreatDoor.Blo
/- A region that draws its order in a round of a loop over a function: what holds of it outside a round holds in it. -/
namespace Go.Proofs.YtolpgpphjnkehaaGreatDoor.Blo
set_option maxRecDepth 20000
open Go.RowKit

section
variable {P : Program} {l n : Nat}

theorem upon_in {o : Oper} {a : Act} {K : Act → World → Prop} {Q : Exit → Act → World → Prop} {r : Result Next} (h : o.upon P a K Q r) : o.uponIn (Fence.wide.inRound l) n P a K Q r := by
  cases r with
  | halt e w' => cases e <;> first | exact h | exact h.elim
  | ok x w' =>
    cases x with
    | value v => exact h
    | skip => exact h
    | defer d => exact h
    | enter f args =>
      refine ⟨fun hd => by simp [Fence.wide, Fence.inRound] at hd, (CallsIn.inRound l (callsIn_wide.2 h)).mono ?_⟩
      intro e w2 he
      cases e <;> exact he
    | row s args => exact ⟨fun hd => by simp [Fence.wide, Fence.inRound] at hd, fun c cs _ => let ⟨v, w2, r, s⟩ := h c cs; ⟨v, w2, r, stepsIn_wide.2 s⟩⟩
    | _ => exact h.elim

theorem oper_in {o : Oper} {a : Act} {w : World} {K : Act → World → Prop} {Q : Exit → Act → World → Prop} (hd : ∀ c, o.op ≠ .defer c) (h : o.wp P a w K Q) : o.wpIn (Fence.wide.inRound l) n P a w K Q := by
  refine ⟨fun _ _ => trivial, ?_⟩
  have e : (Fence.wide.inRound l).round = some l := rfl
  rw [e, Oper.semAt_some l a.eval o hd]
  exact upon_in h

theorem any_in {md : Region.Mode} {ops : Array Oper} {Q : Exit → Act → World → Prop} (hQ : ¬ LetsOut Q) (hd : ∀ (i : Nat) (o : Oper), ops[i]? = some o → ∀ c, o.op ≠ .defer c) :
    ∀ (fuel : Nat) (listed : Array Bool) (a : Act) (w : World), wpAny P md ops Q fuel listed a w → wpAnyIn (Fence.wide.inRound l) n P md ops Q fuel listed a w
  | 0, _, _, _, h => h
  | fuel + 1, listed, a, w, h => by
    refine ⟨h.1, fun i hi => ?_⟩
    have hop := h.2 i hi
    unfold wpOp at hop
    unfold wpOpIn
    cases ho : ops[i]? with
    | none => rw [ho] at hop; exact any_in hQ hd fuel _ _ _ hop
    | some o =>
      rw [ho] at hop
      dsimp only at hop ⊢
      split at hop
      · rename_i hw
        rw [if_pos hw]
        rcases hop with hop | hop
        · exact Oper.wpIn_mono (fun a' w' hk => any_in hQ hd fuel _ _ _ hk) (oper_in (hd i o ho) hop)
        · exact absurd hop.2 hQ
      · rename_i hw
        rw [if_neg hw]
        exact ⟨fun _ _ => trivial, any_in hQ hd fuel _ _ _ hop⟩

def noDefer (ops : List Oper) : Bool := ops.all fun o => match o.op with | .defer _ => false | _ => true
theorem noDefer_get {ops : List Oper} (h : noDefer ops = true) (i : Nat) (o : Oper) (hi : ops.toArray[i]? = some o) : ∀ c, o.op ≠ .defer c := by
  intro c hc
  have hm : o ∈ ops := List.mem_of_getElem? (by simpa using hi)
  have := List.all_eq_true.1 h o hm
  rw [hc] at this
  cases this

/-- All operations but the last ones only read, in whatever order; then the last ones, in theirs. -/
theorem round_tail {id : Nat} {Q : Exit → Act → World → Prop} {a : Act} {w : World} {ops : List Oper} (k : Nat) (hm : P.follows .mixedOrders = true) (hB : Region.lexTailB .any ops.toArray k = true) (hno : noDefer ops = true) (hQ : ¬ LetsOut Q)
    (h : wpStill P ops.toArray w.drew (fun a' => wpList P ops.toArray Q (ops.drop k) a' w.drew) (ops.take k) a) : (Code.region id ops.toArray true).wpIn (Fence.wide.inRound l) n P Q a w := by
  simp only [Region.lexTailB, Bool.and_eq_true, decide_eq_true_eq] at hB
  obtain ⟨⟨⟨⟨hsel, hk⟩, hs⟩, hc⟩, hlex⟩ := hB
  have h1 : (ops.take k).length = k := by simp at hk ⊢; omega
  have h2 : (ops.drop k).length = ops.toArray.size - k := by simp
  have inv0 : HeadInv .any ops.toArray k (Array.replicate ops.toArray.size false) :=
    ⟨by simp, fun j oj _ hl => (by rw [getD_replicate_false] at hl; cases hl), fun t _ ht => getD_in (by simpa using ht) (getD_replicate_false _ _)⟩
  have H := wpAnyL_lex (md := .any) (g := ops.toArray.size - k) hsel hs hc hk (ops.take k) 0 _ a (fun j hj => by
    rw [h1] at hj; simp [hj]) (by rw [h1]; omega) inv0 (by rw [h1]; exact hlex) h
  refine wpIn_region_any hm (any_in hQ (fun i o hi => noDefer_get hno i o hi) _ _ _ _ ?_)
  have G := wpAny_of_head (Q' := Q) (g := ops.toArray.size - k) (fun listed a' hL => by
    have g := wpAny_of_seq (md := .any) (Q' := Q) (ops.drop k) k listed a' w.drew (fun j => by simp [List.getElem?_drop]) (by rw [h2]; exact hL.1) hL.2
    rwa [h2] at g) _ _ _ H
  rw [h1, show k + (ops.toArray.size - k) = ops.toArray.size by omega] at G
  exact G

end
end Go.Proofs.YtolpgpphjnkehaaGreatDoor.Blo
/- octet.Get, octet.Cut. -/
namespace Go.Proofs.YtolpgpphjnkehaaGreatDoor.Blo
set_option maxRecDepth 20000
open Go.RowKit Go.Shelf
attribute [local go_sem] Oper.semAt_some

/-- The closure's contract. -/
theorem field1_stops (F : Fence) (m : Nat) (h8 : F.fn 196) (hro : F.round = none) (hm : 1 ≤ m) (Bn Bb Ba : Nat) (A : Option Addr) (len cap at_ n : Nat) (G : Nat → UInt8 → Prop)
    (hle : at_ + n ≤ len) (hlm : len ≤ 9223372036854775807) (w : World) (hI : FInv Bn Bb Ba A len cap at_ n G w) :
    SeqStopsK F m Tryz.prog 196 #[.pointer (some ⟨Bn, 0, none⟩), .pointer (some ⟨Bb, 0, none⟩), .pointer (some ⟨Ba, 0, none⟩)] (bpair (n := n))
      (fun W W' => FInv Bn Bb Ba A len cap at_ n G W → FInv Bn Bb Ba A len cap at_ n G W') (Came G n) (fun _ => True) n w := fun l J Jx W hW _ _ hY h0 => by
  have hI' : FInv Bn Bb Ba A len cap at_ n G W := hI.kept fun p v hp => hW.cell (by
    rcases Nat.lt_or_ge p.block w.heap.size with h | h
    · exact h
    · simp [World.cell?, Array.getElem?_eq_none h] at hp)
  exact field1_in F m h8 hro hm l Bn Bb Ba A len cap at_ n G hle hlm J Jx hY W hI' h0

theorem finv_t {Bn Bb Ba : Nat} {A : Option Addr} {len cap at_ n : Nat} {G : Nat → UInt8 → Prop} {X Y Z : World}
    (h : FInv Bn Bb Ba A len cap at_ n G X → FInv Bn Bb Ba A len cap at_ n G Y) (k : FInv Bn Bb Ba A len cap at_ n G Y → FInv Bn Bb Ba A len cap at_ n G Z) :
    FInv Bn Bb Ba A len cap at_ n G X → FInv Bn Bb Ba A len cap at_ n G Z := fun x => k (h x)
theorem finv_b {Bn Bb Ba : Nat} {A : Option Addr} {len cap at_ n : Nat} {G : Nat → UInt8 → Prop} (W : World) (l : Nat) (o o' : Obj) (h : W.heap[l]? = some o) (hc : o.isCells = false) :
    FInv Bn Bb Ba A len cap at_ n G W → FInv Bn Bb Ba A len cap at_ n G (W.putObj l o') := fun h0 => h0.kept fun p v hp => by
  rw [hp]
  exact cell_kept hp (grownBy_putObj' W l o') (fun r e => by cases e; exact ⟨o, h, hc⟩)

/-- What the bytes of a field come to. -/
def acc {n : Nat} (pre : List (BPair n)) : Nat := pre.foldl (fun s x => s ||| (x.1.2.toNat <<< (8 * x.1.1))) 0
theorem acc_snoc {n : Nat} (pre : List (BPair n)) (x : BPair n) : acc (pre ++ [x]) = acc pre ||| (x.1.2.toNat <<< (8 * x.1.1)) := by simp [acc]
theorem acc_lt {n : Nat} (hn : n ≤ 8) (pre : List (BPair n)) : acc pre < 2 ^ 64 := by
  suffices h : ∀ (l : List (BPair n)) (s : Nat), s < 2 ^ 64 → l.foldl (fun s x => s ||| (x.1.2.toNat <<< (8 * x.1.1))) s < 2 ^ 64 from h pre 0 (by decide)
  intro l
  induction l with
  | nil => intro s hs; exact hs
  | cons x l ih =>
    intro s hs
    refine ih _ (Nat.or_lt_two_pow hs ?_)
    rw [Nat.shiftLeft_eq]
    have h1 : x.1.2.toNat < 2 ^ 8 := x.1.2.toNat_lt
    have h2 : (2 : Nat) ^ (8 * x.1.1) ≤ 2 ^ 56 := Nat.pow_le_pow_right (by decide) (by have := x.2; omega)
    calc x.1.2.toNat * 2 ^ (8 * x.1.1) ≤ x.1.2.toNat * 2 ^ 56 := Nat.mul_le_mul_left _ h2
      _ < 2 ^ 8 * 2 ^ 56 := Nat.mul_lt_mul_of_pos_right h1 (by decide)
      _ = 2 ^ 64 := by decide

/-- A number as bytes, the lowest first. -/
def leN : List UInt8 → Nat
  | [] => 0
  | c :: r => c.toNat + 256 * leN r
theorem leN_snoc (l : List UInt8) (c : UInt8) : leN (l ++ [c]) = leN l + c.toNat * 256 ^ l.length := by
  induction l with
  | nil => simp [leN]
  | cons d l ih => simp only [List.cons_append, leN, ih, List.length_cons, Nat.pow_succ, Nat.mul_add]; rw [Nat.add_assoc]; congr 2; rw [Nat.mul_comm (256 ^ l.length) 256, ← Nat.mul_assoc, ← Nat.mul_assoc, Nat.mul_comm 256]
theorem leN_lt (l : List UInt8) : leN l < 256 ^ l.length := by
  induction l with
  | nil => simp [leN]
  | cons d l ih => simp only [leN, List.length_cons, Nat.pow_succ]; have := d.toNat_lt; omega
theorem acc_came {n : Nat} (bs : List UInt8) : ∀ (k : Nat) (ys : List (BPair n)), Came (fun k c => bs[k]? = some c) k ys → acc ys = leN (bs.take k) := by
  intro k
  induction k with
  | zero =>
    intro ys h
    have : ys = [] := by have := h.length; exact List.eq_nil_of_length_eq_zero this
    subst this; simp [acc, leN]
  | succ k ih =>
    intro ys h
    have h1 := h.1
    rw [List.range_succ] at h1
    obtain ⟨pre, last, rfl, hp, hl⟩ := List.map_eq_append_iff.1 h1
    obtain ⟨x, r, rfl, hx, hr⟩ := List.map_eq_cons_iff.1 hl
    have hr' : r = [] := List.map_eq_nil_iff.1 hr
    subst hr'
    have hG := h.2 x (by simp)
    rw [hx] at hG
    have ihp := ih pre ⟨hp, fun y hy => h.2 y (List.mem_append_left _ hy)⟩
    have hkl : k < bs.length := (List.getElem?_eq_some_iff.1 hG).1
    have hxe : bs[k] = x.1.2 := (List.getElem?_eq_some_iff.1 hG).2
    have hlen : (bs.take k).length = k := by simp; omega
    rw [acc_snoc, ihp, List.take_succ_eq_append_getElem hkl, leN_snoc, hlen, hx, hxe]
    have hlt := leN_lt (bs.take k)
    rw [hlen] at hlt
    have h256 : (256 : Nat) ^ k = 2 ^ (8 * k) := by rw [show (256 : Nat) = 2 ^ 8 by decide, ← Nat.pow_mul]
    rw [h256] at hlt ⊢
    rw [Nat.or_comm, ← Nat.shiftLeft_add_eq_or_of_lt hlt, Nat.shiftLeft_eq, Nat.add_comm]

theorem get_round {n i : Nat} {c : UInt8} {s : Nat} (hi : i < n) (hn : n ≤ 8) (hs : s < 2 ^ 64) :
    bits .or .u64 (s : Int) (IntKind.u64.wrap ((c.toNat : Int) * 2 ^ (8 * (i : Int)).toNat)) = ((s ||| (c.toNat <<< (8 * i)) : Nat) : Int) := by
  have h1 : c.toNat < 2 ^ 8 := c.toNat_lt
  have h2 : (2 : Nat) ^ (8 * i) ≤ 2 ^ 56 := Nat.pow_le_pow_right (by decide) (by omega)
  have h3 : c.toNat * 2 ^ (8 * i) < 2 ^ 64 := by
    calc c.toNat * 2 ^ (8 * i) ≤ c.toNat * 2 ^ 56 := Nat.mul_le_mul_left _ h2
      _ < 2 ^ 8 * 2 ^ 56 := Nat.mul_lt_mul_of_pos_right h1 (by decide)
      _ = 2 ^ 64 := by decide
  have e : ((c.toNat : Int) * 2 ^ (8 * (i : Int)).toNat) = ((c.toNat * 2 ^ (8 * i) : Nat) : Int) := by
    rw [show (8 * (i : Int)).toNat = 8 * i by omega]; push_cast; rfl
  rw [e, IntKind.wrap_u64, Nat.shiftLeft_eq, Int.emod_eq_of_lt (by omega) (by omega)]
  exact u64_or_nat _ _ (by omega) (by omega)

theorem sizeB_iff (n : Nat) : sizeB n = true ↔ n = 1 ∨ n = 2 ∨ n = 4 ∨ n = 8 := by
  simp [sizeB]; omega

theorem get_fin {w ws W : World} {b off len cap at_ n : Nat} {G : Nat → UInt8 → Prop} {pre : List (BPair n)} {x : BPair n} (hb : b < w.heap.size) (hn8 : n ≤ 8)
    (hc : W.cell? ⟨w.heap.size, 0, none⟩ = some (.int .u64 (acc pre : Int))) (hf : W.frozen? ⟨w.heap.size, 0, none⟩ = false) (hB : Below w.heap.size w W) :
    let W2 := (W.setCell ⟨w.heap.size, 0, none⟩ (.int .u64 (bits BinOp.or IntKind.u64 (acc pre : Int) (IntKind.u64.wrap ((x.1.2.toNat : Int) * 2 ^ (8 * (x.1.1 : Int)).toNat))))).drew
    KeepsFrom ws.heap.size W W2 ∧ (FInv (w.heap.size + 1 + 2) (w.heap.size + 1) (w.heap.size + 1 + 1) (some ⟨b, off, none⟩) len cap at_ n G W → FInv (w.heap.size + 1 + 2) (w.heap.size + 1) (w.heap.size + 1 + 1) (some ⟨b, off, none⟩) len cap at_ n G W2) ∧
    (W2.cell? ⟨w.heap.size, 0, none⟩ = some (.int .u64 (acc (pre ++ [x]) : Int)) ∧ W2.frozen? ⟨w.heap.size, 0, none⟩ = false) ∧ Below w.heap.size w W2 := by
  intro W2
  have hW2 : W2 = (W.setCell ⟨w.heap.size, 0, none⟩ (.int .u64 (acc (pre ++ [x]) : Int))).drew := by
    show (W.setCell _ _).drew = _
    rw [get_round x.2 hn8 (acc_lt hn8 pre), acc_snoc]
  rw [hW2]
  refine ⟨((KeepsOthers.setCell _ _ _).trans (KeepsOthers.drew _)).from _, fun h => h.far (X := w.heap.size) (by omega) (by omega) (by omega) (fun _ ad e => by cases e; simp; omega) (fun p hp => ?_), ⟨?_, ?_⟩, ?_⟩
  · exact World.cell?_setCell_other W _ p _ (fun e => hp (by rw [← e]))
  · exact World.cell?_setCell_same' _ _ _ (by rw [hc]; rfl)
  · show (W.setCell _ _).frozen? _ = false
    rw [World.frozen?_setCell]; exact hf
  · exact (hB.setCell (p := ⟨w.heap.size, 0, none⟩) (Nat.le_refl _) _).drew

set_option maxRecDepth 100000 in
set_option maxHeartbeats 1000000 in
theorem get_in (A : Option Addr) (len cap at_ n : Nat) (bs : List UInt8) (w : World) (hn : sizeB n = true) (hle : at_ + n ≤ len) (hlm : len ≤ 9223372036854775807)
    (hR : ∀ k, k < n → ∃ b off c, A = some ⟨b, off, none⟩ ∧ bs[k]? = some c ∧ w.cell? ⟨b, off + (at_ + k), none⟩ = some (.int .u8 (c.toNat : Int))) :
    Calls Tryz.prog 146 #[.slice A len cap, .int .i64 at_, .int .i64 n] w fun e W' => e = .returned (.tuple #[.int .u64 (leN (bs.take n) : Int), .int .i64 0]) ∧ Below w.heap.size w W' := by
  have hins : insideB len at_ n = true := by simp [insideB]; omega
  have hn8 : n ≤ 8 := by rcases (sizeB_iff n).1 hn with h | h | h | h <;> omega
  have hn1 : 0 < n := by rcases (sizeB_iff n).1 hn with h | h | h | h <;> omega
  obtain ⟨b, off, c0, rfl, _, hcell0⟩ := hR 0 hn1
  have hb : b < w.heap.size := by
    rcases Nat.lt_or_ge b w.heap.size with h | h
    · exact h
    · simp [World.cell?, Array.getElem?_eq_none h] at hcell0
  have hR' : ∀ k, k < n → ∃ c, bs[k]? = some c ∧ w.cell? ⟨b, off + (at_ + k), none⟩ = some (.int .u8 (c.toNat : Int)) := fun k hk => by
    obtain ⟨b', off', c, e, h1, h2⟩ := hR k hk
    cases e
    exact ⟨c, h1, h2⟩
  clear hR hcell0
  have HR := Lib.hid hR'
  clear hR'
  refine (callsIn_wide (n := 5)).1 ?_
  have hro : (Fence.wide).round = none := rfl
  refine callsIn_of_wp_marks Tryz.func146 rfl trivial ?_ hro
  simp only [Tryz.ntmps146, List.size_toArray, List.length_cons, List.length_nil, Nat.reduceAdd, Nat.reduceSub, Array.replicate_succ, Array.replicate_zero, List.push_toArray, List.append_toArray, List.nil_append, List.cons_append]
  gi_wp2_with (first
    | (refine ⟨trivial, ?_⟩; gi_at_call 182; refine (callsIn_wide.2 (isSize_any _ _)).mono ?_; rintro e w' ⟨rfl, rfl⟩)
    | (refine ⟨trivial, ?_⟩; gi_at_call 183; refine (callsIn_wide.2 (within_any _ _ _ _ _ _ (by unfold maxLen; omega) (by omega) (by omega))).mono ?_; rintro e w' ⟨rfl, rfl⟩)
    | (refine ⟨trivial, ?_⟩; gi_at_call 184; refine (callsIn_wide.2 (field_any _ _ _ _ _ _)).mono ?_; rintro e w' ⟨rfl, rfl⟩))
  obtain ⟨ws, hws⟩ : ∃ ws, ((((w.alloc (.cells #[.int .u64 0] 160)).alloc (.cells #[.slice (some ⟨b, off, none⟩) len cap] 32)).alloc (.cells #[.int .i64 (at_ : Int)] 3)).alloc (.cells #[.int .i64 (n : Int)] 3)) = ws := ⟨_, rfl⟩
  have bX : Boxed ws w.heap.size 160 (.int .u64 0) := by rw [← hws]; exact (((Boxed.new w _ _).alloc _).alloc _).alloc _
  have bB : Boxed ws (w.heap.size + 1) 32 (.slice (some ⟨b, off, none⟩) len cap) := by
    have := Boxed.new (w.alloc (.cells #[.int .u64 0] 160)) 32 (.slice (some ⟨b, off, none⟩) len cap)
    rw [World.size_alloc] at this
    rw [← hws]; exact (this.alloc _).alloc _
  have bA : Boxed ws (w.heap.size + 1 + 1) 3 (.int .i64 (at_ : Int)) := by
    have := Boxed.new ((w.alloc (.cells #[.int .u64 0] 160)).alloc (.cells #[.slice (some ⟨b, off, none⟩) len cap] 32)) 3 (.int .i64 (at_ : Int))
    rw [World.size_alloc, World.size_alloc] at this
    rw [← hws]; exact this.alloc _
  have bN : Boxed ws (w.heap.size + 1 + 2) 3 (.int .i64 (n : Int)) := by
    have := Boxed.new (((w.alloc (.cells #[.int .u64 0] 160)).alloc (.cells #[.slice (some ⟨b, off, none⟩) len cap] 32)).alloc (.cells #[.int .i64 (at_ : Int)] 3)) 3 (.int .i64 (n : Int))
    rw [World.size_alloc, World.size_alloc, World.size_alloc] at this
    rw [← hws]; exact this
  have hB0 : Below w.heap.size w ws := by
    rw [← hws]; exact ((((Below.refl _ w).alloc (Nat.le_refl _) _).alloc (by simp) _).alloc (by simp; omega) _).alloc (by simp; omega) _
  have hsz : w.heap.size + 4 ≤ ws.heap.size := by rw [← hws]; simp
  rw [hws]
  have hF0 : FInv (w.heap.size + 1 + 2) (w.heap.size + 1) (w.heap.size + 1 + 1) (some ⟨b, off, none⟩) len cap at_ n (fun k c => bs[k]? = some c) ws :=
    ⟨bN.cell, bB.cell, bA.cell, fun k hk => by
      obtain ⟨c, h1, h2⟩ := HR.out k hk
      exact ⟨b, off, c, rfl, h1, (hB0.cell (p := ⟨b, off + (at_ + k), none⟩) hb).trans h2⟩⟩
  refine wpIn_rangeFunc_ownG hro (by omega) (gf := 196) (lb := #[.pointer (some ⟨w.heap.size + 1 + 2, 0, none⟩), .pointer (some ⟨w.heap.size + 1, 0, none⟩), .pointer (some ⟨w.heap.size + 1 + 1, 0, none⟩)]) rfl trivial (enters_of Tryz.func196 (by kernel_rfl) rfl)
    (field1_stops Fence.wide 4 trivial hro (by omega) _ _ _ _ len cap at_ n _ hle hlm ws hF0) finv_t (fun W l o o' _ h hc _ => finv_b W l o o' h hc) (Below.refl _ _) (fun _ => rfl)
    (fun pre W => (W.cell? ⟨w.heap.size, 0, none⟩ = some (.int .u64 (acc pre : Int)) ∧ W.frozen? ⟨w.heap.size, 0, none⟩ = false) ∧ Below w.heap.size w W)
    (fun _ _ _ => False)
    (OwnFrom.and (Own.from (fun s A B row hs hg hr => ⟨cell_kept hs.1 hg hr, (frozen_kept hs.1 hg hr).trans hs.2⟩) _) (ownFrom_below (Nat.le_refl _) (by omega)))
    (fun _ _ _ _ _ hs _ _ => hs)
    ⟨⟨bX.cell, bX.frozen⟩, hB0⟩
    (fun x => { tmps := #[.slice (some ⟨b, off, none⟩) len cap, .int .i64 at_, .int .i64 n, undef, undef, undef, .int .u64 0, .int .i64 0, .pointer (some ⟨w.heap.size, 0, none⟩), .int .i64 (x.1.1 : Int), .int .u8 (x.1.2.toNat : Int), .int .i64 n, .bool true, .bool false, .bool false, .slice (some ⟨b, off, none⟩) len cap, .int .i64 at_, .int .i64 n, .bool true, .bool false, .bool false, .slice (some ⟨b, off, none⟩) len cap, .int .i64 at_, .int .i64 n, .func (.func 196) #[] #[.pointer (some ⟨w.heap.size + 1 + 2, 0, none⟩), .pointer (some ⟨w.heap.size + 1, 0, none⟩), .pointer (some ⟨w.heap.size + 1 + 1, 0, none⟩)], .int .i64 (x.1.1 : Int), .int .u8 (x.1.2.toNat : Int), undef, undef, undef, undef, undef, undef, undef, undef], defers := [] }) ?assign ?body ?done ?stop
  case assign =>
    intro l x W K hK
    dsimp only [bpair]
    gi_wp2
    exact hK
  case body =>
    rintro l pre ⟨⟨i, c⟩, hi⟩ W ⟨⟨hc, hf⟩, hB⟩ _
    dsimp only at hi
    gi_wp2
    have hcl : c.toNat < 256 := c.toNat_lt
    have f1 : IntKind.u64.wrap (c.toNat : Int) = c.toNat := IntWalk.u64_in _ (by omega)
    have f2 : IntKind.i64.wrap (8 * (i : Int)) = 8 * i := IntWalk.i64_in _ (by omega)
    have f3 : (0 : Int) ≤ 8 * (i : Int) := by omega
    have hs := acc_lt (n := n) hn8 pre
    have hlt : w.heap.size < W.heap.size := by have := hB.size; have : (W.cell? ⟨w.heap.size, 0, none⟩).isSome := by rw [hc]; rfl
                                               rcases Nat.lt_or_ge w.heap.size W.heap.size with h | h
                                               · exact h
                                               · simp [World.cell?, Array.getElem?_eq_none h] at hc
    have fin := get_fin (w := w) (ws := ws) (len := len) (cap := cap) (at_ := at_) (n := n) (G := fun k c => bs[k]? = some c) (pre := pre) (x := ⟨(i, c), hi⟩) (off := off) hb hn8 hc hf hB
    have FIN := Lib.hid fin
    clear fin
    refine round_tail 7 (by kernel_rfl) (by kernel_rfl) (by kernel_rfl) (fun ⟨_, _, h⟩ => h) ?_
    simp only [List.take_succ_cons, List.take_zero, List.drop_succ_cons, List.drop_zero]
    repeat still_step
    try refine wpStill_nil ?_
    go_wp2
    exact FIN.out
  case done =>
    rintro D ys W hD hS ⟨⟨hc, hf⟩, hB⟩ hK
    have hacc := acc_came bs n ys hS
    have HA := Lib.hid hacc
    clear hacc
    gi_wp2
    refine ⟨by simp, .inl ⟨_, _, rfl, run_takeDeferred hK, ?_⟩⟩
    exact ⟨_, results_tmp2 rfl _ _ _, by rw [← HA.out]; rfl, hB.trans (belowK_b (w := w) (Nat.le_refl _) W D _ _ (by omega) hK rfl rfl)⟩
  case stop =>
    rintro D c pre W _ _ h _
    exact h.elim

end Go.Proofs.YtolpgpphjnkehaaGreatDoor.Blo
/- octet.Cut. -/
namespace Go.Proofs.YtolpgpphjnkehaaGreatDoor.Blo
set_option maxRecDepth 20000
open Go.RowKit Go.Shelf
attribute [local go_sem] Oper.semAt_some

/-- The row when some bytes have been laid. -/
def laid {n : Nat} (m : Nat) (pre : List (BPair n)) : List Value := pre.foldl (fun L x => L.set x.1.1 (bv x.1.2)) (List.replicate m (bv 0))
theorem laid_snoc {n m : Nat} (pre : List (BPair n)) (x : BPair n) : laid m (pre ++ [x]) = (laid m pre).set x.1.1 (bv x.1.2) := by simp [laid]
theorem laid_length {n m : Nat} (pre : List (BPair n)) : (laid m pre).length = m := by
  suffices h : ∀ (l : List (BPair n)) (L : List Value), (l.foldl (fun L x => L.set x.1.1 (bv x.1.2)) L).length = L.length by
    unfold laid; rw [h]; simp
  intro l
  induction l with
  | nil => intro L; rfl
  | cons x l ih => intro L; simp only [List.foldl_cons]; rw [ih]; simp

theorem came_snoc_inv {n : Nat} {G : Nat → UInt8 → Prop} {k : Nat} {ys : List (BPair n)} (h : Came G (k + 1) ys) : ∃ pre x, ys = pre ++ [x] ∧ Came G k pre ∧ x.1.1 = k ∧ G k x.1.2 := by
  have h1 := h.1
  rw [List.range_succ] at h1
  obtain ⟨pre, last, rfl, hp, hl⟩ := List.map_eq_append_iff.1 h1
  obtain ⟨x, r, rfl, hx, hr⟩ := List.map_eq_cons_iff.1 hl
  have hr' : r = [] := List.map_eq_nil_iff.1 hr
  subst hr'
  have hG := h.2 x (by simp)
  exact ⟨pre, x, rfl, ⟨hp, fun y hy => h.2 y (List.mem_append_left _ hy)⟩, hx, by rw [← hx]; exact hG⟩

theorem laid_came {n : Nat} (bs : List UInt8) (m : Nat) : ∀ (k : Nat) (ys : List (BPair n)), k ≤ m → Came (fun k c => bs[k]? = some c) k ys → laid m ys = (bs.take k).map bv ++ List.replicate (m - k) (bv 0) := by
  intro k
  induction k with
  | zero =>
    intro ys _ h
    have : ys = [] := List.eq_nil_of_length_eq_zero h.length
    subst this; simp [laid]
  | succ k ih =>
    intro ys hm h
    obtain ⟨pre, x, rfl, hp, hx, hG⟩ := came_snoc_inv h
    have hkl : k < bs.length := (List.getElem?_eq_some_iff.1 hG).1
    have hxe : bs[k] = x.1.2 := (List.getElem?_eq_some_iff.1 hG).2
    rw [laid_snoc, ih pre (by omega) hp, hx, List.take_succ_eq_append_getElem hkl, hxe]
    have hl : ((bs.take k).map bv).length = k := by simp; omega
    obtain ⟨r, hr⟩ : ∃ r, m - k = r + 1 := ⟨m - k - 1, by omega⟩
    rw [hr, show m - (k + 1) = r by omega, List.set_append, hl, if_neg (Nat.lt_irrefl _), Nat.sub_self]
    simp [List.replicate_succ, List.set_cons_zero]

theorem cut_fin {w ws W : World} {A : Option Addr} {len cap at_ n : Nat} {G : Nat → UInt8 → Prop} {pre : List (BPair n)} {x : BPair n} {tb : TypeId} (hb : 0 < n → ∀ ad : Addr, A = some ad → ad.block < w.heap.size)
    (hR : Blk W w.heap.size tb (laid n pre).toArray) (bX : Boxed W (w.heap.size + 1) 32 (.slice (some ⟨w.heap.size, 0, none⟩) n n)) (hB : Below w.heap.size w W) :
    let W2 := W.setCell ⟨w.heap.size, x.1.1, none⟩ (.int .u8 (x.1.2.toNat : Int))
    KeepsFrom ws.heap.size W W2 ∧ (FInv (w.heap.size + 1 + 1 + 2) (w.heap.size + 1 + 1) (w.heap.size + 1 + 1 + 1) A len cap at_ n G W → FInv (w.heap.size + 1 + 1 + 2) (w.heap.size + 1 + 1) (w.heap.size + 1 + 1 + 1) A len cap at_ n G W2) ∧
    (Blk W2 w.heap.size tb (laid n (pre ++ [x])).toArray ∧ Boxed W2 (w.heap.size + 1) 32 (.slice (some ⟨w.heap.size, 0, none⟩) n n)) ∧ Below w.heap.size w W2 := by
  intro W2
  refine ⟨(KeepsOthers.setCell _ _ _).from _, fun h => h.far (X := w.heap.size) (by omega) (by omega) (by omega) (fun h0 ad e => by have := hb h0 ad e; omega) (fun p hp => ?_), ⟨?_, ?_⟩, ?_⟩
  · exact World.cell?_setCell_other W _ p _ (fun e => hp (by rw [← e]))
  · have := hR.set_ x.1.1 (bv x.1.2)
    rw [laid_snoc]
    rw [List.setIfInBounds_toArray] at this
    exact this
  · exact Blk.far (cs := #[_]) bX (p := ⟨w.heap.size, x.1.1, none⟩) (by simp) _
  · exact hB.setCell (p := ⟨w.heap.size, x.1.1, none⟩) (Nat.le_refl _) _

set_option maxRecDepth 100000 in
set_option maxHeartbeats 1000000 in
theorem cut_in (A : Option Addr) (len cap at_ n : Nat) (bs : List UInt8) (w : World) (hle : at_ + n ≤ len) (hlm : len ≤ 281474976710656) (hbl : bs.length = len) (hA : Bytes w A bs) :
    Calls Tryz.prog 149 #[.slice A len cap, .int .i64 at_, .int .i64 n] w fun e W' => e = .returned (.tuple #[.slice (some ⟨w.heap.size, 0, none⟩) n n, .bool true]) ∧
      Blk W' w.heap.size 5 (((bs.drop at_).take n).map bv).toArray ∧ Below w.heap.size w W' := by
  have hins : insideB len at_ n = true := by simp [insideB]; omega
  have hmk := run_mk8 n (by omega)
  refine (callsIn_wide (n := 5)).1 ?_
  have hro : (Fence.wide).round = none := rfl
  refine callsIn_of_wp_marks Tryz.func149 rfl trivial ?_ hro
  simp only [Tryz.ntmps149, List.size_toArray, List.length_cons, List.length_nil, Nat.reduceAdd, Nat.reduceSub, Array.replicate_succ, Array.replicate_zero, List.push_toArray, List.append_toArray, List.nil_append, List.cons_append]
  gi_wp2_with (first
    | (refine ⟨trivial, ?_⟩; gi_at_call 183; refine (callsIn_wide.2 (within_any _ _ _ _ _ _ (by unfold maxLen; omega) (by omega) (by omega))).mono ?_; rintro e w' ⟨rfl, rfl⟩)
    | (refine ⟨trivial, ?_⟩; gi_at_call 184; refine (callsIn_wide.2 (field_any _ _ _ _ _ _)).mono ?_; rintro e w' ⟨rfl, rfl⟩))
  obtain ⟨ws, hws⟩ : ∃ ws, (((((w.alloc (.cells (mk8 n) 5)).alloc (.cells #[.slice (some ⟨w.heap.size, 0, none⟩) n n] 32)).alloc (.cells #[.slice A len cap] 32)).alloc (.cells #[.int .i64 (at_ : Int)] 3)).alloc (.cells #[.int .i64 (n : Int)] 3)) = ws := ⟨_, rfl⟩
  have bR : Blk ws w.heap.size 5 (laid (n := n) n []).toArray := by
    have := Blk.new w 5 (mk8 n)
    rw [mk8_eq] at this
    rw [← hws, mk8_eq]; exact (((this.alloc _).alloc _).alloc _).alloc _
  have bX : Boxed ws (w.heap.size + 1) 32 (.slice (some ⟨w.heap.size, 0, none⟩) n n) := by
    have := Boxed.new (w.alloc (.cells (mk8 n) 5)) 32 (.slice (some ⟨w.heap.size, 0, none⟩) n n)
    rw [World.size_alloc] at this
    rw [← hws]; exact ((this.alloc _).alloc _).alloc _
  have bB : Boxed ws (w.heap.size + 1 + 1) 32 (.slice A len cap) := by
    have := Boxed.new ((w.alloc (.cells (mk8 n) 5)).alloc (.cells #[.slice (some ⟨w.heap.size, 0, none⟩) n n] 32)) 32 (.slice A len cap)
    rw [World.size_alloc, World.size_alloc] at this
    rw [← hws]; exact (this.alloc _).alloc _
  have bA : Boxed ws (w.heap.size + 1 + 1 + 1) 3 (.int .i64 (at_ : Int)) := by
    have := Boxed.new (((w.alloc (.cells (mk8 n) 5)).alloc (.cells #[.slice (some ⟨w.heap.size, 0, none⟩) n n] 32)).alloc (.cells #[.slice A len cap] 32)) 3 (.int .i64 (at_ : Int))
    rw [World.size_alloc, World.size_alloc, World.size_alloc] at this
    rw [← hws]; exact this.alloc _
  have bN : Boxed ws (w.heap.size + 1 + 1 + 2) 3 (.int .i64 (n : Int)) := by
    have := Boxed.new ((((w.alloc (.cells (mk8 n) 5)).alloc (.cells #[.slice (some ⟨w.heap.size, 0, none⟩) n n] 32)).alloc (.cells #[.slice A len cap] 32)).alloc (.cells #[.int .i64 (at_ : Int)] 3)) 3 (.int .i64 (n : Int))
    rw [World.size_alloc, World.size_alloc, World.size_alloc, World.size_alloc] at this
    rw [← hws]; exact this
  have hB0 : Below w.heap.size w ws := by
    rw [← hws]; exact (((((Below.refl _ w).alloc (Nat.le_refl _) _).alloc (by simp) _).alloc (by simp; omega) _).alloc (by simp; omega) _).alloc (by simp; omega) _
  have hsz : w.heap.size + 5 ≤ ws.heap.size := by rw [← hws]; simp
  rw [hws]
  clear hws hmk
  have hbs : ∀ k, k < n → ∃ c, ((bs.drop at_).take n)[k]? = some c ∧ bs[at_ + k]? = some c := fun k hk => by
    have h1 : at_ + k < bs.length := by omega
    exact ⟨bs[at_ + k], by rw [List.getElem?_take_of_lt hk, List.getElem?_drop]; exact List.getElem?_eq_getElem h1, List.getElem?_eq_getElem h1⟩
  have hF0 : FInv (w.heap.size + 1 + 1 + 2) (w.heap.size + 1 + 1) (w.heap.size + 1 + 1 + 1) A len cap at_ n (fun k c => ((bs.drop at_).take n)[k]? = some c) ws :=
    ⟨bN.cell, bB.cell, bA.cell, fun k hk => by
      obtain ⟨c, h1, h2⟩ := hbs k hk
      obtain ⟨b, off, e, hb, hc⟩ := hA _ _ h2
      exact ⟨b, off, c, e, h1, (hB0.cell (p := ⟨b, off + (at_ + k), none⟩) hb).trans hc⟩⟩
  have hAb : 0 < n → ∀ ad : Addr, A = some ad → ad.block < w.heap.size := fun h0 ad e => by
    obtain ⟨c, h1, h2⟩ := hbs 0 h0
    obtain ⟨b, off, e', hb, hc⟩ := hA _ _ h2
    rw [e] at e'; cases e'; exact hb
  have HL := Lib.hid (laid_came (n := n) ((bs.drop at_).take n) n n)
  have HA := Lib.hid hAb
  clear hbs hAb
  refine wpIn_rangeFunc_ownG hro (by omega) (gf := 196) (lb := #[.pointer (some ⟨w.heap.size + 1 + 1 + 2, 0, none⟩), .pointer (some ⟨w.heap.size + 1 + 1, 0, none⟩), .pointer (some ⟨w.heap.size + 1 + 1 + 1, 0, none⟩)]) rfl trivial (enters_of Tryz.func196 (by kernel_rfl) rfl)
    (field1_stops Fence.wide 4 trivial hro (by omega) _ _ _ _ len cap at_ n _ hle (by omega) ws hF0) finv_t (fun W l o o' _ h hc _ => finv_b W l o o' h hc) (Below.refl _ _) (fun _ => rfl)
    (fun pre W => (Blk W w.heap.size 5 (laid n pre).toArray ∧ Boxed W (w.heap.size + 1) 32 (.slice (some ⟨w.heap.size, 0, none⟩) n n)) ∧ Below w.heap.size w W)
    (fun _ _ _ => False)
    (OwnFrom.and (Own.from (fun s A B row hs hg hr => ⟨hs.1.kept hg hr, Blk.kept (cs := #[_]) hs.2 hg hr⟩) _) (ownFrom_below (Nat.le_refl _) (by omega)))
    (fun _ _ _ _ _ hs _ _ => hs)
    ⟨⟨bR, bX⟩, hB0⟩
    (fun x => { tmps := #[.slice A len cap, .int .i64 at_, .int .i64 n, undef, undef, undef, .slice none 0 0, .bool false, .pointer (some ⟨w.heap.size + 1, 0, none⟩), .int .i64 (x.1.1 : Int), .int .u8 (x.1.2.toNat : Int), .slice A len cap, .int .i64 at_, .int .i64 n, .bool true, .bool false, .int .i64 n, .slice (some ⟨w.heap.size, 0, none⟩) n n, .slice A len cap, .int .i64 at_, .int .i64 n, .func (.func 196) #[] #[.pointer (some ⟨w.heap.size + 1 + 1 + 2, 0, none⟩), .pointer (some ⟨w.heap.size + 1 + 1, 0, none⟩), .pointer (some ⟨w.heap.size + 1 + 1 + 1, 0, none⟩)], .int .i64 (x.1.1 : Int), .int .u8 (x.1.2.toNat : Int), undef, undef, undef, undef, undef], defers := [] }) ?assign ?body ?done ?stop
  case assign =>
    intro l x W K hK
    dsimp only [bpair]
    gi_wp2
    exact hK
  case body =>
    rintro l pre ⟨⟨i, c⟩, hi⟩ W ⟨⟨hR, hX⟩, hB⟩ _
    dsimp only at hi
    have hxc := hX.cell
    have hl := laid_length (m := n) pre
    obtain ⟨u, hu⟩ : ∃ u, (laid n pre)[i]? = some u := ⟨_, List.getElem?_eq_getElem (by omega)⟩
    have hcell : W.cell? ⟨w.heap.size, i, none⟩ = some u := by rw [hR.cell]; simpa using hu
    have hfz := hR.frozen i
    have FIN := Lib.hid (cut_fin (ws := ws) (A := A) (len := len) (cap := cap) (at_ := at_) (n := n) (G := fun k c => ((bs.drop at_).take n)[k]? = some c) (pre := pre) (x := ⟨(i, c), hi⟩) HA.out hR hX hB)
    clear hl hu hR
    gi_wp2
    exact FIN.out
  case done =>
    rintro D ys W hD hS ⟨⟨hR, hX⟩, hB⟩ hK
    have hxc := hX.cell
    have hlt : ((bs.drop at_).take n).length = n := by simp; omega
    have hfin : Blk W w.heap.size 5 (((bs.drop at_).take n).map bv).toArray := by
      have e := HL.out ys (Nat.le_refl _) hS
      rw [e, Nat.sub_self, List.replicate_zero, List.append_nil, List.take_of_length_le (by omega)] at hR
      exact hR
    clear hlt
    gi_wp2
    refine ⟨by simp, .inl ⟨_, _, rfl, run_takeDeferred hK, ?_⟩⟩
    exact ⟨_, results_tmp2 rfl _ _ _, rfl, hfin.putObj _ hK rfl, hB.trans (belowK_b (w := w) (Nat.le_refl _) W D _ _ (by omega) hK rfl rfl)⟩
  case stop =>
    rintro D c pre W _ _ h _
    exact h.elim

end Go.Proofs.YtolpgpphjnkehaaGreatDoor.Blo
/- octet.Put, of a size that there is. -/
namespace Go.Proofs.YtolpgpphjnkehaaGreatDoor.Blo
set_option maxRecDepth 20000
open Go.RowKit Go.Shelf
attribute [local go_sem] Oper.semAt_some

/-- A number as so many bytes, the lowest first. -/
def lePut (x : Nat) : Nat → List UInt8
  | 0 => []
  | n + 1 => UInt8.ofNat x :: lePut (x / 256) n

/-- The row when some bytes have been put. -/
def putRow {n : Nat} (bs : List UInt8) (x : Nat) (pre : List (BPair n)) : List Value := pre.foldl (fun L y => L.set (bs.length + y.1.1) (bv (UInt8.ofNat (x / 2 ^ (8 * y.1.1))))) (bs.map bv ++ List.replicate n (bv 0))
theorem putRow_snoc {n : Nat} (bs : List UInt8) (x : Nat) (pre : List (BPair n)) (y : BPair n) : putRow bs x (pre ++ [y]) = (putRow bs x pre).set (bs.length + y.1.1) (bv (UInt8.ofNat (x / 2 ^ (8 * y.1.1)))) := by simp [putRow]
theorem putRow_length {n : Nat} (bs : List UInt8) (x : Nat) (pre : List (BPair n)) : (putRow bs x pre).length = bs.length + n := by
  suffices h : ∀ (l : List (BPair n)) (L : List Value), (l.foldl (fun L y => L.set (bs.length + y.1.1) (bv (UInt8.ofNat (x / 2 ^ (8 * y.1.1))))) L).length = L.length by
    unfold putRow; rw [h]; simp
  intro l
  induction l with
  | nil => intro L; rfl
  | cons y l ih => intro L; simp only [List.foldl_cons]; rw [ih]; simp

theorem lePut_length (x n : Nat) : (lePut x n).length = n := by
  induction n generalizing x with
  | zero => rfl
  | succ n ih => simp [lePut, ih]
theorem lePut_get (x : Nat) : ∀ (n k : Nat), k < n → (lePut x n)[k]? = some (UInt8.ofNat (x / 2 ^ (8 * k))) := by
  intro n
  induction n generalizing x with
  | zero => intro k h; omega
  | succ n ih =>
    intro k h
    cases k with
    | zero => simp [lePut]
    | succ k =>
      simp only [lePut, List.getElem?_cons_succ]
      rw [ih (x / 256) k (by omega), Nat.div_div_eq_div_mul, show (256 : Nat) = 2 ^ 8 by decide, ← Nat.pow_add, show 8 + 8 * k = 8 * (k + 1) by omega]

theorem putRow_came {n : Nat} (bs : List UInt8) (x : Nat) : ∀ (k : Nat) (ys : List (BPair n)), k ≤ n → Came (fun _ _ => True) k ys → putRow bs x ys = (bs ++ (lePut x n).take k).map bv ++ List.replicate (n - k) (bv 0) := by
  intro k
  induction k with
  | zero =>
    intro ys _ h
    have : ys = [] := List.eq_nil_of_length_eq_zero h.length
    subst this; simp [putRow]
  | succ k ih =>
    intro ys hk h
    obtain ⟨pre, y, rfl, hp, hy, _⟩ := came_snoc_inv h
    have hkl : k < (lePut x n).length := by rw [lePut_length]; omega
    have hg := lePut_get x n k (by omega)
    have hke : (lePut x n)[k] = UInt8.ofNat (x / 2 ^ (8 * k)) := by
      rw [List.getElem?_eq_getElem hkl] at hg; exact Option.some.inj hg
    rw [putRow_snoc, ih pre (by omega) hp, hy, List.take_succ_eq_append_getElem hkl, hke]
    have hl : ((bs ++ (lePut x n).take k).map bv).length = bs.length + k := by simp; rw [lePut_length]; omega
    obtain ⟨r, hr⟩ : ∃ r, n - k = r + 1 := ⟨n - k - 1, by omega⟩
    rw [hr, show n - (k + 1) = r by omega, List.set_append, hl, if_neg (Nat.lt_irrefl _), Nat.sub_self]
    simp [List.replicate_succ, List.set_cons_zero]

theorem put_byte (x i : Nat) : ((x : Int) / 2 ^ (8 * i) % 256) = ((UInt8.ofNat (x / 2 ^ (8 * i))).toNat : Int) := by
  rw [UInt8.toNat_ofNat']
  have e : ((x : Int) / 2 ^ (8 * i)) = ((x / 2 ^ (8 * i) : Nat) : Int) := by rw [Int.natCast_ediv, Int.natCast_pow]; rfl
  rw [e, Int.natCast_emod]
  rfl

theorem put_fin {w w1 ws W : World} {A : Option Addr} {cap n x : Nat} {bs : List UInt8} {pre : List (BPair n)} {y : BPair n} (h4 : w.heap.size + 4 ≤ w1.heap.size)
    (hR : Blk W (w.heap.size + 1 + 1) 5 (putRow bs x pre).toArray) (hB' : Boxed W w.heap.size 32 (.slice A bs.length cap)) (hX' : Boxed W (w.heap.size + 1) 160 (.int .u64 (x : Int)))
    (hL' : Boxed W (w.heap.size + 1 + 1 + 1) 32 (.slice (some ⟨w.heap.size + 1 + 1, 0, none⟩) (bs.length + n) (bs.length + n))) (hB : Below w.heap.size w W) :
    let W2 := (W.setCell ⟨w.heap.size + 1 + 1, bs.length + y.1.1, none⟩ (.int .u8 ((x : Int) / 2 ^ (8 * y.1.1) % 256))).drew
    KeepsFrom ws.heap.size W W2 ∧
    (FInv (w1.heap.size + 2) w1.heap.size (w1.heap.size + 1) (some ⟨w.heap.size + 1 + 1, 0, none⟩) (bs.length + n) (bs.length + n) bs.length n (fun _ _ => True) W →
      FInv (w1.heap.size + 2) w1.heap.size (w1.heap.size + 1) (some ⟨w.heap.size + 1 + 1, 0, none⟩) (bs.length + n) (bs.length + n) bs.length n (fun _ _ => True) W2) ∧
    (Blk W2 (w.heap.size + 1 + 1) 5 (putRow bs x (pre ++ [y])).toArray ∧ Boxed W2 w.heap.size 32 (.slice A bs.length cap) ∧ Boxed W2 (w.heap.size + 1) 160 (.int .u64 (x : Int)) ∧
      Boxed W2 (w.heap.size + 1 + 1 + 1) 32 (.slice (some ⟨w.heap.size + 1 + 1, 0, none⟩) (bs.length + n) (bs.length + n))) ∧ Below w.heap.size w W2 := by
  intro W2
  have hW2 : W2 = (W.setCell ⟨w.heap.size + 1 + 1, bs.length + y.1.1, none⟩ (bv (UInt8.ofNat (x / 2 ^ (8 * y.1.1))))).drew := by
    show (W.setCell _ _).drew = _
    rw [put_byte]; rfl
  have hother : ∀ p : Addr, p ≠ ⟨w.heap.size + 1 + 1, bs.length + y.1.1, none⟩ → W2.cell? p = W.cell? p := fun p hp => by
    rw [hW2]; exact World.cell?_setCell_other W _ p _ (fun e => hp e.symm)
  have hR2 : Blk W2 (w.heap.size + 1 + 1) 5 (putRow bs x (pre ++ [y])).toArray := by
    have := hR.set_ (bs.length + y.1.1) (bv (UInt8.ofNat (x / 2 ^ (8 * y.1.1))))
    rw [List.setIfInBounds_toArray, ← putRow_snoc] at this
    rw [hW2]; exact this
  refine ⟨?_, fun h => ⟨(hother _ (by simp <;> omega)).trans h.bn, (hother _ (by simp <;> omega)).trans h.bb, (hother _ (by simp <;> omega)).trans h.ba, fun k hk => ?_⟩, ⟨hR2, ?_, ?_, ?_⟩, ?_⟩
  · rw [hW2]; exact ((KeepsOthers.setCell _ _ _).trans (KeepsOthers.drew _)).from _
  · have hl := putRow_length (n := n) bs x (pre ++ [y])
    by_cases hki : k = y.1.1
    · subst hki
      refine ⟨_, _, UInt8.ofNat (x / 2 ^ (8 * y.1.1)), rfl, trivial, ?_⟩
      rw [Nat.zero_add, hR2.cell, putRow_snoc]
      have hl' := putRow_length (n := n) bs x pre
      simp [hl', y.2, bv]
    · obtain ⟨b, off, c, e, g, hc⟩ := h.by_ k hk
      cases e
      exact ⟨_, _, c, rfl, trivial, (hother ⟨w.heap.size + 1 + 1, 0 + (bs.length + k), none⟩ (by simp <;> omega)).trans hc⟩
  · rw [hW2]; exact Blk.far (cs := #[_]) hB' (p := ⟨w.heap.size + 1 + 1, bs.length + y.1.1, none⟩) (by simp <;> omega) _
  · rw [hW2]; exact Blk.far (cs := #[_]) hX' (p := ⟨w.heap.size + 1 + 1, bs.length + y.1.1, none⟩) (by simp) _
  · rw [hW2]; exact Blk.far (cs := #[_]) hL' (p := ⟨w.heap.size + 1 + 1, bs.length + y.1.1, none⟩) (by simp) _
  · rw [hW2]; exact (hB.setCell (p := ⟨w.heap.size + 1 + 1, bs.length + y.1.1, none⟩) (by simp <;> omega) _).drew

set_option maxRecDepth 100000 in
set_option maxHeartbeats 1000000 in
theorem put_in (A : Option Addr) (cap n x : Nat) (bs : List UInt8) (w : World) (hn : sizeB n = true) (hlm : bs.length ≤ 140737488355328) (hA : Bytes w A bs) :
    Calls Tryz.prog 154 #[.slice A bs.length cap, .int .u64 x, .int .i64 n] w fun e W' => e = .returned (.slice (some ⟨w.heap.size + 2, 0, none⟩) (bs.length + n) (bs.length + n)) ∧
      Blk W' (w.heap.size + 2) 5 ((bs ++ lePut x n).map bv).toArray ∧ Below w.heap.size w W' := by
  have hn8 : n ≤ 8 := by rcases (sizeB_iff n).1 hn with h | h | h | h <;> omega
  have hmk := run_mk8 (bs.length + n) (by omega)
  have e0 : (((bs.length + n : Nat) : Int)) = (bs.length : Int) + (n : Int) := by omega
  rw [e0] at hmk
  obtain ⟨wc, hwc⟩ : ∃ wc, (((w.alloc (.cells #[.slice A bs.length cap] 32)).alloc (.cells #[.int .u64 (x : Int)] 160)).alloc (.cells (mk8 (bs.length + n)) 5)).alloc (.cells #[.slice (some ⟨w.heap.size + 1 + 1, 0, none⟩) (bs.length + n) (bs.length + n)] 32) = wc := ⟨_, rfl⟩
  have cB : Boxed wc w.heap.size 32 (.slice A bs.length cap) := by rw [← hwc]; exact (((Boxed.new w _ _).alloc _).alloc _).alloc _
  have cX : Boxed wc (w.heap.size + 1) 160 (.int .u64 (x : Int)) := by
    have := Boxed.new (w.alloc (.cells #[.slice A bs.length cap] 32)) 160 (.int .u64 (x : Int))
    rw [World.size_alloc] at this
    rw [← hwc]; exact (this.alloc _).alloc _
  have cR : Blk wc (w.heap.size + 1 + 1) 5 (List.replicate (bs.length + n) (bv 0)).toArray := by
    have := Blk.new ((w.alloc (.cells #[.slice A bs.length cap] 32)).alloc (.cells #[.int .u64 (x : Int)] 160)) 5 (mk8 (bs.length + n))
    rw [World.size_alloc, World.size_alloc] at this
    rw [← hwc, ← mk8_eq]; exact this.alloc _
  have cL : Boxed wc (w.heap.size + 1 + 1 + 1) 32 (.slice (some ⟨w.heap.size + 1 + 1, 0, none⟩) (bs.length + n) (bs.length + n)) := by
    have := Boxed.new (((w.alloc (.cells #[.slice A bs.length cap] 32)).alloc (.cells #[.int .u64 (x : Int)] 160)).alloc (.cells (mk8 (bs.length + n)) 5)) 32 (.slice (some ⟨w.heap.size + 1 + 1, 0, none⟩) (bs.length + n) (bs.length + n))
    rw [World.size_alloc, World.size_alloc, World.size_alloc] at this
    rw [← hwc]; exact this
  have cW : Below w.heap.size w wc := by
    rw [← hwc]; exact ((((Below.refl _ w).alloc (Nat.le_refl _) _).alloc (by simp) _).alloc (by simp; omega) _).alloc (by simp; omega) _
  have csz : wc.heap.size = w.heap.size + 4 := by rw [← hwc]; simp
  obtain ⟨w1, hcp, hR1, hg1, hs1⟩ := run_copy8 wc 3 (w.heap.size + 1 + 1) (bs.length + n) (bs.length + n) A cap bs _ (hA.below cW) cR (by omega) (by simp)
  have dB := Blk.grown (cs := #[_]) cB hg1 (by simp; omega)
  have dX := Blk.grown (cs := #[_]) cX hg1 (by simp)
  have dL := Blk.grown (cs := #[_]) cL hg1 (by simp)
  have hB1 : Below w.heap.size w w1 := cW.grown hg1 (by omega) (fun k e => by cases e; omega)
  have hsz1 : w.heap.size + 4 ≤ w1.heap.size := by omega
  have fB : w1.cell? ⟨w.heap.size, 0, none⟩ = some (.slice A bs.length cap) := dB.cell 0
  have fX : w1.cell? ⟨w.heap.size + 1, 0, none⟩ = some (.int .u64 (x : Int)) := dX.cell 0
  have fL : w1.cell? ⟨w.heap.size + 1 + 1 + 1, 0, none⟩ = some (.slice (some ⟨w.heap.size + 1 + 1, 0, none⟩) (bs.length + n) (bs.length + n)) := dL.cell 0
  have DB := Lib.hid dB
  have DX := Lib.hid dX
  have DL := Lib.hid dL
  have DR := Lib.hid hR1
  have HB1 := Lib.hid hB1
  simp only [goInt] at hcp
  rw [← hwc] at hcp
  clear dB dX dL hR1 hB1 cB cX cR cL cW csz hs1 hg1 hwc
  refine (callsIn_wide (n := 5)).1 ?_
  have hro : (Fence.wide).round = none := rfl
  refine callsIn_of_wp_marks Tryz.func154 rfl trivial ?_ hro
  simp only [Tryz.ntmps154, List.size_toArray, List.length_cons, List.length_nil, Nat.reduceAdd, Nat.reduceSub, Array.replicate_succ, Array.replicate_zero, List.push_toArray, List.append_toArray, List.nil_append, List.cons_append]
  gi_wp2_with (first
    | (refine ⟨trivial, ?_⟩; gi_at_call 182; refine (callsIn_wide.2 (isSize_any _ _)).mono ?_; rintro e w' ⟨rfl, rfl⟩)
    | (refine ⟨trivial, ?_⟩; gi_at_call 184; refine (callsIn_wide.2 (field_any _ _ _ _ _ _)).mono ?_; rintro e w' ⟨rfl, rfl⟩))
  obtain ⟨ws, hws⟩ : ∃ ws, (((w1.alloc (.cells #[.slice (some ⟨w.heap.size + 1 + 1, 0, none⟩) (bs.length + n) (bs.length + n)] 32)).alloc (.cells #[.int .i64 (bs.length : Int)] 3)).alloc (.cells #[.int .i64 (n : Int)] 3)) = ws := ⟨_, rfl⟩
  have bB : Boxed ws w1.heap.size 32 (.slice (some ⟨w.heap.size + 1 + 1, 0, none⟩) (bs.length + n) (bs.length + n)) := by
    rw [← hws]; exact ((Boxed.new w1 _ _).alloc _).alloc _
  have bA : Boxed ws (w1.heap.size + 1) 3 (.int .i64 (bs.length : Int)) := by
    have := Boxed.new (w1.alloc (.cells #[.slice (some ⟨w.heap.size + 1 + 1, 0, none⟩) (bs.length + n) (bs.length + n)] 32)) 3 (.int .i64 (bs.length : Int))
    rw [World.size_alloc] at this
    rw [← hws]; exact this.alloc _
  have bN : Boxed ws (w1.heap.size + 2) 3 (.int .i64 (n : Int)) := by
    have := Boxed.new ((w1.alloc (.cells #[.slice (some ⟨w.heap.size + 1 + 1, 0, none⟩) (bs.length + n) (bs.length + n)] 32)).alloc (.cells #[.int .i64 (bs.length : Int)] 3)) 3 (.int .i64 (n : Int))
    rw [World.size_alloc, World.size_alloc] at this
    rw [← hws]; exact this
  have hk1 : Below w1.heap.size w1 ws := by
    rw [← hws]; exact (((Below.refl _ w1).alloc (Nat.le_refl _) _).alloc (by simp) _).alloc (by simp; omega) _
  have hB0 : Below w.heap.size w ws := HB1.out.trans (hk1.mono (by omega))
  have hsz : w1.heap.size + 3 ≤ ws.heap.size := by rw [← hws]; simp
  rw [hws]
  clear hws hmk hcp
  have eB : Boxed ws w.heap.size 32 (.slice A bs.length cap) := Blk.below (cs := #[_]) DB.out hk1 (by omega)
  have eX : Boxed ws (w.heap.size + 1) 160 (.int .u64 (x : Int)) := Blk.below (cs := #[_]) DX.out hk1 (by omega)
  have eL : Boxed ws (w.heap.size + 1 + 1 + 1) 32 (.slice (some ⟨w.heap.size + 1 + 1, 0, none⟩) (bs.length + n) (bs.length + n)) := Blk.below (cs := #[_]) DL.out hk1 (by omega)
  have eR : Blk ws (w.heap.size + 1 + 1) 5 (putRow (n := n) bs x []).toArray := by
    have := Blk.below DR.out hk1 (by omega)
    simpa [putRow] using this
  have hF0 : FInv (w1.heap.size + 2) w1.heap.size (w1.heap.size + 1) (some ⟨w.heap.size + 1 + 1, 0, none⟩) (bs.length + n) (bs.length + n) bs.length n (fun _ _ => True) ws :=
    ⟨bN.cell, bB.cell, bA.cell, fun k hk => ⟨w.heap.size + 1 + 1, 0, 0, rfl, trivial, by
      rw [Nat.zero_add, eR.cell]; simp [putRow]; rw [List.getElem?_append_right (by simp)]; simp [hk, bv]⟩⟩
  have HL := Lib.hid (putRow_came (n := n) bs x n)
  refine wpIn_rangeFunc_ownG hro (by omega) (gf := 196) (lb := #[.pointer (some ⟨w1.heap.size + 2, 0, none⟩), .pointer (some ⟨w1.heap.size, 0, none⟩), .pointer (some ⟨w1.heap.size + 1, 0, none⟩)]) rfl trivial (enters_of Tryz.func196 (by kernel_rfl) rfl)
    (field1_stops Fence.wide 4 trivial hro (by omega) _ _ _ _ (bs.length + n) (bs.length + n) bs.length n _ (Nat.le_refl _) (by omega) ws hF0) finv_t (fun W l o o' _ h hc _ => finv_b W l o o' h hc) (Below.refl _ _) (fun _ => rfl)
    (fun pre W => (Blk W (w.heap.size + 1 + 1) 5 (putRow bs x pre).toArray ∧ Boxed W w.heap.size 32 (.slice A bs.length cap) ∧ Boxed W (w.heap.size + 1) 160 (.int .u64 (x : Int)) ∧ Boxed W (w.heap.size + 1 + 1 + 1) 32 (.slice (some ⟨w.heap.size + 1 + 1, 0, none⟩) (bs.length + n) (bs.length + n))) ∧ Below w.heap.size w W)
    (fun _ _ _ => False)
    (OwnFrom.and (Own.from (fun s A B row hs hg hr => ⟨hs.1.kept hg hr, Blk.kept (cs := #[_]) hs.2.1 hg hr, Blk.kept (cs := #[_]) hs.2.2.1 hg hr, Blk.kept (cs := #[_]) hs.2.2.2 hg hr⟩) _) (ownFrom_below (Nat.le_refl _) (by omega)))
    (fun _ _ _ _ _ hs _ _ => hs)
    ⟨⟨eR, eB, eX, eL⟩, hB0⟩
    (fun y => { tmps := #[.slice A bs.length cap, .int .u64 x, .int .i64 n, .pointer (some ⟨w.heap.size, 0, none⟩), .pointer (some ⟨w.heap.size + 1, 0, none⟩), undef, .slice none 0 0, .pointer (some ⟨w.heap.size + 1 + 1 + 1, 0, none⟩), .int .i64 (y.1.1 : Int), .int .i64 n, .bool true, .bool false, undef, undef, .slice A bs.length cap, .int .i64 bs.length, .int .i64 n, .int .i64 (bs.length + n), .slice (some ⟨w.heap.size + 1 + 1, 0, none⟩) (bs.length + n) (bs.length + n), .slice (some ⟨w.heap.size + 1 + 1, 0, none⟩) (bs.length + n) (bs.length + n), .slice A bs.length cap, .int .i64 bs.length, .slice (some ⟨w.heap.size + 1 + 1, 0, none⟩) (bs.length + n) (bs.length + n), .slice A bs.length cap, .int .i64 bs.length, .int .i64 n, .func (.func 196) #[] #[.pointer (some ⟨w1.heap.size + 2, 0, none⟩), .pointer (some ⟨w1.heap.size, 0, none⟩), .pointer (some ⟨w1.heap.size + 1, 0, none⟩)], .int .i64 (y.1.1 : Int), .int .u8 (y.1.2.toNat : Int), undef, undef, undef, undef, undef, undef, undef, undef, undef, undef, undef, undef], defers := [] }) ?assign ?body ?done ?stop
  case assign =>
    intro l x W K hK
    dsimp only [bpair]
    gi_wp2
    exact hK
  case body =>
    rintro l pre ⟨⟨i, c⟩, hi⟩ W ⟨⟨hR, hB', hX', hL'⟩, hB⟩ _
    dsimp only at hi
    have g1 := hB'.cell
    have g2 := hX'.cell
    have g3 := hL'.cell
    have hl := putRow_length (n := n) bs x pre
    obtain ⟨u, hu⟩ : ∃ u, (putRow bs x pre)[bs.length + i]? = some u := ⟨_, List.getElem?_eq_getElem (by omega)⟩
    have hcell : W.cell? ⟨w.heap.size + 1 + 1, bs.length + i, none⟩ = some u := by rw [hR.cell]; simpa using hu
    have hfz := hR.frozen (bs.length + i)
    clear hl hu
    have FIN := Lib.hid (put_fin (ws := ws) (y := ⟨(i, c), hi⟩) hsz1 hR hB' hX' hL' hB)
    clear hR
    have hw8 : IntKind.i64.wrap (8 * (i : Int)) = 8 * i := IntWalk.i64_in _ (by omega)
    have hw9 : IntKind.i64.wrap ((bs.length : Int) + (i : Int)) = (bs.length : Int) + i := IntWalk.i64_in _ (by omega)
    have f3 : (0 : Int) ≤ 8 * (i : Int) := by omega
    have f4 : (0 : Int) ≤ (bs.length : Int) + (i : Int) := by omega
    have f5 : ((bs.length : Int) + (i : Int)).toNat = bs.length + i := by omega
    have f6 : (bs.length : Int) + (i : Int) < (bs.length : Int) + (n : Int) := by omega
    gi_wp2
    refine round_tail 11 (by kernel_rfl) (by kernel_rfl) (by kernel_rfl) ?hq ?_
    case hq => exact fun ⟨_, _, h⟩ => h
    simp only [List.take_succ_cons, List.take_zero, List.drop_succ_cons, List.drop_zero]
    repeat still_step
    try refine wpStill_nil ?_
    go_wp2
    exact FIN.out
  case done =>
    rintro D ys W hD hS ⟨⟨hR, hB', hX', hL'⟩, hB⟩ hK
    have g3 := hL'.cell
    have hfin : Blk W (w.heap.size + 1 + 1) 5 ((bs ++ lePut x n).map bv).toArray := by
      have e := HL.out ys (Nat.le_refl _) hS
      rw [e, Nat.sub_self, List.replicate_zero, List.append_nil, List.take_of_length_le (by rw [lePut_length]; exact Nat.le_refl _)] at hR
      exact hR
    clear hR
    have HF := Lib.hid hfin
    clear hfin
    gi_wp2
    refine ⟨by simp, .inl ⟨_, _, rfl, run_takeDeferred hK, ?_⟩⟩
    exact ⟨_, results_tmp rfl _ _ _, rfl, HF.out.putObj _ hK rfl, hB.trans (belowK_b (w := w) (Nat.le_refl _) W D _ _ (by omega) hK rfl rfl)⟩
  case stop =>
    rintro D c pre W _ _ h _
    exact h.elim

end Go.Proofs.YtolpgpphjnkehaaGreatDoor.Blo
/- octet's Get, Cut, Put in one form. -/
namespace Go.Proofs.YtolpgpphjnkehaaGreatDoor.Blo
set_option maxRecDepth 20000
open Go.RowKit Go.Shelf

def filled (bs : List UInt8) (n : Nat) : List UInt8 := bs ++ List.replicate (n - bs.length) 0

def fieldOf (bs : List UInt8) (at_ n : Nat) : List UInt8 := (bs.drop at_).take n
theorem get_ok (A : Option Addr) (cap at_ n : Nat) (bs : List UInt8) (w : World) (hn : sizeB n = true) (hle : at_ + n ≤ bs.length) (hlm : bs.length ≤ maxLen) (hA : Bytes w A bs) :
    Calls Tryz.prog 146 #[.slice A bs.length cap, .int .i64 at_, .int .i64 n] w fun e W' => e = .returned (.tuple #[.int .u64 (leN (fieldOf bs at_ n) : Int), .int .i64 0]) ∧ Below w.heap.size w W' := by
  unfold maxLen at hlm
  refine (get_in A bs.length cap at_ n (fieldOf bs at_ n) w hn hle (by omega) (fun k hk => ?_)).mono ?_
  · have h1 : at_ + k < bs.length := by omega
    obtain ⟨b, off, e, _, hc⟩ := hA (at_ + k) _ (List.getElem?_eq_getElem h1)
    exact ⟨b, off, _, e, by unfold fieldOf; rw [List.getElem?_take_of_lt hk, List.getElem?_drop]; exact List.getElem?_eq_getElem h1, hc⟩
  · rintro e W' ⟨rfl, hB⟩
    refine ⟨?_, hB⟩
    have : (fieldOf bs at_ n).take n = fieldOf bs at_ n := by unfold fieldOf; rw [List.take_take, Nat.min_self]
    rw [this]
theorem cut_ok (A : Option Addr) (cap at_ n : Nat) (bs : List UInt8) (w : World) (hle : at_ + n ≤ bs.length) (hlm : bs.length ≤ 281474976710656) (hA : Bytes w A bs) :
    Calls Tryz.prog 149 #[.slice A bs.length cap, .int .i64 at_, .int .i64 n] w fun e W' => e = .returned (.tuple #[.slice (some ⟨w.heap.size, 0, none⟩) n n, .bool true]) ∧
      Blk W' w.heap.size 5 (row8 (fieldOf bs at_ n)) ∧ Below w.heap.size w W' := cut_in A bs.length cap at_ n bs w hle hlm rfl hA
theorem put_ok (A : Option Addr) (cap n x : Nat) (bs : List UInt8) (w : World) (hn : sizeB n = true) (hlm : bs.length ≤ 140737488355328) (hA : Bytes w A bs) :
    Calls Tryz.prog 154 #[.slice A bs.length cap, .int .u64 x, .int .i64 n] w fun e W' => e = .returned (.slice (some ⟨w.heap.size + 2, 0, none⟩) (bs.length + n) (bs.length + n)) ∧
      Blk W' (w.heap.size + 2) 5 (row8 (bs ++ lePut x n)) ∧ Below w.heap.size w W' := put_in A cap n x bs w hn hlm hA

set_option maxHeartbeats 400000 in
theorem get_no (A : Option Addr) (len cap : Nat) (at_ n : Int) (w : World) (hl : len ≤ maxLen) (hn : n < 9223372036854775808) (ha : at_ < 9223372036854775808) (h : sizeB n = false ∨ insideB len at_ n = false) :
    Calls Tryz.prog 146 #[.slice A len cap, .int .i64 at_, .int .i64 n] w fun e W' => e = .returned (.tuple #[.int .u64 0, .int .i64 1]) ∧ w = W' := by
  by_cases h1 : sizeB n = true
  · have h2 : insideB len at_ n = false := by
      rcases h with h | h
      · rw [h1] at h; cases h
      · exact h
    clear h
    go_enter Tryz.func146, Tryz.ntmps146
    go_wp2_with (first
      | (go_at_call 182; refine (isSize_any _ _).mono ?_; rintro e w' ⟨rfl, rfl⟩)
      | (go_at_call 183; refine (within_any _ _ _ _ _ _ hl hn ha).mono ?_; rintro e w' ⟨rfl, rfl⟩))
    go_ret2
    exact ⟨rfl, rfl⟩
  · have h2 : sizeB n = false := by simpa using h1
    clear h h1
    go_enter Tryz.func146, Tryz.ntmps146
    go_wp2_with (first
      | (go_at_call 182; refine (isSize_any _ _).mono ?_; rintro e w' ⟨rfl, rfl⟩)
      | (go_at_call 183; refine (within_any _ _ _ _ _ _ hl hn ha).mono ?_; rintro e w' ⟨rfl, rfl⟩))
    go_ret2
    exact ⟨rfl, rfl⟩

set_option maxHeartbeats 400000 in
theorem cut_no (A : Option Addr) (len cap : Nat) (at_ n : Int) (w : World) (hl : len ≤ maxLen) (hn : n < 9223372036854775808) (ha : at_ < 9223372036854775808) (h : insideB len at_ n = false) :
    Calls Tryz.prog 149 #[.slice A len cap, .int .i64 at_, .int .i64 n] w fun e W' => e = .returned (.tuple #[.slice none 0 0, .bool false]) ∧ w = W' := by
  go_enter Tryz.func149, Tryz.ntmps149
  go_wp2_with (go_at_call 183; refine (within_any _ _ _ _ _ _ hl hn ha).mono ?_; rintro e w' ⟨rfl, rfl⟩)
  go_ret2
  exact ⟨rfl, rfl⟩

theorem get_okL (A : Option Addr) (len cap at_ n : Nat) (bs : List UInt8) (w : World) (hl : bs.length = len) (hn : sizeB n = true) (hle : at_ + n ≤ len) (hlm : len ≤ maxLen) (hA : Bytes w A bs) :
    Calls Tryz.prog 146 #[.slice A len cap, .int .i64 at_, .int .i64 n] w fun e W' => e = .returned (.tuple #[.int .u64 (leN (fieldOf bs at_ n) : Int), .int .i64 0]) ∧ Below w.heap.size w W' := by
  subst hl; exact get_ok A cap at_ n bs w hn hle hlm hA
theorem cut_okL (A : Option Addr) (len cap at_ n : Nat) (bs : List UInt8) (w : World) (hl : bs.length = len) (hle : at_ + n ≤ len) (hlm : len ≤ 281474976710656) (hA : Bytes w A bs) :
    Calls Tryz.prog 149 #[.slice A len cap, .int .i64 at_, .int .i64 n] w fun e W' => e = .returned (.tuple #[.slice (some ⟨w.heap.size, 0, none⟩) n n, .bool true]) ∧
      Blk W' w.heap.size 5 (row8 (fieldOf bs at_ n)) ∧ Below w.heap.size w W' := by subst hl; exact cut_ok A cap at_ n bs w hle hlm hA
theorem put_okL (A : Option Addr) (len cap n x : Nat) (bs : List UInt8) (w : World) (hl : bs.length = len) (hn : sizeB n = true) (hlm : len ≤ 140737488355328) (hA : Bytes w A bs) :
    Calls Tryz.prog 154 #[.slice A len cap, .int .u64 x, .int .i64 n] w fun e W' => e = .returned (.slice (some ⟨w.heap.size + 2, 0, none⟩) (len + n) (len + n)) ∧
      Blk W' (w.heap.size + 2) 5 (row8 (bs ++ lePut x n)) ∧ Below w.heap.size w W' := by subst hl; exact put_ok A cap n x bs w hn hlm hA

end Go.Proofs.YtolpgpphjnkehaaGreatDoor.Blo
/- The reference's small functions: power, there. -/
namespace Go.Proofs.YtolpgpphjnkehaaGreatDoor.Blo
set_option maxRecDepth 20000
open Go.RowKit

def powI (n : Int) : Int := if n = 1 then 256 else if n = 2 then 65536 else if n = 4 then 4294967296 else 0

theorem power_any (n : Int) (w : World) : Calls Tryz.prog 180 #[.int .i64 n] w fun e w' => e = .returned (.tuple #[.int .u64 (powI n), .bool (sizeB n)]) ∧ w = w' := by
  by_cases h1 : n = 1
  · subst h1
    go_enter Tryz.func180, Tryz.ntmps180
    go_wp2
    go_ret2
    exact ⟨rfl, rfl⟩
  by_cases h2 : n = 2
  · subst h2
    go_enter Tryz.func180, Tryz.ntmps180
    go_wp2
    go_ret2
    exact ⟨rfl, rfl⟩
  by_cases h4 : n = 4
  · subst h4
    go_enter Tryz.func180, Tryz.ntmps180
    go_wp2
    go_ret2
    exact ⟨rfl, rfl⟩
  have e1 : (n == 1) = false := by simpa using h1
  have e2 : (n == 2) = false := by simpa using h2
  have e4 : (n == 4) = false := by simpa using h4
  have hs : sizeB n = (n == 8) := by unfold sizeB; rw [e1, e2, e4]; simp
  have hp : powI n = 0 := by unfold powI; rw [if_neg h1, if_neg h2, if_neg h4]
  rw [hs, hp]
  clear hs hp
  go_enter Tryz.func180, Tryz.ntmps180
  go_wp2
  go_ret2
  exact ⟨rfl, rfl⟩

set_option maxHeartbeats 400000 in
theorem there_any (A : Option Addr) (len cap : Nat) (at_ n : Int) (w : World) (hl : len ≤ 281474976710656) (ha : at_ ≤ len) (_hn : -9223372036854775808 ≤ n ∧ n < 9223372036854775808) :
    Calls Tryz.prog 188 #[.slice A len cap, .int .i64 at_, .int .i64 n] w fun e w' => e = .returned (.bool (insideB len at_ n)) ∧ w = w' := by
  by_cases h0 : at_ < 0
  · have hi : insideB len at_ n = false := by
      have h : decide (0 ≤ at_) = false := by simp; omega
      unfold insideB; rw [h]; simp
    rw [hi]
    clear hi
    go_enter Tryz.func188, Tryz.ntmps188
    go_wp2
    go_ret
    exact ⟨rfl, rfl⟩
  by_cases h1 : n < 0
  · have hi : insideB len at_ n = false := by
      have h : decide (0 ≤ n) = false := by simp; omega
      unfold insideB; rw [h]; simp
    rw [hi]
    clear hi
    go_enter Tryz.func188, Tryz.ntmps188
    go_wp2
    go_ret
    exact ⟨rfl, rfl⟩
  obtain ⟨a, rfl⟩ : ∃ a : Nat, at_ = a := ⟨at_.toNat, by omega⟩
  obtain ⟨m, rfl⟩ : ∃ m : Nat, n = m := ⟨n.toNat, by omega⟩
  have hal : a ≤ len := by omega
  have hi : insideB len a m = decide ((m : Int) ≤ (len : Int) - (a : Int)) := by
    unfold insideB
    have q1 : decide ((0 : Int) ≤ (a : Int)) = true := by simp
    have q2 : decide ((0 : Int) ≤ (m : Int)) = true := by simp
    have q3 : decide ((a : Int) ≤ (len : Int)) = true := by simp; omega
    rw [q1, q2, q3]; simp
  have HI := Lib.hid hi
  clear hi ha
  go_enter Tryz.func188, Tryz.ntmps188
  go_wp2
  go_loop [7, 8] (fun l i => ∃ k : Nat, k ≤ a ∧ i = .int .i64 k ∧ l = .int .i64 ((len - k : Nat) : Int)) (fun _ i => a - (intOf i).toNat)
  case atStart => exact ⟨0, Nat.zero_le _, rfl, rfl⟩
  case round =>
    obtain ⟨k, hk, rfl, rfl⟩ := hrel
    by_cases hlt : k < a
    · obtain ⟨q, hq⟩ : ∃ q, len - k = q := ⟨_, rfl⟩
      have hq0 : ((q : Int) == 0) = false := by rw [beq_eq_false_iff_ne]; omega
      have hq1 : ¬ ((q : Int) = 0) := by omega
      have hqs : len - (k + 1) = q - 1 := by omega
      have HQ := Lib.hid hqs
      have hka : (k : Int) < (a : Int) := by omega
      have hq2 : 1 ≤ q := by omega
      have hqb : q ≤ 281474976710656 := by omega
      rw [hq]
      clear hqs hq
      go_wp2
      go_round
      case rel => exact ⟨k + 1, by omega, by go_num, by rw [HQ.out]; go_num⟩
      case measure => simp [intOf]; omega
    · obtain rfl : k = a := by omega
      have hka : ¬ ((k : Int) < (k : Int)) := by omega
      have e : ((len - k : Nat) : Int) = (len : Int) - (k : Int) := by omega
      rw [e]
      clear e
      go_wp2
      go_ret
      exact ⟨by rw [HI.out]; rfl, rfl⟩

end Go.Proofs.YtolpgpphjnkehaaGreatDoor.Blo
/- The reference's Get. -/
namespace Go.Proofs.YtolpgpphjnkehaaGreatDoor.Blo
set_option maxRecDepth 20000
open Go.RowKit

theorem inside_nat {len : Nat} {at_ n : Int} (h : insideB len at_ n = true) : ∃ a m : Nat, at_ = a ∧ n = m ∧ a + m ≤ len := by
  simp [insideB] at h
  obtain ⟨⟨⟨h1, h2⟩, h3⟩, h4⟩ := h
  exact ⟨at_.toNat, n.toNat, by omega, by omega, by omega⟩

set_option maxHeartbeats 400000 in
theorem refget_no (A : Option Addr) (len cap : Nat) (at_ n : Int) (w : World) (hl : len ≤ 281474976710656) (hn : -9223372036854775808 ≤ n ∧ n < 9223372036854775808) (h : sizeB n = false ∨ insideB len at_ n = false) :
    Calls Tryz.prog 152 #[.slice A len cap, .int .i64 at_, .int .i64 n] w fun e w' => e = .returned (.tuple #[.int .u64 0, .int .i64 1]) ∧ w = w' := by
  have HP := Lib.hid (power_any n w)
  by_cases hs : sizeB n = true
  · have hi : insideB len at_ n = false := by
      rcases h with h | h
      · rw [hs] at h; cases h
      · exact h
    rw [hs] at HP
    by_cases ha : at_ ≤ len
    · have ht := there_any A len cap at_ n w hl ha hn
      rw [hi] at ht
      have HT := Lib.hid ht
      clear ht hi h hs
      go_enter Tryz.func152, Tryz.ntmps152
      go_wp2_with (first
        | (go_at_call 180; refine HP.out.mono ?_; rintro e w' ⟨rfl, rfl⟩)
        | (go_at_call 188; refine HT.out.mono ?_; rintro e w' ⟨rfl, rfl⟩))
      go_ret2
      exact ⟨rfl, rfl⟩
    · have ha2 : (len : Int) < at_ := by omega
      clear hi h hs
      go_enter Tryz.func152, Tryz.ntmps152
      go_wp2_with (first
        | (go_at_call 180; refine HP.out.mono ?_; rintro e w' ⟨rfl, rfl⟩))
      go_ret2
      exact ⟨rfl, rfl⟩
  · have hs' : sizeB n = false := by simpa using hs
    rw [hs'] at HP
    clear h hs hs'
    go_enter Tryz.func152, Tryz.ntmps152
    go_wp2_with (first
      | (go_at_call 180; refine HP.out.mono ?_; rintro e w' ⟨rfl, rfl⟩))
    go_ret2
    exact ⟨rfl, rfl⟩

theorem refget_step (l : List UInt8) (q : Nat) (hq : q < l.length) (h8 : l.length ≤ 8) : ((256 * (leN (l.drop (q + 1)) : Int)) % 18446744073709551616 + (l[q].toNat : Int)) % 18446744073709551616 = (leN (l.drop q) : Int) := by
  have e : l.drop q = l[q] :: l.drop (q + 1) := List.drop_eq_getElem_cons hq
  have hlt := leN_lt (l.drop q)
  have hp : 256 ^ (l.drop q).length ≤ 256 ^ 8 := Nat.pow_le_pow_right (by decide) (by simp; omega)
  rw [e, leN] at hlt
  rw [e, leN]
  have : (256 : Nat) ^ 8 = 18446744073709551616 := by decide
  have h2 : l[q].toNat + 256 * leN (l.drop (q + 1)) < 18446744073709551616 := by rw [e] at hp; omega
  omega

set_option maxHeartbeats 400000 in
theorem refget_ok (A : Option Addr) (len cap at_ n : Nat) (bs : List UInt8) (w : World) (hbl : bs.length = len) (hn : sizeB n = true) (hle : at_ + n ≤ len) (hl : len ≤ 281474976710656) (hA : Bytes w A bs) :
    Calls Tryz.prog 152 #[.slice A len cap, .int .i64 at_, .int .i64 n] w fun e w' => e = .returned (.tuple #[.int .u64 (leN (fieldOf bs at_ n) : Int), .int .i64 0]) ∧ w = w' := by
  have hn8 : n ≤ 8 ∧ 1 ≤ n := by have := (sizeB_iff n).1 hn; omega
  have HP := Lib.hid (power_any n w)
  rw [hn] at HP
  have ht := there_any A len cap at_ n w hl (by omega) (by omega)
  have hi : insideB len at_ n = true := by simp [insideB]; omega
  rw [hi] at ht
  have HT := Lib.hid ht
  obtain ⟨fb, hfb⟩ : ∃ fb, fieldOf bs at_ n = fb := ⟨_, rfl⟩
  have hfl : fb.length = n := by rw [← hfb]; unfold fieldOf; simp; omega
  have hget : ∀ q (hq : q < fb.length), bs[at_ + q]? = some fb[q] := by
    intro q hq
    have h1 : fb[q]? = some fb[q] := List.getElem?_eq_getElem hq
    rw [← h1, ← hfb]
    unfold fieldOf
    rw [List.getElem?_take_of_lt (by omega), List.getElem?_drop]
  rw [hfb]
  have HG := Lib.hid hget
  have HFL := Lib.hid hfl
  have HA := Lib.hid hA
  have hal : ¬ ((len : Int) < (at_ : Int)) := by omega
  clear hn ht hi hfb hget hfl hA
  go_enter Tryz.func152, Tryz.ntmps152
  go_wp2_with (first
    | (go_at_call 180; refine HP.out.mono ?_; rintro e w' ⟨rfl, rfl⟩)
    | (go_at_call 188; refine HT.out.mono ?_; rintro e w' ⟨rfl, rfl⟩))
  go_loop [10, 11] (fun x i => ∃ j : Nat, j ≤ n ∧ i = .int .i64 ((j : Int) - 1) ∧ x = .int .u64 (leN (fb.drop j) : Int)) (fun _ i => (intOf i + 1).toNat)
  case atStart => exact ⟨n, Nat.le_refl _, rfl, by rw [List.drop_eq_nil_of_le (Nat.le_of_eq HFL.out)]; rfl⟩
  case round =>
    obtain ⟨j, hj, rfl, rfl⟩ := hrel
    cases j with
    | zero =>
      go_wp2
      go_ret2
      exact ⟨rfl, rfl⟩
    | succ q =>
      have hq : q < fb.length := by rw [HFL.out]; omega
      have hb := HG.out q hq
      obtain ⟨b, off, rfl, _, hc⟩ := HA.out.at_ (k := at_ + q) (by omega)
      have hc2 := hc _ _ hb
      have hstep := refget_step fb q hq (by rw [HFL.out]; omega)
      have hcl := fb[q].toNat_lt
      obtain ⟨p, hp⟩ : ∃ p, at_ + q = p := ⟨_, rfl⟩
      rw [hp] at hc2
      generalize fb[q].toNat = c at *
      have e1 : (((q + 1 : Nat) : Int) - 1) = (q : Int) := by omega
      have e2 : (at_ : Int) + (q : Int) = (p : Int) := by omega
      have hpl : (p : Int) < (len : Int) := by omega
      have HST := Lib.hid hstep
      rw [e1]
      clear hb hc hstep hp e1
      go_wp2
      go_round
      case rel => exact ⟨q, by omega, rfl, by rw [← HST.out, IntKind.wrap_u64, IntKind.wrap_u64]⟩
      case measure => simp [intOf]

end Go.Proofs.YtolpgpphjnkehaaGreatDoor.Blo
/- The reference's Put and Cut. -/
namespace Go.Proofs.YtolpgpphjnkehaaGreatDoor.Blo
set_option maxRecDepth 20000
open Go.RowKit

theorem own_new (w : World) (base : Nat) (h : base ≤ w.heap.size) : (w.alloc (.cells #[] 5)).ownsRow base 5 1 (.slice (some ⟨w.heap.size, 0, none⟩) 0 0) 0 (([] : List UInt8).map bv) :=
  World.ownsRow_made w #[] 0 h (Nat.zero_le _) rfl
theorem own_shape {w : World} {base : Nat} {e : TypeId} {v : Value} {n : Nat} {xs : List Value} (h : w.ownsRow base e 1 v n xs) : ∃ A c, v = .slice A n c := by
  rcases h.2 with ⟨rfl, rfl⟩ | ⟨g, cap, cur, rfl, _⟩
  · exact ⟨none, 0, rfl⟩
  · exact ⟨_, cap, rfl⟩
theorem run_app1 (w : World) (base : Nat) (v : Value) (n : Nat) (xs : List UInt8) (c : UInt8) (hown : w.ownsRow base 5 1 v n (xs.map bv)) (hb : n ≤ 70368744177664) (hbase : base ≤ w.heap.size) :
    ∃ v' w', (Builtin.append_ #[32, 32] 32 #[v, .slice (some ⟨w.heap.size, 0, none⟩) 1 1]).run Tryz.prog (w.alloc (.cells #[.int .u8 (c.toNat : Int)] 5)) = .ok v' w' ∧ w'.ownsRow base 5 1 v' (n + 1) ((xs ++ [c]).map bv) ∧ (w.alloc (.cells #[.int .u8 (c.toNat : Int)] 5)).grownBy w' v.ownBlock :=
  run_app8 (w.alloc (.cells #[.int .u8 (c.toNat : Int)] 5)) base v n xs (own_below hown ((Below.refl _ w).alloc (Nat.le_refl _) _)) (some ⟨w.heap.size, 0, none⟩) 1 1 [c] rfl (Bytes.row (bs := [c]) (Blk.new w _ _)) (by omega) (by rw [World.size_alloc]; omega)

theorem lePut_snoc (x k : Nat) : lePut x (k + 1) = lePut x k ++ [UInt8.ofNat (x / 256 ^ k)] := by
  induction k generalizing x with
  | zero => simp [lePut]
  | succ k ih =>
    rw [lePut, ih]
    simp only [lePut, List.cons_append]
    rw [Nat.div_div_eq_div_mul, Nat.pow_succ, Nat.mul_comm 256]
theorem ofNat_mod (x y : Nat) (h : x % 256 = y % 256) : UInt8.ofNat x = UInt8.ofNat y := by
  apply UInt8.toNat_inj.1
  rw [UInt8.toNat_ofNat', UInt8.toNat_ofNat']; exact h
theorem lePut_mod (x n : Nat) : lePut (x % 256 ^ n) n = lePut x n := by
  induction n generalizing x with
  | zero => rfl
  | succ n ih =>
    simp only [lePut]
    have h1 : x % 256 ^ (n + 1) = x % 256 + 256 * (x / 256 % 256 ^ n) := by rw [Nat.pow_succ, Nat.mul_comm]; exact Nat.mod_mul
    rw [h1, show (x % 256 + 256 * (x / 256 % 256 ^ n)) / 256 = x / 256 % 256 ^ n by omega, ih]
    congr 1
    exact ofNat_mod _ _ (by omega)

/-- What Put puts: nothing, if that is no size. -/
def putBytes (bs : List UInt8) (x : Nat) (n : Int) : List UInt8 := if sizeB n then bs ++ lePut x n.toNat else bs

set_option maxHeartbeats 800000 in
theorem refput_any (A : Option Addr) (len cap x : Nat) (n : Int) (bs : List UInt8) (w : World) (hbl : bs.length = len) (hl : len ≤ 1048576) (hA : Bytes w A bs) (hx : x < 18446744073709551616) :
    Calls Tryz.prog 140 #[.slice A len cap, .int .u64 x, .int .i64 n] w fun e w' => ∃ v, ∃ m, e = .returned v ∧ w'.ownsRow w.heap.size 5 1 v m ((putBytes bs x n).map bv) ∧ Below w.heap.size w w' := by
  have hb0 : Below w.heap.size w (w.alloc (.cells #[] 5)) := (Below.refl _ w).alloc (Nat.le_refl _) _
  obtain ⟨v1, w1, hrun1, hown1, hgr1⟩ := run_app8 (w.alloc (.cells #[] 5)) w.heap.size _ 0 [] (own_new w w.heap.size (Nat.le_refl _)) A len cap bs hbl (hA.below hb0) (by omega) (by simp)
  rw [List.nil_append, Nat.zero_add] at hown1
  have hb1 : Below w.heap.size w w1 := hb0.grown hgr1 (by simp) (fun k e => by simp [Value.ownBlock] at e; omega)
  have HRUN := Lib.hid hrun1
  have HO := Lib.hid hown1
  have HB1 := Lib.hid hb1
  have HP := Lib.hid (power_any n w1)
  have HS1 := Lib.hid hb1.size
  cases hs : sizeB n
  · rw [hs] at HP
    have hpb : putBytes bs x n = bs := by unfold putBytes; rw [hs]; rfl
    rw [hpb]
    clear hpb
    clear hrun1 hown1 hgr1 hb1 hb0 hA hs
    go_enter Tryz.func140, Tryz.ntmps140
    go_wp2_with (first
      | (at_builtin; refine wpList_app rfl _ _ 32 rfl _ _ _ _ rfl rfl HRUN.out ?_; clear HRUN)
      | (go_at_call 180; refine HP.out.mono ?_; rintro e w' ⟨rfl, rfl⟩))
    go_ret
    exact ⟨_, _, rfl, HO.out, HB1.out⟩
  · rw [hs] at HP
    have hpb : putBytes bs x n = bs ++ lePut x n.toNat := by unfold putBytes; rw [hs]; rfl
    have hcases : n = 1 ∨ n = 2 ∨ n = 4 ∨ n = 8 := by simpa [sizeB, or_assoc] using hs
    obtain ⟨m, rfl⟩ : ∃ m : Nat, n = m := ⟨n.toNat, by omega⟩
    have hm8 : m ≤ 8 := by omega
    rw [Int.toNat_natCast, ← lePut_mod x m] at hpb
    have hx1 : ∃ y, x % 256 ^ m = y ∧ (0 < powI m → (x : Int) % powI m = (y : Int)) ∧ (¬ 0 < powI m → x = y) := by
      refine ⟨_, rfl, ?_, ?_⟩
      · rcases hcases with h | h | h | h
        · obtain rfl : m = 1 := by omega
          intro _; rfl
        · obtain rfl : m = 2 := by omega
          intro _; rfl
        · obtain rfl : m = 4 := by omega
          intro _; rfl
        · obtain rfl : m = 8 := by omega
          intro h0; exact absurd h0 (by decide)
      · rcases hcases with h | h | h | h
        · obtain rfl : m = 1 := by omega
          intro h0; exact absurd (by decide) h0
        · obtain rfl : m = 2 := by omega
          intro h0; exact absurd (by decide) h0
        · obtain rfl : m = 4 := by omega
          intro h0; exact absurd (by decide) h0
        · obtain rfl : m = 8 := by omega
          intro _
          exact (Nat.mod_eq_of_lt (by have : (256 : Nat) ^ 8 = 18446744073709551616 := by decide
                                      omega)).symm
    obtain ⟨y, hy, hy1, hy2⟩ := hx1
    rw [hy] at hpb
    have HPB := Lib.hid hpb
    have hyx : y < 18446744073709551616 := by rw [← hy]; exact Nat.lt_of_le_of_lt (Nat.mod_le _ _) hx
    have hpnn : 0 ≤ powI m := by unfold powI; repeat (first | omega | split)
    have HX1 := Lib.hid hy1
    have HX2 := Lib.hid hy2
    obtain ⟨P, hP⟩ : ∃ P, powI m = P := ⟨_, rfl⟩
    rw [hP] at HP HX1 HX2 hpnn
    clear hrun1 hown1 hgr1 hb1 hb0 hA hs hcases hy hy1 hy2 hP hpb
    by_cases hP0 : 0 < P
    · have hxy := HX1.out hP0
      go_enter Tryz.func140, Tryz.ntmps140
      go_wp2_with (first
        | (at_builtin; refine wpList_app rfl _ _ 32 rfl _ _ _ _ rfl rfl HRUN.out ?_; clear HRUN)
        | (go_at_call 180; refine HP.out.mono ?_; rintro e w' ⟨rfl, rfl⟩))
      rw [hxy]
      clear hxy
      go_loopw [1, 7, 10] (fun xx v i wr => ∃ k : Nat, k ≤ m ∧ i = .int .i64 k ∧ xx = .int .u64 ((y / 256 ^ k : Nat) : Int) ∧ wr.ownsRow w.heap.size 5 1 v (len + k) ((bs ++ lePut y k).map bv) ∧ Below w.heap.size w wr) (fun _ _ i _ => m - (intOf i).toNat)
      case atStart => exact ⟨0, Nat.zero_le _, rfl, by simp, by simpa [lePut] using HO.out, HB1.out⟩
      case round =>
        obtain ⟨k, hk, rfl, rfl, hown, hbw⟩ := hrel
        have hszw := hbw.size
        by_cases hlt : k < m
        · have hsn := lePut_snoc y k
          have hnext : y / 256 ^ (k + 1) = y / 256 ^ k / 256 := by rw [Nat.pow_succ, Nat.div_div_eq_div_mul]
          have hXl : y / 256 ^ k < 18446744073709551616 := Nat.lt_of_le_of_lt (Nat.div_le_self _ _) hyx
          obtain ⟨X, hX⟩ : ∃ X, y / 256 ^ k = X := ⟨_, rfl⟩
          rw [hX] at hsn hnext hXl
          rw [hX]
          obtain ⟨c, hc⟩ : ∃ c, UInt8.ofNat X = c := ⟨_, rfl⟩
          have hcn : (X : Int) % 256 = (c.toNat : Int) := by
            rw [← hc]; have : (UInt8.ofNat X).toNat = X % 256 := UInt8.toNat_ofNat'
            rw [this]; omega
          rw [hc] at hsn
          obtain ⟨v2, w2, hrun2, hown2, hgr2⟩ := run_app1 wr w.heap.size _ (len + k) _ c hown (by omega) hszw
          rw [List.append_assoc, ← hsn] at hown2
          have hb2 : Below w.heap.size w w2 := (hbw.alloc hszw _).grown hgr2 (by rw [World.size_alloc]; omega) (fun k e => (hown.lt k e).1)
          have HR2 := Lib.hid hrun2
          have HO2 := Lib.hid hown2
          have HB2 := Lib.hid hb2
          have HNX := Lib.hid hnext
          have hkm : (k : Int) < (m : Int) := by omega
          have hcl := c.toNat_lt
          clear hsn hnext hX hc hown hbw hrun2 hown2 hgr2 hb2
          go_wp2_with (at_builtin; refine wpList_app rfl _ _ 32 rfl _ _ _ _ rfl rfl HR2.out ?_; clear HR2)
          go_roundw
          case rel => exact ⟨k + 1, by omega, by go_num, by rw [HNX.out]; go_num, HO2.out, HB2.out⟩
          case measure => simp [intOf]; omega
        · obtain rfl : k = m := by omega
          have HO3 := Lib.hid hown
          have HB3 := Lib.hid hbw
          have hkm : ¬ ((k : Int) < (k : Int)) := by omega
          clear hown hbw
          go_wp2
          go_ret
          exact ⟨_, rfl, ⟨_, by rw [HPB.out]; exact HO3.out⟩, HB3.out⟩
    · obtain rfl := HX2.out hP0
      go_enter Tryz.func140, Tryz.ntmps140
      go_wp2_with (first
        | (at_builtin; refine wpList_app rfl _ _ 32 rfl _ _ _ _ rfl rfl HRUN.out ?_; clear HRUN)
        | (go_at_call 180; refine HP.out.mono ?_; rintro e w' ⟨rfl, rfl⟩))
      go_loopw [1, 7, 10] (fun xx v i wr => ∃ k : Nat, k ≤ m ∧ i = .int .i64 k ∧ xx = .int .u64 ((x / 256 ^ k : Nat) : Int) ∧ wr.ownsRow w.heap.size 5 1 v (len + k) ((bs ++ lePut x k).map bv) ∧ Below w.heap.size w wr) (fun _ _ i _ => m - (intOf i).toNat)
      case atStart => exact ⟨0, Nat.zero_le _, rfl, by simp, by simpa [lePut] using HO.out, HB1.out⟩
      case round =>
        obtain ⟨k, hk, rfl, rfl, hown, hbw⟩ := hrel
        have hszw := hbw.size
        by_cases hlt : k < m
        · have hsn := lePut_snoc x k
          have hnext : x / 256 ^ (k + 1) = x / 256 ^ k / 256 := by rw [Nat.pow_succ, Nat.div_div_eq_div_mul]
          have hXl : x / 256 ^ k < 18446744073709551616 := Nat.lt_of_le_of_lt (Nat.div_le_self _ _) hyx
          obtain ⟨X, hX⟩ : ∃ X, x / 256 ^ k = X := ⟨_, rfl⟩
          rw [hX] at hsn hnext hXl
          rw [hX]
          obtain ⟨c, hc⟩ : ∃ c, UInt8.ofNat X = c := ⟨_, rfl⟩
          have hcn : (X : Int) % 256 = (c.toNat : Int) := by
            rw [← hc]; have : (UInt8.ofNat X).toNat = X % 256 := UInt8.toNat_ofNat'
            rw [this]; omega
          rw [hc] at hsn
          obtain ⟨v2, w2, hrun2, hown2, hgr2⟩ := run_app1 wr w.heap.size _ (len + k) _ c hown (by omega) hszw
          rw [List.append_assoc, ← hsn] at hown2
          have hb2 : Below w.heap.size w w2 := (hbw.alloc hszw _).grown hgr2 (by rw [World.size_alloc]; omega) (fun k e => (hown.lt k e).1)
          have HR2 := Lib.hid hrun2
          have HO2 := Lib.hid hown2
          have HB2 := Lib.hid hb2
          have HNX := Lib.hid hnext
          have hkm : (k : Int) < (m : Int) := by omega
          have hcl := c.toNat_lt
          clear hsn hnext hX hc hown hbw hrun2 hown2 hgr2 hb2
          go_wp2_with (at_builtin; refine wpList_app rfl _ _ 32 rfl _ _ _ _ rfl rfl HR2.out ?_; clear HR2)
          go_roundw
          case rel => exact ⟨k + 1, by omega, by go_num, by rw [HNX.out]; go_num, HO2.out, HB2.out⟩
          case measure => simp [intOf]; omega
        · obtain rfl : k = m := by omega
          have HO3 := Lib.hid hown
          have HB3 := Lib.hid hbw
          have hkm : ¬ ((k : Int) < (k : Int)) := by omega
          clear hown hbw
          go_wp2
          go_ret
          exact ⟨_, rfl, ⟨_, by rw [HPB.out]; exact HO3.out⟩, HB3.out⟩

end Go.Proofs.YtolpgpphjnkehaaGreatDoor.Blo
/- The reference's Cut and Fill. -/
namespace Go.Proofs.YtolpgpphjnkehaaGreatDoor.Blo
set_option maxRecDepth 20000
open Go.RowKit

set_option maxHeartbeats 400000 in
theorem refcut_no (A : Option Addr) (len cap : Nat) (at_ n : Int) (w : World) (hl : len ≤ 281474976710656) (hn : -9223372036854775808 ≤ n ∧ n < 9223372036854775808) (h : insideB len at_ n = false) :
    Calls Tryz.prog 153 #[.slice A len cap, .int .i64 at_, .int .i64 n] w fun e w' => e = .returned (.tuple #[.slice none 0 0, .bool false]) ∧ w = w' := by
  by_cases ha : at_ ≤ len
  · have ht := there_any A len cap at_ n w hl ha hn
    rw [h] at ht
    have HT := Lib.hid ht
    clear ht h
    go_enter Tryz.func153, Tryz.ntmps153
    go_wp2_with (go_at_call 188; refine HT.out.mono ?_; rintro e w' ⟨rfl, rfl⟩)
    go_ret2
    exact ⟨rfl, rfl⟩
  · have ha2 : (len : Int) < at_ := by omega
    clear h
    go_enter Tryz.func153, Tryz.ntmps153
    go_wp2
    go_ret2
    exact ⟨rfl, rfl⟩

set_option maxHeartbeats 400000 in
theorem refcut_ok (A : Option Addr) (len cap at_ n : Nat) (bs : List UInt8) (w : World) (hbl : bs.length = len) (hle : at_ + n ≤ len) (hl : len ≤ 1048576) (hA : Bytes w A bs) :
    Calls Tryz.prog 153 #[.slice A len cap, .int .i64 at_, .int .i64 n] w fun e w' => ∃ v, e = .returned (.tuple #[v, .bool true]) ∧ w'.ownsRow w.heap.size 5 1 v n ((fieldOf bs at_ n).map bv) ∧ Below w.heap.size w w' := by
  have ht := there_any A len cap at_ n w (by omega) (by omega) (by omega)
  have hi : insideB len at_ n = true := by simp [insideB]; omega
  rw [hi] at ht
  have HT := Lib.hid ht
  obtain ⟨fb, hfb⟩ : ∃ fb, fieldOf bs at_ n = fb := ⟨_, rfl⟩
  have hfl : fb.length = n := by rw [← hfb]; unfold fieldOf; simp; omega
  have hget : ∀ q (hq : q < fb.length), bs[at_ + q]? = some fb[q] := by
    intro q hq
    have h1 : fb[q]? = some fb[q] := List.getElem?_eq_getElem hq
    rw [← h1, ← hfb]
    unfold fieldOf
    rw [List.getElem?_take_of_lt (by omega), List.getElem?_drop]
  rw [hfb]
  have HG := Lib.hid hget
  have HFL := Lib.hid hfl
  have HA := Lib.hid hA
  have hal : ¬ ((len : Int) < (at_ : Int)) := by omega
  clear ht hi hfb hget hfl hA
  go_enter Tryz.func153, Tryz.ntmps153
  go_wp2_with (go_at_call 188; refine HT.out.mono ?_; rintro e w' ⟨rfl, rfl⟩)
  go_loopw [8, 9] (fun v i wr => ∃ k : Nat, k ≤ n ∧ i = .int .i64 k ∧ wr.ownsRow w.heap.size 5 1 v k ((fb.take k).map bv) ∧ Below w.heap.size w wr) (fun _ i _ => n - (intOf i).toNat)
  case atStart => exact ⟨0, Nat.zero_le _, rfl, ⟨by simp, .inl ⟨rfl, rfl⟩⟩, Below.refl _ _⟩
  case round =>
    obtain ⟨k, hk, rfl, hown, hbw⟩ := hrel
    have hszw := hbw.size
    by_cases hlt : k < n
    · have hq : k < fb.length := by rw [HFL.out]; omega
      have hb := HG.out k hq
      have hts : fb.take (k + 1) = fb.take k ++ [fb[k]] := List.take_succ_eq_append_getElem hq
      obtain ⟨b, off, rfl, _, hc⟩ := (HA.out.below hbw).at_ (k := at_ + k) (by omega)
      have hc2 := hc _ _ hb
      obtain ⟨c, hce⟩ : ∃ c, fb[k] = c := ⟨_, rfl⟩
      rw [hce] at hts hc2
      obtain ⟨v2, w2, hrun2, hown2, hgr2⟩ := run_app1 wr w.heap.size _ k _ c hown (by omega) hszw
      rw [← hts] at hown2
      have hb2 : Below w.heap.size w w2 := (hbw.alloc hszw _).grown hgr2 (by rw [World.size_alloc]; omega) (fun k e => (hown.lt k e).1)
      obtain ⟨p, hp⟩ : ∃ p, at_ + k = p := ⟨_, rfl⟩
      rw [hp] at hc2
      have e2 : (at_ : Int) + (k : Int) = (p : Int) := by omega
      have hpl : (p : Int) < (len : Int) := by omega
      have hkm : (k : Int) < (n : Int) := by omega
      have HR2 := Lib.hid hrun2
      have HO2 := Lib.hid hown2
      have HB2 := Lib.hid hb2
      clear hb hts hc hce hown hbw hrun2 hown2 hgr2 hb2 hp
      go_wp2_with (at_builtin; refine wpList_app rfl _ _ 32 rfl _ _ _ _ rfl rfl HR2.out ?_; clear HR2)
      go_roundw
      case rel => exact ⟨k + 1, by omega, by go_num, HO2.out, HB2.out⟩
      case measure => simp [intOf]; omega
    · obtain rfl : k = n := by omega
      have hte : fb.take k = fb := List.take_of_length_le (Nat.le_of_eq HFL.out)
      rw [hte] at hown
      have HO3 := Lib.hid hown
      have HB3 := Lib.hid hbw
      have hkm : ¬ ((k : Int) < (k : Int)) := by omega
      clear hown hbw hte
      go_wp2
      go_ret2
      exact ⟨_, rfl, HO3.out, HB3.out⟩

set_option maxHeartbeats 400000 in
theorem reffill_no (A : Option Addr) (len cap : Nat) (n : Int) (w : World) (h : n < len ∨ 1048576 < n) :
    Calls Tryz.prog 141 #[.slice A len cap, .int .i64 n] w fun e w' => e = .returned (.tuple #[.slice none 0 0, .bool false]) ∧ w = w' := by
  by_cases h1 : n < (len : Int)
  · go_enter Tryz.func141, Tryz.ntmps141
    go_wp2
    go_ret2
    exact ⟨rfl, rfl⟩
  · have h2 : 1048576 < n := by omega
    have h3 : ¬ (n < (len : Int)) := h1
    go_enter Tryz.func141, Tryz.ntmps141
    go_wp2
    go_ret2
    exact ⟨rfl, rfl⟩

/-- A row of which the first k bytes are laid. -/
def part8 (bs : List UInt8) (n k : Nat) : Array Value := row8 (bs.take k ++ List.replicate (n - k) 0)
theorem part8_zero (bs : List UInt8) (n : Nat) : part8 bs n 0 = mk8 n := by
  unfold part8 row8
  rw [mk8_eq]
  simp
theorem part8_size (bs : List UInt8) (n k : Nat) (hk : k ≤ bs.length) (hn : bs.length ≤ n) : (part8 bs n k).size = n := by simp [part8, row8]; omega
theorem part8_step (bs : List UInt8) (n k : Nat) (hk : k < bs.length) (hn : bs.length ≤ n) : (part8 bs n k).setIfInBounds k (bv bs[k]) = part8 bs n (k + 1) := by
  unfold part8 row8
  rw [List.setIfInBounds_toArray, ← List.map_set]
  congr 2
  rw [show n - k = (n - (k + 1)) + 1 by omega, List.replicate_succ, List.set_append_right _ _ (by simp; omega)]
  simp only [List.length_take, Nat.min_eq_left (Nat.le_of_lt hk), Nat.sub_self, List.set_cons_zero]
  rw [List.take_succ_eq_append_getElem hk, List.append_assoc]
  rfl

set_option maxHeartbeats 400000 in
theorem reffill_ok (A : Option Addr) (len cap n : Nat) (bs : List UInt8) (w : World) (hbl : bs.length = len) (hle : len ≤ n) (hn : n ≤ 1048576) (hA : Bytes w A bs) :
    Calls Tryz.prog 141 #[.slice A len cap, .int .i64 n] w fun e w' => e = .returned (.tuple #[.slice (some ⟨w.heap.size, 0, none⟩) n n, .bool true]) ∧ Blk w' w.heap.size 5 (row8 (filled bs n)) ∧ Below w.heap.size w w' := by
  have hmk := run_mk8 n (by omega)
  have HA := Lib.hid hA
  have h1 : ¬ ((n : Int) < (len : Int)) := by omega
  have h2 : ¬ (1048576 < (n : Int)) := by omega
  have HBL := Lib.hid hbl
  clear hA hbl
  go_enter Tryz.func141, Tryz.ntmps141
  go_wp2
  go_loopw [7] (fun i wr => ∃ k : Nat, k ≤ len ∧ i = .int .i64 k ∧ Blk wr w.heap.size 5 (part8 bs n k) ∧ Below w.heap.size w wr) (fun i _ => len - (intOf i).toNat)
  case atStart => exact ⟨0, Nat.zero_le _, rfl, by rw [part8_zero]; exact Blk.new w _ _, (Below.refl _ w).alloc (Nat.le_refl _) _⟩
  case round =>
    obtain ⟨k, hk, rfl, hblk, hbw⟩ := hrel
    by_cases hlt : k < len
    · have hkb : k < bs.length := by rw [HBL.out]; exact hlt
      obtain ⟨b, off, rfl, _, hc⟩ := (HA.out.below hbw).at_ hkb
      have hc2 := hc _ _ (List.getElem?_eq_getElem hkb)
      have hstep := part8_step bs n k hkb (by rw [HBL.out]; exact hle)
      have hsz : k < (part8 bs n k).size := by rw [part8_size bs n k (by omega) (by rw [HBL.out]; exact hle)]; omega
      obtain ⟨u, hu⟩ : ∃ u, wr.cell? ⟨w.heap.size, k, none⟩ = some u := ⟨_, (hblk.cell k).trans (Array.getElem?_eq_getElem hsz)⟩
      have hf := hblk.frozen k
      obtain ⟨c, hce⟩ : ∃ c, bs[k] = c := ⟨_, rfl⟩
      rw [hce] at hc2 hstep
      have hb2 := hblk.set_ k (bv c)
      rw [hstep] at hb2
      have hbw2 := hbw.setCell (p := ⟨w.heap.size, k, none⟩) (Nat.le_refl _) (bv c)
      simp only [bv] at hb2 hbw2
      have hkl : (k : Int) < (len : Int) := by omega
      have hkn : (k : Int) < (n : Int) := by omega
      have HB2 := Lib.hid hb2
      have HBW2 := Lib.hid hbw2
      clear hc hstep hsz hce hb2 hbw2 hblk hbw
      go_wp2
      go_roundw
      case rel => exact ⟨k + 1, by omega, by go_num, HB2.out, HBW2.out⟩
      case measure => simp [intOf]; omega
    · obtain rfl : k = len := by omega
      have hfin : part8 bs n k = row8 (filled bs n) := by
        unfold part8 filled
        rw [List.take_of_length_le (Nat.le_of_eq HBL.out), HBL.out]
      rw [hfin] at hblk
      have HB3 := Lib.hid hblk
      have HBW3 := Lib.hid hbw
      have hkm : ¬ ((k : Int) < (k : Int)) := by omega
      clear hblk hbw hfin
      go_wp2
      go_ret2
      exact ⟨rfl, HB3.out, HBW3.out⟩

end Go.Proofs.YtolpgpphjnkehaaGreatDoor.Blo
/- A text with its sum, and one with a bit turned. -/
namespace Go.Proofs.YtolpgpphjnkehaaGreatDoor.Blo
set_option maxRecDepth 20000
open Go.RowKit Crc

theorem le4_cells {s : Nat} (hs : s < 4294967296) (k : Nat) (c : UInt8) (h : (le4 s)[k]? = some c) :
    (#[Value.int .u8 ((s : Int) % 256), .int .u8 ((s : Int) / 256 % 256), .int .u8 ((s : Int) / 65536 % 256), .int .u8 ((s : Int) / 16777216)] : Array Value)[k]? = some (bv c) := by
  unfold le4 at h
  have hk : k < 4 := by
    rcases Nat.lt_or_ge k 4 with hk | hk
    · exact hk
    · rw [List.getElem?_eq_none (by simpa using hk)] at h; cases h
  rcases (by omega : k = 0 ∨ k = 1 ∨ k = 2 ∨ k = 3) with rfl | rfl | rfl | rfl <;> simp at h <;> subst h <;> simp [bv] <;> omega

theorem own_form {w : World} {base : Nat} {e : TypeId} {v : Value} {n : Nat} {xs : List Value} (h : w.ownsRow base e 1 v n xs) (hn : 0 < n) : ∃ g cap, v = .slice (some ⟨g, 0, none⟩) n cap ∧ base ≤ g ∧ g < w.heap.size ∧ (∀ k u, xs[k]? = some u → w.cell? ⟨g, k, none⟩ = some u) ∧ ∀ k, w.frozen? ⟨g, k, none⟩ = false := by
  rcases h.2 with ⟨_, rfl⟩ | ⟨g, cap, cur, rfl, hb, hg, hn', hm, hs, ht⟩
  · omega
  · refine ⟨g, cap, rfl, hb, (Array.getElem?_eq_some_iff.1 hg).1, fun k u hu => ?_, fun k => Blk.frozen (t := e) (cs := cur) hg k⟩
    rw [cell_of_row w g k cur e (0, 0) hg]
    rw [← ht, List.getElem?_take] at hu
    split at hu
    · simpa using hu
    · cases hu
theorem own_set {w : World} {base g cap : Nat} {e : TypeId} {n : Nat} {xs : List Value} (h : w.ownsRow base e 1 (.slice (some ⟨g, 0, none⟩) n cap) n xs) (k : Nat) (u : Value) : (w.setCell ⟨g, k, none⟩ u).ownsRow base e 1 (.slice (some ⟨g, 0, none⟩) n cap) n (xs.set k u) := by
  refine ⟨by simpa using h.1, ?_⟩
  rcases h.2 with ⟨e', _⟩ | ⟨g', cap', cur, e', hb, hg, hn', hm, hs, ht⟩
  · cases e'
  · injection e' with e1 e2 e3
    injection e1 with e1
    injection e1 with e1
    subst e1 e3
    refine .inr ⟨g, cap, cur.setIfInBounds k u, rfl, hb, Blk.set_ (t := e) (cs := cur) hg k u, hn', hm, by simpa using hs, ?_⟩
    rw [Array.toList_setIfInBounds, List.take_set, ht]

theorem turned_set (bs : List UInt8) (k : Nat) (t : UInt8) (hk : k < bs.length) : (bs.map bv).set k (bv (bs[k] ^^^ t)) = (turned bs k t).map bv := by
  unfold turned
  apply List.ext_getElem
  · simp
  · intro i h1 h2
    simp only [List.getElem_set, List.getElem_map, List.getElem_modify]
    split
    · rename_i h
      subst h
      simp
    · rename_i h
      simp

end Go.Proofs.YtolpgpphjnkehaaGreatDoor.Blo
/- Burst. -/
namespace Go.Proofs.YtolpgpphjnkehaaGreatDoor.Blo
set_option maxRecDepth 20000
open Go.RowKit Crc

theorem and1 (m k : Nat) (hm : m < 4294967296) : bits .and .u32 ((m : Int) / 2 ^ k) 1 = ((m / 2 ^ k % 2 : Nat) : Int) := by
  have hlt : m / 2 ^ k < 4294967296 := Nat.lt_of_le_of_lt (Nat.div_le_self _ _) hm
  have h := u32_and_nat (m / 2 ^ k) 1 hlt (by decide)
  have e : ((m : Int) / 2 ^ k) = ((m / 2 ^ k : Nat) : Int) := by push_cast; rfl
  rw [e]
  refine h.trans ?_
  rw [Nat.and_one_is_mod]

end Go.Proofs.YtolpgpphjnkehaaGreatDoor.Blo
/- What the row's list gives: the table of rests lies as its text lays it. -/
namespace Go.Proofs.YtolpgpphjnkehaaGreatDoor.Blo
set_option maxRecDepth 20000
open Go.RowKit Go.ChangeShapes Go.WideShapes Go.ChangeAt Crc

theorem gTab : Tryz.prog.globalNamed "aumbry/crc.rests" = some 0 := by kernel_rfl
theorem gTabType : (Tryz.prog.globals[0]?).map (·.type) = some 232 := by kernel_rfl
theorem cellsA : Tryz.prog.cellsOf 232 = 16 := by kernel_rfl
theorem cellsU : Tryz.prog.cellsOf 54 = 1 := by kernel_rfl
def rests : List Int := [0, 498536548, 997073096, 651767980, 1994146192, 1802195444, 1303535960, 1342533948, 3988292384, 4027552580, 3604390888, 3412177804, 2607071920, 2262029012, 2685067896, 3183342108]
theorem rests_tab : ∀ i : Fin 16, rests.getD i.1 0 = (tab i.1 : Int) := by decide +kernel
theorem tabIs {W : World} (h : laidMetH Tryz.prog [("aumbry/crc.rests", Rows.laid_aumbry_crc_rests)] W) : Lib.TabIs Tryz.prog W "aumbry/crc.rests" .u32 rests :=
  Lib.tabIs_of_head (rest := []) gTab gTabType Tryz.underlying232 Tryz.underlying54 cellsU cellsA h
theorem tab_of {W : World} (h : laidMetH Tryz.prog [("aumbry/crc.rests", Rows.laid_aumbry_crc_rests)] W) : Tab W := fun i hi => by
  have hc := (tabIs h).cell gTab i (by simpa [rests] using hi)
  rw [rests_tab ⟨i, hi⟩] at hc
  exact hc

end Go.Proofs.YtolpgpphjnkehaaGreatDoor.Blo
/- Seal. -/
namespace Go.Proofs.YtolpgpphjnkehaaGreatDoor.Blo
set_option maxRecDepth 20000
open Go.RowKit Crc

/-- What a block begins with. -/
def hd4 (k n : Nat) : List UInt8 := [UInt8.ofNat k, 0, UInt8.ofNat n, UInt8.ofNat (n / 256)]
theorem hd4_row (k n : Nat) (hk : k < 256) (hn : n < 65536) : row8 (hd4 k n) = #[.int .u8 (k : Int), .int .u8 0, .int .u8 ((n : Int) % 256), .int .u8 ((n : Int) / 256)] := by
  have h1 : k % 256 = k := Nat.mod_eq_of_lt hk
  have h2 : n / 256 % 256 = n / 256 := Nat.mod_eq_of_lt (by omega)
  simp [row8, hd4, bv, h1]
  omega

theorem head_any (k n : Nat) (w : World) (_hk : k < 256) (hn : n < 65536) :
    Calls Tryz.prog 147 #[.int .u8 (k : Int), .int .i64 (n : Int)] w fun e w' => e = .returned (.agg #[.int .u8 (k : Int), .int .u8 0, .int .u8 ((n : Int) % 256), .int .u8 ((n : Int) / 256)]) ∧ Below w.heap.size w w' := by
  go_enter Tryz.func147, Tryz.ntmps147
  go_wp2
  exact bodyPost_ret (v := .agg #[.int .u8 (k : Int), .int .u8 0, .int .u8 ((n : Int) % 256), .int .u8 ((n : Int) / 256)]) (by simp [results, Tryz.results147, go_sem]) rfl ⟨rfl, (Below.refl _ w).alloc (Nat.le_refl _) _⟩

/-- copy of a whole slice of bytes into a row of the call's own, from a place on. -/
theorem run_copy8_at (w : World) (ty : TypeId) (g o m c : Nat) (A : Option Addr) (len cap : Nat) (bs : List UInt8) (cur : List Value) (hl : bs.length = len) (hA : Bytes w A bs) (hR : Blk w g 5 cur.toArray) (hm : len ≤ m) (hc : o + m ≤ cur.length) :
    ∃ w', (Builtin.copy_ #[32, 32] ty #[.slice (some ⟨g, o, none⟩) m c, .slice A len cap]).run Tryz.prog w = .ok (goInt len) w' ∧
      Blk w' g 5 (cur.take o ++ bs.map bv ++ cur.drop (o + len)).toArray ∧ w.grownBy w' (some g) ∧ w'.heap.size = w.heap.size := by
  subst hl
  rcases Nat.eq_zero_or_pos bs.length with h0 | h0
  · obtain rfl : bs = [] := List.eq_nil_of_length_eq_zero h0
    exact ⟨w, run_copy_none (P := Tryz.prog) w _ _ ty 5 _ _ _ _ _ _ Tryz.underlying32 Tryz.size8 (by simp), by simpa using hR, World.grownBy.refl w _, rfl⟩
  · obtain ⟨b, off, rfl, hb, hcell⟩ := hA.at_ h0
    have hrun := run_copy_row (P := Tryz.prog) w 32 32 ty 5 g o m c ⟨b, off, none⟩ bs.length cap cur.toArray 5 (bs.map bv) Tryz.underlying32 Tryz.size8 hR (by rw [List.length_map]; exact (Nat.min_eq_left hm).symm)
      (fun j v hv => by
        rw [List.getElem?_map] at hv
        cases hj : bs[j]? with
        | none => rw [hj] at hv; cases hv
        | some d =>
          rw [hj] at hv
          simp only [Option.map_some, Option.some.injEq] at hv
          subst hv
          have e : (⟨b, off, none⟩ : Addr).add j = ⟨b, off + j, none⟩ := by unfold Addr.add; split <;> simp_all
          rw [e]; exact hcell j d hj)
      (by simp; omega) (fun v hv => by obtain ⟨d, _, rfl⟩ := List.mem_map.1 hv; rfl)
    refine ⟨_, by simpa using hrun, ?_, ?_, by simp [World.setRow]⟩
    · have := setRow_heap w g cur.toArray (cur.take o ++ bs.map bv ++ cur.drop (o + (bs.map bv).length)).toArray 5 (0, 0) hR
      simpa [Blk] using this
    · exact ⟨rfl, rfl, rfl, by simp [World.setRow], fun k hk hne => setRow_other w g k _ (fun e => hne (by rw [e]))⟩

/-- The bytes ahead of the sum. -/
def base (k : Nat) (bs : List UInt8) : List UInt8 := hd4 k bs.length ++ bs ++ List.replicate (248 - bs.length) 0
theorem base_length (k : Nat) (bs : List UInt8) (h : bs.length ≤ 248) : (base k bs).length = 252 := by simp [base, hd4]; omega
/-- A block. -/
def blockOf (k : Nat) (bs : List UInt8) : List UInt8 := base k bs ++ lePut (sumFrom 0 (base k bs)) 4
theorem blockOf_length (k : Nat) (bs : List UInt8) (h : bs.length ≤ 248) : (blockOf k bs).length = 256 := by simp [blockOf, base_length k bs h, lePut_length]

theorem base_laid (k : Nat) (bs : List UInt8) (h : bs.length ≤ 248) :
    List.take 4 (List.take 0 (List.map bv (List.replicate 252 0)) ++ List.map bv (hd4 k bs.length) ++ List.drop (0 + 4) (List.map bv (List.replicate 252 0))) ++ List.map bv bs ++
      List.drop (4 + bs.length) (List.take 0 (List.map bv (List.replicate 252 0)) ++ List.map bv (hd4 k bs.length) ++ List.drop (0 + 4) (List.map bv (List.replicate 252 0))) = (base k bs).map bv := by
  have hl : (List.map bv (hd4 k bs.length)).length = 4 := by simp [hd4]
  rw [List.take_zero, List.nil_append, List.take_left' hl, List.drop_append, hl, show List.drop (4 + bs.length) (List.map bv (hd4 k bs.length)) = [] from List.drop_eq_nil_of_le (by omega), List.nil_append, show 4 + bs.length - 4 = bs.length by omega]
  unfold base
  rw [List.map_append, List.map_append, ← List.map_drop, List.drop_replicate, ← List.map_drop, List.drop_replicate]

theorem run_mk252 (w : World) :
    (Instr.makeSlice 32 (.int .i64 252) (.int .i64 252)).run Tryz.prog w = .ok (.slice (some ⟨w.heap.size, 0, none⟩) 252 252) (w.alloc (.cells (row8 (List.replicate 252 0)) 5)) := by
  have h := run_mk8 252 (by decide) w
  rw [mk8_eq] at h
  have e : (List.replicate 252 (bv 0)).toArray = row8 (List.replicate 252 0) := by unfold row8; rw [List.map_replicate]
  rw [e] at h
  exact h

theorem seal_no (k : Nat) (A : Option Addr) (len cap : Nat) (w : World) (_hk : k < 256) (h : k = 0 ∨ 248 < len) :
    Calls Tryz.prog 94 #[.int .u8 (k : Int), .slice A len cap] w fun e w' => e = .returned (.tuple #[.slice none 0 0, .int .i64 1]) ∧ w = w' := by
  by_cases h0 : k = 0
  · subst h0
    go_enter Tryz.func94, Tryz.ntmps94
    go_wp2
    go_ret2
    exact ⟨rfl, rfl⟩
  · have hb : ((k : Int) == 0) = false := by simpa using h0
    have h1 : 248 < len := by omega
    clear h
    go_enter Tryz.func94, Tryz.ntmps94
    go_wp2
    go_ret2
    exact ⟨rfl, rfl⟩

set_option maxRecDepth 20000 in
set_option maxHeartbeats 1000000 in
theorem seal_yes (k : Nat) (A : Option Addr) (len cap : Nat) (bs : List UInt8) (w : World) (hk : k < 256) (hk0 : k ≠ 0) (hlen : bs.length = len) (h248 : len ≤ 248) (hA : Bytes w A bs) (hT : Tab w) :
    Calls Tryz.prog 94 #[.int .u8 (k : Int), .slice A len cap] w fun e w' => ∃ g, e = .returned (.tuple #[.slice (some ⟨g, 0, none⟩) 256 256, .int .i64 0]) ∧ w.heap.size ≤ g ∧ Blk w' g 5 (row8 (blockOf k bs)) ∧ Below w.heap.size w w' := by
  have hb : ((k : Int) == 0) = false := by simpa using hk0
  have hd : decide ((248 : Int) < (len : Int)) = false := by simp; omega
  have H1 := Lib.hid (head_any k len w hk (by omega))
  have HA := Lib.hid hA
  have HT := Lib.hid hT
  have HK := Lib.hid hk
  have HL := Lib.hid hlen
  clear hA hT hk hk0 hlen
  go_enter Tryz.func94, Tryz.ntmps94
  go_wp2_with fail
  refine H1.out.mono ?_
  rintro e w1 ⟨rfl, hbel⟩
  have HB := Lib.hid hbel
  clear hbel H1
  have hmk := run_mk252
  obtain ⟨z4, hz4⟩ : ∃ z4, row8 (List.replicate 252 0) = z4 := ⟨_, rfl⟩
  rw [hz4] at hmk
  have hrow := hd4_row k len HK.out (by omega)
  obtain ⟨wc, hwc⟩ : ∃ wc, (w1.alloc (.cells #[.int .u8 (k : Int), .int .u8 0, .int .u8 ((len : Int) % 256), .int .u8 ((len : Int) / 256)] 200)).alloc (.cells z4 5) = wc := ⟨_, rfl⟩
  obtain ⟨X, hX⟩ : ∃ X, w1.heap.size = X := ⟨_, rfl⟩
  have hsz : w.heap.size ≤ X := by rw [← hX]; exact HB.out.size
  have bX : Blk wc X 200 (row8 (hd4 k len)) := by rw [← hwc, hrow, ← hX]; exact (Blk.new w1 _ _).alloc _
  have bY : Blk wc (X + 1) 5 (row8 (List.replicate 252 0)) := by
    have := Blk.new (w1.alloc (.cells #[.int .u8 (k : Int), .int .u8 0, .int .u8 ((len : Int) % 256), .int .u8 ((len : Int) / 256)] 200)) 5 z4
    rw [World.size_alloc] at this
    rw [← hwc, hz4, ← hX]; exact this
  have hcB : Below w.heap.size w wc := by rw [← hwc]; exact (HB.out.alloc (by omega) _).alloc (by simp; omega) _
  have hY : Bytes wc (some ⟨X, 0, none⟩) (hd4 k len) := Bytes.row bX
  obtain ⟨w2, hcp1, hR1, hg1, hs1⟩ := run_copy8_at wc 3 (X + 1) 0 252 252 (some ⟨X, 0, none⟩) 4 4 (hd4 k len) _ rfl hY bY (by decide) (by simp)
  have hc2 : Below w.heap.size w w2 := hcB.grown hg1 hcB.size (fun k e => by injection e with e; omega)
  obtain ⟨w3, hcp2, hR2, hg2, hs2⟩ := run_copy8_at w2 3 (X + 1) 4 248 248 A len cap bs _ HL.out (HA.out.below hc2) hR1 h248 (by simp [hd4])
  have hc3 : Below w.heap.size w w3 := hc2.grown hg2 hc2.size (fun k e => by injection e with e; omega)
  have hR3 : Blk w3 (X + 1) 5 (row8 (base k bs)) := by
    have hL := HL.out
    subst hL
    have e := base_laid k bs h248
    unfold row8
    rw [← e]
    exact hR2
  have hY3 := Bytes.row hR3
  have hsum := sum_anyL (some ⟨X + 1, 0, none⟩) 252 252 (base k bs) w3 (base_length k bs (by have := HL.out; omega)) (HT.out.below hc3) hY3 (by decide)
  have hslt := sumFrom_lt (x := 0) (by decide) (base k bs)
  have hput := put_okL (some ⟨X + 1, 0, none⟩) 252 252 4 (sumFrom 0 (base k bs)) (base k bs) w3 (base_length k bs (by have := HL.out; omega)) (by decide) (by decide) hY3
  obtain ⟨s, hs⟩ : ∃ s, sumFrom 0 (base k bs) = s := ⟨_, rfl⟩
  have hbo : base k bs ++ lePut s 4 = blockOf k bs := by rw [← hs]; rfl
  rw [hs] at hsum hput hslt
  rw [hbo] at hput
  have hsz3 : w.heap.size ≤ w3.heap.size := hc3.size
  simp only [goInt] at hcp1 hcp2
  rw [← hwc] at hcp1
  have HS := Lib.hid hsum
  have HP := Lib.hid hput
  have HC3 := Lib.hid hc3
  have HSZ := Lib.hid hsz3
  clear hsum hput hc3 hsz3 hR1 hR2 hR3 hg1 hg2 hs1 hs2 hY3 hbo hs hcB hc2 hY bX bY hrow hz4 hwc
  go_wp2_with (first
    | (go_at_call 148; refine HS.out.mono ?_; rintro e w' ⟨rfl, rfl⟩)
    | (go_at_call 154; refine HP.out.mono ?_; rintro e w4 ⟨rfl, hb4, hl4⟩; have HF := Lib.hid hb4; have HL4 := Lib.hid hl4; clear hb4 hl4))
  go_ret2
  exact ⟨_, rfl, Nat.le_trans HSZ.out (Nat.le_add_right _ _), HF.out, HC3.out.trans (HL4.out.mono HSZ.out)⟩

end Go.Proofs.YtolpgpphjnkehaaGreatDoor.Blo
/- Open. -/
namespace Go.Proofs.YtolpgpphjnkehaaGreatDoor.Blo
set_option maxRecDepth 20000
open Go.RowKit Crc

section
variable {P : Program} {ops : Array Oper} {Q : Exit → Act → World → Prop} {md : Region.Mode} {S : World → Prop}
/-- An operation that is wanted is taken first. -/
theorem takeY (i : Nat) (d : Option Tmp) {oi : Oper} {v : Value} {fuel : Nat} {listed : Array Bool} {a : Act} {w : World} (hi : ops[i]? = some oi) (hd : oi.dst = d)
    (hs : Region.noSelect ops = true) (hf : Region.free md ops listed i = true) (hr : (Region.ready md ops listed).contains i = true)
    (hQ : ∀ c a w, Q (.panic c) (a.put d v) w → Q (.panic c) a w) (hw : Region.wanted oi (yielded ops a.tmps) = true)
    (hy : ∀ w, S w → (execOp a.eval oi).run P w = .ok (.value v) w) (hS : S w)
    (h : wpAnyH P md ops Q S fuel (listed.setIfInBounds i true) (a.put d v) w) : wpAnyH P md ops Q S (fuel + 1) listed a w := by
  subst hd
  exact wpAnyH_take hi hs hf hr hQ (Or.inl ⟨hw, hy⟩) hS h
/-- One that is not wanted. -/
theorem takeN (i : Nat) (d : Option Tmp) {oi : Oper} {fuel : Nat} {listed : Array Bool} {a : Act} {w : World} (hi : ops[i]? = some oi) (hd : oi.dst = d)
    (hs : Region.noSelect ops = true) (hf : Region.free md ops listed i = true) (hr : (Region.ready md ops listed).contains i = true)
    (hQ : ∀ c a w, Q (.panic c) (a.put d undef) w → Q (.panic c) a w) (hw : Region.wanted oi (yielded ops a.tmps) = false) (hS : S w)
    (h : wpAnyH P md ops Q S fuel (listed.setIfInBounds i true) (a.put d undef) w) : wpAnyH P md ops Q S (fuel + 1) listed a w := by
  subst hd
  exact wpAnyH_take hi hs hf hr hQ (Or.inr ⟨hw, rfl⟩) hS h
end

/-- Some bytes are the block of a kind and a body. -/
def IsBlk (bs : List UInt8) (k : Nat) (body : List UInt8) : Prop := 0 < k ∧ k < 256 ∧ body.length ≤ 248 ∧ bs = blockOf k body

theorem leN_two (a b : UInt8) : leN [a, b] = a.toNat + 256 * b.toNat := by simp [leN]
theorem fieldOf_two (bs : List UInt8) (h : 4 ≤ bs.length) : fieldOf bs 2 2 = [bs[2], bs[3]] := by
  apply List.ext_getElem
  · simp [fieldOf]; omega
  · intro i h1 h2
    simp at h2
    rcases (by omega : i = 0 ∨ i = 1) with rfl | rfl <;> simp [fieldOf]

theorem le4_put (s : Nat) (hs : s < 4294967296) : leN (lePut s 4) = s := by
  have : lePut s 4 = [UInt8.ofNat s, UInt8.ofNat (s / 256), UInt8.ofNat (s / 256 / 256), UInt8.ofNat (s / 256 / 256 / 256)] := by simp [lePut]
  rw [this]
  simp only [leN, UInt8.toNat_ofNat']
  omega
theorem leN_four {l : List UInt8} (h : l.length = 4) : lePut (leN l) 4 = l := by
  match l, h with
  | [a, b, c, d], _ =>
    have ha := a.toNat_lt; have hb := b.toNat_lt; have hc := c.toNat_lt; have hd := d.toNat_lt
    simp only [lePut, leN]
    have e1 : UInt8.ofNat (a.toNat + 256 * (b.toNat + 256 * (c.toNat + 256 * (d.toNat + 256 * 0)))) = a := UInt8.toNat_inj.1 (by rw [UInt8.toNat_ofNat']; omega)
    have e2 : UInt8.ofNat ((a.toNat + 256 * (b.toNat + 256 * (c.toNat + 256 * (d.toNat + 256 * 0)))) / 256) = b := UInt8.toNat_inj.1 (by rw [UInt8.toNat_ofNat']; omega)
    have e3 : UInt8.ofNat ((a.toNat + 256 * (b.toNat + 256 * (c.toNat + 256 * (d.toNat + 256 * 0)))) / 256 / 256) = c := UInt8.toNat_inj.1 (by rw [UInt8.toNat_ofNat']; omega)
    have e4 : UInt8.ofNat ((a.toNat + 256 * (b.toNat + 256 * (c.toNat + 256 * (d.toNat + 256 * 0)))) / 256 / 256 / 256) = d := UInt8.toNat_inj.1 (by rw [UInt8.toNat_ofNat']; omega)
    rw [e1, e2, e3, e4]

/-- What tells a block: its first byte, its second, its length, the noughts behind its body, its sum. -/
structure Fits (bs : List UInt8) (n : Nat) : Prop where
  len : bs.length = 256
  kind : bs.getD 0 0 ≠ 0
  zero : bs.getD 1 0 = 0
  n_eq : n = (bs.getD 2 0).toNat + 256 * (bs.getD 3 0).toNat
  le : n ≤ 248
  fill : ∀ i, 4 + n ≤ i → i < 252 → bs.getD i 0 = 0
  sum : leN (fieldOf bs 252 4) = sumFrom 0 (bs.take 252)

theorem getD_left {l r : List UInt8} {i : Nat} (h : i < l.length) : (l ++ r).getD i 0 = l.getD i 0 := by
  simp only [List.getD, List.getElem?_append_left h]
theorem getD_right {l r : List UInt8} {i : Nat} (h : l.length ≤ i) : (l ++ r).getD i 0 = r.getD (i - l.length) 0 := by
  simp only [List.getD, List.getElem?_append_right h]
theorem blockOf_get (k : Nat) (body : List UInt8) (i : Nat) (h : body.length ≤ 248) : (blockOf k body).getD i 0 =
    if i < 4 then (hd4 k body.length).getD i 0 else if i < 4 + body.length then body.getD (i - 4) 0 else if i < 252 then 0 else (lePut (sumFrom 0 (base k body)) 4).getD (i - 252) 0 := by
  have h4 : (hd4 k body.length).length = 4 := rfl
  unfold blockOf
  have hb : base k body = hd4 k body.length ++ (body ++ List.replicate (248 - body.length) 0) := by simp [base]
  by_cases h252 : i < 252
  · rw [getD_left (by rw [base_length k body h]; exact h252), hb]
    by_cases h1 : i < 4
    · rw [getD_left (by rw [h4]; exact h1), if_pos h1]
    · rw [getD_right (by rw [h4]; omega), h4, if_neg h1]
      by_cases h2 : i < 4 + body.length
      · rw [getD_left (by omega), if_pos h2]
      · rw [getD_right (by omega), if_neg h2, if_pos h252]
        simp only [List.getD, List.getElem?_replicate]; split <;> rfl
  · rw [getD_right (by rw [base_length k body h]; omega), base_length k body h, if_neg (by omega), if_neg (by omega), if_neg h252]

theorem isBlk_fits {bs : List UInt8} {k : Nat} {body : List UInt8} (h : IsBlk bs k body) : Fits bs body.length ∧ (bs.getD 0 0).toNat = k ∧ fieldOf bs 4 body.length = body := by
  obtain ⟨h0, hk, hb, rfl⟩ := h
  have g := fun i => blockOf_get k body i hb
  have e0 : (blockOf k body).getD 0 0 = UInt8.ofNat k := by rw [g]; rfl
  have e2 : (blockOf k body).getD 2 0 = UInt8.ofNat body.length := by rw [g]; rfl
  have e3 : (blockOf k body).getD 3 0 = UInt8.ofNat (body.length / 256) := by rw [g]; rfl
  refine ⟨⟨blockOf_length k body hb, ?_, by rw [g]; rfl, ?_, hb, fun i h1 h2 => ?_, ?_⟩, ?_, ?_⟩
  · rw [e0]
    intro e
    have := congrArg UInt8.toNat e
    rw [UInt8.toNat_ofNat'] at this
    simp at this
    omega
  · rw [e2, e3, UInt8.toNat_ofNat', UInt8.toNat_ofNat']; omega
  · rw [g, if_neg (by omega), if_neg (by omega), if_pos h2]
  · unfold blockOf fieldOf
    rw [List.drop_left' (base_length k body hb), List.take_left' (base_length k body hb), List.take_of_length_le (by rw [lePut_length]; exact Nat.le_refl _), le4_put _ (sumFrom_lt (x := 0) (by decide) _)]
  · rw [e0, UInt8.toNat_ofNat']; omega
  · unfold fieldOf blockOf base
    have h4 : (hd4 k body.length).length = 4 := rfl
    rw [List.append_assoc, List.append_assoc, List.drop_left' h4, List.take_left' rfl]

theorem fits_isBlk {bs : List UInt8} {n : Nat} (h : Fits bs n) : IsBlk bs (bs.getD 0 0).toNat (fieldOf bs 4 n) ∧ (fieldOf bs 4 n).length = n := by
  have hl := h.len
  have hle := h.le
  have hfl : (fieldOf bs 4 n).length = n := by simp [fieldOf]; omega
  have hk : 0 < (bs.getD 0 0).toNat := by
    rcases Nat.eq_zero_or_pos (bs.getD 0 0).toNat with e | e
    · exact absurd (UInt8.toNat_inj.1 (by rw [e]; rfl)) h.kind
    · exact e
  refine ⟨⟨hk, UInt8.toNat_lt _, by omega, ?_⟩, hfl⟩
  have hbase : base (bs.getD 0 0).toNat (fieldOf bs 4 n) = bs.take 252 := by
    apply List.ext_getElem
    · rw [base_length _ _ (by omega)]; simp; omega
    · intro i h1 h2
      rw [base_length _ _ (by omega)] at h1
      have g := blockOf_get (bs.getD 0 0).toNat (fieldOf bs 4 n) i (by omega)
      have e : (blockOf (bs.getD 0 0).toNat (fieldOf bs 4 n)).getD i 0 = (base (bs.getD 0 0).toNat (fieldOf bs 4 n))[i] := by
        unfold blockOf
        rw [getD_left (by rw [base_length _ _ (by omega)]; exact h1)]
        simp only [List.getD]
        rw [List.getElem?_eq_getElem (by rw [base_length _ _ (by omega)]; exact h1)]
        rfl
      have ei : ∀ j (hj : j < 256), bs.getD j 0 = bs[j]'(by omega) := fun j hj => by simp [List.getD, show j < bs.length by omega]
      rw [← e, g, List.getElem_take, hfl]
      by_cases h4 : i < 4
      · rw [if_pos h4]
        rcases (by omega : i = 0 ∨ i = 1 ∨ i = 2 ∨ i = 3) with rfl | rfl | rfl | rfl
        · show UInt8.ofNat _ = _
          rw [UInt8.ofNat_toNat, ei 0 (by decide)]
        · show (0 : UInt8) = _
          rw [← h.zero, ei 1 (by decide)]
        · show UInt8.ofNat n = _
          rw [← ei 2 (by decide)]
          have hb := (bs.getD 2 0).toNat_lt
          exact UInt8.toNat_inj.1 (by rw [UInt8.toNat_ofNat', h.n_eq]; omega)
        · show UInt8.ofNat (n / 256) = _
          rw [← ei 3 (by decide)]
          have hb := (bs.getD 2 0).toNat_lt
          have hb3 := (bs.getD 3 0).toNat_lt
          exact UInt8.toNat_inj.1 (by rw [UInt8.toNat_ofNat', h.n_eq]; omega)
      · rw [if_neg h4]
        by_cases h5 : i < 4 + n
        · rw [if_pos h5]
          simp only [List.getD, fieldOf]
          rw [List.getElem?_take_of_lt (by omega), List.getElem?_drop, show 4 + (i - 4) = i by omega]
          simp [show i < bs.length by omega]
        · rw [if_neg h5, if_pos h1, ← ei i (by omega)]
          exact (h.fill i (by omega) h1).symm
  unfold blockOf
  rw [hbase, ← h.sum, leN_four (by simp [fieldOf]; omega)]
  unfold fieldOf
  rw [List.take_of_length_le (l := List.drop 252 bs) (by simp; omega), List.take_append_drop]

theorem isBlk_one {bs : List UInt8} {k k' : Nat} {b b' : List UInt8} (h : IsBlk bs k b) (h' : IsBlk bs k' b') : k = k' ∧ b = b' := by
  obtain ⟨f, e1, e2⟩ := isBlk_fits h
  obtain ⟨f', e1', e2'⟩ := isBlk_fits h'
  have hn : b.length = b'.length := f.n_eq.trans f'.n_eq.symm
  exact ⟨e1.symm.trans e1', by rw [← e2, ← e2', hn]⟩

end Go.Proofs.YtolpgpphjnkehaaGreatDoor.Blo
/- Open, walked. -/
namespace Go.Proofs.YtolpgpphjnkehaaGreatDoor.Blo
set_option maxRecDepth 20000
open Go.RowKit Crc

theorem eq4 (a b c d e : Int) (w : World) : (Op.equalIn 10000 200 (.agg #[.int .u8 a, .int .u8 b, .int .u8 c, .int .u8 d]) (.agg #[.int .u8 a, .int .u8 e, .int .u8 c, .int .u8 d])).run Tryz.prog w = .ok (b == e) w := by
  have u3 := Tryz.underlying5
  have a3 := Tryz.isAgg5
  have z3 := Tryz.sizeOf5
  rw [show (10000 : Nat) = 9999 + 1 from rfl, Op.equalIn]
  simp only [Sem.run_bind, run_underlying Tryz.underlying200, Result.andThen_ok]
  simp only [Std.Legacy.Range.forIn_eq_forIn_range', Std.Legacy.Range.size, Nat.sub_zero, Nat.add_sub_cancel, Nat.div_one, List.range'_succ, List.range'_zero, List.forIn_cons, List.forIn_nil]
  go_simp
  by_cases h1 : b = e <;> simp [h1]

/-- What Open answers of some bytes. -/
def OpenTold (bs : List UInt8) (w : World) (e : Ending) (w' : World) : Prop :=
  ((∃ k body g, IsBlk bs k body ∧ e = .returned (.tuple #[.int .u8 (k : Int), .slice (some ⟨g, 0, none⟩) body.length body.length, .int .i64 0]) ∧ w.heap.size ≤ g ∧ Blk w' g 5 (row8 body)) ∨
    ((∀ k body, ¬ IsBlk bs k body) ∧ e = .returned (.tuple #[.int .u8 0, .slice none 0 0, .int .i64 8]))) ∧ Below w.heap.size w w'

theorem not_isBlk {bs : List UInt8} (h : ∀ n, ¬ Fits bs n) : ∀ k body, ¬ IsBlk bs k body := fun _ _ hb => h _ (isBlk_fits hb).1

theorem byte_at {w : World} {A : Option Addr} {bs : List UInt8} (h : Bytes w A bs) {i : Nat} (hi : i < bs.length) : ∃ b off, A = some ⟨b, off, none⟩ ∧ b < w.heap.size ∧ ∀ j, j < bs.length → w.cell? ⟨b, off + j, none⟩ = some (.int .u8 ((bs.getD j 0).toNat : Int)) := by
  obtain ⟨b, off, rfl, hb, hc⟩ := h.at_ (k := i) hi
  refine ⟨b, off, rfl, hb, fun j hj => ?_⟩
  have := hc j _ (List.getElem?_eq_getElem hj)
  simpa [List.getD, hj] using this

set_option maxRecDepth 20000 in
set_option maxHeartbeats 2000000 in
theorem open_any (A : Option Addr) (len cap : Nat) (bs : List UInt8) (w : World) (hlen : bs.length = len) (hA : Bytes w A bs) (hlm : len ≤ cap) (hT : Tab w) :
    Calls Tryz.prog 89 #[.slice A len cap] w (OpenTold bs w) := by
  by_cases h256 : len = 256
  · have hgl := get_okL A len cap 2 2 bs w hlen (by decide) (by omega) (by subst h256; decide) hA
    obtain ⟨b, off, rfl, hb, hc⟩ := byte_at hA (i := 0) (by omega)
    have hn := fieldOf_two bs (by omega)
    rw [hn, leN_two] at hgl
    obtain ⟨n, hnn⟩ : ∃ n, (bs[2]'(by omega)).toNat + 256 * (bs[3]'(by omega)).toNat = n := ⟨_, rfl⟩
    rw [hnn] at hgl
    have hn16 : n < 65536 := by rw [← hnn]; have := (bs[2]'(by omega)).toNat_lt; have := (bs[3]'(by omega)).toNat_lt; omega
    have hnd : n = (bs.getD 2 0).toNat + 256 * (bs.getD 3 0).toNat := by rw [← hnn]; simp [List.getD, show 2 < bs.length by omega, show 3 < bs.length by omega]
    have HN := Lib.hid hnd
    have HG := Lib.hid hgl
    have HC := Lib.hid hc
    have HL := Lib.hid hlen
    have HT := Lib.hid hT
    have HA := Lib.hid hA
    have HB := Lib.hid hb
    clear hgl hn hnn hnd hc hlen hT hA hb
    subst h256
    go_enter Tryz.func89, Tryz.ntmps89
    go_wp2_with fail
    refine HG.out.mono ?_
    rintro e w1 ⟨rfl, hb1⟩
    have HB1 := Lib.hid hb1
    clear HG hb1
    go_wp2_with fail
    have c0 : w1.cell? ⟨b, off, none⟩ = some (.int .u8 ((bs.getD 0 0).toNat : Int)) := (HB1.out.cell (p := ⟨b, off, none⟩) HB.out).trans (HC.out 0 (by rw [HL.out]; decide))
    have c1 : w1.cell? ⟨b, off + 1, none⟩ = some (.int .u8 ((bs.getD 1 0).toNat : Int)) := (HB1.out.cell (p := ⟨b, off + 1, none⟩) HB.out).trans (HC.out 1 (by rw [HL.out]; decide))
    have c2 : w1.cell? ⟨b, off + 2, none⟩ = some (.int .u8 ((bs.getD 2 0).toNat : Int)) := (HB1.out.cell (p := ⟨b, off + 2, none⟩) HB.out).trans (HC.out 2 (by rw [HL.out]; decide))
    have c3 : w1.cell? ⟨b, off + 3, none⟩ = some (.int .u8 ((bs.getD 3 0).toNat : Int)) := (HB1.out.cell (p := ⟨b, off + 3, none⟩) HB.out).trans (HC.out 3 (by rw [HL.out]; decide))
    have l0 := (bs.getD 0 0).toNat_lt
    have l2 := (bs.getD 2 0).toNat_lt
    have l3 := (bs.getD 3 0).toNat_lt
    have hnd := HN.out
    obtain ⟨x0, hx0⟩ : ∃ x, (bs.getD 0 0).toNat = x := ⟨_, rfl⟩
    obtain ⟨x1, hx1⟩ : ∃ x, (bs.getD 1 0).toNat = x := ⟨_, rfl⟩
    obtain ⟨x2, hx2⟩ : ∃ x, (bs.getD 2 0).toNat = x := ⟨_, rfl⟩
    obtain ⟨x3, hx3⟩ : ∃ x, (bs.getD 3 0).toNat = x := ⟨_, rfl⟩
    rw [hx0] at c0 l0
    rw [hx1] at c1
    rw [hx2] at c2 l2 hnd
    rw [hx3] at c3 l3 hnd
    have HX0 := Lib.hid hx0
    have HX1 := Lib.hid hx1
    have HND := Lib.hid hnd
    clear hx0 hx1 hx2 hx3 hnd
    by_cases k0 : x0 = 0
    · have HNO : Hid (∀ k body, ¬ IsBlk bs k body) := Lib.hid (not_isBlk fun m h => h.kind (UInt8.toNat_inj.1 (by rw [HX0.out, k0]; rfl)))
      subst k0
      clear c1 c2 c3
      go_quiet (fail)
      go_wp2_with fail
      go_ret3
      exact ⟨.inr ⟨HNO.out, rfl⟩, HB1.out.trans ⟨rfl, rfl, rfl, Nat.le_refl _, fun _ _ => rfl⟩⟩
    · have hk0 : ((x0 : Int) == 0) = false := by simpa using k0
      by_cases hn : 248 < n
      · have HNO : Hid (∀ k body, ¬ IsBlk bs k body) := Lib.hid (not_isBlk fun m h => by have := h.le; have := h.n_eq; have := HN.out; omega)
        have hd8 : decide ((248 : Int) < (n : Int)) = true := by simp; omega
        clear c1 c2 c3
        go_quiet (fail)
        go_wp2_with fail
        go_ret3
        exact ⟨.inr ⟨HNO.out, rfl⟩, HB1.out.trans ⟨rfl, rfl, rfl, Nat.le_refl _, fun _ _ => rfl⟩⟩
      · have hn' : decide ((248 : Int) < (n : Int)) = false := by simp; omega
        have h1 := head_any x0 n w1.drew l0 hn16
        rw [show (n : Int) % 256 = (x2 : Int) by have := HND.out; omega, show (n : Int) / 256 = (x3 : Int) by have := HND.out; omega] at h1
        have H1 := Lib.hid h1
        have C0 := Lib.hid c0
        have C1 := Lib.hid c1
        have C2 := Lib.hid c2
        have C3 := Lib.hid c3
        have hsz := HB1.out.size
        have HLT := Lib.hid (show b < w1.drew.heap.size from Nat.lt_of_lt_of_le HB.out HB1.out.size)
        have heq4 := fun W : World => eq4 x0 x1 x2 x3 0 W
        obtain ⟨v1, hv1⟩ : ∃ v, ((x1 : Int) == 0) = v := ⟨_, rfl⟩
        rw [hv1] at heq4
        have HV1 := Lib.hid hv1
        clear hv1
        have hat := fun W : World => run_arrayAt (P := Tryz.prog) (w := W) 200 5 4 (some ⟨b, off, none⟩) 256 cap Tryz.underlying200 (by decide)
        clear h1 c0 c1 c2 c3
        refine wp_region_held_drew (S := fun W => W.cell? ⟨b, off, none⟩ = some (.int .u8 (x0 : Int)) ∧ W.cell? ⟨b, off + 1, none⟩ = some (.int .u8 (x1 : Int)) ∧ W.cell? ⟨b, off + 2, none⟩ = some (.int .u8 (x2 : Int)) ∧ W.cell? ⟨b, off + 3, none⟩ = some (.int .u8 (x3 : Int))) (by kernel_rfl) ⟨C0.out, C1.out, C2.out, C3.out⟩ (fun hHeld => ?_)
        refine takeY 0 (some 22) rfl rfl (by kernel_rfl) (by kernel_rfl) (by kernel_rfl) (fun _ _ _ h => h) (by rfl) (v := _) (by (intro _ hSw; (try dsimp only at hSw); go_simp; try with_reducible rfl)) hHeld ?_
        simp only [Act.put, List.setIfInBounds_toArray, List.set_cons_zero, List.set_cons_succ]
        refine takeY 1 (some 23) rfl rfl (by kernel_rfl) (by kernel_rfl) (by kernel_rfl) (fun _ _ _ h => h) (by rfl) (v := _) (by (intro _ hSw; (try dsimp only at hSw); go_simp; try with_reducible rfl)) hHeld ?_
        simp only [Act.put, List.setIfInBounds_toArray, List.set_cons_zero, List.set_cons_succ]
        refine takeY 2 (some 24) rfl rfl (by kernel_rfl) (by kernel_rfl) (by kernel_rfl) (fun _ _ _ h => h) (by rfl) (v := _) (by (intro _ hSw; (try dsimp only at hSw); go_simp; try with_reducible rfl)) hHeld ?_
        simp only [Act.put, List.setIfInBounds_toArray, List.set_cons_zero, List.set_cons_succ]
        refine takeY 3 (some 25) rfl rfl (by kernel_rfl) (by kernel_rfl) (by kernel_rfl) (fun _ _ _ h => h) (by rfl) (v := _) (by (intro _ hSw; (try dsimp only at hSw); go_simp; try with_reducible rfl)) hHeld ?_
        simp only [Act.put, List.setIfInBounds_toArray, List.set_cons_zero, List.set_cons_succ]
        refine takeY 4 (some 26) rfl rfl (by kernel_rfl) (by kernel_rfl) (by kernel_rfl) (fun _ _ _ h => h) (by rfl) (v := _) (by (intro _ hSw; (try dsimp only at hSw); go_simp; try with_reducible rfl)) hHeld ?_
        simp only [Act.put, List.setIfInBounds_toArray, List.set_cons_zero, List.set_cons_succ]
        refine takeY 5 (some 27) rfl rfl (by kernel_rfl) (by kernel_rfl) (by kernel_rfl) (fun _ _ _ h => h) (by rfl) (v := _) (by (intro _ hSw; (try dsimp only at hSw); go_simp; try with_reducible rfl)) hHeld ?_
        simp only [Act.put, List.setIfInBounds_toArray, List.set_cons_zero, List.set_cons_succ]
        refine takeY 6 (some 28) rfl rfl (by kernel_rfl) (by kernel_rfl) (by kernel_rfl) (fun _ _ _ h => h) (by rfl) (v := _) (by (intro _ hSw; (try dsimp only at hSw); go_simp; try with_reducible rfl)) hHeld ?_
        simp only [Act.put, List.setIfInBounds_toArray, List.set_cons_zero, List.set_cons_succ]
        refine takeY 7 (some 29) rfl rfl (by kernel_rfl) (by kernel_rfl) (by kernel_rfl) (fun _ _ _ h => h) (by rfl) (v := _) (by (intro _ hSw; (try dsimp only at hSw); go_simp; try with_reducible rfl)) hHeld ?_
        simp only [Act.put, List.setIfInBounds_toArray, List.set_cons_zero, List.set_cons_succ]
        refine takeY 8 (some 30) rfl rfl (by kernel_rfl) (by kernel_rfl) (by kernel_rfl) (fun _ _ _ h => h) (by rfl) (v := _) (by (intro _ hSw; (try dsimp only at hSw); go_simp; try with_reducible rfl)) hHeld ?_
        simp only [Act.put, List.setIfInBounds_toArray, List.set_cons_zero, List.set_cons_succ]
        refine takeY 9 (some 31) rfl rfl (by kernel_rfl) (by kernel_rfl) (by kernel_rfl) (fun _ _ _ h => h) (by rfl) (v := _) (by (intro _ hSw; (try dsimp only at hSw); go_simp; try with_reducible rfl)) hHeld ?_
        simp only [Act.put, List.setIfInBounds_toArray, List.set_cons_zero, List.set_cons_succ]
        refine takeY 10 (some 32) rfl rfl (by kernel_rfl) (by kernel_rfl) (by kernel_rfl) (fun _ _ _ h => h) (by rfl) (v := _) (by (intro _ hSw; (try dsimp only at hSw); go_simp; try with_reducible rfl)) hHeld ?_
        simp only [Act.put, List.setIfInBounds_toArray, List.set_cons_zero, List.set_cons_succ]
        refine takeY 11 (some 33) rfl rfl (by kernel_rfl) (by kernel_rfl) (by kernel_rfl) (fun _ _ _ h => h) (by rfl) (v := _) (by (intro _ hSw; (try dsimp only at hSw); go_simp; try with_reducible rfl)) hHeld ?_
        simp only [Act.put, List.setIfInBounds_toArray, List.set_cons_zero, List.set_cons_succ]
        refine takeY 12 (some 34) rfl rfl (by kernel_rfl) (by kernel_rfl) (by kernel_rfl) (fun _ _ _ h => h) (by rfl) (v := _) (by (intro _ hSw; (try dsimp only at hSw); go_simp; try with_reducible rfl)) hHeld ?_
        simp only [Act.put, List.setIfInBounds_toArray, List.set_cons_zero, List.set_cons_succ]
        refine takeY 13 (some 35) rfl rfl (by kernel_rfl) (by kernel_rfl) (by kernel_rfl) (fun _ _ _ h => h) (by rfl) (v := _) (by (intro _ hSw; (try dsimp only at hSw); go_simp; try with_reducible rfl)) hHeld ?_
        simp only [Act.put, List.setIfInBounds_toArray, List.set_cons_zero, List.set_cons_succ]
        refine takeY 14 (some 36) rfl rfl (by kernel_rfl) (by kernel_rfl) (by kernel_rfl) (fun _ _ _ h => h) (by rfl) (v := _) (by (intro _ hSw; (try dsimp only at hSw); go_simp; try with_reducible rfl)) hHeld ?_
        simp only [Act.put, List.setIfInBounds_toArray, List.set_cons_zero, List.set_cons_succ]
        refine takeY 15 (some 37) rfl rfl (by kernel_rfl) (by kernel_rfl) (by kernel_rfl) (fun _ _ _ h => h) (by rfl) (v := _) (by (intro _ hSw; (try dsimp only at hSw); go_simp; try with_reducible rfl)) hHeld ?_
        simp only [Act.put, List.setIfInBounds_toArray, List.set_cons_zero, List.set_cons_succ]
        refine wpAnyH_ready (rs := [16]) (by kernel_rfl) (by simp) ?_
        refine AllReadyH.cons rfl (fun K hK => ?_) AllReadyH.nil
        clear hHeld
        go_simp
        go_wp2_with (go_at_call 147; refine Calls.mono H1.out ?_; rintro e w2 ⟨rfl, hb2⟩)
        refine hK.out _ _ ⟨(hb2.cell (p := ⟨b, off, none⟩) HLT.out).trans C0.out, (hb2.cell (p := ⟨b, off + 1, none⟩) HLT.out).trans C1.out, (hb2.cell (p := ⟨b, off + 2, none⟩) HLT.out).trans C2.out, (hb2.cell (p := ⟨b, off + 3, none⟩) HLT.out).trans C3.out⟩ (fun hHeld => ?_)
        clear hK K
        refine takeY 17 (some 39) rfl rfl (by kernel_rfl) (by kernel_rfl) (by kernel_rfl) (fun _ _ _ h => h) (by rfl) (v := _) (by (intro _ hSw; (try dsimp only at hSw); go_simp; try with_reducible rfl)) hHeld ?_
        simp only [Act.put, List.setIfInBounds_toArray, List.set_cons_zero, List.set_cons_succ]
        refine takeY 18 (some 40) rfl rfl (by kernel_rfl) (by kernel_rfl) (by kernel_rfl) (fun _ _ _ h => h) (by rfl) (v := _) (by (intro _ hSw; (try dsimp only at hSw); go_simp; try with_reducible rfl)) hHeld ?_
        simp only [Act.put, List.setIfInBounds_toArray, List.set_cons_zero, List.set_cons_succ]
        refine wpAnyH_done (by kernel_rfl) ?_ _
        clear hHeld heq4 hat
        have HB2 := Lib.hid (HB1.out.drew.trans (hb2.mono (show w.heap.size ≤ w1.drew.heap.size from hsz)))
        have hn248 : n ≤ 248 := by omega
        clear hb2 H1 C0 C1 C2 C3 HLT HB1 hn
        cases v1
        · have HNO : Hid (∀ k body, ¬ IsBlk bs k body) := Lib.hid (not_isBlk fun m h => by
            have h1 := HX1.out
            rw [h.zero] at h1
            have h2 := HV1.out
            rw [← h1] at h2
            exact absurd h2 (by decide))
          go_wp2_with fail
          go_ret3
          exact ⟨.inr ⟨HNO.out, rfl⟩, HB2.out⟩
        · have hx1 : bs.getD 1 0 = 0 := UInt8.toNat_inj.1 (by rw [HX1.out]; have := HV1.out; simp at this; subst this; rfl)
          have HZ := Lib.hid hx1
          clear hx1
          go_wp2_with fail
          go_loop [9, 46] (fun _ i => ∃ k : Nat, k ≤ 248 - n ∧ i = .int .i64 k ∧ Hid (∀ j, j < k → bs.getD (4 + n + j) 0 = 0)) (fun _ i => 248 - n - (intOf i).toNat)
          case atStart => exact ⟨0, Nat.zero_le _, rfl, Lib.hid (fun j hj => by omega)⟩
          case round =>
            obtain ⟨k, hk, rfl, hz⟩ := hrel
            by_cases hlt : k < 248 - n
            · have hcell := (HB2.out.cell (p := ⟨b, off + (4 + n + k), none⟩) HB.out).trans (HC.out (4 + n + k) (by rw [HL.out]; omega))
              by_cases hzero : bs.getD (4 + n + k) 0 = 0
              · rw [hzero] at hcell
                have HZ2 : Hid (∀ j, j < k + 1 → bs.getD (4 + n + j) 0 = 0) := Lib.hid (fun j hj => by
                  by_cases e : j = k
                  · subst e; exact hzero
                  · exact hz.out j (by omega))
                clear hzero hz
                have hc' : w2.cell? ⟨b, off + (4 + n) + k, none⟩ = some (.int .u8 0) := by rw [show off + (4 + n) + k = off + (4 + n + k) by omega]; exact hcell
                clear hcell
                go_wp2_with fail
                go_round
                case rel => exact ⟨k + 1, by omega, by go_num, HZ2⟩
                case measure => simp [intOf]; omega
              · have HNO : Hid (∀ k body, ¬ IsBlk bs k body) := Lib.hid (not_isBlk fun m h => by
                  have hm : m = n := h.n_eq.trans HN.out.symm
                  exact hzero (h.fill (4 + n + k) (by omega) (by omega)))
                obtain ⟨y, hy⟩ : ∃ y, (bs.getD (4 + n + k) 0).toNat = y := ⟨_, rfl⟩
                rw [hy] at hcell
                have hy0 : ((y : Int) != 0) = true := by
                  have : y ≠ 0 := fun e => hzero (UInt8.toNat_inj.1 (by rw [hy, e]; rfl))
                  simp; omega
                have hc' : w2.cell? ⟨b, off + (4 + n) + k, none⟩ = some (.int .u8 (y : Int)) := by rw [show off + (4 + n) + k = off + (4 + n + k) by omega]; exact hcell
                clear hcell hzero hy hz
                go_wp2_with fail
                go_ret3
                exact ⟨.inr ⟨HNO.out, rfl⟩, HB2.out⟩
            · obtain rfl : k = 248 - n := by omega
              have hA2 := HA.out.below HB2.out
              have hT2 := HT.out.below HB2.out
              have hg := get_okL (some ⟨b, off, none⟩) 256 cap 252 4 bs w2 HL.out (by decide) (by decide) (by decide) hA2
              have hf4 : (fieldOf bs 252 4).length = 4 := by simp [fieldOf, HL.out]
              have hs32 := leN_lt (fieldOf bs 252 4)
              rw [hf4] at hs32
              obtain ⟨s, hs⟩ : ∃ s, leN (fieldOf bs 252 4) = s := ⟨_, rfl⟩
              rw [hs] at hg hs32
              have hs32' : s < 4294967296 := hs32
              have hgw : ∀ w3, Below w2.heap.size w2 w3 → Bytes w3 (some ⟨b, off, none⟩) bs ∧ Tab w3 := fun w3 h => ⟨hA2.below h, hT2.below h⟩
              have HG := Lib.hid hg
              have HGW := Lib.hid hgw
              have HSE := Lib.hid hs
              clear hg hgw hA2 hT2 hf4 hs hs32
              go_wp2_with fail
              refine HG.out.mono ?_
              rintro e w3 ⟨rfl, hb3⟩
              obtain ⟨hA3, hT3⟩ := HGW.out w3 hb3
              have HB3 := Lib.hid (HB2.out.trans (hb3.mono HB2.out.size))
              have htk : (bs.take 252).length = 252 := by simp [HL.out]
              have hby : Bytes w3 (some ⟨b, off, none⟩) (bs.take 252) := fun k c hk => hA3 k c (by
                have hk' := (List.getElem?_eq_some_iff.1 hk).1
                rw [htk] at hk'
                rwa [List.getElem?_take_of_lt hk'] at hk)
              have hsum := sum_anyL (some ⟨b, off, none⟩) 252 cap (bs.take 252) w3 htk hT3 hby (by decide)
              obtain ⟨u, hu⟩ : ∃ u, sumFrom 0 (bs.take 252) = u := ⟨_, rfl⟩
              rw [hu] at hsum
              have HSUM := Lib.hid hsum
              have HU := Lib.hid hu
              have HA3 := Lib.hid hA3
              clear hsum hu hby hb3 HG hA3 hT3 htk
              by_cases hsu : s = u
              · have hne : ((s : Int) != (u : Int)) = false := by simp; omega
                have hfits : Fits bs n := ⟨HL.out, fun e => k0 (by rw [← HX0.out, e]; rfl), HZ.out, HN.out, hn248, fun i h1 h2 => by
                  have := hz.out (i - (4 + n)) (by omega)
                  rwa [show 4 + n + (i - (4 + n)) = i by omega] at this, by rw [HSE.out, HU.out, hsu]⟩
                have hcut := cut_okL (some ⟨b, off, none⟩) 256 cap 4 n bs w3 HL.out (by omega) (by decide) HA3.out
                obtain ⟨hblk, hbl⟩ := fits_isBlk hfits
                rw [HX0.out] at hblk
                obtain ⟨body, hbody⟩ : ∃ x, fieldOf bs 4 n = x := ⟨_, rfl⟩
                rw [hbody] at hblk hbl hcut
                have HCUT := Lib.hid hcut
                have HBLK := Lib.hid hblk
                have HBL := Lib.hid hbl
                have HLT := Lib.hid HB3.out.size
                have c0 : ∀ w4, Below w3.heap.size w3 w4 → w4.cell? ⟨b, off, none⟩ = some (.int .u8 (x0 : Int)) := fun w4 h4 => (h4.cell (p := ⟨b, off, none⟩) (Nat.lt_of_lt_of_le HB.out HB3.out.size)).trans ((HB3.out.cell (p := ⟨b, off, none⟩) HB.out).trans (by rw [← HX0.out]; exact HC.out 0 (by rw [HL.out]; decide)))
                have C0 := Lib.hid c0
                clear hcut hblk hbl hbody hfits hz hsu c0
                go_wp2_with fail
                refine HSUM.out.mono ?_
                rintro e w' ⟨rfl, rfl⟩
                go_wp2_with fail
                refine HCUT.out.mono ?_
                rintro e w4 ⟨rfl, hR4, hb4⟩
                have HR4 := Lib.hid hR4
                have HB4 := Lib.hid (HB3.out.trans (hb4.mono HB3.out.size))
                have c0 := C0.out w4 hb4
                clear HCUT hR4 hb4 C0
                go_wp2_with fail
                go_ret3
                exact ⟨.inl ⟨x0, body, _, HBLK.out, by rw [HBL.out]; rfl, HLT.out, HR4.out⟩, HB4.out⟩
              · have hne : ((s : Int) != (u : Int)) = true := by simp; omega
                have HNO : Hid (∀ k body, ¬ IsBlk bs k body) := Lib.hid (not_isBlk fun m h => hsu (by rw [← HSE.out, ← HU.out]; exact h.sum))
                clear hsu hz
                go_wp2_with fail
                refine HSUM.out.mono ?_
                rintro e w' ⟨rfl, rfl⟩
                go_wp2_with fail
                go_ret3
                exact ⟨.inr ⟨HNO.out, rfl⟩, HB3.out⟩
  · have hd : decide ((len : Int) = 256) = false := by simp; omega
    have HN := Lib.hid (not_isBlk (bs := bs) fun n h => h256 (by rw [← hlen]; exact h.len))
    have hne : ((len : Int) != 256) = true := by simp; omega
    clear hA hT
    go_enter Tryz.func89, Tryz.ntmps89
    go_wp2
    go_ret3
    exact ⟨.inr ⟨HN.out, rfl⟩, Below.refl _ _⟩

end Go.Proofs.YtolpgpphjnkehaaGreatDoor.Blo
/- EqBytes; the anchor. -/
namespace Go.Proofs.YtolpgpphjnkehaaGreatDoor.Blo
set_option maxRecDepth 20000
open Go.RowKit Crc

/-- How long a slice is. -/
def lenV : Value → Nat | .slice _ n _ => n | _ => 0

theorem drewN_below (w : World) (n : Nat) : Below w.heap.size w (w.drewN n) := ⟨rfl, rfl, rfl, Nat.le_refl _, fun _ _ => rfl⟩

/-- What is left of a slice behind its first element. -/
theorem Bytes.tail {w : World} {b off : Nat} {x : UInt8} {p : List UInt8} (h : Bytes w (some ⟨b, off, none⟩) (x :: p)) (A : Option Addr) (hA : p ≠ [] → A = some ⟨b, off + 1, none⟩) : Bytes w A p := fun k c hk => by
  have hp : p ≠ [] := fun e => by rw [e] at hk; simp at hk
  obtain ⟨b', off', e, hlt, hc⟩ := h (k + 1) c (by simpa using hk)
  cases e
  exact ⟨b, off + 1, hA hp, hlt, by rw [show off + 1 + k = off + (k + 1) by omega]; exact hc⟩

set_option maxRecDepth 20000 in
set_option maxHeartbeats 1000000 in
theorem eq_any (A B : Option Addr) (l1 c1 l2 c2 : Nat) (xs ys : List UInt8) (w : World) (h1 : xs.length = l1) (h2 : ys.length = l2) (hA : Bytes w A xs) (hB : Bytes w B ys) (hc1 : l1 ≤ c1 ∧ c1 ≤ 9223372036854775807 ∧ l1 ≤ 4503599627370496) (hc2 : l2 ≤ c2 ∧ c2 ≤ 9223372036854775807 ∧ l2 ≤ 4503599627370496) :
    Calls Tryz.prog 68 #[.slice A l1 c1, .slice B l2 c2] w fun e w' => e = .returned (.bool (decide (xs = ys))) ∧ Below w.heap.size w w' := by
  have HA := Lib.hid hA
  have HB := Lib.hid hB
  subst h1
  subst h2
  clear hA hB
  go_enter Tryz.func68, Tryz.ntmps68
  go_wp2_with fail
  go_loopw [0, 1] (fun a b wr => ∃ (p q : List UInt8) (A' B' : Option Addr) (n1 n2 d1 d2 : Nat), p.length = n1 ∧ q.length = n2 ∧ a = .slice A' n1 d1 ∧ b = .slice B' n2 d2 ∧ (n1 ≤ d1 ∧ d1 ≤ 9223372036854775807 ∧ n1 ≤ 4503599627370496) ∧ (n2 ≤ d2 ∧ d2 ≤ 9223372036854775807 ∧ n2 ≤ 4503599627370496) ∧ Hid (Bytes wr A' p) ∧ Hid (Bytes wr B' q) ∧ Hid (xs = ys ↔ p = q) ∧ Hid (Below w.heap.size w wr)) (fun a _ _ => lenV a)
  case atStart => exact ⟨xs, ys, _, _, _, _, _, _, rfl, rfl, rfl, rfl, hc1, hc2, HA, HB, Lib.hid Iff.rfl, Lib.hid (Below.refl _ _)⟩
  case round =>
    clear HA HB
    obtain ⟨p, q, A', B', n1, n2, d1, d2, hp, hq, rfl, rfl, hd1, hd2, hA, hB, hiff, hbel⟩ := hrel
    have hbn : ∀ n, Hid (Below w.heap.size w (wr.drewN n)) := fun n => Lib.hid (hbel.out.trans ((drewN_below wr n).mono hbel.out.size))
    have HBN := Lib.hid hbn
    clear hbn
    cases p with
    | nil =>
      obtain rfl : n1 = 0 := hp.symm
      have hr : Hid (decide (xs = ys) = ((n2 : Int) == 0)) := Lib.hid (by
        have := hiff.out
        rw [Bool.eq_iff_iff]
        simp only [decide_eq_true_eq, beq_iff_eq]
        rw [this, ← hq]
        cases q <;> simp; omega)
      clear hp hq
      go_wp2_with fail
      go_quiet (fail)
      go_wp2_with fail
      go_ret
      exact ⟨by rw [hr.out]; rfl, (HBN.out _).out⟩
    | cons x p' =>
      obtain ⟨m1, rfl⟩ : ∃ m, n1 = m + 1 := ⟨p'.length, by rw [← hp]; rfl⟩
      have hp' : p'.length = m1 := by simpa using hp
      cases q with
      | nil =>
        obtain rfl : n2 = 0 := hq.symm
        have hr : Hid (decide (xs = ys) = false) := Lib.hid (by simp [hiff.out])
        clear hp hq hp'
        have hd : decide ((0 : Int) < ((m1 + 1 : Nat) : Int)) = true := by simp
        go_wp2_with fail
        go_quiet (fail)
        go_wp2_with fail
        go_ret
        exact ⟨by rw [hr.out]; simp; omega, (HBN.out _).out⟩
      | cons y q' =>
        obtain ⟨m2, rfl⟩ : ∃ m, n2 = m + 1 := ⟨q'.length, by rw [← hq]; rfl⟩
        have hq' : q'.length = m2 := by simpa using hq
        obtain ⟨b, off, rfl, hbl, hcx⟩ := hA.out.at_ (k := 0) (by simp)
        obtain ⟨b2, off2, rfl, hbl2, hcy⟩ := hB.out.at_ (k := 0) (by simp)
        have kx : wr.cell? ⟨b, off, none⟩ = some (.int .u8 (x.toNat : Int)) := hcx 0 x rfl
        have ky : wr.cell? ⟨b2, off2, none⟩ = some (.int .u8 (y.toNat : Int)) := hcy 0 y rfl
        have hd : decide ((0 : Int) < ((m1 + 1 : Nat) : Int)) = true := by simp
        have hde : decide ((0 : Int) < ((m2 + 1 : Nat) : Int)) = true := by simp
        clear hcx hcy hp hq
        by_cases hxy : x = y
        · subst hxy
          go_wp2_with fail
          go_quiet (fail)
          go_wp2_with fail
          refine ⟨⟨p', q', _, _, m1, m2, d1 - 1, d2 - 1, hp', hq', rfl, rfl, by omega, by omega, Lib.hid ((hA.out.tail _ (fun hne => ?_)).below (drewN_below wr _)), Lib.hid ((hB.out.tail _ (fun hne => ?_)).below (drewN_below wr _)), Lib.hid (by rw [hiff.out]; simp), HBN.out _⟩, by simp [lenV]⟩
          · have : 0 < m1 := by rw [← hp']; exact List.length_pos_iff.2 hne
            rw [if_neg (by omega)]
          · have : 0 < m2 := by rw [← hq']; exact List.length_pos_iff.2 hne
            rw [if_neg (by omega)]
        · have hr : Hid (decide (xs = ys) = false) := Lib.hid (by
            have := hiff.out
            simp only [decide_eq_false_iff_not]
            rw [this]
            intro e
            injection e with e1 _
            exact hxy e1)
          have hne : ((x.toNat : Int) == (y.toNat : Int)) = false := by
            have : x.toNat ≠ y.toNat := fun e => hxy (UInt8.toNat_inj.1 e)
            simp; omega
          go_wp2_with fail
          go_quiet (fail)
          go_wp2_with fail
          go_ret
          exact ⟨by rw [hr.out]; simp; omega, (HBN.out _).out⟩

theorem not_blank : ∀ k body, ¬ IsBlk (List.replicate 256 0) k body := not_isBlk fun n h => h.kind (by rfl)

theorem run_mk256 (w : World) :
    (Instr.makeSlice 32 (.int .i64 256) (.int .i64 256)).run Tryz.prog w = .ok (.slice (some ⟨w.heap.size, 0, none⟩) 256 256) (w.alloc (.cells (row8 (List.replicate 256 0)) 5)) := by
  have h := run_mk8 256 (by decide) w
  rw [mk8_eq] at h
  have e : (List.replicate 256 (bv 0)).toArray = row8 (List.replicate 256 0) := by unfold row8; rw [List.map_replicate]
  rw [e] at h
  exact h

/-- Open of what is a block. -/
theorem open_yes (A : Option Addr) (len cap k : Nat) (bs body : List UInt8) (w : World) (hlen : bs.length = len) (hA : Bytes w A bs) (hlm : len ≤ cap) (hT : Tab w) (hb : IsBlk bs k body) :
    Calls Tryz.prog 89 #[.slice A len cap] w fun e w' => ∃ g, e = .returned (.tuple #[.int .u8 (k : Int), .slice (some ⟨g, 0, none⟩) body.length body.length, .int .i64 0]) ∧ w.heap.size ≤ g ∧ Blk w' g 5 (row8 body) ∧ Below w.heap.size w w' := by
  refine (open_any A len cap bs w hlen hA hlm hT).mono ?_
  rintro e w' ⟨⟨k', body', g, h1, rfl, h2, h3⟩ | ⟨h1, _⟩, h4⟩
  · obtain ⟨rfl, rfl⟩ := isBlk_one hb h1
    exact ⟨g, rfl, h2, h3, h4⟩
  · exact absurd hb (h1 _ _)
theorem open_no (A : Option Addr) (len cap : Nat) (bs : List UInt8) (w : World) (hlen : bs.length = len) (hA : Bytes w A bs) (hlm : len ≤ cap) (hT : Tab w) (hb : ∀ k body, ¬ IsBlk bs k body) :
    Calls Tryz.prog 89 #[.slice A len cap] w fun e w' => e = .returned (.tuple #[.int .u8 0, .slice none 0 0, .int .i64 8]) ∧ Below w.heap.size w w' := by
  refine (open_any A len cap bs w hlen hA hlm hT).mono ?_
  rintro e w' ⟨⟨k', body', g, h1, _⟩ | ⟨_, rfl⟩, h4⟩
  · exact absurd h1 (hb _ _)
  · exact ⟨rfl, h4⟩

end Go.Proofs.YtolpgpphjnkehaaGreatDoor.Blo
