/- Contracts, part BA. -/
import Derived.Test.YtimkiifcmegfeaaRows
import Derived.WalkKit
import Derived.WalkSpells
import Derived.WalkLawsBesides
import Derived.Laws.CopyOwn
import Derived.Laws.MakeOwn
import Derived.Lib.Hide
import Derived.RangeFuncBox
import Derived.Deep.Draws
import Derived.Lib.BufferRead
import Derived.ProofKit
import Derived.Maps.AppendAt
import Derived.RangeFuncNested
import Derived.RangeFuncBound
import Derived.RangeFuncCalls
import Derived.RangeFuncLeaves
import Derived.Shelf.Abstract
import Derived.Shelf.RegionOpen
import Derived.OwnWalkIn
import Derived.TacticsInMore
import Derived.LoopNIn
import Derived.LoopIn
import Derived.StillTailTactics
import Derived.BigQuiet
import Derived.Deep.QuietTactic
import Derived.RegionTactic
import Derived.ChangeAlike
import Derived.Outline
import Derived.IntWalk
import Derived.BigRegionIn
import Derived.Maps.OwnOps
import Derived.Maps.Views
import Derived.Maps.RangeWalk
import Derived.StringKeys
import Derived.DeepKeys4
import Derived.Deep.RegionHeld
import Derived.Deep.AppendSrc
import Derived.Lib.ConvBytes
import Derived.Deep.CutRange
import Derived.Lib.SlBytesConst
import Derived.Lib.SmallJoins
import Derived.Deep.RegionWith
import Derived.Deep.RegionHeld3
import Derived.LoopTactic
/- Words for memory: a block known whole; a slice value that reads as a list of bytes; a made row of bytes. -/
namespace Go.Proofs.Ytimkiifcmegfeaa
open Go.RowKit

def Blk (w : World) (g : Nat) (t : TypeId) (cs : Array Value) : Prop := w.heap[g]? = some (.cells cs t (0, 0))

section
variable {w w' : World} {g : Nat} {t : TypeId} {cs : Array Value}
theorem Blk.lt (h : Blk w g t cs) : g < w.heap.size := by
  rcases Nat.lt_or_ge g w.heap.size with hlt | hge
  · exact hlt
  · unfold Blk at h; rw [Array.getElem?_eq_none hge] at h; cases h
theorem Blk.cell (h : Blk w g t cs) (i : Nat) : w.cell? ⟨g, i, none⟩ = cs[i]? := cell_of_row w g i cs t (0, 0) h
theorem Blk.frozen (h : Blk w g t cs) (i : Nat) : w.frozen? ⟨g, i, none⟩ = false := by
  unfold Blk at h
  simp [World.frozen?, h]
theorem Blk.new (w : World) (t : TypeId) (cs : Array Value) : Blk (w.alloc (.cells cs t)) w.heap.size t cs := heap_alloc_new w _
theorem Blk.drew (h : Blk w g t cs) : Blk w.drew g t cs := h
theorem Blk.drewN (h : Blk w g t cs) (n : Nat) : Blk (w.drewN n) g t cs := h
theorem Blk.alloc (h : Blk w g t cs) (o : Obj) : Blk (w.alloc o) g t cs := (Below.heap_alloc w o g h.lt).trans h
theorem Blk.set_ (h : Blk w g t cs) (i : Nat) (u : Value) : Blk (w.setCell ⟨g, i, none⟩ u) g t (cs.setIfInBounds i u) := by
  unfold Blk at h ⊢
  simp [World.setCell, Array.getElem?_modify, h]
theorem Blk.far (h : Blk w g t cs) {p : Addr} (hp : g ≠ p.block) (u : Value) : Blk (w.setCell p u) g t cs := (Below.heap_setCell w p u g hp).trans h
theorem Blk.below {B : Nat} (h : Blk w g t cs) (hb : Below B w w') (hg : g < B) : Blk w' g t cs := (hb.block g hg).trans h
theorem Blk.grown {row : Option Nat} (h : Blk w g t cs) (hb : w.grownBy w' row) (hg : some g ≠ row) : Blk w' g t cs := (hb.block g h.lt hg).trans h
theorem Blk.kept {row : Option Nat} (h : Blk w g t cs) (hg : w.grownBy w' row) (hr : ∀ r, row = some r → ∃ o : Obj, w.heap[r]? = some o ∧ o.isCells = false) : Blk w' g t cs :=
  h.grown hg fun e => by
    obtain ⟨o, ho, hc⟩ := hr g e.symm
    rw [show w.heap[g]? = _ from h] at ho; cases ho; cases hc
theorem Blk.putObj (h : Blk w g t cs) {l : Nat} {o : Obj} (o' : Obj) (hl : w.heap[l]? = some o) (ho : o.isCells = false) : Blk (w.putObj l o') g t cs :=
  h.kept (grownBy_putObj' w l o') (fun r e => by cases e; exact ⟨o, hl, ho⟩)
end

/-- A byte as a value. -/
def bv (c : UInt8) : Value := .int .u8 (c.toNat : Int)
theorem bv_one (c : UInt8) : (bv c).oneCell' = true := rfl

/-- What a slice value of bytes reads as. -/
def Bytes (w : World) (A : Option Addr) (bs : List UInt8) : Prop :=
  ∀ (k : Nat) (c : UInt8), bs[k]? = some c → ∃ b off, A = some ⟨b, off, none⟩ ∧ b < w.heap.size ∧ w.cell? ⟨b, off + k, none⟩ = some (.int .u8 (c.toNat : Int))

theorem Bytes.nil (w : World) (A : Option Addr) : Bytes w A [] := fun k c h => by simp at h
theorem Bytes.below {w w' : World} {A : Option Addr} {bs : List UInt8} (h : Bytes w A bs) (hb : Below w.heap.size w w') : Bytes w' A bs := fun k c hk => by
  obtain ⟨b, off, e, hlt, hc⟩ := h k c hk
  exact ⟨b, off, e, Nat.lt_of_lt_of_le hlt hb.size, (hb.cell (p := ⟨b, off + k, none⟩) hlt).trans hc⟩
theorem Bytes.of_blk {w : World} {g : Nat} {t : TypeId} {cs : Array Value} {bs : List UInt8} (h : Blk w g t cs) (hcs : ∀ (k : Nat) (c : UInt8), bs[k]? = some c → cs[k]? = some (bv c)) : Bytes w (some ⟨g, 0, none⟩) bs := fun k c hk =>
  ⟨g, 0, rfl, h.lt, by rw [Nat.zero_add, h.cell, hcs k c hk]; rfl⟩
theorem Bytes.at_ {w : World} {A : Option Addr} {bs : List UInt8} (h : Bytes w A bs) {k : Nat} (hk : k < bs.length) : ∃ b off, A = some ⟨b, off, none⟩ ∧ b < w.heap.size ∧ ∀ (j : Nat) (c : UInt8), bs[j]? = some c → w.cell? ⟨b, off + j, none⟩ = some (.int .u8 (c.toNat : Int)) := by
  obtain ⟨b, off, rfl, hlt, _⟩ := h k bs[k] (List.getElem?_eq_getElem hk)
  refine ⟨b, off, rfl, hlt, fun j c hj => ?_⟩
  obtain ⟨b', off', e, _, hc⟩ := h j c hj
  cases e
  exact hc

/-- A made row of n bytes. -/
def mk8 (n : Nat) : Array Value := madeCells #[.int .u8 0] n
theorem mk8_list (n : Nat) : (mk8 n).toList = List.replicate n (bv 0) := by
  apply List.ext_getElem
  · simp [mk8, madeCells]
  · intro i h1 h2
    simp [mk8, madeCells, bv, Nat.mod_one]
theorem mk8_eq (n : Nat) : mk8 n = (List.replicate n (bv 0)).toArray := by
  rw [← mk8_list]

theorem Try.info8 : (Try.prog.info? 5).map (fun i => (i.zero, i.size, i.bytes)) = some (some (.int .u8 0), 1, 1) := by kernel_rfl

theorem run_mk8 (n : Nat) (hn : n ≤ 281474976710656) (w : World) :
    (Instr.makeSlice 26 (.int .i64 (n : Int)) (.int .i64 (n : Int))).run Try.prog w = .ok (.slice (some ⟨w.heap.size, 0, none⟩) n n) (w.alloc (.cells (mk8 n) 5)) := by
  obtain ⟨i0, hi, hz0, hz1, hz2⟩ := info_parts Try.info8
  have h := run_make (P := Try.prog) w 26 5 i0 (.int .u8 0) Try.underlying26 hi hz0 .i64 .i64 (n : Int) (n : Int) (by omega) (by omega) (by rw [hz2]; omega) (by omega)
  simpa [hz1, mk8, Value.cells] using h

theorem Try.size8 : (Try.prog.info? 5).map (·.size) = some 1 := by kernel_rfl

/-- copy of a whole slice of bytes to the front of a row of the call's own. -/
theorem run_copy8 (w : World) (ty : TypeId) (g m c : Nat) (A : Option Addr) (cap : Nat) (bs : List UInt8) (cur : List Value) (hA : Bytes w A bs) (hR : Blk w g 5 cur.toArray) (hm : bs.length ≤ m) (hc : m ≤ cur.length) :
    ∃ w', (Builtin.copy_ #[26, 26] ty #[.slice (some ⟨g, 0, none⟩) m c, .slice A bs.length cap]).run Try.prog w = .ok (goInt bs.length) w' ∧
      Blk w' g 5 (bs.map bv ++ cur.drop bs.length).toArray ∧ w.grownBy w' (some g) ∧ w'.heap.size = w.heap.size := by
  rcases Nat.eq_zero_or_pos bs.length with h0 | h0
  · obtain rfl : bs = [] := List.eq_nil_of_length_eq_zero h0
    exact ⟨w, run_copy_none (P := Try.prog) w _ _ ty 5 _ _ _ _ _ _ Try.underlying26 Try.size8 (by simp), by simpa using hR, World.grownBy.refl w _, rfl⟩
  · obtain ⟨b, off, rfl, hb, hcell⟩ := hA.at_ h0
    have hrun := run_copy_row (P := Try.prog) w 26 26 ty 5 g 0 m c ⟨b, off, none⟩ bs.length cap cur.toArray 5 (bs.map bv) Try.underlying26 Try.size8 hR (by rw [List.length_map]; exact (Nat.min_eq_left hm).symm)
      (fun j v hv => by
        rw [List.getElem?_map] at hv
        cases hj : bs[j]? with
        | none => rw [hj] at hv; cases hv
        | some d =>
          rw [hj] at hv
          simp only [Option.map_some, Option.some.injEq] at hv
          subst hv
          have e : (⟨b, off, none⟩ : Addr).add j = ⟨b, off + j, none⟩ := by unfold Addr.add; split <;> simp_all
          rw [e]; exact hcell j d hj)
      (by simp; omega) (fun v hv => by obtain ⟨d, _, rfl⟩ := List.mem_map.1 hv; rfl)
    refine ⟨_, by simpa using hrun, ?_, ?_, by simp [World.setRow]⟩
    · have := setRow_heap w g cur.toArray (cur.take 0 ++ bs.map bv ++ cur.drop (0 + (bs.map bv).length)).toArray 5 (0, 0) hR
      simpa [Blk] using this
    · exact ⟨rfl, rfl, rfl, by simp [World.setRow], fun k hk hne => setRow_other w g k _ (fun e => hne (by rw [e]))⟩

/-- The cells of a row of bytes. -/
def row8 (bs : List UInt8) : Array Value := (bs.map bv).toArray

theorem row8_get {bs : List UInt8} (k : Nat) (c : UInt8) (h : bs[k]? = some c) : (row8 bs)[k]? = some (bv c) := by
  unfold row8
  simp [h]
theorem Bytes.row {w : World} {g : Nat} {t : TypeId} {bs : List UInt8} (h : Blk w g t (row8 bs)) : Bytes w (some ⟨g, 0, none⟩) bs := Bytes.of_blk h (fun k c hk => row8_get k c hk)

/-- What the walk is told of a slice of integers that came in. -/
def IsRow (k : IntKind) (w : World) (a : Option Addr) (len cap : Nat) (zs : List Int) : Prop :=
  (a = none ∧ len = 0 ∧ cap = 0 ∧ zs = []) ∨
  ∃ x, a = some x ∧ len ≤ cap ∧ cap ≤ maxLen ∧ zs.length = cap ∧ (∀ i, i < zs.length → w.cell? (x.add i) = some (.int k (zs.getD i 0))) ∧ ∀ n ∈ zs, (Lit.int k n).wf = true

theorem wf_u8 {n : Int} (h : (Lit.int .u8 n).wf = true) : 0 ≤ n ∧ n ≤ 255 := by
  have h' := h
  simp [Lit.wf, IntKind.min, IntKind.max, IntKind.bits, IntKind.signed] at h'
  omega
theorem wf_u16 {n : Int} (h : (Lit.int .u16 n).wf = true) : ∃ m : Nat, n = m ∧ m < 65536 := by
  have h' := h
  simp [Lit.wf, IntKind.min, IntKind.max, IntKind.bits, IntKind.signed] at h'
  exact ⟨n.toNat, by omega, by omega⟩

theorem wf_u8n {n : Int} (h : (Lit.int .u8 n).wf = true) : ∃ m : Nat, n = m ∧ m < 256 := by
  have h' := wf_u8 h
  exact ⟨n.toNat, by omega, by omega⟩
theorem wf_u64 {n : Int} (h : (Lit.int .u64 n).wf = true) : ∃ m : Nat, n = m ∧ m < 18446744073709551616 := by
  have h' := h
  simp [Lit.wf, IntKind.min, IntKind.max, IntKind.bits, IntKind.signed] at h'
  exact ⟨n.toNat, by omega, by omega⟩
theorem wf_i64 {n : Int} (h : (Lit.int .i64 n).wf = true) : -9223372036854775808 ≤ n ∧ n < 9223372036854775808 := by
  have h' := h
  simp [Lit.wf, IntKind.min, IntKind.max, IntKind.bits, IntKind.signed] at h'
  omega

theorem bytes_of_row8 {w : World} {a : Option Addr} {len cap : Nat} {zs : List Int} (h : IsRow .u8 w a len cap zs) : ∃ bs : List UInt8, bs.length = len ∧ Bytes w a bs ∧ len ≤ maxLen := by
  rcases h with ⟨rfl, rfl, rfl, rfl⟩ | ⟨x, rfl, hl, hm, hz, hc, hw⟩
  · exact ⟨[], rfl, Bytes.nil _ _, Nat.zero_le _⟩
  · refine ⟨(zs.take len).map fun z => UInt8.ofNat z.toNat, by simp; omega, fun k c hk => ?_, Nat.le_trans hl hm⟩
    rw [List.getElem?_map] at hk
    have hkl : k < len := by
      rcases Nat.lt_or_ge k len with h | h
      · exact h
      · rw [List.getElem?_eq_none (by simp; omega)] at hk; cases hk
    have hkz : k < zs.length := by omega
    rw [List.getElem?_take_of_lt hkl, List.getElem?_eq_getElem hkz] at hk
    simp only [Option.map_some, Option.some.injEq] at hk
    have hcell := hc k hkz
    have hcell0 := hc 0 (by omega)
    obtain ⟨b, off, spot⟩ := x
    have hspot : spot = none := by simpa [Addr.add] using World.cell?_spot hcell0
    subst hspot
    have e : (⟨b, off, none⟩ : Addr).add k = ⟨b, off + k, none⟩ := by unfold Addr.add; split <;> simp_all
    rw [e] at hcell
    have hwf := wf_u8 (hw zs[k] (List.getElem_mem hkz))
    have hg : zs.getD k 0 = zs[k] := by simp [List.getD, hkz]
    refine ⟨b, off, rfl, World.block_lt_of_cell? w _ hcell, ?_⟩
    rw [hcell, hg, ← hk, UInt8.toNat_ofNat']
    congr 2
    omega

/-- A text. -/
def str (bs : List UInt8) : ByteArray := ⟨bs.toArray⟩
theorem str_toList (bs : List UInt8) : (str bs).toList = bs := by
  unfold str
  simp [ByteArray.toList_eq]
theorem str_eq {a b : List UInt8} (h : a = b) : ((str a).toList == (str b).toList) = true := by rw [h]; simp
theorem run_str8 (w : World) (A : Option Addr) (cap : Nat) (bs : List UInt8) (hA : Bytes w A bs) :
    (convert 26 9 (.slice A bs.length cap)).run Try.prog w = .ok (.string (str bs)) w := by
  rcases Nat.eq_zero_or_pos bs.length with h0 | h0
  · obtain rfl : bs = [] := List.eq_nil_of_length_eq_zero h0
    cases A with
    | none => exact Lib.run_convert_nil_bytes w _ _ 5 cap Try.underlying26 Try.underlying5 Try.underlying9
    | some a => exact run_convert_bytes_back w _ _ 5 a cap [] Try.underlying26 Try.underlying5 Try.underlying9 (fun j hj => by simp at hj)
  · obtain ⟨b, off, rfl, _, hc⟩ := hA.at_ h0
    exact run_convert_bytes_back w _ _ 5 ⟨b, off, none⟩ cap bs Try.underlying26 Try.underlying5 Try.underlying9 (fun j hj => by
      have e : (⟨b, off, none⟩ : Addr).add j = ⟨b, off + j, none⟩ := by unfold Addr.add; split <;> simp_all
      rw [e]; exact hc j _ (List.getElem?_eq_getElem hj))

theorem run_str8L (w : World) (A : Option Addr) (len cap : Nat) (bs : List UInt8) (hl : bs.length = len) (hA : Bytes w A bs) :
    (convert 26 9 (.slice A len cap)).run Try.prog w = .ok (.string (str bs)) w := by subst hl; exact run_str8 w A cap bs hA

theorem own_below {w w' : World} {base : Nat} {e : TypeId} {size : Nat} {v : Value} {n : Nat} {xs : List Value} (h : w.ownsRow base e size v n xs) (hb : Below w.heap.size w w') : w'.ownsRow base e size v n xs :=
  h.kept (row := none) ⟨hb.os, hb.tape, hb.output, hb.size, fun k hk _ => hb.block k hk⟩ (by cases v.ownBlock <;> simp)

/-- append, where its run is known. -/
theorem wpList_app {P : Program} {w : World} {ops : Array Oper} {rest : List Oper} {o : Oper} {a : Act} {Q : Exit → Act → World → Prop} (hgd : o.guard = none) (s x : Operand) (t : TypeId)
    (ho : o.op = .call { callee := .builtin .append, args := #[s, x], argTypes := #[t, t] }) (v xv v' : Value) (w' : World) (hs : a.eval s = v) (hx : a.eval x = xv)
    (hrun : (Builtin.append_ #[t, t] o.type #[v, xv]).run P w = .ok v' w') (h : wpList P ops Q rest (a.put o.dst v') w') : wpList P ops Q (o :: rest) a w :=
  wpList_plain hgd fun K hK => by
    unfold Oper.wp execOp
    simp only [ho, resolve, invoke, builtin, Sem.run_bind, Sem.run_pure, Result.andThen_ok, List.map_toArray, List.map_cons, List.map_nil, hs, hx, hrun]
    exact hK _ _ h

/-- append of bytes to a row of the call's own. -/
theorem run_app8 (w : World) (base : Nat) (v : Value) (n : Nat) (xs : List UInt8) (hown : w.ownsRow base 5 1 v n (xs.map bv)) (A : Option Addr) (len c : Nat) (bs : List UInt8) (hlen : bs.length = len) (hA : Bytes w A bs)
    (hb : n + len ≤ 140737488355328) (hbase : base ≤ w.heap.size) :
    ∃ v' w', (Builtin.append_ #[26, 26] 26 #[v, .slice A len c]).run Try.prog w = .ok v' w' ∧ w'.ownsRow base 5 1 v' (n + len) ((xs ++ bs).map bv) ∧ w.grownBy w' v.ownBlock := by
  obtain ⟨i0, hi, hz0, hz1, hz2⟩ := info_parts Try.info8
  have hcells : ∀ (a : Addr), A = some a → ∀ (j : Nat) (u : Value), (bs.map bv)[j]? = some u → w.cell? (a.add j) = some u := fun a e j u hu => by
    rw [List.getElem?_map] at hu
    cases hj : bs[j]? with
    | none => rw [hj] at hu; cases hu
    | some d =>
      rw [hj] at hu
      simp only [Option.map_some, Option.some.injEq] at hu
      subst hu
      obtain ⟨b, off, e', _, hc⟩ := hA j d hj
      rw [e] at e'; cases e'
      have e2 : (⟨b, off, none⟩ : Addr).add j = ⟨b, off + j, none⟩ := by unfold Addr.add; split <;> simp_all
      rw [e2]; exact hc
  have h1 : ∀ u ∈ bs.map bv, u.oneCell' = true := fun u hu => by obtain ⟨d, _, rfl⟩ := List.mem_map.1 hu; rfl
  cases A with
  | some a =>
    obtain ⟨v', w', hrun, h2, h3, _, _⟩ := run_append_own_at (P := Try.prog) w base 26 26 5 i0 (.int .u8 0) 1 1 Try.underlying26 hi hz0 hz1 hz2 rfl (by decide) v n (xs.map bv) hown a len c (bs.map bv) (by simp; omega) (hcells a rfl) h1 (by unfold maxLen; omega) (by omega) hbase
    exact ⟨v', w', hrun, by rw [List.map_append]; exact h2, h3⟩
  | none =>
    have h0 : bs = [] := by
      cases bs with
      | nil => rfl
      | cons d r =>
        obtain ⟨b, off, e, _⟩ := hA 0 d rfl
        cases e
    subst h0
    obtain rfl : 0 = len := hlen
    refine ⟨v, w, ?_, by simpa using hown, World.grownBy.refl w _⟩
    rcases hown.2 with ⟨rfl, rfl⟩ | ⟨g, cap, cur, rfl, _, _, hnc, _⟩
    · simp [Builtin.append_, run_underlying Try.underlying26, sizeOf, typeInfo, hi, Builtin.lenOf, Builtin.firstCells]
    · simp [Builtin.append_, run_underlying Try.underlying26, sizeOf, typeInfo, hi, Builtin.lenOf, Builtin.firstCells, hnc, storeCells]

theorem Bytes.of_own {w : World} {base n : Nat} {t : TypeId} {A : Option Addr} {c : Nat} {bs : List UInt8} (h : w.ownsRow base t 1 (.slice A n c) n (bs.map bv)) : Bytes w A bs := fun k d hk => by
  rcases h.2 with ⟨e, rfl⟩ | ⟨g, cap, cur, e, hb, hg, hn, hm, hs, ht⟩
  · have := h.1; simp at this; subst this; simp at hk
  · injection e with e1 e2 e3
    have hlt : g < w.heap.size := (Array.getElem?_eq_some_iff.1 hg).1
    refine ⟨g, 0, e1, hlt, ?_⟩
    have hkl : k < n := by have := h.1; simp at this; have := (List.getElem?_eq_some_iff.1 hk).1; omega
    rw [Nat.zero_add, cell_of_row w g k cur t (0, 0) hg]
    have h2 : (cur.toList.take (n * 1))[k]? = some (bv d) := by rw [ht]; simp [hk]
    rw [List.getElem?_take_of_lt (by omega)] at h2
    simpa [bv] using h2

/-- string(b) of a row of the call's own. -/
theorem run_strOwn (w : World) (base n : Nat) (v : Value) (bs : List UInt8) (h : w.ownsRow base 5 1 v n (bs.map bv)) :
    (convert 26 9 v).run Try.prog w = .ok (.string (str bs)) w := by
  have hl : bs.length = n := by have := h.1; simp at this; exact this
  rcases h.2 with ⟨rfl, rfl⟩ | ⟨g, cap, cur, rfl, _⟩
  · exact run_str8L w none 0 0 bs hl (Bytes.of_own h)
  · exact run_str8L w _ n cap bs hl (Bytes.of_own h)

end Go.Proofs.Ytimkiifcmegfeaa
/- What a step may turn: a set of blocks. -/
namespace Go.Proofs.Ytimkiifcmegfeaa
open Go.RowKit

/-- From w to w' only blocks of F, and new ones, have turned. -/
structure Off (F : Nat → Prop) (w w' : World) : Prop where
  os : w'.os = w.os
  tape : w'.tape = w.tape
  output : w'.output = w.output
  size : w.heap.size ≤ w'.heap.size
  block : ∀ k, k < w.heap.size → ¬ F k → w'.heap[k]? = w.heap[k]?

section
variable {F G : Nat → Prop} {w w1 w2 : World}
theorem Off.refl (F : Nat → Prop) (w : World) : Off F w w := ⟨rfl, rfl, rfl, Nat.le_refl _, fun _ _ _ => rfl⟩
theorem Off.trans (h : Off F w w1) (k : Off F w1 w2) : Off F w w2 :=
  ⟨k.os.trans h.os, k.tape.trans h.tape, k.output.trans h.output, Nat.le_trans h.size k.size, fun i hi hn => (k.block i (Nat.lt_of_lt_of_le hi h.size) hn).trans (h.block i hi hn)⟩
theorem Off.mono (h : Off F w w1) (hF : ∀ k, k < w.heap.size → F k → G k) : Off G w w1 :=
  ⟨h.os, h.tape, h.output, h.size, fun k hk hn => h.block k hk fun hf => hn (hF k hk hf)⟩
/-- Two steps, the second of which may turn what the first has made. -/
theorem Off.then (h : Off F w w1) (k : Off G w1 w2) (hG : ∀ j, j < w.heap.size → G j → F j) : Off F w w2 :=
  ⟨k.os.trans h.os, k.tape.trans h.tape, k.output.trans h.output, Nat.le_trans h.size k.size, fun i hi hn => (k.block i (Nat.lt_of_lt_of_le hi h.size) fun hg => hn (hG i hi hg)).trans (h.block i hi hn)⟩
theorem Off.below {B : Nat} (h : Off F w w1) (hB : B ≤ w.heap.size) (hF : ∀ k, F k → B ≤ k) : Below B w w1 :=
  ⟨h.os, h.tape, h.output, h.size, fun k hk => h.block k (by omega) fun hf => by have := hF k hf; omega⟩
theorem Off.of_below {B : Nat} (h : Below B w w1) (F : Nat → Prop) (hF : ∀ k, k < w.heap.size → B ≤ k → F k) : Off F w w1 :=
  ⟨h.os, h.tape, h.output, h.size, fun k hk hn => h.block k (by
    rcases Nat.lt_or_ge k B with hb | hb
    · exact hb
    · exact absurd (hF k hk hb) hn)⟩
theorem Off.of_new (h : Below w.heap.size w w1) (F : Nat → Prop) : Off F w w1 := Off.of_below h F fun k h1 h2 => by omega
theorem Off.of_grown {row : Option Nat} (h : w.grownBy w1 row) : Off (fun k => row = some k) w w1 :=
  ⟨h.os, h.tape, h.output, h.size, fun k hk hn => h.block k hk fun e => hn e.symm⟩
theorem Off.set_ (w : World) (p : Addr) (u : Value) : Off (fun k => k = p.block) w (w.setCell p u) :=
  ⟨rfl, rfl, rfl, by simp [World.setCell], fun k _ hn => Below.heap_setCell _ _ _ _ hn⟩
theorem Off.setc (w : World) (g i : Nat) (u : Value) : Off (fun k => k = g) w (w.setCell ⟨g, i, none⟩ u) := Off.set_ w ⟨g, i, none⟩ u
theorem Off.drew (F : Nat → Prop) (w : World) : Off F w w.drew := ⟨rfl, rfl, rfl, Nat.le_refl _, fun _ _ _ => rfl⟩
theorem Off.drewN (F : Nat → Prop) (w : World) (n : Nat) : Off F w (w.drewN n) := ⟨rfl, rfl, rfl, Nat.le_refl _, fun _ _ _ => rfl⟩
theorem Off.alloc (F : Nat → Prop) (w : World) (o : Obj) : Off F w (w.alloc o) := ⟨rfl, rfl, rfl, by simp, fun k hk _ => Below.heap_alloc _ _ _ hk⟩
end

/-- A set of blocks, and those made since. -/
def grow (F : Nat → Prop) (w w' : World) : Nat → Prop := fun k => F k ∨ (w.heap.size ≤ k ∧ k < w'.heap.size)
theorem grow.old {F : Nat → Prop} {w w' : World} {k : Nat} (h : F k) : grow F w w' k := .inl h

theorem Blk.off {F : Nat → Prop} {w w' : World} {g : Nat} {t : TypeId} {cs : Array Value} (h : Blk w g t cs) (ho : Off F w w') (hg : ¬ F g) : Blk w' g t cs := (ho.block g h.lt hg).trans h
theorem Blk.same {w w' : World} {g : Nat} {t : TypeId} {cs : Array Value} (h : Blk w g t cs) (he : w'.heap[g]? = w.heap[g]?) : Blk w' g t cs := he.trans h

/-- A value that is a slice of bytes, which reads as bs; its block is one of E. -/
def Sec (w : World) (E : Nat → Prop) (v : Value) (bs : List UInt8) : Prop :=
  ∃ A c, v = .slice A bs.length c ∧ bs.length ≤ c ∧ c ≤ maxLen ∧ Bytes w A bs ∧ ∀ p : Addr, A = some p → E p.block

theorem Bytes.same {w w' : World} {A : Option Addr} {bs : List UInt8} (h : Bytes w A bs) (hs : w.heap.size ≤ w'.heap.size) (he : ∀ p : Addr, A = some p → p.block < w.heap.size → w'.heap[p.block]? = w.heap[p.block]?) : Bytes w' A bs := fun k c hk => by
  obtain ⟨b, off, e, hlt, hc⟩ := h k c hk
  exact ⟨b, off, e, Nat.lt_of_lt_of_le hlt hs, (World.cell?_of_block (a := ⟨b, off + k, none⟩) (he ⟨b, off, none⟩ e hlt)).trans hc⟩
theorem Sec.same {w w' : World} {E : Nat → Prop} {v : Value} {bs : List UInt8} (h : Sec w E v bs) (hs : w.heap.size ≤ w'.heap.size) (he : ∀ k, E k → k < w.heap.size → w'.heap[k]? = w.heap[k]?) : Sec w' E v bs := by
  obtain ⟨A, c, h1, h2, h3, h4, h5⟩ := h
  exact ⟨A, c, h1, h2, h3, h4.same hs (fun p e hp => he _ (h5 p e) hp), h5⟩
theorem Sec.mono {w : World} {E E' : Nat → Prop} {v : Value} {bs : List UInt8} (h : Sec w E v bs) (hE : ∀ k, E k → E' k) : Sec w E' v bs := by
  obtain ⟨A, c, h1, h2, h3, h4, h5⟩ := h
  exact ⟨A, c, h1, h2, h3, h4, fun p e => hE _ (h5 p e)⟩
theorem Sec.nil (w : World) (E : Nat → Prop) : Sec w E (.slice none 0 0) [] := ⟨none, 0, rfl, Nat.le_refl _, Nat.zero_le _, Bytes.nil _ _, fun p e => by cases e⟩
theorem Sec.of_blk {w : World} {E : Nat → Prop} {g : Nat} {t : TypeId} {bs : List UInt8} (h : Blk w g t (row8 bs)) (hE : E g) (hl : bs.length ≤ maxLen) (n : Nat) (hn : bs.length = n) : Sec w E (.slice (some ⟨g, 0, none⟩) n n) bs :=
  ⟨some ⟨g, 0, none⟩, n, by rw [hn], by omega, by omega, Bytes.row h, fun p e => by cases e; exact hE⟩

end Go.Proofs.Ytimkiifcmegfeaa
/- code: what is asked, apart from memory. -/
namespace Go.Proofs.Ytimkiifcmegfeaa
open Go.RowKit
set_option linter.unusedVariables false
/-- An instruction. -/
structure Ins where
  op : Nat
  a : Int
  b : Int
  c : Int
  tx : List UInt8
instance : Inhabited Ins := ⟨⟨0, 0, 0, 0, []⟩⟩
/-- A code. -/
structure Cd where
  fs : List (List Ins)
  rs : List (List UInt8 × List UInt8)
def prims1 : List (List UInt8) := [[112, 114, 105, 110, 116], [105, 116, 111, 115], [115, 105, 122, 101], [110, 111, 116], [114, 101, 102], [108, 101, 110], [99, 111, 109, 109, 105, 116], [97, 98, 111, 114, 116], [126], [33]]
def prims2 : List (List UInt8) := [[115, 97, 109, 101], [97, 114, 114, 97, 121], [103, 101, 116], [43], [45], [42], [100, 105, 118], [109, 111, 100], [60], [60, 61], [62], [62, 61], [61], [60, 62], [94], [58, 61]]
def prims3 : List (List UInt8) := [[112, 117, 116]]
/-- How many things a prim takes; 0: there is none. -/
def takesN (s : List UInt8) : Nat := if s ∈ prims1 then 1 else if s ∈ prims2 then 2 else if s ∈ prims3 then 3 else 0
theorem takesN_le (s : List UInt8) : takesN s ≤ 3 := by unfold takesN; split; omega; split; omega; split <;> omega
def wi (x lo hi : Int) : Bool := decide (lo ≤ x) && decide (x ≤ hi)
/-- The operands of an instruction: m functions, k roots, n instructions. -/
def opnd (m k n : Int) (i : Ins) : Bool :=
  if i.op = 1 then wi i.a (-4611686018427387904) 4611686018427387903 && (decide (i.b = 0) && decide (i.c = 0) && decide (i.tx = []))
  else if i.op = 2 then decide (i.a = 0) && decide (i.tx.length ≤ 16384) && (decide (i.b = 0) && decide (i.c = 0))
  else if i.op = 16 then decide (i.a = 0) && decide (0 < takesN i.tx) && (decide (i.b = 0) && decide (i.c = 0))
  else if i.op = 6 then wi i.a 1 (m - 1) && wi i.b 1 (m - i.a) && wi i.c 0 65535 && decide (i.tx = [])
  else if i.op = 23 then wi i.a 0 (k - 1) && wi i.b 0 (n - 1) && (decide (i.c = 0) && decide (i.tx = []))
  else if i.op = 24 then wi i.a 0 (k - 1) && (decide (i.b = 0) && decide (i.c = 0) && decide (i.tx = []))
  else if i.op = 11 then wi i.a 2 65535 && (decide (i.b = 0) && decide (i.c = 0) && decide (i.tx = []))
  else if i.op = 9 ∨ i.op = 10 ∨ i.op = 18 then wi i.a 0 (n - 1) && (decide (i.b = 0) && decide (i.c = 0) && decide (i.tx = []))
  else if i.op = 13 ∨ i.op = 22 then wi i.b 0 1 && wi i.a 0 65535 && (decide (i.c = 0) && decide (i.tx = []))
  else if i.op = 3 ∨ i.op = 4 ∨ i.op = 5 ∨ i.op = 12 ∨ i.op = 14 ∨ i.op = 20 then wi i.a 0 65535 && (decide (i.b = 0) && decide (i.c = 0) && decide (i.tx = []))
  else if i.op = 7 ∨ i.op = 8 ∨ i.op = 15 ∨ i.op = 17 ∨ i.op = 19 ∨ i.op = 21 ∨ i.op = 25 then decide (i.a = 0) && (decide (i.b = 0) && decide (i.c = 0) && decide (i.tx = []))
  else false
/-- Roots that may be. -/
def rootOK (r : List UInt8 × List UInt8) : Bool := decide (1 ≤ r.1.length) && decide (r.1.length ≤ 32) && (decide (1 ≤ r.2.length) && decide (r.2.length ≤ 200))
def rootsF : List (List UInt8 × List UInt8) → List (List UInt8) → Bool
  | [], _ => true
  | r :: rs, seen => if r.1 ∈ seen then false else rootOK r && rootsF rs (r.1 :: seen)
def rootsOK (rs : List (List UInt8 × List UInt8)) : Bool := decide (rs.length ≤ 24) && rootsF rs []
/-- The functions j at a time from n on are marked, c things caught, f functions. -/
def markN (c f : Int) : Nat → Nat → List (Int × Int) → Option (List (Int × Int))
  | 0, _, g => some g
  | j + 1, n, g => if (g[n]?.getD (0, 0)).2 = 0 then markN c f j (n + 1) (g.set n (c, f)) else none
def madeL : List Ins → List (Int × Int) → Option (List (Int × Int))
  | [], g => some g
  | i :: is, g => if i.op = 6 then (markN i.c i.b i.b.toNat i.a.toNat g).bind (madeL is) else madeL is g
def madeFs : List (List Ins) → List (Int × Int) → Option (List (Int × Int))
  | [], g => some g
  | f :: fs, g => (madeL f g).bind (madeFs fs)
/-- A function as it is gone through: how each place was come to (the height, the row of tries), what is to be gone on with, the rows. -/
structure Wk where
  at_ : List (Option (Int × Nat))
  work : List Nat
  rows : List (Nat × Nat)
namespace Wk
def come (W : Wk) (p : Nat) (h : Int) (r : Nat) : Option Wk :=
  match W.at_[p]? with
  | none => none
  | some none => some { W with at_ := W.at_.set p (some (h, r)), work := W.work ++ [p] }
  | some (some s) => if s = (h, r) then some W else none
/-- How high a place is. -/
def ht (W : Wk) (p : Nat) : Int := match W.at_[p]? with
  | some (some s) => s.1
  | _ => 0
def row (W : Wk) (r : Nat) : Nat × Nat := W.rows[r]?.getD (0, 0)
def floor (W : Wk) (f0 : Bool) (r : Nat) : Int := if 0 < r then max (if f0 then 0 else 1) (W.ht (W.row r).2) else (if f0 then 0 else 1)
def take (W : Wk) (f0 : Bool) (s : Int × Nat) (n : Int) : Option Int := if W.floor f0 s.2 ≤ s.1 - n then some (s.1 - n) else none
/-- Where a row of tries stands among those that there are. -/
def find (t : Nat × Nat) : List (Nat × Nat) → Nat → Option Nat
  | [], _ => none
  | x :: l, i => if x = t then some i else find t l (i + 1)
def known (W : Wk) (t : Nat × Nat) : Option Nat := find t (W.rows.drop 1) 1
def open_ (W : Wk) (ahead place : Nat) : Nat × Wk := match W.known (ahead, place) with
  | some n => (n, W)
  | none => (W.rows.length, { W with rows := W.rows ++ [(ahead, place)] })
/-- Takes so many, puts so many, goes on to the next place. -/
def on (W : Wk) (f0 : Bool) (p : Nat) (s : Int × Nat) (x y : Int) : Option Wk := (W.take f0 s x).bind fun h => W.come (p + 1) (h + y) s.2
/-- What an instruction takes and puts, that goes on to the next one; none: something that it asks is not so. -/
def eff (f0 : Bool) (g : Int × Int) (s : Int × Nat) (i : Ins) : Option (Int × Int) :=
  if i.op = 3 then (if i.a < s.1 then some (0, 1) else none)
  else if i.op = 4 then (if f0 = false ∧ i.a < g.1 then some (0, 1) else none)
  else if i.op = 5 then (if f0 = false ∧ i.a < g.2 then some (0, 1) else none)
  else if i.op = 1 ∨ i.op = 2 then some (0, 1)
  else if i.op = 6 then some (i.c, i.b)
  else if i.op = 7 then some (2, 1)
  else if i.op = 11 then some (i.a, 1)
  else if i.op = 12 ∨ i.op = 14 ∨ i.op = 15 then some (1, 1)
  else if i.op = 13 ∨ i.op = 22 then some (i.b, 1)
  else if i.op = 16 then some ((takesN i.tx : Int), 1)
  else if i.op = 20 then some (i.a + 1, 1)
  else if i.op = 24 then (if f0 = true then some (1, 1) else none)
  else some (1, 0)
/-- What the instruction i at place p does. -/
def step (W : Wk) (f0 : Bool) (g : Int × Int) (p : Nat) (s : Int × Nat) (i : Ins) : Option Wk :=
  if i.op = 8 then (if f0 = false ∧ s.1 = 2 ∧ s.2 = 0 then some W else none)
  else if i.op = 25 then (if f0 = true ∧ s.2 = 0 then some W else none)
  else if i.op = 17 then (W.take f0 s 1).bind fun _ => some W
  else if i.op = 9 then W.come i.a.toNat s.1 s.2
  else if i.op = 10 then (W.take f0 s 1).bind fun h => (W.come (p + 1) h s.2).bind fun V => V.come i.a.toNat h s.2
  else if i.op = 18 then ((W.open_ s.2 p).2.come (p + 1) s.1 (W.open_ s.2 p).1).bind fun V => V.come i.a.toNat (s.1 + 1) s.2
  else if i.op = 19 then (if 0 < s.2 ∧ s.1 = W.ht (W.row s.2).2 + 1 then W.come (p + 1) s.1 (W.row s.2).1 else none)
  else if i.op = 23 then (if f0 = true then (W.come (p + 1) s.1 s.2).bind fun V => V.come i.b.toNat (s.1 + 1) s.2 else none)
  else (eff f0 g s i).bind fun e => W.on f0 p s e.1 e.2
def at1 (W : Wk) (p : Nat) : Int × Nat := match W.at_[p]? with
  | some (some s) => s
  | _ => (0, 0)
/-- All places that are come to. -/
def loop (f0 : Bool) (g : Int × Int) (is : List Ins) : Nat → Wk → Bool
  | 0, _ => false
  | n + 1, W => match W.work.getLast? with
    | none => true
    | some p => match ({ W with work := W.work.dropLast } : Wk).step f0 g p (W.at1 p) (is[p]?.getD default) with
      | none => false
      | some V => loop f0 g is n V
/-- A function that is begun. -/
def start (n : Nat) : Wk := ⟨List.replicate n none, [], [(0, 0)]⟩
def all (f0 : Bool) (g : Int × Int) (is : List Ins) : Bool := match (start is.length).come 0 (if f0 then 0 else 1) 0 with
  | none => false
  | some W => loop f0 g is (is.length + 2) W
end Wk
def allFs (gs : List (Int × Int)) : List (List Ins) → Nat → Bool
  | [], _ => true
  | f :: fs, n => Wk.all (decide (n = 0)) (gs[n]?.getD (0, 0)) f && allFs gs fs (n + 1)
def opnds (m k : Int) (fs : List (List Ins)) : Bool := fs.all fun f => f.all fun i => opnd m k (f.length : Int) i
def madeOK (gs : List (Int × Int)) : Bool := (gs.drop 1).all fun g => decide (0 < g.2)
/-- May a code be run? -/
def checkB (c : Cd) : Bool :=
  decide (0 < c.fs.length) && (rootsOK c.rs && (opnds (c.fs.length : Int) (c.rs.length : Int) c.fs && match madeFs c.fs (List.replicate c.fs.length (0, 0)) with
    | none => false
    | some gs => madeOK gs && allFs gs c.fs 0))
end Go.Proofs.Ytimkiifcmegfeaa
/- Contracts of octet's small functions: isSize, within, field. -/
namespace Go.Proofs.Ytimkiifcmegfeaa
open Go.RowKit

def sizeB (n : Int) : Bool := n == 1 || n == 2 || n == 4 || n == 8
def insideB (len at_ n : Int) : Bool := decide (0 ≤ at_) && decide (0 ≤ n) && decide (at_ ≤ len) && decide (n ≤ len - at_)

set_option maxHeartbeats 400000 in
theorem isSize_any (n : Int) (w : World) :
    Calls Try.prog 54 #[.int .i64 n] w fun e w' => e = .returned (.bool (sizeB n)) ∧ w = w' := by
  have key : ∀ b : Bool, (n == 1 || n == 2 || n == 4 || n == 8) = b → sizeB n = b := fun b h => h
  by_cases h1 : n = 1
  · subst h1
    go_enter Try.func54, Try.ntmps54
    go_wp2
    go_ret
    exact ⟨rfl, rfl⟩
  · by_cases h2 : n = 2
    · subst h2
      go_enter Try.func54, Try.ntmps54
      go_wp2
      go_ret
      exact ⟨rfl, rfl⟩
    · by_cases h4 : n = 4
      · subst h4
        go_enter Try.func54, Try.ntmps54
        go_wp2
        go_ret
        exact ⟨rfl, rfl⟩
      · go_enter Try.func54, Try.ntmps54
        go_wp2
        go_ret
        exact ⟨rfl, rfl⟩

theorem ret_bool {a b : Bool} (h : a = b) : Ending.returned (.bool a) = .returned (.bool b) := by rw [h]

set_option maxHeartbeats 400000 in
theorem within_any (A : Option Addr) (len cap : Nat) (at_ n : Int) (w : World) (hl : len ≤ maxLen) (_hn : n < 9223372036854775808) (ha : at_ < 9223372036854775808) :
    Calls Try.prog 71 #[.slice A len cap, .int .i64 at_, .int .i64 n] w fun e w' => e = .returned (.bool (insideB len at_ n)) ∧ w = w' := by
  unfold maxLen at hl
  by_cases h1 : 0 ≤ at_
  · by_cases h2 : 0 ≤ n
    · by_cases h3 : at_ ≤ len
      · go_enter Try.func71, Try.ntmps71
        go_wp2
        go_ret
        exact ⟨ret_bool (by simp [insideB, h1, h2, h3]), rfl⟩
      · go_enter Try.func71, Try.ntmps71
        go_wp2
        go_ret
        exact ⟨ret_bool (by simp [insideB]; omega), rfl⟩
    · go_enter Try.func71, Try.ntmps71
      go_wp2
      go_ret
      exact ⟨ret_bool (by simp [insideB]; omega), rfl⟩
  · go_enter Try.func71, Try.ntmps71
    go_wp2
    go_ret
    exact ⟨ret_bool (by simp [insideB]; omega), rfl⟩

set_option maxHeartbeats 400000 in
theorem field_any (A : Option Addr) (len cap : Nat) (at_ n : Int) (w : World) :
    Calls Try.prog 56 #[.slice A len cap, .int .i64 at_, .int .i64 n] w fun e w' =>
      e = .returned (.func (.func 70) #[] #[.pointer (some ⟨w.heap.size + 2, 0, none⟩), .pointer (some ⟨w.heap.size, 0, none⟩), .pointer (some ⟨w.heap.size + 1, 0, none⟩)]) ∧
      ((w.alloc (.cells #[.slice A len cap] 26)).alloc (.cells #[.int .i64 at_] 3)).alloc (.cells #[.int .i64 n] 3) = w' := by
  go_enter Try.func56, Try.ntmps56
  go_wp2
  go_ret
  exact ⟨rfl, rfl⟩

end Go.Proofs.Ytimkiifcmegfeaa
/- The iterator of octet: what field's closure tells of the bytes of a field. -/
namespace Go.Proofs.Ytimkiifcmegfeaa
open Go.RowKit Go.Shelf
attribute [local go_sem] Oper.semAt_some

/-- What the iterator reads: its three boxes, and the field's bytes, of each of which G holds. -/
structure FInv (Bn Bb Ba : Nat) (A : Option Addr) (len cap at_ n : Nat) (G : Nat → UInt8 → Prop) (W : World) : Prop where
  bn : W.cell? ⟨Bn, 0, none⟩ = some (.int .i64 (n : Int))
  bb : W.cell? ⟨Bb, 0, none⟩ = some (.slice A len cap)
  ba : W.cell? ⟨Ba, 0, none⟩ = some (.int .i64 (at_ : Int))
  by_ : ∀ k, k < n → ∃ b off c, A = some ⟨b, off, none⟩ ∧ G k c ∧ W.cell? ⟨b, off + (at_ + k), none⟩ = some (.int .u8 (c.toNat : Int))

theorem FInv.kept {Bn Bb Ba : Nat} {A : Option Addr} {len cap at_ n : Nat} {G : Nat → UInt8 → Prop} {W W' : World} (h : FInv Bn Bb Ba A len cap at_ n G W)
    (hk : ∀ (p : Addr) v, W.cell? p = some v → W'.cell? p = W.cell? p) : FInv Bn Bb Ba A len cap at_ n G W' :=
  ⟨(hk _ _ h.bn).trans h.bn, (hk _ _ h.bb).trans h.bb, (hk _ _ h.ba).trans h.ba, fun k hlt => by
    obtain ⟨b, off, c, e, g, hc⟩ := h.by_ k hlt
    exact ⟨b, off, c, e, g, (hk _ _ hc).trans hc⟩⟩

theorem FInv.far {Bn Bb Ba X : Nat} {A : Option Addr} {len cap at_ n : Nat} {G : Nat → UInt8 → Prop} {W W' : World} (h : FInv Bn Bb Ba A len cap at_ n G W)
    (h1 : Bn ≠ X) (h2 : Bb ≠ X) (h3 : Ba ≠ X) (h4 : 0 < n → ∀ ad, A = some ad → ad.block ≠ X) (hk : ∀ p : Addr, p.block ≠ X → W'.cell? p = W.cell? p) : FInv Bn Bb Ba A len cap at_ n G W' :=
  ⟨(hk _ h1).trans h.bn, (hk _ h2).trans h.bb, (hk _ h3).trans h.ba, fun k hlt => by
    obtain ⟨b, off, c, e, g, hc⟩ := h.by_ k hlt
    exact ⟨b, off, c, e, g, (hk ⟨b, off + (at_ + k), none⟩ (show b ≠ X from h4 (by omega) _ e)).trans hc⟩⟩

/-- The pairs that have come. -/
abbrev BPair (n : Nat) := { x : Nat × UInt8 // x.1 < n }
def bpair {n : Nat} (x : BPair n) : Array Value := #[Value.int .i64 (x.1.1 : Int), Value.int .u8 (x.1.2.toNat : Int)]

/-- So have the first k come. -/
def Came {n : Nat} (G : Nat → UInt8 → Prop) (k : Nat) (pre : List (BPair n)) : Prop := pre.map (fun x => x.1.1) = List.range k ∧ ∀ x ∈ pre, G x.1.1 x.1.2

theorem Came.nil {n : Nat} (G : Nat → UInt8 → Prop) : Came G 0 ([] : List (BPair n)) := ⟨rfl, by simp⟩
theorem Came.snoc {n : Nat} {G : Nat → UInt8 → Prop} {k : Nat} {pre : List (BPair n)} (h : Came G k pre) (hk : k < n) {c : UInt8} (hc : G k c) : Came G (k + 1) (pre ++ [⟨(k, c), hk⟩]) := by
  refine ⟨by rw [List.map_append, h.1, List.range_succ]; rfl, fun x hx => ?_⟩
  rcases List.mem_append.1 hx with hx | hx
  · exact h.2 x hx
  · simp at hx; subst hx; exact hc
theorem Came.length {n : Nat} {G : Nat → UInt8 → Prop} {k : Nat} {pre : List (BPair n)} (h : Came G k pre) : pre.length = k := by
  have := congrArg List.length h.1
  simpa using this

set_option maxRecDepth 100000 in
set_option maxHeartbeats 1000000 in
theorem field1_in (F : Fence) (m : Nat) (h8 : F.fn 70) (hro : F.round = none) (hm : 1 ≤ m) (l Bn Bb Ba : Nat) (A : Option Addr) (len cap at_ n : Nat) (G : Nat → UInt8 → Prop)
    (hle : at_ + n ≤ len) (hlm : len ≤ 9223372036854775807) (J Jx : List (BPair n) → World → Prop)
    (hY : ∀ pre x W, J pre W → pre.length < n → YieldAt F (m - 1) Try.prog l (bpair x) W fun e W' =>
      (e = .returned (.bool true) ∧ J (pre ++ [x]) W' ∧ (FInv Bn Bb Ba A len cap at_ n G W → FInv Bn Bb Ba A len cap at_ n G W')) ∨ (e = .returned (.bool false) ∧ Jx (pre ++ [x]) W'))
    (W : World) (hI : FInv Bn Bb Ba A len cap at_ n G W) (h0 : J [] W) :
    CallsIn F m Try.prog 70 #[.func (.yield l) #[] #[], .pointer (some ⟨Bn, 0, none⟩), .pointer (some ⟨Bb, 0, none⟩), .pointer (some ⟨Ba, 0, none⟩)] W fun e W' => (∃ v, e = .returned v) ∧
      ((∃ ys, Came G n ys ∧ J ys W') ∨ (∃ pre, True ∧ Jx pre W')) := by
  refine callsIn_of_wp Try.func70 rfl h8 ?_ hro
  simp only [Try.ntmps70, List.size_toArray, List.length_cons, List.length_nil, Nat.reduceAdd, Nat.reduceSub, Array.replicate_succ, Array.replicate_zero, List.push_toArray, List.append_toArray, List.nil_append, List.cons_append]
  gi_wp2
  gi_loopw [5] (fun i wr => ∃ (k : Nat) (pre : List (BPair n)), k ≤ n ∧ i = .int .i64 k ∧ Came G k pre ∧ J pre wr ∧ FInv Bn Bb Ba A len cap at_ n G wr)
    (fun i _ => n - (intOf i).toNat)
  case atStart => exact ⟨0, [], Nat.zero_le _, rfl, Came.nil G, h0, hI⟩
  case round =>
    obtain ⟨k, pre, hk, rfl, hC, hJs, hF⟩ := hrel
    have hbn := hF.bn
    by_cases hlt : k < n
    · obtain ⟨b, off, c, rfl, hG, hc⟩ := hF.by_ k hlt
      have hbb := hF.bb
      have hba := hF.ba
      obtain ⟨fn, tmps, assign, body, hy, hR⟩ := hY pre ⟨(k, c), hlt⟩ wr hJs (by rw [hC.length]; exact hlt)
      dsimp only [bpair] at hy
      gi_wp2
      refine hR.mono ?_
      rintro e W3 (⟨rfl, hJ3, hk3⟩ | ⟨rfl, hJx3⟩)
      · gi_wp2
        go_roundw
        case rel => exact ⟨k + 1, _, by omega, by go_num, hC.snoc hlt hG, hJ3, hk3 hF⟩
        case measure => simp [intOf]; omega
      · gi_wp2
        refine bodyPost_ret (results_none rfl _ _ _) rfl ?_
        exact ⟨⟨_, rfl⟩, .inr ⟨_, trivial, hJx3⟩⟩
    · obtain rfl : k = n := by omega
      gi_wp2
      go_end0
      exact ⟨⟨_, rfl⟩, .inl ⟨_, hC, hJs⟩⟩

end Go.Proofs.Ytimkiifcmegfeaa
/- A region that draws its order in a round of a loop over a function: what holds of it outside a round holds in it. -/
namespace Go.Proofs.Ytimkiifcmegfeaa
open Go.RowKit

section
variable {P : Program} {l n : Nat}

theorem upon_in {o : Oper} {a : Act} {K : Act → World → Prop} {Q : Exit → Act → World → Prop} {r : Result Next} (h : o.upon P a K Q r) : o.uponIn (Fence.wide.inRound l) n P a K Q r := by
  cases r with
  | halt e w' => cases e <;> first | exact h | exact h.elim
  | ok x w' =>
    cases x with
    | value v => exact h
    | skip => exact h
    | defer d => exact h
    | enter f args =>
      refine ⟨fun hd => by simp [Fence.wide, Fence.inRound] at hd, (CallsIn.inRound l (callsIn_wide.2 h)).mono ?_⟩
      intro e w2 he
      cases e <;> exact he
    | row s args => exact ⟨fun hd => by simp [Fence.wide, Fence.inRound] at hd, fun c cs _ => let ⟨v, w2, r, s⟩ := h c cs; ⟨v, w2, r, stepsIn_wide.2 s⟩⟩
    | _ => exact h.elim

theorem oper_in {o : Oper} {a : Act} {w : World} {K : Act → World → Prop} {Q : Exit → Act → World → Prop} (hd : ∀ c, o.op ≠ .defer c) (h : o.wp P a w K Q) : o.wpIn (Fence.wide.inRound l) n P a w K Q := by
  refine ⟨fun _ _ => trivial, ?_⟩
  have e : (Fence.wide.inRound l).round = some l := rfl
  rw [e, Oper.semAt_some l a.eval o hd]
  exact upon_in h

theorem any_in {md : Region.Mode} {ops : Array Oper} {Q : Exit → Act → World → Prop} (hQ : ¬ LetsOut Q) (hd : ∀ (i : Nat) (o : Oper), ops[i]? = some o → ∀ c, o.op ≠ .defer c) :
    ∀ (fuel : Nat) (listed : Array Bool) (a : Act) (w : World), wpAny P md ops Q fuel listed a w → wpAnyIn (Fence.wide.inRound l) n P md ops Q fuel listed a w
  | 0, _, _, _, h => h
  | fuel + 1, listed, a, w, h => by
    refine ⟨h.1, fun i hi => ?_⟩
    have hop := h.2 i hi
    unfold wpOp at hop
    unfold wpOpIn
    cases ho : ops[i]? with
    | none => rw [ho] at hop; exact any_in hQ hd fuel _ _ _ hop
    | some o =>
      rw [ho] at hop
      dsimp only at hop ⊢
      split at hop
      · rename_i hw
        rw [if_pos hw]
        rcases hop with hop | hop
        · exact Oper.wpIn_mono (fun a' w' hk => any_in hQ hd fuel _ _ _ hk) (oper_in (hd i o ho) hop)
        · exact absurd hop.2 hQ
      · rename_i hw
        rw [if_neg hw]
        exact ⟨fun _ _ => trivial, any_in hQ hd fuel _ _ _ hop⟩

def noDefer (ops : List Oper) : Bool := ops.all fun o => match o.op with | .defer _ => false | _ => true
theorem noDefer_get {ops : List Oper} (h : noDefer ops = true) (i : Nat) (o : Oper) (hi : ops.toArray[i]? = some o) : ∀ c, o.op ≠ .defer c := by
  intro c hc
  have hm : o ∈ ops := List.mem_of_getElem? (by simpa using hi)
  have := List.all_eq_true.1 h o hm
  rw [hc] at this
  cases this

/-- All operations but the last ones only read, in whatever order; then the last ones, in theirs. -/
theorem round_tail {id : Nat} {Q : Exit → Act → World → Prop} {a : Act} {w : World} {ops : List Oper} (k : Nat) (hm : P.follows .mixedOrders = true) (hB : Region.lexTailB .any ops.toArray k = true) (hno : noDefer ops = true) (hQ : ¬ LetsOut Q)
    (h : wpStill P ops.toArray w.drew (fun a' => wpList P ops.toArray Q (ops.drop k) a' w.drew) (ops.take k) a) : (Code.region id ops.toArray true).wpIn (Fence.wide.inRound l) n P Q a w := by
  simp only [Region.lexTailB, Bool.and_eq_true, decide_eq_true_eq] at hB
  obtain ⟨⟨⟨⟨hsel, hk⟩, hs⟩, hc⟩, hlex⟩ := hB
  have h1 : (ops.take k).length = k := by simp at hk ⊢; omega
  have h2 : (ops.drop k).length = ops.toArray.size - k := by simp
  have inv0 : HeadInv .any ops.toArray k (Array.replicate ops.toArray.size false) :=
    ⟨by simp, fun j oj _ hl => (by rw [getD_replicate_false] at hl; cases hl), fun t _ ht => getD_in (by simpa using ht) (getD_replicate_false _ _)⟩
  have H := wpAnyL_lex (md := .any) (g := ops.toArray.size - k) hsel hs hc hk (ops.take k) 0 _ a (fun j hj => by
    rw [h1] at hj; simp [hj]) (by rw [h1]; omega) inv0 (by rw [h1]; exact hlex) h
  refine wpIn_region_any hm (any_in hQ (fun i o hi => noDefer_get hno i o hi) _ _ _ _ ?_)
  have G := wpAny_of_head (Q' := Q) (g := ops.toArray.size - k) (fun listed a' hL => by
    have g := wpAny_of_seq (md := .any) (Q' := Q) (ops.drop k) k listed a' w.drew (fun j => by simp [List.getElem?_drop]) (by rw [h2]; exact hL.1) hL.2
    rwa [h2] at g) _ _ _ H
  rw [h1, show k + (ops.toArray.size - k) = ops.toArray.size by omega] at G
  exact G

end
end Go.Proofs.Ytimkiifcmegfeaa
/- octet.Get, octet.Cut. -/
namespace Go.Proofs.Ytimkiifcmegfeaa
open Go.RowKit Go.Shelf
attribute [local go_sem] Oper.semAt_some

/-- The closure's contract. -/
theorem field1_stops (F : Fence) (m : Nat) (h8 : F.fn 70) (hro : F.round = none) (hm : 1 ≤ m) (Bn Bb Ba : Nat) (A : Option Addr) (len cap at_ n : Nat) (G : Nat → UInt8 → Prop)
    (hle : at_ + n ≤ len) (hlm : len ≤ 9223372036854775807) (w : World) (hI : FInv Bn Bb Ba A len cap at_ n G w) :
    SeqStopsK F m Try.prog 70 #[.pointer (some ⟨Bn, 0, none⟩), .pointer (some ⟨Bb, 0, none⟩), .pointer (some ⟨Ba, 0, none⟩)] (bpair (n := n))
      (fun W W' => FInv Bn Bb Ba A len cap at_ n G W → FInv Bn Bb Ba A len cap at_ n G W') (Came G n) (fun _ => True) n w := fun l J Jx W hW _ _ hY h0 => by
  have hI' : FInv Bn Bb Ba A len cap at_ n G W := hI.kept fun p v hp => hW.cell (by
    rcases Nat.lt_or_ge p.block w.heap.size with h | h
    · exact h
    · simp [World.cell?, Array.getElem?_eq_none h] at hp)
  exact field1_in F m h8 hro hm l Bn Bb Ba A len cap at_ n G hle hlm J Jx hY W hI' h0

theorem finv_t {Bn Bb Ba : Nat} {A : Option Addr} {len cap at_ n : Nat} {G : Nat → UInt8 → Prop} {X Y Z : World}
    (h : FInv Bn Bb Ba A len cap at_ n G X → FInv Bn Bb Ba A len cap at_ n G Y) (k : FInv Bn Bb Ba A len cap at_ n G Y → FInv Bn Bb Ba A len cap at_ n G Z) :
    FInv Bn Bb Ba A len cap at_ n G X → FInv Bn Bb Ba A len cap at_ n G Z := fun x => k (h x)
theorem finv_b {Bn Bb Ba : Nat} {A : Option Addr} {len cap at_ n : Nat} {G : Nat → UInt8 → Prop} (W : World) (l : Nat) (o o' : Obj) (h : W.heap[l]? = some o) (hc : o.isCells = false) :
    FInv Bn Bb Ba A len cap at_ n G W → FInv Bn Bb Ba A len cap at_ n G (W.putObj l o') := fun h0 => h0.kept fun p v hp => by
  rw [hp]
  exact cell_kept hp (grownBy_putObj' W l o') (fun r e => by cases e; exact ⟨o, h, hc⟩)

/-- What the bytes of a field come to. -/
def acc {n : Nat} (pre : List (BPair n)) : Nat := pre.foldl (fun s x => s ||| (x.1.2.toNat <<< (8 * x.1.1))) 0
theorem acc_snoc {n : Nat} (pre : List (BPair n)) (x : BPair n) : acc (pre ++ [x]) = acc pre ||| (x.1.2.toNat <<< (8 * x.1.1)) := by simp [acc]
theorem acc_lt {n : Nat} (hn : n ≤ 8) (pre : List (BPair n)) : acc pre < 2 ^ 64 := by
  suffices h : ∀ (l : List (BPair n)) (s : Nat), s < 2 ^ 64 → l.foldl (fun s x => s ||| (x.1.2.toNat <<< (8 * x.1.1))) s < 2 ^ 64 from h pre 0 (by decide)
  intro l
  induction l with
  | nil => intro s hs; exact hs
  | cons x l ih =>
    intro s hs
    refine ih _ (Nat.or_lt_two_pow hs ?_)
    rw [Nat.shiftLeft_eq]
    have h1 : x.1.2.toNat < 2 ^ 8 := x.1.2.toNat_lt
    have h2 : (2 : Nat) ^ (8 * x.1.1) ≤ 2 ^ 56 := Nat.pow_le_pow_right (by decide) (by have := x.2; omega)
    calc x.1.2.toNat * 2 ^ (8 * x.1.1) ≤ x.1.2.toNat * 2 ^ 56 := Nat.mul_le_mul_left _ h2
      _ < 2 ^ 8 * 2 ^ 56 := Nat.mul_lt_mul_of_pos_right h1 (by decide)
      _ = 2 ^ 64 := by decide

/-- A number as bytes, the lowest first. -/
def leN : List UInt8 → Nat
  | [] => 0
  | c :: r => c.toNat + 256 * leN r
theorem leN_snoc (l : List UInt8) (c : UInt8) : leN (l ++ [c]) = leN l + c.toNat * 256 ^ l.length := by
  induction l with
  | nil => simp [leN]
  | cons d l ih => simp only [List.cons_append, leN, ih, List.length_cons, Nat.pow_succ, Nat.mul_add]; rw [Nat.add_assoc]; congr 2; rw [Nat.mul_comm (256 ^ l.length) 256, ← Nat.mul_assoc, ← Nat.mul_assoc, Nat.mul_comm 256]
theorem leN_lt (l : List UInt8) : leN l < 256 ^ l.length := by
  induction l with
  | nil => simp [leN]
  | cons d l ih => simp only [leN, List.length_cons, Nat.pow_succ]; have := d.toNat_lt; omega
theorem acc_came {n : Nat} (bs : List UInt8) : ∀ (k : Nat) (ys : List (BPair n)), Came (fun k c => bs[k]? = some c) k ys → acc ys = leN (bs.take k) := by
  intro k
  induction k with
  | zero =>
    intro ys h
    have : ys = [] := by have := h.length; exact List.eq_nil_of_length_eq_zero this
    subst this; simp [acc, leN]
  | succ k ih =>
    intro ys h
    have h1 := h.1
    rw [List.range_succ] at h1
    obtain ⟨pre, last, rfl, hp, hl⟩ := List.map_eq_append_iff.1 h1
    obtain ⟨x, r, rfl, hx, hr⟩ := List.map_eq_cons_iff.1 hl
    have hr' : r = [] := List.map_eq_nil_iff.1 hr
    subst hr'
    have hG := h.2 x (by simp)
    rw [hx] at hG
    have ihp := ih pre ⟨hp, fun y hy => h.2 y (List.mem_append_left _ hy)⟩
    have hkl : k < bs.length := (List.getElem?_eq_some_iff.1 hG).1
    have hxe : bs[k] = x.1.2 := (List.getElem?_eq_some_iff.1 hG).2
    have hlen : (bs.take k).length = k := by simp; omega
    rw [acc_snoc, ihp, List.take_succ_eq_append_getElem hkl, leN_snoc, hlen, hx, hxe]
    have hlt := leN_lt (bs.take k)
    rw [hlen] at hlt
    have h256 : (256 : Nat) ^ k = 2 ^ (8 * k) := by rw [show (256 : Nat) = 2 ^ 8 by decide, ← Nat.pow_mul]
    rw [h256] at hlt ⊢
    rw [Nat.or_comm, ← Nat.shiftLeft_add_eq_or_of_lt hlt, Nat.shiftLeft_eq, Nat.add_comm]

theorem get_round {n i : Nat} {c : UInt8} {s : Nat} (hi : i < n) (hn : n ≤ 8) (hs : s < 2 ^ 64) :
    bits .or .u64 (s : Int) (IntKind.u64.wrap ((c.toNat : Int) * 2 ^ (8 * (i : Int)).toNat)) = ((s ||| (c.toNat <<< (8 * i)) : Nat) : Int) := by
  have h1 : c.toNat < 2 ^ 8 := c.toNat_lt
  have h2 : (2 : Nat) ^ (8 * i) ≤ 2 ^ 56 := Nat.pow_le_pow_right (by decide) (by omega)
  have h3 : c.toNat * 2 ^ (8 * i) < 2 ^ 64 := by
    calc c.toNat * 2 ^ (8 * i) ≤ c.toNat * 2 ^ 56 := Nat.mul_le_mul_left _ h2
      _ < 2 ^ 8 * 2 ^ 56 := Nat.mul_lt_mul_of_pos_right h1 (by decide)
      _ = 2 ^ 64 := by decide
  have e : ((c.toNat : Int) * 2 ^ (8 * (i : Int)).toNat) = ((c.toNat * 2 ^ (8 * i) : Nat) : Int) := by
    rw [show (8 * (i : Int)).toNat = 8 * i by omega]; push_cast; rfl
  rw [e, IntKind.wrap_u64, Nat.shiftLeft_eq, Int.emod_eq_of_lt (by omega) (by omega)]
  exact u64_or_nat _ _ (by omega) (by omega)

theorem sizeB_iff (n : Nat) : sizeB n = true ↔ n = 1 ∨ n = 2 ∨ n = 4 ∨ n = 8 := by
  simp [sizeB]; omega

theorem get_fin {w ws W : World} {b off len cap at_ n : Nat} {G : Nat → UInt8 → Prop} {pre : List (BPair n)} {x : BPair n} (hb : b < w.heap.size) (hn8 : n ≤ 8)
    (hc : W.cell? ⟨w.heap.size, 0, none⟩ = some (.int .u64 (acc pre : Int))) (hf : W.frozen? ⟨w.heap.size, 0, none⟩ = false) (hB : Below w.heap.size w W) :
    let W2 := (W.setCell ⟨w.heap.size, 0, none⟩ (.int .u64 (bits BinOp.or IntKind.u64 (acc pre : Int) (IntKind.u64.wrap ((x.1.2.toNat : Int) * 2 ^ (8 * (x.1.1 : Int)).toNat))))).drew
    KeepsFrom ws.heap.size W W2 ∧ (FInv (w.heap.size + 1 + 2) (w.heap.size + 1) (w.heap.size + 1 + 1) (some ⟨b, off, none⟩) len cap at_ n G W → FInv (w.heap.size + 1 + 2) (w.heap.size + 1) (w.heap.size + 1 + 1) (some ⟨b, off, none⟩) len cap at_ n G W2) ∧
    (W2.cell? ⟨w.heap.size, 0, none⟩ = some (.int .u64 (acc (pre ++ [x]) : Int)) ∧ W2.frozen? ⟨w.heap.size, 0, none⟩ = false) ∧ Below w.heap.size w W2 := by
  intro W2
  have hW2 : W2 = (W.setCell ⟨w.heap.size, 0, none⟩ (.int .u64 (acc (pre ++ [x]) : Int))).drew := by
    show (W.setCell _ _).drew = _
    rw [get_round x.2 hn8 (acc_lt hn8 pre), acc_snoc]
  rw [hW2]
  refine ⟨((KeepsOthers.setCell _ _ _).trans (KeepsOthers.drew _)).from _, fun h => h.far (X := w.heap.size) (by omega) (by omega) (by omega) (fun _ ad e => by cases e; simp; omega) (fun p hp => ?_), ⟨?_, ?_⟩, ?_⟩
  · exact World.cell?_setCell_other W _ p _ (fun e => hp (by rw [← e]))
  · exact World.cell?_setCell_same' _ _ _ (by rw [hc]; rfl)
  · show (W.setCell _ _).frozen? _ = false
    rw [World.frozen?_setCell]; exact hf
  · exact (hB.setCell (p := ⟨w.heap.size, 0, none⟩) (Nat.le_refl _) _).drew

set_option maxRecDepth 100000 in
set_option maxHeartbeats 1000000 in
theorem get_in (A : Option Addr) (len cap at_ n : Nat) (bs : List UInt8) (w : World) (hn : sizeB n = true) (hle : at_ + n ≤ len) (hlm : len ≤ 9223372036854775807)
    (hR : ∀ k, k < n → ∃ b off c, A = some ⟨b, off, none⟩ ∧ bs[k]? = some c ∧ w.cell? ⟨b, off + (at_ + k), none⟩ = some (.int .u8 (c.toNat : Int))) :
    Calls Try.prog 57 #[.slice A len cap, .int .i64 at_, .int .i64 n] w fun e W' => e = .returned (.tuple #[.int .u64 (leN (bs.take n) : Int), .int .i64 0]) ∧ Below w.heap.size w W' := by
  have hins : insideB len at_ n = true := by simp [insideB]; omega
  have hn8 : n ≤ 8 := by rcases (sizeB_iff n).1 hn with h | h | h | h <;> omega
  have hn1 : 0 < n := by rcases (sizeB_iff n).1 hn with h | h | h | h <;> omega
  obtain ⟨b, off, c0, rfl, _, hcell0⟩ := hR 0 hn1
  have hb : b < w.heap.size := by
    rcases Nat.lt_or_ge b w.heap.size with h | h
    · exact h
    · simp [World.cell?, Array.getElem?_eq_none h] at hcell0
  have hR' : ∀ k, k < n → ∃ c, bs[k]? = some c ∧ w.cell? ⟨b, off + (at_ + k), none⟩ = some (.int .u8 (c.toNat : Int)) := fun k hk => by
    obtain ⟨b', off', c, e, h1, h2⟩ := hR k hk
    cases e
    exact ⟨c, h1, h2⟩
  clear hR hcell0
  have HR := Lib.hid hR'
  clear hR'
  refine (callsIn_wide (n := 5)).1 ?_
  have hro : (Fence.wide).round = none := rfl
  refine callsIn_of_wp_marks Try.func57 rfl trivial ?_ hro
  simp only [Try.ntmps57, List.size_toArray, List.length_cons, List.length_nil, Nat.reduceAdd, Nat.reduceSub, Array.replicate_succ, Array.replicate_zero, List.push_toArray, List.append_toArray, List.nil_append, List.cons_append]
  gi_wp2_with (first
    | (refine ⟨trivial, ?_⟩; gi_at_call 54; refine (callsIn_wide.2 (isSize_any _ _)).mono ?_; rintro e w' ⟨rfl, rfl⟩)
    | (refine ⟨trivial, ?_⟩; gi_at_call 71; refine (callsIn_wide.2 (within_any _ _ _ _ _ _ (by unfold maxLen; omega) (by omega) (by omega))).mono ?_; rintro e w' ⟨rfl, rfl⟩)
    | (refine ⟨trivial, ?_⟩; gi_at_call 56; refine (callsIn_wide.2 (field_any _ _ _ _ _ _)).mono ?_; rintro e w' ⟨rfl, rfl⟩))
  obtain ⟨ws, hws⟩ : ∃ ws, ((((w.alloc (.cells #[.int .u64 0] 61)).alloc (.cells #[.slice (some ⟨b, off, none⟩) len cap] 26)).alloc (.cells #[.int .i64 (at_ : Int)] 3)).alloc (.cells #[.int .i64 (n : Int)] 3)) = ws := ⟨_, rfl⟩
  have bX : Boxed ws w.heap.size 61 (.int .u64 0) := by rw [← hws]; exact (((Boxed.new w _ _).alloc _).alloc _).alloc _
  have bB : Boxed ws (w.heap.size + 1) 26 (.slice (some ⟨b, off, none⟩) len cap) := by
    have := Boxed.new (w.alloc (.cells #[.int .u64 0] 61)) 26 (.slice (some ⟨b, off, none⟩) len cap)
    rw [World.size_alloc] at this
    rw [← hws]; exact (this.alloc _).alloc _
  have bA : Boxed ws (w.heap.size + 1 + 1) 3 (.int .i64 (at_ : Int)) := by
    have := Boxed.new ((w.alloc (.cells #[.int .u64 0] 61)).alloc (.cells #[.slice (some ⟨b, off, none⟩) len cap] 26)) 3 (.int .i64 (at_ : Int))
    rw [World.size_alloc, World.size_alloc] at this
    rw [← hws]; exact this.alloc _
  have bN : Boxed ws (w.heap.size + 1 + 2) 3 (.int .i64 (n : Int)) := by
    have := Boxed.new (((w.alloc (.cells #[.int .u64 0] 61)).alloc (.cells #[.slice (some ⟨b, off, none⟩) len cap] 26)).alloc (.cells #[.int .i64 (at_ : Int)] 3)) 3 (.int .i64 (n : Int))
    rw [World.size_alloc, World.size_alloc, World.size_alloc] at this
    rw [← hws]; exact this
  have hB0 : Below w.heap.size w ws := by
    rw [← hws]; exact ((((Below.refl _ w).alloc (Nat.le_refl _) _).alloc (by simp) _).alloc (by simp; omega) _).alloc (by simp; omega) _
  have hsz : w.heap.size + 4 ≤ ws.heap.size := by rw [← hws]; simp
  rw [hws]
  have hF0 : FInv (w.heap.size + 1 + 2) (w.heap.size + 1) (w.heap.size + 1 + 1) (some ⟨b, off, none⟩) len cap at_ n (fun k c => bs[k]? = some c) ws :=
    ⟨bN.cell, bB.cell, bA.cell, fun k hk => by
      obtain ⟨c, h1, h2⟩ := HR.out k hk
      exact ⟨b, off, c, rfl, h1, (hB0.cell (p := ⟨b, off + (at_ + k), none⟩) hb).trans h2⟩⟩
  refine wpIn_rangeFunc_ownG hro (by omega) (gf := 70) (lb := #[.pointer (some ⟨w.heap.size + 1 + 2, 0, none⟩), .pointer (some ⟨w.heap.size + 1, 0, none⟩), .pointer (some ⟨w.heap.size + 1 + 1, 0, none⟩)]) rfl trivial (enters_of Try.func70 (by kernel_rfl) rfl)
    (field1_stops Fence.wide 4 trivial hro (by omega) _ _ _ _ len cap at_ n _ hle hlm ws hF0) finv_t (fun W l o o' _ h hc _ => finv_b W l o o' h hc) (Below.refl _ _) (fun _ => rfl)
    (fun pre W => (W.cell? ⟨w.heap.size, 0, none⟩ = some (.int .u64 (acc pre : Int)) ∧ W.frozen? ⟨w.heap.size, 0, none⟩ = false) ∧ Below w.heap.size w W)
    (fun _ _ _ => False)
    (OwnFrom.and (Own.from (fun s A B row hs hg hr => ⟨cell_kept hs.1 hg hr, (frozen_kept hs.1 hg hr).trans hs.2⟩) _) (ownFrom_below (Nat.le_refl _) (by omega)))
    (fun _ _ _ _ _ hs _ _ => hs)
    ⟨⟨bX.cell, bX.frozen⟩, hB0⟩
    (fun x => { tmps := #[.slice (some ⟨b, off, none⟩) len cap, .int .i64 at_, .int .i64 n, undef, undef, undef, .int .u64 0, .int .i64 0, .pointer (some ⟨w.heap.size, 0, none⟩), .int .i64 (x.1.1 : Int), .int .u8 (x.1.2.toNat : Int), .int .i64 n, .bool true, .bool false, .bool false, .slice (some ⟨b, off, none⟩) len cap, .int .i64 at_, .int .i64 n, .bool true, .bool false, .bool false, .slice (some ⟨b, off, none⟩) len cap, .int .i64 at_, .int .i64 n, .func (.func 70) #[] #[.pointer (some ⟨w.heap.size + 1 + 2, 0, none⟩), .pointer (some ⟨w.heap.size + 1, 0, none⟩), .pointer (some ⟨w.heap.size + 1 + 1, 0, none⟩)], .int .i64 (x.1.1 : Int), .int .u8 (x.1.2.toNat : Int), undef, undef, undef, undef, undef, undef, undef, undef], defers := [] }) ?assign ?body ?done ?stop
  case assign =>
    intro l x W K hK
    dsimp only [bpair]
    gi_wp2
    exact hK
  case body =>
    rintro l pre ⟨⟨i, c⟩, hi⟩ W ⟨⟨hc, hf⟩, hB⟩ _
    dsimp only at hi
    gi_wp2
    have hcl : c.toNat < 256 := c.toNat_lt
    have f1 : IntKind.u64.wrap (c.toNat : Int) = c.toNat := IntWalk.u64_in _ (by omega)
    have f2 : IntKind.i64.wrap (8 * (i : Int)) = 8 * i := IntWalk.i64_in _ (by omega)
    have f3 : (0 : Int) ≤ 8 * (i : Int) := by omega
    have hs := acc_lt (n := n) hn8 pre
    have hlt : w.heap.size < W.heap.size := by have := hB.size; have : (W.cell? ⟨w.heap.size, 0, none⟩).isSome := by rw [hc]; rfl
                                               rcases Nat.lt_or_ge w.heap.size W.heap.size with h | h
                                               · exact h
                                               · simp [World.cell?, Array.getElem?_eq_none h] at hc
    have fin := get_fin (w := w) (ws := ws) (len := len) (cap := cap) (at_ := at_) (n := n) (G := fun k c => bs[k]? = some c) (pre := pre) (x := ⟨(i, c), hi⟩) (off := off) hb hn8 hc hf hB
    have FIN := Lib.hid fin
    clear fin
    refine round_tail 7 (by kernel_rfl) (by kernel_rfl) (by kernel_rfl) (fun ⟨_, _, h⟩ => h) ?_
    simp only [List.take_succ_cons, List.take_zero, List.drop_succ_cons, List.drop_zero]
    repeat still_step
    try refine wpStill_nil ?_
    go_wp2
    exact FIN.out
  case done =>
    rintro D ys W hD hS ⟨⟨hc, hf⟩, hB⟩ hK
    have hacc := acc_came bs n ys hS
    have HA := Lib.hid hacc
    clear hacc
    gi_wp2
    refine ⟨by simp, .inl ⟨_, _, rfl, run_takeDeferred hK, ?_⟩⟩
    exact ⟨_, results_tmp2 rfl _ _ _, by rw [← HA.out]; rfl, hB.trans (belowK_b (w := w) (Nat.le_refl _) W D _ _ (by omega) hK rfl rfl)⟩
  case stop =>
    rintro D c pre W _ _ h _
    exact h.elim

end Go.Proofs.Ytimkiifcmegfeaa
/- octet.Cut. -/
namespace Go.Proofs.Ytimkiifcmegfeaa
open Go.RowKit Go.Shelf
attribute [local go_sem] Oper.semAt_some

/-- The row when some bytes have been laid. -/
def laid {n : Nat} (m : Nat) (pre : List (BPair n)) : List Value := pre.foldl (fun L x => L.set x.1.1 (bv x.1.2)) (List.replicate m (bv 0))
theorem laid_snoc {n m : Nat} (pre : List (BPair n)) (x : BPair n) : laid m (pre ++ [x]) = (laid m pre).set x.1.1 (bv x.1.2) := by simp [laid]
theorem laid_length {n m : Nat} (pre : List (BPair n)) : (laid m pre).length = m := by
  suffices h : ∀ (l : List (BPair n)) (L : List Value), (l.foldl (fun L x => L.set x.1.1 (bv x.1.2)) L).length = L.length by
    unfold laid; rw [h]; simp
  intro l
  induction l with
  | nil => intro L; rfl
  | cons x l ih => intro L; simp only [List.foldl_cons]; rw [ih]; simp

theorem came_snoc_inv {n : Nat} {G : Nat → UInt8 → Prop} {k : Nat} {ys : List (BPair n)} (h : Came G (k + 1) ys) : ∃ pre x, ys = pre ++ [x] ∧ Came G k pre ∧ x.1.1 = k ∧ G k x.1.2 := by
  have h1 := h.1
  rw [List.range_succ] at h1
  obtain ⟨pre, last, rfl, hp, hl⟩ := List.map_eq_append_iff.1 h1
  obtain ⟨x, r, rfl, hx, hr⟩ := List.map_eq_cons_iff.1 hl
  have hr' : r = [] := List.map_eq_nil_iff.1 hr
  subst hr'
  have hG := h.2 x (by simp)
  exact ⟨pre, x, rfl, ⟨hp, fun y hy => h.2 y (List.mem_append_left _ hy)⟩, hx, by rw [← hx]; exact hG⟩

theorem laid_came {n : Nat} (bs : List UInt8) (m : Nat) : ∀ (k : Nat) (ys : List (BPair n)), k ≤ m → Came (fun k c => bs[k]? = some c) k ys → laid m ys = (bs.take k).map bv ++ List.replicate (m - k) (bv 0) := by
  intro k
  induction k with
  | zero =>
    intro ys _ h
    have : ys = [] := List.eq_nil_of_length_eq_zero h.length
    subst this; simp [laid]
  | succ k ih =>
    intro ys hm h
    obtain ⟨pre, x, rfl, hp, hx, hG⟩ := came_snoc_inv h
    have hkl : k < bs.length := (List.getElem?_eq_some_iff.1 hG).1
    have hxe : bs[k] = x.1.2 := (List.getElem?_eq_some_iff.1 hG).2
    rw [laid_snoc, ih pre (by omega) hp, hx, List.take_succ_eq_append_getElem hkl, hxe]
    have hl : ((bs.take k).map bv).length = k := by simp; omega
    obtain ⟨r, hr⟩ : ∃ r, m - k = r + 1 := ⟨m - k - 1, by omega⟩
    rw [hr, show m - (k + 1) = r by omega, List.set_append, hl, if_neg (Nat.lt_irrefl _), Nat.sub_self]
    simp [List.replicate_succ, List.set_cons_zero]

theorem cut_fin {w ws W : World} {A : Option Addr} {len cap at_ n : Nat} {G : Nat → UInt8 → Prop} {pre : List (BPair n)} {x : BPair n} {tb : TypeId} (hb : 0 < n → ∀ ad : Addr, A = some ad → ad.block < w.heap.size)
    (hR : Blk W w.heap.size tb (laid n pre).toArray) (bX : Boxed W (w.heap.size + 1) 26 (.slice (some ⟨w.heap.size, 0, none⟩) n n)) (hB : Below w.heap.size w W) :
    let W2 := W.setCell ⟨w.heap.size, x.1.1, none⟩ (.int .u8 (x.1.2.toNat : Int))
    KeepsFrom ws.heap.size W W2 ∧ (FInv (w.heap.size + 1 + 1 + 2) (w.heap.size + 1 + 1) (w.heap.size + 1 + 1 + 1) A len cap at_ n G W → FInv (w.heap.size + 1 + 1 + 2) (w.heap.size + 1 + 1) (w.heap.size + 1 + 1 + 1) A len cap at_ n G W2) ∧
    (Blk W2 w.heap.size tb (laid n (pre ++ [x])).toArray ∧ Boxed W2 (w.heap.size + 1) 26 (.slice (some ⟨w.heap.size, 0, none⟩) n n)) ∧ Below w.heap.size w W2 := by
  intro W2
  refine ⟨(KeepsOthers.setCell _ _ _).from _, fun h => h.far (X := w.heap.size) (by omega) (by omega) (by omega) (fun h0 ad e => by have := hb h0 ad e; omega) (fun p hp => ?_), ⟨?_, ?_⟩, ?_⟩
  · exact World.cell?_setCell_other W _ p _ (fun e => hp (by rw [← e]))
  · have := hR.set_ x.1.1 (bv x.1.2)
    rw [laid_snoc]
    rw [List.setIfInBounds_toArray] at this
    exact this
  · exact Blk.far (cs := #[_]) bX (p := ⟨w.heap.size, x.1.1, none⟩) (by simp) _
  · exact hB.setCell (p := ⟨w.heap.size, x.1.1, none⟩) (Nat.le_refl _) _

set_option maxRecDepth 100000 in
set_option maxHeartbeats 1000000 in
theorem cut_in (A : Option Addr) (len cap at_ n : Nat) (bs : List UInt8) (w : World) (hle : at_ + n ≤ len) (hlm : len ≤ 281474976710656) (hbl : bs.length = len) (hA : Bytes w A bs) :
    Calls Try.prog 58 #[.slice A len cap, .int .i64 at_, .int .i64 n] w fun e W' => e = .returned (.tuple #[.slice (some ⟨w.heap.size, 0, none⟩) n n, .bool true]) ∧
      Blk W' w.heap.size 5 (((bs.drop at_).take n).map bv).toArray ∧ Below w.heap.size w W' := by
  have hins : insideB len at_ n = true := by simp [insideB]; omega
  have hmk := run_mk8 n (by omega)
  refine (callsIn_wide (n := 5)).1 ?_
  have hro : (Fence.wide).round = none := rfl
  refine callsIn_of_wp_marks Try.func58 rfl trivial ?_ hro
  simp only [Try.ntmps58, List.size_toArray, List.length_cons, List.length_nil, Nat.reduceAdd, Nat.reduceSub, Array.replicate_succ, Array.replicate_zero, List.push_toArray, List.append_toArray, List.nil_append, List.cons_append]
  gi_wp2_with (first
    | (refine ⟨trivial, ?_⟩; gi_at_call 71; refine (callsIn_wide.2 (within_any _ _ _ _ _ _ (by unfold maxLen; omega) (by omega) (by omega))).mono ?_; rintro e w' ⟨rfl, rfl⟩)
    | (refine ⟨trivial, ?_⟩; gi_at_call 56; refine (callsIn_wide.2 (field_any _ _ _ _ _ _)).mono ?_; rintro e w' ⟨rfl, rfl⟩))
  obtain ⟨ws, hws⟩ : ∃ ws, (((((w.alloc (.cells (mk8 n) 5)).alloc (.cells #[.slice (some ⟨w.heap.size, 0, none⟩) n n] 26)).alloc (.cells #[.slice A len cap] 26)).alloc (.cells #[.int .i64 (at_ : Int)] 3)).alloc (.cells #[.int .i64 (n : Int)] 3)) = ws := ⟨_, rfl⟩
  have bR : Blk ws w.heap.size 5 (laid (n := n) n []).toArray := by
    have := Blk.new w 5 (mk8 n)
    rw [mk8_eq] at this
    rw [← hws, mk8_eq]; exact (((this.alloc _).alloc _).alloc _).alloc _
  have bX : Boxed ws (w.heap.size + 1) 26 (.slice (some ⟨w.heap.size, 0, none⟩) n n) := by
    have := Boxed.new (w.alloc (.cells (mk8 n) 5)) 26 (.slice (some ⟨w.heap.size, 0, none⟩) n n)
    rw [World.size_alloc] at this
    rw [← hws]; exact ((this.alloc _).alloc _).alloc _
  have bB : Boxed ws (w.heap.size + 1 + 1) 26 (.slice A len cap) := by
    have := Boxed.new ((w.alloc (.cells (mk8 n) 5)).alloc (.cells #[.slice (some ⟨w.heap.size, 0, none⟩) n n] 26)) 26 (.slice A len cap)
    rw [World.size_alloc, World.size_alloc] at this
    rw [← hws]; exact (this.alloc _).alloc _
  have bA : Boxed ws (w.heap.size + 1 + 1 + 1) 3 (.int .i64 (at_ : Int)) := by
    have := Boxed.new (((w.alloc (.cells (mk8 n) 5)).alloc (.cells #[.slice (some ⟨w.heap.size, 0, none⟩) n n] 26)).alloc (.cells #[.slice A len cap] 26)) 3 (.int .i64 (at_ : Int))
    rw [World.size_alloc, World.size_alloc, World.size_alloc] at this
    rw [← hws]; exact this.alloc _
  have bN : Boxed ws (w.heap.size + 1 + 1 + 2) 3 (.int .i64 (n : Int)) := by
    have := Boxed.new ((((w.alloc (.cells (mk8 n) 5)).alloc (.cells #[.slice (some ⟨w.heap.size, 0, none⟩) n n] 26)).alloc (.cells #[.slice A len cap] 26)).alloc (.cells #[.int .i64 (at_ : Int)] 3)) 3 (.int .i64 (n : Int))
    rw [World.size_alloc, World.size_alloc, World.size_alloc, World.size_alloc] at this
    rw [← hws]; exact this
  have hB0 : Below w.heap.size w ws := by
    rw [← hws]; exact (((((Below.refl _ w).alloc (Nat.le_refl _) _).alloc (by simp) _).alloc (by simp; omega) _).alloc (by simp; omega) _).alloc (by simp; omega) _
  have hsz : w.heap.size + 5 ≤ ws.heap.size := by rw [← hws]; simp
  rw [hws]
  clear hws hmk
  have hbs : ∀ k, k < n → ∃ c, ((bs.drop at_).take n)[k]? = some c ∧ bs[at_ + k]? = some c := fun k hk => by
    have h1 : at_ + k < bs.length := by omega
    exact ⟨bs[at_ + k], by rw [List.getElem?_take_of_lt hk, List.getElem?_drop]; exact List.getElem?_eq_getElem h1, List.getElem?_eq_getElem h1⟩
  have hF0 : FInv (w.heap.size + 1 + 1 + 2) (w.heap.size + 1 + 1) (w.heap.size + 1 + 1 + 1) A len cap at_ n (fun k c => ((bs.drop at_).take n)[k]? = some c) ws :=
    ⟨bN.cell, bB.cell, bA.cell, fun k hk => by
      obtain ⟨c, h1, h2⟩ := hbs k hk
      obtain ⟨b, off, e, hb, hc⟩ := hA _ _ h2
      exact ⟨b, off, c, e, h1, (hB0.cell (p := ⟨b, off + (at_ + k), none⟩) hb).trans hc⟩⟩
  have hAb : 0 < n → ∀ ad : Addr, A = some ad → ad.block < w.heap.size := fun h0 ad e => by
    obtain ⟨c, h1, h2⟩ := hbs 0 h0
    obtain ⟨b, off, e', hb, hc⟩ := hA _ _ h2
    rw [e] at e'; cases e'; exact hb
  have HL := Lib.hid (laid_came (n := n) ((bs.drop at_).take n) n n)
  have HA := Lib.hid hAb
  clear hbs hAb
  refine wpIn_rangeFunc_ownG hro (by omega) (gf := 70) (lb := #[.pointer (some ⟨w.heap.size + 1 + 1 + 2, 0, none⟩), .pointer (some ⟨w.heap.size + 1 + 1, 0, none⟩), .pointer (some ⟨w.heap.size + 1 + 1 + 1, 0, none⟩)]) rfl trivial (enters_of Try.func70 (by kernel_rfl) rfl)
    (field1_stops Fence.wide 4 trivial hro (by omega) _ _ _ _ len cap at_ n _ hle (by omega) ws hF0) finv_t (fun W l o o' _ h hc _ => finv_b W l o o' h hc) (Below.refl _ _) (fun _ => rfl)
    (fun pre W => (Blk W w.heap.size 5 (laid n pre).toArray ∧ Boxed W (w.heap.size + 1) 26 (.slice (some ⟨w.heap.size, 0, none⟩) n n)) ∧ Below w.heap.size w W)
    (fun _ _ _ => False)
    (OwnFrom.and (Own.from (fun s A B row hs hg hr => ⟨hs.1.kept hg hr, Blk.kept (cs := #[_]) hs.2 hg hr⟩) _) (ownFrom_below (Nat.le_refl _) (by omega)))
    (fun _ _ _ _ _ hs _ _ => hs)
    ⟨⟨bR, bX⟩, hB0⟩
    (fun x => { tmps := #[.slice A len cap, .int .i64 at_, .int .i64 n, undef, undef, undef, .slice none 0 0, .bool false, .pointer (some ⟨w.heap.size + 1, 0, none⟩), .int .i64 (x.1.1 : Int), .int .u8 (x.1.2.toNat : Int), .slice A len cap, .int .i64 at_, .int .i64 n, .bool true, .bool false, .int .i64 n, .slice (some ⟨w.heap.size, 0, none⟩) n n, .slice A len cap, .int .i64 at_, .int .i64 n, .func (.func 70) #[] #[.pointer (some ⟨w.heap.size + 1 + 1 + 2, 0, none⟩), .pointer (some ⟨w.heap.size + 1 + 1, 0, none⟩), .pointer (some ⟨w.heap.size + 1 + 1 + 1, 0, none⟩)], .int .i64 (x.1.1 : Int), .int .u8 (x.1.2.toNat : Int), undef, undef, undef, undef, undef], defers := [] }) ?assign ?body ?done ?stop
  case assign =>
    intro l x W K hK
    dsimp only [bpair]
    gi_wp2
    exact hK
  case body =>
    rintro l pre ⟨⟨i, c⟩, hi⟩ W ⟨⟨hR, hX⟩, hB⟩ _
    dsimp only at hi
    have hxc := hX.cell
    have hl := laid_length (m := n) pre
    obtain ⟨u, hu⟩ : ∃ u, (laid n pre)[i]? = some u := ⟨_, List.getElem?_eq_getElem (by omega)⟩
    have hcell : W.cell? ⟨w.heap.size, i, none⟩ = some u := by rw [hR.cell]; simpa using hu
    have hfz := hR.frozen i
    have FIN := Lib.hid (cut_fin (ws := ws) (A := A) (len := len) (cap := cap) (at_ := at_) (n := n) (G := fun k c => ((bs.drop at_).take n)[k]? = some c) (pre := pre) (x := ⟨(i, c), hi⟩) HA.out hR hX hB)
    clear hl hu hR
    gi_wp2
    exact FIN.out
  case done =>
    rintro D ys W hD hS ⟨⟨hR, hX⟩, hB⟩ hK
    have hxc := hX.cell
    have hlt : ((bs.drop at_).take n).length = n := by simp; omega
    have hfin : Blk W w.heap.size 5 (((bs.drop at_).take n).map bv).toArray := by
      have e := HL.out ys (Nat.le_refl _) hS
      rw [e, Nat.sub_self, List.replicate_zero, List.append_nil, List.take_of_length_le (by omega)] at hR
      exact hR
    clear hlt
    gi_wp2
    refine ⟨by simp, .inl ⟨_, _, rfl, run_takeDeferred hK, ?_⟩⟩
    exact ⟨_, results_tmp2 rfl _ _ _, rfl, hfin.putObj _ hK rfl, hB.trans (belowK_b (w := w) (Nat.le_refl _) W D _ _ (by omega) hK rfl rfl)⟩
  case stop =>
    rintro D c pre W _ _ h _
    exact h.elim

end Go.Proofs.Ytimkiifcmegfeaa
/- octet.Put, of a size that there is. -/
namespace Go.Proofs.Ytimkiifcmegfeaa
open Go.RowKit Go.Shelf
attribute [local go_sem] Oper.semAt_some

/-- A number as so many bytes, the lowest first. -/
def lePut (x : Nat) : Nat → List UInt8
  | 0 => []
  | n + 1 => UInt8.ofNat x :: lePut (x / 256) n

/-- The row when some bytes have been put. -/
def putRow {n : Nat} (bs : List UInt8) (x : Nat) (pre : List (BPair n)) : List Value := pre.foldl (fun L y => L.set (bs.length + y.1.1) (bv (UInt8.ofNat (x / 2 ^ (8 * y.1.1))))) (bs.map bv ++ List.replicate n (bv 0))
theorem putRow_snoc {n : Nat} (bs : List UInt8) (x : Nat) (pre : List (BPair n)) (y : BPair n) : putRow bs x (pre ++ [y]) = (putRow bs x pre).set (bs.length + y.1.1) (bv (UInt8.ofNat (x / 2 ^ (8 * y.1.1)))) := by simp [putRow]
theorem putRow_length {n : Nat} (bs : List UInt8) (x : Nat) (pre : List (BPair n)) : (putRow bs x pre).length = bs.length + n := by
  suffices h : ∀ (l : List (BPair n)) (L : List Value), (l.foldl (fun L y => L.set (bs.length + y.1.1) (bv (UInt8.ofNat (x / 2 ^ (8 * y.1.1))))) L).length = L.length by
    unfold putRow; rw [h]; simp
  intro l
  induction l with
  | nil => intro L; rfl
  | cons y l ih => intro L; simp only [List.foldl_cons]; rw [ih]; simp

theorem lePut_length (x n : Nat) : (lePut x n).length = n := by
  induction n generalizing x with
  | zero => rfl
  | succ n ih => simp [lePut, ih]
theorem lePut_get (x : Nat) : ∀ (n k : Nat), k < n → (lePut x n)[k]? = some (UInt8.ofNat (x / 2 ^ (8 * k))) := by
  intro n
  induction n generalizing x with
  | zero => intro k h; omega
  | succ n ih =>
    intro k h
    cases k with
    | zero => simp [lePut]
    | succ k =>
      simp only [lePut, List.getElem?_cons_succ]
      rw [ih (x / 256) k (by omega), Nat.div_div_eq_div_mul, show (256 : Nat) = 2 ^ 8 by decide, ← Nat.pow_add, show 8 + 8 * k = 8 * (k + 1) by omega]

theorem putRow_came {n : Nat} (bs : List UInt8) (x : Nat) : ∀ (k : Nat) (ys : List (BPair n)), k ≤ n → Came (fun _ _ => True) k ys → putRow bs x ys = (bs ++ (lePut x n).take k).map bv ++ List.replicate (n - k) (bv 0) := by
  intro k
  induction k with
  | zero =>
    intro ys _ h
    have : ys = [] := List.eq_nil_of_length_eq_zero h.length
    subst this; simp [putRow]
  | succ k ih =>
    intro ys hk h
    obtain ⟨pre, y, rfl, hp, hy, _⟩ := came_snoc_inv h
    have hkl : k < (lePut x n).length := by rw [lePut_length]; omega
    have hg := lePut_get x n k (by omega)
    have hke : (lePut x n)[k] = UInt8.ofNat (x / 2 ^ (8 * k)) := by
      rw [List.getElem?_eq_getElem hkl] at hg; exact Option.some.inj hg
    rw [putRow_snoc, ih pre (by omega) hp, hy, List.take_succ_eq_append_getElem hkl, hke]
    have hl : ((bs ++ (lePut x n).take k).map bv).length = bs.length + k := by simp; rw [lePut_length]; omega
    obtain ⟨r, hr⟩ : ∃ r, n - k = r + 1 := ⟨n - k - 1, by omega⟩
    rw [hr, show n - (k + 1) = r by omega, List.set_append, hl, if_neg (Nat.lt_irrefl _), Nat.sub_self]
    simp [List.replicate_succ, List.set_cons_zero]

theorem put_byte (x i : Nat) : ((x : Int) / 2 ^ (8 * i) % 256) = ((UInt8.ofNat (x / 2 ^ (8 * i))).toNat : Int) := by
  rw [UInt8.toNat_ofNat']
  have e : ((x : Int) / 2 ^ (8 * i)) = ((x / 2 ^ (8 * i) : Nat) : Int) := by rw [Int.natCast_ediv, Int.natCast_pow]; rfl
  rw [e, Int.natCast_emod]
  rfl

theorem put_fin {w w1 ws W : World} {A : Option Addr} {cap n x : Nat} {bs : List UInt8} {pre : List (BPair n)} {y : BPair n} (h4 : w.heap.size + 4 ≤ w1.heap.size)
    (hR : Blk W (w.heap.size + 1 + 1) 5 (putRow bs x pre).toArray) (hB' : Boxed W w.heap.size 26 (.slice A bs.length cap)) (hX' : Boxed W (w.heap.size + 1) 61 (.int .u64 (x : Int)))
    (hL' : Boxed W (w.heap.size + 1 + 1 + 1) 26 (.slice (some ⟨w.heap.size + 1 + 1, 0, none⟩) (bs.length + n) (bs.length + n))) (hB : Below w.heap.size w W) :
    let W2 := (W.setCell ⟨w.heap.size + 1 + 1, bs.length + y.1.1, none⟩ (.int .u8 ((x : Int) / 2 ^ (8 * y.1.1) % 256))).drew
    KeepsFrom ws.heap.size W W2 ∧
    (FInv (w1.heap.size + 2) w1.heap.size (w1.heap.size + 1) (some ⟨w.heap.size + 1 + 1, 0, none⟩) (bs.length + n) (bs.length + n) bs.length n (fun _ _ => True) W →
      FInv (w1.heap.size + 2) w1.heap.size (w1.heap.size + 1) (some ⟨w.heap.size + 1 + 1, 0, none⟩) (bs.length + n) (bs.length + n) bs.length n (fun _ _ => True) W2) ∧
    (Blk W2 (w.heap.size + 1 + 1) 5 (putRow bs x (pre ++ [y])).toArray ∧ Boxed W2 w.heap.size 26 (.slice A bs.length cap) ∧ Boxed W2 (w.heap.size + 1) 61 (.int .u64 (x : Int)) ∧
      Boxed W2 (w.heap.size + 1 + 1 + 1) 26 (.slice (some ⟨w.heap.size + 1 + 1, 0, none⟩) (bs.length + n) (bs.length + n))) ∧ Below w.heap.size w W2 := by
  intro W2
  have hW2 : W2 = (W.setCell ⟨w.heap.size + 1 + 1, bs.length + y.1.1, none⟩ (bv (UInt8.ofNat (x / 2 ^ (8 * y.1.1))))).drew := by
    show (W.setCell _ _).drew = _
    rw [put_byte]; rfl
  have hother : ∀ p : Addr, p ≠ ⟨w.heap.size + 1 + 1, bs.length + y.1.1, none⟩ → W2.cell? p = W.cell? p := fun p hp => by
    rw [hW2]; exact World.cell?_setCell_other W _ p _ (fun e => hp e.symm)
  have hR2 : Blk W2 (w.heap.size + 1 + 1) 5 (putRow bs x (pre ++ [y])).toArray := by
    have := hR.set_ (bs.length + y.1.1) (bv (UInt8.ofNat (x / 2 ^ (8 * y.1.1))))
    rw [List.setIfInBounds_toArray, ← putRow_snoc] at this
    rw [hW2]; exact this
  refine ⟨?_, fun h => ⟨(hother _ (by simp <;> omega)).trans h.bn, (hother _ (by simp <;> omega)).trans h.bb, (hother _ (by simp <;> omega)).trans h.ba, fun k hk => ?_⟩, ⟨hR2, ?_, ?_, ?_⟩, ?_⟩
  · rw [hW2]; exact ((KeepsOthers.setCell _ _ _).trans (KeepsOthers.drew _)).from _
  · have hl := putRow_length (n := n) bs x (pre ++ [y])
    by_cases hki : k = y.1.1
    · subst hki
      refine ⟨_, _, UInt8.ofNat (x / 2 ^ (8 * y.1.1)), rfl, trivial, ?_⟩
      rw [Nat.zero_add, hR2.cell, putRow_snoc]
      have hl' := putRow_length (n := n) bs x pre
      simp [hl', y.2, bv]
    · obtain ⟨b, off, c, e, g, hc⟩ := h.by_ k hk
      cases e
      exact ⟨_, _, c, rfl, trivial, (hother ⟨w.heap.size + 1 + 1, 0 + (bs.length + k), none⟩ (by simp <;> omega)).trans hc⟩
  · rw [hW2]; exact Blk.far (cs := #[_]) hB' (p := ⟨w.heap.size + 1 + 1, bs.length + y.1.1, none⟩) (by simp <;> omega) _
  · rw [hW2]; exact Blk.far (cs := #[_]) hX' (p := ⟨w.heap.size + 1 + 1, bs.length + y.1.1, none⟩) (by simp) _
  · rw [hW2]; exact Blk.far (cs := #[_]) hL' (p := ⟨w.heap.size + 1 + 1, bs.length + y.1.1, none⟩) (by simp) _
  · rw [hW2]; exact (hB.setCell (p := ⟨w.heap.size + 1 + 1, bs.length + y.1.1, none⟩) (by simp <;> omega) _).drew

set_option maxRecDepth 100000 in
set_option maxHeartbeats 1000000 in
theorem put_in (A : Option Addr) (cap n x : Nat) (bs : List UInt8) (w : World) (hn : sizeB n = true) (hlm : bs.length ≤ 140737488355328) (hA : Bytes w A bs) :
    Calls Try.prog 27 #[.slice A bs.length cap, .int .u64 x, .int .i64 n] w fun e W' => e = .returned (.slice (some ⟨w.heap.size + 2, 0, none⟩) (bs.length + n) (bs.length + n)) ∧
      Blk W' (w.heap.size + 2) 5 ((bs ++ lePut x n).map bv).toArray ∧ Below w.heap.size w W' := by
  have hn8 : n ≤ 8 := by rcases (sizeB_iff n).1 hn with h | h | h | h <;> omega
  have hmk := run_mk8 (bs.length + n) (by omega)
  have e0 : (((bs.length + n : Nat) : Int)) = (bs.length : Int) + (n : Int) := by omega
  rw [e0] at hmk
  obtain ⟨wc, hwc⟩ : ∃ wc, (((w.alloc (.cells #[.slice A bs.length cap] 26)).alloc (.cells #[.int .u64 (x : Int)] 61)).alloc (.cells (mk8 (bs.length + n)) 5)).alloc (.cells #[.slice (some ⟨w.heap.size + 1 + 1, 0, none⟩) (bs.length + n) (bs.length + n)] 26) = wc := ⟨_, rfl⟩
  have cB : Boxed wc w.heap.size 26 (.slice A bs.length cap) := by rw [← hwc]; exact (((Boxed.new w _ _).alloc _).alloc _).alloc _
  have cX : Boxed wc (w.heap.size + 1) 61 (.int .u64 (x : Int)) := by
    have := Boxed.new (w.alloc (.cells #[.slice A bs.length cap] 26)) 61 (.int .u64 (x : Int))
    rw [World.size_alloc] at this
    rw [← hwc]; exact (this.alloc _).alloc _
  have cR : Blk wc (w.heap.size + 1 + 1) 5 (List.replicate (bs.length + n) (bv 0)).toArray := by
    have := Blk.new ((w.alloc (.cells #[.slice A bs.length cap] 26)).alloc (.cells #[.int .u64 (x : Int)] 61)) 5 (mk8 (bs.length + n))
    rw [World.size_alloc, World.size_alloc] at this
    rw [← hwc, ← mk8_eq]; exact this.alloc _
  have cL : Boxed wc (w.heap.size + 1 + 1 + 1) 26 (.slice (some ⟨w.heap.size + 1 + 1, 0, none⟩) (bs.length + n) (bs.length + n)) := by
    have := Boxed.new (((w.alloc (.cells #[.slice A bs.length cap] 26)).alloc (.cells #[.int .u64 (x : Int)] 61)).alloc (.cells (mk8 (bs.length + n)) 5)) 26 (.slice (some ⟨w.heap.size + 1 + 1, 0, none⟩) (bs.length + n) (bs.length + n))
    rw [World.size_alloc, World.size_alloc, World.size_alloc] at this
    rw [← hwc]; exact this
  have cW : Below w.heap.size w wc := by
    rw [← hwc]; exact ((((Below.refl _ w).alloc (Nat.le_refl _) _).alloc (by simp) _).alloc (by simp; omega) _).alloc (by simp; omega) _
  have csz : wc.heap.size = w.heap.size + 4 := by rw [← hwc]; simp
  obtain ⟨w1, hcp, hR1, hg1, hs1⟩ := run_copy8 wc 3 (w.heap.size + 1 + 1) (bs.length + n) (bs.length + n) A cap bs _ (hA.below cW) cR (by omega) (by simp)
  have dB := Blk.grown (cs := #[_]) cB hg1 (by simp; omega)
  have dX := Blk.grown (cs := #[_]) cX hg1 (by simp)
  have dL := Blk.grown (cs := #[_]) cL hg1 (by simp)
  have hB1 : Below w.heap.size w w1 := cW.grown hg1 (by omega) (fun k e => by cases e; omega)
  have hsz1 : w.heap.size + 4 ≤ w1.heap.size := by omega
  have fB : w1.cell? ⟨w.heap.size, 0, none⟩ = some (.slice A bs.length cap) := dB.cell 0
  have fX : w1.cell? ⟨w.heap.size + 1, 0, none⟩ = some (.int .u64 (x : Int)) := dX.cell 0
  have fL : w1.cell? ⟨w.heap.size + 1 + 1 + 1, 0, none⟩ = some (.slice (some ⟨w.heap.size + 1 + 1, 0, none⟩) (bs.length + n) (bs.length + n)) := dL.cell 0
  have DB := Lib.hid dB
  have DX := Lib.hid dX
  have DL := Lib.hid dL
  have DR := Lib.hid hR1
  have HB1 := Lib.hid hB1
  simp only [goInt] at hcp
  rw [← hwc] at hcp
  clear dB dX dL hR1 hB1 cB cX cR cL cW csz hs1 hg1 hwc
  refine (callsIn_wide (n := 5)).1 ?_
  have hro : (Fence.wide).round = none := rfl
  refine callsIn_of_wp_marks Try.func27 rfl trivial ?_ hro
  simp only [Try.ntmps27, List.size_toArray, List.length_cons, List.length_nil, Nat.reduceAdd, Nat.reduceSub, Array.replicate_succ, Array.replicate_zero, List.push_toArray, List.append_toArray, List.nil_append, List.cons_append]
  gi_wp2_with (first
    | (refine ⟨trivial, ?_⟩; gi_at_call 54; refine (callsIn_wide.2 (isSize_any _ _)).mono ?_; rintro e w' ⟨rfl, rfl⟩)
    | (refine ⟨trivial, ?_⟩; gi_at_call 56; refine (callsIn_wide.2 (field_any _ _ _ _ _ _)).mono ?_; rintro e w' ⟨rfl, rfl⟩))
  obtain ⟨ws, hws⟩ : ∃ ws, (((w1.alloc (.cells #[.slice (some ⟨w.heap.size + 1 + 1, 0, none⟩) (bs.length + n) (bs.length + n)] 26)).alloc (.cells #[.int .i64 (bs.length : Int)] 3)).alloc (.cells #[.int .i64 (n : Int)] 3)) = ws := ⟨_, rfl⟩
  have bB : Boxed ws w1.heap.size 26 (.slice (some ⟨w.heap.size + 1 + 1, 0, none⟩) (bs.length + n) (bs.length + n)) := by
    rw [← hws]; exact ((Boxed.new w1 _ _).alloc _).alloc _
  have bA : Boxed ws (w1.heap.size + 1) 3 (.int .i64 (bs.length : Int)) := by
    have := Boxed.new (w1.alloc (.cells #[.slice (some ⟨w.heap.size + 1 + 1, 0, none⟩) (bs.length + n) (bs.length + n)] 26)) 3 (.int .i64 (bs.length : Int))
    rw [World.size_alloc] at this
    rw [← hws]; exact this.alloc _
  have bN : Boxed ws (w1.heap.size + 2) 3 (.int .i64 (n : Int)) := by
    have := Boxed.new ((w1.alloc (.cells #[.slice (some ⟨w.heap.size + 1 + 1, 0, none⟩) (bs.length + n) (bs.length + n)] 26)).alloc (.cells #[.int .i64 (bs.length : Int)] 3)) 3 (.int .i64 (n : Int))
    rw [World.size_alloc, World.size_alloc] at this
    rw [← hws]; exact this
  have hk1 : Below w1.heap.size w1 ws := by
    rw [← hws]; exact (((Below.refl _ w1).alloc (Nat.le_refl _) _).alloc (by simp) _).alloc (by simp; omega) _
  have hB0 : Below w.heap.size w ws := HB1.out.trans (hk1.mono (by omega))
  have hsz : w1.heap.size + 3 ≤ ws.heap.size := by rw [← hws]; simp
  rw [hws]
  clear hws hmk hcp
  have eB : Boxed ws w.heap.size 26 (.slice A bs.length cap) := Blk.below (cs := #[_]) DB.out hk1 (by omega)
  have eX : Boxed ws (w.heap.size + 1) 61 (.int .u64 (x : Int)) := Blk.below (cs := #[_]) DX.out hk1 (by omega)
  have eL : Boxed ws (w.heap.size + 1 + 1 + 1) 26 (.slice (some ⟨w.heap.size + 1 + 1, 0, none⟩) (bs.length + n) (bs.length + n)) := Blk.below (cs := #[_]) DL.out hk1 (by omega)
  have eR : Blk ws (w.heap.size + 1 + 1) 5 (putRow (n := n) bs x []).toArray := by
    have := Blk.below DR.out hk1 (by omega)
    simpa [putRow] using this
  have hF0 : FInv (w1.heap.size + 2) w1.heap.size (w1.heap.size + 1) (some ⟨w.heap.size + 1 + 1, 0, none⟩) (bs.length + n) (bs.length + n) bs.length n (fun _ _ => True) ws :=
    ⟨bN.cell, bB.cell, bA.cell, fun k hk => ⟨w.heap.size + 1 + 1, 0, 0, rfl, trivial, by
      rw [Nat.zero_add, eR.cell]; simp [putRow]; rw [List.getElem?_append_right (by simp)]; simp [hk, bv]⟩⟩
  have HL := Lib.hid (putRow_came (n := n) bs x n)
  refine wpIn_rangeFunc_ownG hro (by omega) (gf := 70) (lb := #[.pointer (some ⟨w1.heap.size + 2, 0, none⟩), .pointer (some ⟨w1.heap.size, 0, none⟩), .pointer (some ⟨w1.heap.size + 1, 0, none⟩)]) rfl trivial (enters_of Try.func70 (by kernel_rfl) rfl)
    (field1_stops Fence.wide 4 trivial hro (by omega) _ _ _ _ (bs.length + n) (bs.length + n) bs.length n _ (Nat.le_refl _) (by omega) ws hF0) finv_t (fun W l o o' _ h hc _ => finv_b W l o o' h hc) (Below.refl _ _) (fun _ => rfl)
    (fun pre W => (Blk W (w.heap.size + 1 + 1) 5 (putRow bs x pre).toArray ∧ Boxed W w.heap.size 26 (.slice A bs.length cap) ∧ Boxed W (w.heap.size + 1) 61 (.int .u64 (x : Int)) ∧ Boxed W (w.heap.size + 1 + 1 + 1) 26 (.slice (some ⟨w.heap.size + 1 + 1, 0, none⟩) (bs.length + n) (bs.length + n))) ∧ Below w.heap.size w W)
    (fun _ _ _ => False)
    (OwnFrom.and (Own.from (fun s A B row hs hg hr => ⟨hs.1.kept hg hr, Blk.kept (cs := #[_]) hs.2.1 hg hr, Blk.kept (cs := #[_]) hs.2.2.1 hg hr, Blk.kept (cs := #[_]) hs.2.2.2 hg hr⟩) _) (ownFrom_below (Nat.le_refl _) (by omega)))
    (fun _ _ _ _ _ hs _ _ => hs)
    ⟨⟨eR, eB, eX, eL⟩, hB0⟩
    (fun y => { tmps := #[.slice A bs.length cap, .int .u64 x, .int .i64 n, .pointer (some ⟨w.heap.size, 0, none⟩), .pointer (some ⟨w.heap.size + 1, 0, none⟩), undef, .slice none 0 0, .pointer (some ⟨w.heap.size + 1 + 1 + 1, 0, none⟩), .int .i64 (y.1.1 : Int), .int .i64 n, .bool true, .bool false, undef, undef, .slice A bs.length cap, .int .i64 bs.length, .int .i64 n, .int .i64 (bs.length + n), .slice (some ⟨w.heap.size + 1 + 1, 0, none⟩) (bs.length + n) (bs.length + n), .slice (some ⟨w.heap.size + 1 + 1, 0, none⟩) (bs.length + n) (bs.length + n), .slice A bs.length cap, .int .i64 bs.length, .slice (some ⟨w.heap.size + 1 + 1, 0, none⟩) (bs.length + n) (bs.length + n), .slice A bs.length cap, .int .i64 bs.length, .int .i64 n, .func (.func 70) #[] #[.pointer (some ⟨w1.heap.size + 2, 0, none⟩), .pointer (some ⟨w1.heap.size, 0, none⟩), .pointer (some ⟨w1.heap.size + 1, 0, none⟩)], .int .i64 (y.1.1 : Int), .int .u8 (y.1.2.toNat : Int), undef, undef, undef, undef, undef, undef, undef, undef, undef, undef, undef, undef], defers := [] }) ?assign ?body ?done ?stop
  case assign =>
    intro l x W K hK
    dsimp only [bpair]
    gi_wp2
    exact hK
  case body =>
    rintro l pre ⟨⟨i, c⟩, hi⟩ W ⟨⟨hR, hB', hX', hL'⟩, hB⟩ _
    dsimp only at hi
    have g1 := hB'.cell
    have g2 := hX'.cell
    have g3 := hL'.cell
    have hl := putRow_length (n := n) bs x pre
    obtain ⟨u, hu⟩ : ∃ u, (putRow bs x pre)[bs.length + i]? = some u := ⟨_, List.getElem?_eq_getElem (by omega)⟩
    have hcell : W.cell? ⟨w.heap.size + 1 + 1, bs.length + i, none⟩ = some u := by rw [hR.cell]; simpa using hu
    have hfz := hR.frozen (bs.length + i)
    clear hl hu
    have FIN := Lib.hid (put_fin (ws := ws) (y := ⟨(i, c), hi⟩) hsz1 hR hB' hX' hL' hB)
    clear hR
    have hw8 : IntKind.i64.wrap (8 * (i : Int)) = 8 * i := IntWalk.i64_in _ (by omega)
    have hw9 : IntKind.i64.wrap ((bs.length : Int) + (i : Int)) = (bs.length : Int) + i := IntWalk.i64_in _ (by omega)
    have f3 : (0 : Int) ≤ 8 * (i : Int) := by omega
    have f4 : (0 : Int) ≤ (bs.length : Int) + (i : Int) := by omega
    have f5 : ((bs.length : Int) + (i : Int)).toNat = bs.length + i := by omega
    have f6 : (bs.length : Int) + (i : Int) < (bs.length : Int) + (n : Int) := by omega
    gi_wp2
    refine round_tail 11 (by kernel_rfl) (by kernel_rfl) (by kernel_rfl) ?hq ?_
    case hq => exact fun ⟨_, _, h⟩ => h
    simp only [List.take_succ_cons, List.take_zero, List.drop_succ_cons, List.drop_zero]
    repeat still_step
    try refine wpStill_nil ?_
    go_wp2
    exact FIN.out
  case done =>
    rintro D ys W hD hS ⟨⟨hR, hB', hX', hL'⟩, hB⟩ hK
    have g3 := hL'.cell
    have hfin : Blk W (w.heap.size + 1 + 1) 5 ((bs ++ lePut x n).map bv).toArray := by
      have e := HL.out ys (Nat.le_refl _) hS
      rw [e, Nat.sub_self, List.replicate_zero, List.append_nil, List.take_of_length_le (by rw [lePut_length]; exact Nat.le_refl _)] at hR
      exact hR
    clear hR
    have HF := Lib.hid hfin
    clear hfin
    gi_wp2
    refine ⟨by simp, .inl ⟨_, _, rfl, run_takeDeferred hK, ?_⟩⟩
    exact ⟨_, results_tmp rfl _ _ _, rfl, HF.out.putObj _ hK rfl, hB.trans (belowK_b (w := w) (Nat.le_refl _) W D _ _ (by omega) hK rfl rfl)⟩
  case stop =>
    rintro D c pre W _ _ h _
    exact h.elim

end Go.Proofs.Ytimkiifcmegfeaa
/- octet's Get, Cut, Put in one form. -/
namespace Go.Proofs.Ytimkiifcmegfeaa
open Go.RowKit Go.Shelf

def filled (bs : List UInt8) (n : Nat) : List UInt8 := bs ++ List.replicate (n - bs.length) 0

def fieldOf (bs : List UInt8) (at_ n : Nat) : List UInt8 := (bs.drop at_).take n
theorem get_ok (A : Option Addr) (cap at_ n : Nat) (bs : List UInt8) (w : World) (hn : sizeB n = true) (hle : at_ + n ≤ bs.length) (hlm : bs.length ≤ maxLen) (hA : Bytes w A bs) :
    Calls Try.prog 57 #[.slice A bs.length cap, .int .i64 at_, .int .i64 n] w fun e W' => e = .returned (.tuple #[.int .u64 (leN (fieldOf bs at_ n) : Int), .int .i64 0]) ∧ Below w.heap.size w W' := by
  unfold maxLen at hlm
  refine (get_in A bs.length cap at_ n (fieldOf bs at_ n) w hn hle (by omega) (fun k hk => ?_)).mono ?_
  · have h1 : at_ + k < bs.length := by omega
    obtain ⟨b, off, e, _, hc⟩ := hA (at_ + k) _ (List.getElem?_eq_getElem h1)
    exact ⟨b, off, _, e, by unfold fieldOf; rw [List.getElem?_take_of_lt hk, List.getElem?_drop]; exact List.getElem?_eq_getElem h1, hc⟩
  · rintro e W' ⟨rfl, hB⟩
    refine ⟨?_, hB⟩
    have : (fieldOf bs at_ n).take n = fieldOf bs at_ n := by unfold fieldOf; rw [List.take_take, Nat.min_self]
    rw [this]
theorem cut_ok (A : Option Addr) (cap at_ n : Nat) (bs : List UInt8) (w : World) (hle : at_ + n ≤ bs.length) (hlm : bs.length ≤ 281474976710656) (hA : Bytes w A bs) :
    Calls Try.prog 58 #[.slice A bs.length cap, .int .i64 at_, .int .i64 n] w fun e W' => e = .returned (.tuple #[.slice (some ⟨w.heap.size, 0, none⟩) n n, .bool true]) ∧
      Blk W' w.heap.size 5 (row8 (fieldOf bs at_ n)) ∧ Below w.heap.size w W' := cut_in A bs.length cap at_ n bs w hle hlm rfl hA
theorem put_ok (A : Option Addr) (cap n x : Nat) (bs : List UInt8) (w : World) (hn : sizeB n = true) (hlm : bs.length ≤ 140737488355328) (hA : Bytes w A bs) :
    Calls Try.prog 27 #[.slice A bs.length cap, .int .u64 x, .int .i64 n] w fun e W' => e = .returned (.slice (some ⟨w.heap.size + 2, 0, none⟩) (bs.length + n) (bs.length + n)) ∧
      Blk W' (w.heap.size + 2) 5 (row8 (bs ++ lePut x n)) ∧ Below w.heap.size w W' := put_in A cap n x bs w hn hlm hA

set_option maxHeartbeats 400000 in
theorem get_no (A : Option Addr) (len cap : Nat) (at_ n : Int) (w : World) (hl : len ≤ maxLen) (hn : n < 9223372036854775808) (ha : at_ < 9223372036854775808) (h : sizeB n = false ∨ insideB len at_ n = false) :
    Calls Try.prog 57 #[.slice A len cap, .int .i64 at_, .int .i64 n] w fun e W' => e = .returned (.tuple #[.int .u64 0, .int .i64 1]) ∧ w = W' := by
  by_cases h1 : sizeB n = true
  · have h2 : insideB len at_ n = false := by
      rcases h with h | h
      · rw [h1] at h; cases h
      · exact h
    clear h
    go_enter Try.func57, Try.ntmps57
    go_wp2_with (first
      | (go_at_call 54; refine (isSize_any _ _).mono ?_; rintro e w' ⟨rfl, rfl⟩)
      | (go_at_call 71; refine (within_any _ _ _ _ _ _ hl hn ha).mono ?_; rintro e w' ⟨rfl, rfl⟩))
    go_ret2
    exact ⟨rfl, rfl⟩
  · have h2 : sizeB n = false := by simpa using h1
    clear h h1
    go_enter Try.func57, Try.ntmps57
    go_wp2_with (first
      | (go_at_call 54; refine (isSize_any _ _).mono ?_; rintro e w' ⟨rfl, rfl⟩)
      | (go_at_call 71; refine (within_any _ _ _ _ _ _ hl hn ha).mono ?_; rintro e w' ⟨rfl, rfl⟩))
    go_ret2
    exact ⟨rfl, rfl⟩

set_option maxHeartbeats 400000 in
theorem cut_no (A : Option Addr) (len cap : Nat) (at_ n : Int) (w : World) (hl : len ≤ maxLen) (hn : n < 9223372036854775808) (ha : at_ < 9223372036854775808) (h : insideB len at_ n = false) :
    Calls Try.prog 58 #[.slice A len cap, .int .i64 at_, .int .i64 n] w fun e W' => e = .returned (.tuple #[.slice none 0 0, .bool false]) ∧ w = W' := by
  go_enter Try.func58, Try.ntmps58
  go_wp2_with (go_at_call 71; refine (within_any _ _ _ _ _ _ hl hn ha).mono ?_; rintro e w' ⟨rfl, rfl⟩)
  go_ret2
  exact ⟨rfl, rfl⟩

theorem get_okL (A : Option Addr) (len cap at_ n : Nat) (bs : List UInt8) (w : World) (hl : bs.length = len) (hn : sizeB n = true) (hle : at_ + n ≤ len) (hlm : len ≤ maxLen) (hA : Bytes w A bs) :
    Calls Try.prog 57 #[.slice A len cap, .int .i64 at_, .int .i64 n] w fun e W' => e = .returned (.tuple #[.int .u64 (leN (fieldOf bs at_ n) : Int), .int .i64 0]) ∧ Below w.heap.size w W' := by
  subst hl; exact get_ok A cap at_ n bs w hn hle hlm hA
theorem cut_okL (A : Option Addr) (len cap at_ n : Nat) (bs : List UInt8) (w : World) (hl : bs.length = len) (hle : at_ + n ≤ len) (hlm : len ≤ 281474976710656) (hA : Bytes w A bs) :
    Calls Try.prog 58 #[.slice A len cap, .int .i64 at_, .int .i64 n] w fun e W' => e = .returned (.tuple #[.slice (some ⟨w.heap.size, 0, none⟩) n n, .bool true]) ∧
      Blk W' w.heap.size 5 (row8 (fieldOf bs at_ n)) ∧ Below w.heap.size w W' := by subst hl; exact cut_ok A cap at_ n bs w hle hlm hA
theorem put_okL (A : Option Addr) (len cap n x : Nat) (bs : List UInt8) (w : World) (hl : bs.length = len) (hn : sizeB n = true) (hlm : len ≤ 140737488355328) (hA : Bytes w A bs) :
    Calls Try.prog 27 #[.slice A len cap, .int .u64 x, .int .i64 n] w fun e W' => e = .returned (.slice (some ⟨w.heap.size + 2, 0, none⟩) (len + n) (len + n)) ∧
      Blk W' (w.heap.size + 2) 5 (row8 (bs ++ lePut x n)) ∧ Below w.heap.size w W' := by subst hl; exact put_ok A cap n x bs w hn hlm hA

end Go.Proofs.Ytimkiifcmegfeaa
/- code: codes in memory. -/
namespace Go.Proofs.Ytimkiifcmegfeaa
open Go.RowKit
set_option linter.unusedVariables false
/-- A row in memory of whatever takes k cells each. -/
def RowAt {α : Type} (k : Nat) (cl : α → List Value) (X : Nat → Prop) (w : World) (A : Option Addr) (l : List α) : Prop :=
  ∀ (r : Nat) (a : α), l[r]? = some a → ∃ b off, A = some ⟨b, off, none⟩ ∧ X b ∧ b < w.heap.size ∧ ∀ (j : Nat) (v : Value), (cl a)[j]? = some v → w.cell? ⟨b, off + r * k + j, none⟩ = some v
section
variable {α : Type} {k : Nat} {cl : α → List Value} {X Y G : Nat → Prop} {w w' : World} {A : Option Addr} {l : List α}
theorem RowAt.nil (k : Nat) (cl : α → List Value) (X : Nat → Prop) (w : World) (A : Option Addr) : RowAt k cl X w A [] := fun r a h => by simp at h
theorem RowAt.off (h : RowAt k cl X w A l) (ho : Off G w w') (hG : ∀ b, X b → ¬ G b) : RowAt k cl X w' A l := fun r a ha => by
  obtain ⟨b, off, e, hX, hlt, hc⟩ := h r a ha
  exact ⟨b, off, e, hX, Nat.lt_of_lt_of_le hlt ho.size, fun j v hj => (World.cell?_of_block (a := ⟨b, off + r * k + j, none⟩) (ho.block b hlt (hG b hX))).trans (hc j v hj)⟩
theorem RowAt.mono (h : RowAt k cl X w A l) (hX : ∀ b, b < w.heap.size → X b → Y b) : RowAt k cl Y w A l := fun r a ha => by
  obtain ⟨b, off, e, h1, hlt, hc⟩ := h r a ha
  exact ⟨b, off, e, hX b hlt h1, hlt, hc⟩
theorem RowAt.bel (h : RowAt k cl X w A l) (hb : Below w.heap.size w w') : RowAt k cl X w' A l := fun r a ha => by
  obtain ⟨b, off, e, hX, hlt, hc⟩ := h r a ha
  exact ⟨b, off, e, hX, Nat.lt_of_lt_of_le hlt hb.size, fun j v hj => (hb.cell (p := ⟨b, off + r * k + j, none⟩) hlt).trans (hc j v hj)⟩
end
def Ins.cells (i : Ins) : List Value := [.int .u8 (i.op : Int), .int .i64 i.a, .int .i64 i.b, .int .i64 i.c, .string (str i.tx)]
def Ins.val (i : Ins) : Value := .agg #[.int .u8 (i.op : Int), .int .i64 i.a, .int .i64 i.b, .int .i64 i.c, .string (str i.tx)]
/-- An instruction that may be in memory. -/
structure Ins.ok (i : Ins) : Prop where
  op : i.op < 256
  a : -9223372036854775808 ≤ i.a ∧ i.a < 9223372036854775808
  b : -9223372036854775808 ≤ i.b ∧ i.b < 9223372036854775808
  c : -9223372036854775808 ≤ i.c ∧ i.c < 9223372036854775808
  tx : i.tx.length ≤ maxLen
structure InsAt (X : Nat → Prop) (w : World) (A : Option Addr) (is : List Ins) : Prop where
  row : RowAt 5 Ins.cells X w A is
  ok : ∀ i ∈ is, i.ok
/-- A function, and where it lies. -/
structure Fe where
  A : Option Addr
  c : Nat
  is : List Ins
instance : Inhabited Fe := ⟨⟨none, 0, []⟩⟩
def Fe.cells (f : Fe) : List Value := [.slice f.A f.is.length f.c]
structure Fe.In (X : Nat → Prop) (w : World) (f : Fe) : Prop where
  len : f.is.length ≤ f.c
  cap : f.c ≤ maxLen
  ins : InsAt X w f.A f.is
structure FsAt (X : Nat → Prop) (w : World) (A : Option Addr) (fs : List Fe) : Prop where
  row : RowAt 1 Fe.cells X w A fs
  fs : ∀ f ∈ fs, f.In X w
def rtCells (r : List UInt8 × List UInt8) : List Value := [.string (str r.1), .string (str r.2)]
def rtOk (r : List UInt8 × List UInt8) : Prop := r.1.length ≤ maxLen ∧ r.2.length ≤ maxLen
structure RsAt (X : Nat → Prop) (w : World) (A : Option Addr) (rs : List (List UInt8 × List UInt8)) : Prop where
  row : RowAt 2 rtCells X w A rs
  ok : ∀ r ∈ rs, rtOk r
/-- Where a code lies. -/
structure Cl where
  fs : List Fe
  fA : Option Addr
  fc : Nat
  rs : List (List UInt8 × List UInt8)
  rA : Option Addr
  rc : Nat
def Cl.cd (c : Cl) : Cd := ⟨c.fs.map Fe.is, c.rs⟩
def Cl.fv (c : Cl) : Value := .slice c.fA c.fs.length c.fc
def Cl.rv (c : Cl) : Value := .slice c.rA c.rs.length c.rc
def Cl.val (c : Cl) : Value := .agg #[.slice c.fA c.fs.length c.fc, .slice c.rA c.rs.length c.rc]
structure Cl.At (X : Nat → Prop) (w : World) (c : Cl) : Prop where
  fs : FsAt X w c.fA c.fs
  rs : RsAt X w c.rA c.rs
  fl : c.fs.length ≤ c.fc ∧ c.fc ≤ maxLen
  rl : c.rs.length ≤ c.rc ∧ c.rc ≤ maxLen
section
variable {X Y G : Nat → Prop} {w w' : World}
theorem InsAt.off {A : Option Addr} {is : List Ins} (h : InsAt X w A is) (ho : Off G w w') (hG : ∀ b, X b → ¬ G b) : InsAt X w' A is := ⟨h.row.off ho hG, h.ok⟩
theorem InsAt.mono {A : Option Addr} {is : List Ins} (h : InsAt X w A is) (hX : ∀ b, b < w.heap.size → X b → Y b) : InsAt Y w A is := ⟨h.row.mono hX, h.ok⟩
theorem InsAt.bel {A : Option Addr} {is : List Ins} (h : InsAt X w A is) (hb : Below w.heap.size w w') : InsAt X w' A is := ⟨h.row.bel hb, h.ok⟩
theorem Fe.In.off {f : Fe} (h : f.In X w) (ho : Off G w w') (hG : ∀ b, X b → ¬ G b) : f.In X w' := ⟨h.len, h.cap, h.ins.off ho hG⟩
theorem Fe.In.mono {f : Fe} (h : f.In X w) (hX : ∀ b, b < w.heap.size → X b → Y b) : f.In Y w := ⟨h.len, h.cap, h.ins.mono hX⟩
theorem Fe.In.bel {f : Fe} (h : f.In X w) (hb : Below w.heap.size w w') : f.In X w' := ⟨h.len, h.cap, h.ins.bel hb⟩
theorem FsAt.off {A : Option Addr} {fs : List Fe} (h : FsAt X w A fs) (ho : Off G w w') (hG : ∀ b, X b → ¬ G b) : FsAt X w' A fs := ⟨h.row.off ho hG, fun f hf => (h.fs f hf).off ho hG⟩
theorem FsAt.mono {A : Option Addr} {fs : List Fe} (h : FsAt X w A fs) (hX : ∀ b, b < w.heap.size → X b → Y b) : FsAt Y w A fs := ⟨h.row.mono hX, fun f hf => (h.fs f hf).mono hX⟩
theorem FsAt.bel {A : Option Addr} {fs : List Fe} (h : FsAt X w A fs) (hb : Below w.heap.size w w') : FsAt X w' A fs := ⟨h.row.bel hb, fun f hf => (h.fs f hf).bel hb⟩
theorem RsAt.off {A : Option Addr} {rs : List (List UInt8 × List UInt8)} (h : RsAt X w A rs) (ho : Off G w w') (hG : ∀ b, X b → ¬ G b) : RsAt X w' A rs := ⟨h.row.off ho hG, h.ok⟩
theorem RsAt.mono {A : Option Addr} {rs : List (List UInt8 × List UInt8)} (h : RsAt X w A rs) (hX : ∀ b, b < w.heap.size → X b → Y b) : RsAt Y w A rs := ⟨h.row.mono hX, h.ok⟩
theorem RsAt.bel {A : Option Addr} {rs : List (List UInt8 × List UInt8)} (h : RsAt X w A rs) (hb : Below w.heap.size w w') : RsAt X w' A rs := ⟨h.row.bel hb, h.ok⟩
variable {c : Cl}
theorem Cl.At.off (h : c.At X w) (ho : Off G w w') (hG : ∀ b, X b → ¬ G b) : c.At X w' := ⟨h.fs.off ho hG, h.rs.off ho hG, h.fl, h.rl⟩
theorem Cl.At.mono (h : c.At X w) (hX : ∀ b, b < w.heap.size → X b → Y b) : c.At Y w := ⟨h.fs.mono hX, h.rs.mono hX, h.fl, h.rl⟩
theorem Cl.At.bel (h : c.At X w) (hb : Below w.heap.size w w') : c.At X w' := ⟨h.fs.bel hb, h.rs.bel hb, h.fl, h.rl⟩
/-- One instruction. -/
theorem InsAt.get {A : Option Addr} {is : List Ins} (h : InsAt X w A is) {r : Nat} {i : Ins} (hi : is[r]? = some i) : ∃ b off, A = some ⟨b, off, none⟩ ∧ X b ∧ b < w.heap.size ∧ w.cell? ⟨b, off + r * 5, none⟩ = some (.int .u8 (i.op : Int)) ∧ w.cell? ⟨b, off + r * 5 + 1, none⟩ = some (.int .i64 i.a) ∧ w.cell? ⟨b, off + r * 5 + 2, none⟩ = some (.int .i64 i.b) ∧ w.cell? ⟨b, off + r * 5 + 3, none⟩ = some (.int .i64 i.c) ∧ w.cell? ⟨b, off + r * 5 + 4, none⟩ = some (.string (str i.tx)) ∧ i.ok := by
  obtain ⟨b, off, e, hX, hlt, hc⟩ := h.row r i hi
  exact ⟨b, off, e, hX, hlt, hc 0 _ rfl, hc 1 _ rfl, hc 2 _ rfl, hc 3 _ rfl, hc 4 _ rfl, h.ok i (List.mem_of_getElem? hi)⟩
/-- One function. -/
theorem FsAt.get {A : Option Addr} {fs : List Fe} (h : FsAt X w A fs) {r : Nat} {f : Fe} (hf : fs[r]? = some f) : ∃ b off, A = some ⟨b, off, none⟩ ∧ X b ∧ b < w.heap.size ∧ w.cell? ⟨b, off + r, none⟩ = some (.slice f.A f.is.length f.c) ∧ f.In X w := by
  obtain ⟨b, off, e, hX, hlt, hc⟩ := h.row r f hf
  have := hc 0 _ rfl
  rw [Nat.mul_one, Nat.add_zero] at this
  exact ⟨b, off, e, hX, hlt, this, h.fs f (List.mem_of_getElem? hf)⟩
/-- One root. -/
theorem RsAt.get {A : Option Addr} {rs : List (List UInt8 × List UInt8)} (h : RsAt X w A rs) {k : Nat} {r : List UInt8 × List UInt8} (hr : rs[k]? = some r) : ∃ b off, A = some ⟨b, off, none⟩ ∧ X b ∧ b < w.heap.size ∧ w.cell? ⟨b, off + k * 2, none⟩ = some (.string (str r.1)) ∧ w.cell? ⟨b, off + k * 2 + 1, none⟩ = some (.string (str r.2)) ∧ rtOk r := by
  obtain ⟨b, off, e, hX, hlt, hc⟩ := h.row k r hr
  exact ⟨b, off, e, hX, hlt, hc 0 _ rfl, hc 1 _ rfl, h.ok r (List.mem_of_getElem? hr)⟩
end
end Go.Proofs.Ytimkiifcmegfeaa
/- code: ask, within. -/
namespace Go.Proofs.Ytimkiifcmegfeaa
open Go.RowKit
set_option linter.unusedVariables false
/-- What is panicked with. -/
def wr : PanicEntry := { v := .iface 71 (.agg #[]), recovered := false }
/-- How a call that asks ends. -/
def askE (b : Bool) : Ending := if b = true then .returned (.tuple #[]) else .panicked [wr]
theorem ask_yes (k : Value) (w : World) : Calls Try.prog 39 #[k, .bool true] w fun e w' => e = .returned (.tuple #[]) ∧ w = w' := by
  go_enter Try.func39, Try.ntmps39
  go_wp2_with fail
  go_end0
  exact ⟨rfl, rfl⟩
theorem ask_no (k : Value) (w : World) : Calls Try.prog 39 #[k, .bool false] w fun e w' => e = .panicked [wr] ∧ w = w' := by
  go_enter Try.func39, Try.ntmps39
  go_wp2_with fail
  exact ⟨rfl, rfl, rfl⟩
theorem within_yes (k : Value) (x lo hi : Int) (h : wi x lo hi = true) (w : World) : Calls Try.prog 62 #[k, .int .i64 x, .int .i64 lo, .int .i64 hi] w fun e w' => e = .returned (.tuple #[]) ∧ w = w' := by
  unfold wi at h
  have h1 : decide (lo ≤ x) = true := by cases hd : decide (lo ≤ x) <;> rw [hd] at h <;> simp_all
  have h2 : decide (x ≤ hi) = true := by rw [h1] at h; simpa using h
  have HC := Lib.hid (ask_yes k w)
  clear h
  go_enter Try.func62, Try.ntmps62
  go_wp2_with fail
  refine HC.out.mono ?_
  rintro e w' ⟨rfl, rfl⟩
  go_wp2_with fail
  go_end0
  exact ⟨rfl, rfl⟩
theorem within_no (k : Value) (x lo hi : Int) (h : wi x lo hi = false) (w : World) : Calls Try.prog 62 #[k, .int .i64 x, .int .i64 lo, .int .i64 hi] w fun e w' => e = .panicked [wr] ∧ w = w' := by
  unfold wi at h
  have HC := Lib.hid (ask_no k w)
  by_cases h1 : lo ≤ x
  · have g1 : decide (lo ≤ x) = true := decide_eq_true h1
    have g2 : decide (x ≤ hi) = false := by rw [g1] at h; simpa using h
    clear h h1
    go_enter Try.func62, Try.ntmps62
    go_wp2_with fail
    refine HC.out.mono ?_
    rintro e w' ⟨rfl, rfl⟩
    exact ⟨rfl, rfl, rfl⟩
  · have g1 : decide (lo ≤ x) = false := decide_eq_false h1
    clear h h1
    go_enter Try.func62, Try.ntmps62
    go_wp2_with fail
    refine HC.out.mono ?_
    rintro e w' ⟨rfl, rfl⟩
    exact ⟨rfl, rfl, rfl⟩
end Go.Proofs.Ytimkiifcmegfeaa
/- code: maps. -/
namespace Go.Proofs.Ytimkiifcmegfeaa
open Go.RowKit
set_option linter.unusedVariables false
set_option linter.unusedSimpArgs false
/-- How any value reads: as itself. -/
def asIs (v : Value) : Option (DataW Value × List MemPlace) := some (.held v, [])
/-- What is there, as a datum. -/
def heldOr : Option Value → DataW Value
  | none => .nil
  | some v => .held v
/-- A kind of keys. -/
structure KeyK (β : Type) where
  kt : TypeId
  val : β → Value
  kl : β → Lit
  ok : β → Prop
  keyed : Maps.Keyed Try.prog kt
  key : ∀ b, ok b → keyOf Try.prog kt (val b) = some (kl b)
  inj : ∀ a b, val a = val b → a = b
section
variable {β : Type} {K : KeyK β}
theorem KeyK.klinj {a b : β} (ha : K.ok a) (hb : K.ok b) (h : K.kl a = K.kl b) : a = b := by
  have h1 := K.key a ha
  have h2 := K.key b hb
  rw [h] at h1
  exact K.inj _ _ (K.keyed.inj h1 h2)
/-- Block b is a map that says S, of at most n entries. -/
def HMap (K : KeyK β) (w : World) (b n : Nat) (S : β → Option Value) : Prop :=
  ∃ D : DataW Value, w.ownsMap Try.prog K.kt asIs b n D ∧ ∀ x, K.ok x → D.atKey (K.kl x) .nil = heldOr (S x)
theorem HMap.same {w w' : World} {b n : Nat} {S : β → Option Value} (h : HMap K w b n S) (hb : w'.heap[b]? = w.heap[b]?) : HMap K w' b n S := by
  obtain ⟨D, ⟨es, clock, h1, h2⟩, h3⟩ := h
  exact ⟨D, ⟨es, clock, hb.trans h1, h2⟩, h3⟩
theorem HMap.lt {w : World} {b n : Nat} {S : β → Option Value} (h : HMap K w b n S) : b < w.heap.size := by obtain ⟨D, h1, _⟩ := h; exact h1.lt
theorem HMap.made (K : KeyK β) (w : World) : HMap K (w.alloc (.map #[] 0)) w.heap.size 0 (fun _ => none) := ⟨_, World.ownsMap_made w _ _ _, fun _ _ => rfl⟩
theorem HMap.bel {w w' : World} {b n : Nat} {S : β → Option Value} (h : HMap K w b n S) (hb : Below w.heap.size w w') : HMap K w' b n S := h.same (hb.block _ h.lt)
theorem HMap.off {F : Nat → Prop} {w w' : World} {b n : Nat} {S : β → Option Value} (h : HMap K w b n S) (ho : Off F w w') (hb : ¬ F b) : HMap K w' b n S := h.same (ho.block _ h.lt hb)
theorem HMap.look {w : World} {b n : Nat} {S : β → Option Value} (h : HMap K w b n S) {t e : TypeId} (ht : Try.prog.underlying t = some (.map K.kt e)) {z : Value} (hz : (zeroValue e).run Try.prog w = .ok z w) (c : Bool) (s : β) (hs : K.ok s) :
    (Instr.lookup t (.map (some b)) (K.val s) c).run Try.prog w = .ok (if c then .tuple #[(S s).getD z, .bool (S s).isSome] else (S s).getD z) w := by
  obtain ⟨D, ⟨es, clock, hb, F, _, rfl⟩, h2⟩ := h
  have h3 := h2 s hs
  rcases Maps.fit_look c K.keyed ht hz hb F (K.key s hs) with ⟨hrun, _, hat⟩ | ⟨e0, y, _, _, hrun, hRv, hat, _⟩
  · rw [hat] at h3
    cases hS : S s with
    | none => rw [hrun]; cases c <;> rfl
    | some v => rw [hS] at h3; cases h3
  · rw [hat] at h3
    cases hRv
    cases hS : S s with
    | none => rw [hS] at h3; cases h3
    | some v =>
      rw [hS] at h3
      cases h3
      rw [hrun]; cases c <;> rfl
theorem HMap.put {w : World} {b n : Nat} {S T : β → Option Value} (h : HMap K w b n S) {t e : TypeId} (ht : Try.prog.underlying t = some (.map K.kt e)) (s : β) (hs : K.ok s) (v : Value) (hn : n < 1000000) (hT : ∀ x, (x = s → T x = some v) ∧ (x ≠ s → T x = S x)) :
    ∃ w', (Instr.mapUpdate t (.map (some b)) (K.val s) v).run Try.prog w = .ok () w' ∧ HMap K w' b (n + 1) T ∧ Off (fun k => k = b) w w' ∧ w'.heap.size = w.heap.size := by
  obtain ⟨D, h1, h2⟩ := h
  have hlt := h1.lt
  obtain ⟨es, clock, hb, F, hes, hD⟩ := h1
  obtain ⟨es', clock', hrun, F', hput, _⟩ := Maps.fit_store (R' := asIs) K.keyed ht hb F (Nat.lt_of_le_of_lt hes (by unfold maxLen; omega)) (fun _ _ _ _ hz => hz) (K.key s hs) (show asIs v = some (.held v, []) from rfl)
  obtain ⟨w', hr, h3, h4⟩ := World.ownsMap.update ⟨es, clock, hb, F, hes, hD⟩ K.keyed ht (by unfold maxLen; omega) (K.key s hs) (show asIs v = some (.held v, []) from rfl)
  have hsz : w'.heap.size = w.heap.size := by
    have e := hrun.symm.trans hr
    have e2 : ChangeMaps.setBlock w b (Obj.map es' clock') = w' := (Result.ok.inj e).2
    rw [← e2]
    simp [ChangeMaps.setBlock]
  refine ⟨w', hr, ⟨_, h3, fun j hj => ?_⟩, (Off.of_grown h4).mono fun k _ e => by cases e; rfl, hsz⟩
  have hM : Maps.IsMap D := ⟨_, hD⟩
  by_cases e : j = s
  · subst e
    rw [Maps.atKey_put_same hM (K.keyed.key (K.key j hs)), (hT j).1 rfl]
    rfl
  · have hne : K.kl j ≠ K.kl s := fun h => e (KeyK.klinj hj hs h)
    rw [Maps.atKey_put_other hne, h2 j hj, (hT j).2 e]
end
/-- Texts. -/
def sK : KeyK (List UInt8) where
  kt := 9
  val s := .string (str s)
  kl s := .string s
  ok s := s.length ≤ maxLen
  keyed := Maps.string_keyed Try.underlying9
  key s hs := by
    have := Go.WideMaps.keyOf_string_mk (s := str s) Try.underlying9 (by simpa [str, ByteArray.size] using hs)
    rw [this]
    simp [str]
  inj a b h := by
    injection h with h
    have := congrArg ByteArray.toList h
    rwa [str_toList, str_toList] at this
/-- Numbers. -/
def iK : KeyK Int where
  kt := 3
  val i := .int .i64 i
  kl i := .int .i64 i
  ok i := (Lit.int .i64 i).wf = true
  keyed := Maps.int_keyed Try.underlying3
  key i hi := Maps.keyOf_int_mk Try.underlying3 hi
  inj a b h := by injection h
theorem Try.laidOutB : laidOutB Try.prog = true := by kernel_rfl
theorem wideTry : (match Try.prog.underlying 87 with | some (.array _ _) | some (.struct _) => true | _ => false) = true := by rw [Try.underlying87]
theorem rowTry : (87 : TypeId) < Try.prog.types.size := of_decide_eq_true (by kernel_rfl)
set_option maxRecDepth 100000 in
theorem tryKeyed : Maps.Keyed Try.prog 87 := Maps.Keyed.of_law (deep_law_laid Try.laidOutB (m := 2) (by omega) rowTry (by kernel_rfl) wideTry)
def tryLit (p : Int × Int) : Lit := .string (keyBytes [.int .i64 p.1, .int .i64 p.2])
theorem lits_int (d : Nat) (n : Int) (h : (Lit.int .i64 n).wf = true) : Try.prog.keyLits (d + 1) 3 [.int .i64 n] = some [.int .i64 n] := by
  unfold Program.keyLits
  simp only [Try.underlying3]
  simp [h]
theorem try_key (p : Int × Int) (h : (Lit.int .i64 p.1).wf = true ∧ (Lit.int .i64 p.2).wf = true) : keyOf Try.prog 87 (.agg #[.int .i64 p.1, .int .i64 p.2]) = some (tryLit p) := by
  have hk : Try.prog.keyType 87 = true := by kernel_rfl
  have hc : Try.prog.cellsOf 87 = 2 := by kernel_rfl
  have hc1 : Try.prog.cellsOf 3 = 1 := by kernel_rfl
  obtain ⟨d, hd⟩ : ∃ d, Try.prog.types.size + 1 = d + 2 := ⟨_, rfl⟩
  have hf : (Value.agg #[.int .i64 p.1, .int .i64 p.2]).formed Try.prog 87 = true := by
    simp [Value.formed, Try.underlying87, hc]
  unfold keyOf
  simp only [Try.underlying87, hk, hf, hd, Bool.and_true, if_true]
  have h1 := lits_int d p.1 h.1
  have h2 := lits_int d p.2 h.2
  unfold Program.keyLits
  simp [Value.cells, Try.underlying87, hc, hc1, h1, h2, tryLit]
/-- Rows of tries. -/
def tK : KeyK (Int × Int) where
  kt := 87
  val p := .agg #[.int .i64 p.1, .int .i64 p.2]
  kl := tryLit
  ok p := (Lit.int .i64 p.1).wf = true ∧ (Lit.int .i64 p.2).wf = true
  keyed := tryKeyed
  key := try_key
  inj a b h := by
    injection h with h
    simp at h
    exact Prod.ext h.1 h.2
end Go.Proofs.Ytimkiifcmegfeaa
/- code: prims, Takes. -/
namespace Go.Proofs.Ytimkiifcmegfeaa
open Go.RowKit
set_option linter.unusedVariables false
set_option linter.unusedSimpArgs false
attribute [local go_sem] Oper.semAt_some
def txCell (s : List UInt8) : List Value := [.string (str s)]
/-- A row of texts. -/
def TxAt (w : World) (A : Option Addr) (l : List (List UInt8)) : Prop := RowAt 1 txCell (fun b => b < w.heap.size) w A l
theorem TxAt.bel {w w' : World} {A : Option Addr} {l : List (List UInt8)} (h : TxAt w A l) (hb : Below w.heap.size w w') : TxAt w' A l := RowAt.mono (RowAt.bel h hb) fun b h1 _ => h1
theorem TxAt.off {F : Nat → Prop} {w w' : World} {A : Option Addr} {l : List (List UInt8)} (h : TxAt w A l) (ho : Off F w w') (hF : ∀ p : Addr, A = some p → ¬ F p.block) : TxAt w' A l := fun r a ha => by
  obtain ⟨b, off, e, h1, h2, h3⟩ := h r a ha
  exact ⟨b, off, e, Nat.lt_of_lt_of_le h1 ho.size, Nat.lt_of_lt_of_le h1 ho.size, fun j v hj => (World.cell?_of_block (a := ⟨b, off + r * 1 + j, none⟩) (ho.block b h1 (hF _ e))).trans (h3 j v hj)⟩
theorem TxAt.get {w : World} {A : Option Addr} {l : List (List UInt8)} (h : TxAt w A l) {r : Nat} {s : List UInt8} (hs : l[r]? = some s) : ∃ b off, A = some ⟨b, off, none⟩ ∧ b < w.heap.size ∧ w.cell? ⟨b, off + r, none⟩ = some (.string (str s)) := by
  obtain ⟨b, off, e, h1, h2, h3⟩ := h r s hs
  have := h3 0 _ rfl
  rw [Nat.mul_one, Nat.add_zero] at this
  exact ⟨b, off, e, h2, this⟩
theorem TxAt.of_blk {w : World} {g : Nat} {t : TypeId} {l : List (List UInt8)} {cs : Array Value} (h : Blk w g t cs) (hc : cs = (l.map fun s => Value.string (str s)).toArray) : TxAt w (some ⟨g, 0, none⟩) l := fun r s hs => by
  refine ⟨g, 0, rfl, h.lt, h.lt, fun j v hj => ?_⟩
  have hj0 : j = 0 := by
    have := (List.getElem?_eq_some_iff.1 hj).1
    simp [txCell] at this
    exact this
  subst hj0
  simp [txCell] at hj
  subst hj
  rw [Nat.zero_add, Nat.mul_one, Nat.add_zero, h.cell, hc]
  simp [hs]
/-- The table of prims. -/
def primS (b1 b2 b3 : Nat) (i : Int) : Option Value := if i = 1 then some (.slice (some ⟨b1, 0, none⟩) 10 10) else if i = 2 then some (.slice (some ⟨b2, 0, none⟩) 16 16) else if i = 3 then some (.slice (some ⟨b3, 0, none⟩) 1 1) else none
set_option maxRecDepth 20000 in
set_option maxHeartbeats 1000000 in
theorem prims_any (w : World) : Calls Try.prog 48 #[] w fun e w' => e = .returned (.map (some w.heap.size)) ∧ (∃ b1 b2 b3, HMap iK w' w.heap.size 3 (primS b1 b2 b3) ∧ TxAt w' (some ⟨b1, 0, none⟩) prims1 ∧ TxAt w' (some ⟨b2, 0, none⟩) prims2 ∧ TxAt w' (some ⟨b3, 0, none⟩) prims3) ∧ Below w.heap.size w w' := by
  have hmm := @run_makeMap Try.prog
  obtain ⟨q, hq⟩ : ∃ q, w.heap.size = q := ⟨_, rfl⟩
  obtain ⟨w0, hw0⟩ : ∃ W, w.alloc (.map #[] 0) = W := ⟨_, rfl⟩
  have b0 : Below w.heap.size w w0 := by rw [← hw0]; exact (Below.refl _ _).alloc (Nat.le_refl _) _
  have m0 : HMap iK w0 q 0 (fun _ => none) := by rw [← hw0, ← hq]; exact HMap.made iK w
  obtain ⟨wa, hwa⟩ : ∃ W, w0.alloc (.cells (prims1.map fun s => Value.string (str s)).toArray 9) = W := ⟨_, rfl⟩
  have ba : Below w0.heap.size w0 wa := by rw [← hwa]; exact (Below.refl _ _).alloc (Nat.le_refl _) _
  have Ba : Blk wa w0.heap.size 9 (prims1.map fun s => Value.string (str s)).toArray := by rw [← hwa]; exact Blk.new _ _ _
  obtain ⟨q1, hq1⟩ : ∃ z, w0.heap.size = z := ⟨_, rfl⟩
  have hs0 : q + 1 = q1 := by rw [← hq1, ← hw0, ← hq]; simp
  obtain ⟨w1, p1, k1, o1, s1⟩ := (m0.bel ba).put (T := fun i => if i = 1 then some (.slice (some ⟨q1, 0, none⟩) 10 10) else none) Try.underlying101 1 (show (Lit.int .i64 1).wf = true by decide) (.slice (some ⟨q1, 0, none⟩) 10 10) (by omega) (fun x => ⟨fun e => if_pos e, fun e => if_neg e⟩)
  have hsa : wa.heap.size = q1 + 1 := by rw [← hwa, ← hq1]; simp
  obtain ⟨q2, hq2⟩ : ∃ z, q1 + 1 = z := ⟨_, rfl⟩
  have hs1 : w1.heap.size = q2 := by rw [s1, hsa, hq2]
  obtain ⟨wb, hwb⟩ : ∃ W, w1.alloc (.cells (prims2.map fun s => Value.string (str s)).toArray 9) = W := ⟨_, rfl⟩
  have bb : Below w1.heap.size w1 wb := by rw [← hwb]; exact (Below.refl _ _).alloc (Nat.le_refl _) _
  have Bb : Blk wb w1.heap.size 9 (prims2.map fun s => Value.string (str s)).toArray := by rw [← hwb]; exact Blk.new _ _ _
  obtain ⟨w2, p2, k2, o2, s2⟩ := (k1.bel bb).put (T := fun i => if i = 1 then some (.slice (some ⟨q1, 0, none⟩) 10 10) else if i = 2 then some (.slice (some ⟨q2, 0, none⟩) 16 16) else none) Try.underlying101 2 (show (Lit.int .i64 2).wf = true by decide) (.slice (some ⟨q2, 0, none⟩) 16 16) (by omega) (fun x => ⟨fun e => by subst e; rfl, fun e => by
    by_cases h1 : x = 1
    · rw [if_pos h1, if_pos h1]
    · rw [if_neg h1, if_neg h1, if_neg e]⟩)
  have hsb : wb.heap.size = q2 + 1 := by rw [← hwb, ← hs1]; simp
  obtain ⟨q3, hq3⟩ : ∃ z, q2 + 1 = z := ⟨_, rfl⟩
  have hs2 : w2.heap.size = q3 := by rw [s2, hsb, hq3]
  obtain ⟨wc, hwc⟩ : ∃ W, w2.alloc (.cells (prims3.map fun s => Value.string (str s)).toArray 9) = W := ⟨_, rfl⟩
  have bc : Below w2.heap.size w2 wc := by rw [← hwc]; exact (Below.refl _ _).alloc (Nat.le_refl _) _
  have Bc : Blk wc w2.heap.size 9 (prims3.map fun s => Value.string (str s)).toArray := by rw [← hwc]; exact Blk.new _ _ _
  obtain ⟨w3, p3, k3, o3, s3⟩ := (k2.bel bc).put (T := primS q1 q2 q3) Try.underlying101 3 (show (Lit.int .i64 3).wf = true by decide) (.slice (some ⟨q3, 0, none⟩) 1 1) (by omega) (fun x => ⟨fun e => by subst e; rfl, fun e => by
    unfold primS
    by_cases h1 : x = 1
    · rw [if_pos h1, if_pos h1]
    · rw [if_neg h1, if_neg h1]
      by_cases h2 : x = 2
      · rw [if_pos h2, if_pos h2]
      · rw [if_neg h2, if_neg h2, if_neg e]⟩)
  rw [hs1] at Bb
  rw [hs2] at Bc
  rw [hq1] at Ba
  have O1 : Off (fun k => k = q) wa w1 := o1
  have O2 : Off (fun k => k = q) wb w2 := o2
  have O3 : Off (fun k => k = q) wc w3 := o3
  have Oc : Off (fun k => k = q) w2 w3 := (Off.of_new bc _).trans O3
  have Ob : Off (fun k => k = q) w1 w3 := ((Off.of_new bb _).trans O2).trans Oc
  have Oa : Off (fun k => k = q) w0 w3 := ((Off.of_new ba _).trans O1).trans Ob
  have HF : Hid ((∃ b1 b2 b3, HMap iK w3 q 3 (primS b1 b2 b3) ∧ TxAt w3 (some ⟨b1, 0, none⟩) prims1 ∧ TxAt w3 (some ⟨b2, 0, none⟩) prims2 ∧ TxAt w3 (some ⟨b3, 0, none⟩) prims3) ∧ Below w.heap.size w w3) := Lib.hid ⟨⟨q1, q2, q3, k3,
    (TxAt.of_blk Ba rfl).off (O1.trans Ob) (fun p e => by cases e; show ¬ (q1 = q); omega),
    (TxAt.of_blk Bb rfl).off (O2.trans Oc) (fun p e => by cases e; show ¬ (q2 = q); omega),
    (TxAt.of_blk Bc rfl).off O3 (fun p e => by cases e; show ¬ (q3 = q); omega)⟩,
    b0.trans (Oa.below b0.size fun k e => by have e' : k = q := e; omega)⟩
  have P1 : (Instr.mapUpdate 101 (.map (some q)) (.int .i64 1) (.slice (some ⟨q1, 0, none⟩) 10 10)).run Try.prog wa = .ok () w1 := p1
  have P2 : (Instr.mapUpdate 101 (.map (some q)) (.int .i64 2) (.slice (some ⟨q2, 0, none⟩) 16 16)).run Try.prog wb = .ok () w2 := p2
  have P3 : (Instr.mapUpdate 101 (.map (some q)) (.int .i64 3) (.slice (some ⟨q3, 0, none⟩) 1 1)).run Try.prog wc = .ok () w3 := p3
  have HW := Lib.hid hq
  have hwa' : w0.alloc (.cells #[.string { data := #[112, 114, 105, 110, 116] }, .string { data := #[105, 116, 111, 115] }, .string { data := #[115, 105, 122, 101] }, .string { data := #[110, 111, 116] }, .string { data := #[114, 101, 102] }, .string { data := #[108, 101, 110] }, .string { data := #[99, 111, 109, 109, 105, 116] }, .string { data := #[97, 98, 111, 114, 116] }, .string { data := #[126] }, .string { data := #[33] }] 9) = wa := hwa
  have hwb' : w1.alloc (.cells #[.string { data := #[115, 97, 109, 101] }, .string { data := #[97, 114, 114, 97, 121] }, .string { data := #[103, 101, 116] }, .string { data := #[43] }, .string { data := #[45] }, .string { data := #[42] }, .string { data := #[100, 105, 118] }, .string { data := #[109, 111, 100] }, .string { data := #[60] }, .string { data := #[60, 61] }, .string { data := #[62] }, .string { data := #[62, 61] }, .string { data := #[61] }, .string { data := #[60, 62] }, .string { data := #[94] }, .string { data := #[58, 61] }] 9) = wb := hwb
  have hwc' : w2.alloc (.cells #[.string { data := #[112, 117, 116] }] 9) = wc := hwc
  clear hwa hwb hwc b0 m0 ba Ba k1 o1 s1 hs0 hsa bb Bb k2 o2 hsb s2 bc Bc k3 o3 s3 O1 O2 O3 Oc Ob Oa p1 p2 p3 hq2 hq3
  go_enter Try.func48, Try.ntmps48
  go_wp2_with fail
  go_ret
  have h := HF.out
  rw [HW.out] at h ⊢
  exact ⟨rfl, h⟩
end Go.Proofs.Ytimkiifcmegfeaa
/- code: Takes. -/
namespace Go.Proofs.Ytimkiifcmegfeaa
open Go.RowKit
set_option linter.unusedVariables false
set_option linter.unusedSimpArgs false
attribute [local go_sem] Oper.semAt_some
theorem next_held (w : World) {ops : Array Oper} {rest : List Oper} {o : Oper} {a : Act} {Q : Exit → Act → World → Prop} (hg : o.guard = none) (it : Operand) (hop : o.op = Op.next it false) (S : Int → Option Value)
    (b r n : Nat) (D : DataW Value) (left : Lit → Bool) (cnt : Nat) (hS : ∀ i : Int, iK.ok i → D.atKey (iK.kl i) .nil = heldOr (S i))
    (hit : a.eval it = .pointer (some ⟨r, 0, none⟩)) (h : w.ranges Try.prog 3 asIs b r n D left cnt)
    (hDone : cnt = 0 → (∀ kl, left kl = false) → wpList Try.prog ops Q rest (a.put o.dst (.tuple #[.bool false])) w)
    (hMore : ∀ (x : Int) (v : Value) (w' : World) (cnt' : Nat), (Lit.int .i64 x).wf = true → left (.int .i64 x) = true → S x = some v → w'.ranges Try.prog 3 asIs b r n D (fun z => left z && !z.sameKey (.int .i64 x)) cnt' → cnt' < cnt →
      w.grownBy w' (some r) → w'.heap.size = w.heap.size → (Instr.entry (.pointer (some ⟨r, 0, none⟩))).run Try.prog w' = .ok (.tuple #[.int .i64 x, v]) w' → wpList Try.prog ops Q rest (a.put o.dst (.tuple #[.bool true, .int .i64 x, v])) w') :
    wpList Try.prog ops Q (o :: rest) a w :=
  wpList_next_ranges w hg it hop 3 (Maps.int_keyed Try.underlying3) asIs (Value.int .i64) id (fun key kl hkey => by obtain ⟨x, rfl, _⟩ := Maps.keyOf_int_inv Try.underlying3 hkey; exact ⟨x, rfl⟩)
    (fun v y hv => ⟨v, rfl⟩)
    b r n D left cnt hit h hDone (fun x c kl y w' cnt' hkey hlk hv hat hrg hlt hgr hsz hen => by
      obtain ⟨x', ex, rfl, hwx⟩ := Maps.keyOf_int_inv Try.underlying3 hkey
      cases ex
      have h1 := hS x hwx
      have hv : y = (.held c, []) := (Option.some.inj hv).symm
      subst hv
      have h2 := hat .nil
      have h3 : heldOr (S x) = .held c := h1.symm.trans h2
      cases hc : S x with
      | none => rw [hc] at h3; cases h3
      | some v =>
        rw [hc] at h3
        have e : v = c := by injection h3
        subst e
        exact hMore x _ w' cnt' hwx hlk hc hrg hlt hgr hsz hen)
theorem same_int {a b : Int} : (Lit.int .i64 a).sameKey (.int .i64 b) = decide (a = b) := by
  by_cases e : a = b
  · subst e; simp [Lit.sameKey]
  · simp [Lit.sameKey, e]
def prow (x : Int) : List (List UInt8) := if x = 1 then prims1 else if x = 2 then prims2 else if x = 3 then prims3 else []
theorem takesN_of {s : List UInt8} {x : Nat} (hx : x = 1 ∨ x = 2 ∨ x = 3) (h : s ∈ prow x) : takesN s = x := by
  have h12 : ∀ s ∈ prims2, s ∉ prims1 := by decide
  have h13 : ∀ s ∈ prims3, s ∉ prims1 := by decide
  have h23 : ∀ s ∈ prims3, s ∉ prims2 := by decide
  unfold takesN
  rcases hx with rfl | rfl | rfl
  · have h : s ∈ prims1 := h
    rw [if_pos h]
  · have h : s ∈ prims2 := h
    rw [if_neg (h12 s h), if_pos h]
  · have h : s ∈ prims3 := h
    rw [if_neg (h13 s h), if_neg (h23 s h), if_pos h]
theorem takesN_none {s : List UInt8} (h : ∀ x : Nat, (x = 1 ∨ x = 2 ∨ x = 3) → s ∉ prow x) : takesN s = 0 := by
  have h1 : s ∉ prims1 := h 1 (.inl rfl)
  have h2 : s ∉ prims2 := h 2 (.inr (.inl rfl))
  have h3 : s ∉ prims3 := h 3 (.inr (.inr rfl))
  unfold takesN
  rw [if_neg h1, if_neg h2, if_neg h3]
/-- What is there of a key. -/
theorem prim_row {w : World} {b1 b2 b3 : Nat} {x : Int} {v : Value} (h : primS b1 b2 b3 x = some v) (t1 : TxAt w (some ⟨b1, 0, none⟩) prims1) (t2 : TxAt w (some ⟨b2, 0, none⟩) prims2) (t3 : TxAt w (some ⟨b3, 0, none⟩) prims3) :
    ∃ (m b l : Nat), x = (m : Int) ∧ (m = 1 ∨ m = 2 ∨ m = 3) ∧ v = .slice (some ⟨b, 0, none⟩) l l ∧ (prow x).length = l ∧ l ≤ 16 ∧ TxAt w (some ⟨b, 0, none⟩) (prow x) := by
  unfold primS at h
  split at h
  · rename_i e; subst e; cases h; exact ⟨1, b1, 10, rfl, .inl rfl, rfl, rfl, by omega, t1⟩
  · split at h
    · rename_i e; subst e; cases h; exact ⟨2, b2, 16, rfl, .inr (.inl rfl), rfl, rfl, by omega, t2⟩
    · split at h
      · rename_i e; subst e; cases h; exact ⟨3, b3, 1, rfl, .inr (.inr rfl), rfl, rfl, by omega, t3⟩
      · cases h
theorem str_eqb (a b : List UInt8) : ((str a).toList == (str b).toList) = decide (a = b) := by
  rw [str_toList, str_toList]
  by_cases e : a = b
  · rw [e]; simp
  · rw [decide_eq_false e]; exact beq_eq_false_iff_ne.2 e
set_option maxRecDepth 20000 in
set_option maxHeartbeats 2000000 in
theorem takes_any (s : List UInt8) (w : World) : Calls Try.prog 22 #[.string (str s)] w fun e w' => e = .returned (.tuple #[.int .i64 (takesN s : Int), .bool (decide (0 < takesN s))]) ∧ Below w.heap.size w w' := by
  go_enter Try.func22, Try.ntmps22
  go_wp2_with fail
  refine (prims_any w).mono ?_
  rintro e wp ⟨rfl, ⟨b1, b2, b3, hM, t1, t2, t3⟩, hBp⟩
  obtain ⟨q, hq⟩ : ∃ q, w.heap.size = q := ⟨_, rfl⟩
  rw [hq] at hM ⊢
  have HQ := Lib.hid hq
  obtain ⟨D, hown, hS⟩ := hM
  have hql := hown.lt
  have HS := Lib.hid hS
  have HT := Lib.hid (And.intro t1 (And.intro t2 t3))
  have HBP := Lib.hid hBp
  clear hS t1 t2 t3 hBp hq
  go_wp2_with (first
    | (at_range; refine wpList_range_own _ rfl _ 101 rfl 3 103 (Maps.int_keyed Try.underlying3) Try.underlying101 _ q 3 D rfl hown ?_; intro w0 hrg0 hg0 hs0)
    | go_in)
  go_frame
  go_loopw [4] (fun _ wr => ∃ (left : Lit → Bool) (cnt : Nat), wr.ranges Try.prog 3 asIs q wp.heap.size 3 D left cnt ∧ Hid (Below wp.heap.size wp wr) ∧ Hid (∀ x : Nat, (x = 1 ∨ x = 2 ∨ x = 3) → left (.int .i64 (x : Int)) = false → s ∉ prow (x : Int)))
    (fun _ wr => wr.rangeLeft q wp.heap.size)
  case atStart =>
    refine ⟨_, _, hrg0, Lib.hid ⟨hg0.os, hg0.tape, hg0.output, hg0.size, fun k hk => hg0.block k hk (by simp)⟩, Lib.hid fun x hx hl => ?_⟩
    have h1 := Maps.atKey_of_not_has hl .nil
    have h2 := HS.out (x : Int) (show (Lit.int .i64 (x : Int)).wf = true from WalkArith.wf_i64 (by omega))
    have h3 : heldOr (primS b1 b2 b3 (x : Int)) = .nil := h2.symm.trans h1
    rcases hx with rfl | rfl | rfl <;> cases h3
  case round =>
    obtain ⟨left, cnt, hrg, HB, HN⟩ := hrel
    go_wp2_with (first
      | (at_next; refine next_held _ rfl _ rfl (primS b1 b2 b3) q wp.heap.size 3 D left cnt HS.out rfl hrg ?_ ?_)
      | go_in)
    · intro hc0 hl0
      have HE : Hid (takesN s = 0) := Lib.hid (takesN_none fun x hx => HN.out x hx (hl0 _))
      have HB2 : Hid (Below w.heap.size w wr) := Lib.hid (HBP.out.trans (HB.out.mono HBP.out.size))
      clear hrg
      go_wp2_with fail
      go_ret2
      exact ⟨by rw [HE.out]; rfl, HB2.out⟩
    · intro x v w1 cnt1 hwx hlx hfx hrg1 hlt hg1 hs1 hen
      have hb1 : Below wp.heap.size wp w1 := ⟨hg1.os.trans HB.out.os, hg1.tape.trans HB.out.tape, hg1.output.trans HB.out.output, Nat.le_trans HB.out.size hg1.size, fun k hk => (hg1.block k (Nat.lt_of_lt_of_le hk HB.out.size) (by simp; omega)).trans (HB.out.block k hk)⟩
      obtain ⟨m, b, l, rfl, hm, rfl, hl, hl16, hX⟩ := prim_row hfx (HT.out.1.bel hb1) (HT.out.2.1.bel hb1) (HT.out.2.2.bel hb1)
      have HB1 := Lib.hid hb1
      have HR := Lib.hid hrg
      have HR1 := Lib.hid hrg1
      have HX := Lib.hid (And.intro hX (And.intro hl (And.intro hm hlt)))
      clear hfx hwx hlx hg1 hs1 hb1 hrg hrg1 hlt hX hl hm
      go_wp2_with fail
      go_loopw [17] (fun v17 wx => ∃ i : Nat, i ≤ l ∧ v17 = .int .i64 (i : Int) ∧ w1 = wx ∧ Hid (s ∉ (prow (m : Int)).take i)) (fun v17 _ => l - (intOf v17).toNat)
      case atStart => exact ⟨0, Nat.zero_le _, rfl, rfl, Lib.hid (by simp)⟩
      case round =>
        obtain ⟨i, hi, rfl, rfl, HI⟩ := hrel
        by_cases hli : i < l
        · have hd : decide ((i : Int) < (l : Int)) = true := by simpa using hli
          obtain ⟨x, hx⟩ : ∃ x, (prow (m : Int))[i]? = some x := ⟨_, List.getElem?_eq_getElem (by rw [HX.out.2.1]; exact hli)⟩
          obtain ⟨bb, oo, eA, _, z0⟩ := HX.out.1.get hx
          injection eA with eA
          injection eA with e1 e2
          subst e1
          subst e2
          rw [Nat.zero_add] at z0
          by_cases he : x = s
          · have hq := str_eqb x s
            rw [decide_eq_true he] at hq
            have HV : Hid (takesN s = m ∧ Below w.heap.size w w1 ∧ decide (0 < m) = true) := Lib.hid ⟨takesN_of HX.out.2.2.1 (by rw [← he]; exact List.mem_of_getElem? hx), HBP.out.trans (HB1.out.mono HBP.out.size), by have := HX.out.2.2.1; rw [decide_eq_true]; omega⟩
            clear hx he HI
            go_wp2_with fail
            go_ret2
            exact ⟨by rw [HV.out.1, HV.out.2.2] <;> rfl, HV.out.2.1⟩
          · have hq := str_eqb x s
            rw [decide_eq_false he] at hq
            have HN2 : Hid (s ∉ (prow (m : Int)).take (i + 1)) := Lib.hid (by
              rw [List.take_add_one, hx]
              intro h
              rcases List.mem_append.1 h with h | h
              · exact HI.out h
              · simp at h; exact he h.symm)
            clear hx he HI
            go_wp2_with fail
            go_roundw
            case rel => exact ⟨i + 1, by omega, by go_num, trivial, HN2⟩
            case measure => simp [intOf]; omega
        · obtain rfl : l = i := by omega
          have hd : decide ((l : Int) < (l : Int)) = false := by simp
          have HN2 : Hid (∀ x : Nat, (x = 1 ∨ x = 2 ∨ x = 3) → (left (.int .i64 (x : Int)) && !(Lit.int .i64 (x : Int)).sameKey (.int .i64 (m : Int))) = false → s ∉ prow (x : Int)) := Lib.hid fun x hx hl2 => by
            by_cases e : x = m
            · subst e
              have := HI.out
              rwa [List.take_of_length_le (by rw [HX.out.2.1]; exact Nat.le_refl _)] at this
            · refine HN.out x hx ?_
              rw [same_int, decide_eq_false (by omega)] at hl2
              simpa using hl2
          go_wp2_with fail
          go_roundw
          case rel => exact ⟨_, cnt1, HR1.out, HB1, HN2⟩
          case measure => rw [HR1.out.left_eq, HR.out.left_eq]; exact HX.out.2.2.2
end Go.Proofs.Ytimkiifcmegfeaa
/- Steps of a region that draws its order, by hand. -/
namespace Go.Proofs.Ytimkiifcmegfeaa
open Go.RowKit

section
variable {P : Program} {ops : Array Oper} {Q : Exit → Act → World → Prop} {md : Region.Mode} {S : World → Prop}
/-- An operation that is wanted is taken first. -/
theorem takeY (i : Nat) (d : Option Tmp) {oi : Oper} {v : Value} {fuel : Nat} {listed : Array Bool} {a : Act} {w : World} (hi : ops[i]? = some oi) (hd : oi.dst = d)
    (hs : Region.noSelect ops = true) (hf : Region.free md ops listed i = true) (hr : (Region.ready md ops listed).contains i = true)
    (hQ : ∀ c a w, Q (.panic c) (a.put d v) w → Q (.panic c) a w) (hw : Region.wanted oi (yielded ops a.tmps) = true)
    (hy : ∀ w, S w → (execOp a.eval oi).run P w = .ok (.value v) w) (hS : S w)
    (h : wpAnyH P md ops Q S fuel (listed.setIfInBounds i true) (a.put d v) w) : wpAnyH P md ops Q S (fuel + 1) listed a w := by
  subst hd
  exact wpAnyH_take hi hs hf hr hQ (Or.inl ⟨hw, hy⟩) hS h
/-- The same, its place left open. -/
theorem takeT (i : Nat) {oi : Oper} {v : Value} {fuel : Nat} {listed : Array Bool} {a : Act} {w : World} (hi : ops[i]? = some oi)
    (hs : Region.noSelect ops = true) (hf : Region.free md ops listed i = true) (hr : (Region.ready md ops listed).contains i = true)
    (hQ : ∀ c a w, Q (.panic c) (a.put oi.dst v) w → Q (.panic c) a w) (hw : Region.wanted oi (yielded ops a.tmps) = true)
    (hy : ∀ w, S w → (execOp a.eval oi).run P w = .ok (.value v) w) (hS : S w)
    (h : wpAnyH P md ops Q S fuel (listed.setIfInBounds i true) (a.put oi.dst v) w) : wpAnyH P md ops Q S (fuel + 1) listed a w :=
  wpAnyH_take hi hs hf hr hQ (Or.inl ⟨hw, hy⟩) hS h
/-- One that is not wanted. -/
theorem takeN (i : Nat) (d : Option Tmp) {oi : Oper} {fuel : Nat} {listed : Array Bool} {a : Act} {w : World} (hi : ops[i]? = some oi) (hd : oi.dst = d)
    (hs : Region.noSelect ops = true) (hf : Region.free md ops listed i = true) (hr : (Region.ready md ops listed).contains i = true)
    (hQ : ∀ c a w, Q (.panic c) (a.put d undef) w → Q (.panic c) a w) (hw : Region.wanted oi (yielded ops a.tmps) = false) (hS : S w)
    (h : wpAnyH P md ops Q S fuel (listed.setIfInBounds i true) (a.put d undef) w) : wpAnyH P md ops Q S (fuel + 1) listed a w := by
  subst hd
  exact wpAnyH_take hi hs hf hr hQ (Or.inr ⟨hw, rfl⟩) hS h
end


end Go.Proofs.Ytimkiifcmegfeaa
/- aumbryref00's copies and comparisons. -/
namespace Go.Proofs.Ytimkiifcmegfeaa
open Go.RowKit

/-- The slice (g, 0), len, cap: it reads as cs; all its room is there, and none of it is frozen. -/
structure Rw (w : World) (g len cap : Nat) (cs : List UInt8) : Prop where
  lt : g < w.heap.size
  long : cs.length = len
  le : len ≤ cap
  max : cap ≤ maxLen
  holds : ∀ (j : Nat) (c : UInt8), cs[j]? = some c → w.cell? ⟨g, j, none⟩ = some (bv c)
  there : ∀ j, j < cap → (w.cell? ⟨g, j, none⟩).isSome = true ∧ w.frozen? ⟨g, j, none⟩ = false

theorem Rw.bytes {w : World} {g len cap : Nat} {cs : List UInt8} (h : Rw w g len cap cs) : Bytes w (some ⟨g, 0, none⟩) cs := fun k c hk =>
  ⟨g, 0, rfl, h.lt, by rw [Nat.zero_add]; exact h.holds k c hk⟩
theorem Rw.frame {w w' : World} {g len cap : Nat} {cs : List UInt8} (h : Rw w g len cap cs) (hs : w.heap.size ≤ w'.heap.size) (hb : w'.heap[g]? = w.heap[g]?) : Rw w' g len cap cs :=
  ⟨Nat.lt_of_lt_of_le h.lt hs, h.long, h.le, h.max, fun j c hj => (World.cell?_of_block (a := ⟨g, j, none⟩) hb).trans (h.holds j c hj),
    fun j hj => ⟨by rw [World.cell?_of_block (a := ⟨g, j, none⟩) hb]; exact (h.there j hj).1, (World.frozen?_of_block (a := ⟨g, j, none⟩) hb).trans (h.there j hj).2⟩⟩
theorem Rw.below {w w' : World} {g len cap : Nat} {cs : List UInt8} (h : Rw w g len cap cs) (hb : Below w.heap.size w w') : Rw w' g len cap cs := h.frame hb.size (hb.block g h.lt)
theorem Rw.of_own {w : World} {base g n cap : Nat} {cs : List UInt8} (h : w.ownsRow base 5 1 (.slice (some ⟨g, 0, none⟩) n cap) n (cs.map bv)) : Rw w g n cap cs := by
  rcases h.2 with ⟨e, _⟩ | ⟨g', cap', cur, e, _, hg, hn, hm, hs, ht⟩
  · cases e
  · injection e with e1 e2 e3
    injection e1 with e1
    injection e1 with e1
    subst e1; subst e3
    rw [Nat.mul_one] at hs ht
    have hB : Blk w g 5 cur := hg
    have hl : cs.length = n := by have := h.1; simpa using this
    refine ⟨hB.lt, hl, hn, hm, fun j c hj => ?_, fun j hj => ⟨?_, hB.frozen j⟩⟩
    · rw [hB.cell j]
      have hjl : j < n := by rw [← hl]; exact (List.getElem?_eq_some_iff.1 hj).1
      have e : (cs.map bv)[j]? = some (bv c) := by rw [List.getElem?_map, hj]; rfl
      rw [← ht, List.getElem?_take_of_lt hjl] at e
      rw [← Array.getElem?_toList]; exact e
    · rw [hB.cell j, Array.getElem?_eq_getElem (by rw [hs]; exact hj)]; rfl

/-- What a slice reads as is a source for append. -/
theorem bytes_src {w : World} {b off n c : Nat} {xs : List UInt8} (hn : xs.length = n) (h : ∀ j u, xs[j]? = some u → w.cell? ⟨b, off + j, none⟩ = some (bv u)) : Src Try.prog 1 26 (.slice (some ⟨b, off, none⟩) n c) n (xs.map bv) w :=
  Src.ofSlice w Try.underlying26 ⟨b, off, none⟩ n c (xs.map bv) (by simp [hn]) (fun j u hu => by
    rw [List.getElem?_map] at hu
    cases hj : xs[j]? with
    | none => rw [hj] at hu; cases hu
    | some d =>
      rw [hj] at hu
      simp only [Option.map_some, Option.some.injEq] at hu
      subst hu
      have e2 : (⟨b, off, none⟩ : Addr).add j = ⟨b, off + j, none⟩ := by unfold Addr.add; split <;> simp_all
      rw [e2]; exact h j d hj)
    (fun u hu => by obtain ⟨d, _, rfl⟩ := List.mem_map.1 hu; rfl)

theorem setCells_other (g : Nat) : ∀ (vs : List Value) (o : Nat) (w : World), (w.setCells g o vs).os = w.os ∧ (w.setCells g o vs).tape = w.tape ∧ (w.setCells g o vs).output = w.output ∧ (w.setCells g o vs).heap.size = w.heap.size ∧ (∀ k, k ≠ g → (w.setCells g o vs).heap[k]? = w.heap[k]?) ∧ ∀ a, (w.setCells g o vs).frozen? a = w.frozen? a
  | [], _, w => ⟨rfl, rfl, rfl, rfl, fun _ _ => rfl, fun _ => rfl⟩
  | v :: r, o, w => by
    obtain ⟨h1, h2, h3, h4, h5, h6⟩ := setCells_other g r (o + 1) (w.setCell ⟨g, o, none⟩ v)
    refine ⟨h1, h2, h3, h4.trans (by simp [World.setCell]), fun k hk => (h5 k hk).trans ?_, fun a => (h6 a).trans (World.frozen?_setCell _ _ _ _)⟩
    simp only [World.setCell, Array.getElem?_modify]
    rw [if_neg (fun e => hk e.symm)]

theorem run_rwapp {w : World} {g len cap : Nat} {cs xs : List UInt8} (h : Rw w g len cap cs) (b off n c : Nat) (hn : xs.length = n) (hx : ∀ j u, xs[j]? = some u → w.cell? ⟨b, off + j, none⟩ = some (bv u)) (hb : len + n ≤ 140737488355328) :
    ∃ g' cap' w', (Builtin.append_ #[26, 26] 26 #[.slice (some ⟨g, 0, none⟩) len cap, .slice (some ⟨b, off, none⟩) n c]).run Try.prog w = .ok (.slice (some ⟨g', 0, none⟩) (len + n) cap') w' ∧
      Rw w' g' (len + n) cap' (cs ++ xs) ∧ Rw w' g len cap cs ∧ (g' = g ∧ cap' = cap ∨ g' = w.heap.size) ∧ (∀ k, k < w.heap.size → k ≠ g → w'.heap[k]? = w.heap[k]?) ∧ (∀ B, B ≤ g → Below B w w') := by
  obtain ⟨i0, hi, hz0, hz1, hz2⟩ := info_parts Try.info8
  have hs := bytes_src (c := c) hn hx
  rw [← hz1] at hs
  have hml : (cs ++ xs).length = len + n := by rw [List.length_append, h.long, hn]
  by_cases hroom : len + n ≤ cap
  · have hr := run_append_room_src (P := Try.prog) w 26 26 26 5 i0 Try.underlying26 hi g 0 len cap _ n _ hs hroom
      (fun j hj => by rw [hz1]; simp at hj; exact (h.there _ (by omega)).1) (fun j hj => by rw [hz1]; simp at hj; exact (h.there _ (by omega)).2)
    rw [hz1, Nat.zero_add, Nat.mul_one] at hr
    obtain ⟨o1, o2, o3, o4, o5, o6⟩ := setCells_other g (xs.map bv) len w
    have hin := World.cell?_setCells_in g (xs.map bv) len w (fun j hj => by simp at hj; exact (h.there _ (by omega)).1)
    have hout := fun k (hk : k < len ∨ len + n ≤ k) => World.cell?_setCells_out g (xs.map bv) len w ⟨g, k, none⟩ (fun _ _ => by simp; omega)
    have hth : ∀ j, j < cap → ((w.setCells g len (xs.map bv)).cell? ⟨g, j, none⟩).isSome = true ∧ (w.setCells g len (xs.map bv)).frozen? ⟨g, j, none⟩ = false := fun j hj => by
      refine ⟨?_, by rw [o6]; exact (h.there j hj).2⟩
      by_cases h1 : j < len ∨ len + n ≤ j
      · rw [hout j h1]; exact (h.there j hj).1
      · have := hin (j - len) (by simp; omega)
        rw [show len + (j - len) = j by omega] at this
        rw [this]; rfl
    have hol : ∀ (j : Nat) (c : UInt8), cs[j]? = some c → (w.setCells g len (xs.map bv)).cell? ⟨g, j, none⟩ = some (bv c) := fun j c hj => by
      have hjl := (List.getElem?_eq_some_iff.1 hj).1
      rw [h.long] at hjl
      rw [hout j (.inl hjl)]; exact h.holds j c hj
    refine ⟨g, cap, _, hr, ⟨by rw [o4]; exact h.lt, hml, hroom, h.max, fun j c hj => ?_, hth⟩, ⟨by rw [o4]; exact h.lt, h.long, h.le, h.max, hol, hth⟩, .inl ⟨rfl, rfl⟩, fun k _ hk => o5 k hk, fun B hB => ⟨o1, o2, o3, by rw [o4]; exact Nat.le_refl _, fun k hk => o5 k (by omega)⟩⟩
    by_cases hjl : j < len
    · rw [List.getElem?_append_left (by rw [h.long]; exact hjl)] at hj
      exact hol j c hj
    · rw [List.getElem?_append_right (by rw [h.long]; omega), h.long] at hj
      have hj' := (List.getElem?_eq_some_iff.1 hj).1
      have := hin (j - len) (by simp; exact hj')
      rw [show len + (j - len) = j by omega] at this
      rw [this]
      obtain ⟨_, e⟩ := List.getElem?_eq_some_iff.1 hj
      rw [List.getElem_map, e]
  · have hho : (Builtin.firstCells i0.size len (.slice (some ⟨g, 0, none⟩) len cap)).run Try.prog w.drew = .ok (cs.map bv).toArray w.drew := by
      rw [hz1]
      exact run_firstCells_some w.drew 1 len ⟨g, 0, none⟩ len cap (cs.map bv) (by simp [h.long]) (fun j u hu => by
        rw [List.getElem?_map] at hu
        cases hj : cs[j]? with
        | none => rw [hj] at hu; cases hu
        | some d =>
          rw [hj] at hu
          simp only [Option.map_some, Option.some.injEq] at hu
          subst hu
          rw [Addr.add_lit, Nat.zero_add]
          exact h.holds j d hj)
    have hmx := h.max
    have hr := run_append_grow_src (P := Try.prog) w 26 26 26 5 i0 _ Try.underlying26 hi hz0 (some ⟨g, 0, none⟩) len cap _ hho _ n _ hs (by omega) (by omega) (growslice_fits (by omega) (by rw [hz2]; omega))
    have hge := grownCap_ge w (len + n) cap 5
    have hcm := grownCap_le_maxLen w (len + n) cap 5 (by unfold maxLen; omega)
    refine ⟨w.heap.size, _, _, hr, ?_, h.frame (by simp) (Below.heap_alloc w.drew _ g h.lt), .inr rfl, fun k hk _ => Below.heap_alloc w.drew _ k hk, fun B hB => ⟨rfl, rfl, rfl, by simp, fun k hk => Below.heap_alloc w.drew _ k (show k < w.heap.size by have := h.lt; omega)⟩⟩
    have hcell := fun j => World.cell?_alloc_new w.drew ((List.map bv cs ++ List.map bv xs).toArray ++ Builtin.zeroCells (Value.int IntKind.u8 0).cells (grownCap w (len + n) cap 5 - (len + n))) 5 j
    refine ⟨by simp, hml, hge, hcm, fun j c hj => ?_, fun j hj => ⟨?_, World.frozen?_alloc_new w.drew _ _ j⟩⟩
    · refine (hcell j).trans ?_
      have hj' := (List.getElem?_eq_some_iff.1 hj).1
      rw [Array.getElem?_append_left (by simpa using hj'), List.getElem?_toArray, ← List.map_append, List.getElem?_map, hj]
      rfl
    · have e1 := hcell j
      refine (congrArg Option.isSome e1).trans ?_
      rw [Array.getElem?_eq_getElem]
      · rfl
      · rw [Array.size_append, size_zeroCells]
        simp only [List.size_toArray, List.length_append, List.length_map, h.long, hn]
        show j < len + n + (grownCap w (len + n) cap 5 - (len + n)) * 1
        omega


theorem run_bytes8 (w : World) (bs : List UInt8) (hl : bs.length ≤ maxLen) : ∃ c w', (convert 9 26 (.string (str bs))).run Try.prog w = .ok (.slice (some ⟨w.heap.size, 0, none⟩) bs.length c) w' ∧ Rw w' w.heap.size bs.length c bs ∧ Below w.heap.size w w' := by
  have h := Lib.run_convert_string_bytes (P := Try.prog) w 9 26 5 (str bs) Try.underlying9 Try.underlying26 Try.underlying5
  have hsz : (str bs).size = bs.length := by simp [str, ByteArray.size]
  rw [hsz] at h
  have hge := grownCap_ge w bs.length 0 5
  have hcm := grownCap_le_maxLen w bs.length 0 5 hl
  have hn := Lib.bytesWorld_at_new w 5 (str bs)
  have hcs : (Lib.bytesCells w 5 (str bs)).size = grownCap w bs.length 0 5 := by
    unfold Lib.bytesCells
    rw [hsz, Array.size_append]
    simp only [str, List.map_toArray, List.size_toArray, List.length_map, Array.size_replicate]
    omega
  have hcell : ∀ j, (Lib.bytesWorld w 5 (str bs)).cell? ⟨w.heap.size, j, none⟩ = (Lib.bytesCells w 5 (str bs))[j]? := fun j => by
    simp [World.cell?, hn]
  refine ⟨_, _, h, ⟨by rw [Lib.bytesWorld_size]; omega, rfl, hge, hcm, fun j c hj => ?_, fun j hj => ⟨?_, ?_⟩⟩, ⟨rfl, rfl, rfl, by rw [Lib.bytesWorld_size]; omega, fun k hk => Lib.bytesWorld_at_old w 5 (str bs) k hk⟩⟩
  · have hjl := (List.getElem?_eq_some_iff.1 hj).1
    rw [hcell, Lib.bytesCells, Array.getElem?_append_left (by simp [str]; exact hjl)]
    simp only [str, List.map_toArray, List.getElem?_toArray, List.getElem?_map, hj]
    rfl
  · rw [hcell, Array.getElem?_eq_getElem (by rw [hcs]; exact hj)]; rfl
  · simp only [World.frozen?, hn, hcs]
    simp
    omega

set_option maxHeartbeats 400000 in
theorem copy_any (A : Option Addr) (len cap : Nat) (bs : List UInt8) (w : World) (hlen : bs.length = len) (hA : Bytes w A bs) (hl : len ≤ maxLen) :
    Calls Try.prog 29 #[.slice A len cap] w fun e w' => ∃ c, e = .returned (.slice (some ⟨w.heap.size, 0, none⟩) len c) ∧ Rw w' w.heap.size len c bs ∧ Below w.heap.size w w' := by
  have hs := run_str8L w A len cap bs hlen hA
  obtain ⟨c, w1, hb, hR, hbel⟩ := run_bytes8 w bs (by omega)
  rw [hlen] at hb hR
  have HR := Lib.hid hR
  have HB := Lib.hid hbel
  obtain ⟨s, hse⟩ : ∃ s, str bs = s := ⟨_, rfl⟩
  rw [hse] at hs hb
  clear hR hbel hA hse hlen
  go_enter Try.func29, Try.ntmps29
  go_wp2_with fail
  go_ret
  exact ⟨c, rfl, HR.out, HB.out⟩


def lenV : Value → Nat | .slice _ n _ => n | _ => 0

theorem drewN_below (w : World) (n : Nat) : Below w.heap.size w (w.drewN n) := ⟨rfl, rfl, rfl, Nat.le_refl _, fun _ _ => rfl⟩

/-- What is left of a slice behind its first element. -/
theorem Bytes.tail {w : World} {b off : Nat} {x : UInt8} {p : List UInt8} (h : Bytes w (some ⟨b, off, none⟩) (x :: p)) (A : Option Addr) (hA : p ≠ [] → A = some ⟨b, off + 1, none⟩) : Bytes w A p := fun k c hk => by
  have hp : p ≠ [] := fun e => by rw [e] at hk; simp at hk
  obtain ⟨b', off', e, hlt, hc⟩ := h (k + 1) c (by simpa using hk)
  cases e
  exact ⟨b, off + 1, hA hp, hlt, by rw [show off + 1 + k = off + (k + 1) by omega]; exact hc⟩

set_option maxRecDepth 20000 in
set_option maxHeartbeats 1000000 in
theorem eq_any (A B : Option Addr) (l1 c1 l2 c2 : Nat) (xs ys : List UInt8) (w : World) (h1 : xs.length = l1) (h2 : ys.length = l2) (hA : Bytes w A xs) (hB : Bytes w B ys) (hc1 : l1 ≤ c1 ∧ c1 ≤ 9223372036854775807 ∧ l1 ≤ 4503599627370496) (hc2 : l2 ≤ c2 ∧ c2 ≤ 9223372036854775807 ∧ l2 ≤ 4503599627370496) :
    Calls Try.prog 16 #[.slice A l1 c1, .slice B l2 c2] w fun e w' => e = .returned (.bool (decide (xs = ys))) ∧ Below w.heap.size w w' := by
  have HA := Lib.hid hA
  have HB := Lib.hid hB
  subst h1
  subst h2
  clear hA hB
  go_enter Try.func16, Try.ntmps16
  go_wp2_with fail
  go_loopw [0, 1] (fun a b wr => ∃ (p q : List UInt8) (A' B' : Option Addr) (n1 n2 d1 d2 : Nat), p.length = n1 ∧ q.length = n2 ∧ a = .slice A' n1 d1 ∧ b = .slice B' n2 d2 ∧ (n1 ≤ d1 ∧ d1 ≤ 9223372036854775807 ∧ n1 ≤ 4503599627370496) ∧ (n2 ≤ d2 ∧ d2 ≤ 9223372036854775807 ∧ n2 ≤ 4503599627370496) ∧ Hid (Bytes wr A' p) ∧ Hid (Bytes wr B' q) ∧ Hid (xs = ys ↔ p = q) ∧ Hid (Below w.heap.size w wr)) (fun a _ _ => lenV a)
  case atStart => exact ⟨xs, ys, _, _, _, _, _, _, rfl, rfl, rfl, rfl, hc1, hc2, HA, HB, Lib.hid Iff.rfl, Lib.hid (Below.refl _ _)⟩
  case round =>
    clear HA HB
    obtain ⟨p, q, A', B', n1, n2, d1, d2, hp, hq, rfl, rfl, hd1, hd2, hA, hB, hiff, hbel⟩ := hrel
    have hbn : ∀ n, Hid (Below w.heap.size w (wr.drewN n)) := fun n => Lib.hid (hbel.out.trans ((drewN_below wr n).mono hbel.out.size))
    have HBN := Lib.hid hbn
    clear hbn
    cases p with
    | nil =>
      obtain rfl : n1 = 0 := hp.symm
      have hr : Hid (decide (xs = ys) = ((n2 : Int) == 0)) := Lib.hid (by
        have := hiff.out
        rw [Bool.eq_iff_iff]
        simp only [decide_eq_true_eq, beq_iff_eq]
        rw [this, ← hq]
        cases q <;> simp; omega)
      clear hp hq
      go_wp2_with fail
      go_quiet (fail)
      go_wp2_with fail
      go_ret
      exact ⟨by rw [hr.out]; rfl, (HBN.out _).out⟩
    | cons x p' =>
      obtain ⟨m1, rfl⟩ : ∃ m, n1 = m + 1 := ⟨p'.length, by rw [← hp]; rfl⟩
      have hp' : p'.length = m1 := by simpa using hp
      cases q with
      | nil =>
        obtain rfl : n2 = 0 := hq.symm
        have hr : Hid (decide (xs = ys) = false) := Lib.hid (by simp [hiff.out])
        clear hp hq hp'
        have hd : decide ((0 : Int) < ((m1 + 1 : Nat) : Int)) = true := by simp
        go_wp2_with fail
        go_quiet (fail)
        go_wp2_with fail
        go_ret
        exact ⟨by rw [hr.out]; simp; omega, (HBN.out _).out⟩
      | cons y q' =>
        obtain ⟨m2, rfl⟩ : ∃ m, n2 = m + 1 := ⟨q'.length, by rw [← hq]; rfl⟩
        have hq' : q'.length = m2 := by simpa using hq
        obtain ⟨b, off, rfl, hbl, hcx⟩ := hA.out.at_ (k := 0) (by simp)
        obtain ⟨b2, off2, rfl, hbl2, hcy⟩ := hB.out.at_ (k := 0) (by simp)
        have kx : wr.cell? ⟨b, off, none⟩ = some (.int .u8 (x.toNat : Int)) := hcx 0 x rfl
        have ky : wr.cell? ⟨b2, off2, none⟩ = some (.int .u8 (y.toNat : Int)) := hcy 0 y rfl
        have hd : decide ((0 : Int) < ((m1 + 1 : Nat) : Int)) = true := by simp
        have hde : decide ((0 : Int) < ((m2 + 1 : Nat) : Int)) = true := by simp
        clear hcx hcy hp hq
        by_cases hxy : x = y
        · subst hxy
          go_wp2_with fail
          go_quiet (fail)
          go_wp2_with fail
          refine ⟨⟨p', q', _, _, m1, m2, d1 - 1, d2 - 1, hp', hq', rfl, rfl, by omega, by omega, Lib.hid ((hA.out.tail _ (fun hne => ?_)).below (drewN_below wr _)), Lib.hid ((hB.out.tail _ (fun hne => ?_)).below (drewN_below wr _)), Lib.hid (by rw [hiff.out]; simp), HBN.out _⟩, by simp [lenV]⟩
          · have : 0 < m1 := by rw [← hp']; exact List.length_pos_iff.2 hne
            rw [if_neg (by omega)]
          · have : 0 < m2 := by rw [← hq']; exact List.length_pos_iff.2 hne
            rw [if_neg (by omega)]
        · have hr : Hid (decide (xs = ys) = false) := Lib.hid (by
            have := hiff.out
            simp only [decide_eq_false_iff_not]
            rw [this]
            intro e
            injection e with e1 _
            exact hxy e1)
          have hne : ((x.toNat : Int) == (y.toNat : Int)) = false := by
            have : x.toNat ≠ y.toNat := fun e => hxy (UInt8.toNat_inj.1 e)
            simp; omega
          go_wp2_with fail
          go_quiet (fail)
          go_wp2_with fail
          go_ret
          exact ⟨by rw [hr.out]; simp; omega, (HBN.out _).out⟩


end Go.Proofs.Ytimkiifcmegfeaa
/- CopyBytes, tail, Roomy. -/
namespace Go.Proofs.Ytimkiifcmegfeaa
open Go.RowKit

def behind : List UInt8 := [98, 101, 104, 105, 110, 100]

theorem tail_any (w : World) : Calls Try.prog 30 #[] w fun e w' => e = .returned (.slice (some ⟨w.heap.size, 0, none⟩) 6 6) ∧ Bytes w' (some ⟨w.heap.size, 0, none⟩) behind ∧ Below w.heap.size w w' := by
  have hcv := fun W : World => Lib.run_convert_bytes_const (P := Try.prog) W 26 5 #[.int .u8 98, .int .u8 101, .int .u8 104, .int .u8 105, .int .u8 110, .int .u8 100] 6 6 Try.underlying26 Try.underlying5
  have hby : Bytes (w.alloc (.cells #[.int .u8 98, .int .u8 101, .int .u8 104, .int .u8 105, .int .u8 110, .int .u8 100] 5 (6, 7))) (some ⟨w.heap.size, 0, none⟩) behind := fun k c hk => by
    refine ⟨w.heap.size, 0, rfl, by simp, ?_⟩
    have h := World.cell?_alloc_mark w #[.int .u8 98, .int .u8 101, .int .u8 104, .int .u8 105, .int .u8 110, .int .u8 100] 5 (6, 7) (0 + k)
    refine h.trans ?_
    have hr := row8_get k c hk
    rw [Nat.zero_add]
    exact hr
  have HBY := Lib.hid hby
  have HB := Lib.hid ((Below.refl w.heap.size w).alloc (Nat.le_refl _) (.cells #[.int .u8 98, .int .u8 101, .int .u8 104, .int .u8 105, .int .u8 110, .int .u8 100] 5 (6, 7)))
  clear hby
  go_enter Try.func30, Try.ntmps30
  go_wp2_with fail
  go_ret
  exact ⟨rfl, HBY.out, HB.out⟩

set_option maxHeartbeats 400000 in
theorem roomy_any (A : Option Addr) (len cap : Nat) (bs : List UInt8) (w : World) (hlen : bs.length = len) (hA : Bytes w A bs) (hl : len ≤ 70368744177664) :
    Calls Try.prog 13 #[.slice A len cap] w fun e w' => ∃ g, e = .returned (.slice (some ⟨g, 0, none⟩) len (len + 6)) ∧ w.heap.size ≤ g ∧ Rw w' g (len + 6) (len + 6) (bs ++ behind) ∧ Below w.heap.size w w' := by
  have H1 := Lib.hid (copy_any A len cap bs w hlen hA (by unfold maxLen; omega))
  clear hA hlen
  go_enter Try.func13, Try.ntmps13
  go_wp2_with fail
  refine H1.out.mono ?_
  rintro e w1 ⟨c1, rfl, hR1, hb1⟩
  have HR1 := Lib.hid hR1
  have HB1 := Lib.hid hb1
  have H2 := Lib.hid (tail_any w1)
  clear H1 hR1 hb1
  go_wp2_with fail
  refine H2.out.mono ?_
  rintro e w2 ⟨rfl, hby2, hb2⟩
  have hR2 := HR1.out.below hb2
  have hB2 := HB1.out.trans (hb2.mono HB1.out.size)
  obtain ⟨g, c', w3, hrun, hR3, _, hor, _, hbel⟩ := run_rwapp hR2 w1.heap.size 0 6 6 (xs := behind) rfl (fun j u hu => by
    obtain ⟨b, off, e, _, hc⟩ := hby2 j u hu
    cases e
    exact hc) (by omega)
  have hg : w.heap.size ≤ g := by
    rcases hor with ⟨rfl, _⟩ | rfl
    · exact Nat.le_refl _
    · exact hB2.size
  have hle := hR3.le
  have HRUN := Lib.hid hrun
  have HR3 : Hid (Rw w3 g (len + 6) (len + 6) (bs ++ behind)) := Lib.hid ⟨hR3.lt, hR3.long, Nat.le_refl _, Nat.le_trans hR3.le hR3.max, hR3.holds, fun j hj => hR3.there j (by omega)⟩
  have HB3 := Lib.hid (hB2.trans (hbel _ (Nat.le_refl _)))
  have hci : (len : Int) + 6 ≤ (c' : Int) := by omega
  clear H2 hby2 hb2 hR2 hB2 hrun hR3 hor hbel HR1 HB1
  go_wp2_with (at_builtin; refine wpList_app rfl _ _ 26 rfl _ _ _ _ rfl rfl HRUN.out ?_; clear HRUN)
  go_ret
  exact ⟨g, rfl, hg, HR3.out, HB3.out⟩

end Go.Proofs.Ytimkiifcmegfeaa
/- Kept. -/
namespace Go.Proofs.Ytimkiifcmegfeaa
open Go.RowKit

set_option maxRecDepth 20000 in
set_option maxHeartbeats 1000000 in
theorem kept_any (g len : Nat) (B : Option Addr) (cap : Nat) (bs : List UInt8) (w : World) (hlen : bs.length = len) (hR : Rw w g (len + 6) (len + 6) (bs ++ behind)) (hB : Bytes w B bs) (hcap : len ≤ cap ∧ cap ≤ 9223372036854775807) (hl : len ≤ 70368744177664) :
    Calls Try.prog 19 #[.slice (some ⟨g, 0, none⟩) len (len + 6), .slice B len cap] w fun e w' => e = .returned (.bool true) ∧ Below w.heap.size w w' := by
  have hbi : Bytes w (some ⟨g, 0, none⟩) bs := fun k c hk => hR.bytes k c (by rw [List.getElem?_append_left (List.getElem?_eq_some_iff.1 hk).1]; exact hk)
  have hbt : Bytes w (some ⟨g, len, none⟩) behind := fun k c hk => ⟨g, len, rfl, hR.lt, hR.holds (len + k) c (by rw [List.getElem?_append_right (by omega), hlen, Nat.add_sub_cancel_left]; exact hk)⟩
  have HE1 : Hid (∀ W, Below w.heap.size w W → Calls Try.prog 16 #[.slice (some ⟨g, 0, none⟩) len (len + 6), .slice B len cap] W fun e w' => e = .returned (.bool true) ∧ Below W.heap.size W w') := Lib.hid (fun W hW => by
    have := eq_any (some ⟨g, 0, none⟩) B len (len + 6) len cap bs bs W hlen hlen (hbi.below hW) (hB.below hW) (by omega) (by omega)
    rw [decide_eq_true (rfl : bs = bs)] at this
    exact this)
  have HE2 : Hid (∀ W W' X, Below w.heap.size w W → Below W.heap.size W W' → Bytes W' (some X) behind → Calls Try.prog 16 #[.slice (some ⟨g, len, none⟩) 6 6, .slice (some X) 6 6] W' fun e w' => e = .returned (.bool true) ∧ Below W'.heap.size W' w') := Lib.hid (fun W W' X hW hW' hX => by
    have := eq_any (some ⟨g, len, none⟩) (some X) 6 6 6 6 behind behind W' rfl rfl ((hbt.below hW).below hW') hX (by omega) (by omega)
    rw [decide_eq_true (rfl : behind = behind)] at this
    exact this)
  have H0 := Lib.hid (tail_any w)
  have HT : Hid (∀ W, Calls Try.prog 30 #[] W fun e w' => e = .returned (.slice (some ⟨W.heap.size, 0, none⟩) 6 6) ∧ Bytes w' (some ⟨W.heap.size, 0, none⟩) behind ∧ Below W.heap.size W w') := Lib.hid tail_any
  have hq1 : (0 : Int) ≤ (len : Int) + 6 := by omega
  have hq2 : ((len : Int) + 6).toNat = len + 6 := by omega
  have hq3 : len ≤ len + 6 := by omega
  have hq4 : len + 6 - len = 6 := by omega
  clear hR hB hbi hbt hlen
  go_enter Try.func19, Try.ntmps19
  go_wp2_with fail
  refine H0.out.mono ?_
  rintro e w1 ⟨rfl, _, hb1⟩
  have HB1 : Hid (Below w.heap.size w w1.drew) := Lib.hid hb1.drew
  clear hb1 H0
  go_wp2_with fail
  refine wp_region_held_drew (S := fun _ => True) (by kernel_rfl) trivial (fun hHeld => ?_)
  refine takeY 0 (some 11) rfl rfl (by kernel_rfl) (by kernel_rfl) (by kernel_rfl) (fun _ _ _ h => h) (by rfl) (v := _) (by (intro _ hSw; (try dsimp only at hSw); go_simp; try with_reducible rfl)) hHeld ?_
  simp only [Act.put, List.setIfInBounds_toArray, List.set_cons_zero, List.set_cons_succ]
  refine takeY 1 (some 12) rfl rfl (by kernel_rfl) (by kernel_rfl) (by kernel_rfl) (fun _ _ _ h => h) (by rfl) (v := _) (by (intro _ hSw; (try dsimp only at hSw); go_simp; try with_reducible rfl)) hHeld ?_
  simp only [Act.put, List.setIfInBounds_toArray, List.set_cons_zero, List.set_cons_succ]
  refine wpAnyH_ready (rs := [2]) (by kernel_rfl) (by simp) ?_
  refine AllReadyH.cons rfl (fun K hK => ?_) AllReadyH.nil
  clear hHeld
  go_simp
  go_wp2_with (go_at_call 16; refine Calls.mono (HE1.out _ HB1.out) ?_; rintro e w2 ⟨rfl, hb2⟩; have HB2 := Lib.hid (HB1.out.trans (hb2.mono HB1.out.size)); clear hb2 HE1)
  refine hK.out _ _ trivial (fun hHeld => ?_)
  clear hK K
  refine takeY 3 (some 14) rfl rfl (by kernel_rfl) (by kernel_rfl) (by kernel_rfl) (fun _ _ _ h => h) (by rfl) (v := _) (by (intro _ hSw; (try dsimp only at hSw); go_simp; try with_reducible rfl)) hHeld ?_
  simp only [Act.put, List.setIfInBounds_toArray, List.set_cons_zero, List.set_cons_succ]
  refine takeY 4 (some 15) rfl rfl (by kernel_rfl) (by kernel_rfl) (by kernel_rfl) (fun _ _ _ h => h) (by rfl) (v := _) (by (intro _ hSw; (try dsimp only at hSw); go_simp; try with_reducible rfl)) hHeld ?_
  simp only [Act.put, List.setIfInBounds_toArray, List.set_cons_zero, List.set_cons_succ]
  refine takeY 5 (some 16) rfl rfl (by kernel_rfl) (by kernel_rfl) (by kernel_rfl) (fun _ _ _ h => h) (by rfl) (v := _) (by (intro _ hSw; (try dsimp only at hSw); go_simp; try with_reducible rfl)) hHeld ?_
  simp only [Act.put, List.setIfInBounds_toArray, List.set_cons_zero, List.set_cons_succ]
  refine takeY 6 (some 17) rfl rfl (by kernel_rfl) (by kernel_rfl) (by kernel_rfl) (fun _ _ _ h => h) (by rfl) (v := _) (by (intro _ hSw; (try dsimp only at hSw); go_simp; try with_reducible rfl)) hHeld ?_
  simp only [Act.put, List.setIfInBounds_toArray, List.set_cons_zero, List.set_cons_succ]
  refine takeY 7 (some 18) rfl rfl (by kernel_rfl) (by kernel_rfl) (by kernel_rfl) (fun _ _ _ h => h) (by rfl) (v := _) (by (intro _ hSw; (try dsimp only at hSw); go_simp; try with_reducible rfl)) hHeld ?_
  simp only [Act.put, List.setIfInBounds_toArray, List.set_cons_zero, List.set_cons_succ]
  refine takeY 8 (some 19) rfl rfl (by kernel_rfl) (by kernel_rfl) (by kernel_rfl) (fun _ _ _ h => h) (by rfl) (v := _) (by (intro _ hSw; (try dsimp only at hSw); go_simp; try with_reducible rfl)) hHeld ?_
  simp only [Act.put, List.setIfInBounds_toArray, List.set_cons_zero, List.set_cons_succ]
  refine takeY 9 (some 20) rfl rfl (by kernel_rfl) (by kernel_rfl) (by kernel_rfl) (fun _ _ _ h => h) (by rfl) (v := _) (by (intro _ hSw; (try dsimp only at hSw); go_simp; try with_reducible rfl)) hHeld ?_
  simp only [Act.put, List.setIfInBounds_toArray, List.set_cons_zero, List.set_cons_succ]
  refine takeY 10 (some 21) rfl rfl (by kernel_rfl) (by kernel_rfl) (by kernel_rfl) (fun _ _ _ h => h) (by rfl) (v := _) (by (intro _ hSw; (try dsimp only at hSw); go_simp; try with_reducible rfl)) hHeld ?_
  simp only [Act.put, List.setIfInBounds_toArray, List.set_cons_zero, List.set_cons_succ]
  refine takeY 11 (some 22) rfl rfl (by kernel_rfl) (by kernel_rfl) (by kernel_rfl) (fun _ _ _ h => h) (by rfl) (v := _) (by (intro _ hSw; (try dsimp only at hSw); go_simp; try with_reducible rfl)) hHeld ?_
  simp only [Act.put, List.setIfInBounds_toArray, List.set_cons_zero, List.set_cons_succ]
  refine takeY 12 (some 23) rfl rfl (by kernel_rfl) (by kernel_rfl) (by kernel_rfl) (fun _ _ _ h => h) (by rfl) (v := _) (by (intro _ hSw; (try dsimp only at hSw); go_simp; try with_reducible rfl)) hHeld ?_
  simp only [Act.put, List.setIfInBounds_toArray, List.set_cons_zero, List.set_cons_succ]
  refine takeY 13 (some 24) rfl rfl (by kernel_rfl) (by kernel_rfl) (by kernel_rfl) (fun _ _ _ h => h) (by rfl) (v := _) (by (intro _ hSw; (try dsimp only at hSw); go_simp; try with_reducible rfl)) hHeld ?_
  simp only [Act.put, List.setIfInBounds_toArray, List.set_cons_zero, List.set_cons_succ]
  refine takeY 14 (some 25) rfl rfl (by kernel_rfl) (by kernel_rfl) (by kernel_rfl) (fun _ _ _ h => h) (by rfl) (v := _) (by (intro _ hSw; (try dsimp only at hSw); go_simp; try with_reducible rfl)) hHeld ?_
  simp only [Act.put, List.setIfInBounds_toArray, List.set_cons_zero, List.set_cons_succ]
  refine wpAnyH_ready (rs := [15]) (by kernel_rfl) (by simp) ?_
  refine AllReadyH.cons rfl (fun K hK => ?_) AllReadyH.nil
  clear hHeld
  go_simp
  go_wp2_with (go_at_call 30; refine Calls.mono (HT.out _) ?_; rintro e w3 ⟨rfl, hby3, hb3⟩; have HBY3 := Lib.hid hby3; have HB3 := Lib.hid hb3; clear hby3 hb3 HT)
  refine hK.out _ _ trivial (fun hHeld => ?_)
  clear hK K
  refine wpAnyH_ready (rs := [16]) (by kernel_rfl) (by simp) ?_
  refine AllReadyH.cons rfl (fun K hK => ?_) AllReadyH.nil
  clear hHeld
  go_simp
  go_wp2_with (go_at_call 16; refine Calls.mono (HE2.out _ _ _ HB2.out HB3.out HBY3.out) ?_; rintro e w4 ⟨rfl, hb4⟩; have HB4 := Lib.hid ((HB2.out.trans (HB3.out.mono HB2.out.size)).trans (hb4.mono (Nat.le_trans HB2.out.size HB3.out.size))); clear hb4 HE2)
  refine hK.out _ _ trivial (fun hHeld => ?_)
  clear hK K
  refine takeY 17 (some 28) rfl rfl (by kernel_rfl) (by kernel_rfl) (by kernel_rfl) (fun _ _ _ h => h) (by rfl) (v := _) (by (intro _ hSw; (try dsimp only at hSw); go_simp; try with_reducible rfl)) hHeld ?_
  simp only [Act.put, List.setIfInBounds_toArray, List.set_cons_zero, List.set_cons_succ]
  refine takeY 18 (some 4) rfl rfl (by kernel_rfl) (by kernel_rfl) (by kernel_rfl) (fun _ _ _ h => h) (by rfl) (v := _) (by (intro _ hSw; (try dsimp only at hSw); go_simp; try with_reducible rfl)) hHeld ?_
  simp only [Act.put, List.setIfInBounds_toArray, List.set_cons_zero, List.set_cons_succ]
  refine wpAnyH_done (by kernel_rfl) ?_ _
  go_wp2_with fail
  go_ret
  exact ⟨rfl, HB4.out⟩

end Go.Proofs.Ytimkiifcmegfeaa
/- code: a checker in memory; takes. -/
namespace Go.Proofs.Ytimkiifcmegfeaa
open Go.RowKit
set_option linter.unusedVariables false
set_option linter.unusedSimpArgs false
attribute [local go_sem] Oper.semAt_some
/-- What is known of prims: some of them, rightly. -/
def PrMap (w : World) (b n : Nat) : Prop := ∃ S : List UInt8 → Option Value, HMap sK w b n S ∧ ∀ s v, S s = some v → v = .int .i64 (takesN s : Int)
theorem PrMap.lt {w : World} {b n : Nat} (h : PrMap w b n) : b < w.heap.size := by obtain ⟨S, h, _⟩ := h; exact h.lt
theorem PrMap.same {w w' : World} {b n : Nat} (h : PrMap w b n) (hb : w'.heap[b]? = w.heap[b]?) : PrMap w' b n := by obtain ⟨S, h, h2⟩ := h; exact ⟨S, h.same hb, h2⟩
theorem PrMap.bel {w w' : World} {b n : Nat} (h : PrMap w b n) (hb : Below w.heap.size w w') : PrMap w' b n := h.same (hb.block _ h.lt)
theorem PrMap.off {F : Nat → Prop} {w w' : World} {b n : Nat} (h : PrMap w b n) (ho : Off F w w') (hb : ¬ F b) : PrMap w' b n := h.same (ho.block _ h.lt hb)
theorem PrMap.le {w : World} {b n m : Nat} (h : PrMap w b n) (hm : n ≤ m) : PrMap w b m := by obtain ⟨S, ⟨D, h1, h3⟩, h2⟩ := h; exact ⟨S, ⟨D, h1.mono hm, h3⟩, h2⟩
theorem PrMap.made (w : World) : PrMap (w.alloc (.map #[] 0)) w.heap.size 0 := ⟨_, HMap.made sK w, fun s v h => by cases h⟩
/-- A checker. -/
def CkB (w : World) (gk : Nat) (c : Cl) (gv : Value) (pm : Nat) : Prop := Blk w gk 81 #[.slice c.fA c.fs.length c.fc, .slice c.rA c.rs.length c.rc, gv, .map (some pm)]
set_option maxRecDepth 20000 in
theorem ctakes_any (s : List UInt8) (hs : s.length ≤ maxLen) (gk pm N : Nat) (c : Cl) (gv : Value) (w : World) (hk : CkB w gk c gv pm) (hm : PrMap w pm N) (hN : N < 1000000) :
    Calls Try.prog 63 #[.pointer (some ⟨gk, 0, none⟩), .string (str s)] w fun e w' => e = .returned (.int .i64 (takesN s : Int)) ∧ PrMap w' pm (N + 1) ∧ Off (fun k => k = pm) w w' := by
  obtain ⟨S, hH, hS⟩ := hm
  have c3 : w.cell? ⟨gk, 3, none⟩ = some (.map (some pm)) := Blk.cell hk 3
  have hz : (zeroValue 3).run Try.prog w = .ok (.int .i64 0) w := by kernel_rfl
  have hlk := hH.look (t := 79) (e := 3) Try.underlying79 hz true s hs
  rw [if_pos rfl] at hlk
  have hlk : (Instr.lookup 79 (.map (some pm)) (.string (str s)) true).run Try.prog w = .ok (.tuple #[(S s).getD (.int .i64 0), .bool (S s).isSome]) w := hlk
  have HP := Lib.hid (And.intro hH (And.intro hS (And.intro hs (And.intro hN hk))))
  clear hH hk hS hs hz
  cases hv : S s with
  | some v =>
    obtain rfl := HP.out.2.1 s v hv
    rw [hv] at hlk
    have hlk : (Instr.lookup 79 (.map (some pm)) (.string (str s)) true).run Try.prog w = .ok (.tuple #[.int .i64 (takesN s : Int), .bool true]) w := hlk
    clear hv
    go_enter Try.func63, Try.ntmps63
    go_wp2_with fail
    go_ret
    exact ⟨rfl, (show PrMap w pm N from ⟨S, HP.out.1, HP.out.2.1⟩).le (by omega), Off.refl _ _⟩
  | none =>
    rw [hv] at hlk
    have hlk : (Instr.lookup 79 (.map (some pm)) (.string (str s)) true).run Try.prog w = .ok (.tuple #[.int .i64 0, .bool false]) w := hlk
    clear hv
    go_enter Try.func63, Try.ntmps63
    go_wp2_with fail
    refine (takes_any s w).mono ?_
    rintro e w1 ⟨rfl, hb⟩
    obtain ⟨w2, hr, h2, h3, h4⟩ := (HP.out.1.bel hb).put (T := fun x => if x = s then some (.int .i64 (takesN s : Int)) else S x) (t := 79) (e := 3) Try.underlying79 s HP.out.2.2.1 (.int .i64 (takesN s : Int)) HP.out.2.2.2.1 (fun x => ⟨fun e => if_pos e, fun e => if_neg e⟩)
    have hr : (Instr.mapUpdate 79 (.map (some pm)) (.string (str s)) (.int .i64 (takesN s : Int))).run Try.prog w1 = .ok () w2 := hr
    have d3 : w1.cell? ⟨gk, 3, none⟩ = some (.map (some pm)) := Blk.cell (Blk.below HP.out.2.2.2.2 hb (Blk.lt HP.out.2.2.2.2)) 3
    have HF : Hid (PrMap w2 pm (N + 1) ∧ Off (fun k => k = pm) w w2) := Lib.hid ⟨⟨_, h2, fun x v hx => by
      by_cases e : x = s
      · rw [if_pos e] at hx
        injection hx with hx
        rw [e]; exact hx.symm
      · rw [if_neg e] at hx
        exact HP.out.2.1 x v hx⟩, (Off.of_new hb _).trans h3⟩
    clear hb h2 h3 h4 hlk c3
    go_wp2_with fail
    go_ret
    exact ⟨rfl, HF.out⟩
end Go.Proofs.Ytimkiifcmegfeaa
/- code: operands, what each of its ways leans on. -/
namespace Go.Proofs.Ytimkiifcmegfeaa
open Go.RowKit
set_option linter.unusedVariables false
set_option linter.unusedSimpArgs false
attribute [local go_sem] Oper.semAt_some
/-- Behind the first steps: the instruction's box, and that of what is left. -/
theorem op_box (k : Int) (a b c : Int) (s : ByteArray) (w w1 wd : World) (q q1 nq : Nat) (hq : w.heap.size = q) (hq1 : q + 1 = q1)
    (hw1 : w.alloc (.cells #[.int .u8 k, .int .i64 a, .int .i64 b, .int .i64 c, .string s] 46) = w1) (hd : w1.drewN nq = wd) :
    ∃ w2, wd.alloc (.cells #[.int .u8 k, .int .i64 0, .int .i64 b, .int .i64 c, .string s] 46) = w2 ∧ wd.heap.size = q1 ∧ Below w.heap.size w wd ∧ Below w.heap.size w w2 ∧
      (wd.cell? ⟨q, 0, none⟩ = some (.int .u8 k) ∧ wd.cell? ⟨q, 1, none⟩ = some (.int .i64 a) ∧ wd.cell? ⟨q, 2, none⟩ = some (.int .i64 b) ∧ wd.cell? ⟨q, 3, none⟩ = some (.int .i64 c) ∧ wd.cell? ⟨q, 4, none⟩ = some (.string s)) ∧
      Blk w2 q 46 #[.int .u8 k, .int .i64 a, .int .i64 b, .int .i64 c, .string s] ∧ Blk w2 q1 46 #[.int .u8 k, .int .i64 0, .int .i64 b, .int .i64 c, .string s] := by
  have b1 : Below w.heap.size w w1 := by rw [← hw1]; exact (Below.refl _ _).alloc (Nat.le_refl _) _
  have bd : Below w1.heap.size w1 wd := by rw [← hd]; exact drewN_below _ _
  have B1 : Blk w1 q 46 #[.int .u8 k, .int .i64 a, .int .i64 b, .int .i64 c, .string s] := by rw [← hw1, ← hq]; exact Blk.new _ _ _
  have Bd := B1.below bd B1.lt
  have hsz : wd.heap.size = q1 := by rw [← hd, ← hw1, ← hq1, ← hq]; simp
  have b0 := b1.trans (bd.mono b1.size)
  have b2 : Below wd.heap.size wd (wd.alloc (.cells #[.int .u8 k, .int .i64 0, .int .i64 b, .int .i64 c, .string s] 46)) := (Below.refl _ _).alloc (Nat.le_refl _) _
  have B2 := Blk.new wd 46 #[.int .u8 k, .int .i64 0, .int .i64 b, .int .i64 c, .string s]
  rw [hsz] at B2
  exact ⟨_, rfl, hsz, b0, b0.trans (b2.mono b0.size), ⟨Bd.cell 0, Bd.cell 1, Bd.cell 2, Bd.cell 3, Bd.cell 4⟩, Bd.below b2 Bd.lt, B2⟩
theorem below_set {B : Nat} {w W : World} (h : Below B w W) (g i : Nat) (u : Value) (hg : B ≤ g) : Below B w (W.setCell ⟨g, i, none⟩ u) :=
  ⟨h.os, h.tape, h.output, by simp [World.setCell]; exact h.size, fun k hk => (Below.heap_setCell W ⟨g, i, none⟩ u k (by show k ≠ g; omega)).trans (h.block k hk)⟩
/-- What holds at the end. -/
structure OpEnd (w w2 : World) (pm N q1 : Nat) : Prop where
  zero : PrMap w2 pm (N + 1) ∧ Off (fun k => k = pm) w w2
  one : ∀ i u, PrMap (w2.setCell ⟨q1, i, none⟩ u) pm (N + 1) ∧ Off (fun k => k = pm) w (w2.setCell ⟨q1, i, none⟩ u)
  two : ∀ i u j v, PrMap ((w2.setCell ⟨q1, i, none⟩ u).setCell ⟨q1, j, none⟩ v) pm (N + 1) ∧ Off (fun k => k = pm) w ((w2.setCell ⟨q1, i, none⟩ u).setCell ⟨q1, j, none⟩ v)
theorem op_end {w w2 : World} {pm N q1 : Nat} (hb : Below w.heap.size w w2) (hp : PrMap w pm N) (hq : w.heap.size ≤ q1) : OpEnd w w2 pm N q1 := by
  have h : ∀ W, Below w.heap.size w W → PrMap W pm (N + 1) ∧ Off (fun k => k = pm) w W := fun W hW => ⟨(hp.bel hW).le (by omega), Off.of_new hW _⟩
  exact ⟨h _ hb, fun i u => h _ (below_set hb _ _ _ hq), fun i u j v => h _ (below_set (below_set hb _ _ _ hq) _ _ _ hq)⟩
theorem op_end3 {w w2 w3 : World} {pm N q1 : Nat} (hb : Below w.heap.size w w2) (hp : PrMap w3 pm (N + 1)) (ho : Off (fun k => k = pm) w2 w3) (hq : w.heap.size ≤ q1) (hlt : pm < w.heap.size) : OpEnd w w3 pm N q1 := by
  have h0 : Off (fun k => k = pm) w w3 := (Off.of_new hb _).trans ho
  have h : ∀ W, Off (fun k => k = q1) w3 W → PrMap W pm (N + 1) ∧ Off (fun k => k = pm) w W := fun W hW => ⟨hp.off hW (by show ¬ (pm = q1); omega), h0.then hW fun j hj e => by have e' : j = q1 := e; omega⟩
  exact ⟨⟨hp, h0⟩, fun i u => h _ (Off.setc _ _ _ _), fun i u j v => h _ ((Off.setc _ _ _ _).trans (Off.setc _ _ _ _))⟩
theorem str_size (bs : List UInt8) : (str bs).size = bs.length := by simp [str, ByteArray.size]
theorem ask_yes_of (k : Value) (b : Bool) (h : b = true) (w : World) : Calls Try.prog 39 #[k, .bool true] w fun e w' => e = .returned (.tuple #[]) ∧ w = w' := ask_yes k w
theorem ask_no_of (k : Value) (b : Bool) (h : b = false) (w : World) : Calls Try.prog 39 #[k, .bool false] w fun e w' => e = .panicked [wr] ∧ w = w' := ask_no k w
theorem wi_true {x lo hi : Int} (h : wi x lo hi = true) : lo ≤ x ∧ x ≤ hi := by
  unfold wi at h
  simpa using h
end Go.Proofs.Ytimkiifcmegfeaa
/- The reference's small functions: power, there. -/
namespace Go.Proofs.Ytimkiifcmegfeaa
open Go.RowKit

def powI (n : Int) : Int := if n = 1 then 256 else if n = 2 then 65536 else if n = 4 then 4294967296 else 0

theorem power_any (n : Int) (w : World) : Calls Try.prog 61 #[.int .i64 n] w fun e w' => e = .returned (.tuple #[.int .u64 (powI n), .bool (sizeB n)]) ∧ w = w' := by
  by_cases h1 : n = 1
  · subst h1
    go_enter Try.func61, Try.ntmps61
    go_wp2
    go_ret2
    exact ⟨rfl, rfl⟩
  by_cases h2 : n = 2
  · subst h2
    go_enter Try.func61, Try.ntmps61
    go_wp2
    go_ret2
    exact ⟨rfl, rfl⟩
  by_cases h4 : n = 4
  · subst h4
    go_enter Try.func61, Try.ntmps61
    go_wp2
    go_ret2
    exact ⟨rfl, rfl⟩
  have e1 : (n == 1) = false := by simpa using h1
  have e2 : (n == 2) = false := by simpa using h2
  have e4 : (n == 4) = false := by simpa using h4
  have hs : sizeB n = (n == 8) := by unfold sizeB; rw [e1, e2, e4]; simp
  have hp : powI n = 0 := by unfold powI; rw [if_neg h1, if_neg h2, if_neg h4]
  rw [hs, hp]
  clear hs hp
  go_enter Try.func61, Try.ntmps61
  go_wp2
  go_ret2
  exact ⟨rfl, rfl⟩

set_option maxHeartbeats 400000 in
theorem there_any (A : Option Addr) (len cap : Nat) (at_ n : Int) (w : World) (hl : len ≤ 281474976710656) (ha : at_ ≤ len) (_hn : -9223372036854775808 ≤ n ∧ n < 9223372036854775808) :
    Calls Try.prog 72 #[.slice A len cap, .int .i64 at_, .int .i64 n] w fun e w' => e = .returned (.bool (insideB len at_ n)) ∧ w = w' := by
  by_cases h0 : at_ < 0
  · have hi : insideB len at_ n = false := by
      have h : decide (0 ≤ at_) = false := by simp; omega
      unfold insideB; rw [h]; simp
    rw [hi]
    clear hi
    go_enter Try.func72, Try.ntmps72
    go_wp2
    go_ret
    exact ⟨rfl, rfl⟩
  by_cases h1 : n < 0
  · have hi : insideB len at_ n = false := by
      have h : decide (0 ≤ n) = false := by simp; omega
      unfold insideB; rw [h]; simp
    rw [hi]
    clear hi
    go_enter Try.func72, Try.ntmps72
    go_wp2
    go_ret
    exact ⟨rfl, rfl⟩
  obtain ⟨a, rfl⟩ : ∃ a : Nat, at_ = a := ⟨at_.toNat, by omega⟩
  obtain ⟨m, rfl⟩ : ∃ m : Nat, n = m := ⟨n.toNat, by omega⟩
  have hal : a ≤ len := by omega
  have hi : insideB len a m = decide ((m : Int) ≤ (len : Int) - (a : Int)) := by
    unfold insideB
    have q1 : decide ((0 : Int) ≤ (a : Int)) = true := by simp
    have q2 : decide ((0 : Int) ≤ (m : Int)) = true := by simp
    have q3 : decide ((a : Int) ≤ (len : Int)) = true := by simp; omega
    rw [q1, q2, q3]; simp
  have HI := Lib.hid hi
  clear hi ha
  go_enter Try.func72, Try.ntmps72
  go_wp2
  go_loop [7, 8] (fun l i => ∃ k : Nat, k ≤ a ∧ i = .int .i64 k ∧ l = .int .i64 ((len - k : Nat) : Int)) (fun _ i => a - (intOf i).toNat)
  case atStart => exact ⟨0, Nat.zero_le _, rfl, rfl⟩
  case round =>
    obtain ⟨k, hk, rfl, rfl⟩ := hrel
    by_cases hlt : k < a
    · obtain ⟨q, hq⟩ : ∃ q, len - k = q := ⟨_, rfl⟩
      have hq0 : ((q : Int) == 0) = false := by rw [beq_eq_false_iff_ne]; omega
      have hq1 : ¬ ((q : Int) = 0) := by omega
      have hqs : len - (k + 1) = q - 1 := by omega
      have HQ := Lib.hid hqs
      have hka : (k : Int) < (a : Int) := by omega
      have hq2 : 1 ≤ q := by omega
      have hqb : q ≤ 281474976710656 := by omega
      rw [hq]
      clear hqs hq
      go_wp2
      go_round
      case rel => exact ⟨k + 1, by omega, by go_num, by rw [HQ.out]; go_num⟩
      case measure => simp [intOf]; omega
    · obtain rfl : k = a := by omega
      have hka : ¬ ((k : Int) < (k : Int)) := by omega
      have e : ((len - k : Nat) : Int) = (len : Int) - (k : Int) := by omega
      rw [e]
      clear e
      go_wp2
      go_ret
      exact ⟨by rw [HI.out]; rfl, rfl⟩

end Go.Proofs.Ytimkiifcmegfeaa
/- The reference's Get. -/
namespace Go.Proofs.Ytimkiifcmegfeaa
open Go.RowKit

theorem inside_nat {len : Nat} {at_ n : Int} (h : insideB len at_ n = true) : ∃ a m : Nat, at_ = a ∧ n = m ∧ a + m ≤ len := by
  simp [insideB] at h
  obtain ⟨⟨⟨h1, h2⟩, h3⟩, h4⟩ := h
  exact ⟨at_.toNat, n.toNat, by omega, by omega, by omega⟩

set_option maxHeartbeats 400000 in
theorem refget_no (A : Option Addr) (len cap : Nat) (at_ n : Int) (w : World) (hl : len ≤ 281474976710656) (hn : -9223372036854775808 ≤ n ∧ n < 9223372036854775808) (h : sizeB n = false ∨ insideB len at_ n = false) :
    Calls Try.prog 59 #[.slice A len cap, .int .i64 at_, .int .i64 n] w fun e w' => e = .returned (.tuple #[.int .u64 0, .int .i64 1]) ∧ w = w' := by
  have HP := Lib.hid (power_any n w)
  by_cases hs : sizeB n = true
  · have hi : insideB len at_ n = false := by
      rcases h with h | h
      · rw [hs] at h; cases h
      · exact h
    rw [hs] at HP
    by_cases ha : at_ ≤ len
    · have ht := there_any A len cap at_ n w hl ha hn
      rw [hi] at ht
      have HT := Lib.hid ht
      clear ht hi h hs
      go_enter Try.func59, Try.ntmps59
      go_wp2_with (first
        | (go_at_call 61; refine HP.out.mono ?_; rintro e w' ⟨rfl, rfl⟩)
        | (go_at_call 72; refine HT.out.mono ?_; rintro e w' ⟨rfl, rfl⟩))
      go_ret2
      exact ⟨rfl, rfl⟩
    · have ha2 : (len : Int) < at_ := by omega
      clear hi h hs
      go_enter Try.func59, Try.ntmps59
      go_wp2_with (first
        | (go_at_call 61; refine HP.out.mono ?_; rintro e w' ⟨rfl, rfl⟩))
      go_ret2
      exact ⟨rfl, rfl⟩
  · have hs' : sizeB n = false := by simpa using hs
    rw [hs'] at HP
    clear h hs hs'
    go_enter Try.func59, Try.ntmps59
    go_wp2_with (first
      | (go_at_call 61; refine HP.out.mono ?_; rintro e w' ⟨rfl, rfl⟩))
    go_ret2
    exact ⟨rfl, rfl⟩

theorem refget_step (l : List UInt8) (q : Nat) (hq : q < l.length) (h8 : l.length ≤ 8) : ((256 * (leN (l.drop (q + 1)) : Int)) % 18446744073709551616 + (l[q].toNat : Int)) % 18446744073709551616 = (leN (l.drop q) : Int) := by
  have e : l.drop q = l[q] :: l.drop (q + 1) := List.drop_eq_getElem_cons hq
  have hlt := leN_lt (l.drop q)
  have hp : 256 ^ (l.drop q).length ≤ 256 ^ 8 := Nat.pow_le_pow_right (by decide) (by simp; omega)
  rw [e, leN] at hlt
  rw [e, leN]
  have : (256 : Nat) ^ 8 = 18446744073709551616 := by decide
  have h2 : l[q].toNat + 256 * leN (l.drop (q + 1)) < 18446744073709551616 := by rw [e] at hp; omega
  omega

set_option maxHeartbeats 400000 in
theorem refget_ok (A : Option Addr) (len cap at_ n : Nat) (bs : List UInt8) (w : World) (hbl : bs.length = len) (hn : sizeB n = true) (hle : at_ + n ≤ len) (hl : len ≤ 281474976710656) (hA : Bytes w A bs) :
    Calls Try.prog 59 #[.slice A len cap, .int .i64 at_, .int .i64 n] w fun e w' => e = .returned (.tuple #[.int .u64 (leN (fieldOf bs at_ n) : Int), .int .i64 0]) ∧ w = w' := by
  have hn8 : n ≤ 8 ∧ 1 ≤ n := by have := (sizeB_iff n).1 hn; omega
  have HP := Lib.hid (power_any n w)
  rw [hn] at HP
  have ht := there_any A len cap at_ n w hl (by omega) (by omega)
  have hi : insideB len at_ n = true := by simp [insideB]; omega
  rw [hi] at ht
  have HT := Lib.hid ht
  obtain ⟨fb, hfb⟩ : ∃ fb, fieldOf bs at_ n = fb := ⟨_, rfl⟩
  have hfl : fb.length = n := by rw [← hfb]; unfold fieldOf; simp; omega
  have hget : ∀ q (hq : q < fb.length), bs[at_ + q]? = some fb[q] := by
    intro q hq
    have h1 : fb[q]? = some fb[q] := List.getElem?_eq_getElem hq
    rw [← h1, ← hfb]
    unfold fieldOf
    rw [List.getElem?_take_of_lt (by omega), List.getElem?_drop]
  rw [hfb]
  have HG := Lib.hid hget
  have HFL := Lib.hid hfl
  have HA := Lib.hid hA
  have hal : ¬ ((len : Int) < (at_ : Int)) := by omega
  clear hn ht hi hfb hget hfl hA
  go_enter Try.func59, Try.ntmps59
  go_wp2_with (first
    | (go_at_call 61; refine HP.out.mono ?_; rintro e w' ⟨rfl, rfl⟩)
    | (go_at_call 72; refine HT.out.mono ?_; rintro e w' ⟨rfl, rfl⟩))
  go_loop [10, 11] (fun x i => ∃ j : Nat, j ≤ n ∧ i = .int .i64 ((j : Int) - 1) ∧ x = .int .u64 (leN (fb.drop j) : Int)) (fun _ i => (intOf i + 1).toNat)
  case atStart => exact ⟨n, Nat.le_refl _, rfl, by rw [List.drop_eq_nil_of_le (Nat.le_of_eq HFL.out)]; rfl⟩
  case round =>
    obtain ⟨j, hj, rfl, rfl⟩ := hrel
    cases j with
    | zero =>
      go_wp2
      go_ret2
      exact ⟨rfl, rfl⟩
    | succ q =>
      have hq : q < fb.length := by rw [HFL.out]; omega
      have hb := HG.out q hq
      obtain ⟨b, off, rfl, _, hc⟩ := HA.out.at_ (k := at_ + q) (by omega)
      have hc2 := hc _ _ hb
      have hstep := refget_step fb q hq (by rw [HFL.out]; omega)
      have hcl := fb[q].toNat_lt
      obtain ⟨p, hp⟩ : ∃ p, at_ + q = p := ⟨_, rfl⟩
      rw [hp] at hc2
      generalize fb[q].toNat = c at *
      have e1 : (((q + 1 : Nat) : Int) - 1) = (q : Int) := by omega
      have e2 : (at_ : Int) + (q : Int) = (p : Int) := by omega
      have hpl : (p : Int) < (len : Int) := by omega
      have HST := Lib.hid hstep
      rw [e1]
      clear hb hc hstep hp e1
      go_wp2
      go_round
      case rel => exact ⟨q, by omega, rfl, by rw [← HST.out, IntKind.wrap_u64, IntKind.wrap_u64]⟩
      case measure => simp [intOf]

end Go.Proofs.Ytimkiifcmegfeaa
/- The reference's Put and Cut. -/
namespace Go.Proofs.Ytimkiifcmegfeaa
open Go.RowKit

theorem own_new (w : World) (base : Nat) (h : base ≤ w.heap.size) : (w.alloc (.cells #[] 5)).ownsRow base 5 1 (.slice (some ⟨w.heap.size, 0, none⟩) 0 0) 0 (([] : List UInt8).map bv) :=
  World.ownsRow_made w #[] 0 h (Nat.zero_le _) rfl
theorem own_shape {w : World} {base : Nat} {e : TypeId} {v : Value} {n : Nat} {xs : List Value} (h : w.ownsRow base e 1 v n xs) : ∃ A c, v = .slice A n c := by
  rcases h.2 with ⟨rfl, rfl⟩ | ⟨g, cap, cur, rfl, _⟩
  · exact ⟨none, 0, rfl⟩
  · exact ⟨_, cap, rfl⟩
theorem run_app1 (w : World) (base : Nat) (v : Value) (n : Nat) (xs : List UInt8) (c : UInt8) (hown : w.ownsRow base 5 1 v n (xs.map bv)) (hb : n ≤ 70368744177664) (hbase : base ≤ w.heap.size) :
    ∃ v' w', (Builtin.append_ #[26, 26] 26 #[v, .slice (some ⟨w.heap.size, 0, none⟩) 1 1]).run Try.prog (w.alloc (.cells #[.int .u8 (c.toNat : Int)] 5)) = .ok v' w' ∧ w'.ownsRow base 5 1 v' (n + 1) ((xs ++ [c]).map bv) ∧ (w.alloc (.cells #[.int .u8 (c.toNat : Int)] 5)).grownBy w' v.ownBlock :=
  run_app8 (w.alloc (.cells #[.int .u8 (c.toNat : Int)] 5)) base v n xs (own_below hown ((Below.refl _ w).alloc (Nat.le_refl _) _)) (some ⟨w.heap.size, 0, none⟩) 1 1 [c] rfl (Bytes.row (bs := [c]) (Blk.new w _ _)) (by omega) (by rw [World.size_alloc]; omega)

theorem lePut_snoc (x k : Nat) : lePut x (k + 1) = lePut x k ++ [UInt8.ofNat (x / 256 ^ k)] := by
  induction k generalizing x with
  | zero => simp [lePut]
  | succ k ih =>
    rw [lePut, ih]
    simp only [lePut, List.cons_append]
    rw [Nat.div_div_eq_div_mul, Nat.pow_succ, Nat.mul_comm 256]
theorem ofNat_mod (x y : Nat) (h : x % 256 = y % 256) : UInt8.ofNat x = UInt8.ofNat y := by
  apply UInt8.toNat_inj.1
  rw [UInt8.toNat_ofNat', UInt8.toNat_ofNat']; exact h
theorem lePut_mod (x n : Nat) : lePut (x % 256 ^ n) n = lePut x n := by
  induction n generalizing x with
  | zero => rfl
  | succ n ih =>
    simp only [lePut]
    have h1 : x % 256 ^ (n + 1) = x % 256 + 256 * (x / 256 % 256 ^ n) := by rw [Nat.pow_succ, Nat.mul_comm]; exact Nat.mod_mul
    rw [h1, show (x % 256 + 256 * (x / 256 % 256 ^ n)) / 256 = x / 256 % 256 ^ n by omega, ih]
    congr 1
    exact ofNat_mod _ _ (by omega)

/-- What Put puts: nothing, if that is no size. -/
def putBytes (bs : List UInt8) (x : Nat) (n : Int) : List UInt8 := if sizeB n then bs ++ lePut x n.toNat else bs

set_option maxHeartbeats 800000 in
theorem refput_any (A : Option Addr) (len cap x : Nat) (n : Int) (bs : List UInt8) (w : World) (hbl : bs.length = len) (hl : len ≤ 1048576) (hA : Bytes w A bs) (hx : x < 18446744073709551616) :
    Calls Try.prog 36 #[.slice A len cap, .int .u64 x, .int .i64 n] w fun e w' => ∃ v, ∃ m, e = .returned v ∧ w'.ownsRow w.heap.size 5 1 v m ((putBytes bs x n).map bv) ∧ Below w.heap.size w w' := by
  have hb0 : Below w.heap.size w (w.alloc (.cells #[] 5)) := (Below.refl _ w).alloc (Nat.le_refl _) _
  obtain ⟨v1, w1, hrun1, hown1, hgr1⟩ := run_app8 (w.alloc (.cells #[] 5)) w.heap.size _ 0 [] (own_new w w.heap.size (Nat.le_refl _)) A len cap bs hbl (hA.below hb0) (by omega) (by simp)
  rw [List.nil_append, Nat.zero_add] at hown1
  have hb1 : Below w.heap.size w w1 := hb0.grown hgr1 (by simp) (fun k e => by simp [Value.ownBlock] at e; omega)
  have HRUN := Lib.hid hrun1
  have HO := Lib.hid hown1
  have HB1 := Lib.hid hb1
  have HP := Lib.hid (power_any n w1)
  have HS1 := Lib.hid hb1.size
  cases hs : sizeB n
  · rw [hs] at HP
    have hpb : putBytes bs x n = bs := by unfold putBytes; rw [hs]; rfl
    rw [hpb]
    clear hpb
    clear hrun1 hown1 hgr1 hb1 hb0 hA hs
    go_enter Try.func36, Try.ntmps36
    go_wp2_with (first
      | (at_builtin; refine wpList_app rfl _ _ 26 rfl _ _ _ _ rfl rfl HRUN.out ?_; clear HRUN)
      | (go_at_call 61; refine HP.out.mono ?_; rintro e w' ⟨rfl, rfl⟩))
    go_ret
    exact ⟨_, _, rfl, HO.out, HB1.out⟩
  · rw [hs] at HP
    have hpb : putBytes bs x n = bs ++ lePut x n.toNat := by unfold putBytes; rw [hs]; rfl
    have hcases : n = 1 ∨ n = 2 ∨ n = 4 ∨ n = 8 := by simpa [sizeB, or_assoc] using hs
    obtain ⟨m, rfl⟩ : ∃ m : Nat, n = m := ⟨n.toNat, by omega⟩
    have hm8 : m ≤ 8 := by omega
    rw [Int.toNat_natCast, ← lePut_mod x m] at hpb
    have hx1 : ∃ y, x % 256 ^ m = y ∧ (0 < powI m → (x : Int) % powI m = (y : Int)) ∧ (¬ 0 < powI m → x = y) := by
      refine ⟨_, rfl, ?_, ?_⟩
      · rcases hcases with h | h | h | h
        · obtain rfl : m = 1 := by omega
          intro _; rfl
        · obtain rfl : m = 2 := by omega
          intro _; rfl
        · obtain rfl : m = 4 := by omega
          intro _; rfl
        · obtain rfl : m = 8 := by omega
          intro h0; exact absurd h0 (by decide)
      · rcases hcases with h | h | h | h
        · obtain rfl : m = 1 := by omega
          intro h0; exact absurd (by decide) h0
        · obtain rfl : m = 2 := by omega
          intro h0; exact absurd (by decide) h0
        · obtain rfl : m = 4 := by omega
          intro h0; exact absurd (by decide) h0
        · obtain rfl : m = 8 := by omega
          intro _
          exact (Nat.mod_eq_of_lt (by have : (256 : Nat) ^ 8 = 18446744073709551616 := by decide
                                      omega)).symm
    obtain ⟨y, hy, hy1, hy2⟩ := hx1
    rw [hy] at hpb
    have HPB := Lib.hid hpb
    have hyx : y < 18446744073709551616 := by rw [← hy]; exact Nat.lt_of_le_of_lt (Nat.mod_le _ _) hx
    have hpnn : 0 ≤ powI m := by unfold powI; repeat (first | omega | split)
    have HX1 := Lib.hid hy1
    have HX2 := Lib.hid hy2
    obtain ⟨P, hP⟩ : ∃ P, powI m = P := ⟨_, rfl⟩
    rw [hP] at HP HX1 HX2 hpnn
    clear hrun1 hown1 hgr1 hb1 hb0 hA hs hcases hy hy1 hy2 hP hpb
    by_cases hP0 : 0 < P
    · have hxy := HX1.out hP0
      go_enter Try.func36, Try.ntmps36
      go_wp2_with (first
        | (at_builtin; refine wpList_app rfl _ _ 26 rfl _ _ _ _ rfl rfl HRUN.out ?_; clear HRUN)
        | (go_at_call 61; refine HP.out.mono ?_; rintro e w' ⟨rfl, rfl⟩))
      rw [hxy]
      clear hxy
      go_loopw [1, 7, 10] (fun xx v i wr => ∃ k : Nat, k ≤ m ∧ i = .int .i64 k ∧ xx = .int .u64 ((y / 256 ^ k : Nat) : Int) ∧ wr.ownsRow w.heap.size 5 1 v (len + k) ((bs ++ lePut y k).map bv) ∧ Below w.heap.size w wr) (fun _ _ i _ => m - (intOf i).toNat)
      case atStart => exact ⟨0, Nat.zero_le _, rfl, by simp, by simpa [lePut] using HO.out, HB1.out⟩
      case round =>
        obtain ⟨k, hk, rfl, rfl, hown, hbw⟩ := hrel
        have hszw := hbw.size
        by_cases hlt : k < m
        · have hsn := lePut_snoc y k
          have hnext : y / 256 ^ (k + 1) = y / 256 ^ k / 256 := by rw [Nat.pow_succ, Nat.div_div_eq_div_mul]
          have hXl : y / 256 ^ k < 18446744073709551616 := Nat.lt_of_le_of_lt (Nat.div_le_self _ _) hyx
          obtain ⟨X, hX⟩ : ∃ X, y / 256 ^ k = X := ⟨_, rfl⟩
          rw [hX] at hsn hnext hXl
          rw [hX]
          obtain ⟨c, hc⟩ : ∃ c, UInt8.ofNat X = c := ⟨_, rfl⟩
          have hcn : (X : Int) % 256 = (c.toNat : Int) := by
            rw [← hc]; have : (UInt8.ofNat X).toNat = X % 256 := UInt8.toNat_ofNat'
            rw [this]; omega
          rw [hc] at hsn
          obtain ⟨v2, w2, hrun2, hown2, hgr2⟩ := run_app1 wr w.heap.size _ (len + k) _ c hown (by omega) hszw
          rw [List.append_assoc, ← hsn] at hown2
          have hb2 : Below w.heap.size w w2 := (hbw.alloc hszw _).grown hgr2 (by rw [World.size_alloc]; omega) (fun k e => (hown.lt k e).1)
          have HR2 := Lib.hid hrun2
          have HO2 := Lib.hid hown2
          have HB2 := Lib.hid hb2
          have HNX := Lib.hid hnext
          have hkm : (k : Int) < (m : Int) := by omega
          have hcl := c.toNat_lt
          clear hsn hnext hX hc hown hbw hrun2 hown2 hgr2 hb2
          go_wp2_with (at_builtin; refine wpList_app rfl _ _ 26 rfl _ _ _ _ rfl rfl HR2.out ?_; clear HR2)
          go_roundw
          case rel => exact ⟨k + 1, by omega, by go_num, by rw [HNX.out]; go_num, HO2.out, HB2.out⟩
          case measure => simp [intOf]; omega
        · obtain rfl : k = m := by omega
          have HO3 := Lib.hid hown
          have HB3 := Lib.hid hbw
          have hkm : ¬ ((k : Int) < (k : Int)) := by omega
          clear hown hbw
          go_wp2
          go_ret
          exact ⟨_, rfl, ⟨_, by rw [HPB.out]; exact HO3.out⟩, HB3.out⟩
    · obtain rfl := HX2.out hP0
      go_enter Try.func36, Try.ntmps36
      go_wp2_with (first
        | (at_builtin; refine wpList_app rfl _ _ 26 rfl _ _ _ _ rfl rfl HRUN.out ?_; clear HRUN)
        | (go_at_call 61; refine HP.out.mono ?_; rintro e w' ⟨rfl, rfl⟩))
      go_loopw [1, 7, 10] (fun xx v i wr => ∃ k : Nat, k ≤ m ∧ i = .int .i64 k ∧ xx = .int .u64 ((x / 256 ^ k : Nat) : Int) ∧ wr.ownsRow w.heap.size 5 1 v (len + k) ((bs ++ lePut x k).map bv) ∧ Below w.heap.size w wr) (fun _ _ i _ => m - (intOf i).toNat)
      case atStart => exact ⟨0, Nat.zero_le _, rfl, by simp, by simpa [lePut] using HO.out, HB1.out⟩
      case round =>
        obtain ⟨k, hk, rfl, rfl, hown, hbw⟩ := hrel
        have hszw := hbw.size
        by_cases hlt : k < m
        · have hsn := lePut_snoc x k
          have hnext : x / 256 ^ (k + 1) = x / 256 ^ k / 256 := by rw [Nat.pow_succ, Nat.div_div_eq_div_mul]
          have hXl : x / 256 ^ k < 18446744073709551616 := Nat.lt_of_le_of_lt (Nat.div_le_self _ _) hyx
          obtain ⟨X, hX⟩ : ∃ X, x / 256 ^ k = X := ⟨_, rfl⟩
          rw [hX] at hsn hnext hXl
          rw [hX]
          obtain ⟨c, hc⟩ : ∃ c, UInt8.ofNat X = c := ⟨_, rfl⟩
          have hcn : (X : Int) % 256 = (c.toNat : Int) := by
            rw [← hc]; have : (UInt8.ofNat X).toNat = X % 256 := UInt8.toNat_ofNat'
            rw [this]; omega
          rw [hc] at hsn
          obtain ⟨v2, w2, hrun2, hown2, hgr2⟩ := run_app1 wr w.heap.size _ (len + k) _ c hown (by omega) hszw
          rw [List.append_assoc, ← hsn] at hown2
          have hb2 : Below w.heap.size w w2 := (hbw.alloc hszw _).grown hgr2 (by rw [World.size_alloc]; omega) (fun k e => (hown.lt k e).1)
          have HR2 := Lib.hid hrun2
          have HO2 := Lib.hid hown2
          have HB2 := Lib.hid hb2
          have HNX := Lib.hid hnext
          have hkm : (k : Int) < (m : Int) := by omega
          have hcl := c.toNat_lt
          clear hsn hnext hX hc hown hbw hrun2 hown2 hgr2 hb2
          go_wp2_with (at_builtin; refine wpList_app rfl _ _ 26 rfl _ _ _ _ rfl rfl HR2.out ?_; clear HR2)
          go_roundw
          case rel => exact ⟨k + 1, by omega, by go_num, by rw [HNX.out]; go_num, HO2.out, HB2.out⟩
          case measure => simp [intOf]; omega
        · obtain rfl : k = m := by omega
          have HO3 := Lib.hid hown
          have HB3 := Lib.hid hbw
          have hkm : ¬ ((k : Int) < (k : Int)) := by omega
          clear hown hbw
          go_wp2
          go_ret
          exact ⟨_, rfl, ⟨_, by rw [HPB.out]; exact HO3.out⟩, HB3.out⟩

end Go.Proofs.Ytimkiifcmegfeaa
/- The reference's Cut and Fill. -/
namespace Go.Proofs.Ytimkiifcmegfeaa
open Go.RowKit

set_option maxHeartbeats 400000 in
theorem refcut_no (A : Option Addr) (len cap : Nat) (at_ n : Int) (w : World) (hl : len ≤ 281474976710656) (hn : -9223372036854775808 ≤ n ∧ n < 9223372036854775808) (h : insideB len at_ n = false) :
    Calls Try.prog 60 #[.slice A len cap, .int .i64 at_, .int .i64 n] w fun e w' => e = .returned (.tuple #[.slice none 0 0, .bool false]) ∧ w = w' := by
  by_cases ha : at_ ≤ len
  · have ht := there_any A len cap at_ n w hl ha hn
    rw [h] at ht
    have HT := Lib.hid ht
    clear ht h
    go_enter Try.func60, Try.ntmps60
    go_wp2_with (go_at_call 72; refine HT.out.mono ?_; rintro e w' ⟨rfl, rfl⟩)
    go_ret2
    exact ⟨rfl, rfl⟩
  · have ha2 : (len : Int) < at_ := by omega
    clear h
    go_enter Try.func60, Try.ntmps60
    go_wp2
    go_ret2
    exact ⟨rfl, rfl⟩

set_option maxHeartbeats 400000 in
theorem refcut_ok (A : Option Addr) (len cap at_ n : Nat) (bs : List UInt8) (w : World) (hbl : bs.length = len) (hle : at_ + n ≤ len) (hl : len ≤ 1048576) (hA : Bytes w A bs) :
    Calls Try.prog 60 #[.slice A len cap, .int .i64 at_, .int .i64 n] w fun e w' => ∃ v, e = .returned (.tuple #[v, .bool true]) ∧ w'.ownsRow w.heap.size 5 1 v n ((fieldOf bs at_ n).map bv) ∧ Below w.heap.size w w' := by
  have ht := there_any A len cap at_ n w (by omega) (by omega) (by omega)
  have hi : insideB len at_ n = true := by simp [insideB]; omega
  rw [hi] at ht
  have HT := Lib.hid ht
  obtain ⟨fb, hfb⟩ : ∃ fb, fieldOf bs at_ n = fb := ⟨_, rfl⟩
  have hfl : fb.length = n := by rw [← hfb]; unfold fieldOf; simp; omega
  have hget : ∀ q (hq : q < fb.length), bs[at_ + q]? = some fb[q] := by
    intro q hq
    have h1 : fb[q]? = some fb[q] := List.getElem?_eq_getElem hq
    rw [← h1, ← hfb]
    unfold fieldOf
    rw [List.getElem?_take_of_lt (by omega), List.getElem?_drop]
  rw [hfb]
  have HG := Lib.hid hget
  have HFL := Lib.hid hfl
  have HA := Lib.hid hA
  have hal : ¬ ((len : Int) < (at_ : Int)) := by omega
  clear ht hi hfb hget hfl hA
  go_enter Try.func60, Try.ntmps60
  go_wp2_with (go_at_call 72; refine HT.out.mono ?_; rintro e w' ⟨rfl, rfl⟩)
  go_loopw [8, 9] (fun v i wr => ∃ k : Nat, k ≤ n ∧ i = .int .i64 k ∧ wr.ownsRow w.heap.size 5 1 v k ((fb.take k).map bv) ∧ Below w.heap.size w wr) (fun _ i _ => n - (intOf i).toNat)
  case atStart => exact ⟨0, Nat.zero_le _, rfl, ⟨by simp, .inl ⟨rfl, rfl⟩⟩, Below.refl _ _⟩
  case round =>
    obtain ⟨k, hk, rfl, hown, hbw⟩ := hrel
    have hszw := hbw.size
    by_cases hlt : k < n
    · have hq : k < fb.length := by rw [HFL.out]; omega
      have hb := HG.out k hq
      have hts : fb.take (k + 1) = fb.take k ++ [fb[k]] := List.take_succ_eq_append_getElem hq
      obtain ⟨b, off, rfl, _, hc⟩ := (HA.out.below hbw).at_ (k := at_ + k) (by omega)
      have hc2 := hc _ _ hb
      obtain ⟨c, hce⟩ : ∃ c, fb[k] = c := ⟨_, rfl⟩
      rw [hce] at hts hc2
      obtain ⟨v2, w2, hrun2, hown2, hgr2⟩ := run_app1 wr w.heap.size _ k _ c hown (by omega) hszw
      rw [← hts] at hown2
      have hb2 : Below w.heap.size w w2 := (hbw.alloc hszw _).grown hgr2 (by rw [World.size_alloc]; omega) (fun k e => (hown.lt k e).1)
      obtain ⟨p, hp⟩ : ∃ p, at_ + k = p := ⟨_, rfl⟩
      rw [hp] at hc2
      have e2 : (at_ : Int) + (k : Int) = (p : Int) := by omega
      have hpl : (p : Int) < (len : Int) := by omega
      have hkm : (k : Int) < (n : Int) := by omega
      have HR2 := Lib.hid hrun2
      have HO2 := Lib.hid hown2
      have HB2 := Lib.hid hb2
      clear hb hts hc hce hown hbw hrun2 hown2 hgr2 hb2 hp
      go_wp2_with (at_builtin; refine wpList_app rfl _ _ 26 rfl _ _ _ _ rfl rfl HR2.out ?_; clear HR2)
      go_roundw
      case rel => exact ⟨k + 1, by omega, by go_num, HO2.out, HB2.out⟩
      case measure => simp [intOf]; omega
    · obtain rfl : k = n := by omega
      have hte : fb.take k = fb := List.take_of_length_le (Nat.le_of_eq HFL.out)
      rw [hte] at hown
      have HO3 := Lib.hid hown
      have HB3 := Lib.hid hbw
      have hkm : ¬ ((k : Int) < (k : Int)) := by omega
      clear hown hbw hte
      go_wp2
      go_ret2
      exact ⟨_, rfl, HO3.out, HB3.out⟩

end Go.Proofs.Ytimkiifcmegfeaa
