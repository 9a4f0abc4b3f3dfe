/- Disks: contracts. -/
import Derived.Test.YtolpgpphjnkehaaGreatDoorRows
import Derived.WalkKit
import Derived.WalkSpells
import Derived.WalkLawsBesides
import Derived.Laws.CopyOwn
import Derived.Laws.MakeOwn
import Derived.Lib.Hide
import Derived.RangeFuncBox
import Derived.Deep.Draws
import Derived.Lib.BufferRead
import Derived.ProofKit
import Derived.Maps.AppendAt
import Derived.RegionTactic
import Derived.Maps.OwnOps
import Derived.Maps.Views
import Derived.ChangeAlike
import Derived.Deep.AppendSrc
import Derived.Lib.ConvBytes
import Derived.BigQuiet
import Derived.Deep.QuietTactic
import Derived.Deep.CutRange
import Derived.Deep.RegionWith
import Derived.StillTailTactics
/- Words for memory: a block known whole; a slice value that reads as a list of bytes; a made row of bytes. -/
namespace Go.Proofs.YtolpgpphjnkehaaGreatDoor.Cac
set_option maxRecDepth 20000
open Go.RowKit

def Blk (w : World) (g : Nat) (t : TypeId) (cs : Array Value) : Prop := w.heap[g]? = some (.cells cs t (0, 0))

section
variable {w w' : World} {g : Nat} {t : TypeId} {cs : Array Value}
theorem Blk.lt (h : Blk w g t cs) : g < w.heap.size := by
  rcases Nat.lt_or_ge g w.heap.size with hlt | hge
  · exact hlt
  · unfold Blk at h; rw [Array.getElem?_eq_none hge] at h; cases h
theorem Blk.cell (h : Blk w g t cs) (i : Nat) : w.cell? ⟨g, i, none⟩ = cs[i]? := cell_of_row w g i cs t (0, 0) h
theorem Blk.frozen (h : Blk w g t cs) (i : Nat) : w.frozen? ⟨g, i, none⟩ = false := by
  unfold Blk at h
  simp [World.frozen?, h]
theorem Blk.new (w : World) (t : TypeId) (cs : Array Value) : Blk (w.alloc (.cells cs t)) w.heap.size t cs := heap_alloc_new w _
theorem Blk.drew (h : Blk w g t cs) : Blk w.drew g t cs := h
theorem Blk.drewN (h : Blk w g t cs) (n : Nat) : Blk (w.drewN n) g t cs := h
theorem Blk.alloc (h : Blk w g t cs) (o : Obj) : Blk (w.alloc o) g t cs := (Below.heap_alloc w o g h.lt).trans h
theorem Blk.set_ (h : Blk w g t cs) (i : Nat) (u : Value) : Blk (w.setCell ⟨g, i, none⟩ u) g t (cs.setIfInBounds i u) := by
  unfold Blk at h ⊢
  simp [World.setCell, Array.getElem?_modify, h]
theorem Blk.far (h : Blk w g t cs) {p : Addr} (hp : g ≠ p.block) (u : Value) : Blk (w.setCell p u) g t cs := (Below.heap_setCell w p u g hp).trans h
theorem Blk.below {B : Nat} (h : Blk w g t cs) (hb : Below B w w') (hg : g < B) : Blk w' g t cs := (hb.block g hg).trans h
theorem Blk.grown {row : Option Nat} (h : Blk w g t cs) (hb : w.grownBy w' row) (hg : some g ≠ row) : Blk w' g t cs := (hb.block g h.lt hg).trans h
theorem Blk.kept {row : Option Nat} (h : Blk w g t cs) (hg : w.grownBy w' row) (hr : ∀ r, row = some r → ∃ o : Obj, w.heap[r]? = some o ∧ o.isCells = false) : Blk w' g t cs :=
  h.grown hg fun e => by
    obtain ⟨o, ho, hc⟩ := hr g e.symm
    rw [show w.heap[g]? = _ from h] at ho; cases ho; cases hc
theorem Blk.putObj (h : Blk w g t cs) {l : Nat} {o : Obj} (o' : Obj) (hl : w.heap[l]? = some o) (ho : o.isCells = false) : Blk (w.putObj l o') g t cs :=
  h.kept (grownBy_putObj' w l o') (fun r e => by cases e; exact ⟨o, hl, ho⟩)
end

/-- A byte as a value. -/
def bv (c : UInt8) : Value := .int .u8 (c.toNat : Int)
theorem bv_one (c : UInt8) : (bv c).oneCell' = true := rfl

/-- What a slice value of bytes reads as. -/
def Bytes (w : World) (A : Option Addr) (bs : List UInt8) : Prop :=
  ∀ (k : Nat) (c : UInt8), bs[k]? = some c → ∃ b off, A = some ⟨b, off, none⟩ ∧ b < w.heap.size ∧ w.cell? ⟨b, off + k, none⟩ = some (.int .u8 (c.toNat : Int))

theorem Bytes.nil (w : World) (A : Option Addr) : Bytes w A [] := fun k c h => by simp at h
theorem Bytes.below {w w' : World} {A : Option Addr} {bs : List UInt8} (h : Bytes w A bs) (hb : Below w.heap.size w w') : Bytes w' A bs := fun k c hk => by
  obtain ⟨b, off, e, hlt, hc⟩ := h k c hk
  exact ⟨b, off, e, Nat.lt_of_lt_of_le hlt hb.size, (hb.cell (p := ⟨b, off + k, none⟩) hlt).trans hc⟩
theorem Bytes.of_blk {w : World} {g : Nat} {t : TypeId} {cs : Array Value} {bs : List UInt8} (h : Blk w g t cs) (hcs : ∀ (k : Nat) (c : UInt8), bs[k]? = some c → cs[k]? = some (bv c)) : Bytes w (some ⟨g, 0, none⟩) bs := fun k c hk =>
  ⟨g, 0, rfl, h.lt, by rw [Nat.zero_add, h.cell, hcs k c hk]; rfl⟩
theorem Bytes.at_ {w : World} {A : Option Addr} {bs : List UInt8} (h : Bytes w A bs) {k : Nat} (hk : k < bs.length) : ∃ b off, A = some ⟨b, off, none⟩ ∧ b < w.heap.size ∧ ∀ (j : Nat) (c : UInt8), bs[j]? = some c → w.cell? ⟨b, off + j, none⟩ = some (.int .u8 (c.toNat : Int)) := by
  obtain ⟨b, off, rfl, hlt, _⟩ := h k bs[k] (List.getElem?_eq_getElem hk)
  refine ⟨b, off, rfl, hlt, fun j c hj => ?_⟩
  obtain ⟨b', off', e, _, hc⟩ := h j c hj
  cases e
  exact hc

/-- A made row of n bytes. -/
def mk8 (n : Nat) : Array Value := madeCells #[.int .u8 0] n
theorem mk8_list (n : Nat) : (mk8 n).toList = List.replicate n (bv 0) := by
  apply List.ext_getElem
  · simp [mk8, madeCells]
  · intro i h1 h2
    simp [mk8, madeCells, bv, Nat.mod_one]
theorem mk8_eq (n : Nat) : mk8 n = (List.replicate n (bv 0)).toArray := by
  rw [← mk8_list]

theorem Tryz.info8 : (Tryz.prog.info? 5).map (fun i => (i.zero, i.size, i.bytes)) = some (some (.int .u8 0), 1, 1) := by kernel_rfl

theorem run_mk8 (n : Nat) (hn : n ≤ 281474976710656) (w : World) :
    (Instr.makeSlice 32 (.int .i64 (n : Int)) (.int .i64 (n : Int))).run Tryz.prog w = .ok (.slice (some ⟨w.heap.size, 0, none⟩) n n) (w.alloc (.cells (mk8 n) 5)) := by
  obtain ⟨i0, hi, hz0, hz1, hz2⟩ := info_parts Tryz.info8
  have h := run_make (P := Tryz.prog) w 32 5 i0 (.int .u8 0) Tryz.underlying32 hi hz0 .i64 .i64 (n : Int) (n : Int) (by omega) (by omega) (by rw [hz2]; omega) (by omega)
  simpa [hz1, mk8, Value.cells] using h

theorem Tryz.size8 : (Tryz.prog.info? 5).map (·.size) = some 1 := by kernel_rfl

/-- copy of a whole slice of bytes to the front of a row of the call's own. -/
theorem run_copy8 (w : World) (ty : TypeId) (g m c : Nat) (A : Option Addr) (cap : Nat) (bs : List UInt8) (cur : List Value) (hA : Bytes w A bs) (hR : Blk w g 5 cur.toArray) (hm : bs.length ≤ m) (hc : m ≤ cur.length) :
    ∃ w', (Builtin.copy_ #[32, 32] ty #[.slice (some ⟨g, 0, none⟩) m c, .slice A bs.length cap]).run Tryz.prog w = .ok (goInt bs.length) w' ∧
      Blk w' g 5 (bs.map bv ++ cur.drop bs.length).toArray ∧ w.grownBy w' (some g) ∧ w'.heap.size = w.heap.size := by
  rcases Nat.eq_zero_or_pos bs.length with h0 | h0
  · obtain rfl : bs = [] := List.eq_nil_of_length_eq_zero h0
    exact ⟨w, run_copy_none (P := Tryz.prog) w _ _ ty 5 _ _ _ _ _ _ Tryz.underlying32 Tryz.size8 (by simp), by simpa using hR, World.grownBy.refl w _, rfl⟩
  · obtain ⟨b, off, rfl, hb, hcell⟩ := hA.at_ h0
    have hrun := run_copy_row (P := Tryz.prog) w 32 32 ty 5 g 0 m c ⟨b, off, none⟩ bs.length cap cur.toArray 5 (bs.map bv) Tryz.underlying32 Tryz.size8 hR (by rw [List.length_map]; exact (Nat.min_eq_left hm).symm)
      (fun j v hv => by
        rw [List.getElem?_map] at hv
        cases hj : bs[j]? with
        | none => rw [hj] at hv; cases hv
        | some d =>
          rw [hj] at hv
          simp only [Option.map_some, Option.some.injEq] at hv
          subst hv
          have e : (⟨b, off, none⟩ : Addr).add j = ⟨b, off + j, none⟩ := by unfold Addr.add; split <;> simp_all
          rw [e]; exact hcell j d hj)
      (by simp; omega) (fun v hv => by obtain ⟨d, _, rfl⟩ := List.mem_map.1 hv; rfl)
    refine ⟨_, by simpa using hrun, ?_, ?_, by simp [World.setRow]⟩
    · have := setRow_heap w g cur.toArray (cur.take 0 ++ bs.map bv ++ cur.drop (0 + (bs.map bv).length)).toArray 5 (0, 0) hR
      simpa [Blk] using this
    · exact ⟨rfl, rfl, rfl, by simp [World.setRow], fun k hk hne => setRow_other w g k _ (fun e => hne (by rw [e]))⟩

/-- The cells of a row of bytes. -/
def row8 (bs : List UInt8) : Array Value := (bs.map bv).toArray

theorem row8_get {bs : List UInt8} (k : Nat) (c : UInt8) (h : bs[k]? = some c) : (row8 bs)[k]? = some (bv c) := by
  unfold row8
  simp [h]
theorem Bytes.row {w : World} {g : Nat} {t : TypeId} {bs : List UInt8} (h : Blk w g t (row8 bs)) : Bytes w (some ⟨g, 0, none⟩) bs := Bytes.of_blk h (fun k c hk => row8_get k c hk)

/-- What the walk is told of a slice of integers that came in. -/
def IsRow (k : IntKind) (w : World) (a : Option Addr) (len cap : Nat) (zs : List Int) : Prop :=
  (a = none ∧ len = 0 ∧ cap = 0 ∧ zs = []) ∨
  ∃ x, a = some x ∧ len ≤ cap ∧ cap ≤ maxLen ∧ zs.length = cap ∧ (∀ i, i < zs.length → w.cell? (x.add i) = some (.int k (zs.getD i 0))) ∧ ∀ n ∈ zs, (Lit.int k n).wf = true

theorem wf_u8 {n : Int} (h : (Lit.int .u8 n).wf = true) : 0 ≤ n ∧ n ≤ 255 := by
  have h' := h
  simp [Lit.wf, IntKind.min, IntKind.max, IntKind.bits, IntKind.signed] at h'
  omega
theorem wf_u16 {n : Int} (h : (Lit.int .u16 n).wf = true) : ∃ m : Nat, n = m ∧ m < 65536 := by
  have h' := h
  simp [Lit.wf, IntKind.min, IntKind.max, IntKind.bits, IntKind.signed] at h'
  exact ⟨n.toNat, by omega, by omega⟩

theorem wf_u8n {n : Int} (h : (Lit.int .u8 n).wf = true) : ∃ m : Nat, n = m ∧ m < 256 := by
  have h' := wf_u8 h
  exact ⟨n.toNat, by omega, by omega⟩
theorem wf_u64 {n : Int} (h : (Lit.int .u64 n).wf = true) : ∃ m : Nat, n = m ∧ m < 18446744073709551616 := by
  have h' := h
  simp [Lit.wf, IntKind.min, IntKind.max, IntKind.bits, IntKind.signed] at h'
  exact ⟨n.toNat, by omega, by omega⟩
theorem wf_i64 {n : Int} (h : (Lit.int .i64 n).wf = true) : -9223372036854775808 ≤ n ∧ n < 9223372036854775808 := by
  have h' := h
  simp [Lit.wf, IntKind.min, IntKind.max, IntKind.bits, IntKind.signed] at h'
  omega

theorem bytes_of_row8 {w : World} {a : Option Addr} {len cap : Nat} {zs : List Int} (h : IsRow .u8 w a len cap zs) : ∃ bs : List UInt8, bs.length = len ∧ Bytes w a bs ∧ len ≤ maxLen := by
  rcases h with ⟨rfl, rfl, rfl, rfl⟩ | ⟨x, rfl, hl, hm, hz, hc, hw⟩
  · exact ⟨[], rfl, Bytes.nil _ _, Nat.zero_le _⟩
  · refine ⟨(zs.take len).map fun z => UInt8.ofNat z.toNat, by simp; omega, fun k c hk => ?_, Nat.le_trans hl hm⟩
    rw [List.getElem?_map] at hk
    have hkl : k < len := by
      rcases Nat.lt_or_ge k len with h | h
      · exact h
      · rw [List.getElem?_eq_none (by simp; omega)] at hk; cases hk
    have hkz : k < zs.length := by omega
    rw [List.getElem?_take_of_lt hkl, List.getElem?_eq_getElem hkz] at hk
    simp only [Option.map_some, Option.some.injEq] at hk
    have hcell := hc k hkz
    have hcell0 := hc 0 (by omega)
    obtain ⟨b, off, spot⟩ := x
    have hspot : spot = none := by simpa [Addr.add] using World.cell?_spot hcell0
    subst hspot
    have e : (⟨b, off, none⟩ : Addr).add k = ⟨b, off + k, none⟩ := by unfold Addr.add; split <;> simp_all
    rw [e] at hcell
    have hwf := wf_u8 (hw zs[k] (List.getElem_mem hkz))
    have hg : zs.getD k 0 = zs[k] := by simp [List.getD, hkz]
    refine ⟨b, off, rfl, World.block_lt_of_cell? w _ hcell, ?_⟩
    rw [hcell, hg, ← hk, UInt8.toNat_ofNat']
    congr 2
    omega

/-- A text. -/
def str (bs : List UInt8) : ByteArray := ⟨bs.toArray⟩
theorem str_toList (bs : List UInt8) : (str bs).toList = bs := by
  unfold str
  simp [ByteArray.toList_eq]
theorem str_eq {a b : List UInt8} (h : a = b) : ((str a).toList == (str b).toList) = true := by rw [h]; simp
theorem run_str8 (w : World) (A : Option Addr) (cap : Nat) (bs : List UInt8) (hA : Bytes w A bs) :
    (convert 32 9 (.slice A bs.length cap)).run Tryz.prog w = .ok (.string (str bs)) w := by
  rcases Nat.eq_zero_or_pos bs.length with h0 | h0
  · obtain rfl : bs = [] := List.eq_nil_of_length_eq_zero h0
    cases A with
    | none => exact Lib.run_convert_nil_bytes w _ _ 5 cap Tryz.underlying32 Tryz.underlying5 Tryz.underlying9
    | some a => exact run_convert_bytes_back w _ _ 5 a cap [] Tryz.underlying32 Tryz.underlying5 Tryz.underlying9 (fun j hj => by simp at hj)
  · obtain ⟨b, off, rfl, _, hc⟩ := hA.at_ h0
    exact run_convert_bytes_back w _ _ 5 ⟨b, off, none⟩ cap bs Tryz.underlying32 Tryz.underlying5 Tryz.underlying9 (fun j hj => by
      have e : (⟨b, off, none⟩ : Addr).add j = ⟨b, off + j, none⟩ := by unfold Addr.add; split <;> simp_all
      rw [e]; exact hc j _ (List.getElem?_eq_getElem hj))

theorem run_str8L (w : World) (A : Option Addr) (len cap : Nat) (bs : List UInt8) (hl : bs.length = len) (hA : Bytes w A bs) :
    (convert 32 9 (.slice A len cap)).run Tryz.prog w = .ok (.string (str bs)) w := by subst hl; exact run_str8 w A cap bs hA

theorem own_below {w w' : World} {base : Nat} {e : TypeId} {size : Nat} {v : Value} {n : Nat} {xs : List Value} (h : w.ownsRow base e size v n xs) (hb : Below w.heap.size w w') : w'.ownsRow base e size v n xs :=
  h.kept (row := none) ⟨hb.os, hb.tape, hb.output, hb.size, fun k hk _ => hb.block k hk⟩ (by cases v.ownBlock <;> simp)

/-- append, where its run is known. -/
theorem wpList_app {P : Program} {w : World} {ops : Array Oper} {rest : List Oper} {o : Oper} {a : Act} {Q : Exit → Act → World → Prop} (hgd : o.guard = none) (s x : Operand) (t : TypeId)
    (ho : o.op = .call { callee := .builtin .append, args := #[s, x], argTypes := #[t, t] }) (v xv v' : Value) (w' : World) (hs : a.eval s = v) (hx : a.eval x = xv)
    (hrun : (Builtin.append_ #[t, t] o.type #[v, xv]).run P w = .ok v' w') (h : wpList P ops Q rest (a.put o.dst v') w') : wpList P ops Q (o :: rest) a w :=
  wpList_plain hgd fun K hK => by
    unfold Oper.wp execOp
    simp only [ho, resolve, invoke, builtin, Sem.run_bind, Sem.run_pure, Result.andThen_ok, List.map_toArray, List.map_cons, List.map_nil, hs, hx, hrun]
    exact hK _ _ h

/-- append of bytes to a row of the call's own. -/
theorem run_app8 (w : World) (base : Nat) (v : Value) (n : Nat) (xs : List UInt8) (hown : w.ownsRow base 5 1 v n (xs.map bv)) (A : Option Addr) (len c : Nat) (bs : List UInt8) (hlen : bs.length = len) (hA : Bytes w A bs)
    (hb : n + len ≤ 140737488355328) (hbase : base ≤ w.heap.size) :
    ∃ v' w', (Builtin.append_ #[32, 32] 32 #[v, .slice A len c]).run Tryz.prog w = .ok v' w' ∧ w'.ownsRow base 5 1 v' (n + len) ((xs ++ bs).map bv) ∧ w.grownBy w' v.ownBlock := by
  obtain ⟨i0, hi, hz0, hz1, hz2⟩ := info_parts Tryz.info8
  have hcells : ∀ (a : Addr), A = some a → ∀ (j : Nat) (u : Value), (bs.map bv)[j]? = some u → w.cell? (a.add j) = some u := fun a e j u hu => by
    rw [List.getElem?_map] at hu
    cases hj : bs[j]? with
    | none => rw [hj] at hu; cases hu
    | some d =>
      rw [hj] at hu
      simp only [Option.map_some, Option.some.injEq] at hu
      subst hu
      obtain ⟨b, off, e', _, hc⟩ := hA j d hj
      rw [e] at e'; cases e'
      have e2 : (⟨b, off, none⟩ : Addr).add j = ⟨b, off + j, none⟩ := by unfold Addr.add; split <;> simp_all
      rw [e2]; exact hc
  have h1 : ∀ u ∈ bs.map bv, u.oneCell' = true := fun u hu => by obtain ⟨d, _, rfl⟩ := List.mem_map.1 hu; rfl
  cases A with
  | some a =>
    obtain ⟨v', w', hrun, h2, h3, _, _⟩ := run_append_own_at (P := Tryz.prog) w base 32 32 5 i0 (.int .u8 0) 1 1 Tryz.underlying32 hi hz0 hz1 hz2 rfl (by decide) v n (xs.map bv) hown a len c (bs.map bv) (by simp; omega) (hcells a rfl) h1 (by unfold maxLen; omega) (by omega) hbase
    exact ⟨v', w', hrun, by rw [List.map_append]; exact h2, h3⟩
  | none =>
    have h0 : bs = [] := by
      cases bs with
      | nil => rfl
      | cons d r =>
        obtain ⟨b, off, e, _⟩ := hA 0 d rfl
        cases e
    subst h0
    obtain rfl : 0 = len := hlen
    refine ⟨v, w, ?_, by simpa using hown, World.grownBy.refl w _⟩
    rcases hown.2 with ⟨rfl, rfl⟩ | ⟨g, cap, cur, rfl, _, _, hnc, _⟩
    · simp [Builtin.append_, run_underlying Tryz.underlying32, sizeOf, typeInfo, hi, Builtin.lenOf, Builtin.firstCells]
    · simp [Builtin.append_, run_underlying Tryz.underlying32, sizeOf, typeInfo, hi, Builtin.lenOf, Builtin.firstCells, hnc, storeCells]

theorem Bytes.of_own {w : World} {base n : Nat} {t : TypeId} {A : Option Addr} {c : Nat} {bs : List UInt8} (h : w.ownsRow base t 1 (.slice A n c) n (bs.map bv)) : Bytes w A bs := fun k d hk => by
  rcases h.2 with ⟨e, rfl⟩ | ⟨g, cap, cur, e, hb, hg, hn, hm, hs, ht⟩
  · have := h.1; simp at this; subst this; simp at hk
  · injection e with e1 e2 e3
    have hlt : g < w.heap.size := (Array.getElem?_eq_some_iff.1 hg).1
    refine ⟨g, 0, e1, hlt, ?_⟩
    have hkl : k < n := by have := h.1; simp at this; have := (List.getElem?_eq_some_iff.1 hk).1; omega
    rw [Nat.zero_add, cell_of_row w g k cur t (0, 0) hg]
    have h2 : (cur.toList.take (n * 1))[k]? = some (bv d) := by rw [ht]; simp [hk]
    rw [List.getElem?_take_of_lt (by omega)] at h2
    simpa [bv] using h2

/-- string(b) of a row of the call's own. -/
theorem run_strOwn (w : World) (base n : Nat) (v : Value) (bs : List UInt8) (h : w.ownsRow base 5 1 v n (bs.map bv)) :
    (convert 32 9 v).run Tryz.prog w = .ok (.string (str bs)) w := by
  have hl : bs.length = n := by have := h.1; simp at this; exact this
  rcases h.2 with ⟨rfl, rfl⟩ | ⟨g, cap, cur, rfl, _⟩
  · exact run_str8L w none 0 0 bs hl (Bytes.of_own h)
  · exact run_str8L w _ n cap bs hl (Bytes.of_own h)

end Go.Proofs.YtolpgpphjnkehaaGreatDoor.Cac
/- What a step may turn: a set of blocks. -/
namespace Go.Proofs.YtolpgpphjnkehaaGreatDoor.Cac
set_option maxRecDepth 20000
open Go.RowKit

/-- From w to w' only blocks of F, and new ones, have turned. -/
structure Off (F : Nat → Prop) (w w' : World) : Prop where
  os : w'.os = w.os
  tape : w'.tape = w.tape
  output : w'.output = w.output
  size : w.heap.size ≤ w'.heap.size
  block : ∀ k, k < w.heap.size → ¬ F k → w'.heap[k]? = w.heap[k]?

section
variable {F G : Nat → Prop} {w w1 w2 : World}
theorem Off.refl (F : Nat → Prop) (w : World) : Off F w w := ⟨rfl, rfl, rfl, Nat.le_refl _, fun _ _ _ => rfl⟩
theorem Off.trans (h : Off F w w1) (k : Off F w1 w2) : Off F w w2 :=
  ⟨k.os.trans h.os, k.tape.trans h.tape, k.output.trans h.output, Nat.le_trans h.size k.size, fun i hi hn => (k.block i (Nat.lt_of_lt_of_le hi h.size) hn).trans (h.block i hi hn)⟩
theorem Off.mono (h : Off F w w1) (hF : ∀ k, k < w.heap.size → F k → G k) : Off G w w1 :=
  ⟨h.os, h.tape, h.output, h.size, fun k hk hn => h.block k hk fun hf => hn (hF k hk hf)⟩
/-- Two steps, the second of which may turn what the first has made. -/
theorem Off.then (h : Off F w w1) (k : Off G w1 w2) (hG : ∀ j, j < w.heap.size → G j → F j) : Off F w w2 :=
  ⟨k.os.trans h.os, k.tape.trans h.tape, k.output.trans h.output, Nat.le_trans h.size k.size, fun i hi hn => (k.block i (Nat.lt_of_lt_of_le hi h.size) fun hg => hn (hG i hi hg)).trans (h.block i hi hn)⟩
theorem Off.below {B : Nat} (h : Off F w w1) (hB : B ≤ w.heap.size) (hF : ∀ k, F k → B ≤ k) : Below B w w1 :=
  ⟨h.os, h.tape, h.output, h.size, fun k hk => h.block k (by omega) fun hf => by have := hF k hf; omega⟩
theorem Off.of_below {B : Nat} (h : Below B w w1) (F : Nat → Prop) (hF : ∀ k, k < w.heap.size → B ≤ k → F k) : Off F w w1 :=
  ⟨h.os, h.tape, h.output, h.size, fun k hk hn => h.block k (by
    rcases Nat.lt_or_ge k B with hb | hb
    · exact hb
    · exact absurd (hF k hk hb) hn)⟩
theorem Off.of_new (h : Below w.heap.size w w1) (F : Nat → Prop) : Off F w w1 := Off.of_below h F fun k h1 h2 => by omega
theorem Off.of_grown {row : Option Nat} (h : w.grownBy w1 row) : Off (fun k => row = some k) w w1 :=
  ⟨h.os, h.tape, h.output, h.size, fun k hk hn => h.block k hk fun e => hn e.symm⟩
theorem Off.set_ (w : World) (p : Addr) (u : Value) : Off (fun k => k = p.block) w (w.setCell p u) :=
  ⟨rfl, rfl, rfl, by simp [World.setCell], fun k _ hn => Below.heap_setCell _ _ _ _ hn⟩
theorem Off.setc (w : World) (g i : Nat) (u : Value) : Off (fun k => k = g) w (w.setCell ⟨g, i, none⟩ u) := Off.set_ w ⟨g, i, none⟩ u
theorem Off.drew (F : Nat → Prop) (w : World) : Off F w w.drew := ⟨rfl, rfl, rfl, Nat.le_refl _, fun _ _ _ => rfl⟩
theorem Off.drewN (F : Nat → Prop) (w : World) (n : Nat) : Off F w (w.drewN n) := ⟨rfl, rfl, rfl, Nat.le_refl _, fun _ _ _ => rfl⟩
theorem Off.alloc (F : Nat → Prop) (w : World) (o : Obj) : Off F w (w.alloc o) := ⟨rfl, rfl, rfl, by simp, fun k hk _ => Below.heap_alloc _ _ _ hk⟩
end

/-- A set of blocks, and those made since. -/
def grow (F : Nat → Prop) (w w' : World) : Nat → Prop := fun k => F k ∨ (w.heap.size ≤ k ∧ k < w'.heap.size)
theorem grow.old {F : Nat → Prop} {w w' : World} {k : Nat} (h : F k) : grow F w w' k := .inl h

theorem Blk.off {F : Nat → Prop} {w w' : World} {g : Nat} {t : TypeId} {cs : Array Value} (h : Blk w g t cs) (ho : Off F w w') (hg : ¬ F g) : Blk w' g t cs := (ho.block g h.lt hg).trans h
theorem Blk.same {w w' : World} {g : Nat} {t : TypeId} {cs : Array Value} (h : Blk w g t cs) (he : w'.heap[g]? = w.heap[g]?) : Blk w' g t cs := he.trans h

/-- A value that is a slice of bytes, which reads as bs; its block is one of E. -/
def Sec (w : World) (E : Nat → Prop) (v : Value) (bs : List UInt8) : Prop :=
  ∃ A c, v = .slice A bs.length c ∧ bs.length ≤ c ∧ c ≤ maxLen ∧ Bytes w A bs ∧ ∀ p : Addr, A = some p → E p.block

theorem Bytes.same {w w' : World} {A : Option Addr} {bs : List UInt8} (h : Bytes w A bs) (hs : w.heap.size ≤ w'.heap.size) (he : ∀ p : Addr, A = some p → p.block < w.heap.size → w'.heap[p.block]? = w.heap[p.block]?) : Bytes w' A bs := fun k c hk => by
  obtain ⟨b, off, e, hlt, hc⟩ := h k c hk
  exact ⟨b, off, e, Nat.lt_of_lt_of_le hlt hs, (World.cell?_of_block (a := ⟨b, off + k, none⟩) (he ⟨b, off, none⟩ e hlt)).trans hc⟩
theorem Sec.same {w w' : World} {E : Nat → Prop} {v : Value} {bs : List UInt8} (h : Sec w E v bs) (hs : w.heap.size ≤ w'.heap.size) (he : ∀ k, E k → k < w.heap.size → w'.heap[k]? = w.heap[k]?) : Sec w' E v bs := by
  obtain ⟨A, c, h1, h2, h3, h4, h5⟩ := h
  exact ⟨A, c, h1, h2, h3, h4.same hs (fun p e hp => he _ (h5 p e) hp), h5⟩
theorem Sec.mono {w : World} {E E' : Nat → Prop} {v : Value} {bs : List UInt8} (h : Sec w E v bs) (hE : ∀ k, E k → E' k) : Sec w E' v bs := by
  obtain ⟨A, c, h1, h2, h3, h4, h5⟩ := h
  exact ⟨A, c, h1, h2, h3, h4, fun p e => hE _ (h5 p e)⟩
theorem Sec.nil (w : World) (E : Nat → Prop) : Sec w E (.slice none 0 0) [] := ⟨none, 0, rfl, Nat.le_refl _, Nat.zero_le _, Bytes.nil _ _, fun p e => by cases e⟩
theorem Sec.of_blk {w : World} {E : Nat → Prop} {g : Nat} {t : TypeId} {bs : List UInt8} (h : Blk w g t (row8 bs)) (hE : E g) (hl : bs.length ≤ maxLen) (n : Nat) (hn : bs.length = n) : Sec w E (.slice (some ⟨g, 0, none⟩) n n) bs :=
  ⟨some ⟨g, 0, none⟩, n, by rw [hn], by omega, by omega, Bytes.row h, fun p e => by cases e; exact hE⟩

end Go.Proofs.YtolpgpphjnkehaaGreatDoor.Cac
/- What a disk says, apart from memory. -/
namespace Dsk

/-- What a disk has: what lasts of each sector, what is pending, the power, the steps. -/
structure DS where
  S : List (List UInt8)
  P : List (Nat × List UInt8)
  dead : Bool
  armed : Nat
  steps : Nat

/-- The place of the last write to s, and one; 0: none. -/
def lastFrom (s : Nat) : Nat → Nat → List (Nat × List UInt8) → Nat
  | _, acc, [] => acc
  | k, acc, p :: r => lastFrom s (k + 1) (if p.1 = s then k + 1 else acc) r
def lastAt (P : List (Nat × List UInt8)) (s : Nat) : Nat := lastFrom s 0 0 P
theorem lastFrom_snoc (s : Nat) (p : Nat × List UInt8) : ∀ (l : List (Nat × List UInt8)) (k acc : Nat), lastFrom s k acc (l ++ [p]) = if p.1 = s then k + l.length + 1 else lastFrom s k acc l
  | [], k, acc => by simp [lastFrom]
  | q :: r, k, acc => by
    simp only [List.cons_append, lastFrom, List.length_cons]
    rw [lastFrom_snoc s p r]
    split <;> omega
theorem lastAt_snoc (P : List (Nat × List UInt8)) (p : Nat × List UInt8) (s : Nat) : lastAt (P ++ [p]) s = if p.1 = s then P.length + 1 else lastAt P s := by
  unfold lastAt; rw [lastFrom_snoc]; simp
theorem lastAt_nil (s : Nat) : lastAt [] s = 0 := rfl

/-- What a sector reads as. -/
def overlay (s : Nat) (P : List (Nat × List UInt8)) (b : List UInt8) : List UInt8 := P.foldl (fun b p => if p.1 = s then p.2 else b) b
theorem overlay_snoc (s : Nat) (P : List (Nat × List UInt8)) (p : Nat × List UInt8) (b : List UInt8) : overlay s (P ++ [p]) b = if p.1 = s then p.2 else overlay s P b := by
  simp [overlay]
def readS (D : DS) (s : Nat) : List UInt8 := overlay s D.P (D.S.getD s [])

theorem snoc_ind {α : Type} {p : List α → Prop} (h0 : p []) (h1 : ∀ l a, p l → p (l ++ [a])) (l : List α) : p l := by
  have : ∀ r : List α, p r.reverse := fun r => by
    induction r with
    | nil => exact h0
    | cons a r ih => rw [List.reverse_cons]; exact h1 _ _ ih
  have := this l.reverse
  rwa [List.reverse_reverse] at this

theorem overlay_last (s : Nat) (b : List UInt8) (P : List (Nat × List UInt8)) : (lastAt P s = 0 ∧ overlay s P b = b) ∨ ∃ k, lastAt P s = k + 1 ∧ k < P.length ∧ P[k]? = some (s, overlay s P b) := by
  induction P using snoc_ind with
  | h0 => exact .inl ⟨rfl, rfl⟩
  | h1 l p ih =>
    rw [lastAt_snoc, overlay_snoc]
    by_cases h : p.1 = s
    · rw [if_pos h, if_pos h]
      exact .inr ⟨l.length, rfl, by simp, by rw [List.getElem?_append_right (Nat.le_refl _)]; simp [← h]⟩
    · rw [if_neg h, if_neg h]
      rcases ih with h1 | ⟨k, h1, h2, h3⟩
      · exact .inl h1
      · exact .inr ⟨k, h1, by simp; omega, by rw [List.getElem?_append_left h2]; exact h3⟩

theorem lastAt_le (P : List (Nat × List UInt8)) (s : Nat) : lastAt P s ≤ P.length := by
  rcases overlay_last s [] P with ⟨h, _⟩ | ⟨k, h, hk, _⟩ <;> omega

/-- What becomes of the sectors, when of each pending write it is said what lasts of it. -/
def settleTo (f : Nat → List UInt8 → Option (List UInt8)) (P : List (Nat × List UInt8)) (S : List (List UInt8)) : Nat → List (List UInt8)
  | 0 => S
  | k + 1 => match P[k]? with
    | none => settleTo f P S k
    | some p => match f k p.2 with
      | none => settleTo f P S k
      | some b => (settleTo f P S k).set p.1 b
theorem settleTo_length (f : Nat → List UInt8 → Option (List UInt8)) (P : List (Nat × List UInt8)) (S : List (List UInt8)) : ∀ k, (settleTo f P S k).length = S.length
  | 0 => rfl
  | k + 1 => by
    unfold settleTo
    split
    · exact settleTo_length f P S k
    · split
      · exact settleTo_length f P S k
      · rw [List.length_set]; exact settleTo_length f P S k

/-- A sector of noughts. -/
def zeros : List UInt8 := List.replicate 256 0
theorem zeros_length : zeros.length = 256 := List.length_replicate

/-- A disk as it must be. -/
structure DS.Ok (D : DS) : Prop where
  lo : 16 ≤ D.S.length
  hi : D.S.length ≤ 4096
  sec : ∀ b ∈ D.S, b = [] ∨ b.length = 256
  pend : ∀ p ∈ D.P, p.1 < D.S.length ∧ p.2.length = 256
  armed : D.armed < 9223372036854775808

def barrierS (D : DS) : List (List UInt8) := settleTo (fun _ b => some b) D.P D.S D.P.length
def onF (keep : Int → Bool) (torn : Int) (k : Nat) (b : List UInt8) : Option (List UInt8) := if (k : Int) = torn then some [] else if keep k then some b else none
def onS (keep : Int → Bool) (torn : Int) (D : DS) : List (List UInt8) := settleTo (onF keep torn) D.P D.S D.P.length

theorem settleTo_sec (f : Nat → List UInt8 → Option (List UInt8)) (hf : ∀ k b c, f k b = some c → c = [] ∨ c = b) (D : DS) (h : D.Ok) : ∀ k, ∀ b ∈ settleTo f D.P D.S k, b = [] ∨ b.length = 256
  | 0 => h.sec
  | k + 1 => by
    unfold settleTo
    split
    · exact settleTo_sec f hf D h k
    · rename_i p hp
      split
      · exact settleTo_sec f hf D h k
      · rename_i c hc
        intro b hb
        rcases List.mem_or_eq_of_mem_set hb with hb | rfl
        · exact settleTo_sec f hf D h k b hb
        · rcases hf _ _ _ hc with h1 | h1
          · exact .inl h1
          · rw [h1]; exact .inr (h.pend p (List.mem_of_getElem? hp)).2

end Dsk
/- A disk in memory. -/
namespace Go.Proofs.YtolpgpphjnkehaaGreatDoor.Cac
set_option maxRecDepth 20000
open Go.RowKit Dsk

def prow : List (Nat × Value) → List Value
  | [] => []
  | p :: r => .int .i64 (p.1 : Int) :: p.2 :: prow r
theorem prow_length : ∀ l, (prow l).length = 2 * l.length
  | [] => rfl
  | p :: r => by simp [prow, prow_length r]; omega
theorem prow_append : ∀ l m, prow (l ++ m) = prow l ++ prow m
  | [], _ => rfl
  | p :: r, m => by simp [prow, prow_append r m]
theorem prow_get : ∀ (l : List (Nat × Value)) (k : Nat) (p : Nat × Value), l[k]? = some p → (prow l)[2 * k]? = some (.int .i64 (p.1 : Int)) ∧ (prow l)[2 * k + 1]? = some p.2
  | [], k, p, h => by simp at h
  | q :: r, 0, p, h => by simp at h; subst h; exact ⟨rfl, rfl⟩
  | q :: r, k + 1, p, h => by
    have := prow_get r k p (by simpa using h)
    rw [show 2 * (k + 1) = 2 * k + 1 + 1 by omega]
    simpa [prow] using this

/-- What is pending, in memory: the slice value rv, of blocks of type t. -/
structure Pend (w : World) (t : TypeId) (E : Nat → Prop) (rv : Value) (P : List (Nat × List UInt8)) : Prop where
  own : ∃ vs : List Value, vs.length = P.length ∧ w.ownsRow 0 t 2 rv P.length (prow ((P.map (·.1)).zip vs)) ∧ ∀ (k : Nat) (p : Nat × List UInt8), P[k]? = some p → ∃ v, vs[k]? = some v ∧ Sec w E v p.2

theorem Pend.nil (w : World) (t : TypeId) (E : Nat → Prop) : Pend w t E (.slice none 0 0) [] := ⟨[], rfl, World.ownsRow_nil _ _ _ _, fun k p h => by simp at h⟩
theorem Pend.shape {w : World} {t : TypeId} {E : Nat → Prop} {rv : Value} {P : List (Nat × List UInt8)} (h : Pend w t E rv P) : ∃ A c, rv = .slice A P.length c ∧ P.length ≤ c ∧ c ≤ maxLen := by
  obtain ⟨vs, _, ho, _⟩ := h.own
  rcases ho.2 with ⟨rfl, h0⟩ | ⟨g, cap, cur, rfl, _, _, h1, h2, _⟩
  · exact ⟨none, 0, by rw [h0], by omega, Nat.zero_le _⟩
  · exact ⟨_, _, rfl, h1, h2⟩
theorem Pend.same {w w' : World} {t : TypeId} {E : Nat → Prop} {rv : Value} {P : List (Nat × List UInt8)} (h : Pend w t E rv P) (hs : w.heap.size ≤ w'.heap.size)
    (hE : ∀ k, E k → k < w.heap.size → w'.heap[k]? = w.heap[k]?) (hr : ∀ k, rv.ownBlock = some k → w'.heap[k]? = w.heap[k]?) : Pend w' t E rv P := by
  obtain ⟨vs, hl, ho, hv⟩ := h.own
  refine ⟨vs, hl, ⟨ho.1, ?_⟩, fun k p hp => ?_⟩
  · rcases ho.2 with h0 | ⟨g, cap, cur, rfl, h1, h2, h3⟩
    · exact .inl h0
    · exact .inr ⟨g, cap, cur, rfl, h1, (hr g rfl).trans h2, h3⟩
  · obtain ⟨v, e, hs'⟩ := hv k p hp
    exact ⟨v, e, hs'.same hs hE⟩
theorem Pend.mono {w : World} {t : TypeId} {E E' : Nat → Prop} {rv : Value} {P : List (Nat × List UInt8)} (h : Pend w t E rv P) (hE : ∀ k, E k → E' k) : Pend w t E' rv P := by
  obtain ⟨vs, hl, ho, hv⟩ := h.own
  exact ⟨vs, hl, ho, fun k p hp => by obtain ⟨v, e, hs⟩ := hv k p hp; exact ⟨v, e, hs.mono hE⟩⟩
theorem Pend.lt {w : World} {t : TypeId} {E : Nat → Prop} {rv : Value} {P : List (Nat × List UInt8)} (h : Pend w t E rv P) (k : Nat) (hk : rv.ownBlock = some k) : k < w.heap.size := by
  obtain ⟨vs, hl, ho, hv⟩ := h.own
  exact (ho.lt k hk).2
/-- The k-th that is pending. -/
theorem Pend.at_ {w : World} {t : TypeId} {E : Nat → Prop} {rv : Value} {P : List (Nat × List UInt8)} (h : Pend w t E rv P) {k : Nat} {p : Nat × List UInt8} (hp : P[k]? = some p) :
    ∃ r c v, rv = .slice (some ⟨r, 0, none⟩) P.length c ∧ r < w.heap.size ∧ w.cell? ⟨r, k * 2, none⟩ = some (.int .i64 (p.1 : Int)) ∧ w.cell? ⟨r, k * 2 + 1, none⟩ = some v ∧ Sec w E v p.2 := by
  obtain ⟨vs, hl, ho, hv⟩ := h.own
  obtain ⟨v, e, hs⟩ := hv k p hp
  have hk : k < P.length := (List.getElem?_eq_some_iff.1 hp).1
  have hz : ((P.map (·.1)).zip vs)[k]? = some (p.1, v) := by
    rw [List.getElem?_zip_eq_some]
    exact ⟨by rw [List.getElem?_map, hp]; rfl, e⟩
  obtain ⟨g1, g2⟩ := prow_get _ k _ hz
  rcases ho.2 with ⟨rfl, h0⟩ | ⟨g, cap, cur, rfl, h1, h2, h3⟩
  · omega
  · have c1 := ho.cellAt (k * 2) (by omega)
    have c2 := ho.cellAt (k * 2 + 1) (by omega)
    rw [Nat.mul_comm k 2] at c1 c2
    exact ⟨g, cap, v, rfl, (ho.lt g rfl).2, by rw [Nat.mul_comm k 2, c1, g1], by rw [Nat.mul_comm k 2, c2, g2], hs⟩

/-- Sectors in a block. -/
structure Secs (w : World) (E : Nat → Prop) (g : Nat) (S : List (List UInt8)) : Prop where
  blk : ∃ ls : Array Value, Blk w g 32 ls ∧ S.length ≤ ls.size ∧ ∀ (k : Nat) (b : List UInt8), S[k]? = some b → ∃ v, ls[k]? = some v ∧ Sec w E v b
theorem Secs.lt {w : World} {E : Nat → Prop} {g : Nat} {S : List (List UInt8)} (h : Secs w E g S) : g < w.heap.size := by obtain ⟨ls, h1, _⟩ := h.blk; exact h1.lt
theorem Secs.same {w w' : World} {E : Nat → Prop} {g : Nat} {S : List (List UInt8)} (h : Secs w E g S) (hs : w.heap.size ≤ w'.heap.size)
    (hE : ∀ k, E k → k < w.heap.size → w'.heap[k]? = w.heap[k]?) (hg : w'.heap[g]? = w.heap[g]?) : Secs w' E g S := by
  obtain ⟨ls, h1, h2, h3⟩ := h.blk
  exact ⟨ls, h1.same hg, h2, fun k b hb => by obtain ⟨v, e, hv⟩ := h3 k b hb; exact ⟨v, e, hv.same hs hE⟩⟩
theorem Secs.mono {w : World} {E E' : Nat → Prop} {g : Nat} {S : List (List UInt8)} (h : Secs w E g S) (hE : ∀ k, E k → E' k) : Secs w E' g S := by
  obtain ⟨ls, h1, h2, h3⟩ := h.blk
  exact ⟨ls, h1, h2, fun k b hb => by obtain ⟨v, e, hv⟩ := h3 k b hb; exact ⟨v, e, hv.mono hE⟩⟩
theorem Secs.at_ {w : World} {E : Nat → Prop} {g : Nat} {S : List (List UInt8)} (h : Secs w E g S) {k : Nat} {b : List UInt8} (hb : S[k]? = some b) : ∃ v, w.cell? ⟨g, k, none⟩ = some v ∧ Sec w E v b := by
  obtain ⟨ls, h1, h2, h3⟩ := h.blk
  obtain ⟨v, e, hv⟩ := h3 k b hb
  exact ⟨v, by rw [h1.cell, e], hv⟩
theorem Secs.free {w : World} {E : Nat → Prop} {g : Nat} {S : List (List UInt8)} (h : Secs w E g S) (k : Nat) : w.frozen? ⟨g, k, none⟩ = false := by
  obtain ⟨ls, h1, _⟩ := h.blk; exact h1.frozen k
/-- A sector is turned. -/
theorem Secs.set_ {w : World} {E : Nat → Prop} {g : Nat} {S : List (List UInt8)} (h : Secs w E g S) (hg : ¬ E g) (k : Nat) (v : Value) (b : List UInt8) (hv : Sec w E v b) : Secs (w.setCell ⟨g, k, none⟩ v) E g (S.set k b) := by
  obtain ⟨ls, h1, h2, h3⟩ := h.blk
  have hf : ∀ {u : Value} {c : List UInt8}, Sec w E u c → Sec (w.setCell ⟨g, k, none⟩ v) E u c := fun hu => hu.same (by simp [World.setCell]) fun j hj _ => Below.heap_setCell _ _ _ _ (fun e => hg (by rw [← show j = g from e]; exact hj))
  refine ⟨ls.setIfInBounds k v, h1.set_ k v, by simpa using h2, fun j c hc => ?_⟩
  by_cases e : j = k
  · subst e
    have hj : j < S.length := by simpa using (List.getElem?_eq_some_iff.1 hc).1
    rw [List.getElem?_set_self hj] at hc
    cases hc
    exact ⟨v, by rw [Array.getElem?_setIfInBounds_self, if_pos (by omega)], hf hv⟩
  · rw [List.getElem?_set_ne (fun e' => e e'.symm)] at hc
    obtain ⟨u, e1, hu⟩ := h3 j c hc
    exact ⟨u, by rw [Array.getElem?_setIfInBounds_ne (fun e' => e e'.symm)]; exact e1, hf hu⟩

/-- Of each sector the place of its last write. -/
structure Lasts (w : World) (g n : Nat) (P : List (Nat × List UInt8)) : Prop where
  blk : ∃ li : Array Value, Blk w g 3 li ∧ li.size = n ∧ ∀ s, s < n → li[s]? = some (.int .i64 (lastAt P s : Int))
theorem Lasts.same {w w' : World} {g n : Nat} {P : List (Nat × List UInt8)} (h : Lasts w g n P) (hg : w'.heap[g]? = w.heap[g]?) : Lasts w' g n P := by
  obtain ⟨li, h1, h2, h3⟩ := h.blk
  exact ⟨li, h1.same hg, h2, h3⟩
theorem Lasts.lt {w : World} {g n : Nat} {P : List (Nat × List UInt8)} (h : Lasts w g n P) : g < w.heap.size := by obtain ⟨ls, h1, _⟩ := h.blk; exact h1.lt
theorem Lasts.at_ {w : World} {g n : Nat} {P : List (Nat × List UInt8)} (h : Lasts w g n P) {s : Nat} (hs : s < n) : w.cell? ⟨g, s, none⟩ = some (.int .i64 (lastAt P s : Int)) := by
  obtain ⟨li, h1, h2, h3⟩ := h.blk
  rw [h1.cell, h3 s hs]
theorem Lasts.free {w : World} {g n : Nat} {P : List (Nat × List UInt8)} (h : Lasts w g n P) (k : Nat) : w.frozen? ⟨g, k, none⟩ = false := by
  obtain ⟨ls, h1, _⟩ := h.blk; exact h1.frozen k
theorem Lasts.write {w : World} {g n : Nat} {P : List (Nat × List UInt8)} (h : Lasts w g n P) {s : Nat} (b : List UInt8) : Lasts (w.setCell ⟨g, s, none⟩ (.int .i64 ((P.length : Int) + 1))) g n (P ++ [(s, b)]) := by
  obtain ⟨li, h1, h2, h3⟩ := h.blk
  refine ⟨_, h1.set_ s _, by simp [h2], fun j hj => ?_⟩
  rw [lastAt_snoc]
  by_cases e : s = j
  · subst e; simp [h2, hj]
  · rw [if_neg (by simpa using e), Array.getElem?_setIfInBounds_ne e]; exact h3 j hj

/-- The blocks that a disk turns: its own, its sectors', its row's, its last ones'. -/
def own4 (g gl gi : Nat) (rv : Value) : Nat → Prop := fun k => k = g ∨ k = gl ∨ k = gi ∨ rv.ownBlock = some k

structure Dk (w : World) (E : Nat → Prop) (g gl gi : Nat) (rv : Value) (D : DS) : Prop where
  ok : D.Ok
  head : Blk w g 90 #[.slice (some ⟨gl, 0, none⟩) D.S.length D.S.length, rv, .slice (some ⟨gi, 0, none⟩) D.S.length D.S.length, .bool D.dead, .int .i64 (D.armed : Int), .int .i64 (D.steps : Int)]
  secs : Secs w E gl D.S
  pend : Pend w 97 E rv D.P
  last : Lasts w gi D.S.length D.P
  e1 : ¬ E g
  e2 : ¬ E gl
  e3 : ¬ E gi
  e4 : ∀ k, rv.ownBlock = some k → ¬ E k ∧ k ≠ g ∧ k ≠ gl ∧ k ≠ gi
  n1 : g ≠ gl
  n2 : g ≠ gi
  n3 : gl ≠ gi

/-- A disk with all its blocks among F. -/
def Disk (w : World) (F : Nat → Prop) (g : Nat) (D : DS) : Prop :=
  ∃ E gl gi rv, Dk w E g gl gi rv D ∧ (∀ k, E k → F k) ∧ (∀ k, own4 g gl gi rv k → F k) ∧ ∀ k, F k → k < w.heap.size

theorem Dk.own_lt {w : World} {E : Nat → Prop} {g gl gi : Nat} {rv : Value} {D : DS} (h : Dk w E g gl gi rv D) : ∀ k, own4 g gl gi rv k → k < w.heap.size ∧ ¬ E k := fun k hk => by
  rcases hk with rfl | rfl | rfl | hk
  · exact ⟨h.head.lt, h.e1⟩
  · exact ⟨h.secs.lt, h.e2⟩
  · exact ⟨h.last.lt, h.e3⟩
  · exact ⟨h.pend.lt k hk, (h.e4 k hk).1⟩

theorem Dk.same {w w' : World} {E : Nat → Prop} {g gl gi : Nat} {rv : Value} {D : DS} (h : Dk w E g gl gi rv D) (hs : w.heap.size ≤ w'.heap.size)
    (he : ∀ k, k < w.heap.size → E k ∨ own4 g gl gi rv k → w'.heap[k]? = w.heap[k]?) : Dk w' E g gl gi rv D :=
  ⟨h.ok, h.head.same (he g h.head.lt (.inr (.inl rfl))), h.secs.same hs (fun k hk hl => he k hl (.inl hk)) (he gl h.secs.lt (.inr (.inr (.inl rfl)))),
    h.pend.same hs (fun k hk hl => he k hl (.inl hk)) (fun k hk => he k (h.pend.lt k hk) (.inr (.inr (.inr (.inr hk))))), h.last.same (he gi h.last.lt (.inr (.inr (.inr (.inl rfl))))),
    h.e1, h.e2, h.e3, h.e4, h.n1, h.n2, h.n3⟩

theorem Dk.drew {w : World} {E : Nat → Prop} {g gl gi : Nat} {rv : Value} {D : DS} (h : Dk w E g gl gi rv D) : Dk w.drew E g gl gi rv D := h.same (Nat.le_refl _) (fun _ _ _ => rfl)

theorem Disk.off {w w' : World} {F G : Nat → Prop} {g : Nat} {D : DS} (h : Disk w F g D) (ho : Off G w w') (hd : ∀ k, F k → ¬ G k) : Disk w' F g D := by
  obtain ⟨E, gl, gi, rv, hk, h1, h2, h3⟩ := h
  exact ⟨E, gl, gi, rv, hk.same ho.size fun k hlt hk' => ho.block k hlt (hd k (hk'.elim (h1 k) (h2 k))), h1, h2, fun k hk => Nat.lt_of_lt_of_le (h3 k hk) ho.size⟩
theorem Disk.below {w w' : World} {F : Nat → Prop} {g : Nat} {D : DS} (h : Disk w F g D) (hb : Below w.heap.size w w') : Disk w' F g D :=
  h.off (Off.of_new hb fun _ => False) (fun _ _ => id)
theorem Disk.lt {w : World} {F : Nat → Prop} {g : Nat} {D : DS} (h : Disk w F g D) : ∀ k, F k → k < w.heap.size := by obtain ⟨_, _, _, _, _, _, _, h3⟩ := h; exact h3
theorem Disk.has {w : World} {F : Nat → Prop} {g : Nat} {D : DS} (h : Disk w F g D) : F g := by obtain ⟨_, _, _, _, _, _, h2, _⟩ := h; exact h2 g (.inl rfl)
theorem Disk.ok {w : World} {F : Nat → Prop} {g : Nat} {D : DS} (h : Disk w F g D) : D.Ok := by obtain ⟨_, _, _, _, h, _⟩ := h; exact h.ok

end Go.Proofs.YtolpgpphjnkehaaGreatDoor.Cac
/- What a disk tells; a step; arming. -/
namespace Go.Proofs.YtolpgpphjnkehaaGreatDoor.Cac
set_option maxRecDepth 20000
open Go.RowKit Dsk

theorem may_any (n : Int) (w : World) : Calls Tryz.prog 84 #[.int .i64 n] w fun e w' => e = .returned (.bool (decide (16 ≤ n) && decide (n ≤ 4096))) ∧ w = w' := by
  by_cases h : 16 ≤ n
  · by_cases h2 : n ≤ 4096
    · have a : decide (16 ≤ n) = true := by simpa using h
      have b : decide (n ≤ 4096) = true := by simpa using h2
      go_enter Tryz.func84, Tryz.ntmps84
      go_wp2
      go_ret
      exact ⟨by first | rfl | (rw [a, b]; rfl), rfl⟩
    · have a : decide (16 ≤ n) = true := by simpa using h
      have b : decide (n ≤ 4096) = false := by simpa using h2
      go_enter Tryz.func84, Tryz.ntmps84
      go_wp2
      go_ret
      exact ⟨by first | rfl | (rw [a, b]; rfl), rfl⟩
  · have a : decide (16 ≤ n) = false := by simpa using h
    go_enter Tryz.func84, Tryz.ntmps84
    go_wp2
    go_ret
    exact ⟨by first | rfl | (rw [a]; rfl), rfl⟩

/-- What a walk is told of a disk's own block. -/
structure Head (w : World) (g : Nat) (A : Option Addr) (n : Nat) (rv lv : Value) (dead : Bool) (armed steps : Nat) : Prop where
  c0 : w.cell? ⟨g, 0, none⟩ = some (.slice A n n)
  c1 : w.cell? ⟨g, 1, none⟩ = some rv
  c2 : w.cell? ⟨g, 2, none⟩ = some lv
  c3 : w.cell? ⟨g, 3, none⟩ = some (.bool dead)
  c4 : w.cell? ⟨g, 4, none⟩ = some (.int .i64 (armed : Int))
  c5 : w.cell? ⟨g, 5, none⟩ = some (.int .i64 (steps : Int))
  f : ∀ i, w.frozen? ⟨g, i, none⟩ = false
theorem Dk.hd {w : World} {E : Nat → Prop} {g gl gi : Nat} {rv : Value} {D : DS} (h : Dk w E g gl gi rv D) : Head w g (some ⟨gl, 0, none⟩) D.S.length rv (.slice (some ⟨gi, 0, none⟩) D.S.length D.S.length) D.dead D.armed D.steps :=
  ⟨h.head.cell 0, h.head.cell 1, h.head.cell 2, h.head.cell 3, h.head.cell 4, h.head.cell 5, h.head.frozen⟩

theorem refuses_nil (i : Int) (w : World) : Calls Tryz.prog 55 #[.pointer none, .int .i64 i] w fun e w' => e = .returned (.int .i64 2) ∧ w = w' := by
  go_enter Tryz.func55, Tryz.ntmps55
  go_wp2
  go_ret
  exact ⟨rfl, rfl⟩

/-- Why nothing can be done with a sector. -/
def refuse (dead : Bool) (n : Nat) (i : Int) : Int := if dead then 4 else if i < 0 ∨ (n : Int) ≤ i then 1 else 0

set_option maxHeartbeats 400000 in
theorem refuses_hd (g n armed steps : Nat) (A : Option Addr) (rv lv : Value) (dead : Bool) (i : Int) (w : World) (h : Head w g A n rv lv dead armed steps) :
    Calls Tryz.prog 55 #[.pointer (some ⟨g, 0, none⟩), .int .i64 i] w fun e w' => e = .returned (.int .i64 (refuse dead n i)) ∧ w = w' := by
  have h0 := h.c0
  have h3 := h.c3
  clear h
  cases dead
  · by_cases hi : i < 0
    · have hd : decide (i < 0) = true := by simpa using hi
      go_enter Tryz.func55, Tryz.ntmps55
      go_wp2
      go_ret
      exact ⟨by simp [refuse, hi], rfl⟩
    · have hd : decide (i < 0) = false := by simpa using hi
      by_cases h2 : (n : Int) ≤ i
      · have hd2 : decide ((n : Int) ≤ i) = true := by simpa using h2
        go_enter Tryz.func55, Tryz.ntmps55
        go_wp2
        go_ret
        exact ⟨by simp [refuse, h2], rfl⟩
      · have hd2 : decide ((n : Int) ≤ i) = false := by simpa using h2
        go_enter Tryz.func55, Tryz.ntmps55
        go_wp2
        go_ret
        exact ⟨by simp [refuse, hi, h2], rfl⟩
  · go_enter Tryz.func55, Tryz.ntmps55
    go_wp2
    go_ret
    exact ⟨by simp [refuse], rfl⟩

theorem sectors_nil (w : World) : Calls Tryz.prog 112 #[.pointer none] w fun e w' => e = .returned (.int .i64 0) ∧ w = w' := by
  go_enter Tryz.func112, Tryz.ntmps112
  go_wp2
  go_ret
  exact ⟨rfl, rfl⟩
theorem dead_nil (w : World) : Calls Tryz.prog 60 #[.pointer none] w fun e w' => e = .returned (.bool false) ∧ w = w' := by
  go_enter Tryz.func60, Tryz.ntmps60
  go_wp2
  go_ret
  exact ⟨rfl, rfl⟩
theorem sectors_hd (g n armed steps : Nat) (A : Option Addr) (rv lv : Value) (dead : Bool) (w : World) (h : Head w g A n rv lv dead armed steps) :
    Calls Tryz.prog 112 #[.pointer (some ⟨g, 0, none⟩)] w fun e w' => e = .returned (.int .i64 (n : Int)) ∧ w = w' := by
  have h0 := h.c0
  clear h
  go_enter Tryz.func112, Tryz.ntmps112
  go_wp2
  go_ret
  exact ⟨rfl, rfl⟩
theorem dead_hd (g n armed steps : Nat) (A : Option Addr) (rv lv : Value) (dead : Bool) (w : World) (h : Head w g A n rv lv dead armed steps) :
    Calls Tryz.prog 60 #[.pointer (some ⟨g, 0, none⟩)] w fun e w' => e = .returned (.bool dead) ∧ w = w' := by
  have h0 := h.c3
  clear h
  go_enter Tryz.func60, Tryz.ntmps60
  go_wp2
  go_ret
  exact ⟨rfl, rfl⟩

/-! ### Off, Arm, a step: the disk's own block -/
theorem off_nil (w : World) : Calls Tryz.prog 16 #[.pointer none] w fun e w' => e = .returned (.tuple #[]) ∧ w = w' := by
  go_enter Tryz.func16, Tryz.ntmps16
  go_wp2
  go_end0
  exact ⟨rfl, rfl⟩
theorem off_hd (g n armed steps : Nat) (A : Option Addr) (rv lv : Value) (dead : Bool) (w : World) (h : Head w g A n rv lv dead armed steps) :
    Calls Tryz.prog 16 #[.pointer (some ⟨g, 0, none⟩)] w fun e w' => e = .returned (.tuple #[]) ∧ w.setCell ⟨g, 3, none⟩ (.bool true) = w' := by
  have h0 := h.c3
  have hf := h.f 3
  clear h
  go_enter Tryz.func16, Tryz.ntmps16
  go_wp2
  go_end0
  exact ⟨rfl, rfl⟩

theorem Dk.turned {w w' : World} {E : Nat → Prop} {g gl gi : Nat} {rv : Value} {D D' : DS} (h : Dk w E g gl gi rv D) (hs : w.heap.size ≤ w'.heap.size) (ho : ∀ k, k < w.heap.size → k ≠ g → w'.heap[k]? = w.heap[k]?)
    (hS : D'.S = D.S) (hP : D'.P = D.P) (hok : D'.Ok)
    (hb : Blk w' g 90 #[.slice (some ⟨gl, 0, none⟩) D.S.length D.S.length, rv, .slice (some ⟨gi, 0, none⟩) D.S.length D.S.length, .bool D'.dead, .int .i64 (D'.armed : Int), .int .i64 (D'.steps : Int)]) : Dk w' E g gl gi rv D' := by
  have hE : ∀ k, E k → k ≠ g := fun k hk e => h.e1 (e ▸ hk)
  refine ⟨hok, by rw [hS]; exact hb, ?_, ?_, ?_, h.e1, h.e2, h.e3, h.e4, h.n1, h.n2, h.n3⟩
  · rw [hS]; exact h.secs.same hs (fun k hk hl => ho k hl (hE k hk)) (ho gl h.secs.lt h.n1.symm)
  · rw [hP]; exact h.pend.same hs (fun k hk hl => ho k hl (hE k hk)) (fun k hk => ho k (h.pend.lt k hk) (h.e4 k hk).2.1)
  · rw [hS, hP]; exact h.last.same (ho gi h.last.lt h.n2.symm)

/-- The power is off. -/
def offD (D : DS) : DS := { D with dead := true }
theorem Disk.off_ (g : Nat) (F : Nat → Prop) (D : DS) (w : World) (h : Disk w F g D) :
    Calls Tryz.prog 16 #[.pointer (some ⟨g, 0, none⟩)] w fun e w' => e = .returned (.tuple #[]) ∧ Disk w' F g (offD D) ∧ Off F w w' := by
  have hF := h.has
  obtain ⟨E, gl, gi, rv, hk, h1, h2, h3⟩ := h
  refine (off_hd g _ _ _ _ _ _ _ w hk.hd).mono ?_
  rintro e w' ⟨rfl, rfl⟩
  refine ⟨rfl, ⟨E, gl, gi, rv, ?_, h1, h2, fun k hk' => by simpa [World.setCell] using h3 k hk'⟩, (Off.set_ _ _ _).mono fun k _ e => by rw [show k = g from e]; exact hF⟩
  exact hk.turned (by simp [World.setCell]) (fun k _ hne => Below.heap_setCell _ _ _ _ hne) rfl rfl ⟨hk.ok.lo, hk.ok.hi, hk.ok.sec, hk.ok.pend, hk.ok.armed⟩ (by have h5 := hk.head.set_ 3 (.bool true); simp only [List.setIfInBounds_toArray, List.set_cons_succ, List.set_cons_zero] at h5; exact h5)

set_option maxHeartbeats 400000 in
theorem arm_nil (i : Int) (w : World) : Calls Tryz.prog 14 #[.pointer none, .int .i64 i] w fun e w' => e = .returned (.int .i64 2) ∧ w = w' := by
  go_enter Tryz.func14, Tryz.ntmps14
  go_wp2_with (go_at_call 55; refine (refuses_nil _ _).mono ?_; rintro e w' ⟨rfl, rfl⟩)
  go_ret
  exact ⟨rfl, rfl⟩

/-- What Arm answers. -/
def armE (D : DS) (i : Int) : Int := if D.dead then 4 else if i < 0 then 1 else 0
def armD (D : DS) (i : Int) : DS := if D.dead then D else if i < 0 then D else { D with armed := i.toNat }

set_option maxHeartbeats 400000 in
theorem arm_hd (g n armed steps : Nat) (A : Option Addr) (rv lv : Value) (dead : Bool) (i : Int) (w : World) (h : Head w g A n rv lv dead armed steps) (hn : 0 < n) :
    Calls Tryz.prog 14 #[.pointer (some ⟨g, 0, none⟩), .int .i64 i] w fun e w' => (e = .returned (.int .i64 (if dead then 4 else if i < 0 then 1 else 0))) ∧ (if dead then w else if i < 0 then w else w.setCell ⟨g, 4, none⟩ (.int .i64 i)) = w' := by
  have H := refuses_hd g n armed steps A rv lv dead 0 w h
  have h0 := h.c4
  have hf := h.f 4
  clear h
  cases dead
  · have e0 : refuse false n 0 = 0 := by simp [refuse]; omega
    rw [e0] at H
    have HR := Lib.hid H
    clear H e0
    by_cases hi : i < 0
    · have hd : decide (i < 0) = true := by simpa using hi
      go_enter Tryz.func14, Tryz.ntmps14
      go_wp2_with (go_at_call 55; refine HR.out.mono ?_; rintro e w' ⟨rfl, rfl⟩)
      go_ret
      exact ⟨by simp, by simp⟩
    · have hd : decide (i < 0) = false := by simpa using hi
      go_enter Tryz.func14, Tryz.ntmps14
      go_wp2_with (go_at_call 55; refine HR.out.mono ?_; rintro e w' ⟨rfl, rfl⟩)
      go_ret
      exact ⟨by simp, by simp⟩
  · have e0 : refuse true n 0 = 4 := by simp [refuse]
    rw [e0] at H
    have HR := Lib.hid H
    clear H e0
    go_enter Tryz.func14, Tryz.ntmps14
    go_wp2_with (go_at_call 55; refine HR.out.mono ?_; rintro e w' ⟨rfl, rfl⟩)
    go_ret
    exact ⟨rfl, rfl⟩

theorem Disk.arm_ (g : Nat) (F : Nat → Prop) (D : DS) (i : Int) (w : World) (h : Disk w F g D) (hi : i < 9223372036854775808) :
    Calls Tryz.prog 14 #[.pointer (some ⟨g, 0, none⟩), .int .i64 i] w fun e w' => e = .returned (.int .i64 (armE D i)) ∧ Disk w' F g (armD D i) ∧ Off F w w' := by
  have hF := h.has
  have hD := h
  obtain ⟨E, gl, gi, rv, hk, h1, h2, h3⟩ := h
  refine (arm_hd g _ _ _ _ _ _ _ i w hk.hd (by have := hk.ok.lo; omega)).mono ?_
  rintro e w' ⟨rfl, rfl⟩
  refine ⟨rfl, ?_⟩
  unfold armD
  split
  · exact ⟨hD, Off.refl _ _⟩
  · split
    · exact ⟨hD, Off.refl _ _⟩
    · rename_i hi0
      refine ⟨⟨E, gl, gi, rv, ?_, h1, h2, fun k hk' => by simpa [World.setCell] using h3 k hk'⟩, (Off.set_ _ _ _).mono fun k _ e => by rw [show k = g from e]; exact hF⟩
      have hii : ((i.toNat : Nat) : Int) = i := by omega
      refine hk.turned (by simp [World.setCell]) (fun k _ hne => Below.heap_setCell _ _ _ _ hne) rfl rfl ⟨hk.ok.lo, hk.ok.hi, hk.ok.sec, hk.ok.pend, by show i.toNat < _; omega⟩ ?_
      show Blk _ g _ #[_, _, _, _, .int .i64 ((i.toNat : Nat) : Int), _]
      rw [hii]
      simpa using hk.head.set_ 4 (.int .i64 i)

/-- A step more. -/
def stepD (D : DS) : DS := { D with dead := if D.armed = 0 then D.dead else decide (D.armed = 1), armed := D.armed - 1, steps := D.steps + 1 }
def stepE (D : DS) : Int := if (stepD D).dead then 4 else 0

def stepEv (dead : Bool) (armed : Nat) : Int := if (if armed = 0 then dead else decide (armed = 1)) then 4 else 0
def stepW (w : World) (g armed steps : Nat) : World :=
  if armed = 0 then w.setCell ⟨g, 5, none⟩ (.int .i64 ((steps : Int) + 1))
  else ((w.setCell ⟨g, 5, none⟩ (.int .i64 ((steps : Int) + 1))).setCell ⟨g, 4, none⟩ (.int .i64 ((armed : Int) - 1))).setCell ⟨g, 3, none⟩ (.bool (decide (armed = 1)))

set_option maxHeartbeats 400000 in
theorem step_hd (g n armed steps : Nat) (A : Option Addr) (rv lv : Value) (dead : Bool) (w : World) (h : Head w g A n rv lv dead armed steps) (hs : steps < 1000000000) (ha : armed < 9223372036854775808) :
    Calls Tryz.prog 162 #[.pointer (some ⟨g, 0, none⟩)] w fun e w' => e = .returned (.int .i64 (stepEv dead armed)) ∧ stepW w g armed steps = w' := by
  have h3 := h.c3
  have h4 := h.c4
  have h5 := h.c5
  have f3 := h.f 3
  have f4 := h.f 4
  have f5 := h.f 5
  clear h
  by_cases h0 : armed = 0
  · subst h0
    cases dead
    all_goals
      go_enter Tryz.func162, Tryz.ntmps162
      go_wp2
      go_ret
      exact ⟨rfl, rfl⟩
  · have hp : (0 : Int) < (armed : Int) := by omega
    by_cases h1 : armed = 1
    · subst h1
      go_enter Tryz.func162, Tryz.ntmps162
      go_wp2
      go_ret
      exact ⟨rfl, rfl⟩
    · have hd1 : ((armed : Int) - 1 == 0) = false := by simp; omega
      have hd2 : decide ((armed : Int) - 1 = 0) = false := by simp; omega
      go_enter Tryz.func162, Tryz.ntmps162
      go_wp2
      go_ret
      exact ⟨by simp [stepEv, h0, h1], by simp [stepW, h0, h1]⟩

theorem stepD_ok {D : DS} (h : D.Ok) : (stepD D).Ok := ⟨h.lo, h.hi, h.sec, h.pend, by have := h.armed; show D.armed - 1 < _; omega⟩

theorem Dk.step_ {w : World} {E : Nat → Prop} {g gl gi : Nat} {rv : Value} {D : DS} (h : Dk w E g gl gi rv D) : Dk (stepW w g D.armed D.steps) E g gl gi rv (stepD D) := by
  have hn := stepD_ok h.ok
  unfold stepW stepD at *
  have h1 := h.head
  split
  · rename_i h0
    rw [if_pos h0] at hn
    refine h.turned (by simp [World.setCell]) (fun k _ hne => Below.heap_setCell _ _ _ _ hne) rfl rfl hn ?_
    have h2 := h1.set_ 5 (.int .i64 ((D.steps : Int) + 1))
    have e : (D.armed : Int) = ((D.armed - 1 : Nat) : Int) := by omega
    simp only [List.setIfInBounds_toArray, List.set_cons_succ, List.set_cons_zero] at h2
    show Blk _ g _ #[_, _, _, _, .int .i64 ((D.armed - 1 : Nat) : Int), .int .i64 ((D.steps + 1 : Nat) : Int)]
    rw [← e]
    exact h2
  · rename_i h0
    rw [if_neg h0] at hn
    refine h.turned (by simp [World.setCell]) (fun k _ hne => (Below.heap_setCell _ _ _ _ hne).trans ((Below.heap_setCell _ _ _ _ hne).trans (Below.heap_setCell _ _ _ _ hne))) rfl rfl hn ?_
    have h2 := ((h1.set_ 5 (.int .i64 ((D.steps : Int) + 1))).set_ 4 (.int .i64 ((D.armed : Int) - 1))).set_ 3 (.bool (decide (D.armed = 1)))
    have e : (D.armed : Int) - 1 = ((D.armed - 1 : Nat) : Int) := by omega
    simp only [List.setIfInBounds_toArray, List.set_cons_succ, List.set_cons_zero] at h2
    rw [e] at h2 ⊢
    exact h2

theorem stepW_off (w : World) (g armed steps : Nat) : Off (fun k => k = g) w (stepW w g armed steps) := by
  unfold stepW
  split
  · exact Off.setc _ _ _ _
  · exact ((Off.setc _ _ _ _).trans (Off.setc _ _ _ _)).trans (Off.setc _ _ _ _)
theorem stepW_size (w : World) (g armed steps : Nat) : (stepW w g armed steps).heap.size = w.heap.size := by
  unfold stepW
  split <;> simp [World.setCell]

end Go.Proofs.YtolpgpphjnkehaaGreatDoor.Cac
/- New. -/
namespace Go.Proofs.YtolpgpphjnkehaaGreatDoor.Cac
set_option maxRecDepth 20000
open Go.RowKit Dsk

theorem new_no (n : Int) (w : World) (h : n < 16 ∨ 4096 < n) : Calls Tryz.prog 51 #[.int .i64 n] w fun e w' => e = .returned (.tuple #[.pointer none, .int .i64 1]) ∧ w = w' := by
  have hm := may_any n w
  have e : (decide (16 ≤ n) && decide (n ≤ 4096)) = false := by simp; omega
  rw [e] at hm
  have HM := Lib.hid hm
  clear hm e
  go_enter Tryz.func51, Tryz.ntmps51
  go_wp2_with (go_at_call 84; refine HM.out.mono ?_; rintro e w' ⟨rfl, rfl⟩)
  go_ret2
  exact ⟨rfl, rfl⟩

/-- Sectors, k of them filled. -/
def fillTo (n k : Nat) : List (List UInt8) := List.replicate k zeros ++ List.replicate (n - k) []
theorem fillTo_length (n k : Nat) (h : k ≤ n) : (fillTo n k).length = n := by simp [fillTo]; omega
theorem fillTo_step (n k : Nat) (h : k < n) : (fillTo n k).set k zeros = fillTo n (k + 1) := by
  unfold fillTo
  rw [List.set_append_right _ _ (by simp), List.length_replicate, Nat.sub_self]
  obtain ⟨m, hm⟩ : ∃ m, n - k = m + 1 := ⟨n - k - 1, by omega⟩
  rw [hm, show n - (k + 1) = m by omega, List.replicate_succ, List.set_cons_zero, List.replicate_succ' (n := k)]
  simp
theorem fillTo_full (n : Nat) : fillTo n n = List.replicate n zeros := by simp [fillTo]

/-- A new disk. -/
def newD (n : Nat) : DS := ⟨List.replicate n zeros, [], false, 0, 0⟩
theorem newD_ok (n : Nat) (h : 16 ≤ n ∧ n ≤ 4096) : (newD n).Ok :=
  ⟨by simp [newD, h.1], by simp [newD, h.2], fun b hb => .inr (by rw [List.eq_of_mem_replicate hb, zeros_length]), (fun p hp => by cases hp), by simp [newD]⟩

theorem run_mkS (n : Nat) (hn : n ≤ 4096) (w : World) :
    (Instr.makeSlice 44 (.int .i64 (n : Int)) (.int .i64 (n : Int))).run Tryz.prog w = .ok (.slice (some ⟨w.heap.size, 0, none⟩) n n) (w.alloc (.cells (madeCells #[.slice none 0 0] n) 32)) := by
  have hI : (Tryz.prog.info? 32).map (fun i => (i.zero, i.size, i.bytes)) = some (some (.slice none 0 0), 1, 24) := by kernel_rfl
  obtain ⟨i0, hi, hz0, hz1, hz2⟩ := info_parts hI
  have h := run_make (P := Tryz.prog) w 44 32 i0 (.slice none 0 0) Tryz.underlying44 hi hz0 .i64 .i64 (n : Int) (n : Int) (by omega) (by omega) (by rw [hz2]; omega) (by omega)
  simpa [hz1, Value.cells] using h
theorem run_mkI (n : Nat) (hn : n ≤ 4096) (w : World) :
    (Instr.makeSlice 33 (.int .i64 (n : Int)) (.int .i64 (n : Int))).run Tryz.prog w = .ok (.slice (some ⟨w.heap.size, 0, none⟩) n n) (w.alloc (.cells (madeCells #[.int .i64 0] n) 3)) := by
  have hI : (Tryz.prog.info? 3).map (fun i => (i.zero, i.size, i.bytes)) = some (some (.int .i64 0), 1, 8) := by kernel_rfl
  obtain ⟨i0, hi, hz0, hz1, hz2⟩ := info_parts hI
  have h := run_make (P := Tryz.prog) w 33 3 i0 (.int .i64 0) Tryz.underlying33 hi hz0 .i64 .i64 (n : Int) (n : Int) (by omega) (by omega) (by rw [hz2]; omega) (by omega)
  simpa [hz1, Value.cells] using h
theorem made_get (v : Value) (n k : Nat) (h : k < n) : (madeCells #[v] n)[k]? = some v := by
  simp [madeCells, h, Nat.mod_one]
theorem made_size (v : Value) (n : Nat) : (madeCells #[v] n).size = n := by simp [madeCells]

theorem Secs.made {w : World} {g n : Nat} (E : Nat → Prop) (h : Blk w g 32 (madeCells #[.slice none 0 0] n)) : Secs w E g (fillTo n 0) :=
  ⟨_, h, by rw [made_size, fillTo_length n 0 (Nat.zero_le _)]; exact Nat.le_refl _, fun k b hb => by
    have hk := (List.getElem?_eq_some_iff.1 hb).1
    rw [fillTo_length n 0 (Nat.zero_le _)] at hk
    have : b = [] := by
      have := List.mem_of_getElem? hb
      simp [fillTo] at this
      exact this.2
    exact ⟨_, made_get _ n k hk, this ▸ Sec.nil _ _⟩⟩
theorem Lasts.made {w : World} {g n : Nat} (h : Blk w g 3 (madeCells #[.int .i64 0] n)) : Lasts w g n [] := ⟨_, h, made_size _ _, fun s hs => made_get _ n s hs⟩

/-- Between the rounds of New. -/
structure NewR (w0 : World) (n gl gi g k : Nat) (w : World) : Prop where
  secs : Secs w (fun j => w0.heap.size + 3 ≤ j) gl (fillTo n k)
  last : Lasts w gi n []
  head : Blk w g 90 #[.slice (some ⟨gl, 0, none⟩) n n, .slice none 0 0, .slice (some ⟨gi, 0, none⟩) n n, .bool false, .int .i64 0, .int .i64 0]
  bel : Below w0.heap.size w0 w
  size : w0.heap.size + 3 ≤ w.heap.size

theorem NewR.step {w0 w : World} {n gl gi g k : Nat} (h : NewR w0 n gl gi g k w) (hk : k < n) (hg : (gl = w0.heap.size ∨ gl = w0.heap.size + 1) ∧ g = w0.heap.size + 2 ∧ (gi = w0.heap.size ∨ gi = w0.heap.size + 1) ∧ gl ≠ gi) :
    NewR w0 n gl gi g (k + 1) ((w.alloc (.cells (mk8 256) 5)).setCell ⟨gl, k, none⟩ (.slice (some ⟨w.heap.size, 0, none⟩) 256 256)) := by
  have hsz := h.size
  have hnl : gl ≠ w.heap.size := by omega
  have h1 : Secs (w.alloc (.cells (mk8 256) 5)) (fun j => w0.heap.size + 3 ≤ j) gl (fillTo n k) := h.secs.same (by simp) (fun j _ hj => Below.heap_alloc _ _ _ hj) (Below.heap_alloc _ _ _ h.secs.lt)
  have hb : Blk (w.alloc (.cells (mk8 256) 5)) w.heap.size 5 (row8 zeros) := by
    have e : row8 zeros = mk8 256 := by rw [mk8_eq]; unfold row8 zeros; rw [List.map_replicate]
    rw [e]; exact Blk.new _ _ _
  refine ⟨?_, ?_, ?_, (h.bel.alloc (by have := h.bel.size; omega) _).setCell (by show w0.heap.size ≤ gl; omega) _, by simp [World.setCell]; omega⟩
  · rw [← fillTo_step n k hk]
    exact h1.set_ (by omega) k _ _ (Sec.of_blk hb hsz (by rw [zeros_length]; decide) 256 zeros_length)
  · exact h.last.same ((Below.heap_setCell _ _ _ _ (by show gi ≠ gl; omega)).trans (Below.heap_alloc _ _ _ h.last.lt))
  · exact (h.head.alloc _).far (by show g ≠ gl; omega) _

theorem NewR.disk {w0 w : World} {n gl gi g : Nat} (h : NewR w0 n gl gi g n w) (hn : 16 ≤ n ∧ n ≤ 4096) (hg : (gl = w0.heap.size ∨ gl = w0.heap.size + 1) ∧ g = w0.heap.size + 2 ∧ (gi = w0.heap.size ∨ gi = w0.heap.size + 1) ∧ gl ≠ gi) :
    Disk w (fun k => w0.heap.size ≤ k ∧ k < w.heap.size) g (newD n) := by
  have hsz := h.size
  have hl : (newD n).S.length = n := by simp [newD]
  refine ⟨fun j => w0.heap.size + 3 ≤ j ∧ j < w.heap.size, gl, gi, .slice none 0 0, ⟨newD_ok n hn, by rw [hl]; exact h.head, ?_, Pend.nil _ _ _, by rw [hl]; exact h.last, by omega, by omega, by omega, (fun k hk => by cases hk), by omega, by omega, by omega⟩,
    (fun k hk => by omega), fun k hk => ?_, fun k hk => hk.2⟩
  · have h1 := h.secs
    rw [fillTo_full] at h1
    obtain ⟨ls, a, b, c⟩ := h1.blk
    refine ⟨ls, a, b, fun k bs hb => ?_⟩
    obtain ⟨v, e, A, cc, e1, e2, e3, e4, e5⟩ := c k bs hb
    refine ⟨v, e, A, cc, e1, e2, e3, e4, fun p ep => ⟨e5 p ep, ?_⟩⟩
    have hb0 : bs.length = 256 := by
      have := List.mem_of_getElem? hb
      rw [List.eq_of_mem_replicate this, zeros_length]
    obtain ⟨q, off, eq, hlt, _⟩ := e4 0 (bs[0]'(by omega)) (List.getElem?_eq_getElem _)
    rw [ep] at eq
    cases eq
    exact hlt
  · rcases hk with rfl | rfl | rfl | hk
    · have := h.head.lt; omega
    · have := h.secs.lt; omega
    · have := h.last.lt; omega
    · cases hk

theorem newR_one (w : World) (n : Nat) : NewR w n w.heap.size (w.heap.size + 1) (w.heap.size + 2) 0 ((((w.alloc (.cells (madeCells #[.slice none 0 0] n) 32)).alloc (.cells (madeCells #[.int .i64 0] n) 3)).alloc (.cells #[.slice (some ⟨w.heap.size, 0, none⟩) n n, .slice none 0 0, .slice (some ⟨w.heap.size + 1, 0, none⟩) n n, .bool false, .int .i64 0, .int .i64 0] 90)).drew) := by
  have h1 := Blk.new w 32 (madeCells #[.slice none 0 0] n)
  have h2 := Blk.new (w.alloc (.cells (madeCells #[.slice none 0 0] n) 32)) 3 (madeCells #[.int .i64 0] n)
  have h3 := Blk.new ((w.alloc (.cells (madeCells #[.slice none 0 0] n) 32)).alloc (.cells (madeCells #[.int .i64 0] n) 3)) 90 #[.slice (some ⟨w.heap.size, 0, none⟩) n n, .slice none 0 0, .slice (some ⟨w.heap.size + 1, 0, none⟩) n n, .bool false, .int .i64 0, .int .i64 0]
  simp only [World.size_alloc] at h2 h3
  exact ⟨Secs.made _ (((h1.alloc _).alloc _).drew), Lasts.made ((h2.alloc _).drew), h3.drew, ((((Below.refl _ w).alloc (Nat.le_refl _) _).alloc (by simp) _).alloc (by simp; omega) _).drew, by simp⟩
theorem newR_two (w : World) (n : Nat) : NewR w n (w.heap.size + 1) w.heap.size (w.heap.size + 2) 0 ((((w.alloc (.cells (madeCells #[.int .i64 0] n) 3)).alloc (.cells (madeCells #[.slice none 0 0] n) 32)).alloc (.cells #[.slice (some ⟨w.heap.size + 1, 0, none⟩) n n, .slice none 0 0, .slice (some ⟨w.heap.size, 0, none⟩) n n, .bool false, .int .i64 0, .int .i64 0] 90)).drew) := by
  have h1 := Blk.new w 3 (madeCells #[.int .i64 0] n)
  have h2 := Blk.new (w.alloc (.cells (madeCells #[.int .i64 0] n) 3)) 32 (madeCells #[.slice none 0 0] n)
  have h3 := Blk.new ((w.alloc (.cells (madeCells #[.int .i64 0] n) 3)).alloc (.cells (madeCells #[.slice none 0 0] n) 32)) 90 #[.slice (some ⟨w.heap.size + 1, 0, none⟩) n n, .slice none 0 0, .slice (some ⟨w.heap.size, 0, none⟩) n n, .bool false, .int .i64 0, .int .i64 0]
  simp only [World.size_alloc] at h2 h3
  exact ⟨Secs.made _ ((h2.alloc _).drew), Lasts.made (((h1.alloc _).alloc _).drew), h3.drew, ((((Below.refl _ w).alloc (Nat.le_refl _) _).alloc (by simp) _).alloc (by simp; omega) _).drew, by simp⟩

theorem NewR.drew {w0 w : World} {n gl gi g k : Nat} (h : NewR w0 n gl gi g k w) : NewR w0 n gl gi g k w.drew := ⟨h.secs.same (Nat.le_refl _) (fun _ _ _ => rfl) rfl, h.last.same rfl, h.head.drew, h.bel.drew, h.size⟩

end Go.Proofs.YtolpgpphjnkehaaGreatDoor.Cac
/- New, walked. -/
namespace Go.Proofs.YtolpgpphjnkehaaGreatDoor.Cac
set_option maxRecDepth 20000
open Go.RowKit Dsk

set_option maxHeartbeats 1000000 in
theorem new_ok (n : Nat) (w : World) (hn : 16 ≤ n ∧ n ≤ 4096) : Calls Tryz.prog 51 #[.int .i64 (n : Int)] w fun e w' => ∃ g, e = .returned (.tuple #[.pointer (some ⟨g, 0, none⟩), .int .i64 0]) ∧ w.heap.size ≤ g ∧ Disk w' (fun k => w.heap.size ≤ k ∧ k < w'.heap.size) g (newD n) ∧ Below w.heap.size w w' := by
  have hm := may_any n w
  have e : (decide (16 ≤ (n : Int)) && decide ((n : Int) ≤ 4096)) = true := by simp; omega
  rw [e] at hm
  have HM := Lib.hid hm
  have HN := Lib.hid hn
  have h1 := fun W => run_mkS n hn.2 W
  have h2 := fun W => run_mkI n hn.2 W
  clear hm e hn
  go_enter Tryz.func51, Tryz.ntmps51
  go_wp2_with (go_at_call 84; refine HM.out.mono ?_; rintro e w' ⟨rfl, rfl⟩)
  go_region
  · have hd : ∀ W k, NewR w n (w.heap.size) (w.heap.size + 1) (w.heap.size + 2) k W → W.cell? ⟨w.heap.size + 1 + 1, 0, none⟩ = some (.slice (some ⟨w.heap.size, 0, none⟩) n n) := fun W k h => h.head.cell 0
    have HD := Lib.hid hd
    have hst := newR_one w n
    have HST := Lib.hid hst
    have hH := (hst.head).cell 0
    clear hd hst h1 h2
    go_wp2
    go_loopw [5, 20] (fun u i wr => ∃ k : Nat, k ≤ n ∧ i = .int .i64 (k : Int) ∧ Hid (NewR w n (w.heap.size) (w.heap.size + 1) (w.heap.size + 2) k wr)) (fun _ i _ => n - (intOf i).toNat)
    case atStart => exact ⟨0, Nat.zero_le _, rfl, HST⟩
    case round =>
      obtain ⟨k, hk, rfl, hR⟩ := hrel
      have h4 : n ≤ 4096 := HN.out.2
      clear HST hH
      by_cases hlt : k < n
      · have hd : decide ((k : Int) < (n : Int)) = true := by simpa using hlt
        have hc := HD.out wr k hR.out
        have hf := hR.out.secs.free k
        have hce : ∃ v, wr.cell? ⟨w.heap.size, k, none⟩ = some v := by
          obtain ⟨v, hv, _⟩ := hR.out.secs.at_ (k := k) (b := (fillTo n k)[k]'(by rw [fillTo_length n k hk]; exact hlt)) (List.getElem?_eq_getElem _)
          exact ⟨v, hv⟩
        obtain ⟨v0, hv0⟩ := hce
        have hv1 : (wr.alloc (.cells (mk8 256) 5)).cell? ⟨w.heap.size, k, none⟩ = some v0 := (World.cell?_of_block (a := ⟨w.heap.size, k, none⟩) (Below.heap_alloc _ _ _ hR.out.secs.lt)).trans hv0
        have hf1 : (wr.alloc (.cells (mk8 256) 5)).frozen? ⟨w.heap.size, k, none⟩ = false := (World.frozen?_of_block (a := ⟨w.heap.size, k, none⟩) (Below.heap_alloc _ _ _ hR.out.secs.lt)).trans hf
        have hmk : ∀ W : World, (Instr.makeSlice 32 (.int .i64 256) (.int .i64 256)).run Tryz.prog W = .ok (.slice (some ⟨W.heap.size, 0, none⟩) 256 256) (W.alloc (.cells (mk8 256) 5)) := fun W => run_mk8 256 (by decide) W
        have HNX := Lib.hid (hR.out.step hlt (by omega))
        have hsz : w.heap.size + 1 + 1 < wr.heap.size := by have := hR.out.size; omega
        go_wp2
        go_region
        all_goals
          go_wp2
          go_roundw
          case rel => exact ⟨k + 1, by omega, by go_num, by first | exact HNX | exact Lib.hid HNX.out.drew⟩
          case measure => simp [intOf]; omega
      · obtain rfl : n = k := by omega
        have hd : decide ((n : Int) < (n : Int)) = false := by simp
        have hR' := hR.out.disk (by have := HN.out; exact this) (by omega)
        have HR := Lib.hid hR'
        have HB := Lib.hid hR.out.bel
        clear hR'
        go_wp2
        go_ret2
        exact ⟨w.heap.size + 2, rfl, by omega, HR.out, HB.out⟩
  · have hd : ∀ W k, NewR w n (w.heap.size + 1) (w.heap.size) (w.heap.size + 2) k W → W.cell? ⟨w.heap.size + 1 + 1, 0, none⟩ = some (.slice (some ⟨w.heap.size + 1, 0, none⟩) n n) := fun W k h => h.head.cell 0
    have HD := Lib.hid hd
    have hst := newR_two w n
    have HST := Lib.hid hst
    have hH := (hst.head).cell 0
    clear hd hst h1 h2
    go_wp2
    go_loopw [5, 20] (fun u i wr => ∃ k : Nat, k ≤ n ∧ i = .int .i64 (k : Int) ∧ Hid (NewR w n (w.heap.size + 1) (w.heap.size) (w.heap.size + 2) k wr)) (fun _ i _ => n - (intOf i).toNat)
    case atStart => exact ⟨0, Nat.zero_le _, rfl, HST⟩
    case round =>
      obtain ⟨k, hk, rfl, hR⟩ := hrel
      have h4 : n ≤ 4096 := HN.out.2
      clear HST hH
      by_cases hlt : k < n
      · have hd : decide ((k : Int) < (n : Int)) = true := by simpa using hlt
        have hc := HD.out wr k hR.out
        have hf := hR.out.secs.free k
        have hce : ∃ v, wr.cell? ⟨w.heap.size + 1, k, none⟩ = some v := by
          obtain ⟨v, hv, _⟩ := hR.out.secs.at_ (k := k) (b := (fillTo n k)[k]'(by rw [fillTo_length n k hk]; exact hlt)) (List.getElem?_eq_getElem _)
          exact ⟨v, hv⟩
        obtain ⟨v0, hv0⟩ := hce
        have hv1 : (wr.alloc (.cells (mk8 256) 5)).cell? ⟨w.heap.size + 1, k, none⟩ = some v0 := (World.cell?_of_block (a := ⟨w.heap.size + 1, k, none⟩) (Below.heap_alloc _ _ _ hR.out.secs.lt)).trans hv0
        have hf1 : (wr.alloc (.cells (mk8 256) 5)).frozen? ⟨w.heap.size + 1, k, none⟩ = false := (World.frozen?_of_block (a := ⟨w.heap.size + 1, k, none⟩) (Below.heap_alloc _ _ _ hR.out.secs.lt)).trans hf
        have hmk : ∀ W : World, (Instr.makeSlice 32 (.int .i64 256) (.int .i64 256)).run Tryz.prog W = .ok (.slice (some ⟨W.heap.size, 0, none⟩) 256 256) (W.alloc (.cells (mk8 256) 5)) := fun W => run_mk8 256 (by decide) W
        have HNX := Lib.hid (hR.out.step hlt (by omega))
        have hsz : w.heap.size + 1 + 1 < wr.heap.size := by have := hR.out.size; omega
        go_wp2
        go_region
        all_goals
          go_wp2
          go_roundw
          case rel => exact ⟨k + 1, by omega, by go_num, by first | exact HNX | exact Lib.hid HNX.out.drew⟩
          case measure => simp [intOf]; omega
      · obtain rfl : n = k := by omega
        have hd : decide ((n : Int) < (n : Int)) = false := by simp
        have hR' := hR.out.disk (by have := HN.out; exact this) (by omega)
        have HR := Lib.hid hR'
        have HB := Lib.hid hR.out.bel
        clear hR'
        go_wp2
        go_ret2
        exact ⟨w.heap.size + 2, rfl, by omega, HR.out, HB.out⟩

end Go.Proofs.YtolpgpphjnkehaaGreatDoor.Cac
/- Read. -/
namespace Go.Proofs.YtolpgpphjnkehaaGreatDoor.Cac
set_option maxRecDepth 20000
open Go.RowKit Dsk

theorem read_nil (i : Int) (w : World) : Calls Tryz.prog 168 #[.pointer none, .int .i64 i] w fun e w' => e = .returned (.tuple #[.slice none 0 0, .int .i64 2]) ∧ w = w' := by
  go_enter Tryz.func168, Tryz.ntmps168
  go_wp2_with (go_at_call 55; refine (refuses_nil _ _).mono ?_; rintro e w' ⟨rfl, rfl⟩)
  go_ret2
  exact ⟨rfl, rfl⟩

theorem read_refused (g n armed steps : Nat) (A : Option Addr) (rv lv : Value) (dead : Bool) (i r : Int) (w : World) (h : Head w g A n rv lv dead armed steps) (hr : refuse dead n i = r) (h0 : r ≠ 0) :
    Calls Tryz.prog 168 #[.pointer (some ⟨g, 0, none⟩), .int .i64 i] w fun e w' => e = .returned (.tuple #[.slice none 0 0, .int .i64 r]) ∧ w = w' := by
  have H := refuses_hd g n armed steps A rv lv dead i w h
  rw [hr] at H
  have HR := Lib.hid H
  have hd : (r != 0) = true := by simpa using h0
  clear H h hr
  go_enter Tryz.func168, Tryz.ntmps168
  go_wp2_with (go_at_call 55; refine HR.out.mono ?_; rintro e w' ⟨rfl, rfl⟩)
  go_ret2
  exact ⟨rfl, rfl⟩

/-- The value that Read copies. -/
def Shows (w : World) (gl gi s : Nat) (rv v : Value) : Prop :=
  (w.cell? ⟨gl, s, none⟩ = some v ∧ w.cell? ⟨gi, s, none⟩ = some (.int .i64 0)) ∨
  ∃ r m c v1, ∃ k : Nat, rv = .slice (some ⟨r, 0, none⟩) m c ∧ k < m ∧ m ≤ maxLen ∧ w.cell? ⟨gl, s, none⟩ = some v1 ∧ w.cell? ⟨gi, s, none⟩ = some (.int .i64 ((k : Int) + 1)) ∧ w.cell? ⟨r, k * 2 + 1, none⟩ = some v

theorem Dk.shows {w : World} {E : Nat → Prop} {g gl gi : Nat} {rv : Value} {D : DS} (h : Dk w E g gl gi rv D) {s : Nat} (hs : s < D.S.length) : ∃ v, Shows w gl gi s rv v ∧ Sec w E v (readS D s) := by
  have hl := h.last.at_ hs
  obtain ⟨v, hv, hsec⟩ := h.secs.at_ (List.getElem?_eq_getElem hs)
  have hg : D.S.getD s [] = D.S[s] := by simp [List.getD, hs]
  rcases overlay_last s (D.S.getD s []) D.P with ⟨h1, h2⟩ | ⟨k, h1, h2, h3⟩
  · rw [h1] at hl
    refine ⟨v, .inl ⟨hv, hl⟩, ?_⟩
    unfold readS
    rw [h2, hg]
    exact hsec
  · obtain ⟨r, c, u, e, hr, c1, c2, c3⟩ := h.pend.at_ h3
    obtain ⟨A, cc, e2, hle, hm⟩ := h.pend.shape
    rw [h1] at hl
    exact ⟨u, .inr ⟨r, D.P.length, c, v, k, e, h2, Nat.le_trans hle hm, hv, by rw [hl]; rfl, c2⟩, c3⟩

set_option maxHeartbeats 400000 in
theorem read_torn (g gl gi n armed steps s c : Nat) (A : Option Addr) (rv : Value) (w : World) (h : Head w g (some ⟨gl, 0, none⟩) n rv (.slice (some ⟨gi, 0, none⟩) n n) false armed steps) (hs : s < n) (hv : Shows w gl gi s rv (.slice A 0 c)) :
    Calls Tryz.prog 168 #[.pointer (some ⟨g, 0, none⟩), .int .i64 (s : Int)] w fun e w' => e = .returned (.tuple #[.slice none 0 0, .int .i64 5]) ∧ w = w' := by
  have H := refuses_hd g n armed steps _ rv _ false (s : Int) w h
  have e0 : refuse false n (s : Int) = 0 := by simp [refuse]; omega
  rw [e0] at H
  have HR := Lib.hid H
  have h0 := h.c0
  have h1 := h.c1
  have h2 := h.c2
  clear H h e0
  rcases hv with ⟨c1, c2⟩ | ⟨r, m, cc, v1, k, rfl, hk, hm, c1, c2, c3⟩
  · go_enter Tryz.func168, Tryz.ntmps168
    go_wp2_with (go_at_call 55; refine HR.out.mono ?_; rintro e w' ⟨rfl, rfl⟩)
    go_ret2
    exact ⟨rfl, rfl⟩
  · unfold maxLen at hm
    go_enter Tryz.func168, Tryz.ntmps168
    go_wp2_with (go_at_call 55; refine HR.out.mono ?_; rintro e w' ⟨rfl, rfl⟩)
    go_ret2
    exact ⟨rfl, rfl⟩

set_option maxHeartbeats 400000 in
theorem read_full (g gl gi n armed steps s c L : Nat) (A : Option Addr) (rv : Value) (bs : List UInt8) (w : World) (h : Head w g (some ⟨gl, 0, none⟩) n rv (.slice (some ⟨gi, 0, none⟩) n n) false armed steps) (hs : s < n) (hv : Shows w gl gi s rv (.slice A L c))
    (hA : Bytes w A bs) (hL : bs.length = L) (h0 : 0 < L) (hL2 : L ≤ 65536) :
    Calls Tryz.prog 168 #[.pointer (some ⟨g, 0, none⟩), .int .i64 (s : Int)] w fun e w' => e = .returned (.tuple #[.slice (some ⟨w.heap.size, 0, none⟩) L L, .int .i64 0]) ∧ Blk w' w.heap.size 5 (row8 bs) ∧ Below w.heap.size w w' := by
  have H := refuses_hd g n armed steps _ rv _ false (s : Int) w h
  have e0 : refuse false n (s : Int) = 0 := by simp [refuse]; omega
  rw [e0] at H
  have HR := Lib.hid H
  have g0 := h.c0
  have g1 := h.c1
  have g2 := h.c2
  have hmk := run_mk8 L (by omega)
  have cR : Blk (w.alloc (.cells (mk8 L) 5)) w.heap.size 5 (List.replicate L (bv 0)).toArray := by
    rw [← mk8_eq]; exact Blk.new w _ _
  have cW : Below w.heap.size w (w.alloc (.cells (mk8 L) 5)) := (Below.refl _ w).alloc (Nat.le_refl _) _
  obtain ⟨w1, hcp, hR1, hg1, hs1⟩ := run_copy8 _ 3 w.heap.size L L A c bs _ (hA.below cW) cR (by omega) (by simp)
  rw [hL] at hcp
  have hB1 : Below w.heap.size w w1 := cW.grown hg1 (by simp) (fun k e => by cases e; omega)
  have hR2 : Blk w1 w.heap.size 5 (row8 bs) := by
    have e : bs.map bv ++ (List.replicate L (bv 0)).drop bs.length = bs.map bv := by rw [hL]; simp
    unfold row8; rw [← e]; exact hR1
  simp only [goInt] at hcp
  have HRR := Lib.hid hR2
  have HB := Lib.hid hB1
  have hne : ((L : Int) == 0) = false := by simp; omega
  clear H h e0 hA hL hR1 hR2 hB1 hg1 hs1 cR cW
  rcases hv with ⟨c1, c2⟩ | ⟨r, m, cc, v1, k, rfl, hk, hm, c1, c2, c3⟩
  · go_enter Tryz.func168, Tryz.ntmps168
    go_wp2_with (go_at_call 55; refine HR.out.mono ?_; rintro e w' ⟨rfl, rfl⟩)
    go_ret2
    exact ⟨rfl, HRR.out, HB.out⟩
  · unfold maxLen at hm
    go_enter Tryz.func168, Tryz.ntmps168
    go_wp2_with (go_at_call 55; refine HR.out.mono ?_; rintro e w' ⟨rfl, rfl⟩)
    go_ret2
    exact ⟨rfl, HRR.out, HB.out⟩

theorem readS_len {D : DS} (h : D.Ok) (s : Nat) : readS D s = [] ∨ (readS D s).length = 256 := by
  unfold readS
  rcases overlay_last s (D.S.getD s []) D.P with ⟨_, h2⟩ | ⟨k, _, h2, h3⟩
  · rw [h2]
    by_cases hs : s < D.S.length
    · simp only [List.getD, List.getElem?_eq_getElem hs, Option.getD_some]
      exact h.sec _ (List.getElem_mem hs)
    · left; simp [List.getD, hs]
  · exact .inr (h.pend _ (List.mem_of_getElem? h3)).2

/-- What Read says of an error. -/
def readE (D : DS) (i : Int) : Int := if refuse D.dead D.S.length i = 0 then (if readS D i.toNat = [] then 5 else 0) else refuse D.dead D.S.length i

theorem refuse_zero {dead : Bool} {n : Nat} {i : Int} (h : refuse dead n i = 0) : dead = false ∧ ∃ s : Nat, i = s ∧ s < n := by
  unfold refuse at h
  cases dead
  · simp at h
    exact ⟨rfl, i.toNat, by omega, by omega⟩
  · simp at h

theorem Disk.read_no (g : Nat) (F : Nat → Prop) (D : DS) (i : Int) (w : World) (h : Disk w F g D) (he : readE D i ≠ 0) :
    Calls Tryz.prog 168 #[.pointer (some ⟨g, 0, none⟩), .int .i64 i] w fun e w' => e = .returned (.tuple #[.slice none 0 0, .int .i64 (readE D i)]) ∧ w = w' := by
  obtain ⟨E, gl, gi, rv, hk, h1, h2, h3⟩ := h
  by_cases hr : refuse D.dead D.S.length i = 0
  · obtain ⟨hd, s, rfl, hs⟩ := refuse_zero hr
    unfold readE at he ⊢
    rw [if_pos hr] at he ⊢
    by_cases hb : readS D (s : Int).toNat = []
    · rw [if_pos hb]
      obtain ⟨v, hv, A, c, e1, _⟩ := hk.shows hs
      rw [Int.toNat_natCast] at hb
      rw [hb] at e1
      subst e1
      exact read_torn g gl gi _ D.armed D.steps s c A rv w (hd ▸ hk.hd) hs hv
    · rw [if_neg hb] at he; exact absurd rfl he
  · have e : readE D i = refuse D.dead D.S.length i := by unfold readE; rw [if_neg hr]
    rw [e]
    exact read_refused g _ _ _ _ _ _ _ i _ w hk.hd rfl hr

theorem Disk.read_yes (g : Nat) (F : Nat → Prop) (D : DS) (i : Int) (w : World) (h : Disk w F g D) (he : readE D i = 0) :
    Calls Tryz.prog 168 #[.pointer (some ⟨g, 0, none⟩), .int .i64 i] w fun e w' => e = .returned (.tuple #[.slice (some ⟨w.heap.size, 0, none⟩) 256 256, .int .i64 0]) ∧ Blk w' w.heap.size 5 (row8 (readS D i.toNat)) ∧ (readS D i.toNat).length = 256 ∧ Below w.heap.size w w' := by
  obtain ⟨E, gl, gi, rv, hk, h1, h2, h3⟩ := h
  by_cases hr : refuse D.dead D.S.length i = 0
  · obtain ⟨hd, s, rfl, hs⟩ := refuse_zero hr
    unfold readE at he
    rw [if_pos hr] at he
    by_cases hb : readS D (s : Int).toNat = []
    · rw [if_pos hb] at he; cases he
    · rw [Int.toNat_natCast] at hb ⊢
      have hlen : (readS D s).length = 256 := by
        rcases readS_len hk.ok s with h | h
        · exact absurd h hb
        · exact h
      obtain ⟨v, hv, A, c, e1, _, _, hA, _⟩ := hk.shows hs
      rw [hlen] at e1
      subst e1
      refine (read_full g gl gi _ D.armed D.steps s c 256 A rv (readS D s) w (hd ▸ hk.hd) hs hv hA hlen (by decide) (by decide)).mono ?_
      rintro e w' ⟨rfl, a, b⟩
      exact ⟨rfl, a, hlen, b⟩
  · exfalso
    unfold readE at he
    rw [if_neg hr] at he
    exact hr he

end Go.Proofs.YtolpgpphjnkehaaGreatDoor.Cac
/- octet.Fill. -/
namespace Go.Proofs.YtolpgpphjnkehaaGreatDoor.Cac
set_option maxRecDepth 20000
open Go.RowKit

/-- Bytes, filled up. -/
def filled (bs : List UInt8) (n : Nat) : List UInt8 := bs ++ List.replicate (n - bs.length) 0
theorem filled_length (bs : List UInt8) (n : Nat) (h : bs.length ≤ n) : (filled bs n).length = n := by simp [filled]; omega

set_option maxHeartbeats 400000 in
theorem fill_ok (A : Option Addr) (cap n : Nat) (bs : List UInt8) (w : World) (hle : bs.length ≤ n) (hn : n ≤ 1048576) (hA : Bytes w A bs) :
    Calls Tryz.prog 161 #[.slice A bs.length cap, .int .i64 n] w fun e W' => e = .returned (.tuple #[.slice (some ⟨w.heap.size, 0, none⟩) n n, .bool true]) ∧
      Blk W' w.heap.size 5 (row8 (filled bs n)) ∧ Below w.heap.size w W' := by
  have hmk := run_mk8 n (by omega)
  have cR : Blk (w.alloc (.cells (mk8 n) 5)) w.heap.size 5 (List.replicate n (bv 0)).toArray := by
    rw [← mk8_eq]; exact Blk.new w _ _
  have cW : Below w.heap.size w (w.alloc (.cells (mk8 n) 5)) := (Below.refl _ w).alloc (Nat.le_refl _) _
  obtain ⟨w1, hcp, hR1, hg1, hs1⟩ := run_copy8 _ 3 w.heap.size n n A cap bs _ (hA.below cW) cR hle (by simp)
  have hB1 : Below w.heap.size w w1 := cW.grown hg1 (by simp) (fun k e => by cases e; omega)
  have hR2 : Blk w1 w.heap.size 5 (row8 (filled bs n)) := by
    have e : bs.map bv ++ (List.replicate n (bv 0)).drop bs.length = (bs ++ List.replicate (n - bs.length) 0).map bv := by simp
    unfold row8 filled; rw [← e]; exact hR1
  simp only [goInt] at hcp
  have HR := Lib.hid hR2
  have HB := Lib.hid hB1
  clear hR1 hR2 hB1 hg1 hs1 cR cW
  have h1 : ¬ ((n : Int) < (bs.length : Int)) := by omega
  have h2 : ¬ ((1048576 : Int) < (n : Int)) := by omega
  go_enter Tryz.func161, Tryz.ntmps161
  go_wp2
  go_ret2
  exact ⟨rfl, HR.out, HB.out⟩

set_option maxHeartbeats 400000 in
theorem fill_no (A : Option Addr) (len cap : Nat) (n : Int) (w : World) (h : n < len ∨ 1048576 < n) :
    Calls Tryz.prog 161 #[.slice A len cap, .int .i64 n] w fun e W' => e = .returned (.tuple #[.slice none 0 0, .bool false]) ∧ w = W' := by
  by_cases h1 : n < (len : Int)
  · go_enter Tryz.func161, Tryz.ntmps161
    go_wp2
    go_ret2
    exact ⟨rfl, rfl⟩
  · have h2 : 1048576 < n := by omega
    clear h
    go_enter Tryz.func161, Tryz.ntmps161
    go_wp2
    go_ret2
    exact ⟨rfl, rfl⟩

theorem fill_okL (A : Option Addr) (len cap n : Nat) (bs : List UInt8) (w : World) (hl : bs.length = len) (hle : len ≤ n) (hn : n ≤ 1048576) (hA : Bytes w A bs) :
    Calls Tryz.prog 161 #[.slice A len cap, .int .i64 n] w fun e W' => e = .returned (.tuple #[.slice (some ⟨w.heap.size, 0, none⟩) n n, .bool true]) ∧
      Blk W' w.heap.size 5 (row8 (filled bs n)) ∧ Below w.heap.size w W' := by subst hl; exact fill_ok A cap n bs w hle hn hA

end Go.Proofs.YtolpgpphjnkehaaGreatDoor.Cac
/- Write. -/
namespace Go.Proofs.YtolpgpphjnkehaaGreatDoor.Cac
set_option maxRecDepth 20000
open Go.RowKit Dsk

/-- append of one that is pending. -/
theorem Pend.push {w : World} {t T : TypeId} {E : Nat → Prop} {rv : Value} {P : List (Nat × List UInt8)} (h : Pend w t E rv P) (hT : Tryz.prog.underlying T = some (.slice t))
    (hI : (Tryz.prog.info? t).map (fun i => (i.zero, i.size, i.bytes)) = some (some (.agg #[.int .i64 0, .slice none 0 0]), 2, 32))
    (p : Nat × List UInt8) (v : Value) (hv : Sec w E v p.2) (b : Nat) (h0 : w.cell? ⟨b, 0, none⟩ = some (.int .i64 (p.1 : Int))) (h1 : w.cell? ⟨b, 1, none⟩ = some v) (hE : ∀ k, rv.ownBlock = some k → ¬ E k) (hr : P.length < 1000000) :
    ∃ v' w', (Builtin.append_ #[T, T] T #[rv, .slice (some ⟨b, 0, none⟩) 1 1]).run Tryz.prog w = .ok v' w' ∧ Pend w' t E v' (P ++ [p]) ∧ w.grownBy w' rv.ownBlock ∧ (v'.ownBlock = rv.ownBlock ∨ v'.ownBlock = some w.heap.size) := by
  obtain ⟨vs, hl, ho, hs⟩ := h.own
  obtain ⟨i0, hi, hz0, hz1, hz2⟩ := info_parts hI
  obtain ⟨A, c, rfl, hsec⟩ := hv
  have hcell : ∀ (j : Nat) (u : Value), [Value.int .i64 (p.1 : Int), .slice A p.2.length c][j]? = some u → w.cell? ((⟨b, 0, none⟩ : Addr).add j) = some u := fun j u hj => by
    have e2 : (⟨b, 0, none⟩ : Addr).add j = ⟨b, 0 + j, none⟩ := by unfold Addr.add; split <;> simp_all
    rw [e2, Nat.zero_add]
    rcases j with _ | _ | j
    · cases hj; exact h0
    · cases hj; exact h1
    · simp at hj
  obtain ⟨v', w', hrun, h2, h3, _, h5⟩ := run_append_own_at (P := Tryz.prog) w 0 T T t i0 (.agg #[.int .i64 0, .slice none 0 0]) 2 32 hT hi hz0 hz1 hz2 rfl (by decide) rv P.length _ ho ⟨b, 0, none⟩ 1 1 [.int .i64 (p.1 : Int), .slice A p.2.length c] (by simp) hcell
    (fun u hu => by rcases List.mem_cons.1 hu with rfl | hu
                    · rfl
                    · rw [List.mem_singleton.1 hu]; rfl) (by unfold maxLen; omega) (by omega) (Nat.zero_le _)
  have hsame : ∀ k, E k → k < w.heap.size → w'.heap[k]? = w.heap[k]? := fun k hk hlt => h3.block k hlt (fun e => hE k e.symm hk)
  refine ⟨v', w', hrun, ⟨vs ++ [.slice A p.2.length c], by simp [hl], ?_, fun k q hq => ?_⟩, h3, h5⟩
  · rw [List.length_append, List.length_singleton]
    have e : (P ++ [p]).map (·.1) = P.map (·.1) ++ [p.1] := by simp
    rw [e, List.zip_append (by simp [hl]), prow_append]
    exact h2
  · by_cases hk : k < P.length
    · rw [List.getElem?_append_left hk] at hq
      obtain ⟨u, e, hu⟩ := hs k q hq
      exact ⟨u, by rw [List.getElem?_append_left (by omega)]; exact e, hu.same h3.size hsame⟩
    · rw [List.getElem?_append_right (by omega)] at hq
      have hk0 : k - P.length = 0 := by
        have := (List.getElem?_eq_some_iff.1 hq).1
        simp at this; omega
      rw [hk0] at hq
      cases hq
      refine ⟨.slice A p.2.length c, by rw [List.getElem?_append_right (by omega), hl, hk0]; rfl, ?_⟩
      exact Sec.same ⟨A, c, rfl, hsec⟩ h3.size hsame

theorem Dk.mono {w : World} {E : Nat → Prop} {g gl gi : Nat} {rv : Value} {D : DS} (h : Dk w E g gl gi rv D) (G : Nat → Prop) (hG : ∀ k, G k → ¬ own4 g gl gi rv k) : Dk w (fun k => E k ∨ G k) g gl gi rv D :=
  ⟨h.ok, h.head, h.secs.mono fun _ => .inl, h.pend.mono fun _ => .inl, h.last, fun e => e.elim h.e1 fun e => hG _ e (.inl rfl), fun e => e.elim h.e2 fun e => hG _ e (.inr (.inl rfl)),
    fun e => e.elim h.e3 fun e => hG _ e (.inr (.inr (.inl rfl))), fun k hk => ⟨fun e => e.elim (h.e4 k hk).1 fun e => hG _ e (.inr (.inr (.inr hk))), (h.e4 k hk).2⟩, h.n1, h.n2, h.n3⟩

def pushD (D : DS) (s : Nat) (b : List UInt8) : DS := { D with P := D.P ++ [(s, b)] }
theorem pushD_ok {D : DS} (h : D.Ok) {s : Nat} {b : List UInt8} (hs : s < D.S.length) (hb : b.length = 256) : (pushD D s b).Ok :=
  ⟨h.lo, h.hi, h.sec, fun p hp => (List.mem_append.1 hp).elim (h.pend p) fun hp => by rw [List.mem_singleton.1 hp]; exact ⟨hs, hb⟩, h.armed⟩

/-- Behind the append, and both stores. -/
theorem Dk.pushed {w w2 : World} {E : Nat → Prop} {g gl gi : Nat} {rv v' : Value} {D : DS} (h : Dk w E g gl gi rv D) {s : Nat} {b : List UInt8} (hs : s < D.S.length) (hb : b.length = 256)
    (hp : Pend w2 97 E v' (D.P ++ [(s, b)])) (hg : w.grownBy w2 rv.ownBlock) (ho : v'.ownBlock = rv.ownBlock ∨ v'.ownBlock = some w.heap.size) (hEl : ∀ k, E k → k < w.heap.size) :
    Dk ((w2.setCell ⟨g, 1, none⟩ v').setCell ⟨gi, s, none⟩ (.int .i64 ((D.P.length : Int) + 1))) E g gl gi v' (pushD D s b) := by
  have hgl := h.secs.lt
  have hgi := h.last.lt
  have hgg := h.head.lt
  have far : ∀ k, k < w.heap.size → rv.ownBlock ≠ some k → w2.heap[k]? = w.heap[k]? := fun k hk hn => hg.block k hk (fun e => hn e.symm)
  have ng : rv.ownBlock ≠ some g := fun e => (h.e4 g e).2.1 rfl
  have nl : rv.ownBlock ≠ some gl := fun e => (h.e4 gl e).2.2.1 rfl
  have ni : rv.ownBlock ≠ some gi := fun e => (h.e4 gi e).2.2.2 rfl
  have nE : ∀ k, E k → rv.ownBlock ≠ some k := fun k hk e => (h.e4 k e).1 hk
  have vne : ∀ k, k < w.heap.size → rv.ownBlock ≠ some k → v'.ownBlock ≠ some k := fun k hk hn e => by
    rcases ho with ho | ho
    · exact hn (ho ▸ e)
    · rw [ho] at e; injection e with e; omega
  have st : ∀ k, k ≠ g → k ≠ gi → (((w2.setCell ⟨g, 1, none⟩ v').setCell ⟨gi, s, none⟩ (.int .i64 ((D.P.length : Int) + 1)))).heap[k]? = w2.heap[k]? := fun k h1 h2 => (Below.heap_setCell _ _ _ _ h2).trans (Below.heap_setCell _ _ _ _ h1)
  have sz : w2.heap.size = (((w2.setCell ⟨g, 1, none⟩ v').setCell ⟨gi, s, none⟩ (.int .i64 ((D.P.length : Int) + 1)))).heap.size := by simp [World.setCell]
  have En : ∀ k, E k → k ≠ g ∧ k ≠ gi := fun k hk => ⟨fun e => h.e1 (e ▸ hk), fun e => h.e3 (e ▸ hk)⟩
  refine ⟨pushD_ok h.ok hs hb, ?_, ?_, ?_, ?_, h.e1, h.e2, h.e3, fun k hk => ?_, h.n1, h.n2, h.n3⟩
  · have h1 : Blk w2 g _ _ := h.head.same (far g hgg ng)
    have h2 := (h1.set_ 1 v').far (p := ⟨gi, s, none⟩) h.n2 (.int .i64 ((D.P.length : Int) + 1))
    simp only [List.setIfInBounds_toArray, List.set_cons_succ, List.set_cons_zero] at h2
    exact h2
  · exact h.secs.same (Nat.le_trans hg.size (Nat.le_of_eq sz)) (fun k hk hl => (st k (En k hk).1 (En k hk).2).trans (far k hl (nE k hk))) ((st gl h.n1.symm h.n3).trans (far gl hgl nl))
  · exact hp.same (Nat.le_of_eq sz) (fun k hk _ => st k (En k hk).1 (En k hk).2) (fun k hk => st k (fun e => vne g hgg ng (e ▸ hk)) (fun e => vne gi hgi ni (e ▸ hk)))
  · have h1 : Lasts (w2.setCell ⟨g, 1, none⟩ v') gi D.S.length D.P := h.last.same ((Below.heap_setCell _ _ _ _ h.n2.symm).trans (far gi hgi ni))
    exact h1.write b
  · refine ⟨fun e => ?_, fun e => vne g hgg ng (e ▸ hk), fun e => vne gl hgl nl (e ▸ hk), fun e => vne gi hgi ni (e ▸ hk)⟩
    exact vne k (hEl k e) (nE k e) hk

end Go.Proofs.YtolpgpphjnkehaaGreatDoor.Cac
/- Write, walked. -/
namespace Go.Proofs.YtolpgpphjnkehaaGreatDoor.Cac
set_option maxRecDepth 20000
open Go.RowKit Dsk

set_option maxHeartbeats 400000 in
theorem write_nil (i : Int) (v : Value) (w : World) : Calls Tryz.prog 104 #[.pointer none, .int .i64 i, v] w fun e w' => e = .returned (.int .i64 2) ∧ w = w' := by
  go_enter Tryz.func104, Tryz.ntmps104
  go_wp2_with (go_at_call 55; refine (refuses_nil _ _).mono ?_; rintro e w' ⟨rfl, rfl⟩)
  go_ret
  exact ⟨rfl, rfl⟩

theorem write_refused (g n armed steps : Nat) (A : Option Addr) (rv lv v : Value) (dead : Bool) (i r : Int) (w : World) (h : Head w g A n rv lv dead armed steps) (hr : refuse dead n i = r) (h0 : r ≠ 0) :
    Calls Tryz.prog 104 #[.pointer (some ⟨g, 0, none⟩), .int .i64 i, v] w fun e w' => e = .returned (.int .i64 r) ∧ w = w' := by
  have H := refuses_hd g n armed steps A rv lv dead i w h
  rw [hr] at H
  have HR := Lib.hid H
  have hd : (r != 0) = true := by simpa using h0
  clear H h hr
  go_enter Tryz.func104, Tryz.ntmps104
  go_wp2_with (go_at_call 55; refine HR.out.mono ?_; rintro e w' ⟨rfl, rfl⟩)
  go_ret
  exact ⟨rfl, rfl⟩

set_option maxHeartbeats 400000 in
theorem write_long (g n armed steps len cap : Nat) (A B : Option Addr) (rv lv : Value) (dead : Bool) (i : Int) (w : World) (h : Head w g A n rv lv dead armed steps) (hr : refuse dead n i = 0) (hl : 256 < len) :
    Calls Tryz.prog 104 #[.pointer (some ⟨g, 0, none⟩), .int .i64 i, .slice B len cap] w fun e w' => e = .returned (.int .i64 1) ∧ w = w' := by
  have H := refuses_hd g n armed steps A rv lv dead i w h
  rw [hr] at H
  have HR := Lib.hid H
  have HF := Lib.hid (fill_no B len cap 256 w (.inl (by omega)))
  clear H h hr
  go_enter Tryz.func104, Tryz.ntmps104
  go_wp2_with (first
    | (go_at_call 55; refine HR.out.mono ?_; rintro e w' ⟨rfl, rfl⟩)
    | (go_at_call 161; refine HF.out.mono ?_; rintro e w' ⟨rfl, rfl⟩))
  go_ret
  exact ⟨rfl, rfl⟩

/-- What Write answers, and what it does, where the bytes fit. -/
def writeE (D : DS) (i : Int) (b : List UInt8) : Int := if refuse D.dead D.S.length i = 0 then (if b.length ≤ 256 then stepE (pushD D i.toNat (filled b 256)) else 1) else refuse D.dead D.S.length i
def writeD (D : DS) (i : Int) (b : List UInt8) : DS := if refuse D.dead D.S.length i = 0 ∧ b.length ≤ 256 then stepD (pushD D i.toNat (filled b 256)) else D

set_option maxHeartbeats 1000000 in
theorem write_fits (g gl gi len cap s : Nat) (B : Option Addr) (rv : Value) (bs : List UInt8) (D : DS) (E : Nat → Prop) (w : World) (h : Dk w E g gl gi rv D) (hEl : ∀ k, E k → k < w.heap.size) (hd : D.dead = false) (hs : s < D.S.length) (hlen : bs.length = len) (hl : len ≤ 256) (hB : Bytes w B bs)
    (hP : D.P.length < 1000000) (hS : D.steps < 1000000000) :
    Calls Tryz.prog 104 #[.pointer (some ⟨g, 0, none⟩), .int .i64 (s : Int), .slice B len cap] w fun e w' => e = .returned (.int .i64 (stepE (pushD D s (filled bs 256)))) ∧
      (∃ rv', Dk w' (fun k => E k ∨ k = w.heap.size) g gl gi rv' (stepD (pushD D s (filled bs 256))) ∧ (rv'.ownBlock = rv.ownBlock ∨ ∃ r, rv'.ownBlock = some r ∧ w.heap.size ≤ r ∧ r < w'.heap.size)) ∧ Off (own4 g gl gi rv) w w' ∧ w.heap.size < w'.heap.size := by
  have H := refuses_hd g _ _ _ _ _ _ _ (s : Int) w h.hd
  have e0 : refuse D.dead D.S.length (s : Int) = 0 := by rw [hd]; simp [refuse]; omega
  rw [e0] at H
  have HR := Lib.hid H
  have HF := Lib.hid (fill_okL B len cap 256 bs w hlen hl (by decide) hB)
  have hf : (filled bs 256).length = 256 := filled_length bs 256 (by omega)
  generalize filled bs 256 = fs at *
  have HK := Lib.hid h
  have HE := Lib.hid hEl
  have HFS := Lib.hid hf
  have HP := Lib.hid hP
  have HS := Lib.hid hS
  have hn := h.ok.hi
  clear H e0 h hEl hB hlen hf hd hP hS
  go_enter Tryz.func104, Tryz.ntmps104
  go_wp2_with (go_at_call 55; refine HR.out.mono ?_; rintro e w' ⟨rfl, rfl⟩)
  refine HF.out.mono ?_
  rintro e w1 ⟨rfl, hb1, hw1⟩
  have hsz1 : w.heap.size < w1.heap.size := hb1.lt
  have hK1 : Dk w1 (fun k => E k ∨ k = w.heap.size) g gl gi rv D :=
    (HK.out.same hw1.size (fun k hk _ => hw1.block k hk)).mono _ (fun k hk ho => by have := (HK.out.own_lt k ho).1; omega)
  have hKa : Dk (w1.alloc (.cells #[.int .i64 (s : Int), .slice (some ⟨w.heap.size, 0, none⟩) 256 256] 97)) (fun k => E k ∨ k = w.heap.size) g gl gi rv D := hK1.same (by simp) (fun k hk _ => Below.heap_alloc _ _ _ hk)
  have hba : Blk (w1.alloc (.cells #[.int .i64 (s : Int), .slice (some ⟨w.heap.size, 0, none⟩) 256 256] 97)) w1.heap.size 97 #[.int .i64 (s : Int), .slice (some ⟨w.heap.size, 0, none⟩) 256 256] := Blk.new _ _ _
  have hsec : Sec (w1.alloc (.cells #[.int .i64 (s : Int), .slice (some ⟨w.heap.size, 0, none⟩) 256 256] 97)) (fun k => E k ∨ k = w.heap.size) (.slice (some ⟨w.heap.size, 0, none⟩) 256 256) fs :=
    Sec.of_blk (hb1.alloc _) (.inr rfl) (by rw [HFS.out]; decide) 256 HFS.out
  obtain ⟨v', w2, hrun, hp2, hg2, ho2⟩ := Pend.push (T := 88) hKa.pend (by kernel_rfl) (by kernel_rfl) (s, fs) _ hsec w1.heap.size (hba.cell 0) (hba.cell 1) (fun k hk => (hKa.e4 k hk).1) HP.out
  have hEl : ∀ k, (E k ∨ k = w.heap.size) → k < (w1.alloc (.cells #[.int .i64 (s : Int), .slice (some ⟨w.heap.size, 0, none⟩) 256 256] 97)).heap.size := fun k hk => by
    rw [World.size_alloc]
    rcases hk with hk | rfl
    · have := HE.out k hk; omega
    · omega
  have hK4 := hKa.pushed (b := fs) hs HFS.out hp2 hg2 ho2 hEl
  have hsz2 := hg2.size
  rw [World.size_alloc] at hsz2
  have hgl := hKa.head.lt
  have hgil := hKa.last.lt
  have ng : ∀ k, (k = g ∨ k = gi) → some k ≠ rv.ownBlock := fun k hk e => by
    have := (HK.out.e4 k e.symm).2
    rcases hk with rfl | rfl
    · exact this.1 rfl
    · exact this.2.2 rfl
  have h2 : Blk w2 g _ _ := hKa.head.grown hg2 (ng g (.inl rfl))
  have hl2 : Lasts w2 gi D.S.length D.P := hKa.last.same (hg2.block gi hgil (ng gi (.inr rfl)))
  have hgg : g ≠ gi := HK.out.n2
  obtain ⟨A', c', ev, _, _⟩ := hp2.shape
  have hlen2 : (D.P ++ [(s, fs)]).length = D.P.length + 1 := by simp
  rw [hlen2] at ev
  have hPl := HP.out
  have hbel : Off (own4 g gl gi rv) w ((w2.setCell ⟨g, 1, none⟩ v').setCell ⟨gi, s, none⟩ (.int .i64 ((D.P.length : Int) + 1))) :=
    (((Off.of_new hw1 _).then (Off.alloc (own4 g gl gi rv) w1 _) (fun _ _ => id)).then (Off.of_grown hg2) (fun k _ hk => .inr (.inr (.inr hk)))).then
      (((Off.setc w2 g 1 v').mono (G := own4 g gl gi rv) (fun k _ e => .inl e)).trans ((Off.setc _ gi s _).mono (fun k _ e => .inr (.inr (.inl e))))) (fun _ _ => id)
  have hrow : v'.ownBlock = rv.ownBlock ∨ ∃ r, v'.ownBlock = some r ∧ w.heap.size ≤ r ∧ r < w2.heap.size := by
    rcases ho2 with ho2 | ho2
    · exact .inl ho2
    · rw [World.size_alloc] at ho2
      exact .inr ⟨_, ho2, by omega, hp2.lt _ ho2⟩
  subst ev
  have g1 : w.cell? ⟨g, 1, none⟩ = some rv := HK.out.hd.c1
  have g1' : w1.cell? ⟨g, 1, none⟩ = some rv := hK1.hd.c1
  have c20 := h2.cell 0
  have c21 := h2.cell 1
  have c22 := h2.cell 2
  have f2 := h2.frozen 1
  have l2 := hl2.at_ hs
  have lf2 := hl2.free s
  simp only [List.getElem?_toArray, List.getElem?_cons_zero, List.getElem?_cons_succ] at c20 c21 c22
  have hK5 := hK4.drew
  have HS4 := Lib.hid (step_hd g _ _ _ _ _ _ _ _ hK5.hd HS.out hK5.ok.armed)
  have HK4 := Lib.hid hK5.step_
  have HOF := Lib.hid (stepW_off ((w2.setCell ⟨g, 1, none⟩ (.slice A' (D.P.length + 1) c')).setCell ⟨gi, s, none⟩ (.int .i64 ((D.P.length : Int) + 1))).drew g (pushD D s fs).armed (pushD D s fs).steps)
  have HBEL := Lib.hid hbel
  have HROW := Lib.hid hrow
  have HRUN := Lib.hid hrun
  have hi : (0 : Int) ≤ (s : Int) := by omega
  clear hK1 hKa hba hsec hrun hp2 hg2 ho2 hEl hK4 hK5 h2 hl2 hlen2 hbel hrow HR HF hb1 hw1 ng
  go_wp2_with (at_builtin; refine wpList_app rfl _ _ 88 rfl _ _ _ _ rfl rfl HRUN.out ?_; clear HRUN)
  go_region
  go_wp2_with fail
  refine HS4.out.mono ?_
  rintro e w' ⟨rfl, rfl⟩
  go_wp2_with fail
  go_ret
  refine ⟨rfl, ⟨_, HK4.out, ?_⟩, ?_, ?_⟩
  · rcases HROW.out with h | ⟨r, h1, h2, h3⟩
    · exact .inl h
    · exact .inr ⟨r, h1, h2, Nat.lt_of_lt_of_le h3 (by rw [stepW_size]; simp [World.setCell])⟩
  · exact (HBEL.out.trans (Off.drew _ _)).trans (HOF.out.mono fun k _ e => .inl e)
  · rw [stepW_size]
    show w.heap.size < ((w2.setCell _ _).setCell _ _).heap.size
    simp [World.setCell]; omega

theorem Disk.write_no (g len cap : Nat) (B : Option Addr) (F : Nat → Prop) (D : DS) (i : Int) (bs : List UInt8) (w : World) (h : Disk w F g D) (hlen : bs.length = len) (hn : ¬ (refuse D.dead D.S.length i = 0 ∧ len ≤ 256)) :
    Calls Tryz.prog 104 #[.pointer (some ⟨g, 0, none⟩), .int .i64 i, .slice B len cap] w fun e w' => e = .returned (.int .i64 (writeE D i bs)) ∧ w = w' := by
  obtain ⟨E, gl, gi, rv, hk, h1, h2, h3⟩ := h
  unfold writeE
  by_cases hr : refuse D.dead D.S.length i = 0
  · rw [if_pos hr, if_neg (by rw [hlen]; exact fun e => hn ⟨hr, e⟩)]
    exact write_long g _ _ _ len cap _ B _ _ _ i w hk.hd hr (by have := fun e => hn ⟨hr, e⟩; omega)
  · rw [if_neg hr]
    exact write_refused g _ _ _ _ _ _ _ _ i _ w hk.hd rfl hr

theorem writeD_no {D : DS} {i : Int} {bs : List UInt8} (hn : ¬ (refuse D.dead D.S.length i = 0 ∧ bs.length ≤ 256)) : writeD D i bs = D := by unfold writeD; rw [if_neg hn]

theorem Disk.write_ (g len cap : Nat) (B : Option Addr) (F : Nat → Prop) (D : DS) (i : Int) (bs : List UInt8) (w : World) (h : Disk w F g D) (hlen : bs.length = len) (hB : Bytes w B bs) (hP : D.P.length < 1000000) (hS : D.steps < 1000000000) :
    Calls Tryz.prog 104 #[.pointer (some ⟨g, 0, none⟩), .int .i64 i, .slice B len cap] w fun e w' => e = .returned (.int .i64 (writeE D i bs)) ∧ Disk w' (grow F w w') g (writeD D i bs) ∧ Off F w w' := by
  by_cases hn : refuse D.dead D.S.length i = 0 ∧ len ≤ 256
  · obtain ⟨hr, hl⟩ := hn
    obtain ⟨hd, s, rfl, hs⟩ := refuse_zero hr
    obtain ⟨E, gl, gi, rv, hk, h1, h2, h3⟩ := h
    have e1 : writeE D s bs = stepE (pushD D s (filled bs 256)) := by unfold writeE; rw [if_pos hr, if_pos (by omega), Int.toNat_natCast]
    have e2 : writeD D s bs = stepD (pushD D s (filled bs 256)) := by unfold writeD; rw [if_pos ⟨hr, by omega⟩, Int.toNat_natCast]
    rw [e1, e2]
    refine (write_fits g gl gi len cap s B rv bs D E w hk (fun k hk' => h3 k (h1 k hk')) hd hs hlen hl hB hP hS).mono ?_
    rintro e w' ⟨rfl, ⟨rv', hk', ho⟩, hof, hsz⟩
    refine ⟨rfl, ⟨_, gl, gi, rv', hk', fun k hk2 => ?_, fun k hk2 => ?_, fun k hk2 => ?_⟩, hof.mono fun k _ => h2 k⟩
    · rcases hk2 with hk2 | rfl
      · exact .inl (h1 k hk2)
      · exact .inr ⟨Nat.le_refl _, hsz⟩
    · rcases hk2 with rfl | rfl | rfl | hk2
      · exact .inl (h2 _ (.inl rfl))
      · exact .inl (h2 _ (.inr (.inl rfl)))
      · exact .inl (h2 _ (.inr (.inr (.inl rfl))))
      · rcases ho with ho | ⟨r, ho, hr1, hr2⟩
        · exact .inl (h2 _ (.inr (.inr (.inr (ho ▸ hk2)))))
        · rw [ho] at hk2; injection hk2 with hk2; subst hk2
          exact .inr ⟨hr1, hr2⟩
    · rcases hk2 with hk2 | hk2
      · have := h3 k hk2; have := hof.size; omega
      · exact hk2.2
  · refine (Disk.write_no g len cap B F D i bs w h hlen hn).mono ?_
    rintro e w' ⟨rfl, rfl⟩
    rw [writeD_no (by rw [hlen]; exact hn)]
    obtain ⟨E, gl, gi, rv, hk, h1, h2, h3⟩ := h
    exact ⟨rfl, ⟨E, gl, gi, rv, hk, fun k hk' => .inl (h1 k hk'), fun k hk' => .inl (h2 k hk'), fun k hk' => hk'.elim (h3 k) fun e => e.2⟩, Off.refl _ _⟩

end Go.Proofs.YtolpgpphjnkehaaGreatDoor.Cac
/- What Barrier and On hand to settle. -/
namespace Go.Proofs.YtolpgpphjnkehaaGreatDoor.Cac
set_option maxRecDepth 20000
open Go.RowKit Dsk

theorem Dk.set_ {w : World} {E : Nat → Prop} {g gl gi : Nat} {rv : Value} {D : DS} (h : Dk w E g gl gi rv D) (s : Nat) (v : Value) (b : List UInt8) (hv : Sec w E v b) (hb : b = [] ∨ b.length = 256) :
    Dk (w.setCell ⟨gl, s, none⟩ v) E g gl gi rv { D with S := D.S.set s b } := by
  have hf : ∀ k, k ≠ gl → (w.setCell ⟨gl, s, none⟩ v).heap[k]? = w.heap[k]? := fun k hk => Below.heap_setCell _ _ _ _ hk
  have hE : ∀ k, E k → k ≠ gl := fun k hk e => h.e2 (e ▸ hk)
  have hl : (D.S.set s b).length = D.S.length := List.length_set
  have hsz : w.heap.size ≤ (w.setCell ⟨gl, s, none⟩ v).heap.size := by simp [World.setCell]
  refine ⟨⟨by show 16 ≤ (D.S.set s b).length; rw [hl]; exact h.ok.lo, by show (D.S.set s b).length ≤ _; rw [hl]; exact h.ok.hi, fun c hc => ?_, fun p hp => by show p.1 < (D.S.set s b).length ∧ _; rw [hl]; exact h.ok.pend p hp, h.ok.armed⟩, ?_, h.secs.set_ h.e2 s v b hv, ?_, ?_, h.e1, h.e2, h.e3, h.e4, h.n1, h.n2, h.n3⟩
  · rcases List.mem_or_eq_of_mem_set hc with hc | rfl
    · exact h.ok.sec c hc
    · exact hb
  · show Blk _ g _ #[.slice _ (D.S.set s b).length (D.S.set s b).length, _, .slice _ (D.S.set s b).length (D.S.set s b).length, _, _, _]
    rw [hl]
    exact h.head.far h.n1 v
  · exact h.pend.same hsz (fun k hk _ => hf k (hE k hk)) (fun k hk => hf k (h.e4 k hk).2.2.1)
  · show Lasts _ gi (D.S.set s b).length _
    rw [hl]
    exact h.last.same (hf gi h.n3.symm)

theorem Dk.alloc {w : World} {E : Nat → Prop} {g gl gi : Nat} {rv : Value} {D : DS} (h : Dk w E g gl gi rv D) (o : Obj) : Dk (w.alloc o) E g gl gi rv D := h.same (by simp) (fun k hk _ => Below.heap_alloc _ _ _ hk)

/-- The k-th pending write settled. -/
def setD (D : DS) (s : Nat) (o : Option (List UInt8)) : DS := match o with
  | none => D
  | some b => { D with S := D.S.set s b }

set_option maxHeartbeats 400000 in
theorem bar1 (p1 g gl gi s k : Nat) (A : Option Addr) (l c : Nat) (rv : Value) (b : List UInt8) (D : DS) (E : Nat → Prop) (w : World) (h : Dk w E g gl gi rv D) (hs : s < D.S.length) (hv : Sec w E (.slice A l c) b) (hb : b = [] ∨ b.length = 256) (hp : w.cell? ⟨p1, 0, none⟩ = some (.pointer (some ⟨g, 0, none⟩))) :
    Calls Tryz.prog 163 #[.int .i64 (k : Int), .agg #[.int .i64 (s : Int), .slice A l c], .pointer (some ⟨p1, 0, none⟩)] w fun e w' => e = .returned (.tuple #[]) ∧ Dk w' E g gl gi rv (setD D s (some b)) ∧ Off (fun k => k = gl) w w' := by
  have hD := h.alloc (.cells #[.int .i64 (s : Int), .slice A l c] 97)
  have hF := (h.set_ s _ b hv hb).alloc (.cells #[.int .i64 (s : Int), .slice A l c] 97)
  have hO : Off (fun k => k = gl) w ((w.setCell ⟨gl, s, none⟩ (.slice A l c)).alloc (.cells #[.int .i64 (s : Int), .slice A l c] 97)) := (Off.setc _ _ _ _).trans (Off.alloc _ _ _)
  have hplt := World.block_lt_of_cell? w _ hp
  have hglt := h.head.lt
  have hllt := h.secs.lt
  have c0 : w.cell? ⟨g, 0, none⟩ = some (.slice (some ⟨gl, 0, none⟩) D.S.length D.S.length) := h.hd.c0
  obtain ⟨v0, hv0, _⟩ := h.secs.at_ (List.getElem?_eq_getElem hs)
  have hf0 := h.secs.free s
  have hn := h.ok.hi
  have HF := Lib.hid hF.drew
  have HO := Lib.hid (hO.trans (Off.drew _ _))
  have hgl : gl < (w.alloc (.cells #[.int .i64 (s : Int), .slice A l c] 97)).heap.size := hD.secs.lt
  have e0 : (0 : Int) ≤ (s : Int) := by omega
  have hv1 := Lib.cell?_alloc_some (.cells #[.int .i64 (s : Int), .slice A l c] 97) hv0
  have hf1 : (w.alloc (.cells #[.int .i64 (s : Int), .slice A l c] 97)).frozen? ⟨gl, s, none⟩ = false := hD.secs.free s
  clear h hD hv hF hO hb
  go_enter Tryz.func163, Tryz.ntmps163
  go_wp2
  go_region
  all_goals
    go_end0
    exact ⟨rfl, HF.out, HO.out⟩

/-! ### the map of what is kept -/

/-- Block b is a map of booleans that says S, of at most n entries. -/
def KMap (w : World) (b n : Nat) (S : Int → Bool) : Prop :=
  ∃ D : DataW Unit, w.ownsMap Tryz.prog 3 (plainElem Tryz.prog 4) b n D ∧ ∀ i : Int, (Lit.int .i64 i).wf = true → D.atKey (.int .i64 i) (.lit (.bool false)) = .lit (.bool (S i))
theorem KMap.same {w w' : World} {b n : Nat} {S : Int → Bool} (h : KMap w b n S) (hb : w'.heap[b]? = w.heap[b]?) : KMap w' b n S := by
  obtain ⟨D, ⟨es, clock, h1, h2⟩, h3⟩ := h
  exact ⟨D, ⟨es, clock, hb.trans h1, h2⟩, h3⟩
theorem KMap.lt {w : World} {b n : Nat} {S : Int → Bool} (h : KMap w b n S) : b < w.heap.size := by obtain ⟨D, h1, _⟩ := h; exact h1.lt
theorem KMap.made (w : World) : KMap (w.alloc (.map #[] 0)) w.heap.size 0 (fun _ => false) := ⟨_, World.ownsMap_made w _ _ _, fun _ _ => rfl⟩
theorem plainElem_bool_inv {P : Program} {e : TypeId} (he : P.underlying e = some .bool) {v : Value} {z : DataW Unit × List MemPlace} (h : plainElem P e v = some z) : ∃ x, v = .bool x ∧ z = (.lit (.bool x), []) := by
  unfold plainElem at h
  rw [he] at h
  cases v <;> simp at h
  exact ⟨_, rfl, h.symm⟩
theorem KMap.look {w : World} {b n : Nat} {S : Int → Bool} (h : KMap w b n S) (i : Int) (hi : (Lit.int .i64 i).wf = true) : (Instr.lookup 94 (.map (some b)) (.int .i64 i) false).run Tryz.prog w = .ok (.bool (S i)) w := by
  obtain ⟨D, h1, h2⟩ := h
  have hz : (zeroValue 4).run Tryz.prog w = .ok (.bool false) w := by kernel_rfl
  obtain ⟨v, ps, hr, hv⟩ := h1.lookup (Maps.int_keyed Tryz.underlying3) Tryz.underlying94 hz (plainElem_bool Tryz.underlying4 false) (Maps.keyOf_int_mk Tryz.underlying3 hi)
  obtain ⟨x, rfl, hx⟩ := plainElem_bool_inv Tryz.underlying4 hv
  rw [h2 i hi] at hx
  simp only [Prod.mk.injEq, DataW.lit.injEq, Lit.bool.injEq] at hx
  rw [← hx.1] at hr
  exact hr
theorem KMap.put {w : World} {b n : Nat} {S : Int → Bool} (h : KMap w b n S) (i : Int) (hi : (Lit.int .i64 i).wf = true) (hn : n < 1000000) :
    ∃ w', (Instr.mapUpdate 94 (.map (some b)) (.int .i64 i) (.bool true)).run Tryz.prog w = .ok () w' ∧ KMap w' b (n + 1) (fun j => j == i || S j) ∧ Off (fun k => k = b) w w' := by
  obtain ⟨D, h1, h2⟩ := h
  obtain ⟨w', hr, h3, h4⟩ := h1.update (Maps.int_keyed Tryz.underlying3) Tryz.underlying94 (by unfold maxLen; omega) (Maps.keyOf_int_mk Tryz.underlying3 hi) (plainElem_bool Tryz.underlying4 true)
  refine ⟨w', hr, ⟨_, h3, fun j hj => ?_⟩, (Off.of_grown h4).mono fun k _ e => by cases e; rfl⟩
  have hM : Maps.IsMap D := by obtain ⟨es, clock, _, _, _, e⟩ := h1; exact ⟨_, e⟩
  by_cases e : j = i
  · subst e
    rw [Maps.atKey_put_same hM (by simp [WideAt.IsKeyLit])]
    simp
  · rw [Maps.atKey_put_other (by simpa using e), h2 j hj]
    have : (j == i) = false := by simpa using e
    simp only [this, Bool.false_or]

set_option maxHeartbeats 400000 in
theorem on1_torn (p1 p2 p3 g gl gi s k : Nat) (A : Option Addr) (l c : Nat) (rv : Value) (D : DS) (E : Nat → Prop) (w : World) (h : Dk w E g gl gi rv D) (hs : s < D.S.length) (hp1 : w.cell? ⟨p1, 0, none⟩ = some (.int .i64 (k : Int))) (hp2 : w.cell? ⟨p2, 0, none⟩ = some (.pointer (some ⟨g, 0, none⟩))) :
    Calls Tryz.prog 57 #[.int .i64 (k : Int), .agg #[.int .i64 (s : Int), .slice A l c], .pointer (some ⟨p1, 0, none⟩), .pointer (some ⟨p2, 0, none⟩), .pointer (some ⟨p3, 0, none⟩)] w fun e w' => e = .returned (.tuple #[]) ∧ Dk w' E g gl gi rv (setD D s (some [])) ∧ Off (fun k => k = gl) w w' := by
  have hD := h.alloc (.cells #[.int .i64 (s : Int), .slice A l c] 97)
  have hF := (h.set_ s (.slice none 0 0) [] (Sec.nil _ _) (.inl rfl)).alloc (.cells #[.int .i64 (s : Int), .slice A l c] 97)
  have hO : Off (fun k => k = gl) w ((w.setCell ⟨gl, s, none⟩ (.slice none 0 0)).alloc (.cells #[.int .i64 (s : Int), .slice A l c] 97)) := (Off.setc _ _ _ _).trans (Off.alloc _ _ _)
  have hplt := World.block_lt_of_cell? w _ hp1
  have hplt2 := World.block_lt_of_cell? w _ hp2
  have hglt := h.head.lt
  have hllt := h.secs.lt
  have c0 : w.cell? ⟨g, 0, none⟩ = some (.slice (some ⟨gl, 0, none⟩) D.S.length D.S.length) := h.hd.c0
  obtain ⟨v0, hv0, _⟩ := h.secs.at_ (List.getElem?_eq_getElem hs)
  have hf0 := h.secs.free s
  have hn := h.ok.hi
  have HF := Lib.hid hF.drew
  have HO := Lib.hid (hO.trans (Off.drew _ _))
  have hgl : gl < (w.alloc (.cells #[.int .i64 (s : Int), .slice A l c] 97)).heap.size := hD.secs.lt
  have e0 : (0 : Int) ≤ (s : Int) := by omega
  have hv1 := Lib.cell?_alloc_some (.cells #[.int .i64 (s : Int), .slice A l c] 97) hv0
  have hf1 : (w.alloc (.cells #[.int .i64 (s : Int), .slice A l c] 97)).frozen? ⟨gl, s, none⟩ = false := hD.secs.free s
  clear h hD hF hO
  go_enter Tryz.func57, Tryz.ntmps57
  go_wp2
  go_region
  all_goals
    go_end0
    exact ⟨rfl, HF.out, HO.out⟩

set_option maxHeartbeats 400000 in
theorem on1_kept (p1 p2 p3 mb mn g gl gi s k : Nat) (torn : Int) (S : Int → Bool) (A : Option Addr) (l c : Nat) (rv : Value) (b : List UInt8) (D : DS) (E : Nat → Prop) (w : World) (h : Dk w E g gl gi rv D) (hs : s < D.S.length) (hv : Sec w E (.slice A l c) b) (hb : b = [] ∨ b.length = 256)
    (hp1 : w.cell? ⟨p1, 0, none⟩ = some (.int .i64 torn)) (hp2 : w.cell? ⟨p2, 0, none⟩ = some (.pointer (some ⟨g, 0, none⟩))) (hp3 : w.cell? ⟨p3, 0, none⟩ = some (.map (some mb))) (hM : KMap w mb mn S) (hk : k < 1000000) (ht : (k : Int) ≠ torn) (hS : S k = true) :
    Calls Tryz.prog 57 #[.int .i64 (k : Int), .agg #[.int .i64 (s : Int), .slice A l c], .pointer (some ⟨p1, 0, none⟩), .pointer (some ⟨p2, 0, none⟩), .pointer (some ⟨p3, 0, none⟩)] w fun e w' => e = .returned (.tuple #[]) ∧ Dk w' E g gl gi rv (setD D s (some b)) ∧ Off (fun k => k = gl) w w' := by
  have hD := h.alloc (.cells #[.int .i64 (s : Int), .slice A l c] 97)
  have hF := (h.set_ s (.slice A l c) b hv hb).alloc (.cells #[.int .i64 (s : Int), .slice A l c] 97)
  have hO : Off (fun k => k = gl) w ((w.setCell ⟨gl, s, none⟩ (.slice A l c)).alloc (.cells #[.int .i64 (s : Int), .slice A l c] 97)) := (Off.setc _ _ _ _).trans (Off.alloc _ _ _)
  have hlk := KMap.look (hM.same (Below.heap_alloc w (.cells #[.int .i64 (s : Int), .slice A l c] 97) _ hM.lt)) (k : Int) (WalkArith.wf_i64 (by omega))
  rw [hS] at hlk
  have hplt := World.block_lt_of_cell? w _ hp1
  have hplt2 := World.block_lt_of_cell? w _ hp2
  have hplt3 := World.block_lt_of_cell? w _ hp3
  have hglt := h.head.lt
  have hllt := h.secs.lt
  have c0 : w.cell? ⟨g, 0, none⟩ = some (.slice (some ⟨gl, 0, none⟩) D.S.length D.S.length) := h.hd.c0
  obtain ⟨v0, hv0, _⟩ := h.secs.at_ (List.getElem?_eq_getElem hs)
  have hf0 := h.secs.free s
  have hn := h.ok.hi
  have HF := Lib.hid hF.drew
  have HO := Lib.hid (hO.trans (Off.drew _ _))
  have hgl : gl < (w.alloc (.cells #[.int .i64 (s : Int), .slice A l c] 97)).heap.size := hD.secs.lt
  have e0 : (0 : Int) ≤ (s : Int) := by omega
  have hv1 := Lib.cell?_alloc_some (.cells #[.int .i64 (s : Int), .slice A l c] 97) hv0
  have hf1 : (w.alloc (.cells #[.int .i64 (s : Int), .slice A l c] 97)).frozen? ⟨gl, s, none⟩ = false := hD.secs.free s
  have hd : ((k : Int) == torn) = false := by simpa using ht
  clear h hD hv hF hO hb hM ht hS
  go_enter Tryz.func57, Tryz.ntmps57
  go_wp2
  go_region
  all_goals
    go_end0
    exact ⟨rfl, HF.out, HO.out⟩

set_option maxHeartbeats 400000 in
theorem on1_lost (p1 p2 p3 mb mn g gl gi s k : Nat) (torn : Int) (S : Int → Bool) (A : Option Addr) (l c : Nat) (rv : Value) (D : DS) (E : Nat → Prop) (w : World) (h : Dk w E g gl gi rv D)
    (hp1 : w.cell? ⟨p1, 0, none⟩ = some (.int .i64 torn)) (hp2 : w.cell? ⟨p2, 0, none⟩ = some (.pointer (some ⟨g, 0, none⟩))) (hp3 : w.cell? ⟨p3, 0, none⟩ = some (.map (some mb))) (hM : KMap w mb mn S) (hk : k < 1000000) (ht : (k : Int) ≠ torn) (hS : S k = false) :
    Calls Tryz.prog 57 #[.int .i64 (k : Int), .agg #[.int .i64 (s : Int), .slice A l c], .pointer (some ⟨p1, 0, none⟩), .pointer (some ⟨p2, 0, none⟩), .pointer (some ⟨p3, 0, none⟩)] w fun e w' => e = .returned (.tuple #[]) ∧ Dk w' E g gl gi rv (setD D s none) ∧ Off (fun k => k = gl) w w' := by
  have HF := Lib.hid (h.alloc (.cells #[.int .i64 (s : Int), .slice A l c] 97))
  have HO : Hid (Off (fun k => k = gl) w (w.alloc (.cells #[.int .i64 (s : Int), .slice A l c] 97))) := Lib.hid (Off.alloc _ _ _)
  have hlk := KMap.look (hM.same (Below.heap_alloc w (.cells #[.int .i64 (s : Int), .slice A l c] 97) _ hM.lt)) (k : Int) (WalkArith.wf_i64 (by omega))
  rw [hS] at hlk
  have hplt := World.block_lt_of_cell? w _ hp1
  have hplt2 := World.block_lt_of_cell? w _ hp2
  have hplt3 := World.block_lt_of_cell? w _ hp3
  have hd : ((k : Int) == torn) = false := by simpa using ht
  clear h hM ht hS
  go_enter Tryz.func57, Tryz.ntmps57
  go_wp2
  go_end0
  exact ⟨rfl, HF.out, HO.out⟩

end Go.Proofs.YtolpgpphjnkehaaGreatDoor.Cac
/- settle, with what Barrier hands it. -/
namespace Go.Proofs.YtolpgpphjnkehaaGreatDoor.Cac
set_option maxRecDepth 20000
open Go.RowKit Dsk

/-- k of the pending writes settled. -/
def sett (f : Nat → List UInt8 → Option (List UInt8)) (D : DS) (k : Nat) : DS := { D with S := settleTo f D.P D.S k }
theorem sett_succ (f : Nat → List UInt8 → Option (List UInt8)) (D : DS) (k s : Nat) (b : List UInt8) (h : D.P[k]? = some (s, b)) : sett f D (k + 1) = setD (sett f D k) s (f k b) := by
  unfold sett setD
  simp only [settleTo, h]
  cases f k b <;> rfl

theorem Blk.fill {t : TypeId} {g : Nat} (z : Value) : ∀ (n o : Nat) (w : World) (cs : Array Value), Blk w g t cs →
    ∃ cs', Blk (w.setCells g o (List.replicate n z)) g t cs' ∧ cs'.size = cs.size ∧ (∀ j, o ≤ j → j < o + n → j < cs.size → cs'[j]? = some z) ∧ ∀ j, j < o → cs'[j]? = cs[j]?
  | 0, o, w, cs, h => ⟨cs, h, rfl, fun j h1 h2 => by omega, fun _ _ => rfl⟩
  | n + 1, o, w, cs, h => by
    obtain ⟨cs', h1, h2, h3, h4⟩ := Blk.fill z n (o + 1) (w.setCell ⟨g, o, none⟩ z) _ (h.set_ o z)
    refine ⟨cs', h1, by rw [h2]; simp, fun j a b c => ?_, fun j a => ?_⟩
    · by_cases e : j = o
      · subst e
        rw [h4 j (by omega)]
        simp [c]
      · exact h3 j (by omega) (by omega) (by simpa using c)
    · rw [h4 j (by omega), Array.getElem?_setIfInBounds_ne (by omega)]

theorem setCells_far (g : Nat) (k : Nat) (hk : k ≠ g) : ∀ (vs : List Value) (o : Nat) (w : World), (w.setCells g o vs).heap[k]? = w.heap[k]?
  | [], _, _ => rfl
  | v :: r, o, w => (setCells_far g k hk r (o + 1) (w.setCell ⟨g, o, none⟩ v)).trans (Below.heap_setCell _ _ _ _ hk)
theorem setCells_size (g : Nat) : ∀ (vs : List Value) (o : Nat) (w : World), (w.setCells g o vs).heap.size = w.heap.size
  | [], _, _ => rfl
  | v :: r, o, w => (setCells_size g r (o + 1) (w.setCell ⟨g, o, none⟩ v)).trans (by simp [World.setCell])
theorem setCells_off (g : Nat) : ∀ (vs : List Value) (o : Nat) (w : World), Off (fun k => k = g) w (w.setCells g o vs)
  | [], _, _ => Off.refl _ _
  | v :: r, o, w => (Off.setc w g o v).trans (setCells_off g r (o + 1) (w.setCell ⟨g, o, none⟩ v))

/-- Behind the loop: nothing is pending. -/
def clearD (D : DS) : DS := { D with P := [] }
theorem Dk.cleared {w : World} {E : Nat → Prop} {g gl gi : Nat} {rv : Value} {D : DS} (h : Dk w E g gl gi rv D) :
    Dk ((w.setCell ⟨g, 1, none⟩ (.slice none 0 0)).setCells gi 0 (List.replicate D.S.length (.int .i64 0))) E g gl gi (.slice none 0 0) (clearD D) := by
  obtain ⟨li, l1, l2, l3⟩ := h.last.blk
  have hE : ∀ k, E k → k ≠ g ∧ k ≠ gi := fun k hk => ⟨fun e => h.e1 (e ▸ hk), fun e => h.e3 (e ▸ hk)⟩
  have hsz : w.heap.size ≤ ((w.setCell ⟨g, 1, none⟩ (.slice none 0 0)).setCells gi 0 (List.replicate D.S.length (.int .i64 0))).heap.size := by rw [setCells_size]; simp [World.setCell]
  have far : ∀ k, k ≠ g → k ≠ gi → ((w.setCell ⟨g, 1, none⟩ (.slice none 0 0)).setCells gi 0 (List.replicate D.S.length (.int .i64 0))).heap[k]? = w.heap[k]? := fun k h1 h2 => (setCells_far gi k h2 _ _ _).trans (Below.heap_setCell _ _ _ _ h1)
  refine ⟨⟨h.ok.lo, h.ok.hi, h.ok.sec, (fun p hp => by cases hp), h.ok.armed⟩, ?_, h.secs.same hsz (fun k hk _ => far k (hE k hk).1 (hE k hk).2) (far gl h.n1.symm h.n3), Pend.nil _ _ _, ?_, h.e1, h.e2, h.e3, (fun k hk => by cases hk), h.n1, h.n2, h.n3⟩
  · have h1 := h.head.set_ 1 (.slice none 0 0)
    simp only [List.setIfInBounds_toArray, List.set_cons_succ, List.set_cons_zero] at h1
    exact h1.same (setCells_far gi g h.n2 _ _ _)
  · obtain ⟨cs', a, b, c, _⟩ := Blk.fill (.int .i64 0) D.S.length 0 _ li (l1.far (p := ⟨g, 1, none⟩) h.n2.symm (.slice none 0 0))
    exact ⟨cs', a, by rw [b, l2]; rfl, fun s hs => by rw [c s (Nat.zero_le _) (by rw [Nat.zero_add]; exact hs) (by rw [l2]; exact hs)]; rfl⟩

theorem run_clearI (w : World) (g n : Nat) (P : List (Nat × List UInt8)) (h : Lasts w g n P) (hn : 0 < n) (ty : TypeId) :
    (Builtin.clear_ #[33] ty #[.slice (some ⟨g, 0, none⟩) n n]).run Tryz.prog w = .ok (.tuple #[]) (w.setCells g 0 (List.replicate n (.int .i64 0))) :=
  Lib.run_clear_slice w 33 3 ty (.int .i64 0) Tryz.underlying33 (fun _ => by kernel_rfl) rfl rfl g 0 n n hn (fun j hj => by rw [Nat.zero_add, h.at_ hj]; rfl) (fun j _ => h.free _)

set_option maxHeartbeats 1000000 in
theorem settle_bar (p1 g gl gi : Nat) (rv : Value) (D : DS) (E : Nat → Prop) (w : World) (h : Dk w E g gl gi rv D) (hP : D.P.length < 1000000) (hp : w.cell? ⟨p1, 0, none⟩ = some (.pointer (some ⟨g, 0, none⟩))) (hpg : p1 ≠ gl) :
    Calls Tryz.prog 56 #[.pointer (some ⟨g, 0, none⟩), .func (.func 163) #[] #[.pointer (some ⟨p1, 0, none⟩)]] w fun e w' => e = .returned (.tuple #[]) ∧ Dk w' E g gl gi (.slice none 0 0) (clearD (sett (fun _ b => some b) D D.P.length)) ∧ Off (own4 g gl gi rv) w w' := by
  have HK := Lib.hid h
  obtain ⟨A, c, rfl, hle, hmx⟩ := h.pend.shape
  have c1 := h.hd.c1
  have hplt := World.block_lt_of_cell? w _ hp
  have HP := Lib.hid hP
  have HPC := Lib.hid hp
  obtain ⟨m, hm⟩ : ∃ m, D.P.length = m := ⟨_, rfl⟩
  rw [hm] at hP hle c1
  have HM := Lib.hid hm
  clear h hp hm
  go_enter Tryz.func56, Tryz.ntmps56
  go_wp2
  go_loopw [4, 5, 11] (fun u v i wr => ∃ k : Nat, k ≤ m ∧ i = .int .i64 (k : Int) ∧ Hid (Dk wr E g gl gi (.slice A m c) (sett (fun _ b => some b) D k)) ∧ Hid (Off (fun k => k = gl) w wr)) (fun _ _ i _ => m - (intOf i).toNat)
  case atStart => exact ⟨0, Nat.zero_le _, rfl, Lib.hid (by have := HK.out; rw [HM.out] at this; exact this), Lib.hid (Off.refl _ _)⟩
  case round =>
    obtain ⟨k, hk, rfl, hR, hO⟩ := hrel
    by_cases hlt : k < m
    · have hd : decide ((k : Int) < (m : Int)) = true := by simpa using hlt
      obtain ⟨⟨s, b⟩, hpk⟩ : ∃ p, D.P[k]? = some p := ⟨_, List.getElem?_eq_getElem (by rw [HM.out]; exact hlt)⟩
      obtain ⟨r, cc, v, er, hr, q1, q2, hsec⟩ := hR.out.pend.at_ (show (sett (fun _ b => some b) D k).P[k]? = _ from hpk)
      injection er with er1 er2 er3
      subst er1
      obtain ⟨Av, cv, rfl, hsec2⟩ := hsec
      obtain ⟨L, hL⟩ : ∃ L, b.length = L := ⟨_, rfl⟩
      have q3 : wr.cell? ⟨r, k * 2 + 1, none⟩ = some (.slice Av L cv) := by rw [← hL]; exact q2
      have HSEC : Hid (Sec wr E (.slice Av L cv) b) := Lib.hid ⟨Av, cv, by rw [hL], hsec2⟩
      have hrk : k * 2 + 1 < 3000000 := by omega
      have HPK := Lib.hid hpk
      clear q2 hsec2 hpk er2 er3 hL
      have hsD : s < (sett (fun _ b => some b) D k).S.length := (hR.out.ok.pend (s, b) (List.mem_of_getElem? (HPK.out))).1
      have hbD : b = [] ∨ b.length = 256 := .inr (hR.out.ok.pend (s, b) (List.mem_of_getElem? (HPK.out))).2
      have hwp : (wr.alloc (.cells #[.int .i64 (s : Int), .slice Av L cv] 97)).cell? ⟨p1, 0, none⟩ = some (.pointer (some ⟨g, 0, none⟩)) :=
        Lib.cell?_alloc_some _ ((World.cell?_of_block (a := ⟨p1, 0, none⟩) (hO.out.block p1 hplt hpg)).trans HPC.out)
      have H1 := Lib.hid (bar1 p1 g gl gi s k Av L cv _ b _ E _ (hR.out.alloc (.cells #[.int .i64 (s : Int), .slice Av L cv] 97)) hsD
        (HSEC.out.same (by simp) (fun _ _ hk => Below.heap_alloc _ _ _ hk)) hbD hwp)
      clear hwp hbD hsD
      go_wp2_with fail
      refine H1.out.mono ?_
      rintro e w2 ⟨rfl, hD2, hO2⟩
      have HD2 : Hid (Dk w2 E g gl gi (.slice (some ⟨r, 0, none⟩) m c) (sett (fun _ b => some b) D (k + 1))) := Lib.hid (by rw [sett_succ _ D k s b HPK.out]; exact hD2)
      have HO2 := Lib.hid ((hO.out.trans (Off.alloc _ _ _)).trans hO2)
      clear hD2 hO2 H1
      go_wp2_with fail
      go_roundw
      case rel => exact ⟨k + 1, by omega, by go_num, HD2, HO2⟩
      case measure => simp [intOf]; omega
    · obtain rfl : m = k := by omega
      have hd : decide ((m : Int) < (m : Int)) = false := by simp
      have hR2 := hR.out.cleared
      have hlo := hR.out.ok.lo
      have hhd := hR.out.hd
      have hcl := fun ty => run_clearI (wr.setCell ⟨g, 1, none⟩ (.slice none 0 0)) gi _ _ (hR.out.last.same (Below.heap_setCell wr ⟨g, 1, none⟩ _ gi hR.out.n2.symm)) (by omega) ty
      have k1 := hhd.c1
      have k2 := hhd.c2
      have kf := hhd.f 1
      have hoff : Off (own4 g gl gi (.slice A m c)) w ((wr.setCell ⟨g, 1, none⟩ (.slice none 0 0)).setCells gi 0 (List.replicate (sett (fun _ b => some b) D m).S.length (.int .i64 0))) :=
        ((hO.out.mono (G := own4 g gl gi (.slice A m c)) (fun k _ e => .inr (.inl e))).trans ((Off.setc wr g 1 _).mono fun k _ e => .inl e)).trans ((setCells_off gi _ _ _).mono fun k _ e => .inr (.inr (.inl e)))
      have HR2 := Lib.hid hR2
      have HOFF := Lib.hid hoff
      clear hR2 hlo hhd hoff hO hR
      generalize (sett (fun _ b => some b) D m).S.length = n at *
      go_wp2
      go_end0
      exact ⟨rfl, by rw [HM.out]; exact HR2.out, by rw [HM.out]; exact HOFF.out⟩

end Go.Proofs.YtolpgpphjnkehaaGreatDoor.Cac
/- settle, with what On hands it. -/
namespace Go.Proofs.YtolpgpphjnkehaaGreatDoor.Cac
set_option maxRecDepth 20000
open Go.RowKit Dsk

set_option maxHeartbeats 1000000 in
theorem settle_on (p1 p2 p3 mb mn g gl gi : Nat) (torn : Int) (S : Int → Bool) (rv : Value) (D : DS) (E : Nat → Prop) (w : World) (h : Dk w E g gl gi rv D) (hP : D.P.length < 1000000) (hp1 : w.cell? ⟨p1, 0, none⟩ = some (.int .i64 torn)) (hp2 : w.cell? ⟨p2, 0, none⟩ = some (.pointer (some ⟨g, 0, none⟩))) (hp3 : w.cell? ⟨p3, 0, none⟩ = some (.map (some mb))) (hM : KMap w mb mn S) (hpg : p1 ≠ gl ∧ p2 ≠ gl ∧ p3 ≠ gl ∧ mb ≠ gl) :
    Calls Tryz.prog 56 #[.pointer (some ⟨g, 0, none⟩), .func (.func 57) #[] #[.pointer (some ⟨p1, 0, none⟩), .pointer (some ⟨p2, 0, none⟩), .pointer (some ⟨p3, 0, none⟩)]] w fun e w' => e = .returned (.tuple #[]) ∧ Dk w' E g gl gi (.slice none 0 0) (clearD (sett (onF S torn) D D.P.length)) ∧ Off (own4 g gl gi rv) w w' := by
  have HK := Lib.hid h
  obtain ⟨A, c, rfl, hle, hmx⟩ := h.pend.shape
  have c1 := h.hd.c1
  have HP := Lib.hid hP
  have HPC := Lib.hid (And.intro hp1 (And.intro hp2 (And.intro hp3 hM)))
  obtain ⟨m, hm⟩ : ∃ m, D.P.length = m := ⟨_, rfl⟩
  rw [hm] at hP hle c1
  have HM := Lib.hid hm
  clear h hp1 hp2 hp3 hM hm
  go_enter Tryz.func56, Tryz.ntmps56
  go_wp2
  go_loopw [4, 5, 11] (fun u v i wr => ∃ k : Nat, k ≤ m ∧ i = .int .i64 (k : Int) ∧ Hid (Dk wr E g gl gi (.slice A m c) (sett (onF S torn) D k)) ∧ Hid (Off (fun k => k = gl) w wr)) (fun _ _ i _ => m - (intOf i).toNat)
  case atStart => exact ⟨0, Nat.zero_le _, rfl, Lib.hid (by have := HK.out; rw [HM.out] at this; exact this), Lib.hid (Off.refl _ _)⟩
  case round =>
    obtain ⟨k, hk, rfl, hR, hO⟩ := hrel
    by_cases hlt : k < m
    · have hd : decide ((k : Int) < (m : Int)) = true := by simpa using hlt
      obtain ⟨⟨s, b⟩, hpk⟩ : ∃ p, D.P[k]? = some p := ⟨_, List.getElem?_eq_getElem (by rw [HM.out]; exact hlt)⟩
      obtain ⟨r, cc, v, er, hr, q1, q2, hsec⟩ := hR.out.pend.at_ (show (sett (onF S torn) D k).P[k]? = _ from hpk)
      injection er with er1 er2 er3
      subst er1
      obtain ⟨Av, cv, rfl, hsec2⟩ := hsec
      obtain ⟨L, hL⟩ : ∃ L, b.length = L := ⟨_, rfl⟩
      have q3 : wr.cell? ⟨r, k * 2 + 1, none⟩ = some (.slice Av L cv) := by rw [← hL]; exact q2
      have HSEC : Hid (Sec wr E (.slice Av L cv) b) := Lib.hid ⟨Av, cv, by rw [hL], hsec2⟩
      have hrk : k * 2 + 1 < 3000000 := by omega
      have HPK := Lib.hid hpk
      clear q2 hsec2 hpk er2 er3 hL
      have hsD : s < (sett (onF S torn) D k).S.length := (hR.out.ok.pend (s, b) (List.mem_of_getElem? (HPK.out))).1
      have hbD : b = [] ∨ b.length = 256 := .inr (hR.out.ok.pend (s, b) (List.mem_of_getElem? (HPK.out))).2
      obtain ⟨hq1, hq2, hq3, hqM⟩ := HPC.out
      have keep : ∀ {p : Nat} {v : Value}, p ≠ gl → w.cell? ⟨p, 0, none⟩ = some v → (wr.alloc (.cells #[.int .i64 (s : Int), .slice Av L cv] 97)).cell? ⟨p, 0, none⟩ = some v := fun {p v} hne hc =>
        Lib.cell?_alloc_some _ ((World.cell?_of_block (a := ⟨p, 0, none⟩) (hO.out.block p (World.block_lt_of_cell? w _ hc) hne)).trans hc)
      have hM1 : KMap (wr.alloc (.cells #[.int .i64 (s : Int), .slice Av L cv] 97)) mb mn S := by
        have h1 := hqM.same (hO.out.block mb hqM.lt hpg.2.2.2)
        exact h1.same (Below.heap_alloc _ _ _ h1.lt)
      have H1 : Hid (Calls Tryz.prog 57 #[.int .i64 (k : Int), .agg #[.int .i64 (s : Int), .slice Av L cv], .pointer (some ⟨p1, 0, none⟩), .pointer (some ⟨p2, 0, none⟩), .pointer (some ⟨p3, 0, none⟩)] (wr.alloc (.cells #[.int .i64 (s : Int), .slice Av L cv] 97)) fun e w' => e = .returned (.tuple #[]) ∧ Dk w' E g gl gi (.slice (some ⟨r, 0, none⟩) m c) (setD (sett (onF S torn) D k) s (onF S torn k b)) ∧ Off (fun k => k = gl) (wr.alloc (.cells #[.int .i64 (s : Int), .slice Av L cv] 97)) w') := by
        have hDa := hR.out.alloc (.cells #[.int .i64 (s : Int), .slice Av L cv] 97)
        have hSa := HSEC.out.same (w' := wr.alloc (.cells #[.int .i64 (s : Int), .slice Av L cv] 97)) (by simp) (fun _ _ hk => Below.heap_alloc _ _ _ hk)
        by_cases ht : (k : Int) = torn
        · have e : onF S torn k b = some [] := by unfold onF; rw [if_pos ht]
          rw [e]
          exact Lib.hid (on1_torn p1 p2 p3 g gl gi s k Av L cv _ _ E _ hDa hsD (ht ▸ keep hpg.1 hq1) (keep hpg.2.1 hq2))
        · by_cases hS : S k = true
          · have e : onF S torn k b = some b := by unfold onF; rw [if_neg ht, if_pos hS]
            rw [e]
            exact Lib.hid (on1_kept p1 p2 p3 mb mn g gl gi s k torn S Av L cv _ b _ E _ hDa hsD hSa hbD (keep hpg.1 hq1) (keep hpg.2.1 hq2) (keep hpg.2.2.1 hq3) hM1 (by omega) ht hS)
          · have e : onF S torn k b = none := by unfold onF; rw [if_neg ht, if_neg hS]
            rw [e]
            exact Lib.hid (on1_lost p1 p2 p3 mb mn g gl gi s k torn S Av L cv _ _ E _ hDa (keep hpg.1 hq1) (keep hpg.2.1 hq2) (keep hpg.2.2.1 hq3) hM1 (by omega) ht (by simpa using hS))
      clear keep hq1 hq2 hq3 hqM hM1 hbD hsD
      go_wp2_with fail
      refine H1.out.mono ?_
      rintro e w2 ⟨rfl, hD2, hO2⟩
      have HD2 : Hid (Dk w2 E g gl gi (.slice (some ⟨r, 0, none⟩) m c) (sett (onF S torn) D (k + 1))) := Lib.hid (by rw [sett_succ _ D k s b HPK.out]; exact hD2)
      have HO2 := Lib.hid ((hO.out.trans (Off.alloc _ _ _)).trans hO2)
      clear hD2 hO2 H1
      go_wp2_with fail
      go_roundw
      case rel => exact ⟨k + 1, by omega, by go_num, HD2, HO2⟩
      case measure => simp [intOf]; omega
    · obtain rfl : m = k := by omega
      have hd : decide ((m : Int) < (m : Int)) = false := by simp
      have hR2 := hR.out.cleared
      have hlo := hR.out.ok.lo
      have hhd := hR.out.hd
      have hcl := fun ty => run_clearI (wr.setCell ⟨g, 1, none⟩ (.slice none 0 0)) gi _ _ (hR.out.last.same (Below.heap_setCell wr ⟨g, 1, none⟩ _ gi hR.out.n2.symm)) (by omega) ty
      have k1 := hhd.c1
      have k2 := hhd.c2
      have kf := hhd.f 1
      have hoff : Off (own4 g gl gi (.slice A m c)) w ((wr.setCell ⟨g, 1, none⟩ (.slice none 0 0)).setCells gi 0 (List.replicate (sett (onF S torn) D m).S.length (.int .i64 0))) :=
        ((hO.out.mono (G := own4 g gl gi (.slice A m c)) (fun k _ e => .inr (.inl e))).trans ((Off.setc wr g 1 _).mono fun k _ e => .inl e)).trans ((setCells_off gi _ _ _).mono fun k _ e => .inr (.inr (.inl e)))
      have HR2 := Lib.hid hR2
      have HOFF := Lib.hid hoff
      clear hR2 hlo hhd hoff hO hR
      generalize (sett (onF S torn) D m).S.length = n at *
      go_wp2
      go_end0
      exact ⟨rfl, by rw [HM.out]; exact HR2.out, by rw [HM.out]; exact HOFF.out⟩

end Go.Proofs.YtolpgpphjnkehaaGreatDoor.Cac
/- Barrier and On. -/
namespace Go.Proofs.YtolpgpphjnkehaaGreatDoor.Cac
set_option maxRecDepth 20000
open Go.RowKit Dsk

set_option maxHeartbeats 400000 in
theorem barrier_nil (w : World) : Calls Tryz.prog 105 #[.pointer none] w fun e w' => e = .returned (.int .i64 2) ∧ Below w.heap.size w w' := by
  have HB := Lib.hid ((Below.refl w.heap.size w).alloc (Nat.le_refl _) (.cells #[.pointer none] 25))
  go_enter Tryz.func105, Tryz.ntmps105
  go_wp2_with (go_at_call 55; refine (refuses_nil _ _).mono ?_; rintro e w' ⟨rfl, rfl⟩)
  go_ret
  exact ⟨rfl, HB.out⟩

def barE (D : DS) : Int := if D.dead then 4 else stepE D
def barD (D : DS) : DS := if D.dead then D else if (stepD D).dead then stepD D else clearD (sett (fun _ b => some b) (stepD D) D.P.length)

set_option maxHeartbeats 400000 in
theorem barrier_dead (g n armed steps : Nat) (A : Option Addr) (rv lv : Value) (w : World) (h : Head w g A n rv lv true armed steps) :
    Calls Tryz.prog 105 #[.pointer (some ⟨g, 0, none⟩)] w fun e w' => e = .returned (.int .i64 4) ∧ Below w.heap.size w w' := by
  have HB := Lib.hid ((Below.refl w.heap.size w).alloc (Nat.le_refl _) (.cells #[.pointer (some ⟨g, 0, none⟩)] 25))
  have hg := World.block_lt_of_cell? w _ h.c0
  have ha : ∀ i, (w.alloc (.cells #[.pointer (some ⟨g, 0, none⟩)] 25)).cell? ⟨g, i, none⟩ = w.cell? ⟨g, i, none⟩ := fun i => World.cell?_of_block (a := ⟨g, i, none⟩) (Below.heap_alloc _ _ _ hg)
  have hf : ∀ i, (w.alloc (.cells #[.pointer (some ⟨g, 0, none⟩)] 25)).frozen? ⟨g, i, none⟩ = w.frozen? ⟨g, i, none⟩ := fun i => World.frozen?_of_block (a := ⟨g, i, none⟩) (Below.heap_alloc _ _ _ hg)
  have H := Lib.hid (refuses_hd g n armed steps A rv lv true 0 (w.alloc (.cells #[.pointer (some ⟨g, 0, none⟩)] 25))
    ⟨(ha 0).trans h.c0, (ha 1).trans h.c1, (ha 2).trans h.c2, (ha 3).trans h.c3, (ha 4).trans h.c4, (ha 5).trans h.c5, fun i => (hf i).trans (h.f i)⟩)
  clear h ha hf
  go_enter Tryz.func105, Tryz.ntmps105
  go_wp2_with (go_at_call 55; refine H.out.mono ?_; rintro e w' ⟨rfl, rfl⟩)
  go_ret
  exact ⟨rfl, HB.out⟩

set_option maxHeartbeats 1000000 in
theorem barrier_on (g gl gi : Nat) (rv : Value) (D : DS) (E : Nat → Prop) (w : World) (h : Dk w E g gl gi rv D) (hd : D.dead = false) (hP : D.P.length < 1000000) (hS : D.steps < 1000000000) :
    Calls Tryz.prog 105 #[.pointer (some ⟨g, 0, none⟩)] w fun e w' => e = .returned (.int .i64 (barE D)) ∧ (∃ rv', Dk w' E g gl gi rv' (barD D) ∧ (rv' = rv ∨ rv' = .slice none 0 0)) ∧ Off (own4 g gl gi rv) w w' := by
  have ha := h.alloc (.cells #[.pointer (some ⟨g, 0, none⟩)] 25)
  have HK := Lib.hid h
  have HA := Lib.hid ha
  have H1 := Lib.hid (refuses_hd g _ _ _ _ _ _ _ 0 _ ha.hd)
  have e0 : refuse D.dead D.S.length 0 = 0 := by have := h.ok.lo; rw [hd]; unfold refuse; rw [if_neg (by decide), if_neg (by omega)]
  rw [e0] at H1
  have H2 := Lib.hid (step_hd g _ _ _ _ _ _ _ _ ha.hd hS ha.ok.armed)
  have hb := Blk.new w 25 #[.pointer (some ⟨g, 0, none⟩)]
  have hg := h.head.lt
  have hgl := h.secs.lt
  have c1 : w.cell? ⟨g, 1, none⟩ = some rv := h.hd.c1
  have hO : Off (own4 g gl gi rv) w (stepW (w.alloc (.cells #[.pointer (some ⟨g, 0, none⟩)] 25)) g D.armed D.steps) := (Off.alloc _ _ _).trans ((stepW_off _ _ _ _).mono fun k _ e => .inl e)
  have HO := Lib.hid hO
  have hs := Lib.hid ha.step_
  have hblk : Blk (stepW (w.alloc (.cells #[.pointer (some ⟨g, 0, none⟩)] 25)) g D.armed D.steps) w.heap.size 25 #[.pointer (some ⟨g, 0, none⟩)] := hb.off (stepW_off _ _ _ _) (by omega)
  have HD := Lib.hid hd
  have hc := hblk.cell 0
  have e1 : stepEv D.dead D.armed = stepE D := rfl
  rw [e1] at H2
  simp only [List.getElem?_toArray, List.getElem?_cons_zero] at hc
  clear ha h e0 hb hO hd hblk e1
  generalize hw1 : stepW (w.alloc (.cells #[.pointer (some ⟨g, 0, none⟩)] 25)) g D.armed D.steps = w1 at *
  by_cases hq : (stepD D).dead = true
  · have e1 : stepE D = 4 := by unfold stepE; rw [hq]; rfl
    have e2 : barE D = 4 := by unfold barE; rw [HD.out, e1]; rfl
    have e3 : barD D = stepD D := by unfold barD; rw [HD.out, hq]; rfl
    rw [e1] at H2
    rw [e2, e3]
    clear e1 e2 e3 hc
    go_enter Tryz.func105, Tryz.ntmps105
    go_wp2_with fail
    refine H1.out.mono ?_
    rintro e w' ⟨rfl, rfl⟩
    go_wp2_with fail
    refine H2.out.mono ?_
    rintro e w' ⟨rfl, rfl⟩
    go_wp2_with fail
    go_ret
    exact ⟨rfl, ⟨_, hs.out, .inl rfl⟩, HO.out⟩
  · have hq' : (stepD D).dead = false := by simpa using hq
    have e1 : stepE D = 0 := by unfold stepE; rw [hq']; rfl
    have e2 : barE D = 0 := by unfold barE; rw [HD.out, e1]; rfl
    have e3 : barD D = clearD (sett (fun _ b => some b) (stepD D) D.P.length) := by unfold barD; rw [HD.out, hq']; rfl
    rw [e1] at H2
    rw [e2, e3]
    have H3 := Lib.hid (settle_bar w.heap.size g gl gi rv (stepD D) E w1 hs.out hP hc (by omega))
    clear e1 e2 e3 hq hq'
    go_enter Tryz.func105, Tryz.ntmps105
    go_wp2_with fail
    refine H1.out.mono ?_
    rintro e w' ⟨rfl, rfl⟩
    go_wp2_with fail
    refine H2.out.mono ?_
    rintro e w' ⟨rfl, rfl⟩
    go_wp2_with fail
    refine H3.out.mono ?_
    rintro e w2 ⟨rfl, hD2, hO2⟩
    have HD2 := Lib.hid hD2
    have HO2 := Lib.hid (HO.out.trans hO2)
    clear hD2 hO2
    go_wp2_with fail
    go_ret
    exact ⟨rfl, ⟨_, HD2.out, .inr rfl⟩, HO2.out⟩

theorem Disk.barrier_ (g : Nat) (F : Nat → Prop) (D : DS) (w : World) (h : Disk w F g D) (hP : D.P.length < 1000000) (hS : D.steps < 1000000000) :
    Calls Tryz.prog 105 #[.pointer (some ⟨g, 0, none⟩)] w fun e w' => e = .returned (.int .i64 (barE D)) ∧ Disk w' F g (barD D) ∧ Off F w w' := by
  have hD := h
  obtain ⟨E, gl, gi, rv, hk, h1, h2, h3⟩ := h
  by_cases hd : D.dead = true
  · have e1 : barE D = 4 := by unfold barE; rw [hd]; rfl
    have e2 : barD D = D := by unfold barD; rw [hd]; rfl
    rw [e1, e2]
    refine (barrier_dead g _ _ _ _ _ _ w (hd ▸ hk.hd)).mono ?_
    rintro e w' ⟨rfl, hb⟩
    exact ⟨rfl, hD.below hb, Off.of_new hb _⟩
  · refine (barrier_on g gl gi rv D E w hk (by simpa using hd) hP hS).mono ?_
    rintro e w' ⟨rfl, ⟨rv', hk', hr⟩, ho⟩
    refine ⟨rfl, ⟨E, gl, gi, rv', hk', h1, fun k hk2 => ?_, fun k hk2 => Nat.lt_of_lt_of_le (h3 k hk2) ho.size⟩, ho.mono fun k _ => h2 k⟩
    rcases hr with rfl | rfl
    · exact h2 k hk2
    · rcases hk2 with rfl | rfl | rfl | hk2
      · exact h2 _ (.inl rfl)
      · exact h2 _ (.inr (.inl rfl))
      · exact h2 _ (.inr (.inr (.inl rfl)))
      · cases hk2

end Go.Proofs.YtolpgpphjnkehaaGreatDoor.Cac
/- On. -/
namespace Go.Proofs.YtolpgpphjnkehaaGreatDoor.Cac
set_option maxRecDepth 20000
open Go.RowKit Dsk

/-- A slice of integers. -/
def Ints (w : World) (A : Option Addr) (zs : List Int) : Prop :=
  ∀ (k : Nat) (z : Int), zs[k]? = some z → ∃ b off, A = some ⟨b, off, none⟩ ∧ b < w.heap.size ∧ w.cell? ⟨b, off + k, none⟩ = some (.int .i64 z) ∧ (-9223372036854775808 ≤ z ∧ z < 9223372036854775808)
theorem Ints.nil (w : World) (A : Option Addr) : Ints w A [] := fun k z h => by simp at h
theorem Ints.below {w w' : World} {A : Option Addr} {zs : List Int} (h : Ints w A zs) (hb : Below w.heap.size w w') : Ints w' A zs := fun k z hk => by
  obtain ⟨b, off, e, hlt, h1, h2⟩ := h k z hk
  exact ⟨b, off, e, Nat.lt_of_lt_of_le hlt hb.size, (hb.cell (p := ⟨b, off + k, none⟩) hlt).trans h1, h2⟩
theorem Ints.off {w w' : World} {F : Nat → Prop} {A : Option Addr} {zs : List Int} (h : Ints w A zs) (ho : Off F w w') (hF : ∀ p : Addr, A = some p → zs ≠ [] → ¬ F p.block) : Ints w' A zs := fun k z hk => by
  obtain ⟨b, off, e, hlt, h1, h2⟩ := h k z hk
  exact ⟨b, off, e, Nat.lt_of_lt_of_le hlt ho.size, (World.cell?_of_block (a := ⟨b, off + k, none⟩) (ho.block b hlt (hF ⟨b, off, none⟩ e (fun h => by rw [h] at hk; cases hk)))).trans h1, h2⟩

theorem on_nil (K : Option Addr) (kl kc : Nat) (torn : Int) (w : World) : Calls Tryz.prog 18 #[.pointer none, .slice K kl kc, .int .i64 torn] w fun e w' => e = .returned (.int .i64 2) ∧ Below w.heap.size w w' := by
  have HB := Lib.hid (((Below.refl w.heap.size w).alloc (Nat.le_refl _) (.cells #[.pointer none] 25)).alloc (by simp) (.cells #[.int .i64 torn] 3))
  go_enter Tryz.func18, Tryz.ntmps18
  go_wp2
  go_ret
  exact ⟨rfl, HB.out⟩

theorem on_state (g : Nat) (K : Option Addr) (kl kc : Nat) (torn : Int) (w : World) (h3 : w.cell? ⟨g, 3, none⟩ = some (.bool false)) :
    Calls Tryz.prog 18 #[.pointer (some ⟨g, 0, none⟩), .slice K kl kc, .int .i64 torn] w fun e w' => e = .returned (.int .i64 3) ∧ Below w.heap.size w w' := by
  have HB := Lib.hid (((Below.refl w.heap.size w).alloc (Nat.le_refl _) (.cells #[.pointer (some ⟨g, 0, none⟩)] 25)).alloc (by simp) (.cells #[.int .i64 torn] 3))
  have hg := World.block_lt_of_cell? w _ h3
  go_enter Tryz.func18, Tryz.ntmps18
  go_wp2
  go_ret
  exact ⟨rfl, HB.out⟩

/-- The power is on again. -/
def upD (D : DS) : DS := { D with dead := false, armed := 0 }
theorem Dk.up {w : World} {E : Nat → Prop} {g gl gi : Nat} {rv : Value} {D : DS} (h : Dk w E g gl gi rv D) : Dk ((w.setCell ⟨g, 3, none⟩ (.bool false)).setCell ⟨g, 4, none⟩ (.int .i64 0)) E g gl gi rv (upD D) := by
  refine h.turned (by simp [World.setCell]) (fun k _ hne => (Below.heap_setCell _ _ _ _ hne).trans (Below.heap_setCell _ _ _ _ hne)) rfl rfl ⟨h.ok.lo, h.ok.hi, h.ok.sec, h.ok.pend, by show 0 < _; decide⟩ ?_
  have h2 := (h.head.set_ 3 (.bool false)).set_ 4 (.int .i64 0)
  simp only [List.setIfInBounds_toArray, List.set_cons_succ, List.set_cons_zero] at h2
  exact h2
theorem Dk.up' {w : World} {E : Nat → Prop} {g gl gi : Nat} {rv : Value} {D : DS} (h : Dk w E g gl gi rv D) : Dk ((w.setCell ⟨g, 4, none⟩ (.int .i64 0)).setCell ⟨g, 3, none⟩ (.bool false)) E g gl gi rv (upD D) := by
  refine h.turned (by simp [World.setCell]) (fun k _ hne => (Below.heap_setCell _ _ _ _ hne).trans (Below.heap_setCell _ _ _ _ hne)) rfl rfl ⟨h.ok.lo, h.ok.hi, h.ok.sec, h.ok.pend, by show 0 < _; decide⟩ ?_
  have h2 := (h.head.set_ 4 (.int .i64 0)).set_ 3 (.bool false)
  simp only [List.setIfInBounds_toArray, List.set_cons_succ, List.set_cons_zero] at h2
  exact h2

def has (ks : List Int) (i : Int) : Bool := ks.any fun k => i == k
theorem has_snoc (ks : List Int) (z i : Int) : (i == z || has ks i) = has (ks ++ [z]) i := by
  unfold has
  rw [List.any_append, Bool.or_comm]
  simp
def onD (D : DS) (ks : List Int) (torn : Int) : DS := if D.dead then upD (clearD (sett (onF (has ks) torn) D D.P.length)) else D
def onE (D : DS) : Int := if D.dead then 0 else 3

/-- Between the rounds of On. -/
structure OnR (w : World) (g : Nat) (torn : Int) (ks : List Int) (k : Nat) (wr : World) : Prop where
  map : KMap wr (w.heap.size + 2) k (has (ks.take k))
  p2 : wr.cell? ⟨w.heap.size, 0, none⟩ = some (.pointer (some ⟨g, 0, none⟩))
  p1 : wr.cell? ⟨w.heap.size + 1, 0, none⟩ = some (.int .i64 torn)
  p3 : wr.cell? ⟨w.heap.size + 3, 0, none⟩ = some (.map (some (w.heap.size + 2)))
  bel : Below w.heap.size w wr
theorem OnR.start (w : World) (g : Nat) (torn : Int) (ks : List Int) : OnR w g torn ks 0 ((((w.alloc (.cells #[.pointer (some ⟨g, 0, none⟩)] 25)).alloc (.cells #[.int .i64 torn] 3)).alloc (.map #[] 0)).alloc (.cells #[.map (some (w.heap.size + 2))] 94)) := by
  have h1 := Blk.new w 25 #[.pointer (some ⟨g, 0, none⟩)]
  have h2 := Blk.new (w.alloc (.cells #[.pointer (some ⟨g, 0, none⟩)] 25)) 3 #[.int .i64 torn]
  have h3 := KMap.made ((w.alloc (.cells #[.pointer (some ⟨g, 0, none⟩)] 25)).alloc (.cells #[.int .i64 torn] 3))
  have h4 := Blk.new (((w.alloc (.cells #[.pointer (some ⟨g, 0, none⟩)] 25)).alloc (.cells #[.int .i64 torn] 3)).alloc (.map #[] 0)) 94 #[.map (some (w.heap.size + 2))]
  simp only [World.size_alloc] at h2 h3 h4
  refine ⟨?_, (((h1.alloc _).alloc _).alloc _).cell 0, ((h2.alloc _).alloc _).cell 0, h4.cell 0, ((((Below.refl _ w).alloc (Nat.le_refl _) _).alloc (by simp) _).alloc (by simp; omega) _).alloc (by simp; omega) _⟩
  have h5 := h3.same (Below.heap_alloc _ (.cells #[.map (some (w.heap.size + 2))] 94) _ h3.lt)
  exact h5
theorem OnR.step {w wr w' : World} {g : Nat} {torn : Int} {ks : List Int} {k : Nat} (h : OnR w g torn ks k wr) {z : Int} (hz : ks[k]? = some z) (hM : KMap w' (w.heap.size + 2) (k + 1) (fun j => j == z || has (ks.take k) j)) (ho : Off (fun j => j = w.heap.size + 2) wr w') : OnR w g torn ks (k + 1) w' := by
  have e : ks.take (k + 1) = ks.take k ++ [z] := by
    obtain ⟨hk, e⟩ := List.getElem?_eq_some_iff.1 hz
    rw [List.take_succ_eq_append_getElem hk, e]
  have keep : ∀ {p : Nat} {v : Value}, p ≠ w.heap.size + 2 → wr.cell? ⟨p, 0, none⟩ = some v → w'.cell? ⟨p, 0, none⟩ = some v := fun {p v} hne hc => (World.cell?_of_block (a := ⟨p, 0, none⟩) (ho.block p (World.block_lt_of_cell? wr _ hc) hne)).trans hc
  refine ⟨?_, keep (by omega) h.p2, keep (by omega) h.p1, keep (by omega) h.p3, h.bel.trans (ho.below h.bel.size fun j hj => by rw [show j = w.heap.size + 2 from hj]; omega)⟩
  rw [e]
  have e2 : (fun j => j == z || has (ks.take k) j) = has (ks.take k ++ [z]) := funext fun j => has_snoc _ _ _
  rw [← e2]
  exact hM

set_option maxHeartbeats 1000000 in
theorem on_dead (g gl gi kl kc : Nat) (K : Option Addr) (ks : List Int) (torn : Int) (rv : Value) (D : DS) (E : Nat → Prop) (w : World) (h : Dk w E g gl gi rv D) (hd : D.dead = true) (hP : D.P.length < 1000000) (hK : Ints w K ks) (hkl : ks.length = kl) (hk9 : kl < 1000000) :
    Calls Tryz.prog 18 #[.pointer (some ⟨g, 0, none⟩), .slice K kl kc, .int .i64 torn] w fun e w' => e = .returned (.int .i64 0) ∧ Dk w' E g gl gi (.slice none 0 0) (upD (clearD (sett (onF (has ks) torn) D D.P.length))) ∧ Off (own4 g gl gi rv) w w' := by
  have c3 : w.cell? ⟨g, 3, none⟩ = some (.bool true) := by have := h.hd.c3; rw [hd] at this; exact this
  have hg := h.head.lt
  have HK := Lib.hid h
  have HI := Lib.hid hK
  have HL := Lib.hid hkl
  have HP := Lib.hid hP
  have hmm := @run_makeMap Tryz.prog
  clear h hd hP hK hkl
  go_enter Tryz.func18, Tryz.ntmps18
  go_wp2
  have HST := Lib.hid (OnR.start w g torn ks)
  go_loopw [9, 20] (fun u i wr => ∃ k : Nat, k ≤ kl ∧ i = .int .i64 (k : Int) ∧ Hid (OnR w g torn ks k wr)) (fun _ i _ => kl - (intOf i).toNat)
  case atStart => exact ⟨0, Nat.zero_le _, rfl, HST⟩
  case round =>
    obtain ⟨k, hk, rfl, hR⟩ := hrel
    clear HST
    by_cases hlt : k < kl
    · have hd : decide ((k : Int) < (kl : Int)) = true := by simpa using hlt
      obtain ⟨z, hz⟩ : ∃ z, ks[k]? = some z := ⟨_, List.getElem?_eq_getElem (by rw [HL.out]; exact hlt)⟩
      obtain ⟨b, off, rfl, hb, hcz, hwf⟩ := HI.out k z hz
      have hcz' : wr.cell? ⟨b, off + k, none⟩ = some (.int .i64 z) := (hR.out.bel.cell (p := ⟨b, off + k, none⟩) hb).trans hcz
      have hp3 : wr.cell? ⟨w.heap.size + 1 + 1 + 1, 0, none⟩ = some (.map (some (w.heap.size + 1 + 1))) := hR.out.p3
      obtain ⟨w2, hput, hM2, hO2⟩ := hR.out.map.put z (WalkArith.wf_i64 (by omega)) (by omega)
      have HR2 := Lib.hid (hR.out.step hz hM2 hO2)
      clear hcz hz hM2 hO2
      go_wp2
      go_roundw
      case rel => exact ⟨k + 1, by omega, by go_num, HR2⟩
      case measure => simp [intOf]; omega
    · obtain rfl : kl = k := by omega
      have hd : decide ((kl : Int) < (kl : Int)) = false := by simp
      have ht : ks.take kl = ks := by rw [List.take_of_length_le (by rw [HL.out]; exact Nat.le_refl _)]
      have hM := hR.out.map
      rw [ht] at hM
      have hDk : Dk wr E g gl gi rv D := HK.out.same hR.out.bel.size (fun j hj _ => hR.out.bel.block j hj)
      have hgl := HK.out.secs.lt
      have p1 : wr.cell? ⟨w.heap.size + 1, 0, none⟩ = some (.int .i64 torn) := hR.out.p1
      have p2 := hR.out.p2
      have p3 : wr.cell? ⟨w.heap.size + 1 + 1 + 1, 0, none⟩ = some (.map (some (w.heap.size + 1 + 1))) := hR.out.p3
      have H1 := Lib.hid (settle_on (w.heap.size + 1) w.heap.size (w.heap.size + 1 + 1 + 1) (w.heap.size + 1 + 1) kl g gl gi torn (has ks) rv D E wr hDk HP.out p1 p2 p3 hM (by omega))
      have HB := Lib.hid hR.out.bel
      clear hM ht hDk p1 p3 hR
      go_wp2_with fail
      refine H1.out.mono ?_
      rintro e w2 ⟨rfl, hD2, hO2⟩
      have q2 : w2.cell? ⟨w.heap.size, 0, none⟩ = some (.pointer (some ⟨g, 0, none⟩)) :=
        (World.cell?_of_block (a := ⟨w.heap.size, 0, none⟩) (hO2.block w.heap.size (World.block_lt_of_cell? wr _ p2) (fun e => by have := (HK.out.own_lt _ e).1; omega))).trans p2
      have c3 := hD2.hd.c3
      have c4 := hD2.hd.c4
      have f3 := hD2.hd.f 3
      have f4 := hD2.hd.f 4
      have HU := Lib.hid hD2.up
      have HU' := Lib.hid hD2.up'
      have HO2 := Lib.hid ((Off.of_below (F := own4 g gl gi rv) HB.out (fun k h1 h2 => by omega)).trans hO2)
      clear hD2 hO2 H1 p2
      go_wp2_with fail
      go_region
      all_goals
        go_wp2
        go_ret
        first
          | exact ⟨rfl, HU.out.drew, (HO2.out.trans ((Off.setc _ g 3 _).mono fun k _ e => .inl e)).trans (((Off.setc _ g 4 _).mono fun k _ e => .inl e).trans (Off.drew _ _))⟩
          | exact ⟨rfl, HU'.out.drew, (HO2.out.trans ((Off.setc _ g 4 _).mono fun k _ e => .inl e)).trans (((Off.setc _ g 3 _).mono fun k _ e => .inl e).trans (Off.drew _ _))⟩

theorem Disk.on_ (g kl kc : Nat) (K : Option Addr) (ks : List Int) (torn : Int) (F : Nat → Prop) (D : DS) (w : World) (h : Disk w F g D) (hP : D.P.length < 1000000) (hK : Ints w K ks) (hkl : ks.length = kl) (hk9 : kl < 1000000) :
    Calls Tryz.prog 18 #[.pointer (some ⟨g, 0, none⟩), .slice K kl kc, .int .i64 torn] w fun e w' => e = .returned (.int .i64 (onE D)) ∧ Disk w' F g (onD D ks torn) ∧ Off F w w' := by
  have hD := h
  obtain ⟨E, gl, gi, rv, hk, h1, h2, h3⟩ := h
  unfold onE onD
  by_cases hd : D.dead = true
  · rw [if_pos hd, if_pos hd]
    refine (on_dead g gl gi kl kc K ks torn rv D E w hk hd hP hK hkl hk9).mono ?_
    rintro e w' ⟨rfl, hk', ho⟩
    refine ⟨rfl, ⟨E, gl, gi, _, hk', h1, fun k hk2 => ?_, fun k hk2 => Nat.lt_of_lt_of_le (h3 k hk2) ho.size⟩, ho.mono fun k _ => h2 k⟩
    rcases hk2 with rfl | rfl | rfl | hk2
    · exact h2 _ (.inl rfl)
    · exact h2 _ (.inr (.inl rfl))
    · exact h2 _ (.inr (.inr (.inl rfl)))
    · cases hk2
  · rw [if_neg hd, if_neg hd]
    have c3 := hk.hd.c3
    rw [show D.dead = false by simpa using hd] at c3
    refine (on_state g K kl kc torn w c3).mono ?_
    rintro e w' ⟨rfl, hb⟩
    exact ⟨rfl, hD.below hb, Off.of_new hb _⟩

end Go.Proofs.YtolpgpphjnkehaaGreatDoor.Cac
/- One disk, of this call's own; the anchor. -/
namespace Go.Proofs.YtolpgpphjnkehaaGreatDoor.Cac
set_option maxRecDepth 20000
open Go.RowKit Dsk

theorem Disk.sectors_ (g : Nat) (F : Nat → Prop) (D : DS) (w : World) (h : Disk w F g D) : Calls Tryz.prog 112 #[.pointer (some ⟨g, 0, none⟩)] w fun e w' => e = .returned (.int .i64 (D.S.length : Int)) ∧ w = w' := by
  obtain ⟨E, gl, gi, rv, hk, _⟩ := h
  exact sectors_hd g _ _ _ _ _ _ _ w hk.hd
theorem Disk.dead_ (g : Nat) (F : Nat → Prop) (D : DS) (w : World) (h : Disk w F g D) : Calls Tryz.prog 60 #[.pointer (some ⟨g, 0, none⟩)] w fun e w' => e = .returned (.bool D.dead) ∧ w = w' := by
  obtain ⟨E, gl, gi, rv, hk, _⟩ := h
  exact dead_hd g _ _ _ _ _ _ _ w hk.hd
/-- A disk that this call has made, all of it behind w0, and apart from X. -/
structure Run (w0 w : World) (X : Nat → Prop) (g : Nat) (D : DS) : Prop where
  own : ∃ F, Disk w F g D ∧ ∀ k, F k → w0.heap.size ≤ k ∧ ¬ X k
  lt : ∀ k, X k → k < w.heap.size
  bel : Below w0.heap.size w0 w
/-- The blocks of X are as they were. -/
structure Keep (X : Nat → Prop) (w w' : World) : Prop where
  size : w.heap.size ≤ w'.heap.size
  at_ : ∀ k, X k → w'.heap[k]? = w.heap[k]?
theorem Keep.of_below {X : Nat → Prop} {w w' : World} (h : Below w.heap.size w w') (hX : ∀ k, X k → k < w.heap.size) : Keep X w w' := ⟨h.size, fun k hk => h.block k (hX k hk)⟩
theorem Keep.trans {X : Nat → Prop} {w w1 w2 : World} (h : Keep X w w1) (k : Keep X w1 w2) : Keep X w w2 := ⟨Nat.le_trans h.size k.size, fun j hj => (k.at_ j hj).trans (h.at_ j hj)⟩
theorem Keep.less {X Y : Nat → Prop} {w w1 : World} (h : Keep X w w1) (hY : ∀ k, Y k → X k) : Keep Y w w1 := ⟨h.size, fun j hj => h.at_ j (hY j hj)⟩
theorem Run.size {w0 w : World} {X : Nat → Prop} {g : Nat} {D : DS} (h : Run w0 w X g D) : w0.heap.size ≤ w.heap.size := h.bel.size
theorem Run.below {w0 w w' : World} {X : Nat → Prop} {g : Nat} {D : DS} (h : Run w0 w X g D) (hb : Below w.heap.size w w') : Run w0 w' X g D := by
  obtain ⟨⟨F, h1, h2⟩, h3, h4⟩ := h
  exact ⟨⟨F, h1.below hb, h2⟩, fun k hk => Nat.lt_of_lt_of_le (h3 k hk) hb.size, h4.trans (hb.mono h4.size)⟩
/-- What has been made since is set apart, too. -/
theorem Run.add {w0 w w' : World} {X : Nat → Prop} {g : Nat} {D : DS} (h : Run w0 w X g D) (hb : Below w.heap.size w w') (Y : Nat → Prop) (hY : ∀ k, Y k → X k ∨ (w.heap.size ≤ k ∧ k < w'.heap.size)) : Run w0 w' Y g D := by
  obtain ⟨⟨F, h1, h2⟩, h3, h4⟩ := h
  refine ⟨⟨F, h1.below hb, fun k hk => ⟨(h2 k hk).1, fun hy => ?_⟩⟩, fun k hk => ?_, h4.trans (hb.mono h4.size)⟩
  · rcases hY k hy with hx | hx
    · exact (h2 k hk).2 hx
    · have := h1.lt k hk; omega
  · rcases hY k hk with hx | hx
    · exact Nat.lt_of_lt_of_le (h3 k hx) hb.size
    · exact hx.2
/-- What is apart may be turned. -/
theorem Run.turn {w0 w w' : World} {X G : Nat → Prop} {g : Nat} {D : DS} (h : Run w0 w X g D) (ho : Off G w w') (hX : ∀ k, G k → X k ∧ w0.heap.size ≤ k) (Y : Nat → Prop) (hY : ∀ k, Y k → X k ∨ (w.heap.size ≤ k ∧ k < w'.heap.size)) : Run w0 w' Y g D := by
  obtain ⟨⟨F, h1, h2⟩, h3, h4⟩ := h
  refine ⟨⟨F, h1.off ho fun k hk hg => (h2 k hk).2 (hX k hg).1, fun k hk => ⟨(h2 k hk).1, fun hy => ?_⟩⟩, fun k hk => ?_, h4.trans (ho.below h4.size fun k hg => (hX k hg).2)⟩
  · rcases hY k hy with hx | hx
    · exact (h2 k hk).2 hx
    · have := h1.lt k hk; omega
  · rcases hY k hk with hx | hx
    · exact Nat.lt_of_lt_of_le (h3 k hx) ho.size
    · exact hx.2
theorem Run.less {w0 w : World} {X Y : Nat → Prop} {g : Nat} {D : DS} (h : Run w0 w X g D) (hY : ∀ k, Y k → X k) : Run w0 w Y g D := by
  obtain ⟨⟨F, h1, h2⟩, h3, h4⟩ := h
  exact ⟨⟨F, h1, fun k hk => ⟨(h2 k hk).1, fun hy => (h2 k hk).2 (hY k hy)⟩⟩, fun k hk => h3 k (hY k hk), h4⟩
theorem Run.next {w0 w w' : World} {X : Nat → Prop} {g : Nat} {D' : DS} {F : Nat → Prop} (hF : ∀ k, F k → w0.heap.size ≤ k ∧ ¬ X k) (hX : ∀ k, X k → k < w.heap.size) (hb : Below w0.heap.size w0 w) (h : Disk w' (grow F w w') g D') (ho : Off F w w') : Run w0 w' X g D' ∧ Keep X w w' :=
  ⟨⟨⟨_, h, fun k hk => hk.elim (hF k) fun e => ⟨by have := hb.size; omega, fun hx => by have := hX k hx; omega⟩⟩, fun k hk => Nat.lt_of_lt_of_le (hX k hk) ho.size, hb.trans (ho.below hb.size fun k hk => (hF k hk).1)⟩,
    ⟨ho.size, fun k hk => ho.block k (hX k hk) fun hf => (hF k hf).2 hk⟩⟩
theorem Run.next' {w0 w w' : World} {X : Nat → Prop} {g : Nat} {D' : DS} {F : Nat → Prop} (hF : ∀ k, F k → w0.heap.size ≤ k ∧ ¬ X k) (hX : ∀ k, X k → k < w.heap.size) (hb : Below w0.heap.size w0 w) (h : Disk w' F g D') (ho : Off F w w') : Run w0 w' X g D' ∧ Keep X w w' :=
  ⟨⟨⟨_, h, hF⟩, fun k hk => Nat.lt_of_lt_of_le (hX k hk) ho.size, hb.trans (ho.below hb.size fun k hk => (hF k hk).1)⟩, ⟨ho.size, fun k hk => ho.block k (hX k hk) fun hf => (hF k hf).2 hk⟩⟩

theorem Run.new (n : Nat) (w0 w : World) (X : Nat → Prop) (hX : ∀ k, X k → k < w.heap.size) (hb : Below w0.heap.size w0 w) (hn : 16 ≤ n ∧ n ≤ 4096) : Calls Tryz.prog 51 #[.int .i64 (n : Int)] w fun e w' => ∃ g, e = .returned (.tuple #[.pointer (some ⟨g, 0, none⟩), .int .i64 0]) ∧ Run w0 w' X g (newD n) ∧ Below w.heap.size w w' := by
  refine (new_ok n w hn).mono ?_
  rintro e w' ⟨g, rfl, hg, hD, hb'⟩
  exact ⟨g, rfl, ⟨⟨_, hD, fun k hk => ⟨by have := hb.size; omega, fun hx => by have := hX k hx; omega⟩⟩, fun k hk => Nat.lt_of_lt_of_le (hX k hk) hb'.size, hb.trans (hb'.mono hb.size)⟩, hb'⟩
section
variable {w0 w : World} {X : Nat → Prop} {g : Nat} {D : DS} (h : Run w0 w X g D)
include h
theorem Run.write (len cap : Nat) (B : Option Addr) (i : Int) (bs : List UInt8) (hlen : bs.length = len) (hB : Bytes w B bs) (hP : D.P.length < 1000000) (hS : D.steps < 1000000000) :
    Calls Tryz.prog 104 #[.pointer (some ⟨g, 0, none⟩), .int .i64 i, .slice B len cap] w fun e w' => e = .returned (.int .i64 (writeE D i bs)) ∧ Run w0 w' X g (writeD D i bs) ∧ Keep X w w' := by
  obtain ⟨⟨F, h1, h2⟩, h3, h4⟩ := h
  refine (h1.write_ g len cap B F D i bs w hlen hB hP hS).mono ?_
  rintro e w' ⟨rfl, a, b⟩
  exact ⟨rfl, Run.next h2 h3 h4 a b⟩
theorem Run.barrier (hP : D.P.length < 1000000) (hS : D.steps < 1000000000) :
    Calls Tryz.prog 105 #[.pointer (some ⟨g, 0, none⟩)] w fun e w' => e = .returned (.int .i64 (barE D)) ∧ Run w0 w' X g (barD D) ∧ Keep X w w' := by
  obtain ⟨⟨F, h1, h2⟩, h3, h4⟩ := h
  refine (Disk.barrier_ g F D w h1 hP hS).mono ?_
  rintro e w' ⟨rfl, a, b⟩
  exact ⟨rfl, Run.next' h2 h3 h4 a b⟩
theorem Run.off :
    Calls Tryz.prog 16 #[.pointer (some ⟨g, 0, none⟩)] w fun e w' => e = .returned (.tuple #[]) ∧ Run w0 w' X g (offD D) ∧ Keep X w w' := by
  obtain ⟨⟨F, h1, h2⟩, h3, h4⟩ := h
  refine (Disk.off_ g F D w h1).mono ?_
  rintro e w' ⟨rfl, a, b⟩
  exact ⟨rfl, Run.next' h2 h3 h4 a b⟩
theorem Run.arm (i : Int) (hi : i < 9223372036854775808) :
    Calls Tryz.prog 14 #[.pointer (some ⟨g, 0, none⟩), .int .i64 i] w fun e w' => e = .returned (.int .i64 (armE D i)) ∧ Run w0 w' X g (armD D i) ∧ Keep X w w' := by
  obtain ⟨⟨F, h1, h2⟩, h3, h4⟩ := h
  refine (Disk.arm_ g F D i w h1 hi).mono ?_
  rintro e w' ⟨rfl, a, b⟩
  exact ⟨rfl, Run.next' h2 h3 h4 a b⟩
theorem Run.on (kl kc : Nat) (K : Option Addr) (ks : List Int) (torn : Int) (hP : D.P.length < 1000000) (hK : Ints w K ks) (hkl : ks.length = kl) (hk9 : kl < 1000000) :
    Calls Tryz.prog 18 #[.pointer (some ⟨g, 0, none⟩), .slice K kl kc, .int .i64 torn] w fun e w' => e = .returned (.int .i64 (onE D)) ∧ Run w0 w' X g (onD D ks torn) ∧ Keep X w w' := by
  obtain ⟨⟨F, h1, h2⟩, h3, h4⟩ := h
  refine (Disk.on_ g kl kc K ks torn F D w h1 hP hK hkl hk9).mono ?_
  rintro e w' ⟨rfl, a, b⟩
  exact ⟨rfl, Run.next' h2 h3 h4 a b⟩
theorem Run.read_yes (i : Int) (he : readE D i = 0) :
    Calls Tryz.prog 168 #[.pointer (some ⟨g, 0, none⟩), .int .i64 i] w fun e w' => e = .returned (.tuple #[.slice (some ⟨w.heap.size, 0, none⟩) 256 256, .int .i64 0]) ∧ Blk w' w.heap.size 5 (row8 (readS D i.toNat)) ∧ (readS D i.toNat).length = 256 ∧ Run w0 w' (fun k => X k ∨ k = w.heap.size) g D ∧ Below w.heap.size w w' := by
  have hr := h
  obtain ⟨⟨F, h1, h2⟩, h3, h4⟩ := h
  refine (Disk.read_yes g F D i w h1 he).mono ?_
  rintro e w' ⟨rfl, a, b, c⟩
  exact ⟨rfl, a, b, hr.add c _ fun k hk => hk.imp id fun e => by have := a.lt; omega, c⟩
theorem Run.read_no (i : Int) (he : readE D i ≠ 0) :
    Calls Tryz.prog 168 #[.pointer (some ⟨g, 0, none⟩), .int .i64 i] w fun e w' => e = .returned (.tuple #[.slice none 0 0, .int .i64 (readE D i)]) ∧ w = w' := by
  obtain ⟨⟨F, h1, h2⟩, h3⟩ := h
  exact Disk.read_no g F D i w h1 he
end

def wD1 : DS := writeD (newD 16) 3 [7]
def wD2 : DS := barD wD1
def wD3 : DS := writeD wD2 3 [8]
def wD4 : DS := offD wD3
def wD5 : DS := onD wD4 [] (-1)

set_option maxRecDepth 20000 in
theorem w_facts : writeE (newD 16) 3 [7] = 0 ∧ barE wD1 = 0 ∧ writeE wD2 3 [8] = 0 ∧ readE wD3 3 = 0 ∧ onE wD4 = 0 ∧ readE wD5 3 = 0 ∧ wD5.steps = 3 ∧ (readS wD3 3)[0]? = some 8 ∧ (readS wD5 3)[0]? = some 7 ∧
    wD1.P.length < 1000000 ∧ wD1.steps < 1000000000 ∧ wD2.P.length < 1000000 ∧ wD2.steps < 1000000000 ∧ wD4.P.length < 1000000 := by decide +kernel

theorem one_byte (w : World) (x : UInt8) : Bytes (w.alloc (.cells #[.int .u8 (x.toNat : Int)] 5)) (some ⟨w.heap.size, 0, none⟩) [x] := by
  have h := Blk.new w 5 (row8 [x])
  exact Bytes.row h

end Go.Proofs.YtolpgpphjnkehaaGreatDoor.Cac
/- aumbryref00's copies and comparisons; the reference's Fill. -/
namespace Go.Proofs.YtolpgpphjnkehaaGreatDoor.Cac
set_option maxRecDepth 20000
open Go.RowKit Dsk

/-- The slice (g, 0), len, cap: it reads as cs; all its room is there, and none of it is frozen. -/
structure Rw (w : World) (g len cap : Nat) (cs : List UInt8) : Prop where
  lt : g < w.heap.size
  long : cs.length = len
  le : len ≤ cap
  max : cap ≤ maxLen
  holds : ∀ (j : Nat) (c : UInt8), cs[j]? = some c → w.cell? ⟨g, j, none⟩ = some (bv c)
  there : ∀ j, j < cap → (w.cell? ⟨g, j, none⟩).isSome = true ∧ w.frozen? ⟨g, j, none⟩ = false

theorem Rw.bytes {w : World} {g len cap : Nat} {cs : List UInt8} (h : Rw w g len cap cs) : Bytes w (some ⟨g, 0, none⟩) cs := fun k c hk =>
  ⟨g, 0, rfl, h.lt, by rw [Nat.zero_add]; exact h.holds k c hk⟩
theorem Rw.frame {w w' : World} {g len cap : Nat} {cs : List UInt8} (h : Rw w g len cap cs) (hs : w.heap.size ≤ w'.heap.size) (hb : w'.heap[g]? = w.heap[g]?) : Rw w' g len cap cs :=
  ⟨Nat.lt_of_lt_of_le h.lt hs, h.long, h.le, h.max, fun j c hj => (World.cell?_of_block (a := ⟨g, j, none⟩) hb).trans (h.holds j c hj),
    fun j hj => ⟨by rw [World.cell?_of_block (a := ⟨g, j, none⟩) hb]; exact (h.there j hj).1, (World.frozen?_of_block (a := ⟨g, j, none⟩) hb).trans (h.there j hj).2⟩⟩
theorem Rw.below {w w' : World} {g len cap : Nat} {cs : List UInt8} (h : Rw w g len cap cs) (hb : Below w.heap.size w w') : Rw w' g len cap cs := h.frame hb.size (hb.block g h.lt)
theorem Rw.of_own {w : World} {base g n cap : Nat} {cs : List UInt8} (h : w.ownsRow base 5 1 (.slice (some ⟨g, 0, none⟩) n cap) n (cs.map bv)) : Rw w g n cap cs := by
  rcases h.2 with ⟨e, _⟩ | ⟨g', cap', cur, e, _, hg, hn, hm, hs, ht⟩
  · cases e
  · injection e with e1 e2 e3
    injection e1 with e1
    injection e1 with e1
    subst e1; subst e3
    rw [Nat.mul_one] at hs ht
    have hB : Blk w g 5 cur := hg
    have hl : cs.length = n := by have := h.1; simpa using this
    refine ⟨hB.lt, hl, hn, hm, fun j c hj => ?_, fun j hj => ⟨?_, hB.frozen j⟩⟩
    · rw [hB.cell j]
      have hjl : j < n := by rw [← hl]; exact (List.getElem?_eq_some_iff.1 hj).1
      have e : (cs.map bv)[j]? = some (bv c) := by rw [List.getElem?_map, hj]; rfl
      rw [← ht, List.getElem?_take_of_lt hjl] at e
      rw [← Array.getElem?_toList]; exact e
    · rw [hB.cell j, Array.getElem?_eq_getElem (by rw [hs]; exact hj)]; rfl

/-- What a slice reads as is a source for append. -/
theorem bytes_src {w : World} {b off n c : Nat} {xs : List UInt8} (hn : xs.length = n) (h : ∀ j u, xs[j]? = some u → w.cell? ⟨b, off + j, none⟩ = some (bv u)) : Src Tryz.prog 1 32 (.slice (some ⟨b, off, none⟩) n c) n (xs.map bv) w :=
  Src.ofSlice w Tryz.underlying32 ⟨b, off, none⟩ n c (xs.map bv) (by simp [hn]) (fun j u hu => by
    rw [List.getElem?_map] at hu
    cases hj : xs[j]? with
    | none => rw [hj] at hu; cases hu
    | some d =>
      rw [hj] at hu
      simp only [Option.map_some, Option.some.injEq] at hu
      subst hu
      have e2 : (⟨b, off, none⟩ : Addr).add j = ⟨b, off + j, none⟩ := by unfold Addr.add; split <;> simp_all
      rw [e2]; exact h j d hj)
    (fun u hu => by obtain ⟨d, _, rfl⟩ := List.mem_map.1 hu; rfl)

theorem setCells_other (g : Nat) : ∀ (vs : List Value) (o : Nat) (w : World), (w.setCells g o vs).os = w.os ∧ (w.setCells g o vs).tape = w.tape ∧ (w.setCells g o vs).output = w.output ∧ (w.setCells g o vs).heap.size = w.heap.size ∧ (∀ k, k ≠ g → (w.setCells g o vs).heap[k]? = w.heap[k]?) ∧ ∀ a, (w.setCells g o vs).frozen? a = w.frozen? a
  | [], _, w => ⟨rfl, rfl, rfl, rfl, fun _ _ => rfl, fun _ => rfl⟩
  | v :: r, o, w => by
    obtain ⟨h1, h2, h3, h4, h5, h6⟩ := setCells_other g r (o + 1) (w.setCell ⟨g, o, none⟩ v)
    refine ⟨h1, h2, h3, h4.trans (by simp [World.setCell]), fun k hk => (h5 k hk).trans ?_, fun a => (h6 a).trans (World.frozen?_setCell _ _ _ _)⟩
    simp only [World.setCell, Array.getElem?_modify]
    rw [if_neg (fun e => hk e.symm)]

theorem run_rwapp {w : World} {g len cap : Nat} {cs xs : List UInt8} (h : Rw w g len cap cs) (b off n c : Nat) (hn : xs.length = n) (hx : ∀ j u, xs[j]? = some u → w.cell? ⟨b, off + j, none⟩ = some (bv u)) (hb : len + n ≤ 140737488355328) :
    ∃ g' cap' w', (Builtin.append_ #[32, 32] 32 #[.slice (some ⟨g, 0, none⟩) len cap, .slice (some ⟨b, off, none⟩) n c]).run Tryz.prog w = .ok (.slice (some ⟨g', 0, none⟩) (len + n) cap') w' ∧
      Rw w' g' (len + n) cap' (cs ++ xs) ∧ Rw w' g len cap cs ∧ (g' = g ∧ cap' = cap ∨ g' = w.heap.size) ∧ (∀ k, k < w.heap.size → k ≠ g → w'.heap[k]? = w.heap[k]?) ∧ (∀ B, B ≤ g → Below B w w') := by
  obtain ⟨i0, hi, hz0, hz1, hz2⟩ := info_parts Tryz.info8
  have hs := bytes_src (c := c) hn hx
  rw [← hz1] at hs
  have hml : (cs ++ xs).length = len + n := by rw [List.length_append, h.long, hn]
  by_cases hroom : len + n ≤ cap
  · have hr := run_append_room_src (P := Tryz.prog) w 32 32 32 5 i0 Tryz.underlying32 hi g 0 len cap _ n _ hs hroom
      (fun j hj => by rw [hz1]; simp at hj; exact (h.there _ (by omega)).1) (fun j hj => by rw [hz1]; simp at hj; exact (h.there _ (by omega)).2)
    rw [hz1, Nat.zero_add, Nat.mul_one] at hr
    obtain ⟨o1, o2, o3, o4, o5, o6⟩ := setCells_other g (xs.map bv) len w
    have hin := World.cell?_setCells_in g (xs.map bv) len w (fun j hj => by simp at hj; exact (h.there _ (by omega)).1)
    have hout := fun k (hk : k < len ∨ len + n ≤ k) => World.cell?_setCells_out g (xs.map bv) len w ⟨g, k, none⟩ (fun _ _ => by simp; omega)
    have hth : ∀ j, j < cap → ((w.setCells g len (xs.map bv)).cell? ⟨g, j, none⟩).isSome = true ∧ (w.setCells g len (xs.map bv)).frozen? ⟨g, j, none⟩ = false := fun j hj => by
      refine ⟨?_, by rw [o6]; exact (h.there j hj).2⟩
      by_cases h1 : j < len ∨ len + n ≤ j
      · rw [hout j h1]; exact (h.there j hj).1
      · have := hin (j - len) (by simp; omega)
        rw [show len + (j - len) = j by omega] at this
        rw [this]; rfl
    have hol : ∀ (j : Nat) (c : UInt8), cs[j]? = some c → (w.setCells g len (xs.map bv)).cell? ⟨g, j, none⟩ = some (bv c) := fun j c hj => by
      have hjl := (List.getElem?_eq_some_iff.1 hj).1
      rw [h.long] at hjl
      rw [hout j (.inl hjl)]; exact h.holds j c hj
    refine ⟨g, cap, _, hr, ⟨by rw [o4]; exact h.lt, hml, hroom, h.max, fun j c hj => ?_, hth⟩, ⟨by rw [o4]; exact h.lt, h.long, h.le, h.max, hol, hth⟩, .inl ⟨rfl, rfl⟩, fun k _ hk => o5 k hk, fun B hB => ⟨o1, o2, o3, by rw [o4]; exact Nat.le_refl _, fun k hk => o5 k (by omega)⟩⟩
    by_cases hjl : j < len
    · rw [List.getElem?_append_left (by rw [h.long]; exact hjl)] at hj
      exact hol j c hj
    · rw [List.getElem?_append_right (by rw [h.long]; omega), h.long] at hj
      have hj' := (List.getElem?_eq_some_iff.1 hj).1
      have := hin (j - len) (by simp; exact hj')
      rw [show len + (j - len) = j by omega] at this
      rw [this]
      obtain ⟨_, e⟩ := List.getElem?_eq_some_iff.1 hj
      rw [List.getElem_map, e]
  · have hho : (Builtin.firstCells i0.size len (.slice (some ⟨g, 0, none⟩) len cap)).run Tryz.prog w.drew = .ok (cs.map bv).toArray w.drew := by
      rw [hz1]
      exact run_firstCells_some w.drew 1 len ⟨g, 0, none⟩ len cap (cs.map bv) (by simp [h.long]) (fun j u hu => by
        rw [List.getElem?_map] at hu
        cases hj : cs[j]? with
        | none => rw [hj] at hu; cases hu
        | some d =>
          rw [hj] at hu
          simp only [Option.map_some, Option.some.injEq] at hu
          subst hu
          rw [Addr.add_lit, Nat.zero_add]
          exact h.holds j d hj)
    have hmx := h.max
    have hr := run_append_grow_src (P := Tryz.prog) w 32 32 32 5 i0 _ Tryz.underlying32 hi hz0 (some ⟨g, 0, none⟩) len cap _ hho _ n _ hs (by omega) (by omega) (growslice_fits (by omega) (by rw [hz2]; omega))
    have hge := grownCap_ge w (len + n) cap 5
    have hcm := grownCap_le_maxLen w (len + n) cap 5 (by unfold maxLen; omega)
    refine ⟨w.heap.size, _, _, hr, ?_, h.frame (by simp) (Below.heap_alloc w.drew _ g h.lt), .inr rfl, fun k hk _ => Below.heap_alloc w.drew _ k hk, fun B hB => ⟨rfl, rfl, rfl, by simp, fun k hk => Below.heap_alloc w.drew _ k (show k < w.heap.size by have := h.lt; omega)⟩⟩
    have hcell := fun j => World.cell?_alloc_new w.drew ((List.map bv cs ++ List.map bv xs).toArray ++ Builtin.zeroCells (Value.int IntKind.u8 0).cells (grownCap w (len + n) cap 5 - (len + n))) 5 j
    refine ⟨by simp, hml, hge, hcm, fun j c hj => ?_, fun j hj => ⟨?_, World.frozen?_alloc_new w.drew _ _ j⟩⟩
    · refine (hcell j).trans ?_
      have hj' := (List.getElem?_eq_some_iff.1 hj).1
      rw [Array.getElem?_append_left (by simpa using hj'), List.getElem?_toArray, ← List.map_append, List.getElem?_map, hj]
      rfl
    · have e1 := hcell j
      refine (congrArg Option.isSome e1).trans ?_
      rw [Array.getElem?_eq_getElem]
      · rfl
      · rw [Array.size_append, size_zeroCells]
        simp only [List.size_toArray, List.length_append, List.length_map, h.long, hn]
        show j < len + n + (grownCap w (len + n) cap 5 - (len + n)) * 1
        omega


theorem run_bytes8 (w : World) (bs : List UInt8) (hl : bs.length ≤ maxLen) : ∃ c w', (convert 9 32 (.string (str bs))).run Tryz.prog w = .ok (.slice (some ⟨w.heap.size, 0, none⟩) bs.length c) w' ∧ Rw w' w.heap.size bs.length c bs ∧ Below w.heap.size w w' := by
  have h := Lib.run_convert_string_bytes (P := Tryz.prog) w 9 32 5 (str bs) Tryz.underlying9 Tryz.underlying32 Tryz.underlying5
  have hsz : (str bs).size = bs.length := by simp [str, ByteArray.size]
  rw [hsz] at h
  have hge := grownCap_ge w bs.length 0 5
  have hcm := grownCap_le_maxLen w bs.length 0 5 hl
  have hn := Lib.bytesWorld_at_new w 5 (str bs)
  have hcs : (Lib.bytesCells w 5 (str bs)).size = grownCap w bs.length 0 5 := by
    unfold Lib.bytesCells
    rw [hsz, Array.size_append]
    simp only [str, List.map_toArray, List.size_toArray, List.length_map, Array.size_replicate]
    omega
  have hcell : ∀ j, (Lib.bytesWorld w 5 (str bs)).cell? ⟨w.heap.size, j, none⟩ = (Lib.bytesCells w 5 (str bs))[j]? := fun j => by
    simp [World.cell?, hn]
  refine ⟨_, _, h, ⟨by rw [Lib.bytesWorld_size]; omega, rfl, hge, hcm, fun j c hj => ?_, fun j hj => ⟨?_, ?_⟩⟩, ⟨rfl, rfl, rfl, by rw [Lib.bytesWorld_size]; omega, fun k hk => Lib.bytesWorld_at_old w 5 (str bs) k hk⟩⟩
  · have hjl := (List.getElem?_eq_some_iff.1 hj).1
    rw [hcell, Lib.bytesCells, Array.getElem?_append_left (by simp [str]; exact hjl)]
    simp only [str, List.map_toArray, List.getElem?_toArray, List.getElem?_map, hj]
    rfl
  · rw [hcell, Array.getElem?_eq_getElem (by rw [hcs]; exact hj)]; rfl
  · simp only [World.frozen?, hn, hcs]
    simp
    omega

def lenV : Value → Nat | .slice _ n _ => n | _ => 0

theorem drewN_below (w : World) (n : Nat) : Below w.heap.size w (w.drewN n) := ⟨rfl, rfl, rfl, Nat.le_refl _, fun _ _ => rfl⟩

/-- What is left of a slice behind its first element. -/
theorem Bytes.tail {w : World} {b off : Nat} {x : UInt8} {p : List UInt8} (h : Bytes w (some ⟨b, off, none⟩) (x :: p)) (A : Option Addr) (hA : p ≠ [] → A = some ⟨b, off + 1, none⟩) : Bytes w A p := fun k c hk => by
  have hp : p ≠ [] := fun e => by rw [e] at hk; simp at hk
  obtain ⟨b', off', e, hlt, hc⟩ := h (k + 1) c (by simpa using hk)
  cases e
  exact ⟨b, off + 1, hA hp, hlt, by rw [show off + 1 + k = off + (k + 1) by omega]; exact hc⟩

set_option maxRecDepth 20000 in
set_option maxHeartbeats 1000000 in
theorem eq_any (A B : Option Addr) (l1 c1 l2 c2 : Nat) (xs ys : List UInt8) (w : World) (h1 : xs.length = l1) (h2 : ys.length = l2) (hA : Bytes w A xs) (hB : Bytes w B ys) (hc1 : l1 ≤ c1 ∧ c1 ≤ 9223372036854775807 ∧ l1 ≤ 4503599627370496) (hc2 : l2 ≤ c2 ∧ c2 ≤ 9223372036854775807 ∧ l2 ≤ 4503599627370496) :
    Calls Tryz.prog 68 #[.slice A l1 c1, .slice B l2 c2] w fun e w' => e = .returned (.bool (decide (xs = ys))) ∧ Below w.heap.size w w' := by
  have HA := Lib.hid hA
  have HB := Lib.hid hB
  subst h1
  subst h2
  clear hA hB
  go_enter Tryz.func68, Tryz.ntmps68
  go_wp2_with fail
  go_loopw [0, 1] (fun a b wr => ∃ (p q : List UInt8) (A' B' : Option Addr) (n1 n2 d1 d2 : Nat), p.length = n1 ∧ q.length = n2 ∧ a = .slice A' n1 d1 ∧ b = .slice B' n2 d2 ∧ (n1 ≤ d1 ∧ d1 ≤ 9223372036854775807 ∧ n1 ≤ 4503599627370496) ∧ (n2 ≤ d2 ∧ d2 ≤ 9223372036854775807 ∧ n2 ≤ 4503599627370496) ∧ Hid (Bytes wr A' p) ∧ Hid (Bytes wr B' q) ∧ Hid (xs = ys ↔ p = q) ∧ Hid (Below w.heap.size w wr)) (fun a _ _ => lenV a)
  case atStart => exact ⟨xs, ys, _, _, _, _, _, _, rfl, rfl, rfl, rfl, hc1, hc2, HA, HB, Lib.hid Iff.rfl, Lib.hid (Below.refl _ _)⟩
  case round =>
    clear HA HB
    obtain ⟨p, q, A', B', n1, n2, d1, d2, hp, hq, rfl, rfl, hd1, hd2, hA, hB, hiff, hbel⟩ := hrel
    have hbn : ∀ n, Hid (Below w.heap.size w (wr.drewN n)) := fun n => Lib.hid (hbel.out.trans ((drewN_below wr n).mono hbel.out.size))
    have HBN := Lib.hid hbn
    clear hbn
    cases p with
    | nil =>
      obtain rfl : n1 = 0 := hp.symm
      have hr : Hid (decide (xs = ys) = ((n2 : Int) == 0)) := Lib.hid (by
        have := hiff.out
        rw [Bool.eq_iff_iff]
        simp only [decide_eq_true_eq, beq_iff_eq]
        rw [this, ← hq]
        cases q <;> simp; omega)
      clear hp hq
      go_wp2_with fail
      go_quiet (fail)
      go_wp2_with fail
      go_ret
      exact ⟨by rw [hr.out]; rfl, (HBN.out _).out⟩
    | cons x p' =>
      obtain ⟨m1, rfl⟩ : ∃ m, n1 = m + 1 := ⟨p'.length, by rw [← hp]; rfl⟩
      have hp' : p'.length = m1 := by simpa using hp
      cases q with
      | nil =>
        obtain rfl : n2 = 0 := hq.symm
        have hr : Hid (decide (xs = ys) = false) := Lib.hid (by simp [hiff.out])
        clear hp hq hp'
        have hd : decide ((0 : Int) < ((m1 + 1 : Nat) : Int)) = true := by simp
        go_wp2_with fail
        go_quiet (fail)
        go_wp2_with fail
        go_ret
        exact ⟨by rw [hr.out]; simp; omega, (HBN.out _).out⟩
      | cons y q' =>
        obtain ⟨m2, rfl⟩ : ∃ m, n2 = m + 1 := ⟨q'.length, by rw [← hq]; rfl⟩
        have hq' : q'.length = m2 := by simpa using hq
        obtain ⟨b, off, rfl, hbl, hcx⟩ := hA.out.at_ (k := 0) (by simp)
        obtain ⟨b2, off2, rfl, hbl2, hcy⟩ := hB.out.at_ (k := 0) (by simp)
        have kx : wr.cell? ⟨b, off, none⟩ = some (.int .u8 (x.toNat : Int)) := hcx 0 x rfl
        have ky : wr.cell? ⟨b2, off2, none⟩ = some (.int .u8 (y.toNat : Int)) := hcy 0 y rfl
        have hd : decide ((0 : Int) < ((m1 + 1 : Nat) : Int)) = true := by simp
        have hde : decide ((0 : Int) < ((m2 + 1 : Nat) : Int)) = true := by simp
        clear hcx hcy hp hq
        by_cases hxy : x = y
        · subst hxy
          go_wp2_with fail
          go_quiet (fail)
          go_wp2_with fail
          refine ⟨⟨p', q', _, _, m1, m2, d1 - 1, d2 - 1, hp', hq', rfl, rfl, by omega, by omega, Lib.hid ((hA.out.tail _ (fun hne => ?_)).below (drewN_below wr _)), Lib.hid ((hB.out.tail _ (fun hne => ?_)).below (drewN_below wr _)), Lib.hid (by rw [hiff.out]; simp), HBN.out _⟩, by simp [lenV]⟩
          · have : 0 < m1 := by rw [← hp']; exact List.length_pos_iff.2 hne
            rw [if_neg (by omega)]
          · have : 0 < m2 := by rw [← hq']; exact List.length_pos_iff.2 hne
            rw [if_neg (by omega)]
        · have hr : Hid (decide (xs = ys) = false) := Lib.hid (by
            have := hiff.out
            simp only [decide_eq_false_iff_not]
            rw [this]
            intro e
            injection e with e1 _
            exact hxy e1)
          have hne : ((x.toNat : Int) == (y.toNat : Int)) = false := by
            have : x.toNat ≠ y.toNat := fun e => hxy (UInt8.toNat_inj.1 e)
            simp; omega
          go_wp2_with fail
          go_quiet (fail)
          go_wp2_with fail
          go_ret
          exact ⟨by rw [hr.out]; simp; omega, (HBN.out _).out⟩


/-- A row of which the first k bytes are laid. -/
def part8 (bs : List UInt8) (n k : Nat) : Array Value := row8 (bs.take k ++ List.replicate (n - k) 0)
theorem part8_zero (bs : List UInt8) (n : Nat) : part8 bs n 0 = mk8 n := by
  unfold part8 row8
  rw [mk8_eq]
  simp
theorem part8_size (bs : List UInt8) (n k : Nat) (hk : k ≤ bs.length) (hn : bs.length ≤ n) : (part8 bs n k).size = n := by simp [part8, row8]; omega
theorem part8_step (bs : List UInt8) (n k : Nat) (hk : k < bs.length) (hn : bs.length ≤ n) : (part8 bs n k).setIfInBounds k (bv bs[k]) = part8 bs n (k + 1) := by
  unfold part8 row8
  rw [List.setIfInBounds_toArray, ← List.map_set]
  congr 2
  rw [show n - k = (n - (k + 1)) + 1 by omega, List.replicate_succ, List.set_append_right _ _ (by simp; omega)]
  simp only [List.length_take, Nat.min_eq_left (Nat.le_of_lt hk), Nat.sub_self, List.set_cons_zero]
  rw [List.take_succ_eq_append_getElem hk, List.append_assoc]
  rfl

end Go.Proofs.YtolpgpphjnkehaaGreatDoor.Cac
/- What is done with a disk that is on, and not armed. -/
namespace Go.Proofs.YtolpgpphjnkehaaGreatDoor.Cac
set_option maxRecDepth 20000
open Go.RowKit Dsk

theorem refuse_in {n s : Nat} (h : s < n) : refuse false n (s : Int) = 0 := by unfold refuse; rw [if_neg (by decide), if_neg (by omega)]

section
variable (S : List (List UInt8)) (P : List (Nat × List UInt8)) (t : Nat)
theorem write_liveE (s : Nat) (b : List UInt8) (hs : s < S.length) (hb : b.length ≤ 256) : writeE ⟨S, P, false, 0, t⟩ (s : Int) b = 0 := by
  unfold writeE
  rw [show refuse (⟨S, P, false, 0, t⟩ : DS).dead (⟨S, P, false, 0, t⟩ : DS).S.length (s : Int) = 0 from refuse_in hs, if_pos rfl, if_pos hb]
  rfl
theorem write_liveD (s : Nat) (b : List UInt8) (hs : s < S.length) (hb : b.length ≤ 256) : writeD ⟨S, P, false, 0, t⟩ (s : Int) b = ⟨S, P ++ [(s, filled b 256)], false, 0, t + 1⟩ := by
  unfold writeD
  rw [show refuse (⟨S, P, false, 0, t⟩ : DS).dead (⟨S, P, false, 0, t⟩ : DS).S.length (s : Int) = 0 from refuse_in hs, if_pos ⟨rfl, hb⟩]
  rfl
theorem bar_liveE : barE ⟨S, P, false, 0, t⟩ = 0 := rfl
theorem bar_liveD : barD ⟨S, P, false, 0, t⟩ = ⟨settleTo (fun _ b => some b) P S P.length, [], false, 0, t + 1⟩ := rfl
theorem off_live : offD ⟨S, P, false, 0, t⟩ = ⟨S, P, true, 0, t⟩ := rfl
theorem on_liveE (a : Nat) : onE ⟨S, P, true, a, t⟩ = 0 := rfl
theorem on_liveD (a : Nat) (ks : List Int) (torn : Int) : onD ⟨S, P, true, a, t⟩ ks torn = ⟨settleTo (onF (has ks) torn) P S P.length, [], false, 0, t⟩ := rfl
theorem read_live (d : Nat) (s : Nat) (hs : s < S.length) : readE ⟨S, P, false, d, t⟩ (s : Int) = if readS ⟨S, P, false, d, t⟩ s = [] then 5 else 0 := by
  unfold readE
  rw [show refuse (⟨S, P, false, d, t⟩ : DS).dead (⟨S, P, false, d, t⟩ : DS).S.length (s : Int) = 0 from refuse_in hs, if_pos rfl, Int.toNat_natCast]
end

theorem filled_ne {b : List UInt8} (h : b.length ≤ 256) : filled b 256 ≠ [] := fun e => by
  have := filled_length b 256 h
  rw [e] at this
  cases this
theorem zeros_ne : zeros ≠ [] := fun e => by have := zeros_length; rw [e] at this; cases this

end Go.Proofs.YtolpgpphjnkehaaGreatDoor.Cac
/- What reads, with all settled. -/
namespace Go.Proofs.YtolpgpphjnkehaaGreatDoor.Cac
set_option maxRecDepth 20000
open Go.RowKit Dsk

/-- A disk that is on, not armed, with sixteen sectors that all can be read. -/
structure Good (D : DS) : Prop where
  dead : D.dead = false
  armed : D.armed = 0
  len : D.S.length = 16
  full : ∀ b ∈ D.S, b.length = 256
  pend : ∀ p ∈ D.P, p.1 < 16 ∧ p.2.length = 256

theorem Good.new : Good (newD 16) := ⟨rfl, rfl, List.length_replicate, fun b hb => by rw [List.eq_of_mem_replicate hb]; exact zeros_length, fun p hp => by cases hp⟩
theorem Good.eta {D : DS} (h : Good D) : D = ⟨D.S, D.P, false, 0, D.steps⟩ := by
  obtain ⟨S, P, d, a, t⟩ := D
  have h1 := h.dead; have h2 := h.armed
  simp at h1 h2
  subst h1; subst h2; rfl
theorem Good.writeE {D : DS} (h : Good D) (i : Int) (b : List UInt8) : writeE D i b = if (0 ≤ i ∧ i < 16) ∧ b.length ≤ 256 then 0 else 1 := by
  rw [h.eta]
  have hl := h.len
  by_cases hi : 0 ≤ i ∧ i < 16
  · obtain ⟨s, rfl⟩ : ∃ s : Nat, i = s := ⟨i.toNat, by omega⟩
    by_cases hb : b.length ≤ 256
    · rw [write_liveE _ _ _ s b (by omega) hb, if_pos ⟨hi, hb⟩]
    · unfold Go.Proofs.YtolpgpphjnkehaaGreatDoor.Cac.writeE
      rw [show refuse (⟨D.S, D.P, false, 0, D.steps⟩ : DS).dead (⟨D.S, D.P, false, 0, D.steps⟩ : DS).S.length (s : Int) = 0 from refuse_in (by show s < D.S.length; omega), if_pos rfl, if_neg hb, if_neg (fun e => hb e.2)]
  · have hr : refuse (⟨D.S, D.P, false, 0, D.steps⟩ : DS).dead (⟨D.S, D.P, false, 0, D.steps⟩ : DS).S.length i = 1 := by
      show refuse false D.S.length i = 1
      unfold refuse
      rw [if_neg (by decide), if_pos (by rw [hl]; omega)]
    unfold Go.Proofs.YtolpgpphjnkehaaGreatDoor.Cac.writeE
    rw [hr, if_neg (by decide), if_neg (fun e => hi e.1)]
theorem Good.writeD {D : DS} (h : Good D) (i : Int) (b : List UInt8) : writeD D i b = if (0 ≤ i ∧ i < 16) ∧ b.length ≤ 256 then ⟨D.S, D.P ++ [(i.toNat, filled b 256)], false, 0, D.steps + 1⟩ else D := by
  have hl := h.len
  by_cases hi : (0 ≤ i ∧ i < 16) ∧ b.length ≤ 256
  · obtain ⟨s, rfl⟩ : ∃ s : Nat, i = s := ⟨i.toNat, by omega⟩
    rw [if_pos hi, h.eta, write_liveD _ _ _ s b (by omega) hi.2, Int.toNat_natCast]
  · rw [if_neg hi]
    refine writeD_no fun e => hi ?_
    obtain ⟨_, s, rfl, hs⟩ := refuse_zero e.1
    exact ⟨by omega, e.2⟩
theorem Good.barE {D : DS} (h : Good D) : barE D = 0 := by rw [h.eta]; rfl
theorem Good.barD {D : DS} (h : Good D) : barD D = ⟨settleTo (fun _ b => some b) D.P D.S D.P.length, [], false, 0, D.steps + 1⟩ := by rw [h.eta]; rfl

theorem settle_get (P : List (Nat × List UInt8)) (S : List (List UInt8)) (s : Nat) (hP : ∀ p ∈ P, p.1 < S.length) : ∀ k, k ≤ P.length → (settleTo (fun _ b => some b) P S k).getD s [] = overlay s (P.take k) (S.getD s [])
  | 0, _ => rfl
  | k + 1, hk => by
    have ih := settle_get P S s hP k (by omega)
    have hl := settleTo_length (fun _ b => some b) P S k
    have e : P[k]? = some P[k] := List.getElem?_eq_getElem (by omega)
    rw [List.take_succ_eq_append_getElem (by omega), overlay_snoc]
    unfold settleTo
    rw [e]
    simp only
    have hlt := hP P[k] (List.getElem_mem (by omega))
    by_cases h : P[k].1 = s
    · rw [if_pos h, List.getD, h, List.getElem?_set_self (by rw [hl]; omega)]; rfl
    · rw [if_neg h, List.getD, List.getElem?_set_ne h]; exact ih
theorem Good.barRead {D : DS} (h : Good D) (s : Nat) : readS (Go.Proofs.YtolpgpphjnkehaaGreatDoor.Cac.barD D) s = readS D s := by
  rw [h.barD]
  show (settleTo (fun _ b => some b) D.P D.S D.P.length).getD s [] = _
  rw [settle_get D.P D.S s (fun p hp => by have := (h.pend p hp).1; rw [h.len]; exact this) D.P.length (Nat.le_refl _), List.take_length]
  rfl
theorem Good.read {D : DS} (h : Good D) (s : Nat) (hs : s < 16) : (readS D s).length = 256 ∧ readE D s = 0 := by
  have h1 : (readS D s).length = 256 := by
    unfold readS
    rcases overlay_last s (D.S.getD s []) D.P with ⟨_, h2⟩ | ⟨k, _, h2, h3⟩
    · rw [h2]
      have hl : s < D.S.length := by rw [h.len]; exact hs
      simp only [List.getD, List.getElem?_eq_getElem hl, Option.getD_some]
      exact h.full _ (List.getElem_mem hl)
    · exact (h.pend _ (List.mem_of_getElem? h3)).2
  refine ⟨h1, ?_⟩
  have h2 : readE D s = if readS D s = [] then 5 else 0 := by
    have h3 := read_live D.S D.P D.steps 0 s (by rw [h.len]; exact hs)
    rw [← h.eta] at h3
    exact h3
  rw [h2, if_neg fun e => by rw [e] at h1; cases h1]
theorem Good.write {D : DS} (h : Good D) (i : Int) (b : List UInt8) : Good (Go.Proofs.YtolpgpphjnkehaaGreatDoor.Cac.writeD D i b) := by
  rw [h.writeD]
  split
  · rename_i hi
    exact ⟨rfl, rfl, h.len, h.full, fun p hp => (List.mem_append.1 hp).elim (h.pend p) fun hp => by rw [List.mem_singleton.1 hp]; exact ⟨by show i.toNat < 16; omega, filled_length b 256 hi.2⟩⟩
  · exact h
theorem settle_full (P : List (Nat × List UInt8)) (S : List (List UInt8)) (hS : ∀ b ∈ S, b.length = 256) (hP : ∀ p ∈ P, p.2.length = 256) : ∀ k, ∀ b ∈ settleTo (fun _ b => some b) P S k, b.length = 256
  | 0 => hS
  | k + 1 => by
    unfold settleTo
    split
    · exact settle_full P S hS hP k
    · rename_i p hp
      intro b hb
      rcases List.mem_or_eq_of_mem_set hb with hb | rfl
      · exact settle_full P S hS hP k b hb
      · exact hP p (List.mem_of_getElem? hp)
theorem Good.bar {D : DS} (h : Good D) : Good (Go.Proofs.YtolpgpphjnkehaaGreatDoor.Cac.barD D) := by
  rw [h.barD]
  exact ⟨rfl, rfl, by rw [settleTo_length]; exact h.len, settle_full D.P D.S h.full (fun p hp => (h.pend p hp).2) _, fun p hp => by cases hp⟩
theorem Good.writeRead {D : DS} (h : Good D) (i : Int) (b : List UInt8) (s : Nat) (hf : (0 ≤ i ∧ i < 16) ∧ b.length ≤ 256) : readS (Go.Proofs.YtolpgpphjnkehaaGreatDoor.Cac.writeD D i b) s = if i = s then filled b 256 else readS D s := by
  rw [h.writeD, if_pos hf]
  unfold readS
  show overlay s (D.P ++ [(i.toNat, filled b 256)]) (D.S.getD s []) = _
  rw [overlay_snoc]
  by_cases e : i = s
  · rw [if_pos e, if_pos (by omega)]
  · rw [if_neg e, if_neg (by show ¬ i.toNat = s; omega)]

theorem write_steps (D : DS) (i : Int) (b : List UInt8) : (Go.Proofs.YtolpgpphjnkehaaGreatDoor.Cac.writeD D i b).steps ≤ D.steps + 1 ∧ (Go.Proofs.YtolpgpphjnkehaaGreatDoor.Cac.writeD D i b).P.length ≤ D.P.length + 1 := by
  unfold Go.Proofs.YtolpgpphjnkehaaGreatDoor.Cac.writeD
  split
  · exact ⟨Nat.le_refl _, by show (D.P ++ [_]).length ≤ _; simp⟩
  · exact ⟨Nat.le_succ _, Nat.le_succ _⟩
theorem bar_steps (D : DS) : (Go.Proofs.YtolpgpphjnkehaaGreatDoor.Cac.barD D).steps ≤ D.steps + 1 ∧ (Go.Proofs.YtolpgpphjnkehaaGreatDoor.Cac.barD D).P.length ≤ D.P.length := by
  unfold Go.Proofs.YtolpgpphjnkehaaGreatDoor.Cac.barD
  split
  · exact ⟨Nat.le_succ _, Nat.le_refl _⟩
  · split
    · exact ⟨Nat.le_refl _, Nat.le_refl _⟩
    · exact ⟨Nat.le_refl _, Nat.zero_le _⟩

end Go.Proofs.YtolpgpphjnkehaaGreatDoor.Cac
/- Images: rows of bytes, copied and compared. -/
namespace Go.Proofs.YtolpgpphjnkehaaGreatDoor.Cac
set_option maxRecDepth 20000
open Go.RowKit Dsk

/-- What a value of type [][]byte reads as. -/
def Img (w : World) (A : Option Addr) (rows : List (List UInt8)) : Prop :=
  ∀ (r : Nat) (bs : List UInt8), rows[r]? = some bs → ∃ b off v, A = some ⟨b, off, none⟩ ∧ b < w.heap.size ∧ w.cell? ⟨b, off + r, none⟩ = some v ∧ Sec w (fun _ => True) v bs
theorem Img.below {w w' : World} {A : Option Addr} {rows : List (List UInt8)} (h : Img w A rows) (hb : Below w.heap.size w w') : Img w' A rows := fun r bs hr => by
  obtain ⟨b, off, v, e, hlt, hc, A', c, h1, h2, h3, h4, h5⟩ := h r bs hr
  exact ⟨b, off, v, e, Nat.lt_of_lt_of_le hlt hb.size, (hb.cell (p := ⟨b, off + r, none⟩) hlt).trans hc, A', c, h1, h2, h3, h4.below hb, h5⟩
theorem Secs.img {w : World} {E : Nat → Prop} {g : Nat} {S : List (List UInt8)} (h : Secs w E g S) : Img w (some ⟨g, 0, none⟩) S := fun r bs hr => by
  obtain ⟨v, hv, hs⟩ := h.at_ hr
  exact ⟨g, 0, v, rfl, h.lt, by rw [Nat.zero_add]; exact hv, hs.mono fun _ _ => trivial⟩

/-- k of the rows copied. -/
def part (rows : List (List UInt8)) (k : Nat) : List (List UInt8) := rows.take k ++ List.replicate (rows.length - k) []
theorem part_length (rows : List (List UInt8)) (k : Nat) (h : k ≤ rows.length) : (part rows k).length = rows.length := by simp [part]; omega
theorem part_step (rows : List (List UInt8)) (k : Nat) (bs : List UInt8) (h : rows[k]? = some bs) : (part rows k).set k bs = part rows (k + 1) := by
  obtain ⟨hk, e⟩ := List.getElem?_eq_some_iff.1 h
  unfold part
  rw [List.set_append_right _ _ (by rw [List.length_take]; omega), List.length_take, Nat.min_eq_left (by omega), Nat.sub_self]
  obtain ⟨m, hm⟩ : ∃ m, rows.length - k = m + 1 := ⟨rows.length - k - 1, by omega⟩
  rw [hm, show rows.length - (k + 1) = m by omega, List.replicate_succ, List.set_cons_zero, List.take_succ_eq_append_getElem hk, e]
  simp
theorem part_same (rows : List (List UInt8)) (k : Nat) (h : rows[k]? = some []) : part rows k = part rows (k + 1) := by
  rw [← part_step rows k [] h]
  have hk := (List.getElem?_eq_some_iff.1 h).1
  apply List.ext_getElem?
  intro i
  by_cases e : i = k
  · subst e
    rw [List.getElem?_set_self (by rw [part_length _ _ (by omega)]; exact hk)]
    unfold part
    rw [List.getElem?_append_right (by rw [List.length_take]; omega), List.length_take, Nat.min_eq_left (by omega), Nat.sub_self, List.getElem?_replicate, if_pos (by omega)]
  · rw [List.getElem?_set_ne (fun e' => e e'.symm)]
theorem part_full (rows : List (List UInt8)) : part rows rows.length = rows := by simp [part]

theorem Secs.blank {w : World} {g n : Nat} (E : Nat → Prop) (rows : List (List UInt8)) (hn : rows.length = n) (h : Blk w g 32 (madeCells #[.slice none 0 0] n)) : Secs w E g (part rows 0) :=
  ⟨_, h, by rw [made_size, part_length _ _ (Nat.zero_le _), hn]; exact Nat.le_refl _, fun k b hb => by
    have hk := (List.getElem?_eq_some_iff.1 hb).1
    rw [part_length _ _ (Nat.zero_le _), hn] at hk
    have : b = [] := by
      have := List.mem_of_getElem? hb
      simp [part] at this
      exact this.2
    exact ⟨_, made_get _ n k hk, this ▸ Sec.nil _ _⟩⟩

/-- Between the rounds of copied. -/
structure CopR (w : World) (rows : List (List UInt8)) (k : Nat) (wr : World) : Prop where
  secs : Secs wr (fun j => w.heap.size < j ∧ j < wr.heap.size) w.heap.size (part rows k)
  bel : Below w.heap.size w wr
  size : w.heap.size < wr.heap.size

/-- A row copied: the row's new block, the store, the copy. -/
theorem CopR.step {w wr w3 : World} {rows : List (List UInt8)} {k L : Nat} {bs : List UInt8} (h : CopR w rows k wr) (hk : rows[k]? = some bs) (hL : bs.length = L) (hL2 : L ≤ 65536)
    (hB : Blk w3 wr.heap.size 5 (row8 bs)) (hg : ((wr.setCell ⟨w.heap.size, k, none⟩ (.slice (some ⟨wr.heap.size, 0, none⟩) L L)).alloc (.cells (mk8 L) 5)).grownBy w3 (some wr.heap.size)) : CopR w rows (k + 1) w3 := by
  have hs := h.size
  obtain ⟨ls, a, b, c⟩ := h.secs.blk
  have far : ∀ j, j < wr.heap.size → j ≠ w.heap.size → w3.heap[j]? = wr.heap[j]? := fun j h1 h2 => (hg.block j (by simp [World.setCell]; omega) (fun e => by injection e with e; omega)).trans ((Below.heap_alloc _ _ _ (by simpa [World.setCell] using h1)).trans (Below.heap_setCell _ _ _ _ h2))
  have hsz : wr.heap.size + 1 ≤ w3.heap.size := by have := hg.size; simpa [World.setCell] using this
  refine ⟨⟨ls.setIfInBounds k (.slice (some ⟨wr.heap.size, 0, none⟩) L L), ?_, ?_, fun j b' hb' => ?_⟩, ⟨hg.os.trans h.bel.os, hg.tape.trans h.bel.tape, hg.output.trans h.bel.output, ?_, fun j hj => ?_⟩, ?_⟩
  · exact ((a.set_ k _).alloc _).grown hg (fun e => by injection e with e; omega)
  · have b' := b
    rw [part_length _ _ (Nat.le_of_lt (List.getElem?_eq_some_iff.1 hk).1)] at b'
    rw [Array.size_setIfInBounds, part_length _ _ (List.getElem?_eq_some_iff.1 hk).1]; exact b'
  · rw [← part_step rows k bs hk] at hb'
    by_cases e : j = k
    · subst e
      have hj : j < (part rows j).length := by simpa using (List.getElem?_eq_some_iff.1 hb').1
      rw [List.getElem?_set_self hj] at hb'
      cases hb'
      exact ⟨_, by rw [Array.getElem?_setIfInBounds_self, if_pos (by omega)], Sec.of_blk hB ⟨hs, hB.lt⟩ (by unfold maxLen; omega) L hL⟩
    · rw [List.getElem?_set_ne (fun e' => e e'.symm)] at hb'
      obtain ⟨u, e1, A', c', q1, q2, q3, q4, q5⟩ := c j b' hb'
      refine ⟨u, by rw [Array.getElem?_setIfInBounds_ne (fun e' => e e'.symm)]; exact e1, A', c', q1, q2, q3, fun i x hi => ?_, fun p ep => ⟨(q5 p ep).1, by have := (q5 p ep).2; omega⟩⟩
      obtain ⟨p, off, ep, hp, hc⟩ := q4 i x hi
      have hpl : w.heap.size < p ∧ p < wr.heap.size := q5 ⟨p, off, none⟩ ep
      exact ⟨p, off, ep, by omega, (World.cell?_of_block (a := ⟨p, off + i, none⟩) (far p hpl.2 (by omega))).trans hc⟩
  · exact Nat.le_trans h.bel.size (by omega)
  · exact (far j (by omega) (by omega)).trans (h.bel.block j hj)
  · omega

theorem CopR.skip {w wr : World} {rows : List (List UInt8)} {k : Nat} (h : CopR w rows k wr) (hk : rows[k]? = some []) : CopR w rows (k + 1) wr := ⟨by rw [← part_same rows k hk]; exact h.secs, h.bel, h.size⟩

set_option maxHeartbeats 1000000 in
theorem copied_any (A : Option Addr) (n cap : Nat) (rows : List (List UInt8)) (w : World) (hn : rows.length = n) (hn2 : n ≤ 4096) (hA : Img w A rows) (hr : ∀ b ∈ rows, b.length ≤ 65536) :
    Calls Tryz.prog 69 #[.slice A n cap] w fun e w' => e = .returned (.slice (some ⟨w.heap.size, 0, none⟩) n n) ∧ Secs w' (fun j => w.heap.size < j ∧ j < w'.heap.size) w.heap.size rows ∧ Below w.heap.size w w' := by
  have hmk := run_mkS n hn2
  have HN := Lib.hid hn
  have HA := Lib.hid hA
  have HR := Lib.hid hr
  have HST : Hid (CopR w rows 0 (w.alloc (.cells (madeCells #[.slice none 0 0] n) 32))) := Lib.hid ⟨Secs.blank _ rows hn (Blk.new _ _ _), (Below.refl _ _).alloc (Nat.le_refl _) _, by simp⟩
  clear hn hA hr
  go_enter Tryz.func69, Tryz.ntmps69
  go_wp2
  clear hmk
  go_loopw [4, 5, 11] (fun a b i wr => ∃ k : Nat, k ≤ n ∧ i = .int .i64 (k : Int) ∧ Hid (CopR w rows k wr)) (fun _ _ i _ => n - (intOf i).toNat)
  case atStart => exact ⟨0, Nat.zero_le _, rfl, HST⟩
  case round =>
    obtain ⟨k, hk, rfl, hI⟩ := hrel
    clear HST
    by_cases hlt : k < n
    · have hd : decide ((k : Int) < (n : Int)) = true := by simpa using hlt
      obtain ⟨bs, hbs⟩ : ∃ bs, rows[k]? = some bs := ⟨_, List.getElem?_eq_getElem (by rw [HN.out]; exact hlt)⟩
      obtain ⟨b, off, v, rfl, hblt, hc, A2, c2, rfl, hl2, hm2, hby, _⟩ := HA.out k bs hbs
      have hc' := (hI.out.bel.cell (p := ⟨b, off + k, none⟩) hblt).trans hc
      have hle := HR.out bs (List.mem_of_getElem? hbs)
      obtain ⟨L, hL⟩ : ∃ L, bs.length = L := ⟨_, rfl⟩
      rw [hL] at hc' hle
      have HBS := Lib.hid hbs
      have HLL := Lib.hid hL
      clear hc
      by_cases h0 : 0 < L
      · have hd2 : decide ((0 : Int) < (L : Int)) = true := by simpa using h0
        have hmk := run_mk8 L (by omega)
        have cR : Blk ((wr.setCell ⟨w.heap.size, k, none⟩ (.slice (some ⟨wr.heap.size, 0, none⟩) L L)).alloc (.cells (mk8 L) 5)) wr.heap.size 5 (List.replicate L (bv 0)).toArray := by
          rw [← mk8_eq]; have := Blk.new (wr.setCell ⟨w.heap.size, k, none⟩ (.slice (some ⟨wr.heap.size, 0, none⟩) L L)) 5 (mk8 L); simpa [World.setCell] using this
        have hbA : Bytes ((wr.setCell ⟨w.heap.size, k, none⟩ (.slice (some ⟨wr.heap.size, 0, none⟩) L L)).alloc (.cells (mk8 L) 5)) A2 bs :=
          hby.below ((hI.out.bel.setCell (p := ⟨w.heap.size, k, none⟩) (Nat.le_refl _) _).alloc (by have := hI.out.size; simp [World.setCell]; omega) _)
        obtain ⟨w3, hcp, hR3, hg3, _⟩ := run_copy8 _ 3 wr.heap.size L L A2 c2 bs _ hbA cR (by omega) (by simp)
        rw [hL] at hcp
        simp only [goInt] at hcp
        have hR4 : Blk w3 wr.heap.size 5 (row8 bs) := by
          have e : bs.map bv ++ (List.replicate L (bv 0)).drop bs.length = bs.map bv := by rw [hL]; simp
          unfold row8; rw [← e]; exact hR3
        have HI2 := Lib.hid (hI.out.step hbs hL hle hR4 hg3)
        obtain ⟨v0, hv0, _⟩ := hI.out.secs.at_ (k := k) (b := (part rows k)[k]'(by rw [part_length _ _ (by rw [HN.out]; omega), HN.out]; exact hlt)) (List.getElem?_eq_getElem _)
        have hv1 : (wr.alloc (.cells (mk8 L) 5)).cell? ⟨w.heap.size, k, none⟩ = some v0 := (World.cell?_of_block (a := ⟨w.heap.size, k, none⟩) (Below.heap_alloc _ _ _ hI.out.size)).trans hv0
        have hf1 : (wr.alloc (.cells (mk8 L) 5)).frozen? ⟨w.heap.size, k, none⟩ = false := (World.frozen?_of_block (a := ⟨w.heap.size, k, none⟩) (Below.heap_alloc _ _ _ hI.out.size)).trans (hI.out.secs.free k)
        have hsz := hI.out.size
        clear hR3 hR4 hg3 hbA cR hby hbs hL
        go_wp2
        go_roundw
        case rel => exact ⟨k + 1, by omega, by go_num, HI2⟩
        case measure => simp [intOf]; omega
      · obtain rfl : L = 0 := by omega
        have hbe : bs = [] := List.eq_nil_of_length_eq_zero hL
        have HI2 := Lib.hid (hI.out.skip (by rw [← hbe]; exact hbs))
        clear hbs hL hbe hby hle
        go_wp2
        go_roundw
        case rel => exact ⟨k + 1, by omega, by go_num, HI2⟩
        case measure => simp [intOf]; omega
    · obtain rfl : k = n := by omega
      have hd : decide ((k : Int) < (k : Int)) = false := by simp
      have hs := hI.out.secs
      rw [← HN.out, part_full] at hs
      have HS := Lib.hid hs
      have HB := Lib.hid hI.out.bel
      clear hs
      go_wp2
      go_ret
      exact ⟨rfl, HS.out, HB.out⟩

theorem Run.image {w0 w : World} {X : Nat → Prop} {g : Nat} {D : DS} (h : Run w0 w X g D) :
    Calls Tryz.prog 23 #[.pointer (some ⟨g, 0, none⟩)] w fun e w' => e = .returned (.slice (some ⟨w.heap.size, 0, none⟩) D.S.length D.S.length) ∧ Secs w' (fun j => w.heap.size < j ∧ j < w'.heap.size) w.heap.size D.S ∧ Below w.heap.size w w' := by
  obtain ⟨⟨F, ⟨E, gl, gi, rv, hk, _⟩, _⟩, _⟩ := h
  have H := Lib.hid (copied_any (some ⟨gl, 0, none⟩) D.S.length D.S.length D.S w rfl hk.ok.hi hk.secs.img (fun b hb => by rcases hk.ok.sec b hb with rfl | h <;> simp_all))
  have c0 := hk.hd.c0
  generalize D.S.length = n at *
  clear hk
  go_enter Tryz.func23, Tryz.ntmps23
  go_wp2_with fail
  refine H.out.mono ?_
  rintro e w' ⟨rfl, hS, hb⟩
  have HS := Lib.hid hS
  have HB := Lib.hid hb
  clear hS hb
  go_wp2_with fail
  go_ret
  exact ⟨rfl, HS.out, HB.out⟩

/-- Two images are compared. -/
theorem same_short (A B : Option Addr) (n m c1 c2 : Nat) (w : World) (h : n ≠ m) :
    Calls Tryz.prog 22 #[.slice A n c1, .slice B m c2] w fun e w' => e = .returned (.bool false) ∧ w = w' := by
  have hd : ((n : Int) != (m : Int)) = true := by simp; omega
  go_enter Tryz.func22, Tryz.ntmps22
  go_wp2
  go_ret
  exact ⟨rfl, rfl⟩

set_option maxHeartbeats 1000000 in
set_option maxRecDepth 40000 in
theorem same_long (A B : Option Addr) (n c1 c2 : Nat) (xs ys : List (List UInt8)) (w : World) (h1 : xs.length = n) (h2 : ys.length = n) (hA : Img w A xs) (hB : Img w B ys) (hn : n ≤ 9223372036854775807) (hx : ∀ b ∈ xs, b.length ≤ 4503599627370496) (hy : ∀ b ∈ ys, b.length ≤ 4503599627370496) :
    Calls Tryz.prog 22 #[.slice A n c1, .slice B n c2] w fun e w' => e = .returned (.bool (decide (xs = ys))) ∧ Below w.heap.size w w' := by
  have hd : ((n : Int) != (n : Int)) = false := by simp
  have HA := Lib.hid hA
  have HB := Lib.hid hB
  have H1 := Lib.hid h1
  have H2 := Lib.hid h2
  have HX := Lib.hid hx
  have HY := Lib.hid hy
  clear hA hB h1 h2 hx hy
  go_enter Tryz.func22, Tryz.ntmps22
  go_wp2
  go_loopw [5] (fun i wr => ∃ k : Nat, k ≤ n ∧ i = .int .i64 (k : Int) ∧ Hid (Below w.heap.size w wr) ∧ Hid (xs.take k = ys.take k)) (fun i _ => n - (intOf i).toNat)
  case atStart => exact ⟨0, Nat.zero_le _, rfl, Lib.hid (Below.refl _ _), Lib.hid rfl⟩
  case round =>
    obtain ⟨k, hk, rfl, hb, he⟩ := hrel
    by_cases hlt : k < n
    · have hd2 : decide ((k : Int) < (n : Int)) = true := by simpa using hlt
      obtain ⟨x, hxk⟩ : ∃ x, xs[k]? = some x := ⟨_, List.getElem?_eq_getElem (by rw [H1.out]; exact hlt)⟩
      obtain ⟨y, hyk⟩ : ∃ y, ys[k]? = some y := ⟨_, List.getElem?_eq_getElem (by rw [H2.out]; exact hlt)⟩
      obtain ⟨b, off, v, rfl, hb1, hc, A2, c2', rfl, hl2, hm2, hby, _⟩ := HA.out k x hxk
      obtain ⟨b', off', v', rfl, hb1', hc', B2, c3', rfl, hl3, hm3, hby', _⟩ := HB.out k y hyk
      have q1 := (hb.out.cell (p := ⟨b, off + k, none⟩) hb1).trans hc
      have q2 := (hb.out.cell (p := ⟨b', off' + k, none⟩) hb1').trans hc'
      have lx := HX.out x (List.mem_of_getElem? hxk)
      have ly := HY.out y (List.mem_of_getElem? hyk)
      unfold maxLen at hm2 hm3
      have hq : ∀ m, Calls Tryz.prog 68 #[.slice A2 x.length c2', .slice B2 y.length c3'] (wr.drewN m) fun e w' => e = .returned (.bool (decide (x = y))) ∧ Below wr.heap.size wr w' := fun m =>
        (eq_any A2 B2 x.length c2' y.length c3' x y (wr.drewN m) rfl rfl ((hby.below hb.out).below ⟨rfl, rfl, rfl, Nat.le_refl _, fun _ _ => rfl⟩) ((hby'.below hb.out).below ⟨rfl, rfl, rfl, Nat.le_refl _, fun _ _ => rfl⟩) (by omega) (by omega)).mono fun e w' ⟨h1, h2⟩ => ⟨h1, (⟨rfl, rfl, rfl, Nat.le_refl _, fun _ _ => rfl⟩ : Below wr.heap.size wr (wr.drewN m)).trans h2⟩
      have HQ := Lib.hid hq
      have HXK := Lib.hid hxk
      have HYK := Lib.hid hyk
      generalize x.length = lx' at *
      generalize y.length = ly' at *
      generalize hdd : decide (x = y) = d at *
      have HDD := Lib.hid hdd
      clear hq hby hby' hc hc' hxk hyk hdd
      go_wp2
      go_still_tail 8, (by kernel_rfl)
      go_wp2_with fail
      refine (HQ.out 1).mono ?_
      rintro e w2 ⟨rfl, hb2⟩
      have HB2 := Lib.hid (hb.out.trans (hb2.mono hb.out.size))
      clear hb2
      cases d
      · have hne : Hid (decide (xs = ys) = false) := Lib.hid (by
          rw [decide_eq_false_iff_not]
          intro e
          have h1 := HXK.out
          rw [e, HYK.out] at h1
          injection h1 with h1
          have := HDD.out
          rw [decide_eq_false_iff_not] at this
          exact this h1.symm)
        go_wp2_with fail
        go_ret
        exact ⟨by rw [hne.out]; rfl, HB2.out⟩
      · have he2 : Hid (xs.take (k + 1) = ys.take (k + 1)) := Lib.hid (by
          have hx := (List.getElem?_eq_some_iff.1 HXK.out)
          have hy := (List.getElem?_eq_some_iff.1 HYK.out)
          have hxy : x = y := by simpa using HDD.out
          rw [List.take_succ_eq_append_getElem hx.1, List.take_succ_eq_append_getElem hy.1, hx.2, hy.2, he.out, hxy])
        go_wp2_with fail
        go_roundw
        case rel => exact ⟨k + 1, by omega, by go_num, HB2, he2⟩
        case measure => simp [intOf]; omega
    · obtain rfl : k = n := by omega
      have hd2 : decide ((k : Int) < (k : Int)) = false := by simp
      have heq : Hid (decide (xs = ys) = true) := Lib.hid (by
        have := he.out
        rw [List.take_of_length_le (by rw [H1.out]; exact Nat.le_refl _), List.take_of_length_le (by rw [H2.out]; exact Nat.le_refl _)] at this
        simpa using this)
      go_wp2
      go_ret
      exact ⟨by rw [heq.out]; rfl, hb.out⟩

theorem same_any (A B : Option Addr) (n m c1 c2 : Nat) (xs ys : List (List UInt8)) (w : World) (h1 : xs.length = n) (h2 : ys.length = m) (hA : Img w A xs) (hB : Img w B ys) (hn : n ≤ 9223372036854775807) (hx : ∀ b ∈ xs, b.length ≤ 4503599627370496) (hy : ∀ b ∈ ys, b.length ≤ 4503599627370496) :
    Calls Tryz.prog 22 #[.slice A n c1, .slice B m c2] w fun e w' => e = .returned (.bool (decide (xs = ys))) ∧ Below w.heap.size w w' := by
  by_cases e : n = m
  · subst e
    exact same_long A B n c1 c2 xs ys w h1 h2 hA hB hn hx hy
  · have hne : decide (xs = ys) = false := by
      rw [decide_eq_false_iff_not]
      intro e'
      rw [e', h2] at h1
      exact e h1.symm
    rw [hne]
    refine (same_short A B n m c1 c2 w e).mono ?_
    rintro e w' ⟨rfl, rfl⟩
    exact ⟨rfl, Below.refl _ _⟩

end Go.Proofs.YtolpgpphjnkehaaGreatDoor.Cac
