/- Words for memory: a block known whole; a set of bits as it lies in memory. The library's counting and its lowest bit. -/
import Derived.Test.YtfkhgdhfelfegaaDoorRows
import Derived.Test.YtfkhgdhfelfegaaDoorM
import Derived.WalkKit
import Derived.WalkSpells
import Derived.WalkLawsBesides
import Derived.Laws.MakeOwn
import Derived.Lib.Hide
import Derived.IntWalk
import Derived.LoopTactic
import Derived.Outline
namespace Go.Proofs.YtfkhgdhfelfegaaDoor
open Go.RowKit Bts

def Blk (w : World) (g : Nat) (t : TypeId) (cs : Array Value) : Prop := w.heap[g]? = some (.cells cs t (0, 0))

section
variable {w w' : World} {g : Nat} {t : TypeId} {cs : Array Value}
theorem Blk.lt (h : Blk w g t cs) : g < w.heap.size := by
  rcases Nat.lt_or_ge g w.heap.size with hlt | hge
  · exact hlt
  · unfold Blk at h; rw [Array.getElem?_eq_none hge] at h; cases h
theorem Blk.cell (h : Blk w g t cs) (i : Nat) : w.cell? ⟨g, i, none⟩ = cs[i]? := cell_of_row w g i cs t (0, 0) h
theorem Blk.frozen (h : Blk w g t cs) (i : Nat) : w.frozen? ⟨g, i, none⟩ = false := by
  unfold Blk at h
  simp [World.frozen?, h]
theorem Blk.new (w : World) (t : TypeId) (cs : Array Value) : Blk (w.alloc (.cells cs t)) w.heap.size t cs := heap_alloc_new w _
theorem Blk.alloc (h : Blk w g t cs) (o : Obj) : Blk (w.alloc o) g t cs := (Below.heap_alloc w o g h.lt).trans h
theorem Blk.set_ (h : Blk w g t cs) (i : Nat) (u : Value) : Blk (w.setCell ⟨g, i, none⟩ u) g t (cs.setIfInBounds i u) := by
  unfold Blk at h ⊢
  simp [World.setCell, Array.getElem?_modify, h]
theorem Blk.below {B : Nat} (h : Blk w g t cs) (hb : Below B w w') (hg : g < B) : Blk w' g t cs := (hb.block g hg).trans h
theorem Blk.grown {row : Option Nat} (h : Blk w g t cs) (hb : w.grownBy w' row) (hg : some g ≠ row) : Blk w' g t cs := (hb.block g h.lt hg).trans h
end

theorem grown_set (w : World) (q i : Nat) (u : Value) : w.grownBy (w.setCell ⟨q, i, none⟩ u) (some q) :=
  ⟨rfl, rfl, rfl, by simp [World.setCell], fun k _ hk => Below.heap_setCell _ _ _ _ (fun e => hk (by rw [e]))⟩
theorem grown_drew (w : World) (row : Option Nat) : w.grownBy w.drew row := ⟨rfl, rfl, rfl, Nat.le_refl _, fun _ _ _ => rfl⟩
theorem grown_drewN (w : World) (n : Nat) (row : Option Nat) : w.grownBy (w.drewN n) row := ⟨rfl, rfl, rfl, Nat.le_refl _, fun _ _ _ => rfl⟩
theorem grown_trans {a b c : World} {row : Option Nat} (h : a.grownBy b row) (k : b.grownBy c row) : a.grownBy c row :=
  ⟨k.os.trans h.os, k.tape.trans h.tape, k.output.trans h.output, Nat.le_trans h.size k.size, fun i hi hne => (k.block i (Nat.lt_of_lt_of_le hi h.size) hne).trans (h.block i hi hne)⟩
theorem below_grown {w w' : World} (h : Below w.heap.size w w') (row : Option Nat) : w.grownBy w' row := ⟨h.os, h.tape, h.output, h.size, fun k hk _ => h.block k hk⟩
theorem ret_bool {a b : Bool} (h : a = b) : Ending.returned (.bool a) = .returned (.bool b) := by rw [h]

/-- A word as a value. -/
def uv (x : Nat) : Value := .int .u64 (x : Int)

/-- The words of a set. -/
structure Wds (ws : List Nat) (n : Nat) (S : Nat → Bool) : Prop where
  len : ws.length = (n + 63) / 64
  top : n ≤ 65536
  lt : ∀ i, i < ws.length → ws.getD i 0 < 18446744073709551616
  bit : ∀ i k, i < ws.length → k < 64 → (ws.getD i 0).testBit k = S (64 * i + k)
  out : ∀ j, n ≤ j → S j = false

/-- A set of bits below n, as it lies in blocks p (its head) and q (its words). -/
structure Bs (w : World) (p q n : Nat) (S : Nat → Bool) : Prop where
  mem : ∃ (c : Nat) (ws : List Nat) (cs : Array Value), Wds ws n S ∧ Blk w p 58 #[.int .i64 (n : Int), .slice (some ⟨q, 0, none⟩) ws.length c] ∧
    ws.length ≤ c ∧ c ≤ maxLen ∧ w.heap[q]? = some (.cells cs 54 (0, 0)) ∧ ∀ i, i < ws.length → cs[i]? = some (uv (ws.getD i 0))
  ne : p ≠ q

theorem Bs.lt {w : World} {p q n : Nat} {S : Nat → Bool} (h : Bs w p q n S) : p < w.heap.size ∧ q < w.heap.size := by
  obtain ⟨c, ws, cs, _, hp, _, _, hq, _⟩ := h.mem
  exact ⟨hp.lt, (Blk.lt (cs := cs) hq)⟩
theorem Bs.top {w : World} {p q n : Nat} {S : Nat → Bool} (h : Bs w p q n S) : n ≤ 65536 := by
  obtain ⟨c, ws, cs, hw, _⟩ := h.mem
  exact hw.top
theorem Bs.out {w : World} {p q n : Nat} {S : Nat → Bool} (h : Bs w p q n S) : ∀ j, n ≤ j → S j = false := by
  obtain ⟨c, ws, cs, hw, _⟩ := h.mem
  exact hw.out
theorem Bs.kept {w w' : World} {p q n : Nat} {S : Nat → Bool} (h : Bs w p q n S) {row : Option Nat} (hg : w.grownBy w' row) (hp : some p ≠ row) (hq : some q ≠ row) : Bs w' p q n S := by
  obtain ⟨c, ws, cs, hw, h1, h2, h3, h4, h5⟩ := h.mem
  exact ⟨⟨c, ws, cs, hw, h1.grown hg hp, h2, h3, Blk.grown (cs := cs) h4 hg hq, h5⟩, h.ne⟩
theorem Bs.below {w w' : World} {p q n : Nat} {S : Nat → Bool} (h : Bs w p q n S) (hb : Below w.heap.size w w') : Bs w' p q n S :=
  h.kept (below_grown hb none) (by simp) (by simp)
theorem Bs.congr {w : World} {p q n : Nat} {S T : Nat → Bool} (h : Bs w p q n S) (e : ∀ j, S j = T j) : Bs w p q n T := by
  obtain rfl : S = T := funext e
  exact h

/-- A word of a set, on its own. -/
structure At (w : World) (p q n i : Nat) (S : Nat → Bool) (L c x : Nat) : Prop where
  hd : w.cell? ⟨p, 0, none⟩ = some (.int .i64 (n : Int))
  sl : w.cell? ⟨p, 1, none⟩ = some (.slice (some ⟨q, 0, none⟩) L c)
  wd : w.cell? ⟨q, i, none⟩ = some (.int .u64 (x : Int))
  fz : w.frozen? ⟨q, i, none⟩ = false
  lt : x < 18446744073709551616
  bit : ∀ k, k < 64 → x.testBit k = S (64 * i + k)
theorem Bs.at_ {w : World} {p q n : Nat} {S : Nat → Bool} (h : Bs w p q n S) {i : Nat} (hi : i < n) :
    ∃ L c x, L = (n + 63) / 64 ∧ L ≤ c ∧ c ≤ maxLen ∧ At w p q n (i / 64) S L c x ∧ ∀ y : Nat, y < 18446744073709551616 → ∀ T : Nat → Bool, (∀ k, k < 64 → y.testBit k = T (64 * (i / 64) + k)) → (∀ j, j / 64 ≠ i / 64 → T j = S j) → (∀ j, n ≤ j → T j = false) → Bs (w.setCell ⟨q, i / 64, none⟩ (.int .u64 (y : Int))) p q n T := by
  obtain ⟨c, ws, cs, hw, hp, hc1, hc2, hq, hcs⟩ := h.mem
  have hl := hw.len
  have hil : i / 64 < ws.length := by omega
  have hp0 := hp.cell 0
  have hp1 := hp.cell 1
  have hqc := (Blk.cell (cs := cs) hq (i / 64)).trans (hcs _ hil)
  refine ⟨ws.length, c, ws.getD (i / 64) 0, hl, hc1, hc2, ⟨hp0, hp1, hqc, Blk.frozen (cs := cs) hq _, hw.lt _ hil, fun k hk => hw.bit _ _ hil hk⟩, fun y hy T hT1 hT2 hT3 => ?_⟩
  have hne := h.ne
  refine ⟨⟨c, ws.set (i / 64) y, cs.setIfInBounds (i / 64) (uv y), ⟨by simpa using hl, hw.top, fun j hj => ?_, fun j k hj hk => ?_, hT3⟩, ?_, by simpa using hc1, hc2, Blk.set_ (cs := cs) hq _ _, fun j hj => ?_⟩, hne⟩
  · rw [List.length_set] at hj
    by_cases e : j = i / 64
    · subst e; simp [List.getD, hil, hy]
    · have := hw.lt j hj
      simpa [List.getD, Ne.symm e] using this
  · rw [List.length_set] at hj
    by_cases e : j = i / 64
    · subst e; simp only [List.getD, List.getElem?_set, if_true, hil, Option.getD_some]; exact hT1 k hk
    · have := hw.bit j k hj hk
      rw [hT2 _ (by omega), ← this]
      simp [List.getD, Ne.symm e]
  · rw [List.length_set]
    exact hp.grown (grown_set w q (i / 64) _) (fun e => hne (by injection e))
  · rw [List.length_set] at hj
    by_cases e : j = i / 64
    · subst e
      have hlt : i / 64 < cs.size := by
        rcases Nat.lt_or_ge (i / 64) cs.size with h | h
        · exact h
        · have := hcs _ hil; rw [Array.getElem?_eq_none h] at this; cases this
      simp [List.getD, hil, uv, hlt]
    · rw [Array.getElem?_setIfInBounds_ne (Ne.symm e), hcs j hj]
      simp [List.getD, Ne.symm e]

/-! ### The library's two -/

theorem and64 (a m : Nat) (ha : a < 18446744073709551616) (hm : m < 18446744073709551616) {r : Nat} (h : a &&& m = r) : bits .and .u64 (a : Int) (m : Int) = (r : Int) := by
  rw [bits_and_u64_nat a m ha hm, h]
theorem and64i (a m : Nat) (mi : Int) (e : (m : Int) = mi) (ha : a < 18446744073709551616) (hm : m < 18446744073709551616) : bits .and .u64 (a : Int) mi = ((a &&& m : Nat) : Int) := by
  rw [← e, bits_and_u64_nat a m ha hm]
theorem and127 (a : Nat) (ha : a < 9223372036854775808) {r : Nat} (h : a % 128 = r) : bits .and .i64 (a : Int) 127 = (r : Int) := by
  have h1 : (BitVec.ofInt 64 (a : Int)).toNat = a := by
    rw [BitVec.ofInt_natCast, BitVec.toNat_ofNat]; exact Nat.mod_eq_of_lt (by omega)
  have h2 : (BitVec.ofInt 64 (127 : Int)).toNat = 127 := by decide
  show IntKind.i64.wrap ((BitVec.ofInt 64 (a : Int) &&& BitVec.ofInt 64 (127 : Int)).toNat : Int) = _
  rw [BitVec.toNat_and, h1, h2, show a &&& 127 = a % 128 from Nat.and_two_pow_sub_one_eq_mod a 7, h]
  exact IntWalk.i64_in _ (by omega)

set_option maxRecDepth 100000 in
set_option maxHeartbeats 1000000 in
theorem ones_any (x : Nat) (hx : x < 18446744073709551616) (w : World) :
    Calls Tryd.prog 32 #[.int .u64 (x : Int)] w fun e w' => e = .returned (.int .i64 (card x.testBit 64 : Int)) ∧ w = w' := by
  obtain ⟨h1, h2, h3, h4, y, z, u, ey, hy, ez, hz, eu, hu, e⟩ := oc_all x hx
  have f1 : bits .and .u64 ((x : Int) / 2) 6148914691236517205 = _ := and64i (x / 2) 6148914691236517205 (6148914691236517205 : Int) rfl (by omega) (by decide)
  have g1 : bits .and .u64 (x : Int) 6148914691236517205 = _ := and64i x 6148914691236517205 (6148914691236517205 : Int) rfl (by omega) (by decide)
  obtain ⟨a1, e1⟩ : ∃ r, x / 2 &&& 6148914691236517205 = r := ⟨_, rfl⟩
  obtain ⟨b1, d1⟩ : ∃ r, x &&& 6148914691236517205 = r := ⟨_, rfl⟩
  have q1 : a1 + b1 = oc1 x := by unfold oc1; rw [e1, d1]
  rw [e1] at f1
  rw [d1] at g1
  generalize oc1 x = o1 at *
  have f2 : bits .and .u64 ((o1 : Int) / 4) 3689348814741910323 = _ := and64i (o1 / 4) 3689348814741910323 (3689348814741910323 : Int) rfl (by omega) (by decide)
  have g2 : bits .and .u64 (o1 : Int) 3689348814741910323 = _ := and64i o1 3689348814741910323 (3689348814741910323 : Int) rfl (by omega) (by decide)
  obtain ⟨a2, e2⟩ : ∃ r, o1 / 4 &&& 3689348814741910323 = r := ⟨_, rfl⟩
  obtain ⟨b2, d2⟩ : ∃ r, o1 &&& 3689348814741910323 = r := ⟨_, rfl⟩
  have q2 : a2 + b2 = oc2 o1 := by unfold oc2; rw [e2, d2]
  rw [e2] at f2
  rw [d2] at g2
  generalize oc2 o1 = o2 at *
  obtain ⟨s3, es3⟩ : ∃ r, o2 / 16 + o2 = r := ⟨_, rfl⟩
  have q3 : s3 &&& 1085102592571150095 = oc3 o2 := by unfold oc3; rw [es3]
  rw [es3] at h3
  generalize oc3 o2 = c3 at *
  have f3 := and64i s3 1085102592571150095 (1085102592571150095 : Int) rfl (by omega) (by decide)
  rw [q3] at f3
  have s1 : IntKind.u64.wrap ((a1 : Int) + (b1 : Int)) = (o1 : Int) := by rw [← q1]; exact IntWalk.u64_in _ (by omega)
  have s2 : IntKind.u64.wrap ((a2 : Int) + (b2 : Int)) = (o2 : Int) := by rw [← q2]; exact IntWalk.u64_in _ (by omega)
  have s4 : IntKind.u64.wrap ((o2 : Int) / 16 + (o2 : Int)) = (s3 : Int) := by rw [← es3]; exact IntWalk.u64_in _ (by omega)
  have s5 : IntKind.u64.wrap ((c3 : Int) + (c3 : Int) / 256) = (y : Int) := by rw [← ey]; exact IntWalk.u64_in _ (by omega)
  have s6 : IntKind.u64.wrap ((y : Int) + (y : Int) / 65536) = (z : Int) := by rw [← ez]; exact IntWalk.u64_in _ (by omega)
  have s7 : IntKind.u64.wrap ((z : Int) + (z : Int) / 4294967296) = (u : Int) := by rw [← eu]; exact IntWalk.u64_in _ (by omega)
  have s8 : IntKind.i64.wrap (u : Int) = (u : Int) := IntWalk.i64_in _ (by omega)
  have f4 := and127 u (by omega) e
  generalize card x.testBit 64 = r at *
  clear e e1 d1 e2 d2 es3 q1 q2 q3 h1 h2 h3 h4 ey hy ez hz eu hu hx
  go_enter Tryd.func32, Tryd.ntmps32
  go_wp2
  go_ret
  exact ⟨rfl, rfl⟩

end Go.Proofs.YtfkhgdhfelfegaaDoor
