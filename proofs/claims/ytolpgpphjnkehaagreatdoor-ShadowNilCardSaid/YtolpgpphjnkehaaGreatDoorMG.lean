/- The newest root, load, Open, Evict, Abort. -/
import Derived.Test.YtolpgpphjnkehaaGreatDoorMF
import Derived.OrdersHeld
import Derived.Deep.RegionHeld3
/- shadow: readRoot: where a root is. -/
namespace Go.Proofs.YtolpgpphjnkehaaGreatDoor
set_option maxRecDepth 20000
open Go.RowKit Cac Dsk
open Pag (PM IntsO)
theorem rootBlk_is (ep : Nat) (P : List Nat) (M : List UInt8) (hP : P.length = 9) (hM : M.length ≤ 200) : Blo.IsBlk (rootBlk ep P M) 1 (rootB ep P M) := ⟨by decide, by decide, by rw [rootB_len ep P M hP]; omega, rfl⟩
theorem rootB_magic (ep : Nat) (P : List Nat) (M : List UInt8) : (rootB ep P M).take 4 = magic := by unfold rootB; simp [magic]
theorem rootB_rest (ep : Nat) (P : List Nat) (M : List UInt8) (hP : P.length = 9) : (rootB ep P M).drop 26 = M := by
  unfold rootB
  have e : (magic ++ le4 ep ++ Pag.Pgs.bytes2 P).length = 26 := by rw [List.length_append, bytes2_len, hP]; simp [magic, le4_len]
  rw [List.drop_append_of_le_length (by omega), List.drop_of_length_le (by omega)]
  rfl
theorem rootB_ep (ep : Nat) (P : List Nat) (M : List UInt8) {k : Nat} (hk : k < 4) : (rootB ep P M)[4 + k]? = some (UInt8.ofNat (ep / 256 ^ k)) := by
  unfold rootB
  rw [List.append_assoc, List.append_assoc, List.getElem?_append_right (by simp [magic]), List.getElem?_append_left (by rw [le4_len]; simp [magic]; omega)]
  simp [magic, le4, hk]
theorem bytes2_get : ∀ (P : List Nat) (i x : Nat), P[i]? = some x → (Pag.Pgs.bytes2 P)[2 * i]? = some (UInt8.ofNat x) ∧ (Pag.Pgs.bytes2 P)[2 * i + 1]? = some (UInt8.ofNat (x / 256))
  | [], i, x, h => by simp at h
  | y :: r, 0, x, h => by simp at h; subst h; exact ⟨rfl, rfl⟩
  | y :: r, i + 1, x, h => by
    have := bytes2_get r i x (by simpa using h)
    unfold Pag.Pgs.bytes2 at this ⊢
    rw [List.flatMap_cons, show 2 * (i + 1) = 2 * i + 1 + 1 by omega]
    simpa using this
theorem rootB_part (ep : Nat) (P : List Nat) (M : List UInt8) {i x : Nat} (h : P[i]? = some x) : (rootB ep P M)[8 + 2 * i]? = some (UInt8.ofNat x) ∧ (rootB ep P M)[8 + 2 * i + 1]? = some (UInt8.ofNat (x / 256)) := by
  have hi := (List.getElem?_eq_some_iff.1 h).1
  obtain ⟨h1, h2⟩ := bytes2_get P i x h
  have e : (magic ++ le4 ep).length = 8 := by simp [magic, le4_len]
  unfold rootB
  refine ⟨?_, ?_⟩
  · rw [List.append_assoc, List.getElem?_append_right (by omega), e, show 8 + 2 * i - 8 = 2 * i by omega, List.getElem?_append_left (by rw [bytes2_len]; omega)]
    exact h1
  · rw [List.append_assoc, List.getElem?_append_right (by omega), e, show 8 + 2 * i + 1 - 8 = 2 * i + 1 by omega, List.getElem?_append_left (by rw [bytes2_len]; omega)]
    exact h2
theorem step_store_row {P : Program} {ops : Array Oper} {o : Oper} {a : Act} {w : World} {K : Act → World → Prop} {Q : Exit → Act → World → Prop} {E : Prop} (hgd : o.guard = none) (ty : TypeId) (x y : Operand) (ho : o.op = .store ty x y)
    (g : Nat) (cells : Array Value) (hx : a.eval x = .pointer (some ⟨g, 0, none⟩)) (hy : a.eval y = .agg cells)
    (t : TypeId) (old : Array Value) (hg : w.heap[g]? = some (.cells old t (0, 0))) (hi : (P.info? ty).map (·.size) = some cells.size)
    (hold : old.size = cells.size) (h1 : cells.all (·.oneCell') = true)
    (h : K (a.put o.dst undef) (w.setRow g cells)) : if Region.wanted o (yielded ops a.tmps) = true then Oper.wp P o a w K Q else E := by
  rw [if_pos (show Region.wanted o (yielded ops a.tmps) = true by simp [Region.wanted, hgd])]
  exact wp_store_row ty x y ho g cells hx hy t old hg hi hold h1 h
/-- Behind the literal: a root whose epoch and parts are read so far. -/
structure R4 (M : List UInt8) (w1 wx : World) (g8 pg : Nat) (A : Option Addr) (c : Nat) (e : Nat) (Q : List Nat) : Prop where
  blk : Blk wx g8 108 (rootRow e Q (.pointer (some ⟨pg, 0, none⟩)) (.slice A M.length c))
  pm : PM wx pg Pag.Pgs.none_
  ge : w1.heap.size ≤ g8 ∧ w1.heap.size ≤ pg ∧ g8 ≠ pg
  cap : M.length ≤ c ∧ c ≤ maxLen
  by_ : Bytes wx A M
  ad : ∀ p : Addr, A = some p → ∃ q, p = ⟨q, 0, none⟩ ∧ w1.heap.size ≤ q ∧ q < wx.heap.size ∧ q ≠ g8 ∧ q ≠ pg
  nil_ : A = none → M.length = 0 ∧ c = 0
  bel : Below w1.heap.size w1 wx
theorem R4.of {M : List UInt8} {wd wl : World} {g8 pg c : Nat} {A : Option Addr} (hb : Blk wl g8 108 zeroRow) (hp : PM wl pg Pag.Pgs.none_) (hW : Below wd.heap.size wd wl) (h1 : wd.heap.size ≤ g8) (h2 : wd.heap.size ≤ pg) (h3 : g8 ≠ pg) (hc : M.length ≤ c ∧ c ≤ maxLen) (hby : Bytes wl A M)
    (hA : ∀ p : Addr, A = some p → ∃ q, p = ⟨q, 0, none⟩ ∧ wd.heap.size ≤ q ∧ q < wl.heap.size ∧ q ≠ g8 ∧ q ≠ pg) (hn : A = none → M.length = 0 ∧ c = 0) :
    R4 M wd (wl.setRow g8 (rootRow 0 (List.replicate 9 0) (.pointer (some ⟨pg, 0, none⟩)) (.slice A M.length c))) g8 pg A c 0 (List.replicate 9 0) :=
  ⟨setRow_heap wl g8 zeroRow _ _ _ hb, hp.same (setRow_other wl g8 pg _ (fun e => h3 e.symm)), ⟨h1, h2, h3⟩, hc, hby.same (by simp) (fun p e _ => setRow_other wl g8 _ _ (by obtain ⟨q, rfl, _, _, h, _⟩ := hA p e; exact h)), fun p e => by
    obtain ⟨q, e1, k1, k2, k3, k4⟩ := hA p e
    exact ⟨q, e1, k1, by simpa using k2, k3, k4⟩, hn, below_setRow hW h1 _⟩
theorem exec_load_row {P : Program} {o : Oper} {a : Act} {w : World} (ty : TypeId) (x : Operand) (ho : o.op = .load ty x)
    (g : Nat) (hx : a.eval x = .pointer (some ⟨g, 0, none⟩)) (t : TypeId) (cs : Array Value) (fr : Nat × Nat) (d : TypeDesc) (hg : w.heap[g]? = some (.cells cs t fr))
    (hu : P.underlying ty = some d) (hd : (match d with | .struct _ | .array _ _ => true | _ => false) = true) (hi : (P.info? ty).map (·.size) = some cs.size) : (execOp a.eval o).run P w = .ok (.value (.agg cs)) w := by
  unfold execOp
  simp only [ho, hx, Instr.loadAt, Instr.sureAddr, Sem.run_bind, Sem.run_pure, Result.andThen_ok, run_loadVar_row w g t ty cs fr d hg hu hd hi]
section
variable {M : List UInt8} {w1 wd wx : World} {g8 pg c e : Nat} {A : Option Addr} {Q : List Nat}
theorem R4.base (h : R4 M wd wx g8 pg A c e Q) (hb : Below w1.heap.size w1 wd) : R4 M w1 wx g8 pg A c e Q :=
  ⟨h.blk, h.pm, ⟨Nat.le_trans hb.size h.ge.1, Nat.le_trans hb.size h.ge.2.1, h.ge.2.2⟩, h.cap, h.by_, fun p ep => by
    obtain ⟨q, e1, k1, k2⟩ := h.ad p ep
    exact ⟨q, e1, Nat.le_trans hb.size k1, k2⟩, h.nil_, hb.trans (h.bel.mono hb.size)⟩
theorem R4.drew (h : R4 M w1 wx g8 pg A c e Q) : R4 M w1 wx.drew g8 pg A c e Q := ⟨h.blk.drew, h.pm.below (Below.refl _ wx).drew, h.ge, h.cap, h.by_.below (Below.refl _ wx).drew, h.ad, h.nil_, h.bel.drew⟩
theorem R4.turn (h : R4 M w1 wx g8 pg A c e Q) (k : Nat) (x : Value) {e' : Nat} {Q' : List Nat} (hr : (rootRow e Q (.pointer (some ⟨pg, 0, none⟩)) (.slice A M.length c)).setIfInBounds k x = rootRow e' Q' (.pointer (some ⟨pg, 0, none⟩)) (.slice A M.length c)) : R4 M w1 (wx.setCell ⟨g8, k, none⟩ x) g8 pg A c e' Q' := by
  have hb := Blk.set_ h.blk k x
  rw [hr] at hb
  have ho : ∀ j, j ≠ g8 → (wx.setCell ⟨g8, k, none⟩ x).heap[j]? = wx.heap[j]? := fun j hj => Below.heap_setCell _ _ _ _ hj
  have hs : (wx.setCell ⟨g8, k, none⟩ x).heap.size = wx.heap.size := by simp [World.setCell]
  exact ⟨hb, h.pm.same (ho _ (fun e => h.ge.2.2 e.symm)), h.ge, h.cap, h.by_.same (by rw [hs]; exact Nat.le_refl _) (fun p ep _ => by
    obtain ⟨q, rfl, _, _, h4, _⟩ := h.ad p ep
    exact ho q h4), fun p ep => by
    obtain ⟨q, e1, k1, k2, k3⟩ := h.ad p ep
    exact ⟨q, e1, k1, by rw [hs]; exact k2, k3⟩, h.nil_, h.bel.setCell (p := ⟨g8, k, none⟩) h.ge.1 _⟩
theorem rootRow_ep (e e' : Nat) (Q : List Nat) (pv mv : Value) : (rootRow e Q pv mv).setIfInBounds 0 (.int .u32 (e' : Int)) = rootRow e' Q pv mv := by unfold rootRow; simp
theorem rootRow_p (e : Nat) (Q : List Nat) (pv mv : Value) (i x : Nat) (hi : i < Q.length) : (rootRow e Q pv mv).setIfInBounds (1 + i) (.int .i64 (x : Int)) = rootRow e (Q.set i x) pv mv := by
  unfold rootRow
  rw [List.setIfInBounds_toArray]
  congr 1
  rw [List.set_append_left _ _ (by simp; omega), List.set_append_right _ _ (by simp), List.map_set]
  simp
theorem R4.e0 (h : R4 M w1 wx g8 pg A c e Q) : wx.cell? ⟨g8, 0, none⟩ = some (.int .u32 (e : Int)) := (Blk.cell h.blk 0).trans (by unfold rootRow; simp)
end
theorem u32_or (a b : Nat) (ha : a < 4294967296) (hb : b < 4294967296) : bits .or .u32 (a : Int) (b : Int) = ((a ||| b : Nat) : Int) := by
  have hx : a ||| b < 2 ^ 32 := Nat.or_lt_two_pow (by omega) (by omega)
  have h1 : (BitVec.ofInt 32 (a : Int)).toNat = a := by
    rw [BitVec.ofInt_natCast, BitVec.toNat_ofNat]; exact Nat.mod_eq_of_lt (by omega)
  have h2 : (BitVec.ofInt 32 (b : Int)).toNat = b := by
    rw [BitVec.ofInt_natCast, BitVec.toNat_ofNat]; exact Nat.mod_eq_of_lt (by omega)
  show IntKind.u32.wrap ((BitVec.ofInt 32 (a : Int) ||| BitVec.ofInt 32 (b : Int)).toNat : Int) = _
  rw [BitVec.toNat_or, h1, h2, IntKind.wrap_u32]
  omega
theorem i64_or (a b : Nat) (ha : a < 4294967296) (hb : b < 4294967296) : bits .or .i64 (a : Int) (b : Int) = ((a ||| b : Nat) : Int) := by
  have hx : a ||| b < 2 ^ 32 := Nat.or_lt_two_pow (by omega) (by omega)
  have h1 : (BitVec.ofInt 64 (a : Int)).toNat = a := by
    rw [BitVec.ofInt_natCast, BitVec.toNat_ofNat]; exact Nat.mod_eq_of_lt (by omega)
  have h2 : (BitVec.ofInt 64 (b : Int)).toNat = b := by
    rw [BitVec.ofInt_natCast, BitVec.toNat_ofNat]; exact Nat.mod_eq_of_lt (by omega)
  show IntKind.i64.wrap ((BitVec.ofInt 64 (a : Int) ||| BitVec.ofInt 64 (b : Int)).toNat : Int) = _
  rw [BitVec.toNat_or, h1, h2, IntKind.wrap_i64]
  omega
theorem ep_round (ep k b : Nat) (hk : k < 4) (hb : b = ep / 256 ^ k % 256) : bits .or .u32 ((ep % 256 ^ k : Nat) : Int) (IntKind.u32.wrap ((b : Int) * 2 ^ (8 * k))) = ((ep % 256 ^ (k + 1) : Nat) : Int) := by
  have h256 : (256 : Nat) ^ k = 2 ^ (8 * k) := by rw [show (256 : Nat) = 2 ^ 8 by decide, ← Nat.pow_mul]
  have hx : ep % 256 ^ k < 256 ^ k := Nat.mod_lt _ (Nat.pow_pos (by decide))
  have hb2 : b < 256 := by omega
  have hp : (256 : Nat) ^ k ≤ 256 ^ 3 := Nat.pow_le_pow_right (by decide) (by omega)
  have hy : b * 256 ^ k < 4294967296 := by
    have h1 : b * 256 ^ k ≤ 255 * 256 ^ 3 := Nat.mul_le_mul (by omega) hp
    omega
  have e : ((b : Int) * 2 ^ (8 * k)) = ((b * 256 ^ k : Nat) : Int) := by rw [h256]; push_cast; rfl
  rw [e, IntKind.wrap_u32, Int.emod_eq_of_lt (by omega) (by omega), u32_or _ _ (by omega) hy, Nat.pow_succ, Nat.mod_mul, ← hb]
  congr 1
  rw [h256] at hx ⊢
  rw [Nat.or_comm, ← Nat.shiftLeft_eq, ← Nat.shiftLeft_add_eq_or_of_lt hx, Nat.add_comm, Nat.shiftLeft_eq]
  congr 1
  exact Nat.mul_comm _ _
theorem part_round (x : Nat) (hx : x < 65536) : bits .or .i64 (((UInt8.ofNat x).toNat : Nat) : Int) (IntKind.i64.wrap ((((UInt8.ofNat (x / 256)).toNat : Nat) : Int) * 256)) = (x : Int) := by
  have h1 : (UInt8.ofNat x).toNat = x % 256 := UInt8.toNat_ofNat'
  have h2 : (UInt8.ofNat (x / 256)).toNat = x / 256 := by rw [UInt8.toNat_ofNat']; exact Nat.mod_eq_of_lt (by omega)
  rw [h1, h2, IntWalk.i64_in _ ⟨by omega, by omega⟩]
  have e : (((x / 256 : Nat) : Int) * 256) = ((x / 256 * 256 : Nat) : Int) := by push_cast; rfl
  rw [e, i64_or _ _ (by omega) (by omega)]
  congr 1
  have hlt : x % 256 < 2 ^ 8 := by omega
  rw [show (256 : Nat) = 2 ^ 8 by decide, ← Nat.shiftLeft_eq, Nat.or_comm, ← Nat.shiftLeft_add_eq_or_of_lt (by omega), Nat.shiftLeft_eq]
  omega
/-- May a root stand in a sector? -/
def rootOk (ep s : Nat) : Bool := decide (0 < ep ∧ ep % 2 = s)
/-- Parts that are read so far. -/
def partTo (P : List Nat) (k : Nat) : List Nat := P.take k ++ List.replicate (9 - k) 0
theorem partTo_len (P : List Nat) (k : Nat) (hP : P.length = 9) (hk : k ≤ 9) : (partTo P k).length = 9 := by unfold partTo; rw [List.length_append, List.length_take, List.length_replicate]; omega
theorem partTo_set (P : List Nat) (k x : Nat) (hx : P[k]? = some x) (hP : P.length = 9) : (partTo P k).set k x = partTo P (k + 1) := by
  obtain ⟨hk, e⟩ := List.getElem?_eq_some_iff.1 hx
  unfold partTo
  rw [List.set_append_right _ _ (by rw [List.length_take]; omega), List.length_take, Nat.min_eq_left (by omega), Nat.sub_self, show 9 - k = (9 - (k + 1)) + 1 by omega, List.replicate_succ, List.set_cons_zero, List.take_succ_eq_append_getElem hk, e, List.append_assoc]
  rfl
section
variable {w0 w w' : World} {X : Nat → Prop} {dg nn t : Nat} {D : DS}
set_option maxHeartbeats 1000000 in
theorem readRoot_some (h : Run w0 w X dg D) (hD : Hale nn t D) (hn : 16 ≤ nn) (hT : Blo.Tab w0) (s : Nat) (hs : s < 2) (ep : Nat) (P : List Nat) (M : List UInt8) (hP : P.length = 9) (hM : M.length ≤ 200) (hep : ep < 4294967296) (hPl : ∀ x ∈ P, x < 65536) (hz : readS D s = rootBlk ep P M) :
    Calls Tryz.prog 110 #[.pointer (some ⟨dg, 0, none⟩), .int .i64 (s : Int)] w fun e w' => ∃ pg A c, e = .returned (.tuple #[.agg (rootRow ep P (.pointer (some ⟨pg, 0, none⟩)) (.slice A M.length c)), .bool (rootOk ep s)]) ∧
      PM w' pg Pag.Pgs.none_ ∧ w.heap.size ≤ pg ∧ (M.length ≤ c ∧ c ≤ maxLen) ∧ Bytes w' A M ∧ (∀ p : Addr, A = some p → ∃ q, p = ⟨q, 0, none⟩ ∧ w.heap.size ≤ q ∧ q < w'.heap.size ∧ q ≠ pg) ∧ (A = none → M.length = 0 ∧ c = 0) ∧ Below w.heap.size w w' := by
  obtain ⟨wA, hwA⟩ : ∃ wA, w.alloc (.cells #[.int .u32 0, .int .i64 0, .int .i64 0, .int .i64 0, .int .i64 0, .int .i64 0, .int .i64 0, .int .i64 0, .int .i64 0, .int .i64 0, .pointer none, .slice none 0 0] 108) = wA := ⟨_, rfl⟩
  have hbA : Below w.heap.size w wA := by rw [← hwA]; exact (Below.refl _ _).alloc (Nat.le_refl _) _
  have hblk : Blk wA w.heap.size 108 zeroRow := by rw [← hwA]; exact Blk.new _ _ _
  have H1 := Lib.hid (readBlock_any (h.below hbA) hD hT (s : Int) 1 (by omega))
  have HK := Lib.hid (And.intro hbA (And.intro hblk (And.intro (show readS D ((s : Int).toNat) = rootBlk ep P M by rw [Int.toNat_natCast]; exact hz) (show 0 ≤ (s : Int) ∧ (s : Int) < nn by omega))))
  have HPM := Lib.hid (And.intro hP (And.intro hM (And.intro hep hPl)))
  have HWQ := Lib.hid hwA
  have hlen := rootB_len ep P M hP
  clear h hD hT hbA hblk hwA hz hn hep hPl
  go_enter Tryz.func110, Tryz.ntmps110
  go_wp2_with fail
  rw [HWQ.out]
  refine H1.out.mono ?_
  rintro e w1 ⟨hh, k4⟩
  obtain ⟨g, rfl, k2, k3⟩ : ∃ g, e = .returned (.tuple #[.slice (some ⟨g, 0, none⟩) (rootB ep P M).length (rootB ep P M).length, .bool true]) ∧ Blk w1 g 5 (row8 (rootB ep P M)) ∧ wA.heap.size ≤ g := by
    have hb0 := rootBlk_is ep P M HPM.out.1 HPM.out.2.1
    rcases hh with ⟨g, k, body, _, hb, he, h1, h2⟩ | ⟨hno, _⟩
    · rw [HK.out.2.2.1] at hb
      obtain ⟨rfl, rfl⟩ := Blo.isBlk_one hb0 hb
      exact ⟨g, he, h1, h2⟩
    · rcases hno with hno | hno
      · exact absurd HK.out.2.2.2 hno
      · rw [HK.out.2.2.1] at hno
        exact absurd hb0 (hno 1 _)
  have hstr := run_str8L w1 (some ⟨g, 0, none⟩) 4 (rootB ep P M).length magic rfl (fun j c hj => by
    have h9 : (rootB ep P M)[j]? = some c := by
      rw [← rootB_magic ep P M, List.getElem?_take] at hj
      split at hj
      · exact hj
      · cases hj
    exact ⟨g, 0, rfl, k2.lt, by rw [Nat.zero_add]; exact (k2.cell j).trans (row8_get j c h9)⟩)
  have hmg : ((str magic).toList == [97, 117, 109, 49]) = true := by rw [str_toList]; rfl
  have HL := Lib.hid hlen
  obtain ⟨n, hn⟩ : ∃ n, (rootB ep P M).length = n := ⟨_, rfl⟩
  rw [hn] at hstr hlen ⊢
  have hd : decide ((n : Int) < 26) = false := by simp; omega
  have hn4 : ¬ (n : Int) < 4 := by omega
  have hn26 : ¬ (n : Int) < 26 := by omega
  have HN := Lib.hid (And.intro hlen hn)
  obtain ⟨m, hm⟩ : ∃ m, M.length = m := ⟨_, rfl⟩
  have HLM := Lib.hid hm
  obtain ⟨of, hof⟩ : ∃ of, (if m = 0 then 0 else 26) = of := ⟨_, rfl⟩
  have HNM : Hid (n = 26 + m) := Lib.hid (by omega)
  have HOF := Lib.hid hof
  clear hlen hn hm hof
  have HKK := Lib.hid (And.intro k2 (And.intro k3 k4))
  clear hh k2 k3 k4
  have HCL : Hid (∀ W, Below w1.heap.size w1 W → Calls Tryz.prog 80 #[.slice (some ⟨g, of, none⟩) m m] W fun e w' => ∃ A' c', e = .returned (.slice A' m c') ∧ (m ≤ c' ∧ c' ≤ maxLen) ∧ Bytes w' A' M ∧ (∀ p : Addr, A' = some p → ∃ q, p = ⟨q, 0, none⟩ ∧ W.heap.size ≤ q ∧ q < w'.heap.size) ∧ (A' = none → m = 0 ∧ c' = 0) ∧ Below W.heap.size W w') := Lib.hid (fun W hW => by
    refine clone_gen (some ⟨g, of, none⟩) m m M W HLM.out (by have := HPM.out.2.1; have := HLM.out; omega) ?_ (fun e => by cases e) (fun p e => ⟨g, of, by cases e; rfl⟩)
    intro j x hx
    have hjm := (List.getElem?_eq_some_iff.1 hx).1
    have hof := HOF.out
    rw [if_neg (by have := HLM.out; omega)] at hof
    have hB := HKK.out.1.below hW HKK.out.1.lt
    refine ⟨g, of, rfl, hB.lt, ?_⟩
    rw [← hof]
    refine (hB.cell (26 + j)).trans (row8_get _ x ?_)
    rw [← rootB_rest ep P M HPM.out.1, List.getElem?_drop] at hx
    exact hx)
  go_upto_region 4 with fail
  go_cut [8] from 32 to 36 (fun p wx => ∃ g8 pg A c, p = .pointer (some ⟨g8, 0, none⟩) ∧ Hid (R4 M w1 wx g8 pg A c 0 (List.replicate 9 0)))
  case first =>
    refine wp_region_held_drew (S := fun _ => True) (by kernel_rfl) trivial (fun hHeld => ?_)
    have Twd : Below w1.heap.size w1 w1.drew := (Below.refl _ w1).drew
    generalize w1.drew = wd at hHeld Twd ⊢
    refine Blo.takeY 1 (some 33) rfl rfl (by kernel_rfl) (by kernel_rfl) (by kernel_rfl) (fun _ _ _ h => h) (by rfl) (v := _) (by (intro _ hSw; (try dsimp only at hSw); go_simp; try with_reducible rfl)) hHeld ?_
    simp only [Act.put, List.setIfInBounds_toArray, List.set_cons_zero, List.set_cons_succ]
    refine Blo.takeY 2 (some 34) rfl rfl (by kernel_rfl) (by kernel_rfl) (by kernel_rfl) (fun _ _ _ h => h) (by rfl) (v := .slice (some ⟨g, of, none⟩) m m) (by
      intro _ hSw
      have hnm := HNM.out
      subst hnm
      have hof := HOF.out
      subst hof
      have q1 : (26 : Int) ≤ ((26 + m : Nat) : Int) := by omega
      have q2 : ((26 + m : Nat) : Int) - 26 = (m : Int) := by omega
      have q3 : 26 + m - 26 = m := by omega
      have q4 : 26 ≤ 26 + m := by omega
      go_simp
      rw [if_pos (by omega)]
      split <;> rfl) hHeld ?_
    simp only [Act.put, List.setIfInBounds_toArray, List.set_cons_zero, List.set_cons_succ]
    refine wpAnyH_ready (rs := [0, 5]) (by kernel_rfl) (by simp) ?_
    refine AllReadyH.cons rfl (fun K hK => ?_) (AllReadyH.cons rfl (fun K hK => ?_) AllReadyH.nil)
    · go_simp
      refine (Pag.new_any _).mono ?_
      rintro e vN ⟨rfl, n1, n2⟩
      obtain ⟨pg, hpg⟩ : ∃ pg, wd.heap.size = pg := ⟨_, rfl⟩
      have HNW := Lib.hid (And.intro n1 (And.intro n2 hpg))
      rw [hpg]
      clear n1 n2 hpg
      have TvN : Below w1.heap.size w1 vN := Twd.trans ((HNW.out.2.1).mono Twd.size)
      refine hK.out _ _ trivial (fun hHeld => ?_)
      clear hK K
      refine wpAnyH_ready (rs := [3, 5]) (by kernel_rfl) (by simp) ?_
      refine AllReadyH.cons rfl (fun K hK => ?_) (AllReadyH.cons rfl (fun K hK => ?_) AllReadyH.nil)
      · go_simp
        refine (HCL.out vN TvN).mono ?_
        rintro e vC ⟨A', c', rfl, n1⟩
        have HCC := Lib.hid n1
        clear n1
        have TvC : Below w1.heap.size w1 vC := TvN.trans ((HCC.out.2.2.2.2).mono TvN.size)
        refine hK.out _ _ trivial (fun hHeld => ?_)
        clear hK K
        refine Blo.takeY 4 (some 36) rfl rfl (by kernel_rfl) (by kernel_rfl) (by kernel_rfl) (fun _ _ _ h => h) (by rfl) (v := _) (by (intro _ hSw; (try dsimp only at hSw); go_simp; try with_reducible rfl)) hHeld ?_
        simp only [Act.put, List.setIfInBounds_toArray, List.set_cons_zero, List.set_cons_succ]
        refine wpAnyH_ready (rs := [5]) (by kernel_rfl) (by simp) ?_
        refine AllReadyH.cons rfl (fun K hK => ?_) AllReadyH.nil
        · obtain ⟨vA, hvA⟩ : ∃ v, vC.alloc (.cells #[.int .u32 0, .int .i64 0, .int .i64 0, .int .i64 0, .int .i64 0, .int .i64 0, .int .i64 0, .int .i64 0, .int .i64 0, .int .i64 0, .pointer none, .slice none 0 0] 108) = v := ⟨_, rfl⟩
          have bvA : Below vC.heap.size vC vA := by rw [← hvA]; exact (Below.refl _ _).alloc (Nat.le_refl _) _
          have BvA : Blk vA vC.heap.size 108 zeroRow := by rw [← hvA]; exact Blk.new _ _ _
          obtain ⟨g8, hg8⟩ : ∃ g8, vC.heap.size = g8 := ⟨_, rfl⟩
          have HAL := Lib.hid (And.intro BvA (And.intro bvA (And.intro hg8 hvA)))
          clear hvA hg8 bvA BvA
          go_simp
          (try rw [HAL.out.2.2.2])
          (try rw [HAL.out.2.2.1])
          have TvA : Below w1.heap.size w1 vA := TvC.trans ((HAL.out.2.1).mono TvC.size)
          refine hK.out _ _ trivial (fun hHeld => ?_)
          clear hK K
          have bA := (Below.refl vA.heap.size vA)
          have bN := (((Below.refl vN.heap.size vN).trans ((HCC.out.2.2.2.2).mono (Below.refl vN.heap.size vN).size)).trans ((HAL.out.2.1).mono ((Below.refl vN.heap.size vN).trans ((HCC.out.2.2.2.2).mono (Below.refl vN.heap.size vN).size)).size))
          have bC := ((Below.refl vC.heap.size vC).trans ((HAL.out.2.1).mono (Below.refl vC.heap.size vC).size))
          have bW := ((((Below.refl wd.heap.size wd).trans ((HNW.out.2.1).mono (Below.refl wd.heap.size wd).size)).trans ((HCC.out.2.2.2.2).mono ((Below.refl wd.heap.size wd).trans ((HNW.out.2.1).mono (Below.refl wd.heap.size wd).size)).size)).trans ((HAL.out.2.1).mono (((Below.refl wd.heap.size wd).trans ((HNW.out.2.1).mono (Below.refl wd.heap.size wd).size)).trans ((HCC.out.2.2.2.2).mono ((Below.refl wd.heap.size wd).trans ((HNW.out.2.1).mono (Below.refl wd.heap.size wd).size)).size)).size))
          have hB8 : Blk vA g8 108 zeroRow := by have h9 := HAL.out.1; rw [HAL.out.2.2.1] at h9; exact h9.below bA h9.lt
          have HB8 : Hid (vA.heap[g8]? = some (.cells zeroRow 108 (0, 0))) := Lib.hid hB8
          have hPN : PM vA pg Pag.Pgs.none_ := by have h9 := HNW.out.1; rw [HNW.out.2.2] at h9; exact h9.below bN
          have hR4 : R4 M wd (vA.setRow g8 (rootRow 0 (List.replicate 9 0) (.pointer (some ⟨pg, 0, none⟩)) (.slice A' M.length c'))) g8 pg A' c' 0 (List.replicate 9 0) := by
            have e1 := HAL.out.2.2.1
            have e2 := HNW.out.2.2
            have s1 := HAL.out.2.1.size
            have s2 := HNW.out.2.1.size
            have s3 := HCC.out.2.2.2.2.size
            have l1 := HAL.out.1.lt
            have l2 := HNW.out.1.blk.lt
            exact R4.of hB8 hPN bW (by omega) (by omega) (by omega) (by rw [HLM.out]; exact HCC.out.1) (HCC.out.2.1.below bC) (fun p e => by
              obtain ⟨q, e1', h1, h2⟩ := HCC.out.2.2.1 p e
              have := bC.size
              exact ⟨q, e1', by omega, by omega, by omega, by omega⟩) (fun e => by rw [HLM.out]; exact HCC.out.2.2.2.1 e)
          have HR4 := Lib.hid (hR4.base Twd)
          clear bA bN bC bW hB8 hPN hR4
          refine wpAnyH_ready (rs := [6]) (by kernel_rfl) (by simp) ?_
          refine AllReadyH.cons rfl (fun K hK => ?_) AllReadyH.nil
          refine step_store_row rfl 108 (.tmp 8) (.tmp 36) rfl g8 (rootRow 0 (List.replicate 9 0) (.pointer (some ⟨pg, 0, none⟩)) (.slice A' M.length c')) rfl (by rw [HLM.out]; rfl) 108 _ HB8.out root12 rfl (rootRow_one _ _ _ _ rfl rfl) ?_
          refine hK.out _ _ trivial (fun hHeld => ?_)
          clear hK K
          refine wpAnyH_done (by kernel_rfl) ?_ _
          clear hHeld
          go_wp2_with fail
          go_meet
          exact ⟨g8, pg, A', c', rfl, HR4⟩
      · obtain ⟨vA, hvA⟩ : ∃ v, vN.alloc (.cells #[.int .u32 0, .int .i64 0, .int .i64 0, .int .i64 0, .int .i64 0, .int .i64 0, .int .i64 0, .int .i64 0, .int .i64 0, .int .i64 0, .pointer none, .slice none 0 0] 108) = v := ⟨_, rfl⟩
        have bvA : Below vN.heap.size vN vA := by rw [← hvA]; exact (Below.refl _ _).alloc (Nat.le_refl _) _
        have BvA : Blk vA vN.heap.size 108 zeroRow := by rw [← hvA]; exact Blk.new _ _ _
        obtain ⟨g8, hg8⟩ : ∃ g8, vN.heap.size = g8 := ⟨_, rfl⟩
        have HAL := Lib.hid (And.intro BvA (And.intro bvA (And.intro hg8 hvA)))
        clear hvA hg8 bvA BvA
        go_simp
        (try rw [HAL.out.2.2.2])
        (try rw [HAL.out.2.2.1])
        have TvA : Below w1.heap.size w1 vA := TvN.trans ((HAL.out.2.1).mono TvN.size)
        refine hK.out _ _ trivial (fun hHeld => ?_)
        clear hK K
        refine wpAnyH_ready (rs := [3]) (by kernel_rfl) (by simp) ?_
        refine AllReadyH.cons rfl (fun K hK => ?_) AllReadyH.nil
        · go_simp
          refine (HCL.out vA TvA).mono ?_
          rintro e vC ⟨A', c', rfl, n1⟩
          have HCC := Lib.hid n1
          clear n1
          have TvC : Below w1.heap.size w1 vC := TvA.trans ((HCC.out.2.2.2.2).mono TvA.size)
          refine hK.out _ _ trivial (fun hHeld => ?_)
          clear hK K
          refine Blo.takeY 4 (some 36) rfl rfl (by kernel_rfl) (by kernel_rfl) (by kernel_rfl) (fun _ _ _ h => h) (by rfl) (v := _) (by (intro _ hSw; (try dsimp only at hSw); go_simp; try with_reducible rfl)) hHeld ?_
          simp only [Act.put, List.setIfInBounds_toArray, List.set_cons_zero, List.set_cons_succ]
          have bA := ((Below.refl vA.heap.size vA).trans ((HCC.out.2.2.2.2).mono (Below.refl vA.heap.size vA).size))
          have bN := (((Below.refl vN.heap.size vN).trans ((HAL.out.2.1).mono (Below.refl vN.heap.size vN).size)).trans ((HCC.out.2.2.2.2).mono ((Below.refl vN.heap.size vN).trans ((HAL.out.2.1).mono (Below.refl vN.heap.size vN).size)).size))
          have bC := (Below.refl vC.heap.size vC)
          have bW := ((((Below.refl wd.heap.size wd).trans ((HNW.out.2.1).mono (Below.refl wd.heap.size wd).size)).trans ((HAL.out.2.1).mono ((Below.refl wd.heap.size wd).trans ((HNW.out.2.1).mono (Below.refl wd.heap.size wd).size)).size)).trans ((HCC.out.2.2.2.2).mono (((Below.refl wd.heap.size wd).trans ((HNW.out.2.1).mono (Below.refl wd.heap.size wd).size)).trans ((HAL.out.2.1).mono ((Below.refl wd.heap.size wd).trans ((HNW.out.2.1).mono (Below.refl wd.heap.size wd).size)).size)).size))
          have hB8 : Blk vC g8 108 zeroRow := by have h9 := HAL.out.1; rw [HAL.out.2.2.1] at h9; exact h9.below bA h9.lt
          have HB8 : Hid (vC.heap[g8]? = some (.cells zeroRow 108 (0, 0))) := Lib.hid hB8
          have hPN : PM vC pg Pag.Pgs.none_ := by have h9 := HNW.out.1; rw [HNW.out.2.2] at h9; exact h9.below bN
          have hR4 : R4 M wd (vC.setRow g8 (rootRow 0 (List.replicate 9 0) (.pointer (some ⟨pg, 0, none⟩)) (.slice A' M.length c'))) g8 pg A' c' 0 (List.replicate 9 0) := by
            have e1 := HAL.out.2.2.1
            have e2 := HNW.out.2.2
            have s1 := HAL.out.2.1.size
            have s2 := HNW.out.2.1.size
            have s3 := HCC.out.2.2.2.2.size
            have l1 := HAL.out.1.lt
            have l2 := HNW.out.1.blk.lt
            exact R4.of hB8 hPN bW (by omega) (by omega) (by omega) (by rw [HLM.out]; exact HCC.out.1) (HCC.out.2.1.below bC) (fun p e => by
              obtain ⟨q, e1', h1, h2⟩ := HCC.out.2.2.1 p e
              have := bC.size
              exact ⟨q, e1', by omega, by omega, by omega, by omega⟩) (fun e => by rw [HLM.out]; exact HCC.out.2.2.2.1 e)
          have HR4 := Lib.hid (hR4.base Twd)
          clear bA bN bC bW hB8 hPN hR4
          refine wpAnyH_ready (rs := [6]) (by kernel_rfl) (by simp) ?_
          refine AllReadyH.cons rfl (fun K hK => ?_) AllReadyH.nil
          refine step_store_row rfl 108 (.tmp 8) (.tmp 36) rfl g8 (rootRow 0 (List.replicate 9 0) (.pointer (some ⟨pg, 0, none⟩)) (.slice A' M.length c')) rfl (by rw [HLM.out]; rfl) 108 _ HB8.out root12 rfl (rootRow_one _ _ _ _ rfl rfl) ?_
          refine hK.out _ _ trivial (fun hHeld => ?_)
          clear hK K
          refine wpAnyH_done (by kernel_rfl) ?_ _
          clear hHeld
          go_wp2_with fail
          go_meet
          exact ⟨g8, pg, A', c', rfl, HR4⟩
    · obtain ⟨vA, hvA⟩ : ∃ v, wd.alloc (.cells #[.int .u32 0, .int .i64 0, .int .i64 0, .int .i64 0, .int .i64 0, .int .i64 0, .int .i64 0, .int .i64 0, .int .i64 0, .int .i64 0, .pointer none, .slice none 0 0] 108) = v := ⟨_, rfl⟩
      have bvA : Below wd.heap.size wd vA := by rw [← hvA]; exact (Below.refl _ _).alloc (Nat.le_refl _) _
      have BvA : Blk vA wd.heap.size 108 zeroRow := by rw [← hvA]; exact Blk.new _ _ _
      obtain ⟨g8, hg8⟩ : ∃ g8, wd.heap.size = g8 := ⟨_, rfl⟩
      have HAL := Lib.hid (And.intro BvA (And.intro bvA (And.intro hg8 hvA)))
      clear hvA hg8 bvA BvA
      go_simp
      (try rw [HAL.out.2.2.2])
      (try rw [HAL.out.2.2.1])
      have TvA : Below w1.heap.size w1 vA := Twd.trans ((HAL.out.2.1).mono Twd.size)
      refine hK.out _ _ trivial (fun hHeld => ?_)
      clear hK K
      refine wpAnyH_ready (rs := [0]) (by kernel_rfl) (by simp) ?_
      refine AllReadyH.cons rfl (fun K hK => ?_) AllReadyH.nil
      · go_simp
        refine (Pag.new_any _).mono ?_
        rintro e vN ⟨rfl, n1, n2⟩
        obtain ⟨pg, hpg⟩ : ∃ pg, vA.heap.size = pg := ⟨_, rfl⟩
        have HNW := Lib.hid (And.intro n1 (And.intro n2 hpg))
        rw [hpg]
        clear n1 n2 hpg
        have TvN : Below w1.heap.size w1 vN := TvA.trans ((HNW.out.2.1).mono TvA.size)
        refine hK.out _ _ trivial (fun hHeld => ?_)
        clear hK K
        refine wpAnyH_ready (rs := [3]) (by kernel_rfl) (by simp) ?_
        refine AllReadyH.cons rfl (fun K hK => ?_) AllReadyH.nil
        · go_simp
          refine (HCL.out vN TvN).mono ?_
          rintro e vC ⟨A', c', rfl, n1⟩
          have HCC := Lib.hid n1
          clear n1
          have TvC : Below w1.heap.size w1 vC := TvN.trans ((HCC.out.2.2.2.2).mono TvN.size)
          refine hK.out _ _ trivial (fun hHeld => ?_)
          clear hK K
          refine Blo.takeY 4 (some 36) rfl rfl (by kernel_rfl) (by kernel_rfl) (by kernel_rfl) (fun _ _ _ h => h) (by rfl) (v := _) (by (intro _ hSw; (try dsimp only at hSw); go_simp; try with_reducible rfl)) hHeld ?_
          simp only [Act.put, List.setIfInBounds_toArray, List.set_cons_zero, List.set_cons_succ]
          have bA := (((Below.refl vA.heap.size vA).trans ((HNW.out.2.1).mono (Below.refl vA.heap.size vA).size)).trans ((HCC.out.2.2.2.2).mono ((Below.refl vA.heap.size vA).trans ((HNW.out.2.1).mono (Below.refl vA.heap.size vA).size)).size))
          have bN := ((Below.refl vN.heap.size vN).trans ((HCC.out.2.2.2.2).mono (Below.refl vN.heap.size vN).size))
          have bC := (Below.refl vC.heap.size vC)
          have bW := ((((Below.refl wd.heap.size wd).trans ((HAL.out.2.1).mono (Below.refl wd.heap.size wd).size)).trans ((HNW.out.2.1).mono ((Below.refl wd.heap.size wd).trans ((HAL.out.2.1).mono (Below.refl wd.heap.size wd).size)).size)).trans ((HCC.out.2.2.2.2).mono (((Below.refl wd.heap.size wd).trans ((HAL.out.2.1).mono (Below.refl wd.heap.size wd).size)).trans ((HNW.out.2.1).mono ((Below.refl wd.heap.size wd).trans ((HAL.out.2.1).mono (Below.refl wd.heap.size wd).size)).size)).size))
          have hB8 : Blk vC g8 108 zeroRow := by have h9 := HAL.out.1; rw [HAL.out.2.2.1] at h9; exact h9.below bA h9.lt
          have HB8 : Hid (vC.heap[g8]? = some (.cells zeroRow 108 (0, 0))) := Lib.hid hB8
          have hPN : PM vC pg Pag.Pgs.none_ := by have h9 := HNW.out.1; rw [HNW.out.2.2] at h9; exact h9.below bN
          have hR4 : R4 M wd (vC.setRow g8 (rootRow 0 (List.replicate 9 0) (.pointer (some ⟨pg, 0, none⟩)) (.slice A' M.length c'))) g8 pg A' c' 0 (List.replicate 9 0) := by
            have e1 := HAL.out.2.2.1
            have e2 := HNW.out.2.2
            have s1 := HAL.out.2.1.size
            have s2 := HNW.out.2.1.size
            have s3 := HCC.out.2.2.2.2.size
            have l1 := HAL.out.1.lt
            have l2 := HNW.out.1.blk.lt
            exact R4.of hB8 hPN bW (by omega) (by omega) (by omega) (by rw [HLM.out]; exact HCC.out.1) (HCC.out.2.1.below bC) (fun p e => by
              obtain ⟨q, e1', h1, h2⟩ := HCC.out.2.2.1 p e
              have := bC.size
              exact ⟨q, e1', by omega, by omega, by omega, by omega⟩) (fun e => by rw [HLM.out]; exact HCC.out.2.2.2.1 e)
          have HR4 := Lib.hid (hR4.base Twd)
          clear bA bN bC bW hB8 hPN hR4
          refine wpAnyH_ready (rs := [6]) (by kernel_rfl) (by simp) ?_
          refine AllReadyH.cons rfl (fun K hK => ?_) AllReadyH.nil
          refine step_store_row rfl 108 (.tmp 8) (.tmp 36) rfl g8 (rootRow 0 (List.replicate 9 0) (.pointer (some ⟨pg, 0, none⟩)) (.slice A' M.length c')) rfl (by rw [HLM.out]; rfl) 108 _ HB8.out root12 rfl (rootRow_one _ _ _ _ rfl rfl) ?_
          refine hK.out _ _ trivial (fun hHeld => ?_)
          clear hK K
          refine wpAnyH_done (by kernel_rfl) ?_ _
          clear hHeld
          go_wp2_with fail
          go_meet
          exact ⟨g8, pg, A', c', rfl, HR4⟩
  case rest =>
    obtain ⟨g8, pg, A, c, rfl, HR4⟩ := hcut
    have HI0 : Hid (R4 M w1 wc g8 pg A c (ep % 256 ^ 0) (List.replicate 9 0)) := Lib.hid (by rw [Nat.pow_zero, Nat.mod_one]; exact HR4.out)
    have HBY : Hid (∀ W, Below w1.heap.size w1 W → ∀ (j : Nat) (x : UInt8), (rootB ep P M)[j]? = some x → W.cell? ⟨g, j, none⟩ = some (bv x)) := Lib.hid (fun W hW j x hx => ((HKK.out.1.below hW HKK.out.1.lt).cell j).trans (row8_get j x hx))
    clear HR4 HCL hstr hmg hn4 hd
    go_wp2_with fail
    go_loopw [10, 37] (fun _ iv wr => ∃ k : Nat, k ≤ 4 ∧ iv = .int .i64 (k : Int) ∧ Hid (R4 M w1 wr g8 pg A c (ep % 256 ^ k) (List.replicate 9 0))) (fun _ iv _ => 4 - (intOf iv).toNat)
    case atStart => exact ⟨0, Nat.zero_le _, rfl, HI0⟩
    case round =>
      clear HI0
      obtain ⟨k, hk, rfl, hI⟩ := hrel
      by_cases hlt : k < 4
      · have hd : decide ((k : Int) < 4) = true := by simp; omega
        have c0 := hI.out.e0
        have hb1 := hI.out.blk.frozen 0
        obtain ⟨j, hj⟩ : ∃ j, 4 + k = j := ⟨_, rfl⟩
        have cb := HBY.out wr hI.out.bel _ _ (rootB_ep ep P M hlt)
        rw [hj] at cb
        obtain ⟨b, hb⟩ : ∃ b, (UInt8.ofNat (ep / 256 ^ k)).toNat = b := ⟨_, rfl⟩
        have cb : wr.cell? ⟨g, j, none⟩ = some (.int .u8 (b : Int)) := by rw [← hb]; exact cb
        have hbv : b = ep / 256 ^ k % 256 := by rw [← hb, UInt8.toNat_ofNat']
        have hw32 : IntKind.u32.wrap (b : Int) = (b : Int) := by
          have : b < 256 := by omega
          exact IntWalk.u32_in _ ⟨by omega, by omega⟩
        have hor := ep_round ep k b hlt hbv
        have hI2 := (hI.out.turn 0 (.int .u32 ((ep % 256 ^ (k + 1) : Nat) : Int)) (rootRow_ep _ _ _ _ _)).drew
        obtain ⟨z, hz⟩ : ∃ z, ep % 256 ^ (k + 1) = z := ⟨_, rfl⟩
        obtain ⟨x, hx⟩ : ∃ x, ep % 256 ^ k = x := ⟨_, rfl⟩
        rw [hz] at hI2 hor
        rw [hx] at hor c0
        have HI2 := Lib.hid hI2
        have HZ := Lib.hid hz
        have hw4 : IntKind.i64.wrap (4 + (k : Int)) = (j : Int) := by rw [show 4 + (k : Int) = (j : Int) by omega]; exact IntWalk.i64_in _ ⟨by omega, by omega⟩
        have hq0 : (0 : Int) ≤ (j : Int) := by omega
        have hq1 : (j : Int) < (n : Int) := by have := HNM.out; omega
        obtain ⟨j8, hj8⟩ : ∃ j8, 8 * k = j8 := ⟨_, rfl⟩
        have hw8 : IntKind.i64.wrap (8 * (k : Int)) = (j8 : Int) := by rw [show 8 * (k : Int) = (j8 : Int) by omega]; exact IntWalk.i64_in _ ⟨by omega, by omega⟩
        have hq8 : ¬ (j8 : Int) < 0 := by omega
        rw [hj8] at hor
        have hor2 : bits BinOp.or IntKind.u32 (x : Int) ((b : Int) * 2 ^ min j8 32 % 4294967296) = (z : Int) := by
          rw [Nat.min_eq_left (by omega), ← IntKind.wrap_u32]; exact hor
        have d0 : wr.drew.cell? ⟨g8, 0, none⟩ = some (.int .u32 (x : Int)) := c0
        have db : wr.drew.cell? ⟨g, j, none⟩ = some (.int .u8 (b : Int)) := cb
        clear hbv hI hI2 hz hx hb hj hj8
        go_upto_region 9 with fail
        go_region
        all_goals
          go_wp2_with fail
          go_roundw
          case rel => exact ⟨k + 1, by omega, by go_num, Lib.hid (by rw [HZ.out]; exact HI2.out)⟩
          case measure => simp [intOf]; omega
      · have hd : decide ((k : Int) < 4) = false := by simp; omega
        have HJ0 : Hid (R4 M w1 wr g8 pg A c ep (partTo P 0)) := Lib.hid (by
          have h9 := hI.out
          rw [show k = 4 by omega, show (256 : Nat) ^ 4 = 4294967296 by decide, Nat.mod_eq_of_lt HPM.out.2.2.1] at h9
          exact h9)
        generalize hz : (k : Int) = z at hd ⊢
        clear hI hk hlt hz
        go_wp2_with fail
        go_loopw [11, 57] (fun _ iv wr => ∃ k : Nat, k ≤ 9 ∧ iv = .int .i64 (k : Int) ∧ Hid (R4 M w1 wr g8 pg A c ep (partTo P k))) (fun _ iv _ => 9 - (intOf iv).toNat)
        case atStart => exact ⟨0, Nat.zero_le _, rfl, HJ0⟩
        case round =>
          clear HJ0
          obtain ⟨k, hk, rfl, hI⟩ := hrel
          by_cases hlt : k < 9
          · have hd : decide ((k : Int) < 9) = true := by simp; omega
            obtain ⟨x, hx⟩ : ∃ x, P[k]? = some x := ⟨_, List.getElem?_eq_getElem (by rw [HPM.out.1]; exact hlt)⟩
            have hxl := HPM.out.2.2.2 x (List.mem_of_getElem? hx)
            have hbb := rootB_part ep P M hx
            have cb0 := HBY.out wr hI.out.bel _ _ hbb.1
            have cb1 := HBY.out wr hI.out.bel _ _ hbb.2
            have hor := part_round x hxl
            have hfz := hI.out.blk.frozen (1 + k)
            have hpl : k < (partTo P k).length := by rw [partTo_len P k HPM.out.1 hk]; exact hlt
            have hset := rootRow_p ep (partTo P k) (.pointer (some ⟨pg, 0, none⟩)) (.slice A M.length c) k x hpl
            rw [partTo_set P k x hx HPM.out.1] at hset
            have hI2 := (hI.out.turn (1 + k) (.int .i64 (x : Int)) hset).drew
            obtain ⟨b0, hb0⟩ : ∃ b, (UInt8.ofNat x).toNat = b := ⟨_, rfl⟩
            obtain ⟨b1, hb1⟩ : ∃ b, (UInt8.ofNat (x / 256)).toNat = b := ⟨_, rfl⟩
            have l0 : b0 < 256 := by rw [← hb0]; exact (UInt8.ofNat x).toNat_lt
            have l1 : b1 < 256 := by rw [← hb1]; exact (UInt8.ofNat (x / 256)).toNat_lt
            have hwb0 : IntKind.i64.wrap (b0 : Int) = (b0 : Int) := IntWalk.i64_in _ ⟨by omega, by omega⟩
            have hwb1 : IntKind.i64.wrap (b1 : Int) = (b1 : Int) := IntWalk.i64_in _ ⟨by omega, by omega⟩
            rw [hb0, hb1] at hor
            have hor2 : bits BinOp.or IntKind.i64 (b0 : Int) (wrap64 ((b1 : Int) * 256)) = (x : Int) := by rw [← IntWalk.i64_left]; exact hor
            have dz : wr.drew.cell? ⟨g8, 1 + k, none⟩ = some (.int .i64 0) := by
              refine (Blk.cell hI.out.blk (1 + k)).trans ?_
              unfold rootRow partTo
              rw [List.getElem?_toArray, List.append_assoc, List.getElem?_append_right (by simp), List.getElem?_append_left (by simp; omega), List.getElem?_map, List.getElem?_append_right (by simp; omega)]
              have : ([Value.int .u32 (ep : Int)] : List Value).length = 1 := rfl
              rw [this, List.length_take, Nat.min_eq_left (by rw [HPM.out.1]; omega), List.getElem?_replicate, if_pos (by omega)]
              rfl
            obtain ⟨j0, hj0⟩ : ∃ j, 8 + 2 * k = j := ⟨_, rfl⟩
            obtain ⟨j1, hj1⟩ : ∃ j, j0 + 1 = j := ⟨_, rfl⟩
            obtain ⟨k2, hk2⟩ : ∃ j, 2 * k = j := ⟨_, rfl⟩
            have d0 : wr.drew.cell? ⟨g, j0, none⟩ = some (.int .u8 (b0 : Int)) := by rw [← hb0, ← hj0]; exact cb0
            have d1 : wr.drew.cell? ⟨g, j1, none⟩ = some (.int .u8 (b1 : Int)) := by rw [← hb1, ← hj1, ← hj0]; exact cb1
            have hm2 : IntKind.i64.wrap (2 * (k : Int)) = (k2 : Int) := by rw [show 2 * (k : Int) = (k2 : Int) by omega]; exact IntWalk.i64_in _ ⟨by omega, by omega⟩
            have ha0 : IntKind.i64.wrap (8 + (k2 : Int)) = (j0 : Int) := by rw [show 8 + (k2 : Int) = (j0 : Int) by omega]; exact IntWalk.i64_in _ ⟨by omega, by omega⟩
            have ha1 : IntKind.i64.wrap ((j0 : Int) + 1) = (j1 : Int) := by rw [show (j0 : Int) + 1 = (j1 : Int) by omega]; exact IntWalk.i64_in _ ⟨by omega, by omega⟩
            have hq0 : (0 : Int) ≤ (j0 : Int) := by omega
            have hq1 : (j0 : Int) < (n : Int) := by have := HNM.out; omega
            have hq2 : (0 : Int) ≤ (j1 : Int) := by omega
            have hq3 : (j1 : Int) < (n : Int) := by have := HNM.out; omega
            have hk9 : (k : Int) < 9 := by omega
            have HI2 := Lib.hid hI2
            clear hI hI2 hset hpl hbb cb0 cb1 hx hxl hb0 hb1 l0 l1 hj0 hj1 hk2
            go_upto_region 15 with fail
            go_region
            all_goals
              go_wp2_with fail
              go_roundw
              case rel => exact ⟨k + 1, by omega, by go_num, HI2⟩
              case measure => simp [intOf]; omega
          · have hd : decide ((k : Int) < 9) = false := by simp; omega
            have HF : Hid (R4 M w1 wr g8 pg A c ep P) := Lib.hid (by
              have h9 := hI.out
              have e9 : partTo P 9 = P := by unfold partTo; rw [List.take_of_length_le (by rw [HPM.out.1]; exact Nat.le_refl _)]; simp
              rw [show k = 9 by omega, e9] at h9
              exact h9)
            generalize hz : (k : Int) = z at hd ⊢
            clear hI hk hlt hz
            have hrs : (rootRow ep P (.pointer (some ⟨pg, 0, none⟩)) (.slice A M.length c)).size = 12 := rootRow_size _ _ _ _ HPM.out.1
            have hone := rootRow_one ep P (.pointer (some ⟨pg, 0, none⟩)) (.slice A M.length c) rfl rfl
            have hp0 : Blk wr w.heap.size 108 zeroRow := (HK.out.2.1.below HKK.out.2.2 HK.out.2.1.lt).below HF.out.bel (Nat.lt_of_lt_of_le HK.out.2.1.lt HKK.out.2.2.size)
            have hlp : w.heap.size < w1.heap.size := Nat.lt_of_lt_of_le HK.out.2.1.lt HKK.out.2.2.size
            obtain ⟨p0, hp⟩ : ∃ p0, w.heap.size = p0 := ⟨_, rfl⟩
            rw [hp] at hp0 hlp
            have hhd : wr.heap[g8]? = some (.cells (rootRow ep P (.pointer (some ⟨pg, 0, none⟩)) (.slice A M.length c)) 108 (0, 0)) := HF.out.blk
            have hc0 := HF.out.e0
            obtain ⟨Z, hZ⟩ : ∃ Z, rootRow ep P (.pointer (some ⟨pg, 0, none⟩)) (.slice A M.length c) = Z := ⟨_, rfl⟩
            rw [hZ] at hhd hrs hone
            have hsz : (Tryz.prog.info? 108).map (·.size) = some Z.size := by rw [hrs]; exact root12
            have hfin : PM (wr.drew.setRow p0 Z) pg Pag.Pgs.none_ ∧ Bytes (wr.drew.setRow p0 Z) A M ∧ (∀ p : Addr, A = some p → ∃ q, p = ⟨q, 0, none⟩ ∧ p0 ≤ q ∧ q < (wr.drew.setRow p0 Z).heap.size ∧ q ≠ pg) ∧ Below p0 w (wr.drew.setRow p0 Z) := by
              have h9 := HF.out.drew
              refine ⟨h9.pm.same (setRow_other _ p0 pg _ (by have := h9.ge.2.1; omega)), h9.by_.same (by simp) (fun p e _ => setRow_other _ p0 _ _ (by obtain ⟨q, rfl, h1, _⟩ := h9.ad p e; show q ≠ p0; omega)), fun p e => ?_, ?_⟩
              · obtain ⟨q, e1, k1, k2, k3, k4⟩ := h9.ad p e
                exact ⟨q, e1, by omega, by simpa using k2, k4⟩
              · rw [← hp]
                exact below_setRow ((HK.out.1.trans (HKK.out.2.2.mono HK.out.1.size)).trans (h9.bel.mono (Nat.le_trans HK.out.1.size HKK.out.2.2.size))) (Nat.le_refl _) _
            have hrow : (wr.drew.setRow p0 Z).heap[p0]? = some (.cells Z 108 (0, 0)) := setRow_heap _ p0 _ _ _ _ hp0
            have HFIN := Lib.hid (And.intro hfin hrow)
            have HZZ := Lib.hid (And.intro hZ (And.intro HF.out.cap (And.intro HF.out.nil_ (And.intro HF.out.ge.2.1 (And.intro hp hlp)))))
            have HP0 := Lib.hid hp0
            clear hfin hrow hZ hlp hp hp0
            have hr2 : (ep : Int).tmod 2 = ((ep % 2 : Nat) : Int) := by rw [Int.tmod_eq_emod_of_nonneg (by omega)]; omega
            obtain ⟨r, hr⟩ : ∃ r, ep % 2 = r := ⟨_, rfl⟩
            rw [hr] at hr2
            have hr9 : (ep : Int) % 2 = (r : Int) := by omega
            have hwr1 : IntKind.u32.wrap (r : Int) = (r : Int) := IntWalk.u32_in _ ⟨by omega, by omega⟩
            have hwr2 : IntKind.i64.wrap (r : Int) = (r : Int) := IntWalk.i64_in _ ⟨by omega, by omega⟩
            have HR := Lib.hid hr
            rw [HZZ.out.2.2.2.2.1]
            clear hr
            by_cases h0 : 0 < ep
            · have hd0 : decide ((ep : Int) > 0) = true := by simp; omega
              have hd1 : decide (0 < ep) = true := decide_eq_true h0
              have HE0 := Lib.hid h0
              clear h0
              go_upto_region 17 with fail
              refine wp_region_held_drew (S := (fun W => W.heap[g8]? = some (.cells Z 108 (0, 0)) ∧ W.cell? ⟨g8, 0, none⟩ = some (.int .u32 (ep : Int)))) (by kernel_rfl) ⟨hhd, hc0⟩ (fun hHeld => ?_)
              refine Blo.takeY 0 (some 83) rfl rfl (by kernel_rfl) (by kernel_rfl) (by kernel_rfl) (fun _ _ _ h => h) (by rfl) (v := .agg Z) (by intro w9 hSw; exact exec_load_row 108 (.tmp 8) rfl g8 rfl 108 Z (0, 0) _ hSw.1 Tryz.underlying108 rfl hsz) hHeld ?_
              simp only [Act.put, List.setIfInBounds_toArray, List.set_cons_zero, List.set_cons_succ]
              refine Blo.takeY 1 (some 84) rfl rfl (by kernel_rfl) (by kernel_rfl) (by kernel_rfl) (fun _ _ _ h => h) (by rfl) (v := _) (by (intro _ hSw; (try dsimp only at hSw); go_simp; try with_reducible rfl)) hHeld ?_
              simp only [Act.put, List.setIfInBounds_toArray, List.set_cons_zero, List.set_cons_succ]
              refine Blo.takeY 2 (some 85) rfl rfl (by kernel_rfl) (by kernel_rfl) (by kernel_rfl) (fun _ _ _ h => h) (by rfl) (v := _) (by (intro _ hSw; (try dsimp only at hSw); go_simp; try with_reducible rfl)) hHeld ?_
              simp only [Act.put, List.setIfInBounds_toArray, List.set_cons_zero, List.set_cons_succ]
              refine Blo.takeY 3 (some 86) rfl rfl (by kernel_rfl) (by kernel_rfl) (by kernel_rfl) (fun _ _ _ h => h) (by rfl) (v := _) (by (intro _ hSw; (try dsimp only at hSw); go_simp; try with_reducible rfl)) hHeld ?_
              simp only [Act.put, List.setIfInBounds_toArray, List.set_cons_zero, List.set_cons_succ]
              refine Blo.takeY 4 (some 87) rfl rfl (by kernel_rfl) (by kernel_rfl) (by kernel_rfl) (fun _ _ _ h => h) (by rfl) (v := _) (by (intro _ hSw; (try dsimp only at hSw); go_simp; try with_reducible rfl)) hHeld ?_
              simp only [Act.put, List.setIfInBounds_toArray, List.set_cons_zero, List.set_cons_succ]
              refine Blo.takeY 5 (some 88) rfl rfl (by kernel_rfl) (by kernel_rfl) (by kernel_rfl) (fun _ _ _ h => h) (by rfl) (v := _) (by (intro _ hSw; (try dsimp only at hSw); go_simp; try with_reducible rfl)) hHeld ?_
              simp only [Act.put, List.setIfInBounds_toArray, List.set_cons_zero, List.set_cons_succ]
              refine Blo.takeY 6 (some 89) rfl rfl (by kernel_rfl) (by kernel_rfl) (by kernel_rfl) (fun _ _ _ h => h) (by rfl) (v := _) (by (intro _ hSw; (try dsimp only at hSw); go_simp; try with_reducible rfl)) hHeld ?_
              simp only [Act.put, List.setIfInBounds_toArray, List.set_cons_zero, List.set_cons_succ]
              refine Blo.takeY 7 (some 90) rfl rfl (by kernel_rfl) (by kernel_rfl) (by kernel_rfl) (fun _ _ _ h => h) (by rfl) (v := _) (by (intro _ hSw; (try dsimp only at hSw); go_simp; try with_reducible rfl)) hHeld ?_
              simp only [Act.put, List.setIfInBounds_toArray, List.set_cons_zero, List.set_cons_succ]
              refine Blo.takeY 8 (some 91) rfl rfl (by kernel_rfl) (by kernel_rfl) (by kernel_rfl) (fun _ _ _ h => h) (by rfl) (v := _) (by (intro _ hSw; (try dsimp only at hSw); go_simp; try with_reducible rfl)) hHeld ?_
              simp only [Act.put, List.setIfInBounds_toArray, List.set_cons_zero, List.set_cons_succ]
              refine Blo.takeY 9 (some 92) rfl rfl (by kernel_rfl) (by kernel_rfl) (by kernel_rfl) (fun _ _ _ h => h) (by rfl) (v := _) (by (intro _ hSw; (try dsimp only at hSw); go_simp; try with_reducible rfl)) hHeld ?_
              simp only [Act.put, List.setIfInBounds_toArray, List.set_cons_zero, List.set_cons_succ]
              refine Blo.takeY 10 (some 93) rfl rfl (by kernel_rfl) (by kernel_rfl) (by kernel_rfl) (fun _ _ _ h => h) (by rfl) (v := _) (by (intro _ hSw; (try dsimp only at hSw); go_simp; try with_reducible rfl)) hHeld ?_
              simp only [Act.put, List.setIfInBounds_toArray, List.set_cons_zero, List.set_cons_succ]
              refine Blo.takeY 11 (some 94) rfl rfl (by kernel_rfl) (by kernel_rfl) (by kernel_rfl) (fun _ _ _ h => h) (by rfl) (v := _) (by (intro _ hSw; (try dsimp only at hSw); go_simp; try with_reducible rfl)) hHeld ?_
              simp only [Act.put, List.setIfInBounds_toArray, List.set_cons_zero, List.set_cons_succ]
              refine wpAnyH_ready (rs := [12]) (by kernel_rfl) (by simp) ?_
              refine AllReadyH.cons rfl (fun K hK => ?_) AllReadyH.nil
              refine step_store_row rfl 108 (.tmp 4) (.tmp 83) rfl p0 Z rfl rfl 108 zeroRow HP0.out hsz (by rw [hrs]; rfl) hone ?_
              refine hK.out _ _ ⟨(setRow_other _ p0 g8 _ (by have := HF.out.ge.1; have := HZZ.out.2.2.2.2.2; omega)).trans hhd, (World.cell?_of_block (a := ⟨g8, 0, none⟩) (setRow_other _ p0 g8 _ (by have := HF.out.ge.1; have := HZZ.out.2.2.2.2.2; omega))).trans hc0⟩ (fun hHeld => ?_)
              clear hK K
              refine Blo.takeY 13 (some 5) rfl rfl (by kernel_rfl) (by kernel_rfl) (by kernel_rfl) (fun _ _ _ h => h) (by rfl) (v := _) (by (intro _ hSw; (try dsimp only at hSw); go_simp; try with_reducible rfl)) hHeld ?_
              simp only [Act.put, List.setIfInBounds_toArray]
              refine wpAnyH_done (by kernel_rfl) ?_ _
              clear hHeld
              go_wp2_with fail
              (try simp only [Exit.inBlock, Exit.then])
              refine bodyPost_ret (results_cell_tmp_row rfl _ _ p0 108 Z (0, 0) _ rfl HFIN.out.2 Tryz.underlying108 rfl hsz) rfl ?_
              obtain ⟨e1, e2, e3, e4, e5, e6⟩ := HZZ.out
              obtain ⟨f1, f2, f3, f4⟩ := HFIN.out.1
              refine ⟨pg, A, c, ?_, f1, by omega, e2, f2, (fun p e => by obtain ⟨q, k1, k2, k3⟩ := f3 p e; exact ⟨q, k1, by omega, k3⟩), (fun e => by simpa using e3 e), by rw [e5]; exact f4⟩
              rw [e1]
              have : ((r : Int) == (s : Int)) = rootOk ep s := by
                unfold rootOk
                rw [HR.out]
                by_cases hrs : r = s
                · simp [hrs, HE0.out]
                · rw [decide_eq_false (fun h => hrs h.2)]
                  simp; omega
              rw [← this]
              rfl
            · have hd0 : decide ((ep : Int) > 0) = false := by simp; omega
              have hd1 : decide (0 < ep) = false := decide_eq_false h0
              have HE0 := Lib.hid h0
              clear h0
              go_upto_region 17 with fail
              refine wp_region_held_drew (S := (fun W => W.heap[g8]? = some (.cells Z 108 (0, 0)) ∧ W.cell? ⟨g8, 0, none⟩ = some (.int .u32 (ep : Int)))) (by kernel_rfl) ⟨hhd, hc0⟩ (fun hHeld => ?_)
              refine Blo.takeY 0 (some 83) rfl rfl (by kernel_rfl) (by kernel_rfl) (by kernel_rfl) (fun _ _ _ h => h) (by rfl) (v := .agg Z) (by intro w9 hSw; exact exec_load_row 108 (.tmp 8) rfl g8 rfl 108 Z (0, 0) _ hSw.1 Tryz.underlying108 rfl hsz) hHeld ?_
              simp only [Act.put, List.setIfInBounds_toArray, List.set_cons_zero, List.set_cons_succ]
              refine Blo.takeY 1 (some 84) rfl rfl (by kernel_rfl) (by kernel_rfl) (by kernel_rfl) (fun _ _ _ h => h) (by rfl) (v := _) (by (intro _ hSw; (try dsimp only at hSw); go_simp; try with_reducible rfl)) hHeld ?_
              simp only [Act.put, List.setIfInBounds_toArray, List.set_cons_zero, List.set_cons_succ]
              refine Blo.takeY 2 (some 85) rfl rfl (by kernel_rfl) (by kernel_rfl) (by kernel_rfl) (fun _ _ _ h => h) (by rfl) (v := _) (by (intro _ hSw; (try dsimp only at hSw); go_simp; try with_reducible rfl)) hHeld ?_
              simp only [Act.put, List.setIfInBounds_toArray, List.set_cons_zero, List.set_cons_succ]
              refine Blo.takeY 3 (some 86) rfl rfl (by kernel_rfl) (by kernel_rfl) (by kernel_rfl) (fun _ _ _ h => h) (by rfl) (v := _) (by (intro _ hSw; (try dsimp only at hSw); go_simp; try with_reducible rfl)) hHeld ?_
              simp only [Act.put, List.setIfInBounds_toArray, List.set_cons_zero, List.set_cons_succ]
              refine Blo.takeY 4 (some 87) rfl rfl (by kernel_rfl) (by kernel_rfl) (by kernel_rfl) (fun _ _ _ h => h) (by rfl) (v := _) (by (intro _ hSw; (try dsimp only at hSw); go_simp; try with_reducible rfl)) hHeld ?_
              simp only [Act.put, List.setIfInBounds_toArray, List.set_cons_zero, List.set_cons_succ]
              refine Blo.takeN 5 (some 88) rfl rfl (by kernel_rfl) (by kernel_rfl) (by kernel_rfl) (fun _ _ _ h => h) (by rfl) hHeld ?_
              simp only [Act.put, List.setIfInBounds_toArray, List.set_cons_zero, List.set_cons_succ]
              refine Blo.takeN 6 (some 89) rfl rfl (by kernel_rfl) (by kernel_rfl) (by kernel_rfl) (fun _ _ _ h => h) (by rfl) hHeld ?_
              simp only [Act.put, List.setIfInBounds_toArray, List.set_cons_zero, List.set_cons_succ]
              refine Blo.takeN 7 (some 90) rfl rfl (by kernel_rfl) (by kernel_rfl) (by kernel_rfl) (fun _ _ _ h => h) (by rfl) hHeld ?_
              simp only [Act.put, List.setIfInBounds_toArray, List.set_cons_zero, List.set_cons_succ]
              refine Blo.takeN 8 (some 91) rfl rfl (by kernel_rfl) (by kernel_rfl) (by kernel_rfl) (fun _ _ _ h => h) (by rfl) hHeld ?_
              simp only [Act.put, List.setIfInBounds_toArray, List.set_cons_zero, List.set_cons_succ]
              refine Blo.takeN 9 (some 92) rfl rfl (by kernel_rfl) (by kernel_rfl) (by kernel_rfl) (fun _ _ _ h => h) (by rfl) hHeld ?_
              simp only [Act.put, List.setIfInBounds_toArray, List.set_cons_zero, List.set_cons_succ]
              refine Blo.takeN 10 (some 93) rfl rfl (by kernel_rfl) (by kernel_rfl) (by kernel_rfl) (fun _ _ _ h => h) (by rfl) hHeld ?_
              simp only [Act.put, List.setIfInBounds_toArray, List.set_cons_zero, List.set_cons_succ]
              refine Blo.takeY 11 (some 94) rfl rfl (by kernel_rfl) (by kernel_rfl) (by kernel_rfl) (fun _ _ _ h => h) (by rfl) (v := _) (by (intro _ hSw; (try dsimp only at hSw); go_simp; try with_reducible rfl)) hHeld ?_
              simp only [Act.put, List.setIfInBounds_toArray, List.set_cons_zero, List.set_cons_succ]
              refine wpAnyH_ready (rs := [12]) (by kernel_rfl) (by simp) ?_
              refine AllReadyH.cons rfl (fun K hK => ?_) AllReadyH.nil
              refine step_store_row rfl 108 (.tmp 4) (.tmp 83) rfl p0 Z rfl rfl 108 zeroRow HP0.out hsz (by rw [hrs]; rfl) hone ?_
              refine hK.out _ _ ⟨(setRow_other _ p0 g8 _ (by have := HF.out.ge.1; have := HZZ.out.2.2.2.2.2; omega)).trans hhd, (World.cell?_of_block (a := ⟨g8, 0, none⟩) (setRow_other _ p0 g8 _ (by have := HF.out.ge.1; have := HZZ.out.2.2.2.2.2; omega))).trans hc0⟩ (fun hHeld => ?_)
              clear hK K
              refine Blo.takeY 13 (some 5) rfl rfl (by kernel_rfl) (by kernel_rfl) (by kernel_rfl) (fun _ _ _ h => h) (by rfl) (v := _) (by (intro _ hSw; (try dsimp only at hSw); go_simp; try with_reducible rfl)) hHeld ?_
              simp only [Act.put, List.setIfInBounds_toArray]
              refine wpAnyH_done (by kernel_rfl) ?_ _
              clear hHeld
              go_wp2_with fail
              (try simp only [Exit.inBlock, Exit.then])
              refine bodyPost_ret (results_cell_tmp_row rfl _ _ p0 108 Z (0, 0) _ rfl HFIN.out.2 Tryz.underlying108 rfl hsz) rfl ?_
              obtain ⟨e1, e2, e3, e4, e5, e6⟩ := HZZ.out
              obtain ⟨f1, f2, f3, f4⟩ := HFIN.out.1
              refine ⟨pg, A, c, ?_, f1, by omega, e2, f2, (fun p e => by obtain ⟨q, k1, k2, k3⟩ := f3 p e; exact ⟨q, k1, by omega, k3⟩), (fun e => by simpa using e3 e), by rw [e5]; exact f4⟩
              rw [e1, show rootOk ep s = false from decide_eq_false (fun h => HE0.out h.1)]
              rfl
end
end Go.Proofs.YtolpgpphjnkehaaGreatDoor
/- shadow: newest. -/
namespace Go.Proofs.YtolpgpphjnkehaaGreatDoor
set_option maxRecDepth 20000
open Go.RowKit Cac Dsk
open Pag (PM IntsO)
/-- What is told of a root in memory. -/
structure RtM (w w' : World) (pg : Nat) (A : Option Addr) (c : Nat) (M : List UInt8) : Prop where
  pm : PM w' pg Pag.Pgs.none_
  ge : w.heap.size ≤ pg
  cap : M.length ≤ c ∧ c ≤ maxLen
  by_ : Bytes w' A M
  ad : ∀ p : Addr, A = some p → ∃ q, p = ⟨q, 0, none⟩ ∧ w.heap.size ≤ q ∧ q < w'.heap.size ∧ q ≠ pg
  nil_ : A = none → M.length = 0 ∧ c = 0
theorem RtM.kept {w w' w2 : World} {pg c : Nat} {A : Option Addr} {M : List UInt8} (h : RtM w w' pg A c M) (hs : w'.heap.size ≤ w2.heap.size) (hk : ∀ k, w.heap.size ≤ k → k < w'.heap.size → w2.heap[k]? = w'.heap[k]?) : RtM w w2 pg A c M :=
  ⟨h.pm.same (hk pg h.ge h.pm.blk.lt), h.ge, h.cap, h.by_.same hs (fun p e _ => by obtain ⟨q, rfl, h1, h2, _⟩ := h.ad p e; exact hk q h1 h2), fun p e => by
    obtain ⟨q, e1, h1, h2, h3⟩ := h.ad p e
    exact ⟨q, e1, h1, Nat.lt_of_lt_of_le h2 hs, h3⟩, h.nil_⟩
theorem RtM.base {w w1 w' : World} {pg c : Nat} {A : Option Addr} {M : List UInt8} (h : RtM w1 w' pg A c M) (hs : w.heap.size ≤ w1.heap.size) : RtM w w' pg A c M :=
  ⟨h.pm, Nat.le_trans hs h.ge, h.cap, h.by_, fun p e => by
    obtain ⟨q, e1, h1, h2⟩ := h.ad p e
    exact ⟨q, e1, Nat.le_trans hs h1, h2⟩, h.nil_⟩
theorem RtM.below {w w' w2 : World} {pg c : Nat} {A : Option Addr} {M : List UInt8} (h : RtM w w' pg A c M) (hb : Below w'.heap.size w' w2) : RtM w w2 pg A c M := h.kept hb.size (fun k _ hk => hb.block k hk)
/-- What readRoot answers of a sector, where something is published. -/
structure RrT (ep : Nat) (P : List Nat) (M : List UInt8) (k : Nat) (w w' : World) (e1 : Nat) (P1 : List Nat) (pv mv : Value) (ok : Bool) : Prop where
  pl : P1.length = 9
  one : pv.oneCell' = true ∧ mv.oneCell' = true
  us : k = ep % 2 → e1 = ep ∧ P1 = P ∧ ok = true ∧ ∃ pg A c, pv = .pointer (some ⟨pg, 0, none⟩) ∧ mv = .slice A M.length c ∧ RtM w w' pg A c M
  no : k ≠ ep % 2 → ok = true → e1 < ep
  lt : e1 < 4294967296
  bel : Below w.heap.size w w'
section
variable {w0 w w' : World} {X : Nat → Prop} {dg nn t ep : Nat} {D : DS} {P L : List Nat} {M : List UInt8}
theorem readRoot_pub (h : Run w0 w X dg D) (hD : Hale nn t D) (hn : 16 ≤ nn ∧ nn ≤ 4096) (hT : Blo.Tab w0) (hp : Pub (readS D) nn ep P M L) (k : Nat) (hk : k < 2) :
    Calls Tryz.prog 110 #[.pointer (some ⟨dg, 0, none⟩), .int .i64 (k : Int)] w fun e w' => ∃ e1 P1 pv mv ok, e = .returned (.tuple #[.agg (rootRow e1 P1 pv mv), .bool ok]) ∧ RrT ep P M k w w' e1 P1 pv mv ok := by
  by_cases hs : k = ep % 2
  · have hone := hp.one
    rw [← hs] at hone
    refine (readRoot_some h hD hn.1 hT k hk ep P M hp.geo.pl hp.mlen hp.epr.2 (fun x hx => ?_) hone).mono ?_
    · obtain ⟨i, hi⟩ := List.mem_iff_getElem?.1 hx
      rcases hp.geo.pin i x hi with e | e <;> omega
    rintro e w' ⟨pg, A, c, rfl, q1, q2, q3, q4, q5, q6, q7⟩
    refine ⟨ep, P, _, _, _, rfl, hp.geo.pl, ⟨rfl, rfl⟩, fun _ => ⟨rfl, rfl, decide_eq_true ⟨hp.epr.1, hs.symm⟩, pg, A, c, rfl, rfl, q1, q2, q3, q4, q5, q6⟩, fun h1 => absurd hs h1, hp.epr.2, q7⟩
  · have hk2 : k = (ep + 1) % 2 := by omega
    rcases hp.two with hz | ⟨e2, P2, M2, hz, h1, h2, h3, h4⟩
    · rw [← hk2] at hz
      refine (readRoot_none h hD hT k hz).mono ?_
      rintro e w' ⟨rfl, q⟩
      rw [← rootRow_zero]
      exact ⟨0, List.replicate 9 0, _, _, _, rfl, rfl, ⟨rfl, rfl⟩, fun h1 => absurd h1 hs, fun _ h1 => (by cases h1), by decide, q⟩
    · rw [← hk2] at hz
      have := hp.epr.2
      refine (readRoot_some h hD hn.1 hT k hk e2 P2 M2 h2 h3 (by omega) h4 hz).mono ?_
      rintro e w' ⟨pg, A, c, rfl, q1, q2, q3, q4, q5, q6, q7⟩
      exact ⟨e2, P2, _, _, _, rfl, h2, ⟨rfl, rfl⟩, fun h1 => absurd h1 hs, fun _ _ => h1, by omega, q7⟩
/-- The best root so far. -/
structure BsT (ep : Nat) (P : List Nat) (M : List UInt8) (k : Nat) (w wr : World) (g4 : Nat) (e1 : Nat) (P1 : List Nat) (pv mv : Value) : Prop where
  blk : Blk wr g4 108 (rootRow e1 P1 pv mv)
  ge : w.heap.size ≤ g4
  pl : P1.length = 9
  one : pv.oneCell' = true ∧ mv.oneCell' = true
  yes : ep % 2 < k → e1 = ep ∧ P1 = P ∧ ∃ pg A c, pv = .pointer (some ⟨pg, 0, none⟩) ∧ mv = .slice A M.length c ∧ RtM w wr pg A c M ∧ pg ≠ g4 ∧ ∀ p : Addr, A = some p → p.block ≠ g4
  no : k ≤ ep % 2 → e1 < ep
  lt : e1 < 4294967296
  bel : Below w.heap.size w wr
theorem BsT.keep {k : Nat} {wr w5 : World} {g4 e1 e2 : Nat} {P1 P2 : List Nat} {pv mv pv2 mv2 : Value} {ok : Bool} (h : BsT ep P M k w wr g4 e1 P1 pv mv) (hr : RrT ep P M k wr w5 e2 P2 pv2 mv2 ok) (hc : ¬ (ok = true ∧ e1 < e2)) {w6 : World} (hb : Below w5.heap.size w5 w6) : BsT ep P M (k + 1) w w6 g4 e1 P1 pv mv := by
  have hb2 : Below wr.heap.size wr w6 := hr.bel.trans (hb.mono hr.bel.size)
  refine ⟨h.blk.below hb2 h.blk.lt, h.ge, h.pl, h.one, fun h1 => ?_, fun h1 => h.no (by omega), h.lt, h.bel.trans (hb2.mono h.bel.size)⟩
  by_cases hk : k = ep % 2
  · obtain ⟨e, _, eo, _⟩ := hr.us hk
    have := h.no (by omega)
    exact absurd ⟨eo, by omega⟩ hc
  · obtain ⟨a1, a2, pg, A, c, a3, a4, a5, a6⟩ := h.yes (by omega)
    exact ⟨a1, a2, pg, A, c, a3, a4, a5.below hb2, a6⟩
theorem BsT.next {k : Nat} {wr w5 w6 : World} {g4 e1 e2 : Nat} {P1 P2 : List Nat} {pv mv pv2 mv2 : Value} (h : BsT ep P M k w wr g4 e1 P1 pv mv) (hr : RrT ep P M k wr w5 e2 P2 pv2 mv2 true) (hc : e1 < e2) (hb : Below w5.heap.size w5 w6) :
    BsT ep P M (k + 1) w (w6.setRow g4 (rootRow e2 P2 pv2 mv2)) g4 e2 P2 pv2 mv2 := by
  have hb2 : Below wr.heap.size wr w6 := hr.bel.trans (hb.mono hr.bel.size)
  have hblk := h.blk.below hb2 h.blk.lt
  have hlt := h.blk.lt
  refine ⟨setRow_heap w6 g4 _ _ _ _ hblk, h.ge, hr.pl, hr.one, fun h1 => ?_, fun h1 => hr.no (by omega) rfl, hr.lt, below_setRow (h.bel.trans (hb2.mono h.bel.size)) h.ge _⟩
  by_cases hk : k = ep % 2
  · obtain ⟨a1, a2, _, pg, A, c, a3, a4, a5⟩ := hr.us hk
    have hg4 : pg ≠ g4 := by have := a5.ge; omega
    have hA4 : ∀ p : Addr, A = some p → p.block ≠ g4 := fun p e => by
      obtain ⟨q, rfl, k1, _⟩ := a5.ad p e
      show q ≠ g4
      omega
    exact ⟨a1, a2, pg, A, c, a3, a4, ((a5.below hb).kept (by simp) (fun j hj _ => setRow_other w6 g4 j _ (by omega))).base h.bel.size, hg4, hA4⟩
  · have := hr.no hk rfl
    have := (h.yes (by omega)).1
    omega
set_option maxHeartbeats 1000000 in
theorem newest_pub (h : Run w0 w X dg D) (hD : Hale nn t D) (hn : 16 ≤ nn ∧ nn ≤ 4096) (hT : Blo.Tab w0) (hp : Pub (readS D) nn ep P M L) :
    Calls Tryz.prog 61 #[.pointer (some ⟨dg, 0, none⟩)] w fun e w' => ∃ pg A c, e = .returned (.tuple #[.agg (rootRow ep P (.pointer (some ⟨pg, 0, none⟩)) (.slice A M.length c)), .bool true]) ∧ RtM w w' pg A c M ∧ Below w.heap.size w w' := by
  have HRR : Hid (∀ W, Below w.heap.size w W → ∀ k : Nat, k < 2 → _) := Lib.hid (fun W hW k hk => readRoot_pub (h.below hW) hD hn hT hp k hk)
  have HP := Lib.hid hp
  clear h hD hT hp
  obtain ⟨wA, hwA⟩ : ∃ wA, w.alloc (.cells #[.int .u32 0, .int .i64 0, .int .i64 0, .int .i64 0, .int .i64 0, .int .i64 0, .int .i64 0, .int .i64 0, .int .i64 0, .int .i64 0, .pointer none, .slice none 0 0] 108) = wA := ⟨_, rfl⟩
  have hbA : Below w.heap.size w wA := by rw [← hwA]; exact (Below.refl _ _).alloc (Nat.le_refl _) _
  have hblA : Blk wA w.heap.size 108 zeroRow := by rw [← hwA]; exact Blk.new _ _ _
  obtain ⟨wB, hwB⟩ : ∃ wB, wA.alloc (.cells #[.int .u32 0, .int .i64 0, .int .i64 0, .int .i64 0, .int .i64 0, .int .i64 0, .int .i64 0, .int .i64 0, .int .i64 0, .int .i64 0, .pointer none, .slice none 0 0] 108) = wB := ⟨_, rfl⟩
  have hbB : Below wA.heap.size wA wB := by rw [← hwB]; exact (Below.refl _ _).alloc (Nat.le_refl _) _
  have hblB : Blk wB wA.heap.size 108 zeroRow := by rw [← hwB]; exact Blk.new _ _ _
  have hsA : wA.heap.size = w.heap.size + 1 := by rw [← hwA]; simp
  have HW := Lib.hid (show (w.alloc (.cells #[.int .u32 0, .int .i64 0, .int .i64 0, .int .i64 0, .int .i64 0, .int .i64 0, .int .i64 0, .int .i64 0, .int .i64 0, .int .i64 0, .pointer none, .slice none 0 0] 108)).alloc (.cells #[.int .u32 0, .int .i64 0, .int .i64 0, .int .i64 0, .int .i64 0, .int .i64 0, .int .i64 0, .int .i64 0, .int .i64 0, .int .i64 0, .pointer none, .slice none 0 0] 108) = wB by rw [hwA]; exact hwB)
  have HA := Lib.hid (And.intro hbA (And.intro hblA hsA))
  have HB0 : Hid (∃ e1 P1 pv mv, BsT ep P M 0 wA wB wA.heap.size e1 P1 pv mv) := Lib.hid ⟨0, List.replicate 9 0, _, _, by rw [rootRow_zero]; exact hblB, Nat.le_refl _, rfl, ⟨rfl, rfl⟩, fun h => by omega, fun _ => HP.out.epr.1, by decide, hbB⟩
  clear hbA hblA hbB hblB hwA hwB
  go_enter Tryz.func61, Tryz.ntmps61
  go_wp2_with fail
  rw [HW.out]
  obtain ⟨g4, hg4⟩ : ∃ g4, w.heap.size + 1 = g4 := ⟨_, rfl⟩
  rw [hsA, hg4] at HB0
  rw [hg4]
  have HG4 := Lib.hid hg4
  clear hsA hg4 HW
  go_loopw [5, 6, 7, 8] (fun _ _ _ iv wr => ∃ k : Nat, k ≤ 2 ∧ iv = .int .i64 (k : Int) ∧ Hid (∃ e1 P1 pv mv, BsT ep P M k wA wr g4 e1 P1 pv mv)) (fun _ _ _ iv _ => 2 - (intOf iv).toNat)
  case atStart => exact ⟨0, Nat.zero_le _, rfl, HB0⟩
  case round =>
    clear HB0
    obtain ⟨k, hk, rfl, hI⟩ := hrel
    obtain ⟨e1, P1, pv, mv, hI⟩ := hI.out
    by_cases hlt : k < 2
    · have hd : decide ((k : Int) < 2) = true := by simp; omega
      have HC := Lib.hid (HRR.out wr (HA.out.1.trans (hI.bel.mono HA.out.1.size)) k hlt)
      have HI := Lib.hid hI
      clear hI
      go_wp2_with fail
      refine HC.out.mono ?_
      rintro e w5 ⟨e2, P2, pv2, mv2, ok, rfl, hr⟩
      have HRT := Lib.hid hr
      have hsz2 := rootRow_size e2 P2 pv2 mv2 hr.pl
      have hone2 := rootRow_one e2 P2 pv2 mv2 hr.one.1 hr.one.2
      have hcell0 : (rootRow e2 P2 pv2 mv2)[0]? = some (.int .u32 (e2 : Int)) := by unfold rootRow; simp
      obtain ⟨Z2, hZ2⟩ : ∃ Z, rootRow e2 P2 pv2 mv2 = Z := ⟨_, rfl⟩
      have HZ2 := Lib.hid hZ2
      rw [hZ2] at hsz2 hone2 hcell0 ⊢
      clear hr hZ2
      obtain ⟨w6, hw6⟩ : ∃ w6, w5.alloc (.cells Z2 108) = w6 := ⟨_, rfl⟩
      have HSET : Hid ((w5.alloc (.cells #[.int .u32 0, .int .i64 0, .int .i64 0, .int .i64 0, .int .i64 0, .int .i64 0, .int .i64 0, .int .i64 0, .int .i64 0, .int .i64 0, .pointer none, .slice none 0 0] 108)).setRow w5.heap.size Z2 = w6) := Lib.hid (by rw [← hw6]; exact World.setRow_alloc_new w5 _ Z2 _)
      have hb6 : Below w5.heap.size w5 w6 := by rw [← hw6]; exact (Below.refl _ _).alloc (Nat.le_refl _) _
      have hk6 : Blk w6 w5.heap.size 108 Z2 := by rw [← hw6]; exact Blk.new _ _ _
      have hi2 : (Tryz.prog.info? 108).map (·.size) = some Z2.size := by rw [hsz2]; exact root12
      have hk4 := HI.out.blk.below (HRT.out.bel.trans (hb6.mono HRT.out.bel.size)) HI.out.blk.lt
      have c6 : w6.cell? ⟨w5.heap.size, 0, none⟩ = some (.int .u32 (e2 : Int)) := (hk6.cell 0).trans hcell0
      have c4 : w6.cell? ⟨g4, 0, none⟩ = some (.int .u32 (e1 : Int)) := (hk4.cell 0).trans (by unfold rootRow; simp)
      have hold : (rootRow e1 P1 pv mv).size = Z2.size := by rw [hsz2]; exact rootRow_size _ _ _ _ HI.out.pl
      have HK6 := Lib.hid (show w6.heap[w5.heap.size]? = some (.cells Z2 108 (0, 0)) from hk6)
      have HK4 := Lib.hid (show w6.heap[g4]? = some (.cells (rootRow e1 P1 pv mv) 108 (0, 0)) from hk4)
      have HB6 := Lib.hid hb6
      have hz12 : zeroRow.size = Z2.size := by rw [hsz2]; rfl
      clear hw6 hb6 hk6 hk4 hcell0
      by_cases hc : ok = true ∧ e1 < e2
      · obtain ⟨rfl, hc⟩ := hc
        have hd1 : decide ((e2 : Int) > (e1 : Int)) = true := by simp; omega
        have hd2 : decide (e1 < e2) = true := decide_eq_true hc
        have HN := Lib.hid (HI.out.next HRT.out hc HB6.out)
        rw [HZ2.out] at HN
        clear hc
        go_wp2_with (first
          | (refine wpList_store_row rfl 108 (.tmp 6) (.tmp 15) rfl w5.heap.size Z2 rfl rfl 108 zeroRow (heap_alloc_last w5 _) hi2 hz12 hone2 ?_; rw [HSET.out])
          | (refine wpList_load_row rfl 108 (.tmp 6) rfl w5.heap.size rfl 108 Z2 (0, 0) _ HK6.out Tryz.underlying108 rfl hi2 ?_)
          | (refine wpList_store_row rfl 108 (.tmp 4) (.tmp 25) rfl g4 Z2 rfl rfl 108 _ HK4.out hi2 hold hone2 ?_))
        go_roundw
        case rel => exact ⟨k + 1, by omega, by go_num, Lib.hid ⟨e2, P2, pv2, mv2, HN.out⟩⟩
        case measure => simp [intOf]; omega
      · have HN := Lib.hid (HI.out.keep HRT.out hc HB6.out)
        cases ok with
        | false =>
          clear hc
          go_wp2_with (refine wpList_store_row rfl 108 (.tmp 6) (.tmp 15) rfl w5.heap.size Z2 rfl rfl 108 zeroRow (heap_alloc_last w5 _) hi2 hz12 hone2 ?_; rw [HSET.out])
          go_roundw
          case rel => exact ⟨k + 1, by omega, by go_num, Lib.hid ⟨e1, P1, pv, mv, HN.out⟩⟩
          case measure => simp [intOf]; omega
        | true =>
          have hc : ¬ e1 < e2 := fun h => hc ⟨rfl, h⟩
          have hd1 : decide ((e2 : Int) > (e1 : Int)) = false := by simp; omega
          have hd2 : decide (e1 < e2) = false := decide_eq_false hc
          clear hc
          go_wp2_with (refine wpList_store_row rfl 108 (.tmp 6) (.tmp 15) rfl w5.heap.size Z2 rfl rfl 108 zeroRow (heap_alloc_last w5 _) hi2 hz12 hone2 ?_; rw [HSET.out])
          go_roundw
          case rel => exact ⟨k + 1, by omega, by go_num, Lib.hid ⟨e1, P1, pv, mv, HN.out⟩⟩
          case measure => simp [intOf]; omega
    · have hd : decide ((k : Int) < 2) = false := by simp; omega
      have hk2 : k = 2 := by omega
      obtain ⟨a1, a2, pg, A, c, a3, a4, a5, a6, a7⟩ := hI.yes (by omega)
      subst a1
      subst a2
      subst a3
      subst a4
      have hblk := hI.blk
      have hsz := rootRow_size e1 P1 (.pointer (some ⟨pg, 0, none⟩)) (.slice A M.length c) hI.pl
      have hone := rootRow_one e1 P1 (.pointer (some ⟨pg, 0, none⟩)) (.slice A M.length c) rfl rfl
      have hc0 : wr.cell? ⟨g4, 0, none⟩ = some (.int .u32 (e1 : Int)) := (Blk.cell hblk 0).trans (by unfold rootRow; simp)
      have hp0 : Blk wr w.heap.size 108 zeroRow := HA.out.2.1.below hI.bel HA.out.2.1.lt
      have hne : g4 ≠ w.heap.size := by have := HG4.out; omega
      have hge := hI.ge
      have hbel := hI.bel
      have hep := HP.out.epr.1
      obtain ⟨Z, hZ⟩ : ∃ Z, rootRow e1 P1 (.pointer (some ⟨pg, 0, none⟩)) (.slice A M.length c) = Z := ⟨_, rfl⟩
      rw [hZ] at hblk hsz hone
      have hi : (Tryz.prog.info? 108).map (·.size) = some Z.size := by rw [hsz]; exact root12
      obtain ⟨p0, hp⟩ : ∃ p0, w.heap.size = p0 := ⟨_, rfl⟩
      rw [hp] at hp0 hne
      have hhd : wr.heap[g4]? = some (.cells Z 108 (0, 0)) := hblk
      have HP0 : Hid (wr.drew.heap[p0]? = some (.cells zeroRow 108 (0, 0))) := Lib.hid hp0
      have hrow : (wr.drew.setRow p0 Z).heap[p0]? = some (.cells Z 108 (0, 0)) := setRow_heap _ p0 _ _ _ _ HP0.out
      have hfin : RtM w (wr.drew.setRow p0 Z) pg A c M ∧ Below w.heap.size w (wr.drew.setRow p0 Z) := by
        have hsA := HA.out.2.2
        exact ⟨(a5.below (Below.refl _ wr).drew |>.kept (by simp) (fun j hj _ => setRow_other _ p0 j _ (by omega))).base (by omega), below_setRow ((HA.out.1.trans (hbel.mono HA.out.1.size)).drew) (by omega) _⟩
      have HFIN := Lib.hid (And.intro hfin hrow)
      have HZZ := Lib.hid hZ
      have hd0 : decide ((e1 : Int) > 0) = true := by simp; omega
      have hd1 : decide (0 < e1) = true := decide_eq_true hep
      have HKP : Hid ((wr.drew.setRow p0 Z).heap[g4]? = some (.cells Z 108 (0, 0)) ∧ (wr.drew.setRow p0 Z).cell? ⟨g4, 0, none⟩ = some (.int .u32 (e1 : Int))) := Lib.hid ⟨(setRow_other _ p0 g4 _ hne).trans hhd, (World.cell?_of_block (a := ⟨g4, 0, none⟩) (setRow_other _ p0 g4 _ hne)).trans hc0⟩
      generalize hz : (k : Int) = z at hd ⊢
      rw [hp]
      clear hfin hrow hZ hblk hI a5 a6 a7 hge hbel hep hlt hk hk2 hz hne hp
      go_upto_region 9 with fail
      refine wp_region_held_drew (S := fun W => W.heap[g4]? = some (.cells Z 108 (0, 0)) ∧ W.cell? ⟨g4, 0, none⟩ = some (.int .u32 (e1 : Int))) (by kernel_rfl) ⟨hhd, hc0⟩ (fun hHeld => ?_)
      refine Blo.takeY 0 (some 27) rfl rfl (by kernel_rfl) (by kernel_rfl) (by kernel_rfl) (fun _ _ _ h => h) (by rfl) (v := .agg Z) (by (intro w9 hSw; exact exec_load_row 108 (.tmp 4) rfl g4 rfl 108 Z (0, 0) _ hSw.1 Tryz.underlying108 rfl hi)) hHeld ?_
      simp only [Act.put, List.setIfInBounds_toArray, List.set_cons_zero, List.set_cons_succ]
      refine Blo.takeY 1 (some 28) rfl rfl (by kernel_rfl) (by kernel_rfl) (by kernel_rfl) (fun _ _ _ h => h) (by rfl) (v := _) (by (intro _ hSw; (try dsimp only at hSw); go_simp; try with_reducible rfl)) hHeld ?_
      simp only [Act.put, List.setIfInBounds_toArray, List.set_cons_zero, List.set_cons_succ]
      refine Blo.takeY 2 (some 29) rfl rfl (by kernel_rfl) (by kernel_rfl) (by kernel_rfl) (fun _ _ _ h => h) (by rfl) (v := _) (by (intro _ hSw; (try dsimp only at hSw); go_simp; try with_reducible rfl)) hHeld ?_
      simp only [Act.put, List.setIfInBounds_toArray, List.set_cons_zero, List.set_cons_succ]
      refine Blo.takeY 3 (some 30) rfl rfl (by kernel_rfl) (by kernel_rfl) (by kernel_rfl) (fun _ _ _ h => h) (by rfl) (v := _) (by (intro _ hSw; (try dsimp only at hSw); go_simp; try with_reducible rfl)) hHeld ?_
      simp only [Act.put, List.setIfInBounds_toArray, List.set_cons_zero, List.set_cons_succ]
      refine wpAnyH_ready (rs := [4]) (by kernel_rfl) (by simp) ?_
      refine AllReadyH.cons rfl (fun K hK => ?_) AllReadyH.nil
      refine step_store_row rfl 108 (.tmp 2) (.tmp 27) rfl p0 Z rfl rfl 108 zeroRow HP0.out hi (by rw [hsz]; rfl) hone ?_
      refine hK.out _ _ HKP.out (fun hHeld => ?_)
      clear hK K
      refine Blo.takeY 5 (some 3) rfl rfl (by kernel_rfl) (by kernel_rfl) (by kernel_rfl) (fun _ _ _ h => h) (by rfl) (v := _) (by (intro _ hSw; (try dsimp only at hSw); go_simp; try with_reducible rfl)) hHeld ?_
      simp only [Act.put, List.setIfInBounds_toArray]
      refine wpAnyH_done (by kernel_rfl) ?_ _
      clear hHeld
      go_wp2_with fail
      (try simp only [Exit.inBlock, Exit.then])
      refine bodyPost_ret (results_cell_tmp_row rfl _ _ p0 108 Z (0, 0) _ rfl HFIN.out.2 Tryz.underlying108 rfl hi) rfl ?_
      refine ⟨pg, A, c, ?_, HFIN.out.1.1, HFIN.out.1.2⟩
      rw [HZZ.out]
      rfl
end
end Go.Proofs.YtolpgpphjnkehaaGreatDoor
/- shadow: load. -/
namespace Go.Proofs.YtolpgpphjnkehaaGreatDoor
set_option maxRecDepth 20000
open Go.RowKit Cac Dsk
open Pag (PM IntsO)
open Pag.Pgs (fwdTo partB sectorsL)
theorem take_any (p5 bp bq n x : Nat) (S : Nat → Bool) (w : World) (hb : w.cell? ⟨p5, 0, none⟩ = some (.pointer (some ⟨bp, 0, none⟩))) (h : Bit.Bs w bp bq n S) (h2 : 2 ≤ x) :
    Calls Tryz.prog 113 #[.int .i64 (x : Int), .pointer (some ⟨p5, 0, none⟩)] w fun e w' => e = .returned (.bool (Bit.setB S n (x : Int))) ∧ Bit.Bs w' bp bq n (Bit.ins S n (x : Int)) ∧ w.grownBy w' (some bq) := by
  have hd : decide ((x : Int) ≥ 2) = true := by simp; omega
  have HS := Lib.hid (Bit.set_any bp bq n (x : Int) S w h)
  clear h h2
  go_enter Tryz.func113, Tryz.ntmps113
  go_wp2_with fail
  refine HS.out.mono ?_
  rintro e w' ⟨rfl, h1, h2⟩
  have HK := Lib.hid (And.intro h1 h2)
  clear h1 h2
  go_wp2_with fail
  go_ret
  exact ⟨rfl, HK.out⟩
theorem setB_in {n x : Nat} {l : List Nat} (hx : x < n) (hl : x ∉ l) : Bit.setB (inL n l) n (x : Int) = true := by
  unfold Bit.setB inL
  simp [hx, hl]
theorem bs_same {w w' : World} {p q n : Nat} {S : Nat → Bool} (h : Bit.Bs w p q n S) (hp : w'.heap[p]? = w.heap[p]?) (hq : w'.heap[q]? = w.heap[q]?) : Bit.Bs w' p q n S := by
  obtain ⟨c, ws, cs, hw, h1, h2, h3, h4, h5⟩ := h.mem
  exact ⟨⟨c, ws, cs, hw, Blk.same h1 hp, h2, h3, hq.trans h4, h5⟩, h.ne⟩
/-- Between load's rounds. -/
structure Ld (w wr : World) (pg p5 bp bq nn : Nat) (l : List Nat) (K : List Nat) : Prop where
  bs : Bit.Bs wr bp bq nn (inL nn l)
  box : Blk wr p5 165 #[.pointer (some ⟨bp, 0, none⟩)]
  pm : PM wr pg K
  off : Off (fun k => k = pg) w wr
  ge : w.heap.size ≤ bp ∧ w.heap.size ≤ bq ∧ w.heap.size ≤ p5 ∧ pg < w.heap.size
  ne : p5 ≠ bq
section
variable {w wr w' : World} {pg p5 bp bq nn : Nat} {l K : List Nat}
theorem Ld.below (h : Ld w wr pg p5 bp bq nn l K) (hb : Below wr.heap.size wr w') : Ld w w' pg p5 bp bq nn l K :=
  ⟨h.bs.below hb, h.box.below hb h.box.lt, h.pm.below hb, h.off.trans (Off.of_below hb _ (fun _ _ hk => by omega)), h.ge, h.ne⟩
theorem Ld.took (h : Ld w wr pg p5 bp bq nn l K) {x : Nat} (h1 : Bit.Bs w' bp bq nn (Bit.ins (inL nn l) nn (x : Int))) (h2 : wr.grownBy w' (some bq)) : Ld w w' pg p5 bp bq nn (l ++ [x]) K := by
  have hlt := h.pm.blk.lt
  have hge := h.ge
  exact ⟨h1.congr (inL_snoc nn l x), h.box.grown h2 (fun e => h.ne (Option.some.inj e)), h.pm.same (h2.block pg hlt (fun e => by have e1 := Option.some.inj e; omega)), h.off.then (Off.of_grown h2) (fun j hj e => by have e1 : bq = j := Option.some.inj e; omega), h.ge, h.ne⟩
theorem Ld.laid (h : Ld w wr pg p5 bp bq nn l K) {K' : List Nat} (h1 : Pag.Stp wr w' pg K') : Ld w w' pg p5 bp bq nn l K' := by
  have hge := h.ge
  obtain ⟨k1, k2⟩ := h1
  replace k2 := offP k2
  obtain ⟨b1, b2⟩ := h.bs.lt
  refine ⟨bs_same h.bs (k2.block bp b1 (fun e => by have e2 : bp = pg := e; omega)) (k2.block bq b2 (fun e => by have e2 : bq = pg := e; omega)), h.box.same (k2.block p5 h.box.lt (fun e => by have e2 : p5 = pg := e; omega)), k1, h.off.trans k2, hge, h.ne⟩
end
theorem sectors_nodup {nn : Nat} {P L O : List Nat} (h : Geo nn P L O) : (sectorsL L).Nodup := by
  unfold sectorsL
  refine List.pairwise_map.2 ?_
  have h1 : (Pag.Pgs.pagesL L).Pairwise (· < ·) := List.Pairwise.filter _ List.pairwise_lt_range
  refine List.Pairwise.imp_of_mem ?_ h1
  intro p q hp hq hlt e
  have := h.linj p q (of_decide_eq_true (List.mem_filter.1 hp).2) e
  omega
/-- The sectors of the parts up to one. -/
def partsTo (P : List Nat) (k : Nat) : List Nat := (P.take k).filter fun x => decide (x ≠ 0)
theorem partsTo_zero {P : List Nat} {k : Nat} (h : P[k]? = some 0) : partsTo P (k + 1) = partsTo P k := by
  obtain ⟨hk, e⟩ := List.getElem?_eq_some_iff.1 h
  unfold partsTo
  rw [List.take_succ_eq_append_getElem hk, e, List.filter_append]
  simp
theorem partsTo_next {P : List Nat} {k x : Nat} (h : P[k]? = some x) (h0 : x ≠ 0) : partsTo P (k + 1) = partsTo P k ++ [x] := by
  obtain ⟨hk, e⟩ := List.getElem?_eq_some_iff.1 h
  unfold partsTo
  rw [List.take_succ_eq_append_getElem hk, e, List.filter_append]
  simp [h0]
theorem partsTo_not {nn : Nat} {P L O : List Nat} (hg : Geo nn P L O) {k x : Nat} (h : P[k]? = some x) (h0 : x ≠ 0) : x ∉ partsTo P k := by
  intro hx
  have hm := (List.mem_filter.1 hx).1
  obtain ⟨i, hi⟩ := List.mem_iff_getElem?.1 hm
  have hik := (List.getElem?_eq_some_iff.1 hi).1
  rw [List.length_take] at hik
  rw [List.getElem?_take_of_lt (by omega)] at hi
  have := hg.pnd i k x hi h h0
  omega
section
variable {w0 w w' : World} {X : Nat → Prop} {dg nn t ep : Nat} {D : DS} {P L : List Nat} {M : List UInt8}
set_option maxHeartbeats 1000000 in
theorem load_pub (h : Run w0 w X dg D) (hD : Hale nn t D) (hn : 16 ≤ nn ∧ nn ≤ 4096) (hT : Blo.Tab w0) (hp : Pub (readS D) nn ep P M L) (rb pg c : Nat) (A : Option Addr) (hr : Blk w rb 108 (rootRow ep P (.pointer (some ⟨pg, 0, none⟩)) (.slice A M.length c))) (hpg : PM w pg Pag.Pgs.none_) (hne : rb ≠ pg) (hX : X pg ∧ w0.heap.size ≤ pg) :
    Calls Tryz.prog 62 #[.pointer (some ⟨rb, 0, none⟩), .pointer (some ⟨dg, 0, none⟩)] w fun e w' => e = .returned (.bool true) ∧ PM w' pg L ∧ Off (fun k => k = pg) w w' := by
  have HP := Lib.hid hp
  have hm : decide ((M.length : Int) > 200) = false := by have := hp.mlen; simp; omega
  have hrow := hr
  have cm : w.cell? ⟨rb, 11, none⟩ = some (.slice A M.length c) := (Blk.cell hrow 11).trans (by unfold rootRow; rw [List.getElem?_toArray, List.append_assoc, List.getElem?_append_right (by simp), List.getElem?_append_right (by simp [hp.geo.pl])]; simp [hp.geo.pl])
  have hcp : ∀ (i x : Nat), P[i]? = some x → w.cell? ⟨rb, 1 + i, none⟩ = some (.int .i64 (x : Int)) := fun i x hx => (Blk.cell hrow (1 + i)).trans (by
    have hi := (List.getElem?_eq_some_iff.1 hx).1
    unfold rootRow
    rw [List.getElem?_toArray, List.append_assoc, List.getElem?_append_right (by simp), List.getElem?_append_left (by simp; omega), List.getElem?_map]
    simp [hx])
  have cg : w.cell? ⟨rb, 10, none⟩ = some (.pointer (some ⟨pg, 0, none⟩)) := (Blk.cell hrow 10).trans (by unfold rootRow; rw [List.getElem?_toArray, List.append_assoc, List.getElem?_append_right (by simp), List.getElem?_append_right (by simp [hp.geo.pl])]; simp [hp.geo.pl])
  have HS1 := Lib.hid (sectors_c0 dg nn)
  have hsec : ∃ A, w.cell? ⟨dg, 0, none⟩ = some (.slice A nn nn) := by
    obtain ⟨F, hd, hF⟩ := h.own
    obtain ⟨E', gl, gi, rv, hk, _⟩ := hd
    have hl := hD.len
    have hc := hk.hd.c0
    rw [hl] at hc
    exact ⟨_, hc⟩
  obtain ⟨As, hsec⟩ := hsec
  have HSE := Lib.hid (HS1.out As w hsec)
  have HN := Lib.hid (Bit.new_some nn w (by omega))
  have HRW : Hid (∀ W, Off (fun k => k = pg) w W → Run w0 W X dg D) := Lib.hid (fun W hW => h.turn hW (fun k e => by have e2 : k = pg := e; rw [e2]; exact hX) X (fun _ e => .inl e))
  have H := Lib.hid (And.intro h (And.intro hD (And.intro hT (And.intro hpg (And.intro hr hcp)))))
  obtain ⟨ml, hml⟩ : ∃ ml, M.length = ml := ⟨_, rfl⟩
  rw [hml] at hm cm
  clear h hD hT hp hr hpg hrow hcp hsec HS1 hml hX
  go_enter Tryz.func62, Tryz.ntmps62
  go_wp2_with fail
  refine HSE.out.mono ?_
  rintro e w' ⟨rfl, rfl⟩
  go_wp2_with fail
  refine HN.out.mono ?_
  rintro e w1 ⟨bp, bq, rfl, k1, k2, k3, k4⟩
  have HK1 := Lib.hid (And.intro k1 (And.intro k2 (And.intro k3 k4)))
  clear k1 k2 k3 k4 HSE HN
  go_upto_region 5 with fail
  obtain ⟨wB, hwB⟩ : ∃ wB, w1.alloc (.cells #[.pointer (some ⟨bp, 0, none⟩)] 165) = wB := ⟨_, rfl⟩
  obtain ⟨p5, hp5⟩ : ∃ p5, w1.heap.size = p5 := ⟨_, rfl⟩
  rw [hwB, hp5]
  have hbB : Below w1.heap.size w1 wB := by rw [← hwB]; exact (Below.refl _ _).alloc (Nat.le_refl _) _
  have hbx : Blk wB p5 165 #[.pointer (some ⟨bp, 0, none⟩)] := by rw [← hwB, ← hp5]; exact Blk.new _ _ _
  have hbW : Below w.heap.size w wB := HK1.out.2.2.2.trans (hbB.mono HK1.out.2.2.2.size)
  have hrb := H.out.2.2.2.2.1.lt
  have HL0 : Hid (Ld w wB pg p5 bp bq nn (partsTo P 0) (fwdTo L 0)) := Lib.hid (by
    obtain ⟨q1, q2, q3, q4⟩ := HK1.out
    have hl := q3.lt
    have hs := hbB.size
    refine ⟨(q3.below hbB).congr (inL_nil nn), hbx, ?_, Off.of_below hbW _ (fun _ _ hk => by omega), ⟨q1, q2, by have := q4.size; omega, H.out.2.2.2.1.blk.lt⟩, by omega⟩
    rw [Pag.Pgs.fwdTo_zero]
    exact H.out.2.2.2.1.below hbW)
  obtain ⟨p0, q1, q2, q3, q4, q5, q6, q7, q8, hPP⟩ : ∃ p0 p1 p2 p3 p4 p5 p6 p7 p8, P = [p0, p1, p2, p3, p4, p5, p6, p7, p8] := by
    match P, HP.out.geo.pl with
    | [p0, p1, p2, p3, p4, p5, p6, p7, p8], _ => exact ⟨p0, p1, p2, p3, p4, p5, p6, p7, p8, rfl⟩
  have hcB : ∀ (i x : Nat), P[i]? = some x → wB.cell? ⟨rb, 1 + i, none⟩ = some (.int .i64 (x : Int)) := fun i x hx => (World.cell?_of_block (a := ⟨rb, 1 + i, none⟩) (hbW.block rb hrb)).trans (H.out.2.2.2.2.2 i x hx)
  have c1 : wB.cell? ⟨rb, 1, none⟩ = some (.int .i64 (p0 : Int)) := hcB 0 p0 (by rw [hPP]; rfl)
  have c2 : wB.cell? ⟨rb, 2, none⟩ = some (.int .i64 (q1 : Int)) := hcB 1 q1 (by rw [hPP]; rfl)
  have c3 : wB.cell? ⟨rb, 3, none⟩ = some (.int .i64 (q2 : Int)) := hcB 2 q2 (by rw [hPP]; rfl)
  have c4 : wB.cell? ⟨rb, 4, none⟩ = some (.int .i64 (q3 : Int)) := hcB 3 q3 (by rw [hPP]; rfl)
  have c5 : wB.cell? ⟨rb, 5, none⟩ = some (.int .i64 (q4 : Int)) := hcB 4 q4 (by rw [hPP]; rfl)
  have c6 : wB.cell? ⟨rb, 6, none⟩ = some (.int .i64 (q5 : Int)) := hcB 5 q5 (by rw [hPP]; rfl)
  have c7 : wB.cell? ⟨rb, 7, none⟩ = some (.int .i64 (q6 : Int)) := hcB 6 q6 (by rw [hPP]; rfl)
  have c8 : wB.cell? ⟨rb, 8, none⟩ = some (.int .i64 (q7 : Int)) := hcB 7 q7 (by rw [hPP]; rfl)
  have c9 : wB.cell? ⟨rb, 9, none⟩ = some (.int .i64 (q8 : Int)) := hcB 8 q8 (by rw [hPP]; rfl)
  have HPP : Hid (∀ (i x : Nat), P[i]? = some x → (#[Value.int .i64 (p0 : Int), .int .i64 (q1 : Int), .int .i64 (q2 : Int), .int .i64 (q3 : Int), .int .i64 (q4 : Int), .int .i64 (q5 : Int), .int .i64 (q6 : Int), .int .i64 (q7 : Int), .int .i64 (q8 : Int)] : Array Value)[i]? = some (.int .i64 (x : Int))) := Lib.hid (fun i x hx => by
    rw [hPP] at hx
    have hi := (List.getElem?_eq_some_iff.1 hx).1
    match i, hi, hx with
    | 0, _, hx => cases hx; rfl
    | 1, _, hx => cases hx; rfl
    | 2, _, hx => cases hx; rfl
    | 3, _, hx => cases hx; rfl
    | 4, _, hx => cases hx; rfl
    | 5, _, hx => cases hx; rfl
    | 6, _, hx => cases hx; rfl
    | 7, _, hx => cases hx; rfl
    | 8, _, hx => cases hx; rfl)
  have HBW := Lib.hid (And.intro hbW (And.intro hrb hp5))
  clear hcB hPP hbB hbx hbW hrb hwB hp5
  go_wp2_with fail
  obtain ⟨Z, hZ⟩ : ∃ Z, (#[Value.int .i64 (p0 : Int), .int .i64 (q1 : Int), .int .i64 (q2 : Int), .int .i64 (q3 : Int), .int .i64 (q4 : Int), .int .i64 (q5 : Int), .int .i64 (q6 : Int), .int .i64 (q7 : Int), .int .i64 (q8 : Int)] : Array Value) = Z := ⟨_, rfl⟩
  rw [hZ] at HPP ⊢
  have hZs : Z.size = 9 := by rw [← hZ]; rfl
  clear hZ c1 c2 c3 c4 c5 c6 c7 c8 c9
  go_loopw [8, 9, 10, 11, 33] (fun _ _ _ _ iv wr => ∃ k : Nat, k ≤ 9 ∧ iv = .int .i64 (k : Int) ∧ Hid (Ld w wr pg p5 bp bq nn (partsTo P k) (fwdTo L k))) (fun _ _ _ _ iv _ => 9 - (intOf iv).toNat)
  case atStart => exact ⟨0, Nat.zero_le _, rfl, HL0⟩
  case round =>
    clear HL0
    obtain ⟨k, hk, rfl, hI⟩ := hrel
    by_cases hlt : k < 9
    · have hd2 : decide ((k : Int) < 9) = true := by simp; omega
      obtain ⟨x, hx⟩ : ∃ x, P[k]? = some x := ⟨_, List.getElem?_eq_getElem (by rw [HP.out.geo.pl]; exact hlt)⟩
      have hzx := HPP.out k x hx
      have hidx := run_idx9 hlt hzx wr
      have HX := Lib.hid hx
      by_cases h0 : x = 0
      · subst h0
        have HN2 : Hid (Ld w wr pg p5 bp bq nn (partsTo P (k + 1)) (fwdTo L (k + 1))) := Lib.hid (by
          rw [partsTo_zero hx, Pag.Pgs.fwdTo_skip HP.out.geo.okL hlt ((HP.out.part k 0 hx).1 rfl)]
          exact hI.out)
        clear hx hI
        go_wp2_with fail
        go_roundw
        case rel => exact ⟨k + 1, by omega, by go_num, HN2⟩
        case measure => simp [intOf]; omega
      · have hd0 : ((x : Int) == 0) = false := by simp; omega
        have hpt := (HP.out.part k x hx).2 h0
        have hpin := HP.out.geo.pin k x hx
        have hxn : 2 ≤ x ∧ x < nn := by rcases hpin with e | e <;> omega
        have hisb : Blo.IsBlk (readS D ((x : Int)).toNat) 2 (partB L k) := by
          rw [Int.toNat_natCast, hpt.2]
          exact ⟨by decide, by decide, by have := Pag.Pgs.partB_len HP.out.geo.okL hlt; omega, rfl⟩
        have HRB := Lib.hid (readBlock_any (HRW.out wr hI.out.off) H.out.2.1 H.out.2.2.1 (x : Int) 2 (by decide))
        have HIB := Lib.hid (And.intro hisb (And.intro hxn hpt.1))
        have HI := Lib.hid hI.out
        clear hx hI hisb hxn hpt hpin
        go_wp2_with fail
        refine HRB.out.mono ?_
        rintro e w5 ⟨hh, k4⟩
        obtain ⟨g, rfl, k2, k3⟩ : ∃ g, e = .returned (.tuple #[.slice (some ⟨g, 0, none⟩) (partB L k).length (partB L k).length, .bool true]) ∧ Blk w5 g 5 (row8 (partB L k)) ∧ wr.heap.size ≤ g := by
          rcases hh with ⟨g, kd, body, _, hb, he, h1, h2⟩ | ⟨hno, _⟩
          · obtain ⟨rfl, rfl⟩ := Blo.isBlk_one HIB.out.1 hb
            exact ⟨g, he, h1, h2⟩
          · rcases hno with hno | hno
            · exact absurd (show (0 : Int) ≤ (x : Int) ∧ (x : Int) < (nn : Int) by have := HIB.out.2.1; omega) hno
            · exact absurd HIB.out.1 (hno 2 _)
        have hI5 := HI.out.below k4
        have hbx5 := hI5.box.cell 0
        have HTK := take_any p5 bp bq nn x _ w5 hbx5 hI5.bs HIB.out.2.1.1
        rw [setB_in HIB.out.2.1.2 (partsTo_not HP.out.geo HX.out h0)] at HTK
        have HTK := Lib.hid HTK
        have HI5 := Lib.hid (And.intro hI5 (And.intro k2 k3))
        have hpl : (partB L k).length ≠ 0 := fun e => HIB.out.2.2 (List.eq_nil_of_length_eq_zero e)
        obtain ⟨pl, hpl2⟩ : ∃ pl, (partB L k).length = pl := ⟨_, rfl⟩
        rw [hpl2] at hpl ⊢
        have HPL := Lib.hid hpl2
        have hdl : ((pl : Int) == 0) = false := by simp; omega
        clear hh k2 k3 k4 hI5 hpl2 hbx5 HRB
        go_wp2_with fail
        refine HTK.out.mono ?_
        rintro e w6 ⟨rfl, t1, t2⟩
        have hI6 := HI5.out.1.took t1 t2
        rw [← partsTo_next HX.out h0] at hI6
        have hg6 : Blk w6 g 5 (row8 (partB L k)) := HI5.out.2.1.grown t2 (fun e => by
          have e1 : g = bq := Option.some.inj e
          have h1 := HI5.out.2.2
          have h2 := HI.out.bs.lt.2
          omega)
        have cg6 : w6.cell? ⟨rb, 10, none⟩ = some (.pointer (some ⟨pg, 0, none⟩)) := (World.cell?_of_block (a := ⟨rb, 10, none⟩) (hI6.off.block rb HBW.out.2.1 hne)).trans cg
        have HLY := Pag.lay_some pg pl pl (k : Int) (some ⟨g, 0, none⟩) (fwdTo L k) (partB L k) w6 hI6.pm HPL.out (Bytes.row (t := 5) hg6)
        rw [Pag.Pgs.layB_partB HP.out.geo.okL hlt, Pag.Pgs.fwdTo_step HP.out.geo.okL hlt] at HLY
        have HLY := Lib.hid HLY
        have HI6 := Lib.hid hI6
        clear t1 t2 hI6 hg6
        go_wp2_with fail
        refine HLY.out.mono ?_
        rintro e w7 ⟨rfl, hst⟩
        have HI7 := Lib.hid (HI6.out.laid hst)
        clear hst
        go_wp2_with fail
        go_roundw
        case rel => exact ⟨k + 1, by omega, by go_num, HI7⟩
        case measure => simp [intOf]; omega
    · have hd2 : decide ((k : Int) < 9) = false := by simp; omega
      obtain ⟨w4, rfl⟩ : ∃ v, v = wr := ⟨_, rfl⟩
      obtain ⟨PL, hPL⟩ : ∃ PL, partsTo P 9 = PL := ⟨_, rfl⟩
      have HI := Lib.hid (show Ld w w4 pg p5 bp bq nn PL L by
        have h9 := hI.out
        rw [show k = 9 by omega, Pag.Pgs.fwdTo_end HP.out.geo.okL, hPL] at h9
        exact h9)
      have HPL9 := Lib.hid hPL
      have cg6 : w4.cell? ⟨rb, 10, none⟩ = some (.pointer (some ⟨pg, 0, none⟩)) := (World.cell?_of_block (a := ⟨rb, 10, none⟩) (hI.out.off.block rb HBW.out.2.1 hne)).trans cg
      have HSC := Lib.hid (Pag.sectors_some pg L w4 HI.out.pm)
      generalize hz : (k : Int) = z at hd2 ⊢
      clear hI hk hlt hz hPL
      go_wp2_with fail
      refine HSC.out.mono ?_
      rintro e w5 ⟨sv, rfl, s1, s2, s3⟩
      obtain ⟨As2, m2, rfl, _, _⟩ := s1.shape
      have HS := Lib.hid (And.intro s1 (And.intro s2 s3))
      obtain ⟨ns, hns⟩ : ∃ ns, (sectorsL L).length = ns := ⟨_, rfl⟩
      have HNS := Lib.hid hns
      have hnsl : ns ≤ 1200 := by rw [← hns]; exact sectors_len L
      rw [hns]
      have HL2 : Hid (Ld w w5 pg p5 bp bq nn (PL ++ (sectorsL L).take 0) L) := Lib.hid (by rw [List.take_zero, List.append_nil]; exact HI.out.below s3)
      clear s1 s2 s3 hns HSC
      go_wp2_with fail
      go_loopw [13, 14, 15, 75] (fun _ _ _ iv wx => ∃ j : Nat, j ≤ ns ∧ iv = .int .i64 (j : Int) ∧ Hid (Ld w wx pg p5 bp bq nn (PL ++ (sectorsL L).take j) L ∧ Off (fun k => k = bq) w5 wx)) (fun _ _ _ iv _ => ns - (intOf iv).toNat)
      case atStart => exact ⟨0, Nat.zero_le _, rfl, Lib.hid ⟨HL2.out, Off.refl _ _⟩⟩
      case round =>
        clear HL2
        obtain ⟨j, hj, rfl, hJ⟩ := hrel
        by_cases hlt2 : j < ns
        · have hd3 : decide ((j : Int) < (ns : Int)) = true := by simpa using hlt2
          obtain ⟨x, hx⟩ : ∃ x, (sectorsL L)[j]? = some x := ⟨_, List.getElem?_eq_getElem (by rw [HNS.out]; exact hlt2)⟩
          obtain ⟨g, cx, ef, hgl, hcx⟩ := IntsO.get HS.out.1 j x hx
          simp only [Value.slice.injEq] at ef
          obtain ⟨rfl, _, rfl⟩ := ef
          have hgq : g ≠ bq := by
            have h1 := HS.out.2.1 g rfl
            have h2 := HI.out.bs.lt.2
            omega
          have hcx := (World.cell?_of_block (a := ⟨g, j, none⟩) (hJ.out.2.block g hgl hgq)).trans hcx
          have hm := (sectors_mem HP.out.geo.okL x).1 (List.mem_of_getElem? hx)
          have HQ : Hid ((2 ≤ x ∧ x < nn ∧ x ∉ P) ∧ ∃ b, Blo.IsBlk (readS D ((x : Int)).toNat) 3 b) := Lib.hid (by
            obtain ⟨h0, p, rfl⟩ := hm
            obtain ⟨b, hb1, hb2⟩ := HP.out.page p h0
            refine ⟨HP.out.geo.lin p h0, b, ?_⟩
            rw [Int.toNat_natCast, hb2]
            exact ⟨by decide, by decide, hb1, rfl⟩)
          have HX := Lib.hid hx
          have HRB := Lib.hid (readBlock_any (HRW.out wr hJ.out.1.off) H.out.2.1 H.out.2.2.1 (x : Int) 3 (by decide))
          have HJ := Lib.hid hJ.out
          clear hx hgl hgq hm hJ
          go_wp2_with fail
          refine HRB.out.mono ?_
          rintro e w6 ⟨hh, k4⟩
          obtain ⟨bv2, rfl⟩ : ∃ v, e = .returned (.tuple #[v, .bool true]) := by
            obtain ⟨hxn, b, hb⟩ := HQ.out
            rcases hh with ⟨g', kd, body, _, hb', he, _, _⟩ | ⟨hno, _⟩
            · obtain ⟨rfl, rfl⟩ := Blo.isBlk_one hb hb'
              exact ⟨_, he⟩
            · rcases hno with hno | hno
              · exact absurd (show (0 : Int) ≤ (x : Int) ∧ (x : Int) < (nn : Int) by omega) hno
              · exact absurd hb (hno 3 _)
          have hJ6 := HJ.out.1.below k4
          have hbx6 := hJ6.box.cell 0
          have hnot : x ∉ PL ++ (sectorsL L).take j := by
            rw [List.mem_append]
            rintro (h | h)
            · rw [← HPL9.out] at h
              exact HQ.out.1.2.2 (List.mem_of_mem_take (List.mem_filter.1 h).1)
            · obtain ⟨i, hi⟩ := List.mem_iff_getElem?.1 h
              have hij := (List.getElem?_eq_some_iff.1 hi).1
              rw [List.length_take] at hij
              rw [List.getElem?_take_of_lt (by omega)] at hi
              have := nodup_inj (sectors_nodup HP.out.geo) hi HX.out
              omega
          have HTK := take_any p5 bp bq nn x _ w6 hbx6 hJ6.bs HQ.out.1.1
          rw [setB_in HQ.out.1.2.1 hnot] at HTK
          have HTK := Lib.hid HTK
          have HJ6 := Lib.hid (And.intro hJ6 (HJ.out.2.trans (Off.of_below k4 _ (fun q h1 h2 => by omega))))
          clear hh k4 hJ6 hnot hbx6 HRB
          go_wp2_with fail
          refine HTK.out.mono ?_
          rintro e w7 ⟨rfl, t1, t2⟩
          have hJ7 := HJ6.out.1.took t1 t2
          have HJ7 : Hid (Ld w w7 pg p5 bp bq nn (PL ++ (sectorsL L).take (j + 1)) L ∧ Off (fun k => k = bq) w5 w7) := Lib.hid ⟨by
            obtain ⟨hjl, ex⟩ := List.getElem?_eq_some_iff.1 HX.out
            rw [List.take_succ_eq_append_getElem hjl, ex, ← List.append_assoc]
            exact hJ7, HJ6.out.2.trans ((Off.of_grown t2).mono fun _ _ e => (Option.some.inj e).symm)⟩
          clear t1 t2 hJ7
          go_wp2_with fail
          go_roundw
          case rel => exact ⟨j + 1, by omega, by go_num, HJ7⟩
          case measure => simp [intOf]; omega
        · obtain rfl : j = ns := by omega
          have hd3 : decide ((j : Int) < (j : Int)) = false := by simp
          have HJ := Lib.hid hJ.out
          clear hJ
          go_wp2_with fail
          go_ret
          exact ⟨rfl, HJ.out.1.pm, HJ.out.1.off⟩
end
end Go.Proofs.YtolpgpphjnkehaaGreatDoor
/- shadow: Open. -/
namespace Go.Proofs.YtolpgpphjnkehaaGreatDoor
set_option maxRecDepth 20000
open Go.RowKit Cac Dsk
open Pag (PM IntsO)
section
variable {w0 w w' : World} {X : Nat → Prop} {dg nn t ep : Nat} {D : DS} {P L : List Nat} {M : List UInt8}
theorem CS_new (most : Nat) (hn : 16 ≤ nn ∧ nn ≤ 4096) (hm : 1 ≤ most ∧ most ≤ 1024) (h : Run w0 w X dg D) (hD : Hale nn t D) :
    Calls Tryz.prog 59 #[.pointer (some ⟨dg, 0, none⟩), .int .i64 (most : Int)] w fun e w' => ∃ g, e = .returned (.tuple #[.pointer (some ⟨g, 0, none⟩), .int .i64 0]) ∧ w.heap.size ≤ g ∧ CS w0 w' X g dg nn most t D [] ∧ Below w.heap.size w w' := by
  have hr := h
  obtain ⟨⟨F, hDk, hF⟩, hX, hb0⟩ := h
  refine (cnew_ok dg F D most w hDk hD.dead hm).mono ?_
  rintro e w' ⟨rfl, h1, h2, hb⟩
  have hsz := Blk.lt h1
  refine ⟨_, rfl, by omega, ⟨⟨w.heap.size, 0, 0, fun _ => 0, fun _ => False, ⟨⟨h1, h2, (fun x hx => by cases hx), (fun x hx => by cases hx), List.Pairwise.nil, (fun x hx => by cases hx), (fun x hx => by cases hx), id, id, by omega⟩, hr.add hb _ (fun k hk => ?_), fun k hk => ?_⟩, Nat.zero_le _, Nat.zero_le _⟩, ⟨hD, (fun x hx => by cases hx), (fun x hx => by cases hx), List.Pairwise.nil, Nat.zero_le _, ⟨hm.2, hn⟩⟩, by omega⟩, hb⟩
  · rcases hk with hk | hk | hk | hk | ⟨x, hx, _⟩
    · exact .inl hk
    · exact .inr (by omega)
    · exact .inr (by omega)
    · exact hk.elim
    · cases hx
  · have hs0 := hb0.size
    rcases hk with hk | hk | hk | ⟨x, hx, _⟩
    · exact ⟨by omega, fun hx => by have := hX k hx; omega⟩
    · exact ⟨by omega, fun hx => by have := hX k hx; omega⟩
    · exact hk.elim
    · cases hx
theorem CS_run {g most : Nat} {Lc : List Fr} (h : CS w0 w X g dg nn most t D Lc) : Run w0 w X dg D := by
  obtain ⟨⟨mb, n, time, B, E, h1, h2⟩, h3, h4⟩ := h
  exact h1.run.less fun _ e => .inl e
theorem dead_run (h : Run w0 w X dg D) (hD : Hale nn t D) : Calls Tryz.prog 60 #[.pointer (some ⟨dg, 0, none⟩)] w fun e w' => e = .returned (.bool false) ∧ w = w' := by
  obtain ⟨F, hd, _⟩ := h.own
  have := hd.dead_
  rw [hD.dead] at this
  exact this
/-- What Open leaves. -/
structure OpT (w0 w w' : World) (X : Nat → Prop) (nn most t : Nat) (dg : Nat) (D : DS) (ep : Nat) (P : List Nat) (M : List UInt8) (L : List Nat) (a : Ad) : Prop where
  spc : Spc w0 w' X nn most t a ⟨ep, P, M, L, L, false⟩ D []
  dg : a.dg = dg
  bel : Below w.heap.size w w'
  ge : w.heap.size ≤ a.sp
theorem OpT.of {most cg pg og sg sp c : Nat} {A : Option Addr} {w1 w3 w4 wE : World} (hp : Pub (readS D) nn ep P M L) (hn : 16 ≤ nn ∧ nn ≤ 4096) (hcs : CS w0 w1 X cg dg nn most t D []) (hb1 : Below w.heap.size w w1) (hb3 : Below w1.heap.size w1 w3) (hrt : RtM w1 w3 pg A c M) (ho : Off (fun k => k = pg) w3 w4) (hpm : PM w4 pg L) (hbE : Below w4.heap.size w4 wE)
    (hh : Blk wE sp 128 (spRow dg cg ep pg og sg P (.slice A M.length c))) (hog : PM wE og L) (hsg : Blk wE sg 126 #[.int .u32 0, .int .i32 0, .int .u32 0, .slice none 0 0]) (hge : w4.heap.size ≤ sp ∧ w4.heap.size ≤ og ∧ w4.heap.size ≤ sg) (hne : sp ≠ og ∧ sp ≠ sg ∧ og ≠ sg) :
    OpT w0 w wE X nn most t dg D ep P M L ⟨sp, dg, cg, pg, og, sg, A, c, fun k => w1.heap.size ≤ k ∧ k < w4.heap.size⟩ := by
  have hs0 := hcs.bel.size
  have hs1 := hb1.size
  have hs3 := hb3.size
  have hs4 := ho.size
  have hsE := hbE.size
  have hpl := hrt.pm.blk.lt
  have hpge := hrt.ge
  have h3 := hcs.more hb3 (fun k => X k ∨ (w1.heap.size ≤ k ∧ k < w3.heap.size)) (fun k e => e)
  have h4 := CS_turnM h3 ho (fun k e => by have e2 : k = pg := e; rw [e2]; exact ⟨.inr ⟨hpge, hpl⟩, by omega⟩) (fun k => X k ∨ (w1.heap.size ≤ k ∧ k < w4.heap.size)) (fun k e => by
    rcases e with e | e
    · exact .inl (.inl e)
    · by_cases h : k < w3.heap.size
      · exact .inl (.inr ⟨e.1, h⟩)
      · exact .inr ⟨by omega, e.2⟩)
  have h5 := h4.more hbE (fun k => X k ∨ (w1.heap.size ≤ k ∧ k < wE.heap.size)) (fun k e => by
    rcases e with e | e
    · exact .inl (.inl e)
    · by_cases h : k < w4.heap.size
      · exact .inl (.inr ⟨e.1, h⟩)
      · exact .inr ⟨by omega, e.2⟩)
  have hXl : ∀ k, X k → k < w1.heap.size := hcs.lt
  have hby4 : Bytes w4 A M := hrt.by_.same hs4 (fun p e _ => by
    obtain ⟨q, rfl, k1, k2, k3⟩ := hrt.ad p e
    exact ho.block q k2 k3)
  have hzn : ∀ k, (⟨sp, dg, cg, pg, og, sg, A, c, fun k => w1.heap.size ≤ k ∧ k < w4.heap.size⟩ : Ad).zn k → w1.heap.size ≤ k ∧ k < wE.heap.size := fun k e => by
    have l1 := hh.lt
    have l2 := hog.blk.lt
    have l3 := hsg.lt
    rcases e with e | e | e | e
    · have e : k = sp := e
      omega
    · have e : k = og := e
      omega
    · have e : k = sg := e
      omega
    · have e : w1.heap.size ≤ k ∧ k < w4.heap.size := e
      omega
  refine ⟨⟨h5.less (fun k e => e.imp id (hzn k)), ⟨hh, hby4.below hbE, ⟨hrt.cap.1, hrt.cap.2, hp.mlen⟩, fun p e => ?_, hp.geo.pl, fun x hx => ?_, hp.epr.2, hpm.below hbE, (show w1.heap.size ≤ pg ∧ pg < w4.heap.size from ⟨hpge, by omega⟩), hog, ?_, ⟨⟨fun e => ?_, fun e => ?_, fun e => ?_⟩, hne⟩, fun k e => (hzn k e).2, ⟨hrt.nil_, fun p e => by obtain ⟨q, e1, _⟩ := hrt.ad p e; exact ⟨q, 0, e1⟩⟩⟩, fun k e => ⟨by have := (hzn k e).1; omega, fun hx => by have := (hzn k e).1; have := hXl k hx; omega⟩⟩, rfl, ?_, ?_⟩
  · obtain ⟨q, rfl, k1, k2, _⟩ := hrt.ad p e
    exact ⟨k1, by show q < w4.heap.size; omega⟩
  · obtain ⟨i, hi⟩ := List.mem_iff_getElem?.1 hx
    rcases hp.geo.pin i x hi with e | e <;> omega
  · unfold St
    simp only [Bool.false_eq_true, if_false]
    exact hsg
  · have e : w1.heap.size ≤ sp ∧ sp < w4.heap.size := e
    omega
  · have e : w1.heap.size ≤ og ∧ og < w4.heap.size := e
    omega
  · have e : w1.heap.size ≤ sg ∧ sg < w4.heap.size := e
    omega
  · exact hb1.trans ((hb3.trans ((ho.below hs3 (fun k e => by have e2 : k = pg := e; omega)).trans (hbE.mono (by omega)))).mono hs1)
  · show w.heap.size ≤ sp
    omega
theorem rootRow_lit (ep pg c ml p0 p1 p2 p3 p4 p5 p6 p7 p8 : Nat) (A : Option Addr) : rootRow ep [p0, p1, p2, p3, p4, p5, p6, p7, p8] (.pointer (some ⟨pg, 0, none⟩)) (.slice A ml c) = #[.int .u32 (ep : Int), .int .i64 (p0 : Int), .int .i64 (p1 : Int), .int .i64 (p2 : Int), .int .i64 (p3 : Int), .int .i64 (p4 : Int), .int .i64 (p5 : Int), .int .i64 (p6 : Int), .int .i64 (p7 : Int), .int .i64 (p8 : Int), .pointer (some ⟨pg, 0, none⟩), .slice A ml c] := rfl
set_option maxHeartbeats 1000000 in
theorem open_pub (h : Run w0 w X dg D) (hD : Hale nn t D) (hn : 16 ≤ nn ∧ nn ≤ 4096) (hT : Blo.Tab w0) (hp : Pub (readS D) nn ep P M L) (most : Nat) (hm : 2 ≤ most ∧ most ≤ 1024) :
    Calls Tryz.prog 20 #[.pointer (some ⟨dg, 0, none⟩), .int .i64 (most : Int)] w fun e w' => ∃ a, e = .returned (.tuple #[.pointer (some ⟨a.sp, 0, none⟩), .int .i64 0]) ∧ OpT w0 w w' X nn most t dg D ep P M L a := by
  have hd2 : decide ((most : Int) < 2) = false := by simp; omega
  have HN := Lib.hid (CS_new most hn ⟨by omega, hm.2⟩ h hD)
  have H := Lib.hid (And.intro h (And.intro hD (And.intro hT hp)))
  clear h hD hT hp
  go_enter Tryz.func20, Tryz.ntmps20
  go_wp2_with fail
  refine HN.out.mono ?_
  rintro e w1 ⟨cg, rfl, k1, k2, k3⟩
  have HK1 := Lib.hid (And.intro k1 (And.intro k2 k3))
  have HDD := Lib.hid (dead_run (CS_run k2) H.out.2.1)
  have HNW := Lib.hid (newest_pub (CS_run k2) H.out.2.1 hn H.out.2.2.1 H.out.2.2.2)
  clear k1 k2 k3 HN
  go_wp2_with fail
  refine HDD.out.mono ?_
  rintro e w' ⟨rfl, rfl⟩
  go_wp2_with fail
  refine HNW.out.mono ?_
  rintro e w2 ⟨pg, A, c, rfl, q1, q2⟩
  obtain ⟨p0, p1, p2, p3, p4, p5, p6, p7, p8, hPP⟩ : ∃ p0 p1 p2 p3 p4 p5 p6 p7 p8, P = [p0, p1, p2, p3, p4, p5, p6, p7, p8] := by
    match P, H.out.2.2.2.geo.pl with
    | [p0, p1, p2, p3, p4, p5, p6, p7, p8], _ => exact ⟨p0, p1, p2, p3, p4, p5, p6, p7, p8, rfl⟩
  subst hPP
  obtain ⟨ml, hml⟩ : ∃ ml, M.length = ml := ⟨_, rfl⟩
  rw [rootRow_lit, hml]
  have HQ := Lib.hid (And.intro q1 (And.intro q2 hml))
  clear q1 q2 hml HNW
  go_upto_region 9 with fail
  obtain ⟨w3, hw3⟩ : ∃ w3, w2.alloc (.cells #[.int .u32 (ep : Int), .int .i64 (p0 : Int), .int .i64 (p1 : Int), .int .i64 (p2 : Int), .int .i64 (p3 : Int), .int .i64 (p4 : Int), .int .i64 (p5 : Int), .int .i64 (p6 : Int), .int .i64 (p7 : Int), .int .i64 (p8 : Int), .pointer (some ⟨pg, 0, none⟩), .slice A ml c] 108) = w3 := ⟨_, rfl⟩
  obtain ⟨rb, hrb⟩ : ∃ rb, w2.heap.size = rb := ⟨_, rfl⟩
  rw [hw3, hrb]
  have hb23 : Below w2.heap.size w2 w3 := by rw [← hw3]; exact (Below.refl _ _).alloc (Nat.le_refl _) _
  have hblk : Blk w3 rb 108 #[.int .u32 (ep : Int), .int .i64 (p0 : Int), .int .i64 (p1 : Int), .int .i64 (p2 : Int), .int .i64 (p3 : Int), .int .i64 (p4 : Int), .int .i64 (p5 : Int), .int .i64 (p6 : Int), .int .i64 (p7 : Int), .int .i64 (p8 : Int), .pointer (some ⟨pg, 0, none⟩), .slice A ml c] := by rw [← hw3, ← hrb]; exact Blk.new _ _ _
  have hb3 : Below w1.heap.size w1 w3 := HQ.out.2.1.trans (hb23.mono HQ.out.2.1.size)
  have hcs3 := HK1.out.2.1.more hb3 (fun k => X k ∨ (w1.heap.size ≤ k ∧ k < w3.heap.size)) (fun k e => e)
  have hrt := HQ.out.1.below hb23
  have hrne : rb ≠ pg := by have := HQ.out.1.pm.blk.lt; omega
  have hLD := load_pub (CS_run hcs3) H.out.2.1 hn H.out.2.2.1 H.out.2.2.2 rb pg c A (by rw [rootRow_lit, HQ.out.2.2]; exact hblk) hrt.pm hrne ⟨.inr ⟨hrt.ge, hrt.pm.blk.lt⟩, by have := HK1.out.2.1.bel.size; have := hrt.ge; omega⟩
  have HLD := Lib.hid hLD
  have H3 := Lib.hid (And.intro hb3 (And.intro hrt (And.intro hblk (And.intro hrne hcs3))))
  clear hw3 hrb hb23 hblk hb3 hcs3 hrt hrne hLD
  go_wp2_with fail
  refine HLD.out.mono ?_
  rintro e w4 ⟨rfl, l1, l2⟩
  have hblk := H3.out.2.2.1
  have hoth := l2.block rb hblk.lt H3.out.2.2.2.1
  have hb4 : Blk w4 rb 108 #[.int .u32 (ep : Int), .int .i64 (p0 : Int), .int .i64 (p1 : Int), .int .i64 (p2 : Int), .int .i64 (p3 : Int), .int .i64 (p4 : Int), .int .i64 (p5 : Int), .int .i64 (p6 : Int), .int .i64 (p7 : Int), .int .i64 (p8 : Int), .pointer (some ⟨pg, 0, none⟩), .slice A ml c] := hblk.same hoth
  have HL := Lib.hid (And.intro l1 l2)
  have e0 := hb4.cell 0
  have e1 := hb4.cell 1
  have e2 := hb4.cell 2
  have e3 := hb4.cell 3
  have e4 := hb4.cell 4
  have e5 := hb4.cell 5
  have e6 := hb4.cell 6
  have e7 := hb4.cell 7
  have e8 := hb4.cell 8
  have e9 := hb4.cell 9
  have e10 := hb4.cell 10
  have e11 := hb4.cell 11
  simp only [List.getElem?_toArray, List.getElem?_cons_zero, List.getElem?_cons_succ] at e0 e1 e2 e3 e4 e5 e6 e7 e8 e9 e10 e11
  have HCP : Hid (∀ W, Below w4.heap.size w4 W → _) := Lib.hid (fun W hW => Pag.copy_some pg L W (HL.out.1.below hW))
  have HB4 := Lib.hid hb4
  have hi : (Tryz.prog.info? 108).map (·.size) = some (#[.int .u32 (ep : Int), .int .i64 (p0 : Int), .int .i64 (p1 : Int), .int .i64 (p2 : Int), .int .i64 (p3 : Int), .int .i64 (p4 : Int), .int .i64 (p5 : Int), .int .i64 (p6 : Int), .int .i64 (p7 : Int), .int .i64 (p8 : Int), .pointer (some ⟨pg, 0, none⟩), .slice A ml c] : Array Value).size := root12
  clear l1 l2 hoth hblk hb4 HLD
  go_upto_region 11 with fail
  refine wp_region_held_drew (S := fun W => Below w4.heap.size w4 W) (by kernel_rfl) (Below.refl _ w4).drew (fun hHeld => ?_)
  have Twd : Below w4.heap.size w4 w4.drew := (Below.refl _ w4).drew
  generalize w4.drew = wd at hHeld Twd ⊢
  refine Blo.takeY 0 (some 38) rfl rfl (by kernel_rfl) (by kernel_rfl) (by kernel_rfl) (fun _ _ _ h => h) (by rfl) (v := _) (by (intro _ hSw; (try dsimp only at hSw); go_simp; try with_reducible rfl)) hHeld ?_
  simp only [Act.put, List.setIfInBounds_toArray, List.set_cons_zero, List.set_cons_succ]
  refine Blo.takeY 1 (some 39) rfl rfl (by kernel_rfl) (by kernel_rfl) (by kernel_rfl) (fun _ _ _ h => h) (by rfl) (v := _) (by (intro _ hSw; (try dsimp only at hSw); go_simp; try with_reducible rfl)) hHeld ?_
  simp only [Act.put, List.setIfInBounds_toArray, List.set_cons_zero, List.set_cons_succ]
  refine Blo.takeY 2 (some 40) rfl rfl (by kernel_rfl) (by kernel_rfl) (by kernel_rfl) (fun _ _ _ h => h) (by rfl) (v := .agg #[.int .u32 (ep : Int), .int .i64 (p0 : Int), .int .i64 (p1 : Int), .int .i64 (p2 : Int), .int .i64 (p3 : Int), .int .i64 (p4 : Int), .int .i64 (p5 : Int), .int .i64 (p6 : Int), .int .i64 (p7 : Int), .int .i64 (p8 : Int), .pointer (some ⟨pg, 0, none⟩), .slice A ml c]) (by (intro w9 hSw; exact exec_load_row 108 (.tmp 8) rfl rb rfl 108 _ (0, 0) _ (HB4.out.below hSw HB4.out.lt) Tryz.underlying108 rfl hi)) hHeld ?_
  simp only [Act.put, List.setIfInBounds_toArray, List.set_cons_zero, List.set_cons_succ]
  refine Blo.takeY 3 (some 41) rfl rfl (by kernel_rfl) (by kernel_rfl) (by kernel_rfl) (fun _ _ _ h => h) (by rfl) (v := _) (by (intro _ hSw; (try dsimp only at hSw); go_simp; try with_reducible rfl)) hHeld ?_
  simp only [Act.put, List.setIfInBounds_toArray, List.set_cons_zero, List.set_cons_succ]
  refine Blo.takeY 4 (some 42) rfl rfl (by kernel_rfl) (by kernel_rfl) (by kernel_rfl) (fun _ _ _ h => h) (by rfl) (v := .pointer (some ⟨pg, 0, none⟩)) (by (intro w9 hSw; have e10 := (World.cell?_of_block (a := ⟨rb, 10, none⟩) (hSw.block rb HB4.out.lt)).trans e10; clear hSw; go_simp)) hHeld ?_
  simp only [Act.put, List.setIfInBounds_toArray, List.set_cons_zero, List.set_cons_succ]
  refine Blo.takeY 6 (some 44) rfl rfl (by kernel_rfl) (by kernel_rfl) (by kernel_rfl) (fun _ _ _ h => h) (by rfl) (v := _) (by (intro _ hSw; (try dsimp only at hSw); go_simp; try with_reducible rfl)) hHeld ?_
  simp only [Act.put, List.setIfInBounds_toArray, List.set_cons_zero, List.set_cons_succ]
  refine wpAnyH_ready (rs := [5, 7]) (by kernel_rfl) (by simp) ?_
  refine AllReadyH.cons rfl (fun K hK => ?_) (AllReadyH.cons rfl (fun K hK => ?_) AllReadyH.nil)
  · go_simp
    refine (HCP.out wd Twd).mono ?_
    rintro e wC ⟨rfl, c1, c2⟩
    have TC : Below w4.heap.size w4 wC := Twd.trans (c2.mono Twd.size)
    obtain ⟨og, hog⟩ : ∃ og, wd.heap.size = og := ⟨_, rfl⟩
    have HC := Lib.hid (And.intro c1 (And.intro c2 hog))
    rw [hog]
    clear c1 c2 hog
    refine hK.out _ _ TC (fun hHeld => ?_)
    clear hK K
    refine wpAnyH_ready (rs := [7]) (by kernel_rfl) (by simp) ?_
    refine AllReadyH.cons rfl (fun K hK => ?_) AllReadyH.nil
    go_simp
    obtain ⟨wX, hwX⟩ : ∃ v, wC.alloc (.cells #[.int .u32 0, .int .i32 0, .int .u32 0, .slice none 0 0] 126) = v := ⟨_, rfl⟩
    obtain ⟨sg, hsg⟩ : ∃ sg, wC.heap.size = sg := ⟨_, rfl⟩
    have hX1 : Below wC.heap.size wC wX := by rw [← hwX]; exact (Below.refl _ _).alloc (Nat.le_refl _) _
    have hX2 : Blk wX sg 126 #[.int .u32 0, .int .i32 0, .int .u32 0, .slice none 0 0] := by rw [← hwX, ← hsg]; exact Blk.new _ _ _
    have TX : Below w4.heap.size w4 wX := TC.trans (hX1.mono TC.size)
    rw [hwX, hsg]
    have HX := Lib.hid (And.intro hX2 (And.intro hX1 hsg))
    clear hX1 hX2 hwX hsg
    refine hK.out _ _ TX (fun hHeld => ?_)
    clear hK K
    refine Blo.takeY 8 (some 46) rfl rfl (by kernel_rfl) (by kernel_rfl) (by kernel_rfl) (fun _ _ _ h => h) (by rfl) (v := _) (by (intro _ hSw; (try dsimp only at hSw); go_simp; try with_reducible rfl)) hHeld ?_
    simp only [Act.put, List.setIfInBounds_toArray, List.set_cons_zero, List.set_cons_succ]
    refine wpAnyH_ready (rs := [9]) (by kernel_rfl) (by simp) ?_
    refine AllReadyH.cons rfl (fun K hK => ?_) AllReadyH.nil
    go_simp
    obtain ⟨wE, hwE⟩ : ∃ v, wX.alloc (.cells #[.pointer (some ⟨dg, 0, none⟩), .pointer (some ⟨cg, 0, none⟩), .int .u32 (ep : Int), .int .i64 (p0 : Int), .int .i64 (p1 : Int), .int .i64 (p2 : Int), .int .i64 (p3 : Int), .int .i64 (p4 : Int), .int .i64 (p5 : Int), .int .i64 (p6 : Int), .int .i64 (p7 : Int), .int .i64 (p8 : Int), .pointer (some ⟨pg, 0, none⟩), .slice A ml c, .pointer (some ⟨og, 0, none⟩), .pointer (some ⟨sg, 0, none⟩)] 128) = v := ⟨_, rfl⟩
    obtain ⟨sp, hsp⟩ : ∃ sp, wX.heap.size = sp := ⟨_, rfl⟩
    have hE1 : Below wX.heap.size wX wE := by rw [← hwE]; exact (Below.refl _ _).alloc (Nat.le_refl _) _
    have hE2 : Blk wE sp 128 #[.pointer (some ⟨dg, 0, none⟩), .pointer (some ⟨cg, 0, none⟩), .int .u32 (ep : Int), .int .i64 (p0 : Int), .int .i64 (p1 : Int), .int .i64 (p2 : Int), .int .i64 (p3 : Int), .int .i64 (p4 : Int), .int .i64 (p5 : Int), .int .i64 (p6 : Int), .int .i64 (p7 : Int), .int .i64 (p8 : Int), .pointer (some ⟨pg, 0, none⟩), .slice A ml c, .pointer (some ⟨og, 0, none⟩), .pointer (some ⟨sg, 0, none⟩)] := by rw [← hwE, ← hsp]; exact Blk.new _ _ _
    have TE : Below w4.heap.size w4 wE := TX.trans (hE1.mono TX.size)
    rw [hwE, hsp]
    have hog : PM wE og L := by have h9 := HC.out.1; rw [HC.out.2.2] at h9; exact (h9.below HX.out.2.1).below hE1
    have hsg : Blk wE sg 126 #[.int .u32 0, .int .i32 0, .int .u32 0, .slice none 0 0] := (HX.out.1).below hE1 (HX.out.1).lt
    have HE := Lib.hid (show OpT w0 w wE X nn most t dg D ep [p0, p1, p2, p3, p4, p5, p6, p7, p8] M L ⟨sp, dg, cg, pg, og, sg, A, c, fun k => w1.heap.size ≤ k ∧ k < w4.heap.size⟩ by
      have s1 := HC.out.2.2
      have s2 := HX.out.2.2
      have s3 := HC.out.2.1.size
      have s4 := HX.out.2.1.size
      have s5 := Twd.size
      have s6 := HC.out.1.blk.lt
      have s7 := HX.out.1.lt
      exact OpT.of H.out.2.2.2 hn HK1.out.2.1 HK1.out.2.2 H3.out.1 H3.out.2.1 HL.out.2 HL.out.1 TE (by rw [HQ.out.2.2]; exact hE2) hog hsg ⟨by omega, by omega, by omega⟩ ⟨by omega, by omega, by omega⟩)
    have TE2 := TE
    clear hwE hsp hE1 hE2 hog hsg TE
    refine hK.out _ _ TE2 (fun hHeld => ?_)
    clear hK K
    refine Blo.takeY 10 (some 4) rfl rfl (by kernel_rfl) (by kernel_rfl) (by kernel_rfl) (fun _ _ _ h => h) (by rfl) (v := _) (by (intro _ hSw; (try dsimp only at hSw); go_simp; try with_reducible rfl)) hHeld ?_
    simp only [Act.put, List.setIfInBounds_toArray, List.set_cons_zero, List.set_cons_succ]
    refine Blo.takeY 11 (some 5) rfl rfl (by kernel_rfl) (by kernel_rfl) (by kernel_rfl) (fun _ _ _ h => h) (by rfl) (v := _) (by (intro _ hSw; (try dsimp only at hSw); go_simp; try with_reducible rfl)) hHeld ?_
    simp only [Act.put, List.setIfInBounds_toArray, List.set_cons_zero, List.set_cons_succ]
    refine wpAnyH_done (by kernel_rfl) ?_ _
    clear hHeld
    go_wp2_with fail
    go_ret2
    exact ⟨_, rfl, HE.out⟩
  · go_simp
    obtain ⟨wX, hwX⟩ : ∃ v, wd.alloc (.cells #[.int .u32 0, .int .i32 0, .int .u32 0, .slice none 0 0] 126) = v := ⟨_, rfl⟩
    obtain ⟨sg, hsg⟩ : ∃ sg, wd.heap.size = sg := ⟨_, rfl⟩
    have hX1 : Below wd.heap.size wd wX := by rw [← hwX]; exact (Below.refl _ _).alloc (Nat.le_refl _) _
    have hX2 : Blk wX sg 126 #[.int .u32 0, .int .i32 0, .int .u32 0, .slice none 0 0] := by rw [← hwX, ← hsg]; exact Blk.new _ _ _
    have TX : Below w4.heap.size w4 wX := Twd.trans (hX1.mono Twd.size)
    rw [hwX, hsg]
    have HX := Lib.hid (And.intro hX2 (And.intro hX1 hsg))
    clear hX1 hX2 hwX hsg
    refine hK.out _ _ TX (fun hHeld => ?_)
    clear hK K
    refine wpAnyH_ready (rs := [5]) (by kernel_rfl) (by simp) ?_
    refine AllReadyH.cons rfl (fun K hK => ?_) AllReadyH.nil
    go_simp
    refine (HCP.out wX TX).mono ?_
    rintro e wC ⟨rfl, c1, c2⟩
    have TC : Below w4.heap.size w4 wC := TX.trans (c2.mono TX.size)
    obtain ⟨og, hog⟩ : ∃ og, wX.heap.size = og := ⟨_, rfl⟩
    have HC := Lib.hid (And.intro c1 (And.intro c2 hog))
    rw [hog]
    clear c1 c2 hog
    refine hK.out _ _ TC (fun hHeld => ?_)
    clear hK K
    refine Blo.takeY 8 (some 46) rfl rfl (by kernel_rfl) (by kernel_rfl) (by kernel_rfl) (fun _ _ _ h => h) (by rfl) (v := _) (by (intro _ hSw; (try dsimp only at hSw); go_simp; try with_reducible rfl)) hHeld ?_
    simp only [Act.put, List.setIfInBounds_toArray, List.set_cons_zero, List.set_cons_succ]
    refine wpAnyH_ready (rs := [9]) (by kernel_rfl) (by simp) ?_
    refine AllReadyH.cons rfl (fun K hK => ?_) AllReadyH.nil
    go_simp
    obtain ⟨wE, hwE⟩ : ∃ v, wC.alloc (.cells #[.pointer (some ⟨dg, 0, none⟩), .pointer (some ⟨cg, 0, none⟩), .int .u32 (ep : Int), .int .i64 (p0 : Int), .int .i64 (p1 : Int), .int .i64 (p2 : Int), .int .i64 (p3 : Int), .int .i64 (p4 : Int), .int .i64 (p5 : Int), .int .i64 (p6 : Int), .int .i64 (p7 : Int), .int .i64 (p8 : Int), .pointer (some ⟨pg, 0, none⟩), .slice A ml c, .pointer (some ⟨og, 0, none⟩), .pointer (some ⟨sg, 0, none⟩)] 128) = v := ⟨_, rfl⟩
    obtain ⟨sp, hsp⟩ : ∃ sp, wC.heap.size = sp := ⟨_, rfl⟩
    have hE1 : Below wC.heap.size wC wE := by rw [← hwE]; exact (Below.refl _ _).alloc (Nat.le_refl _) _
    have hE2 : Blk wE sp 128 #[.pointer (some ⟨dg, 0, none⟩), .pointer (some ⟨cg, 0, none⟩), .int .u32 (ep : Int), .int .i64 (p0 : Int), .int .i64 (p1 : Int), .int .i64 (p2 : Int), .int .i64 (p3 : Int), .int .i64 (p4 : Int), .int .i64 (p5 : Int), .int .i64 (p6 : Int), .int .i64 (p7 : Int), .int .i64 (p8 : Int), .pointer (some ⟨pg, 0, none⟩), .slice A ml c, .pointer (some ⟨og, 0, none⟩), .pointer (some ⟨sg, 0, none⟩)] := by rw [← hwE, ← hsp]; exact Blk.new _ _ _
    have TE : Below w4.heap.size w4 wE := TC.trans (hE1.mono TC.size)
    rw [hwE, hsp]
    have hog : PM wE og L := by have h9 := HC.out.1; rw [HC.out.2.2] at h9; exact h9.below hE1
    have hsg : Blk wE sg 126 #[.int .u32 0, .int .i32 0, .int .u32 0, .slice none 0 0] := ((HX.out.1.below HC.out.2.1 HX.out.1.lt)).below hE1 ((HX.out.1.below HC.out.2.1 HX.out.1.lt)).lt
    have HE := Lib.hid (show OpT w0 w wE X nn most t dg D ep [p0, p1, p2, p3, p4, p5, p6, p7, p8] M L ⟨sp, dg, cg, pg, og, sg, A, c, fun k => w1.heap.size ≤ k ∧ k < w4.heap.size⟩ by
      have s1 := HC.out.2.2
      have s2 := HX.out.2.2
      have s3 := HC.out.2.1.size
      have s4 := HX.out.2.1.size
      have s5 := Twd.size
      have s6 := HC.out.1.blk.lt
      have s7 := HX.out.1.lt
      exact OpT.of H.out.2.2.2 hn HK1.out.2.1 HK1.out.2.2 H3.out.1 H3.out.2.1 HL.out.2 HL.out.1 TE (by rw [HQ.out.2.2]; exact hE2) hog hsg ⟨by omega, by omega, by omega⟩ ⟨by omega, by omega, by omega⟩)
    have TE2 := TE
    clear hwE hsp hE1 hE2 hog hsg TE
    refine hK.out _ _ TE2 (fun hHeld => ?_)
    clear hK K
    refine Blo.takeY 10 (some 4) rfl rfl (by kernel_rfl) (by kernel_rfl) (by kernel_rfl) (fun _ _ _ h => h) (by rfl) (v := _) (by (intro _ hSw; (try dsimp only at hSw); go_simp; try with_reducible rfl)) hHeld ?_
    simp only [Act.put, List.setIfInBounds_toArray, List.set_cons_zero, List.set_cons_succ]
    refine Blo.takeY 11 (some 5) rfl rfl (by kernel_rfl) (by kernel_rfl) (by kernel_rfl) (fun _ _ _ h => h) (by rfl) (v := _) (by (intro _ hSw; (try dsimp only at hSw); go_simp; try with_reducible rfl)) hHeld ?_
    simp only [Act.put, List.setIfInBounds_toArray, List.set_cons_zero, List.set_cons_succ]
    refine wpAnyH_done (by kernel_rfl) ?_ _
    clear hHeld
    go_wp2_with fail
    go_ret2
    exact ⟨_, rfl, HE.out⟩
end
end Go.Proofs.YtolpgpphjnkehaaGreatDoor
/- shadow: Evict, Abort. -/
namespace Go.Proofs.YtolpgpphjnkehaaGreatDoor
set_option maxRecDepth 20000
open Go.RowKit Cac Dsk
open Pag (PM IntsO)
open Pag.Pgs (got pagesL)
section
variable {w0 w w' : World} {X : Nat → Prop} {nn most t : Nat} {a : Ad} {v : Sv} {D D' : DS} {Lc Lc' : List Fr}
theorem out_like (hst : Sta nn most t D Lc) (hc : Calm Lc) {x : Fr} (hx : x ∈ Lc) : Like D Lc (outD D x) (delL x.s Lc) := by
  refine ⟨outD_S hst hx, fun j => ?_, fun y hy => hc y (delL_mem.1 hy).1, fun j hj => outD_tch hst hx hj⟩
  by_cases e : x.s = j
  · subst e
    rw [what_no (fun y hy => (delL_mem.1 hy).2), hst.outR hx, if_pos rfl]
    exact (what_yes hst.nodup hx).symm
  · by_cases hy : ∃ y ∈ Lc, y.s = j
    · obtain ⟨y, hy, rfl⟩ := hy
      have h2 : y ∈ delL x.s Lc := delL_mem.2 ⟨hy, fun e2 => e e2.symm⟩
      rw [what_yes (D := outD D x) (hst.del (s := x.s)).nodup h2, what_yes hst.nodup hy]
    · rw [what_no (fun y hy' e2 => hy ⟨y, (delL_mem.1 hy').1, e2⟩), what_no (fun y hy' e2 => hy ⟨y, hy', e2⟩), hst.outR hx, if_neg e]
/-- What Evict answers. -/
theorem Spc.evict (h : Spc w0 w X nn most t a v D Lc) (hc : Calm Lc) (ht : t < 900000) (i : Int) (hi : i < 9223372036854775808) :
    Calls Tryz.prog 72 #[.pointer (some ⟨a.sp, 0, none⟩), .int .i64 i] w fun e w' => ∃ b D' Lc', e = .returned (.tuple #[.bool b, .int .i64 0]) ∧ Spc w0 w' X nn most (t + 1) a v D' Lc' ∧ Like D Lc D' Lc' ∧ Keep X w w' := by
  obtain ⟨_, c1, _, _, _, _, _, _⟩ := h.told
  have H1 := Lib.hid h.refuses
  have HC : Calls Tryz.prog 124 #[.pointer (some ⟨a.cg, 0, none⟩), .int .i64 i] w fun e w' => ∃ b D' Lc', e = .returned (.tuple #[.bool b, .int .i64 0]) ∧ Spc w0 w' X nn most (t + 1) a v D' Lc' ∧ Like D Lc D' Lc' ∧ Keep X w w' := by
    have hsame : Spc w0 w X nn most (t + 1) a v D Lc := ⟨h.cs.mono (Nat.le_succ _), h.m, h.far⟩
    by_cases hn : i < 0 ∨ Lc = []
    · refine (h.cs.evict_none i hn).mono ?_
      rintro e w' ⟨rfl, rfl⟩
      exact ⟨_, D, Lc, rfl, hsame, ⟨rfl, fun _ => rfl, hc, fun _ h => h⟩, Keep.of_below (Below.refl _ _) h.Xlt⟩
    · refine (h.cs.evict i ⟨by omega, hi⟩ (fun e => hn (.inr e)) ht).mono ?_
      rintro e w' ⟨x, hx, (⟨hp, rfl, q1, q2⟩ | ⟨hp, rfl, q1, q2⟩)⟩
      · exact absurd (hc x hx).1 (by omega)
      · obtain ⟨z1, z2⟩ := h.cached (q := fun _ => False) (q1.less (fun k e => e.elim id fun e => e.elim)) q2 (fun k e => e.elim)
        exact ⟨_, _, _, rfl, z1.less (fun _ e => .inl e), out_like h.cs.st hc hx, z2⟩
  have HC := Lib.hid HC
  clear h hc
  go_enter Tryz.func72, Tryz.ntmps72
  go_wp2_with fail
  refine H1.out.mono ?_
  rintro e w' ⟨rfl, rfl⟩
  go_wp2_with fail
  refine HC.out.mono ?_
  rintro e w' ⟨b, D', Lc', rfl, h⟩
  have HK := Lib.hid h
  clear h
  go_wp2_with fail
  go_ret2
  exact ⟨b, D', Lc', rfl, HK.out⟩
/-- Behind frames that are dropped. -/
theorem Spc.dropf (h : Spc w0 w X nn most t a v D Lc) (hc : Calm Lc) (s : Nat) (hs : s < 65536) :
    Calls Tryz.prog 106 #[.pointer (some ⟨a.cg, 0, none⟩), .int .i64 (s : Int)] w fun e w' => ∃ z Lc2, e = .returned (.int .i64 z) ∧ Spc w0 w' X nn most t a v D Lc2 ∧ (∀ x ∈ Lc2, x ∈ Lc) ∧ Keep (fun k => X k ∨ a.zn k) w w' := by
  by_cases hx : ∃ x ∈ Lc, x.s = s
  · obtain ⟨x, hx, rfl⟩ := hx
    refine (h.cs.drop hx (hc x hx).1).mono ?_
    rintro e w' ⟨rfl, q1, q2⟩
    obtain ⟨z1, _⟩ := h.cached (q := fun _ => False) (q1.less (fun k e => e.elim id fun e => e.elim)) q2 (fun k e => e.elim)
    exact ⟨_, _, rfl, z1.less (fun _ e => .inl e), fun y hy => (delL_mem.1 hy).1, q2⟩
  · refine (h.cs.drop_none (i := (s : Int)) (WalkArith.wf_i64 (by omega)) (fun x hx' e => hx ⟨x, hx', by omega⟩)).mono ?_
    rintro e w' ⟨rfl, rfl⟩
    exact ⟨_, _, rfl, h, fun _ h => h, Keep.of_below (Below.refl _ _) (fun k e => h.cs.lt k e)⟩
/-- The maps anew, and a state anew, are put in. -/
theorem Spc.reset (h : Spc w0 w X nn most t a v D Lc) {w5 : World} {og' : Nat} {O' : List Nat} (k1 : PM w5 og' O') (k2 : Below w.heap.size w w5) (hog : w.heap.size ≤ og') :
    Spc w0 (((w5.alloc (.cells #[.int .u32 0, .int .i32 0, .int .u32 0, .slice none 0 0] 126)).setCell ⟨a.sp, 14, none⟩ (.pointer (some ⟨og', 0, none⟩))).setCell ⟨a.sp, 15, none⟩ (.pointer (some ⟨w5.heap.size, 0, none⟩))) X nn most t { a with og := og', sg := w5.heap.size } { v with O := O', fr := false } D Lc ∧
    Keep X w (((w5.alloc (.cells #[.int .u32 0, .int .i32 0, .int .u32 0, .slice none 0 0] 126)).setCell ⟨a.sp, 14, none⟩ (.pointer (some ⟨og', 0, none⟩))).setCell ⟨a.sp, 15, none⟩ (.pointer (some ⟨w5.heap.size, 0, none⟩))) := by
  have hsp := h.m.lt _ (.inl rfl)
  have hs5 := k2.size
  have hol := k1.blk.lt
  have hb1 : Blk w5 a.sp 128 (spRow a.dg a.cg v.ep a.pg a.og a.sg v.P (.slice a.A v.M.length a.c)) := Blk.below h.m.head k2 hsp
  have hb2 := ((hb1.alloc (.cells #[.int .u32 0, .int .i32 0, .int .u32 0, .slice none 0 0] 126)).set_ 14 (.pointer (some ⟨og', 0, none⟩))).set_ 15 (.pointer (some ⟨w5.heap.size, 0, none⟩))
  rw [spRow_og _ _ _ _ _ _ _ _ _ h.m.pl, spRow_sg _ _ _ _ _ _ _ _ _ h.m.pl] at hb2
  have ho : Off (fun k => k = a.og ∨ k = a.sp) w (((w5.alloc (.cells #[.int .u32 0, .int .i32 0, .int .u32 0, .slice none 0 0] 126)).setCell ⟨a.sp, 14, none⟩ (.pointer (some ⟨og', 0, none⟩))).setCell ⟨a.sp, 15, none⟩ (.pointer (some ⟨w5.heap.size, 0, none⟩))) :=
    (((Off.of_new k2 _).trans (Off.alloc _ _ _)).trans ((Off.setc _ _ _ _).mono (fun _ _ e => .inr e))).trans ((Off.setc _ _ _ _).mono (fun _ _ e => .inr e))
  have hoth : ∀ j, j ≠ a.sp → (((w5.alloc (.cells #[.int .u32 0, .int .i32 0, .int .u32 0, .slice none 0 0] 126)).setCell ⟨a.sp, 14, none⟩ (.pointer (some ⟨og', 0, none⟩))).setCell ⟨a.sp, 15, none⟩ (.pointer (some ⟨w5.heap.size, 0, none⟩))).heap[j]? = (w5.alloc (.cells #[.int .u32 0, .int .i32 0, .int .u32 0, .slice none 0 0] 126)).heap[j]? := fun j hj => (Below.heap_setCell _ _ _ _ hj).trans (Below.heap_setCell _ _ _ _ hj)
  have hPM : PM (((w5.alloc (.cells #[.int .u32 0, .int .i32 0, .int .u32 0, .slice none 0 0] 126)).setCell ⟨a.sp, 14, none⟩ (.pointer (some ⟨og', 0, none⟩))).setCell ⟨a.sp, 15, none⟩ (.pointer (some ⟨w5.heap.size, 0, none⟩))) og' O' := (k1.same (Below.heap_alloc w5 _ _ hol)).same (hoth og' (by omega))
  have hZ : Blk (((w5.alloc (.cells #[.int .u32 0, .int .i32 0, .int .u32 0, .slice none 0 0] 126)).setCell ⟨a.sp, 14, none⟩ (.pointer (some ⟨og', 0, none⟩))).setCell ⟨a.sp, 15, none⟩ (.pointer (some ⟨w5.heap.size, 0, none⟩))) w5.heap.size 126 #[.int .u32 0, .int .i32 0, .int .u32 0, .slice none 0 0] := (Blk.new w5 _ _).same (hoth _ (by omega))
  obtain ⟨q1, q2⟩ := h.m.renew ho (og' := og') (sg' := w5.heap.size) hPM (.inr hog) hs5 (by omega) hb2 hZ
  exact h.turn ho (fun k e => by
    rcases e with e | e
    · exact .inr (.inl e)
    · exact .inl e) q1 q2 rfl rfl
/-- Between Abort's rounds. -/
structure AbI (w0 w1 wr : World) (X : Nat → Prop) (nn most t : Nat) (a : Ad) (v : Sv) (D : DS) (Lc Lc2 : List Fr) : Prop where
  spc : Spc w0 wr X nn most t a v D Lc2
  sub : ∀ x ∈ Lc2, x ∈ Lc
  kp : Keep (fun k => X k ∨ a.zn k) w1 wr
theorem Spc.abort (h : Spc w0 w X nn most t a v D Lc) (hc : Calm Lc) :
    Calls Tryz.prog 52 #[.pointer (some ⟨a.sp, 0, none⟩)] w fun e w' => e = .returned (.int .i64 0) ∧ ∃ a' Lc2, Spc w0 w' X nn most t a' { v with O := v.L, fr := false } D Lc2 ∧ (∀ x ∈ Lc2, x ∈ Lc) ∧ Keep X w w' ∧ a'.sp = a.sp ∧ a'.dg = a.dg := by
  have H := Lib.hid (And.intro h hc)
  obtain ⟨_, _, _, _, _, c14, _, _⟩ := h.told
  have H1 := Lib.hid h.refuses
  have H2 := Lib.hid (Pag.pages_some a.og v.O w h.m.own)
  clear h hc
  go_enter Tryz.func52, Tryz.ntmps52
  go_wp2_with fail
  refine H1.out.mono ?_
  rintro e w' ⟨rfl, rfl⟩
  go_wp2_with fail
  refine H2.out.mono ?_
  rintro e w1 ⟨sv, rfl, s1, s2, s3⟩
  obtain ⟨As, m, rfl, _, _⟩ := s1.shape
  have HS := Lib.hid (And.intro s1 (And.intro s2 s3))
  obtain ⟨n, hn⟩ : ∃ n, (pagesL v.O).length = n := ⟨_, rfl⟩
  have HN := Lib.hid hn
  have hnl : n ≤ 1024 := by rw [← hn]; exact Pag.Pgs.pagesTo_len v.O 1024
  rw [hn]
  obtain ⟨Y, hY⟩ : ∃ Y, (fun k => X k ∨ (w.heap.size ≤ k ∧ k < w1.heap.size)) = Y := ⟨_, rfl⟩
  have HY := Lib.hid hY
  have HI0 : Hid (∃ Lc2, AbI w0 w1 w1 Y nn most t a v D Lc Lc2) := Lib.hid ⟨Lc, H.out.1.more s3 Y (fun k e => by rw [← hY] at e; exact e), fun _ h => h, ⟨Nat.le_refl _, fun _ _ => rfl⟩⟩
  clear s1 s2 s3 hn hY H1 H2
  go_wp2_with fail
  go_loopw [5, 6, 7, 19] (fun _ _ _ iv wr => ∃ j : Nat, j ≤ n ∧ iv = .int .i64 (j : Int) ∧ Hid (∃ Lc2, AbI w0 w1 wr Y nn most t a v D Lc Lc2)) (fun _ _ _ iv _ => n - (intOf iv).toNat)
  case atStart => exact ⟨0, Nat.zero_le _, rfl, HI0⟩
  case round =>
    clear HI0
    obtain ⟨j, hj, rfl, hJ⟩ := hrel
    obtain ⟨Lc2, hJ⟩ := hJ.out
    by_cases hlt : j < n
    · have hd : decide ((j : Int) < (n : Int)) = true := by simpa using hlt
      obtain ⟨x, hx⟩ : ∃ x, (pagesL v.O)[j]? = some x := ⟨_, List.getElem?_eq_getElem (by rw [HN.out]; exact hlt)⟩
      obtain ⟨g, cx, ef, hgl, hcx⟩ := IntsO.get HS.out.1 j x hx
      simp only [Value.slice.injEq] at ef
      obtain ⟨rfl, _, rfl⟩ := ef
      have hcx := (World.cell?_of_block (a := ⟨g, j, none⟩) (hJ.kp.at_ g (.inl (by rw [← HY.out]; exact .inr ⟨HS.out.2.1 g rfl, hgl⟩)))).trans hcx
      have HT := hJ.spc.turned (x : Int)
      have hsx : got v.O (x : Int) < 65536 := by
        have h1 := H.out.1.m.own.ok
        rw [got_nat h1, List.getD_eq_getElem?_getD]
        cases hh : v.O[x]? with
        | none => decide
        | some y => exact h1.lt x y hh
      obtain ⟨sx, hsx2⟩ : ∃ sx, got v.O (x : Int) = sx := ⟨_, rfl⟩
      rw [hsx2] at HT hsx
      have c1 := hJ.spc.told.2.1
      have HDR := Lib.hid (hJ.spc.dropf (fun y hy => H.out.2 y (hJ.sub y hy)) sx hsx)
      have HJ := Lib.hid hJ
      cases htr : trn v.O v.L (x : Int) with
      | false =>
        rw [htr] at HT
        have HT := Lib.hid HT
        clear hx hgl hJ hsx hsx2 htr
        go_wp2_with fail
        refine HT.out.mono ?_
        rintro e w' ⟨rfl, rfl⟩
        go_wp2_with fail
        go_roundw
        case rel => exact ⟨j + 1, by omega, by go_num, Lib.hid ⟨Lc2, HJ.out⟩⟩
        case measure => simp [intOf]; omega
      | true =>
        rw [htr] at HT
        simp only [if_true] at HT
        have HT := Lib.hid HT
        clear hx hgl hJ hsx hsx2 htr
        go_wp2_with fail
        refine HT.out.mono ?_
        rintro e w' ⟨rfl, rfl⟩
        go_wp2_with fail
        refine HDR.out.mono ?_
        rintro e w5 ⟨z, Lc3, rfl, k1, k2, k3⟩
        have HJ5 : Hid (∃ Lc2, AbI w0 w1 w5 Y nn most t a v D Lc Lc2) := Lib.hid ⟨Lc3, k1, fun y hy => HJ.out.sub y (k2 y hy), HJ.out.kp.trans k3⟩
        clear k1 k2 k3
        go_wp2_with fail
        go_roundw
        case rel => exact ⟨j + 1, by omega, by go_num, HJ5⟩
        case measure => simp [intOf]; omega
    · obtain rfl : j = n := by omega
      have hd : decide ((j : Int) < (j : Int)) = false := by simp
      have HJ := Lib.hid hJ
      obtain ⟨_, _, _, c12, _, _, _, ff⟩ := hJ.spc.told
      have HCP := Lib.hid (Pag.copy_some a.pg v.L wr hJ.spc.m.pages)
      clear hJ
      go_wp2_with fail
      refine HCP.out.mono ?_
      rintro e w5 ⟨rfl, k1, k2⟩
      obtain ⟨og', hog⟩ : ∃ og', wr.heap.size = og' := ⟨_, rfl⟩
      have HK := Lib.hid (And.intro k1 (And.intro k2 hog))
      have hb5 : Blk w5 a.sp 128 (spRow a.dg a.cg v.ep a.pg a.og a.sg v.P (.slice a.A v.M.length a.c)) := Blk.below HJ.out.spc.m.head k2 (HJ.out.spc.m.lt _ (.inl rfl))
      have hb6 := hb5.alloc (.cells #[.int .u32 0, .int .i32 0, .int .u32 0, .slice none 0 0] 126)
      have d14 := (hb6.cell 14).trans (spRow_high _ _ _ _ _ _ _ _ H.out.1.m.pl).2.2.1
      have d15 := (hb6.cell 15).trans (spRow_high _ _ _ _ _ _ _ _ H.out.1.m.pl).2.2.2
      have f14 := hb6.frozen 14
      have f15 := hb6.frozen 15
      have HB6 := Lib.hid (And.intro hb6 (Blk.new w5 126 #[.int .u32 0, .int .i32 0, .int .u32 0, .slice none 0 0]))
      rw [hog]
      clear k1 k2 hb5 hb6 hog
      go_wp2_with fail
      go_ret
      have k1 := HK.out.1
      rw [HK.out.2.2] at k1
      obtain ⟨z1, z2⟩ := HJ.out.spc.reset k1 HK.out.2.1 (Nat.le_of_eq HK.out.2.2)
      have hkw : Keep Y w1 _ := (HJ.out.kp.less (fun _ e => .inl e)).trans z2
      refine ⟨rfl, _, Lc2, z1.less (fun k e => by rw [← HY.out]; exact .inl e), HJ.out.sub, (Keep.of_below HS.out.2.2 H.out.1.Xlt).trans (hkw.less (fun k e => by rw [← HY.out]; exact .inl e)), rfl, rfl⟩
end
end Go.Proofs.YtolpgpphjnkehaaGreatDoor
