/- octet.Get, octet.Cut. -/
import Derived.Test.YtcmaehilgeonjaaOB
import Derived.Test.YtcmaehilgeonjaaOR
import Derived.BigQuiet
import Derived.Deep.QuietTactic
import Derived.RegionTactic
import Derived.ChangeAlike
import Derived.Outline
import Derived.Lib.Hide
import Derived.IntWalk
import Derived.BigRegionIn
namespace Go.Proofs.Ytcmaehilgeonjaa
open Go.RowKit Go.Shelf
attribute [local go_sem] Oper.semAt_some

/-- The closure's contract. -/
theorem field1_stops (F : Fence) (m : Nat) (h8 : F.fn 45) (hro : F.round = none) (hm : 1 ≤ m) (Bn Bb Ba : Nat) (A : Option Addr) (len cap at_ n : Nat) (G : Nat → UInt8 → Prop)
    (hle : at_ + n ≤ len) (hlm : len ≤ 9223372036854775807) (w : World) (hI : FInv Bn Bb Ba A len cap at_ n G w) :
    SeqStopsK F m Try.prog 45 #[.pointer (some ⟨Bn, 0, none⟩), .pointer (some ⟨Bb, 0, none⟩), .pointer (some ⟨Ba, 0, none⟩)] (bpair (n := n))
      (fun W W' => FInv Bn Bb Ba A len cap at_ n G W → FInv Bn Bb Ba A len cap at_ n G W') (Came G n) (fun _ => True) n w := fun l J Jx W hW _ _ hY h0 => by
  have hI' : FInv Bn Bb Ba A len cap at_ n G W := hI.kept fun p v hp => hW.cell (by
    rcases Nat.lt_or_ge p.block w.heap.size with h | h
    · exact h
    · simp [World.cell?, Array.getElem?_eq_none h] at hp)
  exact field1_in F m h8 hro hm l Bn Bb Ba A len cap at_ n G hle hlm J Jx hY W hI' h0

theorem finv_t {Bn Bb Ba : Nat} {A : Option Addr} {len cap at_ n : Nat} {G : Nat → UInt8 → Prop} {X Y Z : World}
    (h : FInv Bn Bb Ba A len cap at_ n G X → FInv Bn Bb Ba A len cap at_ n G Y) (k : FInv Bn Bb Ba A len cap at_ n G Y → FInv Bn Bb Ba A len cap at_ n G Z) :
    FInv Bn Bb Ba A len cap at_ n G X → FInv Bn Bb Ba A len cap at_ n G Z := fun x => k (h x)
theorem finv_b {Bn Bb Ba : Nat} {A : Option Addr} {len cap at_ n : Nat} {G : Nat → UInt8 → Prop} (W : World) (l : Nat) (o o' : Obj) (h : W.heap[l]? = some o) (hc : o.isCells = false) :
    FInv Bn Bb Ba A len cap at_ n G W → FInv Bn Bb Ba A len cap at_ n G (W.putObj l o') := fun h0 => h0.kept fun p v hp => by
  rw [hp]
  exact cell_kept hp (grownBy_putObj' W l o') (fun r e => by cases e; exact ⟨o, h, hc⟩)

/-- What the bytes of a field come to. -/
def acc {n : Nat} (pre : List (BPair n)) : Nat := pre.foldl (fun s x => s ||| (x.1.2.toNat <<< (8 * x.1.1))) 0
theorem acc_snoc {n : Nat} (pre : List (BPair n)) (x : BPair n) : acc (pre ++ [x]) = acc pre ||| (x.1.2.toNat <<< (8 * x.1.1)) := by simp [acc]
theorem acc_lt {n : Nat} (hn : n ≤ 8) (pre : List (BPair n)) : acc pre < 2 ^ 64 := by
  suffices h : ∀ (l : List (BPair n)) (s : Nat), s < 2 ^ 64 → l.foldl (fun s x => s ||| (x.1.2.toNat <<< (8 * x.1.1))) s < 2 ^ 64 from h pre 0 (by decide)
  intro l
  induction l with
  | nil => intro s hs; exact hs
  | cons x l ih =>
    intro s hs
    refine ih _ (Nat.or_lt_two_pow hs ?_)
    rw [Nat.shiftLeft_eq]
    have h1 : x.1.2.toNat < 2 ^ 8 := x.1.2.toNat_lt
    have h2 : (2 : Nat) ^ (8 * x.1.1) ≤ 2 ^ 56 := Nat.pow_le_pow_right (by decide) (by have := x.2; omega)
    calc x.1.2.toNat * 2 ^ (8 * x.1.1) ≤ x.1.2.toNat * 2 ^ 56 := Nat.mul_le_mul_left _ h2
      _ < 2 ^ 8 * 2 ^ 56 := Nat.mul_lt_mul_of_pos_right h1 (by decide)
      _ = 2 ^ 64 := by decide

/-- A number as bytes, the lowest first. -/
def leN : List UInt8 → Nat
  | [] => 0
  | c :: r => c.toNat + 256 * leN r
theorem leN_snoc (l : List UInt8) (c : UInt8) : leN (l ++ [c]) = leN l + c.toNat * 256 ^ l.length := by
  induction l with
  | nil => simp [leN]
  | cons d l ih => simp only [List.cons_append, leN, ih, List.length_cons, Nat.pow_succ, Nat.mul_add]; rw [Nat.add_assoc]; congr 2; rw [Nat.mul_comm (256 ^ l.length) 256, ← Nat.mul_assoc, ← Nat.mul_assoc, Nat.mul_comm 256]
theorem leN_lt (l : List UInt8) : leN l < 256 ^ l.length := by
  induction l with
  | nil => simp [leN]
  | cons d l ih => simp only [leN, List.length_cons, Nat.pow_succ]; have := d.toNat_lt; omega
theorem acc_came {n : Nat} (bs : List UInt8) : ∀ (k : Nat) (ys : List (BPair n)), Came (fun k c => bs[k]? = some c) k ys → acc ys = leN (bs.take k) := by
  intro k
  induction k with
  | zero =>
    intro ys h
    have : ys = [] := by have := h.length; exact List.eq_nil_of_length_eq_zero this
    subst this; simp [acc, leN]
  | succ k ih =>
    intro ys h
    have h1 := h.1
    rw [List.range_succ] at h1
    obtain ⟨pre, last, rfl, hp, hl⟩ := List.map_eq_append_iff.1 h1
    obtain ⟨x, r, rfl, hx, hr⟩ := List.map_eq_cons_iff.1 hl
    have hr' : r = [] := List.map_eq_nil_iff.1 hr
    subst hr'
    have hG := h.2 x (by simp)
    rw [hx] at hG
    have ihp := ih pre ⟨hp, fun y hy => h.2 y (List.mem_append_left _ hy)⟩
    have hkl : k < bs.length := (List.getElem?_eq_some_iff.1 hG).1
    have hxe : bs[k] = x.1.2 := (List.getElem?_eq_some_iff.1 hG).2
    have hlen : (bs.take k).length = k := by simp; omega
    rw [acc_snoc, ihp, List.take_succ_eq_append_getElem hkl, leN_snoc, hlen, hx, hxe]
    have hlt := leN_lt (bs.take k)
    rw [hlen] at hlt
    have h256 : (256 : Nat) ^ k = 2 ^ (8 * k) := by rw [show (256 : Nat) = 2 ^ 8 by decide, ← Nat.pow_mul]
    rw [h256] at hlt ⊢
    rw [Nat.or_comm, ← Nat.shiftLeft_add_eq_or_of_lt hlt, Nat.shiftLeft_eq, Nat.add_comm]

theorem get_round {n i : Nat} {c : UInt8} {s : Nat} (hi : i < n) (hn : n ≤ 8) (hs : s < 2 ^ 64) :
    bits .or .u64 (s : Int) (IntKind.u64.wrap ((c.toNat : Int) * 2 ^ (8 * (i : Int)).toNat)) = ((s ||| (c.toNat <<< (8 * i)) : Nat) : Int) := by
  have h1 : c.toNat < 2 ^ 8 := c.toNat_lt
  have h2 : (2 : Nat) ^ (8 * i) ≤ 2 ^ 56 := Nat.pow_le_pow_right (by decide) (by omega)
  have h3 : c.toNat * 2 ^ (8 * i) < 2 ^ 64 := by
    calc c.toNat * 2 ^ (8 * i) ≤ c.toNat * 2 ^ 56 := Nat.mul_le_mul_left _ h2
      _ < 2 ^ 8 * 2 ^ 56 := Nat.mul_lt_mul_of_pos_right h1 (by decide)
      _ = 2 ^ 64 := by decide
  have e : ((c.toNat : Int) * 2 ^ (8 * (i : Int)).toNat) = ((c.toNat * 2 ^ (8 * i) : Nat) : Int) := by
    rw [show (8 * (i : Int)).toNat = 8 * i by omega]; push_cast; rfl
  rw [e, IntKind.wrap_u64, Nat.shiftLeft_eq, Int.emod_eq_of_lt (by omega) (by omega)]
  exact u64_or_nat _ _ (by omega) (by omega)

theorem sizeB_iff (n : Nat) : sizeB n = true ↔ n = 1 ∨ n = 2 ∨ n = 4 ∨ n = 8 := by
  simp [sizeB]; omega

theorem get_fin {w ws W : World} {b off len cap at_ n : Nat} {G : Nat → UInt8 → Prop} {pre : List (BPair n)} {x : BPair n} (hb : b < w.heap.size) (hn8 : n ≤ 8)
    (hc : W.cell? ⟨w.heap.size, 0, none⟩ = some (.int .u64 (acc pre : Int))) (hf : W.frozen? ⟨w.heap.size, 0, none⟩ = false) (hB : Below w.heap.size w W) :
    let W2 := (W.setCell ⟨w.heap.size, 0, none⟩ (.int .u64 (bits BinOp.or IntKind.u64 (acc pre : Int) (IntKind.u64.wrap ((x.1.2.toNat : Int) * 2 ^ (8 * (x.1.1 : Int)).toNat))))).drew
    KeepsFrom ws.heap.size W W2 ∧ (FInv (w.heap.size + 1 + 2) (w.heap.size + 1) (w.heap.size + 1 + 1) (some ⟨b, off, none⟩) len cap at_ n G W → FInv (w.heap.size + 1 + 2) (w.heap.size + 1) (w.heap.size + 1 + 1) (some ⟨b, off, none⟩) len cap at_ n G W2) ∧
    (W2.cell? ⟨w.heap.size, 0, none⟩ = some (.int .u64 (acc (pre ++ [x]) : Int)) ∧ W2.frozen? ⟨w.heap.size, 0, none⟩ = false) ∧ Below w.heap.size w W2 := by
  intro W2
  have hW2 : W2 = (W.setCell ⟨w.heap.size, 0, none⟩ (.int .u64 (acc (pre ++ [x]) : Int))).drew := by
    show (W.setCell _ _).drew = _
    rw [get_round x.2 hn8 (acc_lt hn8 pre), acc_snoc]
  rw [hW2]
  refine ⟨((KeepsOthers.setCell _ _ _).trans (KeepsOthers.drew _)).from _, fun h => h.far (X := w.heap.size) (by omega) (by omega) (by omega) (fun _ ad e => by cases e; simp; omega) (fun p hp => ?_), ⟨?_, ?_⟩, ?_⟩
  · exact World.cell?_setCell_other W _ p _ (fun e => hp (by rw [← e]))
  · exact World.cell?_setCell_same' _ _ _ (by rw [hc]; rfl)
  · show (W.setCell _ _).frozen? _ = false
    rw [World.frozen?_setCell]; exact hf
  · exact (hB.setCell (p := ⟨w.heap.size, 0, none⟩) (Nat.le_refl _) _).drew

set_option maxRecDepth 100000 in
set_option maxHeartbeats 1000000 in
theorem get_in (A : Option Addr) (len cap at_ n : Nat) (bs : List UInt8) (w : World) (hn : sizeB n = true) (hle : at_ + n ≤ len) (hlm : len ≤ 9223372036854775807)
    (hR : ∀ k, k < n → ∃ b off c, A = some ⟨b, off, none⟩ ∧ bs[k]? = some c ∧ w.cell? ⟨b, off + (at_ + k), none⟩ = some (.int .u8 (c.toNat : Int))) :
    Calls Try.prog 39 #[.slice A len cap, .int .i64 at_, .int .i64 n] w fun e W' => e = .returned (.tuple #[.int .u64 (leN (bs.take n) : Int), .int .i64 0]) ∧ Below w.heap.size w W' := by
  have hins : insideB len at_ n = true := by simp [insideB]; omega
  have hn8 : n ≤ 8 := by rcases (sizeB_iff n).1 hn with h | h | h | h <;> omega
  have hn1 : 0 < n := by rcases (sizeB_iff n).1 hn with h | h | h | h <;> omega
  obtain ⟨b, off, c0, rfl, _, hcell0⟩ := hR 0 hn1
  have hb : b < w.heap.size := by
    rcases Nat.lt_or_ge b w.heap.size with h | h
    · exact h
    · simp [World.cell?, Array.getElem?_eq_none h] at hcell0
  have hR' : ∀ k, k < n → ∃ c, bs[k]? = some c ∧ w.cell? ⟨b, off + (at_ + k), none⟩ = some (.int .u8 (c.toNat : Int)) := fun k hk => by
    obtain ⟨b', off', c, e, h1, h2⟩ := hR k hk
    cases e
    exact ⟨c, h1, h2⟩
  clear hR hcell0
  have HR := Lib.hid hR'
  clear hR'
  refine (callsIn_wide (n := 5)).1 ?_
  have hro : (Fence.wide).round = none := rfl
  refine callsIn_of_wp_marks Try.func39 rfl trivial ?_ hro
  simp only [Try.ntmps39, List.size_toArray, List.length_cons, List.length_nil, Nat.reduceAdd, Nat.reduceSub, Array.replicate_succ, Array.replicate_zero, List.push_toArray, List.append_toArray, List.nil_append, List.cons_append]
  gi_wp2_with (first
    | (refine ⟨trivial, ?_⟩; gi_at_call 41; refine (callsIn_wide.2 (isSize_any _ _)).mono ?_; rintro e w' ⟨rfl, rfl⟩)
    | (refine ⟨trivial, ?_⟩; gi_at_call 44; refine (callsIn_wide.2 (within_any _ _ _ _ _ _ (by unfold maxLen; omega) (by omega) (by omega))).mono ?_; rintro e w' ⟨rfl, rfl⟩)
    | (refine ⟨trivial, ?_⟩; gi_at_call 43; refine (callsIn_wide.2 (field_any _ _ _ _ _ _)).mono ?_; rintro e w' ⟨rfl, rfl⟩))
  obtain ⟨ws, hws⟩ : ∃ ws, ((((w.alloc (.cells #[.int .u64 0] 62)).alloc (.cells #[.slice (some ⟨b, off, none⟩) len cap] 30)).alloc (.cells #[.int .i64 (at_ : Int)] 3)).alloc (.cells #[.int .i64 (n : Int)] 3)) = ws := ⟨_, rfl⟩
  have bX : Boxed ws w.heap.size 62 (.int .u64 0) := by rw [← hws]; exact (((Boxed.new w _ _).alloc _).alloc _).alloc _
  have bB : Boxed ws (w.heap.size + 1) 30 (.slice (some ⟨b, off, none⟩) len cap) := by
    have := Boxed.new (w.alloc (.cells #[.int .u64 0] 62)) 30 (.slice (some ⟨b, off, none⟩) len cap)
    rw [World.size_alloc] at this
    rw [← hws]; exact (this.alloc _).alloc _
  have bA : Boxed ws (w.heap.size + 1 + 1) 3 (.int .i64 (at_ : Int)) := by
    have := Boxed.new ((w.alloc (.cells #[.int .u64 0] 62)).alloc (.cells #[.slice (some ⟨b, off, none⟩) len cap] 30)) 3 (.int .i64 (at_ : Int))
    rw [World.size_alloc, World.size_alloc] at this
    rw [← hws]; exact this.alloc _
  have bN : Boxed ws (w.heap.size + 1 + 2) 3 (.int .i64 (n : Int)) := by
    have := Boxed.new (((w.alloc (.cells #[.int .u64 0] 62)).alloc (.cells #[.slice (some ⟨b, off, none⟩) len cap] 30)).alloc (.cells #[.int .i64 (at_ : Int)] 3)) 3 (.int .i64 (n : Int))
    rw [World.size_alloc, World.size_alloc, World.size_alloc] at this
    rw [← hws]; exact this
  have hB0 : Below w.heap.size w ws := by
    rw [← hws]; exact ((((Below.refl _ w).alloc (Nat.le_refl _) _).alloc (by simp) _).alloc (by simp; omega) _).alloc (by simp; omega) _
  have hsz : w.heap.size + 4 ≤ ws.heap.size := by rw [← hws]; simp
  rw [hws]
  have hF0 : FInv (w.heap.size + 1 + 2) (w.heap.size + 1) (w.heap.size + 1 + 1) (some ⟨b, off, none⟩) len cap at_ n (fun k c => bs[k]? = some c) ws :=
    ⟨bN.cell, bB.cell, bA.cell, fun k hk => by
      obtain ⟨c, h1, h2⟩ := HR.out k hk
      exact ⟨b, off, c, rfl, h1, (hB0.cell (p := ⟨b, off + (at_ + k), none⟩) hb).trans h2⟩⟩
  refine wpIn_rangeFunc_ownG hro (by omega) (gf := 45) (lb := #[.pointer (some ⟨w.heap.size + 1 + 2, 0, none⟩), .pointer (some ⟨w.heap.size + 1, 0, none⟩), .pointer (some ⟨w.heap.size + 1 + 1, 0, none⟩)]) rfl trivial (enters_of Try.func45 (by kernel_rfl) rfl)
    (field1_stops Fence.wide 4 trivial hro (by omega) _ _ _ _ len cap at_ n _ hle hlm ws hF0) finv_t (fun W l o o' _ h hc _ => finv_b W l o o' h hc) (Below.refl _ _) (fun _ => rfl)
    (fun pre W => (W.cell? ⟨w.heap.size, 0, none⟩ = some (.int .u64 (acc pre : Int)) ∧ W.frozen? ⟨w.heap.size, 0, none⟩ = false) ∧ Below w.heap.size w W)
    (fun _ _ _ => False)
    (OwnFrom.and (Own.from (fun s A B row hs hg hr => ⟨cell_kept hs.1 hg hr, (frozen_kept hs.1 hg hr).trans hs.2⟩) _) (ownFrom_below (Nat.le_refl _) (by omega)))
    (fun _ _ _ _ _ hs _ _ => hs)
    ⟨⟨bX.cell, bX.frozen⟩, hB0⟩
    (fun x => { tmps := #[.slice (some ⟨b, off, none⟩) len cap, .int .i64 at_, .int .i64 n, undef, undef, undef, .int .u64 0, .int .i64 0, .pointer (some ⟨w.heap.size, 0, none⟩), .int .i64 (x.1.1 : Int), .int .u8 (x.1.2.toNat : Int), .int .i64 n, .bool true, .bool false, .bool false, .slice (some ⟨b, off, none⟩) len cap, .int .i64 at_, .int .i64 n, .bool true, .bool false, .bool false, .slice (some ⟨b, off, none⟩) len cap, .int .i64 at_, .int .i64 n, .func (.func 45) #[] #[.pointer (some ⟨w.heap.size + 1 + 2, 0, none⟩), .pointer (some ⟨w.heap.size + 1, 0, none⟩), .pointer (some ⟨w.heap.size + 1 + 1, 0, none⟩)], .int .i64 (x.1.1 : Int), .int .u8 (x.1.2.toNat : Int), undef, undef, undef, undef, undef, undef, undef, undef], defers := [] }) ?assign ?body ?done ?stop
  case assign =>
    intro l x W K hK
    dsimp only [bpair]
    gi_wp2
    exact hK
  case body =>
    rintro l pre ⟨⟨i, c⟩, hi⟩ W ⟨⟨hc, hf⟩, hB⟩ _
    dsimp only at hi
    gi_wp2
    have hcl : c.toNat < 256 := c.toNat_lt
    have f1 : IntKind.u64.wrap (c.toNat : Int) = c.toNat := IntWalk.u64_in _ (by omega)
    have f2 : IntKind.i64.wrap (8 * (i : Int)) = 8 * i := IntWalk.i64_in _ (by omega)
    have f3 : (0 : Int) ≤ 8 * (i : Int) := by omega
    have hs := acc_lt (n := n) hn8 pre
    have hlt : w.heap.size < W.heap.size := by have := hB.size; have : (W.cell? ⟨w.heap.size, 0, none⟩).isSome := by rw [hc]; rfl
                                               rcases Nat.lt_or_ge w.heap.size W.heap.size with h | h
                                               · exact h
                                               · simp [World.cell?, Array.getElem?_eq_none h] at hc
    have fin := get_fin (w := w) (ws := ws) (len := len) (cap := cap) (at_ := at_) (n := n) (G := fun k c => bs[k]? = some c) (pre := pre) (x := ⟨(i, c), hi⟩) (off := off) hb hn8 hc hf hB
    have FIN := Lib.hid fin
    clear fin
    refine round_tail 7 (by kernel_rfl) (by kernel_rfl) (by kernel_rfl) (fun ⟨_, _, h⟩ => h) ?_
    simp only [List.take_succ_cons, List.take_zero, List.drop_succ_cons, List.drop_zero]
    repeat still_step
    try refine wpStill_nil ?_
    go_wp2
    exact FIN.out
  case done =>
    rintro D ys W hD hS ⟨⟨hc, hf⟩, hB⟩ hK
    have hacc := acc_came bs n ys hS
    have HA := Lib.hid hacc
    clear hacc
    gi_wp2
    refine ⟨by simp, .inl ⟨_, _, rfl, run_takeDeferred hK, ?_⟩⟩
    exact ⟨_, results_tmp2 rfl _ _ _, by rw [← HA.out]; rfl, hB.trans (belowK_b (w := w) (Nat.le_refl _) W D _ _ (by omega) hK rfl rfl)⟩
  case stop =>
    rintro D c pre W _ _ h _
    exact h.elim

end Go.Proofs.Ytcmaehilgeonjaa
