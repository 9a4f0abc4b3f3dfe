/- Spaces in memory; what is published; Read, Write, Drop, Format. -/
import Derived.Test.YtolpgpphjnkehaaGreatDoorME
import Derived.Test.YtolpgpphjnkehaaGreatDoorMB
import Derived.Test.YtolpgpphjnkehaaGreatDoorMA
import Derived.Deep.RegionHeld3
import Derived.Laws.CopyRow
/- shadow: without a space, or a disk. -/
namespace Go.Proofs.YtolpgpphjnkehaaGreatDoor
set_option maxRecDepth 20000
open Go.RowKit Cac Dsk
theorem srefuses_nil (w : World) : Calls Tryz.prog 98 #[.pointer none] w fun e w' => e = .returned (.int .i64 2) ∧ w = w' := by
  go_enter Tryz.func98, Tryz.ntmps98
  go_wp2_with fail
  go_ret
  exact ⟨rfl, rfl⟩
theorem srefusesP_nil (i : Int) (w : World) : Calls Tryz.prog 86 #[.pointer none, .int .i64 i] w fun e w' => e = .returned (.int .i64 2) ∧ w = w' := by
  have H1 := Lib.hid (srefuses_nil w)
  go_enter Tryz.func86, Tryz.ntmps86
  go_wp2_with fail
  refine H1.out.mono ?_
  rintro e w' ⟨rfl, rfl⟩
  go_wp2_with fail
  go_ret
  exact ⟨rfl, rfl⟩
theorem spages_nil (w : World) : Calls Tryz.prog 29 #[.pointer none] w fun e w' => e = .returned (.slice none 0 0) ∧ w = w' := by
  go_enter Tryz.func29, Tryz.ntmps29
  go_wp2_with fail
  go_ret
  exact ⟨rfl, rfl⟩
theorem smeta_nil (w : World) : Calls Tryz.prog 31 #[.pointer none] w fun e w' => e = .returned (.slice none 0 0) ∧ w = w' := by
  go_enter Tryz.func31, Tryz.ntmps31
  go_wp2_with fail
  go_ret
  exact ⟨rfl, rfl⟩
theorem sepoch_nil (w : World) : Calls Tryz.prog 33 #[.pointer none] w fun e w' => e = .returned (.int .u32 0) ∧ w = w' := by
  go_enter Tryz.func33, Tryz.ntmps33
  go_wp2_with fail
  go_ret
  exact ⟨rfl, rfl⟩
theorem sroom_nil (w : World) : Calls Tryz.prog 35 #[.pointer none] w fun e w' => e = .returned (.int .i64 0) ∧ w = w' := by
  go_enter Tryz.func35, Tryz.ntmps35
  go_wp2_with fail
  go_ret
  exact ⟨rfl, rfl⟩
theorem sread_nil (i : Int) (w : World) : Calls Tryz.prog 41 #[.pointer none, .int .i64 i] w fun e w' => e = .returned (.tuple #[.slice none 0 0, .int .i64 2]) ∧ w = w' := by
  have H1 := Lib.hid (srefusesP_nil i w)
  go_enter Tryz.func41, Tryz.ntmps41
  go_wp2_with fail
  refine H1.out.mono ?_
  rintro e w' ⟨rfl, rfl⟩
  go_wp2_with fail
  go_ret2
  exact ⟨rfl, rfl⟩
theorem swrite_nil (i : Int) (A : Option Addr) (len cap : Nat) (w : World) : Calls Tryz.prog 47 #[.pointer none, .int .i64 i, .slice A len cap] w fun e w' => e = .returned (.int .i64 2) ∧ w = w' := by
  have H1 := Lib.hid (srefusesP_nil i w)
  go_enter Tryz.func47, Tryz.ntmps47
  go_wp2_with fail
  refine H1.out.mono ?_
  rintro e w' ⟨rfl, rfl⟩
  go_wp2_with fail
  go_ret
  exact ⟨rfl, rfl⟩
theorem sdrop_nil (i : Int) (w : World) : Calls Tryz.prog 49 #[.pointer none, .int .i64 i] w fun e w' => e = .returned (.int .i64 2) ∧ w = w' := by
  have H1 := Lib.hid (srefusesP_nil i w)
  go_enter Tryz.func49, Tryz.ntmps49
  go_wp2_with fail
  refine H1.out.mono ?_
  rintro e w' ⟨rfl, rfl⟩
  go_wp2_with fail
  go_ret
  exact ⟨rfl, rfl⟩
theorem scommit_nil (A : Option Addr) (len cap : Nat) (w : World) : Calls Tryz.prog 48 #[.pointer none, .slice A len cap] w fun e w' => e = .returned (.int .i64 2) ∧ w = w' := by
  have H1 := Lib.hid (srefuses_nil w)
  go_enter Tryz.func48, Tryz.ntmps48
  go_wp2_with fail
  refine H1.out.mono ?_
  rintro e w' ⟨rfl, rfl⟩
  go_wp2_with fail
  go_ret
  exact ⟨rfl, rfl⟩
theorem sabort_nil (w : World) : Calls Tryz.prog 52 #[.pointer none] w fun e w' => e = .returned (.int .i64 2) ∧ w = w' := by
  have H1 := Lib.hid (srefuses_nil w)
  go_enter Tryz.func52, Tryz.ntmps52
  go_wp2_with fail
  refine H1.out.mono ?_
  rintro e w' ⟨rfl, rfl⟩
  go_wp2_with fail
  go_ret
  exact ⟨rfl, rfl⟩
theorem sevict_nil (i : Int) (w : World) : Calls Tryz.prog 72 #[.pointer none, .int .i64 i] w fun e w' => e = .returned (.tuple #[.bool false, .int .i64 2]) ∧ w = w' := by
  have H1 := Lib.hid (srefuses_nil w)
  go_enter Tryz.func72, Tryz.ntmps72
  go_wp2_with fail
  refine H1.out.mono ?_
  rintro e w' ⟨rfl, rfl⟩
  go_wp2_with fail
  go_ret2
  exact ⟨rfl, rfl⟩
theorem sformat_nil (w : World) : Calls Tryz.prog 50 #[.pointer none] w fun e w' => e = .returned (.int .i64 2) ∧ w = w' := by
  have H1 := Lib.hid (Cac.write_nil 0 (.slice none 0 0) w)
  go_enter Tryz.func50, Tryz.ntmps50
  go_wp2_with fail
  refine H1.out.mono ?_
  rintro e w' ⟨rfl, rfl⟩
  go_wp2_with fail
  go_ret
  exact ⟨rfl, rfl⟩
theorem sopen_nil (k : Int) (w : World) : Calls Tryz.prog 20 #[.pointer none, .int .i64 k] w fun e w' => e = .returned (.tuple #[.pointer none, .int .i64 2]) ∧ w = w' := by
  have H1 := Lib.hid (Cac.cnew_nil k w)
  go_enter Tryz.func20, Tryz.ntmps20
  go_wp2_with fail
  refine H1.out.mono ?_
  rintro e w' ⟨rfl, rfl⟩
  go_wp2_with fail
  go_ret2
  exact ⟨rfl, rfl⟩
end Go.Proofs.YtolpgpphjnkehaaGreatDoor
/- shadow: sync.Once: one goroutine: Do, with the function as a contract. (After the kit's example Lazy.) -/
namespace Go.Proofs.YtolpgpphjnkehaaGreatDoor
set_option maxRecDepth 20000
open Go.RowKit Cac Dsk

theorem disable (w : World) : (callFunc 214 #[]).run Tryz.prog w = .ok (.value (.tuple #[])) w := run_call_mark0 Tryz.func214 (by kernel_rfl) (by kernel_rfl) (by kernel_rfl) .disable (by kernel_rfl) w
theorem enable (w : World) : (callFunc 216 #[]).run Tryz.prog w = .ok (.value (.tuple #[])) w := run_call_mark0 Tryz.func216 (by kernel_rfl) (by kernel_rfl) (by kernel_rfl) .enable (by kernel_rfl) w
theorem acquire (a : Addr) (w : World) : (callFunc 217 #[.pointer (some a)]).run Tryz.prog w = .ok (.value (.tuple #[])) w := run_call_marked Tryz.func217 (by kernel_rfl) (by kernel_rfl) (by kernel_rfl) .acquire (by kernel_rfl) a w
theorem releaseMerge (a : Addr) (w : World) : (callFunc 219 #[.pointer (some a)]).run Tryz.prog w = .ok (.value (.tuple #[])) w := run_call_marked Tryz.func219 (by kernel_rfl) (by kernel_rfl) (by kernel_rfl) .releaseMerge (by kernel_rfl) a w

theorem store_deferred (a : Addr) (x : Value) (u : FrameMode) (w : World) (hc : w.cell? a = some x) (hz : w.frozen? a = false) :
    CallsD Tryz.prog 193 #[.pointer (some a), .bool true] u w fun e u' w' => u' = u ∧ (e = .returned (.tuple #[]) ∧ w' = w.drew.setCell a (.int .u32 1)) := by
  have hc' : w.drew.cell? a = some x := by go_simp
  have hz' : w.drew.frozen? a = false := by go_simp
  have hst := run_call_store (P := Tryz.prog) Tryz.func201 (by kernel_rfl) (by kernel_rfl) (by kernel_rfl) (by kernel_rfl) (k := .u32) (y := 1) hc' hz'
  go_enter_d Tryz.func193, Tryz.ntmps193
  go_wp2
  go_region_calls
  all_goals (go_end0; exact ⟨rfl, rfl⟩)

theorem unlock_deferred (a : Addr) (u : FrameMode) (w : World) (hc : w.cell? a = some (.int .i32 1)) (hz : w.frozen? a = false) :
    CallsD Tryz.prog 192 #[.pointer (some a)] u w fun e u' w' => u' = u ∧ (e = .returned (.tuple #[]) ∧ w' = w.setCell a (.int .i32 0)) := by
  have hd := disable
  have he := enable
  have hr := releaseMerge
  have hadd := run_call_add (P := Tryz.prog) Tryz.func220 (by kernel_rfl) (by kernel_rfl) (by kernel_rfl) .i32 (by kernel_rfl) (y := -1) (s := 0) hc hz (by simp [go_sem]; rfl)
  have hcv := run_convert_to_unsafe (P := Tryz.prog) (src := 247) (dst := 251) Tryz.underlying247 Tryz.underlying251 (by kernel_rfl) hc
  go_enter_d Tryz.func192, Tryz.ntmps192
  go_wp2
  go_end0
  go_wp2
  go_end0
  exact ⟨rfl, rfl⟩

theorem lock_free (a : Addr) (w : World) (hc : w.cell? a = some (.int .i32 0)) (hz : w.frozen? a = false) :
    Calls Tryz.prog 191 #[.pointer (some a)] w fun e w' => e = .returned (.tuple #[]) ∧ w' = w.setCell a (.int .i32 1) := by
  have hd := disable
  have he := enable
  have ha := acquire
  have hcas := run_call_cas_hit (P := Tryz.prog) Tryz.func215 (by kernel_rfl) (by kernel_rfl) (by kernel_rfl) .i32 (by kernel_rfl) (y := 1) hc hz
  have hc' : (w.setCell a (.int .i32 1)).cell? a = some (.int .i32 1) := World.cell?_setCell_same w a _ hc
  have hcv := run_convert_to_unsafe (P := Tryz.prog) (src := 247) (dst := 251) Tryz.underlying247 Tryz.underlying251 (by kernel_rfl) hc'
  go_enter Tryz.func191, Tryz.ntmps191
  go_wp2
  first | go_end0 | (simp only [Exit.inBlock, Exit.then]; refine bodyPost_ret (results_none rfl _ _ _) rfl ?_) | refine bodyPost_ret (results_none rfl _ _ _) rfl ?_
  go_wp2
  go_end0
  exact ⟨rfl, rfl⟩

/-- The function handed in, as a contract. -/
def OnceF (c1 c2 : Value) (b : Nat) (w : World) (Post : World → Prop) : Prop :=
  Calls Tryz.prog 137 #[c1, c2] (w.setCell ⟨b, 1, none⟩ (.int .i32 1)) fun e w' => e = .returned (.tuple #[]) ∧ Post w' ∧ w'.cell? ⟨b, 0, none⟩ = some (.int .u32 0) ∧ w'.cell? ⟨b, 1, none⟩ = some (.int .i32 1) ∧ ∀ i, w'.frozen? ⟨b, i, none⟩ = false
def onceW (w : World) (b : Nat) : World := (w.drew.setCell ⟨b, 0, none⟩ (.int .u32 1)).setCell ⟨b, 1, none⟩ (.int .i32 0)

set_option maxRecDepth 100000 in
set_option maxHeartbeats 1600000 in
theorem slow_any (b : Nat) (c1 c2 : Value) (w : World) (Post : World → Prop)
    (h0 : w.cell? ⟨b, 0, none⟩ = some (.int .u32 0)) (h1 : w.cell? ⟨b, 1, none⟩ = some (.int .i32 0)) (f0 : ∀ i, w.frozen? ⟨b, i, none⟩ = false) (HC : OnceF c1 c2 b w Post) :
    Calls Tryz.prog 178 #[.pointer (some ⟨b, 0, none⟩), .func (.func 137) #[] #[c1, c2]] w fun e w' => e = .returned (.tuple #[]) ∧ ∃ w1, Post w1 ∧ w' = onceW w1 b := by
  have hl := run_call_load (P := Tryz.prog) Tryz.func190 (by kernel_rfl) (by kernel_rfl) (by kernel_rfl) .u32 (by kernel_rfl) (w := w.setCell ⟨b, 1, none⟩ (.int .i32 1)) (a := ⟨b, 0, none⟩) (x := 0) ((World.cell?_setCell_other _ ⟨b, 1, none⟩ ⟨b, 0, none⟩ _ (by simp)).trans h0)
  have hnot : ∀ (x : Bool) (w : World), (Op.unary .not (.bool x)).run Tryz.prog w = .ok (.bool (!x)) w := fun _ _ => rfl
  have HC := Lib.hid HC
  have f1 := f0 1
  go_enter_defers Tryz.func178, Tryz.ntmps178
  go_wp2_with (first | (go_at_call 191; refine (lock_free ⟨b, 1, none⟩ _ (by go_simp) (by go_simp)).mono ?_; rintro e w' ⟨rfl, rfl⟩) | (go_at_call 177; go_in) | (go_at_call 137; refine HC.out.mono ?_; rintro e w1 ⟨rfl, hP, k0, k1, k2⟩))
  go_wp2
  refine leaves_cons (f := 193) (args := #[.pointer (some ⟨b, 0, none⟩), .bool true]) (by simp) (by simp [go_sem]) ?_
  refine (store_deferred ⟨b, 0, none⟩ (.int .u32 0) .returning _ k0 (k2 0)).mono ?_
  rintro e u' w'' ⟨rfl, rfl, rfl⟩
  refine leaves_cons (f := 192) (args := #[.pointer (some ⟨b, 1, none⟩)]) (by simp [settle]) (by simp [go_sem]) ?_
  refine (unlock_deferred ⟨b, 1, none⟩ _ _ ?_ (by simp [k2])).mono ?_
  · refine (World.cell?_setCell_other _ ⟨b, 0, none⟩ ⟨b, 1, none⟩ _ (by simp)).trans ?_
    rw [World.cell?_drew]
    exact k1
  rintro e u' w'' ⟨rfl, rfl, rfl⟩
  have hfin : ∃ w2, Post w2 ∧ ((w1.drew.setCell ⟨b, 0, none⟩ (.int .u32 1)).setCell ⟨b, 1, none⟩ (.int .i32 0)) = onceW w2 b := ⟨w1, hP, rfl⟩
  simp [Leaves, settle, results, Tryz.results178]
  exact hfin
/-- Do, not yet done. -/
theorem do_first (b : Nat) (c1 c2 : Value) (w : World) (Post : World → Prop)
    (h0 : w.cell? ⟨b, 0, none⟩ = some (.int .u32 0)) (h1 : w.cell? ⟨b, 1, none⟩ = some (.int .i32 0)) (f0 : ∀ i, w.frozen? ⟨b, i, none⟩ = false) (HC : OnceF c1 c2 b w Post) :
    Calls Tryz.prog 136 #[.pointer (some ⟨b, 0, none⟩), .func (.func 137) #[] #[c1, c2]] w fun e w' => e = .returned (.tuple #[]) ∧ ∃ w1, Post w1 ∧ w' = onceW w1 b := by
  have hl := run_call_load (P := Tryz.prog) Tryz.func190 (by kernel_rfl) (by kernel_rfl) (by kernel_rfl) .u32 (by kernel_rfl) h0
  have hnot : ∀ (x : Bool) (w : World), (Op.unary .not (.bool x)).run Tryz.prog w = .ok (.bool (!x)) w := fun _ _ => rfl
  have H1 := Lib.hid (slow_any b c1 c2 w Post h0 h1 f0 HC)
  clear HC
  go_enter Tryz.func136, Tryz.ntmps136
  go_wp2_with (first | (go_at_call 178; refine H1.out.mono ?_; rintro e w' ⟨rfl, w1, hP, rfl⟩) | (go_at_call 177; go_in))
  go_end0
  exact ⟨rfl, w1, hP, rfl⟩
/-- Do, done already. -/
theorem do_done (b : Nat) (fv : Value) (w : World) (h0 : w.cell? ⟨b, 0, none⟩ = some (.int .u32 1)) :
    Calls Tryz.prog 136 #[.pointer (some ⟨b, 0, none⟩), fv] w fun e w' => e = .returned (.tuple #[]) ∧ w = w' := by
  have hl := run_call_load (P := Tryz.prog) Tryz.func190 (by kernel_rfl) (by kernel_rfl) (by kernel_rfl) .u32 (by kernel_rfl) h0
  have hnot : ∀ (x : Bool) (w : World), (Op.unary .not (.bool x)).run Tryz.prog w = .ok (.bool (!x)) w := fun _ _ => rfl
  go_enter Tryz.func136, Tryz.ntmps136
  go_wp2_with (first | (go_at_call 177; go_in))
  go_end0
  exact ⟨rfl, rfl⟩
end Go.Proofs.YtolpgpphjnkehaaGreatDoor
/- shadow: which sectors are free, apart from memory; what free's function reads. -/
namespace Go.Proofs.YtolpgpphjnkehaaGreatDoor
set_option maxRecDepth 20000
open Go.RowKit Cac Dsk
open Pag (PM IntsO)
/-- The numbers of a list, below n, as a set. -/
def inL (n : Nat) (l : List Nat) : Nat → Bool := fun j => decide (j ∈ l) && decide (j < n)
theorem inL_nil (n : Nat) : ∀ j, Bit.none_ j = inL n [] j := fun j => by simp [inL, Bit.none_]
theorem inL_snoc (n : Nat) (l : List Nat) (x : Nat) : ∀ j, Bit.ins (inL n l) n (x : Int) j = inL n (l ++ [x]) j := fun j => by
  unfold Bit.ins inL
  have e : decide ((j : Int) = (x : Int)) = decide (j = x) := by
    by_cases h : j = x
    · simp [h]
    · rw [decide_eq_false h, decide_eq_false (by omega)]
  rw [e]
  by_cases h1 : j < n
  · simp [h1, List.mem_append]
  · simp [h1]
/-- The sectors from 2 to k that a list hasn't. -/
def freeTo (l : List Nat) (k : Nat) : List Nat := (List.range k).filter fun j => decide (2 ≤ j) && !decide (j ∈ l)
theorem freeTo_two (l : List Nat) : freeTo l 2 = [] := by
  unfold freeTo
  rw [List.filter_eq_nil_iff]
  intro j hj
  have := List.mem_range.1 hj
  have h2 : decide (2 ≤ j) = false := by simp; omega
  simp [h2]
theorem freeTo_succ (l : List Nat) {k : Nat} (hk : 2 ≤ k) : freeTo l (k + 1) = if k ∈ l then freeTo l k else freeTo l k ++ [k] := by
  unfold freeTo
  rw [List.range_succ, List.filter_append]
  by_cases h : k ∈ l
  · simp [h]
  · simp [h, hk]
theorem freeTo_len (l : List Nat) (k : Nat) : (freeTo l k).length ≤ k := by
  unfold freeTo
  have := List.length_filter_le (fun j => decide (2 ≤ j) && !decide (j ∈ l)) (List.range k)
  rw [List.length_range] at this
  exact this
def used (P L O : List Nat) : List Nat := P ++ Pag.Pgs.sectorsL L ++ Pag.Pgs.sectorsL O
def freeL (nn : Nat) (P L O : List Nat) : List Nat := freeTo (used P L O) nn
/-- A row of numbers that is read. -/
def Nums (w : World) (v : Value) (l : List Nat) : Prop := ∃ A c, v = .slice A l.length c ∧ ∀ (j x : Nat), l[j]? = some x → ∃ b off, A = some ⟨b, off, none⟩ ∧ b < w.heap.size ∧ w.cell? ⟨b, off + j, none⟩ = some (.int .i64 (x : Int))
theorem Nums.kept {w w' : World} {v : Value} {l : List Nat} (h : Nums w v l) (hs : w.heap.size ≤ w'.heap.size) (hk : ∀ k, k < w.heap.size → w'.heap[k]? = w.heap[k]?) : Nums w' v l := by
  obtain ⟨A, c, e, h1⟩ := h
  refine ⟨A, c, e, fun j x hx => ?_⟩
  obtain ⟨b, off, e1, h2, h3⟩ := h1 j x hx
  exact ⟨b, off, e1, Nat.lt_of_lt_of_le h2 hs, (World.cell?_of_block (a := ⟨b, off + j, none⟩) (hk b h2)).trans h3⟩
theorem Nums.below {w w' : World} {v : Value} {l : List Nat} (h : Nums w v l) (hb : Below w.heap.size w w') : Nums w' v l := h.kept hb.size hb.block
theorem Nums.of {w : World} {v : Value} {l : List Nat} (h : IntsO w v l) : Nums w v l := by
  obtain ⟨A, c, rfl, _, _⟩ := h.shape
  refine ⟨A, c, rfl, fun j x hx => ?_⟩
  obtain ⟨g, c', e, h1, h2⟩ := h.get j x hx
  cases e
  exact ⟨g, 0, rfl, h1, by rw [Nat.zero_add]; exact h2⟩
/-- What free's function reads. -/
structure FreeIn (w : World) (p1 p2 sp dg pg og sg nn : Nat) (P L O : List Nat) : Prop where
  s : w.cell? ⟨p1, 0, none⟩ = some (.pointer (some ⟨sp, 0, none⟩))
  t : w.cell? ⟨p2, 0, none⟩ = some (.pointer (some ⟨sg, 0, none⟩))
  d : w.cell? ⟨sp, 0, none⟩ = some (.pointer (some ⟨dg, 0, none⟩))
  p : ∀ (i x : Nat), P[i]? = some x → w.cell? ⟨sp, 3 + i, none⟩ = some (.int .i64 (x : Int))
  g : w.cell? ⟨sp, 12, none⟩ = some (.pointer (some ⟨pg, 0, none⟩))
  o : w.cell? ⟨sp, 14, none⟩ = some (.pointer (some ⟨og, 0, none⟩))
  n : ∃ A, w.cell? ⟨dg, 0, none⟩ = some (.slice A nn nn)
  L : PM w pg L
  O : PM w og O
  pl : P.length = 9
  top : 2 ≤ nn ∧ nn ≤ 4096
  lt : p1 < w.heap.size ∧ p2 < w.heap.size ∧ sp < w.heap.size ∧ dg < w.heap.size
theorem FreeIn.same {w w' : World} {p1 p2 sp dg pg og sg nn : Nat} {P L O : List Nat} (h : FreeIn w p1 p2 sp dg pg og sg nn P L O) (hs : w.heap.size ≤ w'.heap.size)
    (h1 : w'.heap[p1]? = w.heap[p1]?) (h2 : w'.heap[p2]? = w.heap[p2]?) (h3 : w'.heap[sp]? = w.heap[sp]?) (h4 : w'.heap[dg]? = w.heap[dg]?) (h5 : w'.heap[pg]? = w.heap[pg]?) (h6 : w'.heap[og]? = w.heap[og]?) : FreeIn w' p1 p2 sp dg pg og sg nn P L O := by
  obtain ⟨A, hn⟩ := h.n
  exact ⟨(World.cell?_of_block (a := ⟨p1, 0, none⟩) h1).trans h.s, (World.cell?_of_block (a := ⟨p2, 0, none⟩) h2).trans h.t, (World.cell?_of_block (a := ⟨sp, 0, none⟩) h3).trans h.d, fun i x hx => (World.cell?_of_block (a := ⟨sp, 3 + i, none⟩) h3).trans (h.p i x hx),
    (World.cell?_of_block (a := ⟨sp, 12, none⟩) h3).trans h.g, (World.cell?_of_block (a := ⟨sp, 14, none⟩) h3).trans h.o, ⟨A, (World.cell?_of_block (a := ⟨dg, 0, none⟩) h4).trans hn⟩, h.L.same h5, h.O.same h6, h.pl, h.top,
    ⟨Nat.lt_of_lt_of_le h.lt.1 hs, Nat.lt_of_lt_of_le h.lt.2.1 hs, Nat.lt_of_lt_of_le h.lt.2.2.1 hs, Nat.lt_of_lt_of_le h.lt.2.2.2 hs⟩⟩
theorem FreeIn.below {w w' : World} {p1 p2 sp dg pg og sg nn : Nat} {P L O : List Nat} (h : FreeIn w p1 p2 sp dg pg og sg nn P L O) (hb : Below w.heap.size w w') : FreeIn w' p1 p2 sp dg pg og sg nn P L O :=
  h.same hb.size (hb.block _ h.lt.1) (hb.block _ h.lt.2.1) (hb.block _ h.lt.2.2.1) (hb.block _ h.lt.2.2.2) (hb.block _ h.L.blk.lt) (hb.block _ h.O.blk.lt)
theorem FreeIn.parts {w : World} {p1 p2 sp dg pg og sg nn : Nat} {P L O : List Nat} (h : FreeIn w p1 p2 sp dg pg og sg nn P L O) (c : Nat) : Nums w (.slice (some ⟨sp, 3, none⟩) 9 c) P :=
  ⟨some ⟨sp, 3, none⟩, c, by rw [h.pl], fun j x hx => ⟨sp, 3, rfl, h.lt.2.2.1, h.p j x hx⟩⟩
/-- How many sectors a disk has: its first cell tells. -/
theorem sectors_c0 (g n : Nat) (A : Option Addr) (w : World) (h : w.cell? ⟨g, 0, none⟩ = some (.slice A n n)) :
    Calls Tryz.prog 112 #[.pointer (some ⟨g, 0, none⟩)] w fun e w' => e = .returned (.int .i64 (n : Int)) ∧ w = w' := by
  go_enter Tryz.func112, Tryz.ntmps112
  go_wp2
  go_ret
  exact ⟨rfl, rfl⟩
theorem ints_app {W : World} {sv : Value} {zs : List Nat} (h : IntsO W sv zs) (z : Nat) (hl : zs.length < 1000000) :
    ∃ v' w', (Builtin.append_ #[33, 33] 33 #[sv, .slice (some ⟨W.heap.size, 0, none⟩) 1 1]).run Tryz.prog (W.alloc (.cells #[.int .i64 (z : Int)] 3)) = .ok v' w' ∧ IntsO w' v' (zs ++ [z]) ∧ W.grownBy w' sv.ownBlock ∧ (v'.ownBlock = sv.ownBlock ∨ v'.ownBlock = some (W.heap.size + 1)) := by
  have hb : Below W.heap.size W (W.alloc (.cells #[.int .i64 (z : Int)] 3)) := (Below.refl _ _).alloc (Nat.le_refl _) _
  have h1 : IntsO (W.alloc (.cells #[.int .i64 (z : Int)] 3)) sv zs := h.same fun k hk => hb.block k (h.lt k hk)
  obtain ⟨v', w', hr, h2, h3, h4⟩ := h1.push z W.heap.size ((Blk.new W _ _).cell 0) hl
  refine ⟨v', w', hr, h2, ⟨h3.os.trans hb.os, h3.tape.trans hb.tape, h3.output.trans hb.output, Nat.le_trans hb.size h3.size, fun k hk hne => (h3.block k (Nat.lt_of_lt_of_le hk hb.size) hne).trans (hb.block k hk)⟩, ?_⟩
  rcases h4 with h4 | h4
  · exact .inl h4
  · exact .inr (by rw [h4]; simp)
theorem step_app {P : Program} {ops : Array Oper} {o : Oper} {a : Act} {w : World} {K : Act → World → Prop} {Q : Exit → Act → World → Prop} {E : Prop} (hg : o.guard = none) (s x : Operand) (t : TypeId)
    (hop : o.op = Op.call { callee := Callee.builtin Builtin.append, args := #[s, x], argTypes := #[t, t] }) (v xv v' : Value) (w' : World) (hs : a.eval s = v) (hx : a.eval x = xv)
    (hrun : (Builtin.append_ #[t, t] o.type #[v, xv]).run P w = .ok v' w') (hK : K (a.put o.dst v') w') : if Region.wanted o (yielded ops a.tmps) = true then Oper.wp P o a w K Q else E := by
  rw [if_pos (show Region.wanted o (yielded ops a.tmps) = true by simp [Region.wanted, hg])]
  unfold Oper.wp execOp
  simp only [hop, resolve, invoke, builtin, Sem.run_bind, Sem.run_pure, Result.andThen_ok, List.map_toArray, List.map_cons, List.map_nil, hs, hx, hrun]
  exact hK
/-- The set so far, all else as it was. -/
structure Tk (w4 wr : World) (bp bq nn : Nat) (l : List Nat) : Prop where
  bs : Bit.Bs wr bp bq nn (inL nn l)
  off : Off (fun k => k = bq) w4 wr
theorem Tk.next {w4 wr w' : World} {bp bq nn x : Nat} {l : List Nat} (h : Tk w4 wr bp bq nn l) (h1 : Bit.Bs w' bp bq nn (Bit.ins (inL nn l) nn (x : Int))) (h2 : wr.grownBy w' (some bq)) : Tk w4 w' bp bq nn (l ++ [x]) :=
  ⟨h1.congr (inL_snoc nn l x), h.off.trans ((Off.of_grown h2).mono fun _ _ e => (Option.some.inj e).symm)⟩
theorem sectors_len (L : List Nat) : (Pag.Pgs.sectorsL L).length ≤ 1200 := by
  have := Pag.Pgs.pagesTo_len L 1024
  have e : (Pag.Pgs.sectorsL L).length = (Pag.Pgs.pagesTo L 1024).length := by unfold Pag.Pgs.sectorsL; rw [List.length_map]; rfl
  omega
theorem own_far {A : Option Addr} {n m b q : Nat} (h : ∀ j, (Value.slice A n m).ownBlock = some j → b ≤ j) (hA : ∀ p : Addr, A = some p → ∃ g, p = ⟨g, 0, none⟩) (hq : q < b) : ∀ p : Addr, A = some p → p.block ≠ q := fun p e => by
  obtain ⟨g, rfl⟩ := hA p e
  subst e
  have := h g rfl
  show g ≠ q
  omega
theorem ints_addr {W : World} {A : Option Addr} {n m : Nat} {l : List Nat} (h : IntsO W (.slice A n m) l) : ∀ p : Addr, A = some p → ∃ g, p = ⟨g, 0, none⟩ := fun p e => by
  rcases h.own.2 with ⟨e1, _⟩ | ⟨g, cap, cur, e1, _⟩
  · cases e1; cases e
  · cases e1; exact ⟨g, (Option.some.inj e).symm⟩
/-- The k-th of the three rows. -/
structure Row3 (w4 : World) (g3 bq : Nat) (ls : List (List Nat)) (i : Nat) (l : List Nat) (A : Option Addr) (c : Nat) : Prop where
  len : l.length ≤ 1200
  it : ls[i]? = some l
  cell : w4.cell? ⟨g3, i, none⟩ = some (.slice A l.length c)
  at_ : ∀ (j x : Nat), l[j]? = some x → ∃ b off, A = some ⟨b, off, none⟩ ∧ b < w4.heap.size ∧ b ≠ bq ∧ w4.cell? ⟨b, off + j, none⟩ = some (.int .i64 (x : Int))
theorem Row3.of {w4 : World} {g3 bq i : Nat} {ls : List (List Nat)} {l : List Nat} {A : Option Addr} {c : Nat} (h0 : l.length ≤ 1200) (h1 : ls[i]? = some l) (h2 : w4.cell? ⟨g3, i, none⟩ = some (.slice A l.length c)) (h3 : Nums w4 (.slice A l.length c) l) (hA : ∀ p : Addr, A = some p → p.block ≠ bq) : Row3 w4 g3 bq ls i l A c := by
  refine ⟨h0, h1, h2, fun j x hx => ?_⟩
  obtain ⟨A', c', e, h4⟩ := h3
  cases e
  obtain ⟨b, off, e1, h5, h6⟩ := h4 j x hx
  exact ⟨b, off, e1, h5, hA _ e1, h6⟩
/-- The free ones so far. -/
structure Fr8 (w wr : World) (bp bq sg nn k : Nat) (l : List Nat) (v : Value) : Prop where
  bs : Bit.Bs wr bp bq nn (inL nn l)
  blk : Blk wr sg 126 #[.int .u32 0, .int .i32 1, .int .u32 0, v]
  ints : IntsO wr v (freeTo l k)
  own : ∀ j, v.ownBlock = some j → w.heap.size ≤ j ∧ j ≠ bp ∧ j ≠ bq
  off : Off (fun k => k = sg) w wr
  ge : w.heap.size ≤ bp ∧ w.heap.size ≤ bq ∧ sg < w.heap.size
theorem Fr8.drew {w wr : World} {bp bq sg nn k : Nat} {l : List Nat} {v : Value} (h : Fr8 w wr bp bq sg nn k l v) : Fr8 w wr.drew bp bq sg nn k l v :=
  ⟨h.bs.below (Below.refl _ wr).drew, h.blk, h.ints.same fun _ _ => rfl, h.own, h.off.trans (Off.drew _ _), h.ge⟩
theorem Fr8.skip {w wr : World} {bp bq sg nn k : Nat} {l : List Nat} {v : Value} (h : Fr8 w wr bp bq sg nn k l v) (hk : 2 ≤ k) (hx : k ∈ l) : Fr8 w wr bp bq sg nn (k + 1) l v :=
  ⟨h.bs, h.blk, by rw [freeTo_succ l hk, if_pos hx]; exact h.ints, h.own, h.off, h.ge⟩
theorem Fr8.next {w wr w5 : World} {bp bq sg nn k : Nat} {l : List Nat} {v v' : Value} (h : Fr8 w wr bp bq sg nn k l v) (hk : 2 ≤ k) (hx : k ∉ l) (h1 : IntsO w5 v' (freeTo l k ++ [k])) (h2 : wr.grownBy w5 v.ownBlock) (h3 : v'.ownBlock = v.ownBlock ∨ v'.ownBlock = some (wr.heap.size + 1)) :
    Fr8 w (w5.setCell ⟨sg, 3, none⟩ v') bp bq sg nn (k + 1) l v' := by
  obtain ⟨lp, lq⟩ := h.bs.lt
  have hvs : ∀ j, v.ownBlock = some j → j ≠ sg := fun j e => by have := (h.own j e).1; have := h.ge.2.2; omega
  have hown : ∀ j, v'.ownBlock = some j → w.heap.size ≤ j ∧ j ≠ bp ∧ j ≠ bq := fun j e => by
    rcases h3 with h3 | h3
    · exact h.own j (by rw [← h3]; exact e)
    · rw [h3] at e; have := Option.some.inj e; have := h.off.size; omega
  have hbs : Bit.Bs w5 bp bq nn (inL nn l) := h.bs.kept h2 (fun e => (h.own bp e.symm).2.1 rfl) (fun e => (h.own bq e.symm).2.2 rfl)
  have hbk : Blk w5 sg 126 #[.int .u32 0, .int .i32 1, .int .u32 0, v] := h.blk.grown h2 (fun e => hvs sg e.symm rfl)
  refine ⟨hbs.kept (Bit.grown_set w5 sg 3 v') (fun e => ?_) (fun e => ?_), hbk.set_ 3 v', ?_, hown, ?_, h.ge⟩
  · have := Option.some.inj e; have := h.ge.1; have := h.ge.2.2; omega
  · have := Option.some.inj e; have := h.ge.2.1; have := h.ge.2.2; omega
  · rw [freeTo_succ l hk, if_neg hx]
    exact h1.same fun j hj => Below.heap_setCell _ _ _ _ (fun e => by have := (hown j hj).1; have := h.ge.2.2; have e' : j = sg := e; omega)
  · exact (h.off.then (Off.of_grown h2) (fun j hj e => absurd (h.own j e).1 (by omega))).trans (Off.setc _ _ _ _)
theorem Fr8.first {w w1 w3 w4 wr : World} {bp bq sg nn : Nat} {l : List Nat} (h : Tk w4 wr bp bq nn l) (hg : Blk w sg 126 #[.int .u32 0, .int .i32 1, .int .u32 0, .slice none 0 0]) (k1 : w.heap.size ≤ bp) (k2 : w.heap.size ≤ bq)
    (b1 : Below w.heap.size w w1) (b3 : Below w1.heap.size w1 w3) (b4 : Below w3.heap.size w3 w4) : Fr8 w wr bp bq sg nn 2 l (.slice none 0 0) := by
  have hb : Below w.heap.size w w4 := (b1.trans (b3.mono b1.size)).trans (b4.mono (Nat.le_trans b1.size b3.size))
  have hb2 : Below w.heap.size w wr := hb.trans (h.off.below hb.size (fun k e => by rw [e]; exact k2))
  have hlt := Blk.lt hg
  exact ⟨h.bs, hg.below hb2 hlt, by rw [freeTo_two]; exact IntsO.nil _, (fun j e => by cases e), Off.of_below hb2 _ (fun k h1 h2 => by omega), k1, k2, hlt⟩
end Go.Proofs.YtolpgpphjnkehaaGreatDoor
/- shadow: free's function. -/
namespace Go.Proofs.YtolpgpphjnkehaaGreatDoor
set_option maxRecDepth 20000
open Go.RowKit Cac Dsk
open Pag (PM IntsO)
set_option maxHeartbeats 4000000 in
theorem free1_any (p1 p2 sp dg pg og sg nn : Nat) (P L O : List Nat) (w : World) (h : FreeIn w p1 p2 sp dg pg og sg nn P L O) (hg : Blk w sg 126 #[.int .u32 0, .int .i32 1, .int .u32 0, .slice none 0 0])
    (hne : sg ≠ p1 ∧ sg ≠ p2 ∧ sg ≠ sp) :
    Calls Tryz.prog 137 #[.pointer (some ⟨p1, 0, none⟩), .pointer (some ⟨p2, 0, none⟩)] w fun e w' => e = .returned (.tuple #[]) ∧
      ∃ v, Blk w' sg 126 #[.int .u32 0, .int .i32 1, .int .u32 0, v] ∧ IntsO w' v (freeL nn P L O) ∧ (∀ k, v.ownBlock = some k → w.heap.size ≤ k) ∧ Off (fun k => k = sg) w w' := by
  have H := Lib.hid h
  obtain ⟨A, hn⟩ := h.n
  have c1 := h.s
  have c2 := h.d
  have HS1 := Lib.hid (sectors_c0 dg nn A w hn)
  have HN1 := Lib.hid (Bit.new_some nn w (by have := h.top.2; omega))
  have HG := Lib.hid (And.intro hg hne)
  clear h hn hg hne
  go_enter Tryz.func137, Tryz.ntmps137
  go_wp2_with fail
  refine HS1.out.mono ?_
  rintro e w' ⟨rfl, rfl⟩
  go_wp2_with fail
  refine HN1.out.mono ?_
  rintro e w1 ⟨bp, bq, rfl, k1, k2, k3, k4⟩
  have HS : Hid (∀ W, Below w1.heap.size w1 W → W.cell? ⟨p1, 0, none⟩ = some (.pointer (some ⟨sp, 0, none⟩)) ∧ W.cell? ⟨sp, 12, none⟩ = some (.pointer (some ⟨pg, 0, none⟩)) ∧ W.cell? ⟨sp, 14, none⟩ = some (.pointer (some ⟨og, 0, none⟩))) := Lib.hid fun W hW => by
    have hf := (H.out.below k4).below hW
    exact ⟨hf.s, hf.g, hf.o⟩
  have HC1 := Lib.hid (Pag.sectors_some pg L w1.drew ((H.out.below k4).L.below (Below.refl _ w1).drew))
  have HC2 : Hid (∀ W, Below w1.heap.size w1 W → _) := Lib.hid (fun W hW => Pag.sectors_some og O W ((H.out.below k4).O.below hW))
  have HK := Lib.hid (And.intro k1 (And.intro k2 (And.intro k3 k4)))
  clear k1 k2 k3 k4 HS1 HN1 c1 c2
  go_upto_region 1 with fail
  go_region_held3 (fun W => W.cell? ⟨p1, 0, none⟩ = some (.pointer (some ⟨sp, 0, none⟩)) ∧ W.cell? ⟨sp, 12, none⟩ = some (.pointer (some ⟨pg, 0, none⟩)) ∧ W.cell? ⟨sp, 14, none⟩ = some (.pointer (some ⟨og, 0, none⟩)))
    (first | exact HS.out _ (Below.refl _ w1).drew | exact HS.out _ hw3 | exact HS.out _ hw2 | exact HS.out _ (hw3.alloc hw3.size _))
    (first
      | (go_at_call 117; (fail_if_success (have _z := hw2)); refine HC1.out.mono ?_; rintro e w2 ⟨sv1, rfl, q1, q2, q3⟩; obtain ⟨A1, m1, rfl, _, _⟩ := q1.shape; have hw2 : Below w1.heap.size w1 w2 := (Below.refl _ w1).drew.trans q3)
      | (go_at_call 117; refine (HC2.out _ hw2).mono ?_; rintro e w3 ⟨sv2, rfl, q4, q5, q6⟩; obtain ⟨A2, m2, rfl, _, _⟩ := q4.shape; have hw3 : Below w1.heap.size w1 w3 := hw2.trans (q6.mono hw2.size)))
  all_goals
    obtain ⟨w4, hw4⟩ : ∃ w4, w3.alloc (.cells #[Value.slice (some { block := sp, off := 3 }) 9 9, Value.slice A1 (Pag.Pgs.sectorsL L).length m1, Value.slice A2 (Pag.Pgs.sectorsL O).length m2] 33) = w4 := ⟨_, rfl⟩
    obtain ⟨g3, hg3⟩ : ∃ g3, w3.heap.size = g3 := ⟨_, rfl⟩
    rw [hw4, hg3]
    have hb4 : Below w3.heap.size w3 w4 := by rw [← hw4]; exact (Below.refl _ _).alloc (Nat.le_refl _) _
    have hblk : Blk w4 g3 33 #[Value.slice (some { block := sp, off := 3 }) 9 9, Value.slice A1 (Pag.Pgs.sectorsL L).length m1, Value.slice A2 (Pag.Pgs.sectorsL O).length m2] := by rw [← hw4, ← hg3]; exact Blk.new _ _ _
    have hlq := HK.out.2.2.1.lt
    have hin4 := ((H.out.below HK.out.2.2.2).below hw3).below hb4
    have hsz1 := HK.out.2.2.2.size
    have hs2 := hw2.size
    have hs3 := hw3.size
    have hlt := H.out.lt
    have hpl := H.out.pl
    have HR : Hid (∀ i, i < 3 → ∃ l A c, Row3 w4 g3 bq [P, Pag.Pgs.sectorsL L, Pag.Pgs.sectorsL O] i l A c) := Lib.hid (fun i hi => by
      match i, hi with
      | 0, _ => exact ⟨P, _, 9, Row3.of (by omega) rfl (by rw [hpl]; exact hblk.cell 0) (by rw [hpl]; exact hin4.parts 9) (fun p e => by cases e; have : w.heap.size ≤ bq := HK.out.2.1; show sp ≠ bq; omega)⟩
      | 1, _ => exact ⟨_, A1, m1, Row3.of (sectors_len _) rfl (hblk.cell 1) ((Nums.of q1).below (q6.trans (hb4.mono q6.size))) (own_far q2 (ints_addr q1) (show bq < w1.heap.size from hlq.2))⟩
      | 2, _ => exact ⟨_, A2, m2, Row3.of (sectors_len _) rfl (hblk.cell 2) ((Nums.of q4).below hb4) (own_far q5 (ints_addr q4) (by omega))⟩
      | n + 3, h => omega)
    have HT : Hid (Tk w4 w4 bp bq nn (([P, Pag.Pgs.sectorsL L, Pag.Pgs.sectorsL O].take 0).flatten)) := Lib.hid ⟨((HK.out.2.2.1.below hw3).below hb4).congr (inL_nil nn), Off.refl _ _⟩
    have hg4 : g3 < w4.heap.size ∧ g3 ≠ bq := ⟨hblk.lt, by omega⟩
    have HB4 := Lib.hid (And.intro hw3 (And.intro hb4 (And.intro hg3 hg4)))
    obtain ⟨ls, hls⟩ : ∃ ls, [P, Pag.Pgs.sectorsL L, Pag.Pgs.sectorsL O] = ls := ⟨_, rfl⟩
    rw [hls] at HR HT
    have HLS := Lib.hid hls
    clear hls hw4 hb4 hblk hlq hin4 hg4 hsz1 hs2 hs3 hlt hpl q1 q2 q3 q4 q5 q6 hw2 hw3 HS HC1 HC2
    go_wp2_with fail
    go_loopw [5, 7, 36] (fun _ _ iv wr => ∃ i : Nat, i ≤ 3 ∧ iv = .int .i64 (i : Int) ∧ Hid (Tk w4 wr bp bq nn ((ls.take i).flatten))) (fun _ _ iv _ => 3 - (intOf iv).toNat)
    case atStart => exact ⟨0, Nat.zero_le _, rfl, HT⟩
    case round =>
      clear HT
      obtain ⟨i, hi, rfl, hI⟩ := hrel
      by_cases hlt : i < 3
      · have hd : decide ((i : Int) < 3) = true := by simp; omega
        obtain ⟨l, A, c, hrow⟩ := HR.out i hlt
        have HROW := Lib.hid hrow
        have hgl : g3 < w4.heap.size := HB4.out.2.2.2.1
        have hc3 : wr.cell? ⟨g3, i, none⟩ = some (.slice A l.length c) := (World.cell?_of_block (a := ⟨g3, i, none⟩) (hI.out.off.block g3 hgl HB4.out.2.2.2.2)).trans hrow.cell
        obtain ⟨n, hn⟩ : ∃ n, l.length = n := ⟨_, rfl⟩
        rw [hn] at hc3
        have HN := Lib.hid hn
        have hn12 : n ≤ 1200 := by rw [← hn]; exact hrow.len
        have HT0 : Hid (Tk w4 wr bp bq nn ((ls.take i).flatten ++ l.take 0)) := by rw [List.take_zero, List.append_nil]; exact hI
        clear hrow hgl hn
        go_wp2_with fail
        go_loopw [7, 42] (fun _ kv wx => ∃ j : Nat, j ≤ n ∧ kv = .int .i64 (j : Int) ∧ Hid (Tk w4 wx bp bq nn ((ls.take i).flatten ++ l.take j))) (fun _ kv _ => n - (intOf kv).toNat)
        case atStart => exact ⟨0, Nat.zero_le _, rfl, HT0⟩
        case round =>
          clear HT0 hc3 hI
          obtain ⟨j, hj, rfl, hJ⟩ := hrel
          by_cases hlt2 : j < n
          · have hd2 : decide ((j : Int) < (n : Int)) = true := by simpa using hlt2
            obtain ⟨x, hx⟩ : ∃ x, l[j]? = some x := ⟨_, List.getElem?_eq_getElem (by rw [HN.out]; exact hlt2)⟩
            obtain ⟨b, off, rfl, hb1, hb2, hcx⟩ := HROW.out.at_ j x hx
            have hcx := (World.cell?_of_block (a := ⟨b, off + j, none⟩) (hJ.out.off.block b hb1 hb2)).trans hcx
            have HX := Lib.hid hx
            have HSET := Lib.hid (Bit.set_any bp bq nn (x : Int) _ _ hJ.out.bs)
            clear hx hb1 hb2
            go_wp2_with fail
            refine HSET.out.mono ?_
            rintro e w5 ⟨rfl, s1, s2⟩
            have HT2 : Hid (Tk w4 w5 bp bq nn ((ls.take i).flatten ++ l.take (j + 1))) := Lib.hid (by
              obtain ⟨hjl, ex⟩ := List.getElem?_eq_some_iff.1 HX.out
              rw [List.take_succ_eq_append_getElem hjl, ex, ← List.append_assoc]
              exact hJ.out.next s1 s2)
            clear s1 s2 hJ HSET hcx
            go_wp2_with fail
            go_roundw
            case rel => exact ⟨j + 1, by omega, by go_num, HT2⟩
            case measure => simp [intOf]; omega
          · obtain rfl : j = n := by omega
            have hd2 : decide ((j : Int) < (j : Int)) = false := by simp
            have HT2 : Hid (Tk w4 wr bp bq nn ((ls.take (i + 1)).flatten)) := Lib.hid (by
              obtain ⟨hil, ex⟩ := List.getElem?_eq_some_iff.1 HROW.out.it
              rw [List.take_succ_eq_append_getElem hil, ex, List.flatten_append]
              have h9 := hJ.out
              rw [List.take_of_length_le (l := l) (by rw [HN.out]; exact Nat.le_refl _)] at h9
              simpa using h9)
            clear hJ
            go_wp2_with fail
            go_roundw
            case rel => exact ⟨i + 1, by omega, by go_num, HT2⟩
            case measure => simp [intOf]; omega
      · have hi3 : i = 3 := by omega
        have hd : decide ((i : Int) < 3) = false := by simp; omega
        obtain ⟨us, hus⟩ : ∃ us, used P L O = us := ⟨_, rfl⟩
        have HF : Hid (∃ v, Fr8 w wr bp bq sg nn 2 us v) := Lib.hid (by
          have h9 := hI.out
          rw [hi3, ← HLS.out, show (([P, Pag.Pgs.sectorsL L, Pag.Pgs.sectorsL O] : List (List Nat)).take 3).flatten = used P L O by simp [used], hus] at h9
          exact ⟨_, Fr8.first h9 HG.out.1 HK.out.1 HK.out.2.1 HK.out.2.2.2 HB4.out.1 HB4.out.2.1⟩)
        have hnn := H.out.top
        have HUS := Lib.hid hus
        generalize hz : (i : Int) = z at hd ⊢
        clear hI hus hi hi3 hlt hz
        go_wp2_with fail
        go_loopw [8] (fun kv wx => ∃ k : Nat, (2 ≤ k ∧ k ≤ nn) ∧ kv = .int .i64 (k : Int) ∧ Hid (∃ v, Fr8 w wx bp bq sg nn k us v)) (fun kv _ => nn - (intOf kv).toNat)
        case atStart => exact ⟨2, ⟨Nat.le_refl _, by omega⟩, rfl, HF⟩
        case round =>
          clear HF
          obtain ⟨k, hk, rfl, hF⟩ := hrel
          obtain ⟨v, hF⟩ := hF.out
          have HFr := Lib.hid hF
          obtain ⟨cc, ws, cs, _, hhead, _⟩ := hF.bs.mem
          have HSZ := Lib.hid (Bit.size_of _ bp nn (Blk.cell hhead 0))
          clear hhead
          by_cases hlt : k < nn
          · have hd : decide ((k : Int) < (nn : Int)) = true := by simpa using hlt
            have HHAS := Lib.hid (Bit.has_any bp bq nn (k : Int) (inL nn us) _ hF.bs)
            have hB : Bit.hasB (inL nn us) nn (k : Int) = decide (k ∈ us) := by
              unfold Bit.hasB inL
              simp [hlt]
            by_cases hm : k ∈ us
            · rw [hB, decide_eq_true hm] at HHAS
              have HF2 := Lib.hid (HFr.out.skip hk.1 hm)
              clear hF
              go_wp2_with fail
              refine HSZ.out.mono ?_
              rintro e w' ⟨rfl, rfl⟩
              go_wp2_with fail
              refine HHAS.out.mono ?_
              rintro e w5 ⟨rfl, h5⟩
              have HF3 : Hid (∃ v, Fr8 w w5 bp bq sg nn (k + 1) us v) := Lib.hid (by
                rcases h5 with rfl | rfl
                · exact ⟨v, HF2.out⟩
                · exact ⟨v, HF2.out.drew⟩)
              clear h5
              go_wp2_with fail
              go_roundw
              case rel => exact ⟨k + 1, by omega, by go_num, HF3⟩
              case measure => simp [intOf]; omega
            · rw [hB, decide_eq_false hm] at HHAS
              have HM := Lib.hid hm
              clear hF hm
              go_wp2_with fail
              refine HSZ.out.mono ?_
              rintro e w' ⟨rfl, rfl⟩
              go_wp2_with fail
              refine HHAS.out.mono ?_
              rintro e w5 ⟨rfl, h5⟩
              have HF3 : Hid (Fr8 w w5 bp bq sg nn k us v) := Lib.hid (by
                rcases h5 with rfl | rfl
                · exact HFr.out
                · exact HFr.out.drew)
              clear h5
              obtain ⟨Av, mv, rfl, _, _⟩ := HF3.out.ints.shape
              have hfl := freeTo_len us k
              obtain ⟨v', w6, HRUN, r1, r2, r3⟩ := ints_app HF3.out.drew.ints k (by omega)
              obtain ⟨A6, m6, rfl, _, _⟩ := r1.shape
              have HF4 := Lib.hid (HF3.out.drew.next hk.1 HM.out r1 r2 r3)
              obtain ⟨nw, hnw⟩ : ∃ nw, (freeTo us k ++ [k]).length = nw := ⟨_, rfl⟩
              rw [hnw] at HRUN HF4
              have HRUN := Lib.hid HRUN
              have hbk := HF3.out.drew.blk
              have hbk6 := hbk.grown r2 (fun e => by
                have h1 := (HF3.out.own sg e.symm).1
                have h2 := HF3.out.ge.2.2
                omega)
              have ct : w5.drew.cell? ⟨p2, 0, none⟩ = some (.pointer (some ⟨sg, 0, none⟩)) := (World.cell?_of_block (a := ⟨p2, 0, none⟩) (HF3.out.drew.off.block p2 H.out.lt.2.1 (fun e => HG.out.2.2.1 e.symm))).trans H.out.t
              have f6 := hbk6.frozen 3
              obtain ⟨nv, hnv⟩ : ∃ nv, (freeTo us k).length = nv := ⟨_, rfl⟩
              have c3 : w5.drew.cell? ⟨sg, 3, none⟩ = some (.slice Av (freeTo us k).length mv) := hbk.cell 3
              have c6 : w6.cell? ⟨sg, 3, none⟩ = some (.slice Av (freeTo us k).length mv) := hbk6.cell 3
              rw [hnv] at c3 c6 HRUN
              have HFr' := Lib.hid hnv
              have la : Below w5.heap.size w5 (w5.alloc (.cells #[.int .i64 (k : Int)] 3)) := (Below.refl _ _).alloc (Nat.le_refl _) _
              have ct1 : w5.cell? ⟨p2, 0, none⟩ = some (.pointer (some ⟨sg, 0, none⟩)) := ct
              have c31 : w5.cell? ⟨sg, 3, none⟩ = some (.slice Av nv mv) := c3
              have ct2 := (World.cell?_of_block (a := ⟨p2, 0, none⟩) (la.block p2 (by have := HF3.out.off.size; have := H.out.lt; omega))).trans ct1
              have c32 := (World.cell?_of_block (a := ⟨sg, 3, none⟩) (la.block sg HF3.out.blk.lt)).trans c31
              have ct6 : w6.cell? ⟨p2, 0, none⟩ = some (.pointer (some ⟨sg, 0, none⟩)) := (World.cell?_of_block (a := ⟨p2, 0, none⟩) (r2.block p2 (by have := HF3.out.off.size; have := H.out.lt; show p2 < w5.heap.size; omega) (fun e => by have h1 := (HF3.out.own p2 e.symm).1; have := H.out.lt; omega))).trans ct
              have HRUN : Hid ((Builtin.append_ #[33, 33] 33 #[.slice Av nv mv, .slice (some ⟨w5.heap.size, 0, none⟩) 1 1]).run Tryz.prog ((w5.alloc (.cells #[.int .i64 (k : Int)] 3)).drew) = .ok (.slice A6 nw m6) w6) := Lib.hid HRUN.out
              clear ct c3
              clear r1 r2 r3 hbk hbk6 hfl hF la hnv hnw
              go_upto_region 14 with fail
              go_region_law (refine step_app rfl (.tmp 65) (.tmp 67) 33 rfl _ _ _ _ (by simp [Act.eval]) (by simp [Act.eval]) HRUN.out ?_)
              all_goals
                go_wp2_with fail
                go_roundw
                case rel => exact ⟨k + 1, by omega, by go_num, Lib.hid ⟨_, HF4.out⟩⟩
                case measure => simp [intOf]; omega
          · obtain rfl : k = nn := by omega
            have hd : decide ((k : Int) < (k : Int)) = false := by simp
            clear hF
            go_wp2_with fail
            refine HSZ.out.mono ?_
            rintro e w' ⟨rfl, rfl⟩
            go_wp2_with fail
            go_end0
            have hF := HFr.out
            refine ⟨rfl, v, hF.blk, ?_, fun j e => (hF.own j e).1, hF.off⟩
            unfold freeL
            rw [HUS.out]
            exact hF.ints
end Go.Proofs.YtolpgpphjnkehaaGreatDoor
/- shadow: a space in memory. -/
namespace Go.Proofs.YtolpgpphjnkehaaGreatDoor
set_option maxRecDepth 20000
open Go.RowKit Cac Dsk
open Pag (PM IntsO)
section
variable {w0 w w' : World} {X G E : Nat → Prop} {g dg mb n most time nn t : Nat} {B : Nat → Nat} {L : List Fr} {D : DS}
theorem RunC_turn (h : RunC w0 w X g dg mb n most time B L D E) (ho : Off G w w') (hG : ∀ k, G k → X k ∧ w0.heap.size ≤ k) : RunC w0 w' X g dg mb n most time B L D E :=
  ⟨h.cm.keep (fun k hz => ho.block k (h.run.lt k (.inr hz)) (fun e => (h.far k hz).2 (hG k e).1)) ho.size,
   h.run.turn ho (fun k e => ⟨.inl (hG k e).1, (hG k e).2⟩) _ (fun _ hk => .inl hk), h.far⟩
/-- Cells that are apart from a cache and its disk are turned. -/
theorem CS_turn (h : CS w0 w X g dg nn most t D L) (ho : Off G w w') (hG : ∀ k, G k → X k ∧ w0.heap.size ≤ k) : CS w0 w' X g dg nn most t D L := by
  obtain ⟨⟨mb, n, time, B, E, h1, h2⟩, h3, h4⟩ := h
  exact ⟨⟨mb, n, time, B, E, RunC_turn h1 ho hG, h2⟩, h3, h4⟩
theorem CS_dead (h : CS w0 w X g dg nn most t D L) : Calls Tryz.prog 60 #[.pointer (some ⟨dg, 0, none⟩)] w fun e w' => e = .returned (.bool false) ∧ w = w' := by
  obtain ⟨⟨mb, n, time, B, E, h1, h2⟩, h3, h4⟩ := h
  obtain ⟨F, hD⟩ := h1.disk
  have := hD.dead_
  rw [h3.hale.dead] at this
  exact this
theorem CS_disk (h : CS w0 w X g dg nn most t D L) : (∃ A, w.cell? ⟨dg, 0, none⟩ = some (.slice A nn nn)) ∧ dg < w.heap.size ∧ ¬ X dg := by
  obtain ⟨⟨mb, n, time, B, E, h1, h2⟩, h3, h4⟩ := h
  obtain ⟨F, hD, hF⟩ := h1.run.own
  have hx := (hF dg hD.has).2
  obtain ⟨E', gl, gi, rv, hk, _⟩ := hD
  have hl := h3.hale.len
  have hc := hk.hd.c0
  rw [hl] at hc
  exact ⟨⟨_, hc⟩, hk.head.lt, fun e => hx (.inl e)⟩
end
/-- The cells of a space. -/
def spRow (dg cg ep pg og sg : Nat) (P : List Nat) (mv : Value) : Array Value :=
  ([.pointer (some ⟨dg, 0, none⟩), .pointer (some ⟨cg, 0, none⟩), .int .u32 (ep : Int)] ++ P.map (fun (x : Nat) => Value.int .i64 (x : Int)) ++ [.pointer (some ⟨pg, 0, none⟩), mv, .pointer (some ⟨og, 0, none⟩), .pointer (some ⟨sg, 0, none⟩)] : List Value).toArray
theorem spRow_low (dg cg ep pg og sg : Nat) (P : List Nat) (mv : Value) : (spRow dg cg ep pg og sg P mv)[0]? = some (.pointer (some ⟨dg, 0, none⟩)) ∧ (spRow dg cg ep pg og sg P mv)[1]? = some (.pointer (some ⟨cg, 0, none⟩)) ∧ (spRow dg cg ep pg og sg P mv)[2]? = some (.int .u32 (ep : Int)) := by
  unfold spRow
  refine ⟨?_, ?_, ?_⟩ <;> simp
theorem spRow_part (dg cg ep pg og sg : Nat) (P : List Nat) (mv : Value) {i x : Nat} (h : P[i]? = some x) : (spRow dg cg ep pg og sg P mv)[3 + i]? = some (.int .i64 (x : Int)) := by
  unfold spRow
  have hi := (List.getElem?_eq_some_iff.1 h).1
  rw [List.getElem?_toArray, List.getElem?_append_left (by simp; omega), List.getElem?_append_right (by simp), List.getElem?_map]
  simp [h]
theorem spRow_high (dg cg ep pg og sg : Nat) (P : List Nat) (mv : Value) (hP : P.length = 9) : (spRow dg cg ep pg og sg P mv)[12]? = some (.pointer (some ⟨pg, 0, none⟩)) ∧ (spRow dg cg ep pg og sg P mv)[13]? = some mv ∧ (spRow dg cg ep pg og sg P mv)[14]? = some (.pointer (some ⟨og, 0, none⟩)) ∧ (spRow dg cg ep pg og sg P mv)[15]? = some (.pointer (some ⟨sg, 0, none⟩)) := by
  unfold spRow
  refine ⟨?_, ?_, ?_, ?_⟩ <;> rw [List.getElem?_toArray, List.getElem?_append_right (by simp [hP])] <;> simp [hP]
/-- What is reckoned once. -/
def St (w : World) (E : Nat → Prop) (sg nn : Nat) (fr : Bool) (P L O : List Nat) : Prop :=
  if fr then ∃ v, Blk w sg 126 #[.int .u32 1, .int .i32 0, .int .u32 0, v] ∧ IntsO w v (freeL nn P L O) ∧ ∀ k, v.ownBlock = some k → E k
  else Blk w sg 126 #[.int .u32 0, .int .i32 0, .int .u32 0, .slice none 0 0]
/-- Where a space lies. -/
structure Ad where
  sp : Nat
  dg : Nat
  cg : Nat
  pg : Nat
  og : Nat
  sg : Nat
  A : Option Addr
  c : Nat
  E : Nat → Prop
/-- What a space is. -/
structure Sv where
  ep : Nat
  P : List Nat
  M : List UInt8
  L : List Nat
  O : List Nat
  fr : Bool
def Ad.zn (a : Ad) : Nat → Prop := fun k => k = a.sp ∨ k = a.og ∨ k = a.sg ∨ a.E k
structure SpM (w : World) (nn : Nat) (a : Ad) (v : Sv) : Prop where
  head : Blk w a.sp 128 (spRow a.dg a.cg v.ep a.pg a.og a.sg v.P (.slice a.A v.M.length a.c))
  mby : Bytes w a.A v.M
  mcap : v.M.length ≤ a.c ∧ a.c ≤ maxLen ∧ v.M.length ≤ 200
  mE : ∀ p : Addr, a.A = some p → a.E p.block
  pl : v.P.length = 9
  plt : ∀ x ∈ v.P, x < 65536
  ep : v.ep < 4294967296
  pages : PM w a.pg v.L
  pE : a.E a.pg
  own : PM w a.og v.O
  st : St w a.E a.sg nn v.fr v.P v.L v.O
  ne : (¬ a.E a.sp ∧ ¬ a.E a.og ∧ ¬ a.E a.sg) ∧ a.sp ≠ a.og ∧ a.sp ≠ a.sg ∧ a.og ≠ a.sg
  lt : ∀ k, a.zn k → k < w.heap.size
  mA : (a.A = none → v.M.length = 0 ∧ a.c = 0) ∧ ∀ p : Addr, a.A = some p → ∃ g o, p = ⟨g, o, none⟩
theorem St.same {w w' : World} {E : Nat → Prop} {sg nn : Nat} {fr : Bool} {P L O : List Nat} (h : St w E sg nn fr P L O) (h1 : w'.heap[sg]? = w.heap[sg]?) (h2 : ∀ k, E k → w'.heap[k]? = w.heap[k]?) : St w' E sg nn fr P L O := by
  unfold St at h ⊢
  cases fr
  · simp only [Bool.false_eq_true, if_false] at h ⊢
    exact Blk.same h h1
  · simp only [if_true] at h ⊢
    obtain ⟨v, k1, k2, k3⟩ := h
    exact ⟨v, Blk.same k1 h1, k2.same fun k hk => h2 k (k3 k hk), k3⟩
theorem SpM.same {w w' : World} {nn : Nat} {a : Ad} {v : Sv} (h : SpM w nn a v) (hs : w.heap.size ≤ w'.heap.size) (hk : ∀ k, a.zn k → w'.heap[k]? = w.heap[k]?) : SpM w' nn a v :=
  have hE : ∀ k, a.E k → w'.heap[k]? = w.heap[k]? := fun k e => hk k (.inr (.inr (.inr e)))
  ⟨Blk.same h.head (hk _ (.inl rfl)), h.mby.same hs (fun p e _ => hE _ (h.mE p e)), h.mcap, h.mE, h.pl, h.plt, h.ep, h.pages.same (hE _ h.pE), h.pE, h.own.same (hk _ (.inr (.inl rfl))), h.st.same (hk _ (.inr (.inr (.inl rfl)))) hE, h.ne, fun k e => Nat.lt_of_lt_of_le (h.lt k e) hs, h.mA⟩
/-- A space over a disk whose power stays, all of it behind w0, and apart from X. -/
structure Spc (w0 w : World) (X : Nat → Prop) (nn most t : Nat) (a : Ad) (v : Sv) (D : DS) (Lc : List Fr) : Prop where
  cs : CS w0 w (fun k => X k ∨ a.zn k) a.cg a.dg nn most t D Lc
  m : SpM w nn a v
  far : ∀ k, a.zn k → w0.heap.size ≤ k ∧ ¬ X k
section
variable {w0 w w' : World} {X : Nat → Prop} {nn most t : Nat} {a : Ad} {v : Sv} {D : DS} {Lc : List Fr}
theorem Spc.below (h : Spc w0 w X nn most t a v D Lc) (hb : Below w.heap.size w w') : Spc w0 w' X nn most t a v D Lc :=
  ⟨h.cs.below hb, h.m.same hb.size (fun k e => hb.block k (h.m.lt k e)), h.far⟩
theorem Spc.bel (h : Spc w0 w X nn most t a v D Lc) : Below w0.heap.size w0 w := h.cs.bel
theorem Spc.Xlt (h : Spc w0 w X nn most t a v D Lc) : ∀ k, X k → k < w.heap.size := fun k e => h.cs.lt k (.inl e)
theorem Spc.keepB (h : Spc w0 w X nn most t a v D Lc) (hb : Below w.heap.size w w') : Keep X w w' := Keep.of_below hb h.Xlt
/-- What was made since is set apart, too. -/
theorem Spc.more (h : Spc w0 w X nn most t a v D Lc) (hb : Below w.heap.size w w') (Y : Nat → Prop) (hY : ∀ k, Y k → X k ∨ (w.heap.size ≤ k ∧ k < w'.heap.size)) : Spc w0 w' Y nn most t a v D Lc :=
  ⟨h.cs.more hb _ (fun k e => by
      rcases e with e | e
      · rcases hY k e with e | e
        · exact .inl (.inl e)
        · exact .inr e
      · exact .inl (.inr e)), h.m.same hb.size (fun k e => hb.block k (h.m.lt k e)), fun k e => ⟨(h.far k e).1, fun hy => by
      rcases hY k hy with h1 | h1
      · exact (h.far k e).2 h1
      · have := h.m.lt k e; omega⟩⟩
theorem Spc.less {Y : Nat → Prop} (h : Spc w0 w X nn most t a v D Lc) (hY : ∀ k, Y k → X k) : Spc w0 w Y nn most t a v D Lc :=
  ⟨h.cs.less (fun k e => e.imp (hY k) id), h.m, fun k e => ⟨(h.far k e).1, fun hy => (h.far k e).2 (hY k hy)⟩⟩
theorem Spc.drew (h : Spc w0 w X nn most t a v D Lc) : Spc w0 w.drew X nn most t a v D Lc := h.below (Below.refl _ w).drew
theorem Spc.told (h : Spc w0 w X nn most t a v D Lc) : w.cell? ⟨a.sp, 0, none⟩ = some (.pointer (some ⟨a.dg, 0, none⟩)) ∧ w.cell? ⟨a.sp, 1, none⟩ = some (.pointer (some ⟨a.cg, 0, none⟩)) ∧ w.cell? ⟨a.sp, 2, none⟩ = some (.int .u32 (v.ep : Int)) ∧
    w.cell? ⟨a.sp, 12, none⟩ = some (.pointer (some ⟨a.pg, 0, none⟩)) ∧ w.cell? ⟨a.sp, 13, none⟩ = some (.slice a.A v.M.length a.c) ∧ w.cell? ⟨a.sp, 14, none⟩ = some (.pointer (some ⟨a.og, 0, none⟩)) ∧ w.cell? ⟨a.sp, 15, none⟩ = some (.pointer (some ⟨a.sg, 0, none⟩)) ∧ ∀ i, w.frozen? ⟨a.sp, i, none⟩ = false := by
  have hh := h.m.head
  obtain ⟨l0, l1, l2⟩ := spRow_low a.dg a.cg v.ep a.pg a.og a.sg v.P (.slice a.A v.M.length a.c)
  obtain ⟨l3, l4, l5, l6⟩ := spRow_high a.dg a.cg v.ep a.pg a.og a.sg v.P (.slice a.A v.M.length a.c) h.m.pl
  exact ⟨(Blk.cell hh 0).trans l0, (Blk.cell hh 1).trans l1, (Blk.cell hh 2).trans l2, (Blk.cell hh 12).trans l3, (Blk.cell hh 13).trans l4, (Blk.cell hh 14).trans l5, (Blk.cell hh 15).trans l6, Blk.frozen hh⟩
theorem Spc.refuses (h : Spc w0 w X nn most t a v D Lc) : Calls Tryz.prog 98 #[.pointer (some ⟨a.sp, 0, none⟩)] w fun e w' => e = .returned (.int .i64 0) ∧ w = w' := by
  obtain ⟨c0, _⟩ := h.told
  have H1 := Lib.hid (CS_dead h.cs)
  clear h
  go_enter Tryz.func98, Tryz.ntmps98
  go_wp2_with fail
  refine H1.out.mono ?_
  rintro e w' ⟨rfl, rfl⟩
  go_wp2_with fail
  go_ret
  exact ⟨rfl, rfl⟩
def refP (i : Int) : Int := if 0 ≤ i ∧ i < 1024 then 0 else 1
theorem Spc.refusesPage (h : Spc w0 w X nn most t a v D Lc) (i : Int) : Calls Tryz.prog 86 #[.pointer (some ⟨a.sp, 0, none⟩), .int .i64 i] w fun e w' => e = .returned (.int .i64 (refP i)) ∧ w = w' := by
  have H1 := Lib.hid h.refuses
  clear h
  by_cases h1 : i < 0
  · have hd : decide (i < 0) = true := by simpa using h1
    have HR : Hid (refP i = 1) := Lib.hid (by unfold refP; rw [if_neg (by omega)])
    clear h1
    go_enter Tryz.func86, Tryz.ntmps86
    go_wp2_with fail
    refine H1.out.mono ?_
    rintro e w' ⟨rfl, rfl⟩
    go_wp2_with fail
    go_ret
    rw [HR.out]
    exact ⟨rfl, rfl⟩
  · have hd : decide (i < 0) = false := by simpa using h1
    by_cases h2 : i < 1024
    · have hd2 : decide (i ≥ 1024) = false := by simp; omega
      have HR : Hid (refP i = 0) := Lib.hid (by unfold refP; rw [if_pos (by omega)])
      clear h1 h2
      go_enter Tryz.func86, Tryz.ntmps86
      go_wp2_with fail
      refine H1.out.mono ?_
      rintro e w' ⟨rfl, rfl⟩
      go_wp2_with fail
      go_ret
      rw [HR.out]
      exact ⟨rfl, rfl⟩
    · have hd2 : decide (i ≥ 1024) = true := by simp; omega
      have HR : Hid (refP i = 1) := Lib.hid (by unfold refP; rw [if_neg (by omega)])
      clear h1 h2
      go_enter Tryz.func86, Tryz.ntmps86
      go_wp2_with fail
      refine H1.out.mono ?_
      rintro e w' ⟨rfl, rfl⟩
      go_wp2_with fail
      go_ret
      rw [HR.out]
      exact ⟨rfl, rfl⟩
theorem Spc.epoch (h : Spc w0 w X nn most t a v D Lc) : Calls Tryz.prog 33 #[.pointer (some ⟨a.sp, 0, none⟩)] w fun e w' => e = .returned (.int .u32 (v.ep : Int)) ∧ w = w' := by
  obtain ⟨_, _, c2, _⟩ := h.told
  clear h
  go_enter Tryz.func33, Tryz.ntmps33
  go_wp2_with fail
  go_ret
  exact ⟨rfl, rfl⟩
theorem Spc.pages (h : Spc w0 w X nn most t a v D Lc) : Calls Tryz.prog 29 #[.pointer (some ⟨a.sp, 0, none⟩)] w fun e w' => ∃ A c, e = .returned (.slice A (Pag.Pgs.pagesL v.O).length c) ∧ IntsO w' (.slice A (Pag.Pgs.pagesL v.O).length c) (Pag.Pgs.pagesL v.O) ∧ (∀ p : Addr, A = some p → w.heap.size ≤ p.block) ∧ Below w.heap.size w w' := by
  obtain ⟨_, _, _, _, _, c5, _⟩ := h.told
  have H1 := Lib.hid (Pag.pages_some a.og v.O w h.m.own)
  clear h
  go_enter Tryz.func29, Tryz.ntmps29
  go_wp2_with fail
  refine H1.out.mono ?_
  rintro e w' ⟨sv, rfl, h1, h2, h3⟩
  have HK := Lib.hid (And.intro h1 (And.intro h2 h3))
  obtain ⟨A, c, rfl, _, _⟩ := h1.shape
  clear h1 h2 h3
  go_wp2_with fail
  go_ret
  exact ⟨A, c, rfl, HK.out.1, fun p e => by
    obtain ⟨g, rfl⟩ := ints_addr HK.out.1 p e
    subst e
    exact HK.out.2.1 g rfl, HK.out.2.2⟩
end
end Go.Proofs.YtolpgpphjnkehaaGreatDoor
/- shadow: what is free, reckoned once. -/
namespace Go.Proofs.YtolpgpphjnkehaaGreatDoor
set_option maxRecDepth 20000
open Go.RowKit Cac Dsk
open Pag (PM IntsO)
section
variable {w0 w w' : World} {X G E : Nat → Prop} {g dg mb n most time nn t : Nat} {B : Nat → Nat} {L : List Fr} {D : DS}
theorem RunC_turnM (h : RunC w0 w X g dg mb n most time B L D E) (ho : Off G w w') (hG : ∀ k, G k → X k ∧ w0.heap.size ≤ k) (Y : Nat → Prop) (hY : ∀ k, Y k → X k ∨ (w.heap.size ≤ k ∧ k < w'.heap.size)) : RunC w0 w' Y g dg mb n most time B L D E :=
  ⟨h.cm.keep (fun k hz => ho.block k (h.run.lt k (.inr hz)) (fun e => (h.far k hz).2 (hG k e).1)) ho.size,
   h.run.turn ho (fun k e => ⟨.inl (hG k e).1, (hG k e).2⟩) _ (fun k hk => by
     rcases hk with hk | hk
     · rcases hY k hk with h1 | h1
       · exact .inl (.inl h1)
       · exact .inr h1
     · exact .inl (.inr hk)), fun k hk => ⟨(h.far k hk).1, fun hy => by
     rcases hY k hy with h1 | h1
     · exact (h.far k hk).2 h1
     · have := h.run.lt k (.inr hk); omega⟩⟩
theorem CS_turnM (h : CS w0 w X g dg nn most t D L) (ho : Off G w w') (hG : ∀ k, G k → X k ∧ w0.heap.size ≤ k) (Y : Nat → Prop) (hY : ∀ k, Y k → X k ∨ (w.heap.size ≤ k ∧ k < w'.heap.size)) : CS w0 w' Y g dg nn most t D L := by
  obtain ⟨⟨mb, n, time, B, E, h1, h2⟩, h3, h4⟩ := h
  exact ⟨⟨mb, n, time, B, E, RunC_turnM h1 ho hG Y hY, h2⟩, h3, h4⟩
end
section
variable {w0 w w' : World} {X G : Nat → Prop} {nn most t : Nat} {a : Ad} {v : Sv} {D : DS} {Lc : List Fr}
/-- Behind cells of the space that are turned. -/
theorem Spc.turn (h : Spc w0 w X nn most t a v D Lc) (ho : Off G w w') (hG : ∀ k, G k → a.zn k) {a' : Ad} {v' : Sv} (hm : SpM w' nn a' v') (ha : ∀ k, a'.zn k → a.zn k ∨ (w.heap.size ≤ k ∧ k < w'.heap.size)) (h1 : a'.cg = a.cg) (h2 : a'.dg = a.dg) :
    Spc w0 w' X nn most t a' v' D Lc ∧ Keep X w w' := by
  refine ⟨⟨?_, hm, fun k e => ?_⟩, ⟨ho.size, fun k e => ho.block k (h.Xlt k e) (fun e' => (h.far k (hG k e')).2 e)⟩⟩
  · rw [h1, h2]
    exact CS_turnM h.cs ho (fun k e => ⟨.inr (hG k e), (h.far k (hG k e)).1⟩) _ (fun k e => by
      rcases e with e | e
      · exact .inl (.inl e)
      · rcases ha k e with e | e
        · exact .inl (.inr e)
        · exact .inr e)
  · rcases ha k e with e | e
    · exact h.far k e
    · exact ⟨by have := h.bel.size; omega, fun hx => by have := h.Xlt k hx; omega⟩
/-- All that was made since belongs to the space. -/
def Ad.grow (a : Ad) (w w' : World) : Ad := { a with E := fun k => a.E k ∨ (w.heap.size ≤ k ∧ k < w'.heap.size) }
theorem Ad.grow_zn (a : Ad) (w w' : World) (k : Nat) (h : (a.grow w w').zn k) : a.zn k ∨ (w.heap.size ≤ k ∧ k < w'.heap.size) := by
  rcases h with h | h | h | h | h
  · exact .inl (.inl h)
  · exact .inl (.inr (.inl h))
  · exact .inl (.inr (.inr (.inl h)))
  · exact .inl (.inr (.inr (.inr h)))
  · exact .inr h
theorem SpM.grow (h : SpM w nn a v) (hs : w.heap.size ≤ w'.heap.size) (hk : ∀ k, a.zn k → w'.heap[k]? = w.heap[k]?) : SpM w' nn (a.grow w w') v := by
  have h1 := h.same hs hk
  have hsp := h.lt _ (.inl rfl)
  have hog := h.lt _ (.inr (.inl rfl))
  have hsg := h.lt _ (.inr (.inr (.inl rfl)))
  refine ⟨h1.head, h1.mby, h1.mcap, fun p e => .inl (h1.mE p e), h1.pl, h1.plt, h1.ep, h1.pages, .inl h1.pE, h1.own, ?_, ⟨⟨fun e => ?_, fun e => ?_, fun e => ?_⟩, h1.ne.2⟩, fun k e => ?_, h1.mA⟩
  · have h2 := h1.st
    unfold St at h2 ⊢
    cases hf : v.fr
    · rw [hf] at h2; exact h2
    · rw [hf] at h2
      simp only [if_true] at h2 ⊢
      obtain ⟨x, k1, k2, k3⟩ := h2
      exact ⟨x, k1, k2, fun k e => .inl (k3 k e)⟩
  · rcases e with e | e
    · exact h1.ne.1.1 e
    · have e1 : w.heap.size ≤ a.sp := e.1
      omega
  · rcases e with e | e
    · exact h1.ne.1.2.1 e
    · have e1 : w.heap.size ≤ a.og := e.1
      omega
  · rcases e with e | e
    · exact h1.ne.1.2.2 e
    · have e1 : w.heap.size ≤ a.sg := e.1
      omega
  · rcases a.grow_zn w w' k e with e | e
    · exact h1.lt k e
    · exact e.2
theorem Spc.grow (h : Spc w0 w X nn most t a v D Lc) (hb : Below w.heap.size w w') : Spc w0 w' X nn most t (a.grow w w') v D Lc ∧ Keep X w w' :=
  h.turn (G := fun _ => False) (Off.of_new hb _) (fun _ e => e.elim) (h.m.grow hb.size (fun k e => hb.block k (h.m.lt k e))) (a.grow_zn w w') rfl rfl
/-- What free's function reads, at a space. -/
theorem Spc.freeIn (h : Spc w0 w X nn most t a v D Lc) {p1 p2 : Nat} (h1 : w.cell? ⟨p1, 0, none⟩ = some (.pointer (some ⟨a.sp, 0, none⟩))) (h2 : w.cell? ⟨p2, 0, none⟩ = some (.pointer (some ⟨a.sg, 0, none⟩))) (hl : p1 < w.heap.size ∧ p2 < w.heap.size) :
    FreeIn w p1 p2 a.sp a.dg a.pg a.og a.sg nn v.P v.L v.O := by
  obtain ⟨c0, _, _, c12, _, c14, _⟩ := h.told
  obtain ⟨hA, hdl, _⟩ := CS_disk h.cs
  have htop := h.cs.st.top
  exact ⟨h1, h2, c0, fun i x hx => (Blk.cell h.m.head (3 + i)).trans (spRow_part _ _ _ _ _ _ _ _ hx), c12, c14, hA, h.m.pages, h.m.own, h.m.pl, ⟨by omega, by omega⟩, ⟨hl.1, hl.2, h.m.lt _ (.inl rfl), hdl⟩⟩
/-- What is free is reckoned. -/
theorem SpM.reckoned (h : SpM w nn a v) (ho : Off (fun k => k = a.sg) w w') {x : Value} (hb : Blk w' a.sg 126 #[.int .u32 1, .int .i32 0, .int .u32 0, x]) (hi : IntsO w' x (freeL nn v.P v.L v.O)) (hown : ∀ k, x.ownBlock = some k → w.heap.size ≤ k) :
    SpM w' nn (a.grow w w') { v with fr := true } := by
  have hsp := h.lt _ (.inl rfl)
  have hog := h.lt _ (.inr (.inl rfl))
  have hsg := h.lt _ (.inr (.inr (.inl rfl)))
  have hE : ∀ k, a.E k → w'.heap[k]? = w.heap[k]? := fun k e => ho.block k (h.lt k (.inr (.inr (.inr e)))) (fun e' => h.ne.1.2.2 (e' ▸ e))
  refine ⟨Blk.same h.head (ho.block _ hsp h.ne.2.2.1), h.mby.same ho.size (fun p e _ => hE _ (h.mE p e)), h.mcap, fun p e => .inl (h.mE p e), h.pl, h.plt, h.ep, h.pages.same (hE _ h.pE), .inl h.pE, h.own.same (ho.block _ hog h.ne.2.2.2), ?_, ⟨⟨fun e => ?_, fun e => ?_, fun e => ?_⟩, h.ne.2⟩, fun k e => ?_, h.mA⟩
  · unfold St
    rw [if_pos rfl]
    exact ⟨x, hb, hi, fun k e => .inr ⟨hown k e, hi.lt k e⟩⟩
  · rcases e with e | e
    · exact h.ne.1.1 e
    · have e1 : w.heap.size ≤ a.sp := e.1
      omega
  · rcases e with e | e
    · exact h.ne.1.2.1 e
    · have e1 : w.heap.size ≤ a.og := e.1
      omega
  · rcases e with e | e
    · exact h.ne.1.2.2 e
    · have e1 : w.heap.size ≤ a.sg := e.1
      omega
  · rcases a.grow_zn w w' k e with e | e
    · exact Nat.lt_of_lt_of_le (h.lt k e) ho.size
    · exact e.2
end
end Go.Proofs.YtolpgpphjnkehaaGreatDoor
/- shadow: free, Room. -/
namespace Go.Proofs.YtolpgpphjnkehaaGreatDoor
set_option maxRecDepth 20000
open Go.RowKit Cac Dsk
open Pag (PM IntsO)
section
variable {w0 w w' : World} {X G : Nat → Prop} {nn most t : Nat} {a : Ad} {v : Sv} {D : DS} {Lc : List Fr}
set_option maxHeartbeats 1000000 in
theorem Spc.free (h : Spc w0 w X nn most t a v D Lc) : Calls Tryz.prog 81 #[.pointer (some ⟨a.sp, 0, none⟩)] w fun e w' =>
    ∃ A c, e = .returned (.slice A (freeL nn v.P v.L v.O).length c) ∧ IntsO w' (.slice A (freeL nn v.P v.L v.O).length c) (freeL nn v.P v.L v.O) ∧ (∀ p : Addr, A = some p → (a.grow w w').E p.block) ∧ Spc w0 w' X nn most t (a.grow w w') { v with fr := true } D Lc ∧ Keep X w w' := by
  have H := Lib.hid h
  obtain ⟨_, _, _, _, _, _, c15, _⟩ := h.told
  have hmf : ∀ (fn : Fn) (first cap : Array Value) (w : World), (Instr.makeFunc fn first cap).run Tryz.prog w = .ok (.func fn first cap) w := fun _ _ _ _ => rfl
  have hsl := h.m.lt _ (.inl rfl)
  have c15 : (w.alloc (.cells #[.pointer (some ⟨a.sp, 0, none⟩)] 26)).cell? ⟨a.sp, 15, none⟩ = some (.pointer (some ⟨a.sg, 0, none⟩)) := (World.cell?_of_block (a := ⟨a.sp, 15, none⟩) (Below.heap_alloc w _ _ hsl)).trans c15
  go_enter Tryz.func81, Tryz.ntmps81
  go_wp2_with fail
  obtain ⟨wA, hwA⟩ : ∃ wA, (w.alloc (.cells #[.pointer (some ⟨a.sp, 0, none⟩)] 26)).alloc (.cells #[.pointer (some ⟨a.sg, 0, none⟩)] 113) = wA := ⟨_, rfl⟩
  rw [hwA]
  have hbA : Below w.heap.size w wA := by rw [← hwA]; exact ((Below.refl _ _).alloc (Nat.le_refl _) _).alloc (by simp) _
  have hP1 : Blk wA w.heap.size 26 #[.pointer (some ⟨a.sp, 0, none⟩)] := by rw [← hwA]; exact (Blk.new w _ _).alloc _
  have hP2 : Blk wA (w.heap.size + 1) 113 #[.pointer (some ⟨a.sg, 0, none⟩)] := by
    rw [← hwA]
    have := Blk.new (w.alloc (.cells #[.pointer (some ⟨a.sp, 0, none⟩)] 26)) 113 #[.pointer (some ⟨a.sg, 0, none⟩)]
    simpa using this
  have hA := H.out.grow hbA
  cases hfr : v.fr with
  | true =>
    have hst := hA.1.m.st
    unfold St at hst
    rw [if_pos hfr] at hst
    obtain ⟨x, k1, k2, k3⟩ := hst
    obtain ⟨Ax, cx, rfl, _, _⟩ := k2.shape
    have HD := Lib.hid (do_done a.sg (.func (.func 137) #[] #[.pointer (some ⟨w.heap.size, 0, none⟩), .pointer (some ⟨w.heap.size + 1, 0, none⟩)]) wA (Blk.cell k1 0))
    have q1 := hP2.cell 0
    have q2 : wA.cell? ⟨a.sg, 3, none⟩ = some (.slice Ax (freeL nn v.P v.L v.O).length cx) := Blk.cell k1 3
    have HK := Lib.hid (And.intro hA.1 (And.intro hA.2 (And.intro k2 k3)))
    obtain ⟨nf, hnf⟩ : ∃ nf, (freeL nn v.P v.L v.O).length = nf := ⟨_, rfl⟩
    have HNF := Lib.hid hnf
    rw [hnf] at q2
    clear hA k1 k2 k3 hP1 hP2 hbA hnf h
    refine HD.out.mono ?_
    rintro e w' ⟨rfl, rfl⟩
    go_wp2_with fail
    go_ret
    rw [HNF.out]
    refine ⟨Ax, cx, rfl, by have := HK.out.2.2.1; rw [HNF.out] at this; exact this, fun p e => ?_, ?_, HK.out.2.1⟩
    · obtain ⟨g, rfl⟩ := ints_addr HK.out.2.2.1 p e
      subst e
      exact HK.out.2.2.2 g rfl
    · have h9 := HK.out.1
      obtain ⟨ep, P, M, L, O, fr⟩ := v
      have : fr = true := hfr
      subst this
      exact h9
  | false =>
    have hst := hA.1.m.st
    unfold St at hst
    rw [if_neg (by rw [hfr]; decide)] at hst
    have hst : Blk wA a.sg 126 #[.int .u32 0, .int .i32 0, .int .u32 0, .slice none 0 0] := hst
    have hl1 := hP1.lt
    have hl2 := hP2.lt
    have hsg : a.sg < w.heap.size := H.out.m.lt _ (.inr (.inr (.inl rfl)))
    have hin := hA.1.freeIn (hP1.cell 0) (hP2.cell 0) ⟨hl1, hl2⟩
    have hne := H.out.m.ne
    have hoth : ∀ k, k ≠ a.sg → (wA.setCell ⟨a.sg, 1, none⟩ (.int .i32 1)).heap[k]? = wA.heap[k]? := fun k e => Below.heap_setCell _ _ _ _ e
    have hdg : a.dg ≠ a.sg := fun e => (CS_disk H.out.cs).2.2 (.inr (.inr (.inr (.inl e))))
    have hin2 : FreeIn (wA.setCell ⟨a.sg, 1, none⟩ (.int .i32 1)) w.heap.size (w.heap.size + 1) a.sp a.dg a.pg a.og a.sg nn v.P v.L v.O :=
      hin.same (by simp [World.setCell]) (hoth _ (by omega)) (hoth _ (by omega)) (hoth _ hne.2.2.1) (hoth _ hdg) (hoth _ (fun e => hne.1.2.2 (e ▸ H.out.m.pE))) (hoth _ hne.2.2.2)
    have HF := free1_any w.heap.size (w.heap.size + 1) a.sp a.dg a.pg a.og a.sg nn v.P v.L v.O _ hin2 (Blk.set_ hst 1 (.int .i32 1)) ⟨by omega, by omega, fun e => hne.2.2.1 e.symm⟩
    have HO : OnceF (.pointer (some ⟨w.heap.size, 0, none⟩)) (.pointer (some ⟨w.heap.size + 1, 0, none⟩)) a.sg wA (fun w1 => ∃ x, Blk w1 a.sg 126 #[.int .u32 0, .int .i32 1, .int .u32 0, x] ∧ IntsO w1 x (freeL nn v.P v.L v.O) ∧ (∀ k, x.ownBlock = some k → wA.heap.size ≤ k) ∧ Off (fun k => k = a.sg) wA w1) := by
      unfold OnceF
      refine HF.mono ?_
      rintro e w1 ⟨rfl, x, q1, q2, q3, q4⟩
      exact ⟨rfl, ⟨x, q1, q2, (fun k e => by have := q3 k e; simpa [World.setCell] using this), (Off.setc _ _ _ _).trans q4⟩, q1.cell 0, q1.cell 1, q1.frozen⟩
    have HD := Lib.hid (do_first a.sg _ _ wA _ (Blk.cell hst 0) (Blk.cell hst 1) (Blk.frozen hst) HO)
    have HK := Lib.hid (And.intro hbA (And.intro hP2 hsg))
    clear hA hst hl1 hl2 hsg hin hne hoth hdg hin2 HF HO hP1 hP2 hbA h
    refine HD.out.mono ?_
    rintro e w' ⟨rfl, w1, ⟨x, q1, q2, q3, q4⟩, rfl⟩
    obtain ⟨Ax, cx, rfl, _, _⟩ := q2.shape
    have hB0 : Blk (onceW w1 a.sg) a.sg 126 #[.int .u32 1, .int .i32 0, .int .u32 0, .slice Ax (freeL nn v.P v.L v.O).length cx] := Blk.set_ (Blk.set_ (Blk.drew q1) 0 (.int .u32 1)) 1 (.int .i32 0)
    have hO1 : Off (fun k => k = a.sg) w1 (onceW w1 a.sg) := ((Off.drew _ w1).trans (Off.setc _ _ _ _)).trans (Off.setc _ _ _ _)
    have hOA : Off (fun k => k = a.sg) wA (onceW w1 a.sg) := q4.trans hO1
    have hOW : Off (fun k => k = a.sg) w (onceW w1 a.sg) := (Off.of_new HK.out.1 _).trans hOA
    have hxs : ∀ k, (Value.slice Ax (freeL nn v.P v.L v.O).length cx).ownBlock = some k → w.heap.size ≤ k := fun k e => Nat.le_trans HK.out.1.size (q3 k e)
    have hI2 : IntsO (onceW w1 a.sg) (.slice Ax (freeL nn v.P v.L v.O).length cx) (freeL nn v.P v.L v.O) := q2.same (fun k e => hO1.block k (q2.lt k e) (fun e' => by have := hxs k e; have := HK.out.2.2; omega))
    have hM := H.out.m.reckoned hOW hB0 hI2 hxs
    have hT := H.out.turn hOW (fun k e => .inr (.inr (.inl e))) hM (a.grow_zn w _) rfl rfl
    obtain ⟨wB, hwB⟩ : ∃ wB, onceW w1 a.sg = wB := ⟨_, rfl⟩
    rw [hwB] at hT hI2 hB0 hOA ⊢
    have r1 : wB.cell? ⟨w.heap.size + 1, 0, none⟩ = some (.pointer (some ⟨a.sg, 0, none⟩)) := (World.cell?_of_block (a := ⟨w.heap.size + 1, 0, none⟩) (hOA.block _ HK.out.2.1.lt (fun e => by have e2 : w.heap.size + 1 = a.sg := e; have := HK.out.2.2; omega))).trans (HK.out.2.1.cell 0)
    have r2 : wB.cell? ⟨a.sg, 3, none⟩ = some (.slice Ax (freeL nn v.P v.L v.O).length cx) := hB0.cell 3
    have HE := Lib.hid (And.intro hT (And.intro hI2 hxs))
    obtain ⟨nf, hnf⟩ : ∃ nf, (freeL nn v.P v.L v.O).length = nf := ⟨_, rfl⟩
    have HNF := Lib.hid hnf
    rw [hnf] at r2
    clear q1 q2 q3 q4 hB0 hO1 hOA hOW hxs hI2 hM hT hwB hnf
    go_wp2_with fail
    go_ret
    rw [HNF.out]
    have hI2 := HE.out.2.1
    refine ⟨Ax, cx, rfl, by have := hI2; rw [HNF.out] at this; exact this, fun p e => ?_, HE.out.1.1, HE.out.1.2⟩
    obtain ⟨g, rfl⟩ := ints_addr hI2 p e
    subst e
    exact .inr ⟨HE.out.2.2 g rfl, hI2.lt g rfl⟩
theorem Spc.room (h : Spc w0 w X nn most t a v D Lc) : Calls Tryz.prog 35 #[.pointer (some ⟨a.sp, 0, none⟩)] w fun e w' =>
    e = .returned (.int .i64 (((freeL nn v.P v.L v.O).length - 18 : Nat) : Int)) ∧ Spc w0 w' X nn most t (a.grow w w') { v with fr := true } D Lc ∧ Keep X w w' := by
  have hle := freeTo_len (used v.P v.L v.O) nn
  have htop := h.cs.st.top
  have H1 := h.free
  obtain ⟨nf, hnf⟩ : ∃ nf, (freeL nn v.P v.L v.O).length = nf := ⟨_, rfl⟩
  have hn : nf ≤ 4096 := by rw [← hnf]; unfold freeL; omega
  rw [hnf] at H1 ⊢
  have H1 := Lib.hid H1
  clear h hle htop hnf
  go_enter Tryz.func35, Tryz.ntmps35
  go_wp2_with fail
  refine H1.out.mono ?_
  rintro e w' ⟨A, c, rfl, k1, k2, k3, k4⟩
  have HK := Lib.hid (And.intro k3 k4)
  clear k1 k2 k3 k4
  go_wp2_with fail
  go_ret
  have e1 : max 0 ((nf : Int) - 18) = ((nf - 18 : Nat) : Int) := by omega
  rw [e1]
  exact ⟨rfl, HK.out.1, HK.out.2⟩
/-- Is a page turned? -/
def trn (O L : List Nat) (p : Int) : Bool := decide (Pag.Pgs.got O p ≠ 0) && decide (Pag.Pgs.got L p ≠ Pag.Pgs.got O p)
theorem Spc.turned (h : Spc w0 w X nn most t a v D Lc) (p : Int) : Calls Tryz.prog 95 #[.pointer (some ⟨a.sp, 0, none⟩), .int .i64 p] w fun e w' =>
    e = .returned (.tuple #[.int .i64 (if trn v.O v.L p then (Pag.Pgs.got v.O p : Int) else 0), .bool (trn v.O v.L p)]) ∧ w = w' := by
  obtain ⟨_, _, _, c12, _, c14, _, _⟩ := h.told
  have H1 := Pag.get_some a.og v.O p w h.m.own
  have H2 := Pag.get_some a.pg v.L p w h.m.pages
  unfold trn
  generalize Pag.Pgs.got v.O p = x at H1 ⊢
  generalize Pag.Pgs.got v.L p = y at H2 ⊢
  clear h
  by_cases hx : x = 0
  · subst hx
    rw [show decide ((0 : Nat) ≠ 0) = false from rfl] at H1
    have H1 := Lib.hid H1
    have H2 := Lib.hid H2
    go_enter Tryz.func95, Tryz.ntmps95
    go_wp2_with fail
    refine H1.out.mono ?_
    rintro e w' ⟨rfl, rfl⟩
    go_wp2_with fail
    refine H2.out.mono ?_
    rintro e w' ⟨rfl, rfl⟩
    go_wp2_with fail
    go_ret2
    exact ⟨rfl, rfl⟩
  · rw [decide_eq_true hx] at H1
    have H1 := Lib.hid H1
    by_cases hy : y = 0
    · subst hy
      rw [show decide ((0 : Nat) ≠ 0) = false from rfl] at H2
      have H2 := Lib.hid H2
      have e1 : (decide (x ≠ 0) && decide ((0 : Nat) ≠ x)) = true := by simp [hx]; omega
      rw [e1]
      clear e1
      go_enter Tryz.func95, Tryz.ntmps95
      go_wp2_with fail
      refine H1.out.mono ?_
      rintro e w' ⟨rfl, rfl⟩
      go_wp2_with fail
      refine H2.out.mono ?_
      rintro e w' ⟨rfl, rfl⟩
      go_wp2_with fail
      go_ret2
      exact ⟨rfl, rfl⟩
    · rw [decide_eq_true hy] at H2
      have H2 := Lib.hid H2
      by_cases hxy : y = x
      · subst hxy
        have hd : ((y : Int) == (y : Int)) = true := by simp
        have e1 : (decide (y ≠ 0) && decide (y ≠ y)) = false := by simp
        rw [e1]
        clear e1
        go_enter Tryz.func95, Tryz.ntmps95
        go_wp2_with fail
        refine H1.out.mono ?_
        rintro e w' ⟨rfl, rfl⟩
        go_wp2_with fail
        refine H2.out.mono ?_
        rintro e w' ⟨rfl, rfl⟩
        go_wp2_with fail
        go_ret2
        exact ⟨rfl, rfl⟩
      · have hd : ((y : Int) == (x : Int)) = false := by simp; omega
        have e1 : (decide (x ≠ 0) && decide (y ≠ x)) = true := by simp [hx, hxy]
        rw [e1]
        clear e1
        go_enter Tryz.func95, Tryz.ntmps95
        go_wp2_with fail
        refine H1.out.mono ?_
        rintro e w' ⟨rfl, rfl⟩
        go_wp2_with fail
        refine H2.out.mono ?_
        rintro e w' ⟨rfl, rfl⟩
        go_wp2_with fail
        go_ret2
        exact ⟨rfl, rfl⟩
theorem clone_nil (w : World) : Calls Tryz.prog 80 #[.slice none 0 0] w fun e w' => e = .returned (.slice none 0 0) ∧ w = w' := by
  have heq : (binOp .eql 32 (.slice none 0 0) (.slice none 0 0)).run Tryz.prog w = .ok (.bool true) w := Lib.run_eql_slice_nil w 32 5 none 0 0 0 0 Tryz.underlying32
  go_enter Tryz.func80, Tryz.ntmps80
  go_wp2_with fail
  go_ret
  exact ⟨rfl, rfl⟩
theorem clone_zero (a : Addr) (cap : Nat) (w : World) : Calls Tryz.prog 80 #[.slice (some a) 0 cap] w fun e w' => ∃ A' c', e = .returned (.slice A' 0 c') ∧ c' ≤ maxLen ∧ (∀ p : Addr, A' = some p → ∃ q, p = ⟨q, 0, none⟩ ∧ w.heap.size ≤ q ∧ q < w'.heap.size) ∧ (A' = none → c' = 0) ∧ Below w.heap.size w w' := by
  have hb0 : Below w.heap.size w (w.alloc (.cells #[] 5)) := (Below.refl _ w).alloc (Nat.le_refl _) _
  obtain ⟨v1, w1, hrun1, hown1, hgr1⟩ := run_app8 (w.alloc (.cells #[] 5)) w.heap.size _ 0 [] (own_new w w.heap.size (Nat.le_refl _)) (some a) 0 cap [] rfl (Bytes.nil _ _) (by omega) (by simp)
  have hb1 : Below w.heap.size w w1 := hb0.grown hgr1 (by simp) (fun k e => by simp [Value.ownBlock] at e; omega)
  obtain ⟨A', c', hv, hc, hA', hn⟩ : ∃ A' c', v1 = .slice A' 0 c' ∧ c' ≤ maxLen ∧ (∀ p : Addr, A' = some p → ∃ q, p = ⟨q, 0, none⟩ ∧ w.heap.size ≤ q ∧ q < w1.heap.size) ∧ (A' = none → c' = 0) := by
    rcases hown1.2 with ⟨rfl, e⟩ | ⟨g, cap, cur, rfl, h1, h2, h3, h4, _⟩
    · exact ⟨none, 0, rfl, Nat.zero_le _, (fun p e => by cases e), fun _ => rfl⟩
    · exact ⟨_, _, rfl, h4, (fun p e => ⟨g, (Option.some.inj e).symm, h1, (hown1.lt g rfl).2⟩), fun e => by cases e⟩
  subst hv
  have HRUN := Lib.hid hrun1
  have HO := Lib.hid (And.intro hc (And.intro hA' hn))
  have HB1 := Lib.hid hb1
  have heq := run_eqnil a 0 cap
  clear hrun1 hown1 hgr1 hb1 hb0 hc hA' hn
  go_enter Tryz.func80, Tryz.ntmps80
  go_wp2_with (at_builtin; refine wpList_app rfl _ _ 32 rfl _ _ _ _ rfl rfl HRUN.out ?_; clear HRUN)
  go_ret
  exact ⟨A', c', rfl, HO.out.1, HO.out.2.1, HO.out.2.2, HB1.out⟩
/-- Clone of any bytes. -/
theorem clone_gen (A : Option Addr) (len cap : Nat) (bs : List UInt8) (w : World) (hbl : bs.length = len) (hl : len ≤ 1048576) (hA : Bytes w A bs) (hn : A = none → len = 0 ∧ cap = 0) (h0 : ∀ p : Addr, A = some p → ∃ g o, p = ⟨g, o, none⟩) :
    Calls Tryz.prog 80 #[.slice A len cap] w fun e w' => ∃ A' c', e = .returned (.slice A' len c') ∧ (len ≤ c' ∧ c' ≤ maxLen) ∧ Bytes w' A' bs ∧ (∀ p : Addr, A' = some p → ∃ q, p = ⟨q, 0, none⟩ ∧ w.heap.size ≤ q ∧ q < w'.heap.size) ∧ (A' = none → len = 0 ∧ c' = 0) ∧ Below w.heap.size w w' := by
  rcases A with _ | p
  · obtain ⟨rfl, rfl⟩ := hn rfl
    refine (clone_nil w).mono ?_
    rintro e w' ⟨rfl, rfl⟩
    exact ⟨none, 0, rfl, ⟨Nat.le_refl _, Nat.zero_le _⟩, by rw [List.eq_nil_of_length_eq_zero hbl]; exact Bytes.nil _ _, (fun p e => by cases e), fun _ => ⟨rfl, rfl⟩, Below.refl _ _⟩
  · obtain ⟨g, o, rfl⟩ := h0 p rfl
    rcases Nat.eq_zero_or_pos len with h1 | h1
    · subst h1
      refine (clone_zero ⟨g, o, none⟩ cap w).mono ?_
      rintro e w' ⟨A', c', rfl, k1, k2, k3, k4⟩
      exact ⟨A', c', rfl, ⟨Nat.zero_le _, k1⟩, by rw [List.eq_nil_of_length_eq_zero hbl]; exact Bytes.nil _ _, k2, fun e => ⟨rfl, k3 e⟩, k4⟩
    · refine (Cac.clone_any g o len cap bs w hbl h1 hl hA).mono ?_
      rintro e w' ⟨q, c, rfl, k1, k2, k3⟩
      exact ⟨_, c, rfl, ⟨k1.le, k1.max⟩, k1.bytes, (fun p e => ⟨q, (Option.some.inj e).symm, k2, k1.lt⟩), (fun e => by cases e), k3⟩
end
end Go.Proofs.YtolpgpphjnkehaaGreatDoor
/- shadow: Meta; a state anew; Drop. -/
namespace Go.Proofs.YtolpgpphjnkehaaGreatDoor
set_option maxRecDepth 20000
open Go.RowKit Cac Dsk
open Pag (PM IntsO)
section
variable {w0 w w' : World} {X G : Nat → Prop} {nn most t : Nat} {a : Ad} {v : Sv} {D : DS} {Lc : List Fr}
theorem Spc.meta_ (h : Spc w0 w X nn most t a v D Lc) : Calls Tryz.prog 31 #[.pointer (some ⟨a.sp, 0, none⟩)] w fun e w' =>
    ∃ A' c', e = .returned (.slice A' v.M.length c') ∧ (v.M.length ≤ c' ∧ c' ≤ maxLen) ∧ Bytes w' A' v.M ∧ (∀ p : Addr, A' = some p → ∃ q, p = ⟨q, 0, none⟩ ∧ w.heap.size ≤ q ∧ q < w'.heap.size) ∧ (A' = none → v.M.length = 0 ∧ c' = 0) ∧ Below w.heap.size w w' := by
  obtain ⟨_, _, _, _, c13, _, _, _⟩ := h.told
  have H1 := Lib.hid (clone_gen a.A v.M.length a.c v.M w rfl (by have := h.m.mcap.2.2; omega) h.m.mby h.m.mA.1 h.m.mA.2)
  clear h
  obtain ⟨n, hn⟩ : ∃ n, v.M.length = n := ⟨_, rfl⟩
  rw [hn] at c13 H1 ⊢
  clear hn
  go_enter Tryz.func31, Tryz.ntmps31
  go_wp2_with fail
  refine H1.out.mono ?_
  rintro e w' ⟨A', c', rfl, k1⟩
  have HK := Lib.hid k1
  clear k1
  go_wp2_with fail
  go_ret
  exact ⟨A', c', rfl, HK.out⟩
theorem spRow_sg (dg cg ep pg og sg sg' : Nat) (P : List Nat) (mv : Value) (hP : P.length = 9) : (spRow dg cg ep pg og sg P mv).setIfInBounds 15 (.pointer (some ⟨sg', 0, none⟩)) = spRow dg cg ep pg og sg' P mv := by
  obtain ⟨p0, p1, p2, p3, p4, p5, p6, p7, p8, rfl⟩ : ∃ p0 p1 p2 p3 p4 p5 p6 p7 p8, P = [p0, p1, p2, p3, p4, p5, p6, p7, p8] := by
    match P, hP with
    | [p0, p1, p2, p3, p4, p5, p6, p7, p8], _ => exact ⟨p0, p1, p2, p3, p4, p5, p6, p7, p8, rfl⟩
  rfl
theorem spRow_og (dg cg ep pg og og' sg : Nat) (P : List Nat) (mv : Value) (hP : P.length = 9) : (spRow dg cg ep pg og sg P mv).setIfInBounds 14 (.pointer (some ⟨og', 0, none⟩)) = spRow dg cg ep pg og' sg P mv := by
  obtain ⟨p0, p1, p2, p3, p4, p5, p6, p7, p8, rfl⟩ : ∃ p0 p1 p2 p3 p4 p5 p6 p7 p8, P = [p0, p1, p2, p3, p4, p5, p6, p7, p8] := by
    match P, hP with
    | [p0, p1, p2, p3, p4, p5, p6, p7, p8], _ => exact ⟨p0, p1, p2, p3, p4, p5, p6, p7, p8, rfl⟩
  rfl
/-- A state anew, with what is the space's own turned. -/
theorem SpM.renew (h : SpM w nn a v) (ho : Off (fun k => k = a.og ∨ k = a.sp) w w') {og' sg' : Nat} {O' : List Nat} (hO : PM w' og' O') (hog : og' = a.og ∨ w.heap.size ≤ og') (hsg : w.heap.size ≤ sg') (hne : og' ≠ sg')
    (hs : Blk w' a.sp 128 (spRow a.dg a.cg v.ep a.pg og' sg' v.P (.slice a.A v.M.length a.c))) (hg : Blk w' sg' 126 #[.int .u32 0, .int .i32 0, .int .u32 0, .slice none 0 0]) :
    SpM w' nn { a with og := og', sg := sg' } { v with O := O', fr := false } ∧ ∀ k, ({ a with og := og', sg := sg' } : Ad).zn k → a.zn k ∨ (w.heap.size ≤ k ∧ k < w'.heap.size) := by
  have hsp := h.lt _ (.inl rfl)
  have hE : ∀ k, a.E k → w'.heap[k]? = w.heap[k]? := fun k e => ho.block k (h.lt k (.inr (.inr (.inr e)))) (fun e' => by
    rcases e' with e' | e'
    · exact h.ne.1.2.1 (e' ▸ e)
    · exact h.ne.1.1 (e' ▸ e))
  have hEl : ∀ k, a.E k → k < w.heap.size := fun k e => h.lt k (.inr (.inr (.inr e)))
  have hog1 : ¬ a.E og' ∧ a.sp ≠ og' := by
    rcases hog with rfl | hog
    · exact ⟨h.ne.1.2.1, h.ne.2.1⟩
    · exact ⟨fun e => by have := hEl _ e; omega, by omega⟩
  refine ⟨⟨hs, h.mby.same ho.size (fun p e _ => hE _ (h.mE p e)), h.mcap, h.mE, h.pl, h.plt, h.ep, h.pages.same (hE _ h.pE), h.pE, hO, ?_, ⟨⟨h.ne.1.1, hog1.1, fun e => by have h9 : sg' < w.heap.size := hEl _ e; omega⟩, hog1.2, (by show a.sp ≠ sg'; omega), hne⟩, fun k e => ?_, h.mA⟩, fun k e => ?_⟩
  · unfold St
    simp only [Bool.false_eq_true, if_false]
    exact hg
  · rcases e with e | e | e | e
    · have e : k = a.sp := e
      have := ho.size
      omega
    · have e : k = og' := e
      rw [e]; exact hO.blk.lt
    · have e : k = sg' := e
      rw [e]; exact hg.lt
    · exact Nat.lt_of_lt_of_le (hEl k e) ho.size
  · rcases e with e | e | e | e
    · exact .inl (.inl e)
    · have e : k = og' := e
      rcases hog with h1 | h1
      · exact .inl (.inr (.inl (e.trans h1)))
      · exact .inr ⟨by omega, by rw [e]; exact hO.blk.lt⟩
    · have e : k = sg' := e
      exact .inr ⟨by omega, by rw [e]; exact hg.lt⟩
    · exact .inl (.inr (.inr (.inr e)))
def dropE (O : List Nat) (p : Int) : Int := if 0 ≤ p ∧ p < 1024 then (if Pag.Pgs.clearB O p then 0 else 7) else 1
theorem clearL_out {O : List Nat} {p : Int} (h : ¬ (0 ≤ p ∧ p < 1024)) : Pag.Pgs.clearL O p = O := by
  unfold Pag.Pgs.clearL Pag.Pgs.clearB Pag.Pgs.got
  rw [if_neg h]
  rfl
theorem clearL_no {O : List Nat} {p : Int} (h : Pag.Pgs.clearB O p = false) : Pag.Pgs.clearL O p = O := by
  unfold Pag.Pgs.clearL
  rw [h]
  rfl
theorem offP {F : Nat → Prop} {w w' : World} (h : Pag.Off F w w') : Off F w w' := ⟨h.os, h.tape, h.output, h.size, h.block⟩
/-- A state anew is put in. -/
theorem Spc.restate (h : Spc w0 w X nn most t a v D Lc) {w1 : World} {O' : List Nat} (hP : PM w1 a.og O') (hO : Off (fun k => k = a.og) w w1) :
    Spc w0 ((w1.alloc (.cells #[.int .u32 0, .int .i32 0, .int .u32 0, .slice none 0 0] 126)).setCell ⟨a.sp, 15, none⟩ (.pointer (some ⟨w1.heap.size, 0, none⟩))) X nn most t { a with sg := w1.heap.size } { v with O := O', fr := false } D Lc ∧
    Keep X w ((w1.alloc (.cells #[.int .u32 0, .int .i32 0, .int .u32 0, .slice none 0 0] 126)).setCell ⟨a.sp, 15, none⟩ (.pointer (some ⟨w1.heap.size, 0, none⟩))) := by
  have hsp := h.m.lt _ (.inl rfl)
  have hog := h.m.lt _ (.inr (.inl rfl))
  have hs1 := hO.size
  have hb1 : Blk w1 a.sp 128 (spRow a.dg a.cg v.ep a.pg a.og a.sg v.P (.slice a.A v.M.length a.c)) := Blk.same h.m.head (hO.block _ hsp h.m.ne.2.1)
  have hb2 := (hb1.alloc (.cells #[.int .u32 0, .int .i32 0, .int .u32 0, .slice none 0 0] 126)).set_ 15 (.pointer (some ⟨w1.heap.size, 0, none⟩))
  rw [spRow_sg _ _ _ _ _ _ _ _ _ h.m.pl] at hb2
  have hO2 : Off (fun k => k = a.og ∨ k = a.sp) w ((w1.alloc (.cells #[.int .u32 0, .int .i32 0, .int .u32 0, .slice none 0 0] 126)).setCell ⟨a.sp, 15, none⟩ (.pointer (some ⟨w1.heap.size, 0, none⟩))) :=
    ((hO.mono (fun _ _ e => .inl e)).trans (Off.alloc _ _ _)).trans ((Off.setc _ _ _ _).mono (fun _ _ e => .inr e))
  have hPM : PM ((w1.alloc (.cells #[.int .u32 0, .int .i32 0, .int .u32 0, .slice none 0 0] 126)).setCell ⟨a.sp, 15, none⟩ (.pointer (some ⟨w1.heap.size, 0, none⟩))) a.og O' :=
    (hP.same (Below.heap_alloc w1 _ _ hP.blk.lt)).same (Below.heap_setCell _ _ _ _ (fun e => h.m.ne.2.1 (by have e2 : a.og = a.sp := e; exact e2.symm)))
  have hZ := (Blk.new w1 126 #[.int .u32 0, .int .i32 0, .int .u32 0, .slice none 0 0]).far (p := ⟨a.sp, 15, none⟩) (by show w1.heap.size ≠ a.sp; omega) (.pointer (some ⟨w1.heap.size, 0, none⟩))
  obtain ⟨q1, q2⟩ := h.m.renew hO2 (og' := a.og) (sg' := w1.heap.size) hPM (.inl rfl) hs1 (by omega) hb2 hZ
  exact h.turn hO2 (fun k e => by
    rcases e with e | e
    · exact .inr (.inl e)
    · exact .inl e) q1 q2 rfl rfl
theorem Spc.touch (h : Spc w0 w X nn most t a v D Lc) {w1 : World} (hP : PM w1 a.og v.O) (hO : Off (fun k => k = a.og) w w1) : Spc w0 w1 X nn most t a v D Lc ∧ Keep X w w1 := by
  have hm := h.m
  have hE : ∀ k, a.E k → w1.heap[k]? = w.heap[k]? := fun k e => hO.block k (hm.lt k (.inr (.inr (.inr e)))) (fun e' => hm.ne.1.2.1 (e' ▸ e))
  exact h.turn hO (fun k e => .inr (.inl e)) ⟨Blk.same hm.head (hO.block _ (hm.lt _ (.inl rfl)) hm.ne.2.1), hm.mby.same hO.size (fun p e _ => hE _ (hm.mE p e)), hm.mcap, hm.mE, hm.pl, hm.plt, hm.ep, hm.pages.same (hE _ hm.pE), hm.pE, hP,
    hm.st.same (hO.block _ (hm.lt _ (.inr (.inr (.inl rfl)))) (fun e => hm.ne.2.2.2 e.symm)) hE, hm.ne, fun k e => Nat.lt_of_lt_of_le (hm.lt k e) hO.size, hm.mA⟩ (fun k e => .inl e) rfl rfl
theorem Spc.drop (h : Spc w0 w X nn most t a v D Lc) (p : Int) : Calls Tryz.prog 49 #[.pointer (some ⟨a.sp, 0, none⟩), .int .i64 p] w fun e w' =>
    e = .returned (.int .i64 (dropE v.O p)) ∧ ∃ a' fr', Spc w0 w' X nn most t a' { v with O := Pag.Pgs.clearL v.O p, fr := fr' } D Lc ∧ Keep X w w' ∧ a'.sp = a.sp ∧ a'.dg = a.dg := by
  have H := Lib.hid h
  obtain ⟨_, _, _, _, _, c14, _, _⟩ := h.told
  have H1 := h.refusesPage p
  have H2 := Pag.clear_some a.og v.O p w h.m.own
  by_cases hp : 0 ≤ p ∧ p < 1024
  · have hr : refP p = 0 := by unfold refP; rw [if_pos hp]
    rw [hr] at H1
    have H1 := Lib.hid H1
    by_cases hc : Pag.Pgs.clearB v.O p = true
    · have hE : dropE v.O p = 0 := by unfold dropE; rw [if_pos hp, if_pos hc]
      rw [hc] at H2
      rw [hE]
      have H2 := Lib.hid H2
      have HC := Lib.hid hc
      clear h hp hr hE hc
      go_enter Tryz.func49, Tryz.ntmps49
      go_wp2_with fail
      refine H1.out.mono ?_
      rintro e w' ⟨rfl, rfl⟩
      go_wp2_with fail
      refine H2.out.mono ?_
      rintro e w1 ⟨rfl, k1, k2⟩
      replace k2 := offP k2
      have hb1 : Blk w1 a.sp 128 (spRow a.dg a.cg v.ep a.pg a.og a.sg v.P (.slice a.A v.M.length a.c)) := Blk.same H.out.m.head (k2.block _ (H.out.m.lt _ (.inl rfl)) H.out.m.ne.2.1)
      have hb2 := hb1.alloc (.cells #[.int .u32 0, .int .i32 0, .int .u32 0, .slice none 0 0] 126)
      have c2 := (hb2.cell 15).trans (spRow_high _ _ _ _ _ _ _ _ H.out.m.pl).2.2.2
      have f2 := hb2.frozen 15
      have HK := Lib.hid (And.intro k1 (And.intro k2 hb1))
      clear k1 k2 hb1 hb2
      go_wp2_with fail
      go_ret
      obtain ⟨z1, z2⟩ := H.out.restate HK.out.1 HK.out.2.1
      exact ⟨rfl, _, false, z1, z2, rfl, rfl⟩
    · have hc : Pag.Pgs.clearB v.O p = false := by simpa using hc
      have hE : dropE v.O p = 7 := by unfold dropE; rw [if_pos hp, hc]; rfl
      have hL := Lib.hid (clearL_no hc)
      rw [hc] at H2
      rw [hE]
      have H2 := Lib.hid H2
      clear h hp hr hE hc
      go_enter Tryz.func49, Tryz.ntmps49
      go_wp2_with fail
      refine H1.out.mono ?_
      rintro e w' ⟨rfl, rfl⟩
      go_wp2_with fail
      refine H2.out.mono ?_
      rintro e w1 ⟨rfl, k1, k2⟩
      replace k2 := offP k2
      have HK := Lib.hid (And.intro k1 k2)
      clear k1 k2
      go_wp2_with fail
      go_ret
      rw [hL.out]
      obtain ⟨q1, q2⟩ := HK.out
      rw [hL.out] at q1
      obtain ⟨z1, z2⟩ := H.out.touch q1 q2
      exact ⟨rfl, a, v.fr, z1, z2, rfl, rfl⟩
  · have hr : refP p = 1 := by unfold refP; rw [if_neg hp]
    have hE : dropE v.O p = 1 := by unfold dropE; rw [if_neg hp]
    have hL := Lib.hid (clearL_out (O := v.O) hp)
    rw [hr] at H1
    rw [hE]
    have H1 := Lib.hid H1
    clear h hp hr hE
    go_enter Tryz.func49, Tryz.ntmps49
    go_wp2_with fail
    refine H1.out.mono ?_
    rintro e w' ⟨rfl, rfl⟩
    go_wp2_with fail
    go_ret
    rw [hL.out]
    exact ⟨rfl, a, v.fr, H.out, Keep.of_below (Below.refl _ _) H.out.Xlt, rfl, rfl⟩
end
end Go.Proofs.YtolpgpphjnkehaaGreatDoor
/- shadow: a cache without pins; Read. -/
namespace Go.Proofs.YtolpgpphjnkehaaGreatDoor
set_option maxRecDepth 20000
open Go.RowKit Cac Dsk
open Pag (PM IntsO)
open Pag.Pgs (got setB setL)
/-- No frame is pinned, none is a root's. -/
def Calm (L : List Fr) : Prop := ∀ x ∈ L, x.pins = 0 ∧ 2 ≤ x.s
/-- A sector that is written, or will be. -/
def Tch (D : DS) (L : List Fr) (s : Nat) : Prop := (∃ p ∈ D.P, p.1 = s) ∨ ∃ x ∈ L, x.s = s ∧ x.dirty = true
/-- The same is read, and the same lasts. -/
structure Like (D : DS) (L : List Fr) (D' : DS) (L' : List Fr) : Prop where
  S : D'.S = D.S
  what_ : ∀ j, what D' L' j = what D L j
  calm : Calm L'
  tch : ∀ j, Tch D' L' j → Tch D L j
section
variable {nn most t s : Nat} {D D' : DS} {L L' : List Fr} {y : Fr} {b : List UInt8}
theorem calm_stuck (h : Calm L) (hm : 0 < most) : ¬ Stuck most L s := fun hs => by
  match L, h, hs.1 with
  | [], _, h1 => have := h1.1; simp at this; omega
  | x :: r, h, h1 => exact h1.2 x (by simp) (h x (by simp)).1
theorem outD_S (hst : Sta nn most t D L) {x : Fr} (hx : x ∈ L) : (outD D x).S = D.S := by
  unfold outD
  split
  · rw [hst.hale.writeD (hst.inn x hx).1 (hst.inn x hx).2.2]
  · rfl
theorem Room.S (h : Room most D L D' L') (hst : Sta nn most t D L) : D'.S = D.S := by
  rcases h with ⟨_, rfl, _⟩ | ⟨_, x, hx, _, rfl, _⟩
  · rfl
  · exact outD_S hst hx
theorem outD_tch (hst : Sta nn most t D L) {x : Fr} (hx : x ∈ L) {j : Nat} (h : Tch (outD D x) (delL x.s L) j) : Tch D L j := by
  rcases h with ⟨p, hp, e⟩ | ⟨y, hy, e⟩
  · unfold outD at hp
    split at hp
    · rename_i hd
      rw [hst.hale.writeD (hst.inn x hx).1 (hst.inn x hx).2.2] at hp
      rcases List.mem_append.1 hp with hp | hp
      · exact .inl ⟨p, hp, e⟩
      · rw [List.mem_singleton.1 hp] at e
        exact .inr ⟨x, hx, e, hd⟩
    · exact .inl ⟨p, hp, e⟩
  · exact .inr ⟨y, (delL_mem.1 hy).1, e⟩
theorem Room.tch (h : Room most D L D' L') (hst : Sta nn most t D L) {j : Nat} (hj : Tch D' L' j) : Tch D L j := by
  rcases h with ⟨_, rfl, rfl⟩ | ⟨_, x, hx, _, rfl, rfl⟩
  · exact hj
  · exact outD_tch hst hx hj
/-- What is not touched lasts as it is read. -/
theorem still (hst : Sta nn most t D L) {j : Nat} (h : ¬ Tch D L j) : readS D j = D.S.getD j [] ∧ what D L j = D.S.getD j [] := by
  have h1 : readS D j = D.S.getD j [] := by
    unfold readS
    rcases overlay_last j (D.S.getD j []) D.P with ⟨_, h2⟩ | ⟨k, _, _, h3⟩
    · exact h2
    · exact absurd (.inl ⟨_, List.mem_of_getElem? h3, rfl⟩) h
  refine ⟨h1, ?_⟩
  by_cases hx : ∃ x ∈ L, x.s = j
  · obtain ⟨x, hx, e⟩ := hx
    have hd : x.dirty = false := by
      cases hd : x.dirty
      · rfl
      · exact absurd (.inr ⟨x, hx, e, hd⟩) h
    have := what_yes (D := D) hst.nodup hx
    rw [e, hst.clean x hx hd, e, h1] at this
    exact this
  · rw [what_no (fun x hx' e => hx ⟨x, hx', e⟩), h1]
theorem Room.calm (h : Room most D L D' L') (hc : Calm L) : Calm L' := fun x hx => hc x (Room.sub h x hx)
theorem calm_updL {y : Fr} (h : Calm L) (hy : y.pins = 0 ∧ 2 ≤ y.s) : Calm (updL y L) := fun x hx => by
  rcases updL_mem hx with ⟨rfl, _⟩ | ⟨hx, _⟩
  · exact hy
  · exact h x hx
theorem brought_like (h : Brought most D L s D' L' y) (hst : Sta nn most t D L) (hs : s < nn) (h2 : 2 ≤ s) (hm : 0 < most) (hc : Calm L) : Like D L D' L' := by
  have hw := (h.sta hst hs hm).2.1
  rcases h with ⟨x, hx, e, ey, rfl, rfl⟩ | ⟨hno, L1, hr, ey, rfl⟩
  · refine ⟨rfl, hw, calm_updL hc (by rw [ey]; exact hc x hx), fun j hj => ?_⟩
    rcases hj with hj | ⟨z, hz, e1, e2⟩
    · exact .inl hj
    · rcases updL_mem hz with ⟨rfl, _⟩ | ⟨hz, _⟩
      · exact .inr ⟨x, hx, by rw [← e1, ey], by rw [← e2, ey]⟩
      · exact .inr ⟨z, hz, e1, e2⟩
  · refine ⟨Room.S hr hst, hw, fun z hz => by
      rcases List.mem_append.1 hz with hz | hz
      · exact Room.calm hr hc z hz
      · rw [List.mem_singleton.1 hz, ey]; exact ⟨rfl, h2⟩, fun j hj => ?_⟩
    rcases hj with hj | ⟨z, hz, e1, e2⟩
    · exact Room.tch hr hst (.inl hj)
    · rcases List.mem_append.1 hz with hz | hz
      · exact Room.tch hr hst (.inr ⟨z, hz, e1, e2⟩)
      · rw [List.mem_singleton.1 hz, ey] at e2
        cases e2
/-- A sector is turned, the same lasts. -/
structure Wr (D : DS) (L : List Fr) (s : Nat) (b : List UInt8) (D' : DS) (L' : List Fr) : Prop where
  S : D'.S = D.S
  what_ : ∀ j, what D' L' j = if j = s then b else what D L j
  calm : Calm L'
  tch : ∀ j, Tch D' L' j → Tch D L j ∨ j = s
theorem wrote_wr (h : Wrote most D L s b D' L' y) (hst : Sta nn most t D L) (hs : s < nn) (h2 : 2 ≤ s) (hm : 0 < most) (hb : b.length = 256) (hc : Calm L) : Wr D L s b D' L' := by
  have hw := (h.sta hst hs hm hb).2.1
  rcases h with ⟨x, hx, e, ey, rfl, rfl⟩ | ⟨hno, L1, hr, ey, rfl⟩
  · refine ⟨rfl, hw, calm_updL hc (by rw [ey]; exact hc x hx), fun j hj => ?_⟩
    rcases hj with hj | ⟨z, hz, e1, e2⟩
    · exact .inl (.inl hj)
    · rcases updL_mem hz with ⟨rfl, _⟩ | ⟨hz, _⟩
      · exact .inr (by rw [← e1, ey]; exact e)
      · exact .inl (.inr ⟨z, hz, e1, e2⟩)
  · refine ⟨Room.S hr hst, hw, fun z hz => by
      rcases List.mem_append.1 hz with hz | hz
      · exact Room.calm hr hc z hz
      · rw [List.mem_singleton.1 hz, ey]; exact ⟨rfl, h2⟩, fun j hj => ?_⟩
    rcases hj with hj | ⟨z, hz, e1, e2⟩
    · exact .inl (Room.tch hr hst (.inl hj))
    · rcases List.mem_append.1 hz with hz | hz
      · exact .inl (Room.tch hr hst (.inr ⟨z, hz, e1, e2⟩))
      · rw [List.mem_singleton.1 hz, ey] at e1
        exact .inr e1.symm
end
theorem tab_at {w0 w : World} (h : Blo.Tab w0) (hb : Below w0.heap.size w0 w) : Blo.Tab w := h.below hb
section
variable {w0 w w' : World} {X G : Nat → Prop} {nn most t : Nat} {a : Ad} {v : Sv} {D D' : DS} {Lc Lc' : List Fr}
/-- Behind something that the cache does. -/
theorem Spc.cached (h : Spc w0 w X nn most t a v D Lc) {u : Nat} {q : Nat → Prop} (hc : CS w0 w' (fun k => (X k ∨ a.zn k) ∨ q k) a.cg a.dg nn most u D' Lc') (hk : Keep (fun k => X k ∨ a.zn k) w w') (hq : ∀ k, q k → w.heap.size ≤ k) : Spc w0 w' (fun k => X k ∨ q k) nn most u a v D' Lc' ∧ Keep X w w' :=
  ⟨⟨hc.less (fun k e => by
      rcases e with (e | e) | e
      · exact .inl (.inl e)
      · exact .inr e
      · exact .inl (.inr e)), h.m.same hk.size (fun k e => hk.at_ k (.inr e)), fun k e => ⟨(h.far k e).1, fun hx => by
      rcases hx with hx | hx
      · exact (h.far k e).2 hx
      · have := hq k hx; have := h.m.lt k e; omega⟩⟩, hk.less (fun _ e => .inl e)⟩
/-- What Read answers, and what is behind it. -/
def RdTold (w0 w : World) (X : Nat → Prop) (nn most t : Nat) (a : Ad) (v : Sv) (D : DS) (Lc : List Fr) (p : Int) (e : Ending) (w' : World) : Prop :=
  ∃ D' Lc' Y, Spc w0 w' Y nn most (t + 1) a v D' Lc' ∧ Like D Lc D' Lc' ∧ Keep X w w' ∧ (∀ k, X k → Y k) ∧
    ((¬ (0 ≤ p ∧ p < 1024) ∧ e = .returned (.tuple #[.slice none 0 0, .int .i64 1])) ∨
     ((0 ≤ p ∧ p < 1024) ∧ got v.O p = 0 ∧ e = .returned (.tuple #[.slice none 0 0, .int .i64 7])) ∨
     ((0 ≤ p ∧ p < 1024) ∧ got v.O p ≠ 0 ∧ (∀ body, ¬ Blo.IsBlk (what D Lc (got v.O p)) 3 body) ∧ e = .returned (.tuple #[.slice none 0 0, .int .i64 9])) ∨
     ∃ body g, (0 ≤ p ∧ p < 1024) ∧ got v.O p ≠ 0 ∧ Blo.IsBlk (what D Lc (got v.O p)) 3 body ∧ e = .returned (.tuple #[.slice (some ⟨g, 0, none⟩) body.length body.length, .int .i64 0]) ∧ Blk w' g 5 (row8 body) ∧ w.heap.size ≤ g ∧ Y g)
theorem Spc.read (h : Spc w0 w X nn most t a v D Lc) (hT : Blo.Tab w0) (hc : Calm Lc) (ht : t < 900000) (p : Int) (hs : got v.O p ≠ 0 → 2 ≤ got v.O p ∧ got v.O p < nn) :
    Calls Tryz.prog 41 #[.pointer (some ⟨a.sp, 0, none⟩), .int .i64 p] w (RdTold w0 w X nn most t a v D Lc p) := by
  have H := Lib.hid (And.intro h hc)
  obtain ⟨_, c1, _, _, _, c14, _, _⟩ := h.told
  have H1 := h.refusesPage p
  have H2 := Pag.get_some a.og v.O p w h.m.own
  have HSame : Hid (Spc w0 w X nn most (t + 1) a v D Lc ∧ Like D Lc D Lc) := Lib.hid ⟨⟨h.cs.mono (Nat.le_succ _), h.m, h.far⟩, rfl, fun _ => rfl, hc, fun _ h => h⟩
  by_cases hp : 0 ≤ p ∧ p < 1024
  · have hr : refP p = 0 := by unfold refP; rw [if_pos hp]
    rw [hr] at H1
    have H1 := Lib.hid H1
    by_cases hg : got v.O p = 0
    · have H2 := Lib.hid H2
      rw [hg] at H2
      rw [show decide ((0 : Nat) ≠ 0) = false from rfl] at H2
      have HP := Lib.hid (And.intro hp hg)
      clear h hc hp hr hg hs c1
      go_enter Tryz.func41, Tryz.ntmps41
      go_wp2_with fail
      refine H1.out.mono ?_
      rintro e w' ⟨rfl, rfl⟩
      go_wp2_with fail
      refine H2.out.mono ?_
      rintro e w' ⟨rfl, rfl⟩
      go_wp2_with fail
      go_ret2
      exact ⟨D, Lc, X, HSame.out.1, HSame.out.2, Keep.of_below (Below.refl _ _) H.out.1.Xlt, fun _ e => e, .inr (.inl ⟨HP.out.1, HP.out.2, rfl⟩)⟩
    · rw [decide_eq_true hg] at H2
      have H2 := Lib.hid H2
      have H3 := Lib.hid (h.cs.read (hs hg).2 ht)
      have HP := Lib.hid (And.intro hp (And.intro hg (hs hg)))
      obtain ⟨sx, hsx⟩ : ∃ sx, got v.O p = sx := ⟨_, rfl⟩
      rw [hsx] at H2 H3
      have HSX := Lib.hid hsx
      clear h hc hp hr hg hs hsx
      go_enter Tryz.func41, Tryz.ntmps41
      go_wp2_with fail
      refine H1.out.mono ?_
      rintro e w' ⟨rfl, rfl⟩
      go_wp2_with fail
      refine H2.out.mono ?_
      rintro e w' ⟨rfl, rfl⟩
      go_wp2_with fail
      refine H3.out.mono ?_
      rintro e w1 (⟨rfl, k1, _⟩ | ⟨D', L', y, q, c, rfl, k1, k2, k3, k4, k5⟩)
      · exact absurd k1 (calm_stuck H.out.2 H.out.1.cs.pos)
      have hy : y.b = what D Lc sx := (k1.sta H.out.1.cs.st (by rw [← HSX.out]; exact HP.out.2.2.2) H.out.1.cs.pos).2.2.1
      have hlike := brought_like k1 H.out.1.cs.st (by rw [← HSX.out]; exact HP.out.2.2.2) (by rw [← HSX.out]; exact HP.out.2.2.1) H.out.1.cs.pos H.out.2
      have hsp := H.out.1.cached (q := fun k => k = q) k4 k5 (fun k e => by rw [e]; exact k3)
      have hop := Blo.open_any (some ⟨q, 0, none⟩) 256 c y.b w1 k2.long k2.bytes k2.le (tab_at hT k4.bel)
      rw [hy] at hop
      have HOP := Lib.hid hop
      have HK := Lib.hid (And.intro hlike (And.intro hsp k3))
      clear k1 k2 k3 k4 k5 hy hlike hsp hop
      go_wp2_with fail
      refine HOP.out.mono ?_
      rintro e w2 ⟨⟨k, body, g, z1, rfl, z2, z3⟩ | ⟨z1, rfl⟩, z4⟩
      · have hsp2 := HK.out.2.1.1.more z4 (fun j => (X j ∨ j = q) ∨ j = g) (fun j e => by
          rcases e with e | e
          · exact .inl e
          · exact .inr (by rw [e]; exact ⟨z2, Blk.lt z3⟩))
        have hkp : Keep X w w2 := HK.out.2.1.2.trans (Keep.of_below z4 (fun j e => HK.out.2.1.1.Xlt j (.inl e)))
        have hge : w.heap.size ≤ g := Nat.le_trans HK.out.2.1.2.size z2
        have HZ := Lib.hid (And.intro hsp2 (And.intro hkp (And.intro z3 (And.intro z1 hge))))
        by_cases hk : k = 3
        · subst hk
          clear z1 z2 z3 z4 hsp2 hkp hge
          go_wp2_with fail
          go_ret2
          exact ⟨D', L', _, HZ.out.1, HK.out.1, HZ.out.2.1, fun _ e => .inl (.inl e), .inr (.inr (.inr ⟨body, g, HP.out.1, HP.out.2.1, by rw [HSX.out]; exact HZ.out.2.2.2.1, rfl, HZ.out.2.2.1, HZ.out.2.2.2.2, .inr rfl⟩))⟩
        · have hd : ((k : Int) != 3) = true := by simp; omega
          have hd2 : ((k : Int) == 3) = false := by simp; omega
          have HKK := Lib.hid hk
          clear z1 z2 z3 z4 hsp2 hkp hge hk
          go_wp2_with fail
          go_ret2
          refine ⟨D', L', _, HZ.out.1, HK.out.1, HZ.out.2.1, fun _ e => .inl (.inl e), .inr (.inr (.inl ⟨HP.out.1, HP.out.2.1, fun b hb => ?_, rfl⟩))⟩
          rw [HSX.out] at hb
          exact HKK.out (Blo.isBlk_one HZ.out.2.2.2.1 hb).1
      · have hsp2 := HK.out.2.1.1.below z4
        have hkp : Keep X w w2 := HK.out.2.1.2.trans (Keep.of_below z4 (fun j e => HK.out.2.1.1.Xlt j (.inl e)))
        have HZ := Lib.hid (And.intro hsp2 (And.intro hkp z1))
        clear z1 z4 hsp2 hkp
        go_wp2_with fail
        go_ret2
        exact ⟨D', L', _, HZ.out.1, HK.out.1, HZ.out.2.1, fun _ e => .inl e, .inr (.inr (.inl ⟨HP.out.1, HP.out.2.1, fun b hb => HZ.out.2.2 3 b (by rw [HSX.out] at hb; exact hb), rfl⟩))⟩
  · have hr : refP p = 1 := by unfold refP; rw [if_neg hp]
    rw [hr] at H1
    have H1 := Lib.hid H1
    have HP := Lib.hid hp
    clear h hp hr hs H2 hc c1
    go_enter Tryz.func41, Tryz.ntmps41
    go_wp2_with fail
    refine H1.out.mono ?_
    rintro e w' ⟨rfl, rfl⟩
    go_wp2_with fail
    go_ret2
    exact ⟨D, Lc, X, HSame.out.1, HSame.out.2, Keep.of_below (Below.refl _ _) H.out.1.Xlt, fun _ e => e, .inl ⟨HP.out, rfl⟩⟩
end
end Go.Proofs.YtolpgpphjnkehaaGreatDoor
/- shadow: Write. -/
namespace Go.Proofs.YtolpgpphjnkehaaGreatDoor
set_option maxRecDepth 20000
open Go.RowKit Cac Dsk
open Pag (PM IntsO)
open Pag.Pgs (got setB setL)
/-- The block of a page. -/
def pageB (bs : List UInt8) : List UInt8 := Blo.blockOf 3 bs
theorem freeTo_mem {l : List Nat} {k j : Nat} : j ∈ freeTo l k ↔ j < k ∧ 2 ≤ j ∧ j ∉ l := by
  unfold freeTo
  rw [List.mem_filter, List.mem_range]
  simp
theorem freeL_lt {nn : Nat} {P L O : List Nat} {s : Nat} (h : s ∈ freeL nn P L O) : s < nn ∧ 2 ≤ s := by
  unfold freeL at h
  have := freeTo_mem.1 h
  exact ⟨this.1, this.2.1⟩
section
variable {w0 w w' : World} {X G : Nat → Prop} {nn most t : Nat} {a : Ad} {v : Sv} {D D' : DS} {Lc Lc' : List Fr}
/-- The cache writes, beside a space. -/
theorem Spc.cwrite (h : Spc w0 w X nn most t a v D Lc) (hc : Calm Lc) (ht : t < 900000) {s : Nat} (hs : s < nn) (h2 : 2 ≤ s) (gs : Nat) (bb : List UInt8) (hb : bb.length = 256) (hby : Bytes w (some ⟨gs, 0, none⟩) bb) (hg : X gs ∨ a.zn gs) :
    Calls Tryz.prog 96 #[.pointer (some ⟨a.cg, 0, none⟩), .int .i64 (s : Int), .slice (some ⟨gs, 0, none⟩) 256 256] w fun e w' =>
      e = .returned (.int .i64 0) ∧ ∃ D' L', Wr D Lc s bb D' L' ∧ Spc w0 w' X nn most (t + 1) a v D' L' ∧ Keep (fun k => X k ∨ a.zn k) w w' := by
  refine (h.cs.write (some ⟨gs, 0, none⟩) 256 256 bb hs ht hb (Nat.le_refl _) hby (fun p e => by cases e; exact hg)).mono ?_
  rintro e w2 (⟨rfl, q1, _⟩ | ⟨D', L', y, rfl, q1, q2, q3⟩)
  · exact absurd q1 (calm_stuck hc h.cs.pos)
  have hwr := wrote_wr q1 h.cs.st hs h2 h.cs.pos (filled_length _ _ (by omega)) hc
  rw [filled_full hb] at hwr
  have hsp := h.cached (q := fun _ => False) (q2.less (fun k e => e.elim id fun e => e.elim)) q3 (fun k e => e.elim)
  exact ⟨rfl, D', L', hwr, hsp.1.less (fun k e => .inl e), q3⟩
/-- What Write answers, and what is behind it. -/
def WrTold (w0 w : World) (X : Nat → Prop) (nn most t : Nat) (a : Ad) (v : Sv) (D : DS) (Lc : List Fr) (p : Int) (bs : List UInt8) (e : Ending) (w' : World) : Prop :=
  ∃ D' Lc' a' v', Spc w0 w' X nn most (t + 1) a' v' D' Lc' ∧ Keep X w w' ∧ a'.sp = a.sp ∧ a'.dg = a.dg ∧ Calm Lc' ∧
    ((e = .returned (.int .i64 1) ∧ (¬ (0 ≤ p ∧ p < 1024) ∨ 248 < bs.length) ∧ v' = v ∧ Like D Lc D' Lc') ∨
     ((0 ≤ p ∧ p < 1024) ∧ bs.length ≤ 248 ∧ trn v.O v.L p = true ∧ e = .returned (.int .i64 0) ∧ v' = v ∧ Wr D Lc (got v.O p) (pageB bs) D' Lc') ∨
     ((0 ≤ p ∧ p < 1024) ∧ bs.length ≤ 248 ∧ trn v.O v.L p = false ∧ (freeL nn v.P v.L v.O).length ≤ 18 ∧ e = .returned (.int .i64 6) ∧ v' = { v with fr := true } ∧ Like D Lc D' Lc') ∨
     ∃ s : Nat, (0 ≤ p ∧ p < 1024) ∧ bs.length ≤ 248 ∧ trn v.O v.L p = false ∧ 18 < (freeL nn v.P v.L v.O).length ∧ (freeL nn v.P v.L v.O)[0]? = some s ∧ e = .returned (.int .i64 0) ∧ v' = { v with O := setL v.O p (s : Int), fr := false } ∧ Wr D Lc s (pageB bs) D' Lc')
set_option maxHeartbeats 1000000 in
theorem Spc.write (h : Spc w0 w X nn most t a v D Lc) (hT : Blo.Tab w0) (hc : Calm Lc) (ht : t < 900000) (p : Int) (hs : got v.O p ≠ 0 → 2 ≤ got v.O p ∧ got v.O p < nn) (A : Option Addr) (len cap : Nat) (bs : List UInt8) (hlen : bs.length = len) (hby : Bytes w A bs) :
    Calls Tryz.prog 47 #[.pointer (some ⟨a.sp, 0, none⟩), .int .i64 p, .slice A len cap] w (WrTold w0 w X nn most t a v D Lc p bs) := by
  have H := Lib.hid (And.intro h hc)
  have H1 := h.refusesPage p
  have HSame : Hid (Spc w0 w X nn most (t + 1) a v D Lc ∧ Like D Lc D Lc) := Lib.hid ⟨⟨h.cs.mono (Nat.le_succ _), h.m, h.far⟩, rfl, fun _ => rfl, hc, fun _ h => h⟩
  by_cases hp : 0 ≤ p ∧ p < 1024
  · have hr : refP p = 0 := by unfold refP; rw [if_pos hp]
    rw [hr] at H1
    have H1 := Lib.hid H1
    by_cases hl : 248 < len
    · have H2 := Lib.hid (Blo.seal_no 3 A len cap w (by omega) (.inr hl))
      have HP := Lib.hid (show 248 < bs.length by omega)
      clear h hc hp hr hs hl hlen hby
      go_enter Tryz.func47, Tryz.ntmps47
      go_wp2_with fail
      refine H1.out.mono ?_
      rintro e w' ⟨rfl, rfl⟩
      go_wp2_with fail
      refine H2.out.mono ?_
      rintro e w' ⟨rfl, rfl⟩
      go_wp2_with fail
      go_ret
      exact ⟨D, Lc, a, v, HSame.out.1, Keep.of_below (Below.refl _ _) H.out.1.Xlt, rfl, rfl, H.out.2, .inl ⟨rfl, .inr HP.out, rfl, HSame.out.2⟩⟩
    · have H2 := Lib.hid (Blo.seal_yes 3 A len cap bs w (by omega) (by omega) hlen (by omega) hby (tab_at hT h.bel))
      have HP := Lib.hid (And.intro hp (And.intro (show bs.length ≤ 248 by omega) hs))
      cases htr : trn v.O v.L p with
      | true =>
        have HTR := Lib.hid htr
        have HG2 : Hid (2 ≤ got v.O p ∧ got v.O p < nn) := Lib.hid (hs (by unfold trn at htr; simp at htr; exact htr.1))
        clear h hc hp hr hs hl hlen hby htr
        go_enter Tryz.func47, Tryz.ntmps47
        go_wp2_with fail
        refine H1.out.mono ?_
        rintro e w' ⟨rfl, rfl⟩
        go_wp2_with fail
        refine H2.out.mono ?_
        rintro e w1 ⟨gs, rfl, k1, k2, k3⟩
        have hS1 := H.out.1.more k3 (fun k => X k ∨ k = gs) (fun k e => e.imp id fun e => by rw [e]; exact ⟨k1, Blk.lt k2⟩)
        have HTU := hS1.turned p
        rw [HTR.out] at HTU
        simp only [if_true] at HTU
        have HTU := Lib.hid HTU
        have HW := Lib.hid (hS1.cs.write (some ⟨gs, 0, none⟩) 256 256 (pageB bs) (s := got v.O p) HG2.out.2 ht (Blo.blockOf_length 3 bs HP.out.2.1) (Nat.le_refl _) (Bytes.row (t := 5) k2) (fun p e => by cases e; exact .inl (.inr rfl)))
        obtain ⟨_, c1, _, _, _, _, _, _⟩ := hS1.told
        have HK := Lib.hid (And.intro hS1 (H.out.1.keepB k3))
        obtain ⟨sx, hsx⟩ : ∃ sx, got v.O p = sx := ⟨_, rfl⟩
        rw [hsx] at HTU HW
        have HSX := Lib.hid hsx
        clear k1 k2 k3 hS1 hsx
        go_wp2_with fail
        refine HTU.out.mono ?_
        rintro e w' ⟨rfl, rfl⟩
        go_wp2_with fail
        refine HW.out.mono ?_
        rintro e w2 (⟨rfl, q1, _⟩ | ⟨D', L', y, rfl, q1, q2, q3⟩)
        · exact absurd q1 (calm_stuck H.out.2 H.out.1.cs.pos)
        have hwr := wrote_wr q1 HK.out.1.cs.st (by rw [← HSX.out]; exact HG2.out.2) (by rw [← HSX.out]; exact HG2.out.1) HK.out.1.cs.pos (filled_length _ _ (by rw [show (pageB bs).length = 256 from Blo.blockOf_length 3 bs HP.out.2.1]; exact Nat.le_refl _)) H.out.2
        rw [filled_full (show (pageB bs).length = 256 from Blo.blockOf_length 3 bs HP.out.2.1), ← HSX.out] at hwr
        have hsp := HK.out.1.cached (q := fun _ => False) (q2.less (fun k e => e.elim id fun e => e.elim)) q3 (fun k e => e.elim)
        have HZ := Lib.hid (And.intro hwr hsp)
        clear q1 q2 q3 hwr hsp
        go_wp2_with fail
        go_ret
        exact ⟨D', L', a, v, HZ.out.2.1.less (fun k e => .inl (.inl e)), HK.out.2.trans (HZ.out.2.2.less fun k e => .inl e), rfl, rfl, HZ.out.1.calm, .inr (.inl ⟨HP.out.1, HP.out.2.1, HTR.out, rfl, rfl, HZ.out.1⟩)⟩
      | false =>
        have HTR := Lib.hid htr
        clear h hc hp hr hs hl hlen hby htr
        go_enter Tryz.func47, Tryz.ntmps47
        go_wp2_with fail
        refine H1.out.mono ?_
        rintro e w' ⟨rfl, rfl⟩
        go_wp2_with fail
        refine H2.out.mono ?_
        rintro e w1 ⟨gs, rfl, k1, k2, k3⟩
        have hS1 := H.out.1.more k3 (fun k => X k ∨ k = gs) (fun k e => e.imp id fun e => by rw [e]; exact ⟨k1, Blk.lt k2⟩)
        have HTU := hS1.turned p
        rw [HTR.out] at HTU
        simp only [Bool.false_eq_true, if_false] at HTU
        have HTU := Lib.hid HTU
        have HFR := hS1.free
        have HK := Lib.hid (And.intro hS1 (And.intro (H.out.1.keepB k3) k2))
        obtain ⟨nf, hnf⟩ : ∃ nf, (freeL nn v.P v.L v.O).length = nf := ⟨_, rfl⟩
        rw [hnf] at HFR
        have HFR := Lib.hid HFR
        have HNF := Lib.hid hnf
        clear k1 k2 k3 hS1
        go_wp2_with fail
        refine HTU.out.mono ?_
        rintro e w' ⟨rfl, rfl⟩
        go_wp2_with fail
        refine HFR.out.mono ?_
        rintro e w2 ⟨Af, cf, rfl, q1, q2, q3, q4⟩
        by_cases hn18 : nf ≤ 18
        · have hd : decide ((nf : Int) ≤ 18) = true := by simp; omega
          have HZ := Lib.hid (And.intro q3 (And.intro q4 hn18))
          clear q1 q2 q3 q4 hn18 hnf
          go_wp2_with fail
          go_ret
          exact ⟨D, Lc, _, _, (show Spc w0 w2 X nn most (t + 1) _ _ D Lc from ⟨(HZ.out.1.less (Y := X) (fun _ e => .inl e)).cs.mono (Nat.le_succ _), HZ.out.1.m, (HZ.out.1.less (Y := X) (fun _ e => .inl e)).far⟩), HK.out.2.1.trans (HZ.out.2.1.less fun _ e => .inl e), rfl, rfl, H.out.2, .inr (.inr (.inl ⟨HP.out.1, HP.out.2.1, HTR.out, by rw [HNF.out]; exact HZ.out.2.2, rfl, rfl, HSame.out.2⟩))⟩
        · have hd : decide ((nf : Int) ≤ 18) = false := by simp; omega
          obtain ⟨s, hs0⟩ : ∃ s, (freeL nn v.P v.L v.O)[0]? = some s := ⟨_, List.getElem?_eq_getElem (by omega)⟩
          obtain ⟨gf, cf', ef, hgf, hcf⟩ := IntsO.get q1 0 s hs0
          simp only [Value.slice.injEq] at ef
          obtain ⟨e1, e2, e3⟩ := ef
          clear e2
          subst e1
          subst e3
          have hsn := freeL_lt (List.mem_of_getElem? hs0)
          have hEf := q2 _ rfl
          have hgs2 : Bytes w2 (some ⟨gs, 0, none⟩) (pageB bs) := (Bytes.row (t := 5) HK.out.2.2).same q4.size (fun p e _ => by cases e; exact q4.at_ gs (.inr rfl))
          have HW := Lib.hid (q3.drew.cwrite H.out.2 ht hsn.1 hsn.2 gs (pageB bs) (Blo.blockOf_length 3 bs HP.out.2.1) hgs2 (.inl (.inr rfl)))
          have c1 : w2.cell? ⟨a.sp, 1, none⟩ = some (.pointer (some ⟨a.cg, 0, none⟩)) := q3.told.2.1
          have c1d : w2.drew.cell? ⟨a.sp, 1, none⟩ = some (.pointer (some ⟨a.cg, 0, none⟩)) := c1
          have cfd : w2.drew.cell? ⟨gf, 0, none⟩ = some (.int .i64 (s : Int)) := hcf
          have HF2 : Hid (∀ w3, Keep (fun k => (X k ∨ k = gs) ∨ (a.grow w1 w2).zn k) w2.drew w3 → w3.cell? ⟨a.sp, 1, none⟩ = some (.pointer (some ⟨a.cg, 0, none⟩)) ∧ w3.cell? ⟨gf, 0, none⟩ = some (.int .i64 (s : Int))) := Lib.hid (fun w3 hk =>
            ⟨(World.cell?_of_block (a := ⟨a.sp, 1, none⟩) (hk.at_ _ (.inr (.inl rfl)))).trans c1d, (World.cell?_of_block (a := ⟨gf, 0, none⟩) (hk.at_ _ (.inr (.inr (.inr (.inr hEf)))))).trans cfd⟩)
          have HZ := Lib.hid (And.intro q3 (And.intro q4 (And.intro hs0 (And.intro hn18 hEf))))
          have hn0 : (0 : Int) < (nf : Int) := by omega
          have hn1 : 0 < nf := by omega
          clear q1 q2 q3 q4 hs0 hnf hgs2 hEf hsn hn18
          go_upto_region 13 with fail
          go_region_held3 (fun W => W.cell? ⟨a.sp, 1, none⟩ = some (.pointer (some ⟨a.cg, 0, none⟩)) ∧ W.cell? ⟨gf, 0, none⟩ = some (.int .i64 (s : Int)))
            (first | exact ⟨c1d, cfd⟩ | exact HF2.out _ r3)
            (first | (go_at_call 96; refine HW.out.mono ?_; rintro e w3 ⟨rfl, D', L', r1, r2, r3⟩))
          all_goals
            have hcf3 := (HF2.out _ r3).2
            have c14 := r2.told.2.2.2.2.2.1
            have HSET := Lib.hid (Pag.set_some a.og v.O p (s : Int) w3.drew r2.drew.m.own)
            have HF3 : Hid (∀ w4, Off (fun k => k = a.og) w3.drew w4 → w4.cell? ⟨a.sp, 14, none⟩ = some (.pointer (some ⟨a.og, 0, none⟩)) ∧ w4.cell? ⟨gf, 0, none⟩ = some (.int .i64 (s : Int))) := Lib.hid (fun w4 ho =>
              ⟨(World.cell?_of_block (a := ⟨a.sp, 14, none⟩) (ho.block _ (r2.m.lt _ (.inl rfl)) r2.m.ne.2.1)).trans c14, (World.cell?_of_block (a := ⟨gf, 0, none⟩) (ho.block _ (r2.m.lt _ (.inr (.inr (.inr HZ.out.2.2.2.2)))) (fun e => r2.m.ne.1.2.1 (e ▸ HZ.out.2.2.2.2)))).trans hcf3⟩)
            have c14d : w3.drew.cell? ⟨a.sp, 14, none⟩ = some (.pointer (some ⟨a.og, 0, none⟩)) := c14
            have cf3d : w3.drew.cell? ⟨gf, 0, none⟩ = some (.int .i64 (s : Int)) := hcf3
            have HY := Lib.hid (And.intro r1 (And.intro r2 r3))
            clear r1 r2 r3 c1d cfd HW HF2 c1 hcf
            go_upto_region 16 with fail
            go_region_held3 (fun W => W.cell? ⟨a.sp, 14, none⟩ = some (.pointer (some ⟨a.og, 0, none⟩)) ∧ W.cell? ⟨gf, 0, none⟩ = some (.int .i64 (s : Int)))
              (first | exact ⟨c14d, cf3d⟩ | exact HF3.out _ (offP t2))
              (first | (go_at_call 97; refine HSET.out.mono ?_; rintro e w4 ⟨rfl, t1, t2⟩))
            all_goals
              have hre := HY.out.2.1.drew.restate t1 (offP t2)
              have hb1 : Blk w4 a.sp 128 (spRow a.dg a.cg v.ep a.pg a.og a.sg v.P (.slice a.A v.M.length a.c)) := Blk.same HY.out.2.1.m.head ((offP t2).block _ (HY.out.2.1.m.lt _ (.inl rfl)) HY.out.2.1.m.ne.2.1)
              have hb2 := hb1.alloc (.cells #[.int .u32 0, .int .i32 0, .int .u32 0, .slice none 0 0] 126)
              have c2 := (hb2.cell 15).trans (spRow_high _ _ _ _ _ _ _ _ H.out.1.m.pl).2.2.2
              have f2 := hb2.frozen 15
              have HX := Lib.hid hre
              clear t1 t2 hre hb1 hb2 hcf3 c14 c14d cf3d
              go_wp2_with fail
              go_ret
              exact ⟨D', L', _, _, HX.out.1.less (fun _ e => .inl e), (HK.out.2.1.trans (HZ.out.2.1.less fun _ e => .inl e)).trans ((show Keep X w2 w3 from ⟨HY.out.2.2.size, fun k e => HY.out.2.2.at_ k (.inl (.inl e))⟩).trans ⟨HX.out.2.size, fun k e => HX.out.2.at_ k (.inl e)⟩), rfl, rfl, HY.out.1.calm, .inr (.inr (.inr ⟨s, HP.out.1, HP.out.2.1, HTR.out, by rw [HNF.out]; have := HZ.out.2.2.2.1; omega, HZ.out.2.2.1, rfl, rfl, HY.out.1⟩))⟩
  · have hr : refP p = 1 := by unfold refP; rw [if_neg hp]
    rw [hr] at H1
    have H1 := Lib.hid H1
    have HP := Lib.hid hp
    clear h hp hr hs hc hby hlen
    go_enter Tryz.func47, Tryz.ntmps47
    go_wp2_with fail
    refine H1.out.mono ?_
    rintro e w' ⟨rfl, rfl⟩
    go_wp2_with fail
    go_ret
    exact ⟨D, Lc, a, v, HSame.out.1, Keep.of_below (Below.refl _ _) H.out.1.Xlt, rfl, rfl, H.out.2, .inl ⟨rfl, .inl HP.out, rfl, HSame.out.2⟩⟩
end
end Go.Proofs.YtolpgpphjnkehaaGreatDoor
/- shadow: a root as bytes; body. -/
namespace Go.Proofs.YtolpgpphjnkehaaGreatDoor
set_option maxRecDepth 20000
open Go.RowKit Cac Dsk
open Pag (PM IntsO)
/-- A number's four bytes. -/
def le4 (n : Nat) : List UInt8 := (List.range 4).map fun i => UInt8.ofNat (n / 256 ^ i)
def magic : List UInt8 := [97, 117, 109, 49]
/-- A root as bytes. -/
def rootB (ep : Nat) (P : List Nat) (M : List UInt8) : List UInt8 := magic ++ le4 ep ++ Pag.Pgs.bytes2 P ++ M
/-- A root's cells. -/
structure RootAt (w : World) (rb ep : Nat) (P : List Nat) (A : Option Addr) (c : Nat) (M : List UInt8) : Prop where
  e : w.cell? ⟨rb, 0, none⟩ = some (.int .u32 (ep : Int))
  p : ∀ (i x : Nat), P[i]? = some x → w.cell? ⟨rb, 1 + i, none⟩ = some (.int .i64 (x : Int))
  m : w.cell? ⟨rb, 11, none⟩ = some (.slice A M.length c)
  by_ : Bytes w A M
  pl : P.length = 9
  lt : rb < w.heap.size ∧ ∀ p : Addr, A = some p → p.block < w.heap.size
theorem RootAt.same {w w' : World} {rb ep : Nat} {P : List Nat} {A : Option Addr} {c : Nat} {M : List UInt8} (h : RootAt w rb ep P A c M) (hs : w.heap.size ≤ w'.heap.size) (h1 : w'.heap[rb]? = w.heap[rb]?) (h2 : ∀ p : Addr, A = some p → w'.heap[p.block]? = w.heap[p.block]?) : RootAt w' rb ep P A c M :=
  ⟨(World.cell?_of_block (a := ⟨rb, 0, none⟩) h1).trans h.e, fun i x hx => (World.cell?_of_block (a := ⟨rb, 1 + i, none⟩) h1).trans (h.p i x hx), (World.cell?_of_block (a := ⟨rb, 11, none⟩) h1).trans h.m, h.by_.same hs (fun p e _ => h2 p e), h.pl, ⟨Nat.lt_of_lt_of_le h.lt.1 hs, fun p e => Nat.lt_of_lt_of_le (h.lt.2 p e) hs⟩⟩
theorem RootAt.below {w w' : World} {rb ep : Nat} {P : List Nat} {A : Option Addr} {c : Nat} {M : List UInt8} (h : RootAt w rb ep P A c M) (hb : Below w.heap.size w w') : RootAt w' rb ep P A c M := h.same hb.size (hb.block _ h.lt.1) (fun p e => hb.block _ (h.lt.2 p e))
/-- Between the rounds: what was written so far. -/
structure BdI (w wr : World) (v : Value) (bs : List UInt8) : Prop where
  rw_ : ∃ g c, v = .slice (some ⟨g, 0, none⟩) bs.length c ∧ Rw wr g bs.length c bs ∧ w.heap.size ≤ g
  bel : Below w.heap.size w wr
theorem BdI.push {w wr : World} {v : Value} {bs : List UInt8} (h : BdI w wr v bs) (xs : List UInt8) (hl : bs.length + xs.length ≤ 4096) :
    ∃ g c v' w', v = .slice (some ⟨g, 0, none⟩) bs.length c ∧ (Builtin.append_ #[32, 32] 32 #[.slice (some ⟨g, 0, none⟩) bs.length c, .slice (some ⟨wr.heap.size, 0, none⟩) xs.length xs.length]).run Tryz.prog (wr.alloc (.cells (row8 xs) 5)) = .ok v' w' ∧ BdI w w' v' (bs ++ xs) := by
  obtain ⟨g, c, rfl, h1, h2⟩ := h.rw_
  have hb : Below wr.heap.size wr (wr.alloc (.cells (row8 xs) 5)) := (Below.refl _ _).alloc (Nat.le_refl _) _
  have hblk := Blk.new wr 5 (row8 xs)
  obtain ⟨g', c', w', hr, k1, k2, k3, k4, k5⟩ := run_rwapp (h1.below hb) wr.heap.size 0 xs.length xs.length rfl (fun j u hu => by rw [Nat.zero_add]; exact (hblk.cell j).trans (row8_get j u hu)) (by omega)
  refine ⟨g, c, _, w', rfl, hr, ⟨⟨g', c', by rw [List.length_append], by rw [List.length_append]; exact k1, ?_⟩, ?_⟩⟩
  · rcases k3 with ⟨rfl, _⟩ | rfl
    · exact h2
    · have := h.bel.size; have := hb.size; omega
  · exact (h.bel.trans (hb.mono h.bel.size)).trans (k5 _ h2)
theorem run_appnil {w : World} {g len cap : Nat} {cs : List UInt8} (h : Rw w g len cap cs) : (Builtin.append_ #[32, 32] 32 #[.slice (some ⟨g, 0, none⟩) len cap, .slice none 0 0]).run Tryz.prog w = .ok (.slice (some ⟨g, 0, none⟩) len cap) w := by
  obtain ⟨i0, hi, hz0, hz1, hz2⟩ := info_parts Tryz.info8
  have hs : Src Tryz.prog 1 32 (.slice none 0 0) 0 [] w := Src.ofNil w Tryz.underlying32 0
  rw [← hz1] at hs
  have hr := run_append_room_src (P := Tryz.prog) w 32 32 32 5 i0 Tryz.underlying32 hi g 0 len cap _ 0 _ hs (by have := h.le; omega) (fun j hj => by simp at hj) (fun j hj => by simp at hj)
  have e : w.setCells g (len * i0.size) [] = w := rfl
  simpa [e] using hr
/-- And bytes that lie somewhere. -/
theorem BdI.pushA {w wr : World} {v : Value} {bs : List UInt8} (h : BdI w wr v bs) (A : Option Addr) (n c' : Nat) (xs : List UInt8) (hn : xs.length = n) (hA : Bytes wr A xs) (h0 : A = none → n = 0 ∧ c' = 0) (h1 : ∀ p : Addr, A = some p → ∃ g o, p = ⟨g, o, none⟩) (hl : bs.length + n ≤ 4096) :
    ∃ g c v' w', v = .slice (some ⟨g, 0, none⟩) bs.length c ∧ (Builtin.append_ #[32, 32] 32 #[.slice (some ⟨g, 0, none⟩) bs.length c, .slice A n c']).run Tryz.prog wr = .ok v' w' ∧ BdI w w' v' (bs ++ xs) := by
  rcases A with _ | p
  · obtain ⟨rfl, rfl⟩ := h0 rfl
    obtain rfl : xs = [] := List.eq_nil_of_length_eq_zero hn
    have h9 := h
    obtain ⟨g, c, rfl, k1, k2⟩ := h.rw_
    exact ⟨g, c, _, wr, rfl, run_appnil k1, by rw [List.append_nil]; exact h9⟩
  · obtain ⟨b, off, rfl⟩ := h1 p rfl
    obtain ⟨g, c, rfl, k1, k2⟩ := h.rw_
    have hxx : ∀ j u, xs[j]? = some u → wr.cell? ⟨b, off + j, none⟩ = some (bv u) := fun j u hu => by
      obtain ⟨b', off', e, _, hc⟩ := hA j u hu
      cases e
      exact hc
    obtain ⟨g', cc, w', hr, q1, q2, q3, q4, q5⟩ := run_rwapp (c := c') k1 b off n hn hxx (by omega)
    refine ⟨g, c, _, w', rfl, hr, ⟨⟨g', cc, by rw [List.length_append, hn], by rw [List.length_append, hn]; exact q1, ?_⟩, h.bel.trans (q5 _ k2)⟩⟩
    rcases q3 with ⟨rfl, _⟩ | rfl
    · exact k2
    · exact h.bel.size
theorem run_idx9 {Z : Array Value} {k : Nat} {x : Nat} (hk : k < 9) (h : Z[k]? = some (.int .i64 (x : Int))) (w : World) :
    (Instr.index 105 (.agg Z) (.int .i64 (k : Int))).run Tryz.prog w = .ok (.int .i64 (x : Int)) w := by
  have hI : (Tryz.prog.info? 3).map (fun i => (i.zero, i.size, i.bytes)) = some (some (.int .i64 0), 1, 8) := by kernel_rfl
  obtain ⟨i0, hi, _, hz1, _⟩ := info_parts hI
  have hp : (part 3 Z (k * 1)).run Tryz.prog w = .ok (.int .i64 (x : Int)) w := by
    rw [Nat.mul_one]
    exact run_part_plain w (by kernel_rfl) h
  rw [Nat.mul_one] at hp
  simp [Instr.index, asIntOf, run_underlying Tryz.underlying105, sizeOf, typeInfo, hi, hz1, hp, hk]
theorem bytes2_take (P : List Nat) {j x : Nat} (h : P[j]? = some x) : Pag.Pgs.bytes2 (P.take (j + 1)) = Pag.Pgs.bytes2 (P.take j) ++ [UInt8.ofNat x, UInt8.ofNat (x / 256)] := by
  obtain ⟨hj, e⟩ := List.getElem?_eq_some_iff.1 h
  rw [List.take_succ_eq_append_getElem hj, e]
  unfold Pag.Pgs.bytes2
  rw [List.flatMap_append]
  simp
theorem bytes2_len (P : List Nat) : (Pag.Pgs.bytes2 P).length = 2 * P.length := by
  unfold Pag.Pgs.bytes2
  induction P with
  | nil => rfl
  | cons x r ih => rw [List.flatMap_cons, List.length_append, ih]; simp; omega
theorem lit4 (w wL : World) (hwL : w.alloc (.cells #[.int .u8 97, .int .u8 117, .int .u8 109, .int .u8 49] 5 (4, 5)) = wL) : BdI w wL (.slice (some ⟨w.heap.size, 0, none⟩) 4 4) magic := by
  subst hwL
  have hc : ∀ j, (w.alloc (.cells #[.int .u8 97, .int .u8 117, .int .u8 109, .int .u8 49] 5 (4, 5))).cell? ⟨w.heap.size, j, none⟩ = (#[.int .u8 97, .int .u8 117, .int .u8 109, .int .u8 49] : Array Value)[j]? := fun j => World.cell?_alloc_mark w _ _ _ j
  have hlt : w.heap.size < (w.alloc (.cells #[.int .u8 97, .int .u8 117, .int .u8 109, .int .u8 49] 5 (4, 5))).heap.size := by simp
  refine ⟨⟨w.heap.size, 4, rfl, ⟨hlt, rfl, Nat.le_refl _, by decide, fun j c hj => ?_, fun j hj => ?_⟩, Nat.le_refl _⟩, (Below.refl _ _).alloc (Nat.le_refl _) _⟩
  · rw [hc j]
    have h1 := row8_get j c hj
    exact h1
  · rw [hc j]
    refine ⟨?_, ?_⟩
    · match j, hj with
      | 0, _ => rfl
      | 1, _ => rfl
      | 2, _ => rfl
      | 3, _ => rfl
      | n + 4, h => have : n + 4 < 4 := h; omega
    · rw [World.frozen?_alloc_mark]
      have h4 : j < 4 := hj
      have : decide (4 ≤ j) = false := by simp; omega
      rw [this]; rfl
theorem le4_len (n : Nat) : (le4 n).length = 4 := by unfold le4; simp
theorem le4_take (n k : Nat) (hk : k < 4) : (le4 n).take (k + 1) = (le4 n).take k ++ [UInt8.ofNat (n / 256 ^ k)] := by
  rw [List.take_succ_eq_append_getElem (by rw [le4_len]; exact hk)]
  congr 2
  unfold le4
  simp
theorem byte_at_ (n k : Nat) : (n : Int) / 2 ^ (8 * k) % 256 = ((UInt8.ofNat (n / 256 ^ k)).toNat : Int) := by
  have e : (2 : Int) ^ (8 * k) = ((256 ^ k : Nat) : Int) := by
    rw [Int.pow_mul]
    push_cast
    rfl
  rw [e, UInt8.toNat_ofNat']
  norm_cast
theorem root_body (rb ep c : Nat) (P : List Nat) (A : Option Addr) (M : List UInt8) (w : World) (h : RootAt w rb ep P A c M) (_hep : ep < 4294967296) (hP : ∀ x ∈ P, x < 65536) (hM : M.length ≤ 200) (hA0 : A = none → M.length = 0 ∧ c = 0) (hA1 : ∀ p : Addr, A = some p → ∃ g o, p = ⟨g, o, none⟩) :
    Calls Tryz.prog 160 #[.pointer (some ⟨rb, 0, none⟩)] w fun e w' => ∃ g c', e = .returned (.slice (some ⟨g, 0, none⟩) (rootB ep P M).length c') ∧ Rw w' g (rootB ep P M).length c' (rootB ep P M) ∧ w.heap.size ≤ g ∧ Below w.heap.size w w' := by
  have hcv := Lib.run_convert_bytes_const (P := Tryz.prog) w 32 5 #[.int .u8 97, .int .u8 117, .int .u8 109, .int .u8 49] 4 4 Tryz.underlying32 Tryz.underlying5
  have HI0 : Hid (BdI w (w.alloc (.cells #[.int .u8 97, .int .u8 117, .int .u8 109, .int .u8 49] 5 (4, 5))) (.slice (some ⟨w.heap.size, 0, none⟩) 4 4) (magic ++ (le4 ep).take 0)) := Lib.hid (by
    rw [List.take_zero, List.append_nil]
    exact lit4 w _ rfl)
  have H := Lib.hid h
  clear h
  go_enter Tryz.func160, Tryz.ntmps160
  go_wp2_with fail
  go_loopw [3, 4, 9] (fun bv_ _ iv wr => ∃ k : Nat, k ≤ 4 ∧ iv = .int .i64 (k : Int) ∧ Hid (BdI w wr bv_ (magic ++ (le4 ep).take k))) (fun _ _ iv _ => 4 - (intOf iv).toNat)
  case atStart => exact ⟨0, Nat.zero_le _, rfl, HI0⟩
  case round =>
    clear HI0
    obtain ⟨k, hk, rfl, hI⟩ := hrel
    by_cases hlt : k < 4
    · have hd : decide ((k : Int) < 4) = true := by simp; omega
      have hrt := (H.out.same (w' := wr) hI.out.bel.size (hI.out.bel.block _ H.out.lt.1) (fun p e => hI.out.bel.block _ (H.out.lt.2 p e)))
      have c0 := hrt.e
      obtain ⟨g, c', v', w5, rfl, HRUN, hI2⟩ := hI.out.push [UInt8.ofNat (ep / 256 ^ k)] (by simp [magic, le4_len]; omega)
      rw [List.append_assoc, ← le4_take ep k hlt] at hI2
      have hrow : row8 [UInt8.ofNat (ep / 256 ^ k)] = #[.int .u8 ((ep : Int) / 2 ^ (8 * k) % 256)] := by
        rw [byte_at_]; rfl
      rw [hrow] at HRUN
      obtain ⟨n, hn⟩ : ∃ n, (magic ++ (le4 ep).take k).length = n := ⟨_, rfl⟩
      rw [hn] at HRUN ⊢
      have HRUN := Lib.hid HRUN
      have HI2 := Lib.hid hI2
      clear hI hI2 hrt hrow hn
      go_wp2_with (at_builtin; refine wpList_app rfl _ _ 32 rfl _ _ _ _ rfl rfl HRUN.out ?_; clear HRUN)
      go_roundw
      case rel => exact ⟨k + 1, by omega, by go_num, HI2⟩
      case measure => simp [intOf]; omega
    · have hd : decide ((k : Int) < 4) = false := by simp; omega
      have hrt := (H.out.same (w' := wr) hI.out.bel.size (hI.out.bel.block _ H.out.lt.1) (fun p e => hI.out.bel.block _ (H.out.lt.2 p e)))
      have HJ0 : Hid (BdI w wr u3 (magic ++ le4 ep ++ Pag.Pgs.bytes2 (P.take 0))) := Lib.hid (by
        have h9 := hI.out
        have hk4 : k = 4 := by omega
        rw [hk4, List.take_of_length_le (by rw [le4_len]; exact Nat.le_refl _)] at h9
        simpa [Pag.Pgs.bytes2] using h9)
      obtain ⟨p0, p1, p2, p3, p4, p5, p6, p7, p8, hPP⟩ : ∃ p0 p1 p2 p3 p4 p5 p6 p7 p8, P = [p0, p1, p2, p3, p4, p5, p6, p7, p8] := by
        match P, H.out.pl with
        | [p0, p1, p2, p3, p4, p5, p6, p7, p8], _ => exact ⟨p0, p1, p2, p3, p4, p5, p6, p7, p8, rfl⟩
      have c1 : wr.cell? ⟨rb, 1, none⟩ = some (.int .i64 (p0 : Int)) := hrt.p 0 p0 (by rw [hPP]; rfl)
      have c2 : wr.cell? ⟨rb, 2, none⟩ = some (.int .i64 (p1 : Int)) := hrt.p 1 p1 (by rw [hPP]; rfl)
      have c3 : wr.cell? ⟨rb, 3, none⟩ = some (.int .i64 (p2 : Int)) := hrt.p 2 p2 (by rw [hPP]; rfl)
      have c4 : wr.cell? ⟨rb, 4, none⟩ = some (.int .i64 (p3 : Int)) := hrt.p 3 p3 (by rw [hPP]; rfl)
      have c5 : wr.cell? ⟨rb, 5, none⟩ = some (.int .i64 (p4 : Int)) := hrt.p 4 p4 (by rw [hPP]; rfl)
      have c6 : wr.cell? ⟨rb, 6, none⟩ = some (.int .i64 (p5 : Int)) := hrt.p 5 p5 (by rw [hPP]; rfl)
      have c7 : wr.cell? ⟨rb, 7, none⟩ = some (.int .i64 (p6 : Int)) := hrt.p 6 p6 (by rw [hPP]; rfl)
      have c8 : wr.cell? ⟨rb, 8, none⟩ = some (.int .i64 (p7 : Int)) := hrt.p 7 p7 (by rw [hPP]; rfl)
      have c9 : wr.cell? ⟨rb, 9, none⟩ = some (.int .i64 (p8 : Int)) := hrt.p 8 p8 (by rw [hPP]; rfl)
      have HPP : Hid (∀ (i x : Nat), P[i]? = some x → (#[Value.int .i64 (p0 : Int), .int .i64 (p1 : Int), .int .i64 (p2 : Int), .int .i64 (p3 : Int), .int .i64 (p4 : Int), .int .i64 (p5 : Int), .int .i64 (p6 : Int), .int .i64 (p7 : Int), .int .i64 (p8 : Int)] : Array Value)[i]? = some (.int .i64 (x : Int))) := Lib.hid (fun i x hx => by
        rw [hPP] at hx
        have hi := (List.getElem?_eq_some_iff.1 hx).1
        match i, hi, hx with
        | 0, _, hx => cases hx; rfl
        | 1, _, hx => cases hx; rfl
        | 2, _, hx => cases hx; rfl
        | 3, _, hx => cases hx; rfl
        | 4, _, hx => cases hx; rfl
        | 5, _, hx => cases hx; rfl
        | 6, _, hx => cases hx; rfl
        | 7, _, hx => cases hx; rfl
        | 8, _, hx => cases hx; rfl)
      generalize hz : (k : Int) = z at hd ⊢
      clear hI hk hlt hPP hrt hz
      go_upto_block 8 with fail
      obtain ⟨Z, hZ⟩ : ∃ Z, (#[Value.int .i64 (p0 : Int), .int .i64 (p1 : Int), .int .i64 (p2 : Int), .int .i64 (p3 : Int), .int .i64 (p4 : Int), .int .i64 (p5 : Int), .int .i64 (p6 : Int), .int .i64 (p7 : Int), .int .i64 (p8 : Int)] : Array Value) = Z := ⟨_, rfl⟩
      rw [hZ] at HPP ⊢
      have hZs : Z.size = 9 := by rw [← hZ]; rfl
      clear hZ c1 c2 c3 c4 c5 c6 c7 c8 c9
      go_loopw [3, 6, 28] (fun bv_ _ iv wr => ∃ k : Nat, k ≤ 9 ∧ iv = .int .i64 (k : Int) ∧ Hid (BdI w wr bv_ (magic ++ le4 ep ++ Pag.Pgs.bytes2 (P.take k)))) (fun _ _ iv _ => 9 - (intOf iv).toNat)
      case atStart => exact ⟨0, Nat.zero_le _, rfl, HJ0⟩
      case round =>
        clear HJ0
        obtain ⟨j, hj, rfl, hJ⟩ := hrel
        by_cases hlt : j < 9
        · have hd2 : decide ((j : Int) < 9) = true := by simp; omega
          obtain ⟨x, hx⟩ : ∃ x, P[j]? = some x := ⟨_, List.getElem?_eq_getElem (by rw [H.out.pl]; exact hlt)⟩
          have hzx := HPP.out j x hx
          have hx16 := hP x (List.mem_of_getElem? hx)
          have hidx := run_idx9 hlt hzx wr
          obtain ⟨g, c', v', w5, rfl, HRUN, hJ2⟩ := hJ.out.push [UInt8.ofNat x, UInt8.ofNat (x / 256)] (by rw [List.length_append, bytes2_len, List.length_take]; simp [magic, le4_len]; omega)
          rw [List.append_assoc, ← bytes2_take P hx] at hJ2
          have hrow : row8 [UInt8.ofNat x, UInt8.ofNat (x / 256)] = #[.int .u8 ((x : Int) % 256), .int .u8 ((x : Int) / 256)] := by
            show #[Value.int .u8 ((UInt8.ofNat x).toNat : Int), .int .u8 ((UInt8.ofNat (x / 256)).toNat : Int)] = _
            rw [UInt8.toNat_ofNat', UInt8.toNat_ofNat', Nat.mod_eq_of_lt (show x / 256 < 2 ^ 8 by omega)]
            norm_cast
          rw [hrow] at HRUN
          obtain ⟨n, hn⟩ : ∃ n, (magic ++ le4 ep ++ Pag.Pgs.bytes2 (P.take j)).length = n := ⟨_, rfl⟩
          rw [hn] at HRUN ⊢
          have HRUN := Lib.hid HRUN
          have HJ2 := Lib.hid hJ2
          clear hJ hJ2 hrow hn hzx
          go_wp2_with (at_builtin; refine wpList_app rfl _ _ 32 rfl _ _ _ _ rfl rfl HRUN.out ?_; clear HRUN)
          go_roundw
          case rel => exact ⟨j + 1, by omega, by go_num, HJ2⟩
          case measure => simp [intOf]; omega
        · have hd2 : decide ((j : Int) < 9) = false := by simp; omega
          have hrt := (H.out.same (w' := wr) hJ.out.bel.size (hJ.out.bel.block _ H.out.lt.1) (fun p e => hJ.out.bel.block _ (H.out.lt.2 p e)))
          have h9 := hJ.out
          rw [List.take_of_length_le (by rw [H.out.pl]; omega)] at h9
          have hl9 : (magic ++ le4 ep ++ Pag.Pgs.bytes2 P).length = 26 := by rw [List.length_append, bytes2_len, H.out.pl]; simp [magic, le4_len]
          obtain ⟨g, c', v', w5, rfl, HRUN, hJ2⟩ := h9.pushA A M.length c M rfl hrt.by_ hA0 hA1 (by omega)
          have cm := hrt.m
          rw [hl9] at HRUN
          obtain ⟨g2, c2, rfl, r1, r2⟩ := hJ2.rw_
          have HRUN := Lib.hid HRUN
          have HE := Lib.hid (And.intro r1 (And.intro r2 hJ2.bel))
          obtain ⟨m, hm⟩ : ∃ m, M.length = m := ⟨_, rfl⟩
          obtain ⟨q, hq⟩ : ∃ q, (magic ++ le4 ep ++ Pag.Pgs.bytes2 P ++ M).length = q := ⟨_, rfl⟩
          have HQ := Lib.hid hq
          rw [hm] at cm HRUN
          rw [hl9]
          rw [hq] at HRUN
          clear hJ hrt h9 hl9 hJ2 r1 r2 hm hq hM hA0 hA1
          go_wp2_with (at_builtin; refine wpList_app rfl _ _ 32 rfl _ _ _ _ rfl rfl HRUN.out ?_; clear HRUN)
          go_ret
          unfold rootB
          rw [HQ.out]
          have h8 := HE.out
          rw [HQ.out] at h8
          exact ⟨g2, c2, rfl, h8.1, h8.2.1, h8.2.2⟩
end Go.Proofs.YtolpgpphjnkehaaGreatDoor
/- shadow: a root is published: write; Format. -/
namespace Go.Proofs.YtolpgpphjnkehaaGreatDoor
set_option maxRecDepth 20000
open Go.RowKit Cac Dsk
open Pag (PM IntsO)
/-- A root's block. -/
def rootBlk (ep : Nat) (P : List Nat) (M : List UInt8) : List UInt8 := Blo.blockOf 1 (rootB ep P M)
theorem rootB_len (ep : Nat) (P : List Nat) (M : List UInt8) (hP : P.length = 9) : (rootB ep P M).length = 26 + M.length := by
  unfold rootB
  rw [List.length_append, List.length_append, bytes2_len, hP]
  simp [magic, le4_len]
theorem rootBlk_len (ep : Nat) (P : List Nat) (M : List UInt8) (hP : P.length = 9) (hM : M.length ≤ 200) : (rootBlk ep P M).length = 256 := Blo.blockOf_length 1 _ (by rw [rootB_len ep P M hP]; omega)
/-- The disk behind a root that is published. -/
def rootD (D : DS) (ep : Nat) (P : List Nat) (M : List UInt8) : DS := barD (writeD D ((ep % 2 : Nat) : Int) (rootBlk ep P M))
section
variable {w0 w w' : World} {X : Nat → Prop} {dg nn t : Nat} {D : DS}
theorem rootD_hale (h : Hale nn t D) (hn : 16 ≤ nn) (ep : Nat) (P : List Nat) (M : List UInt8) (hP : P.length = 9) (hM : M.length ≤ 200) : Hale nn (t + 2) (rootD D ep P M) := (h.write (by omega) (rootBlk_len ep P M hP hM)).bar
theorem rootD_read (h : Hale nn t D) (hn : 16 ≤ nn) (ep : Nat) (P : List Nat) (M : List UInt8) (hP : P.length = 9) (hM : M.length ≤ 200) (j : Nat) : readS (rootD D ep P M) j = (if j = ep % 2 then rootBlk ep P M else readS D j) ∧ (rootD D ep P M).S.getD j [] = (if j = ep % 2 then rootBlk ep P M else readS D j) := by
  have hw := h.write (s := ep % 2) (by omega) (rootBlk_len ep P M hP hM)
  have h1 := hw.barR j
  have h2 := hw.barS j
  have h3 := h.writeR (s := ep % 2) (by omega) (rootBlk_len ep P M hP hM) j
  have e : (if ep % 2 = j then rootBlk ep P M else readS D j) = if j = ep % 2 then rootBlk ep P M else readS D j := by
    by_cases hj : j = ep % 2
    · rw [if_pos hj, if_pos hj.symm]
    · rw [if_neg hj, if_neg (fun x => hj x.symm)]
  rw [e] at h3
  exact ⟨h1.trans h3, h2.trans h3⟩
theorem root_write (h : Run w0 w X dg D) (hD : Hale nn t D) (hn : 16 ≤ nn) (ht : t < 900000) (hT : Blo.Tab w0) (rb ep c : Nat) (P : List Nat) (A : Option Addr) (M : List UInt8) (hr : RootAt w rb ep P A c M) (hep : ep < 4294967296) (hP : ∀ x ∈ P, x < 65536) (hM : M.length ≤ 200) (hA0 : A = none → M.length = 0 ∧ c = 0) (hA1 : ∀ p : Addr, A = some p → ∃ g o, p = ⟨g, o, none⟩) :
    Calls Tryz.prog 102 #[.pointer (some ⟨rb, 0, none⟩), .pointer (some ⟨dg, 0, none⟩)] w fun e w' => e = .returned (.int .i64 0) ∧ Run w0 w' X dg (rootD D ep P M) ∧ Keep X w w' := by
  have hl := rootB_len ep P M hr.pl
  have H1 := Lib.hid (root_body rb ep c P A M w hr hep hP hM hA0 hA1)
  have H := Lib.hid (And.intro h (And.intro hD (And.intro hr hM)))
  obtain ⟨n, hn'⟩ : ∃ n, (rootB ep P M).length = n := ⟨_, rfl⟩
  have HN := Lib.hid hn'
  rw [hn'] at H1
  have hnl : n ≤ 248 := by omega
  have hT1 := Lib.hid hT
  clear h hD hr hM hl hn' hep hP hA0 hA1 hT
  go_enter Tryz.func102, Tryz.ntmps102
  go_wp2_with fail
  refine H1.out.mono ?_
  rintro e w1 ⟨g, c', rfl, k1, k2, k3⟩
  have hr1 := H.out.1.below k3
  have H2 := Lib.hid (Blo.seal_yes 1 (some ⟨g, 0, none⟩) n c' (rootB ep P M) w1 (by omega) (by omega) HN.out hnl k1.bytes (tab_at hT1.out hr1.bel))
  have HK := Lib.hid (And.intro hr1 k3)
  clear k1 k2 k3 hr1
  go_wp2_with fail
  refine H2.out.mono ?_
  rintro e w2 ⟨gs, rfl, q1, q2, q3⟩
  have hr2 := HK.out.1.below q3
  have hst := H.out.2.1
  have hb256 := rootBlk_len ep P M H.out.2.2.1.pl H.out.2.2.2
  have HWR := hr2.write (len := 256) (cap := 256) (B := some ⟨gs, 0, none⟩) ((ep % 2 : Nat) : Int) (rootBlk ep P M) hb256 (Bytes.row (t := 5) q2) (by have := hst.P; omega) (by have := hst.steps; omega)
  rw [hst.writeE (s := ep % 2) (by omega) hb256] at HWR
  have HWR := Lib.hid HWR
  have c0 := (((H.out.2.2.1.below HK.out.2)).below q3).e
  have HQ := Lib.hid (And.intro hr2 (And.intro q3 hb256))
  obtain ⟨s0, hs0⟩ : ∃ s0, ep % 2 = s0 := ⟨_, rfl⟩
  have HS0 := Lib.hid hs0
  rw [hs0] at HWR
  have hm : ((ep : Int) % 2) = (s0 : Int) := by omega
  have hm2 : (ep : Int).tmod 2 = (s0 : Int) := by rw [Int.tmod_eq_emod_of_nonneg (by omega)]; omega
  have hs2 : s0 < 2 := by omega
  clear q1 q2 q3 hr2 hst hb256 hs0
  go_wp2_with fail
  refine HWR.out.mono ?_
  rintro e w3 ⟨rfl, r1, r2⟩
  have hw3 := H.out.2.1.write (s := s0) (by omega) HQ.out.2.2
  have HBR := r1.barrier (by have := hw3.P; omega) (by have := hw3.steps; omega)
  rw [hw3.barE] at HBR
  have HBR := Lib.hid HBR
  have HR2 := Lib.hid r2
  clear hw3 r1 r2 hm hm2 hs2
  go_wp2_with fail
  refine HBR.out.mono ?_
  rintro e w4 ⟨rfl, r3, r4⟩
  go_wp2_with fail
  go_ret
  unfold rootD
  rw [HS0.out]
  exact ⟨rfl, r3, ((Keep.of_below HK.out.2 H.out.1.lt).trans (Keep.of_below HQ.out.2.1 HK.out.1.lt)).trans (HR2.out.trans r4)⟩
theorem write0 (h : Hale nn t D) (hn : 16 ≤ nn) : writeD D 0 [] = writeD D ((0 : Nat) : Int) zeros ∧ writeE D 0 [] = 0 := by
  have hz : filled [] 256 = zeros := rfl
  have e1 := write_liveD D.S D.P D.steps 0 [] (by rw [h.len]; omega) (by simp)
  have e2 := write_liveE D.S D.P D.steps 0 [] (by rw [h.len]; omega) (by simp)
  rw [← h.eta] at e1 e2
  rw [hz] at e1
  exact ⟨e1.trans (h.writeD (s := 0) (by omega) zeros_length).symm, e2⟩
def fmtD (D : DS) : DS := rootD (barD (writeD D ((0 : Nat) : Int) zeros)) 1 (List.replicate 9 0) []
/-- A root over a disk without any. -/
theorem format_any (h : Run w0 w X dg D) (hD : Hale nn t D) (hn : 16 ≤ nn) (ht : t < 800000) (hT : Blo.Tab w0) :
    Calls Tryz.prog 50 #[.pointer (some ⟨dg, 0, none⟩)] w fun e w' => e = .returned (.int .i64 0) ∧ Run w0 w' X dg (fmtD D) ∧ Hale nn (t + 4) (fmtD D) ∧ Keep X w w' := by
  have H := Lib.hid (And.intro h hD)
  have HWR := h.write (len := 0) (cap := 0) (B := none) 0 [] rfl (Bytes.nil _ _) (by have := hD.P; omega) (by have := hD.steps; omega)
  rw [(write0 hD hn).1, (write0 hD hn).2] at HWR
  have HWR := Lib.hid HWR
  have hT1 := Lib.hid hT
  clear h hD hT
  go_enter Tryz.func50, Tryz.ntmps50
  go_wp2_with fail
  refine HWR.out.mono ?_
  rintro e w1 ⟨rfl, k1, k2⟩
  have h1 := H.out.2.write (s := 0) (by omega) zeros_length
  have HBR := k1.barrier (by have := h1.P; omega) (by have := h1.steps; omega)
  rw [h1.barE] at HBR
  have HBR := Lib.hid HBR
  have HK := Lib.hid (And.intro k1 (And.intro k2 h1))
  clear k1 k2 h1
  go_wp2_with fail
  refine HBR.out.mono ?_
  rintro e w2 ⟨rfl, k3, k4⟩
  have h2 := HK.out.2.2.bar
  obtain ⟨wR, hwR⟩ : ∃ wR, w2.alloc (.cells #[.int .u32 1, .int .i64 0, .int .i64 0, .int .i64 0, .int .i64 0, .int .i64 0, .int .i64 0, .int .i64 0, .int .i64 0, .int .i64 0, .pointer none, .slice none 0 0] 108) = wR := ⟨_, rfl⟩
  have hbR : Below w2.heap.size w2 wR := by rw [← hwR]; exact (Below.refl _ _).alloc (Nat.le_refl _) _
  have hblk : Blk wR w2.heap.size 108 #[.int .u32 1, .int .i64 0, .int .i64 0, .int .i64 0, .int .i64 0, .int .i64 0, .int .i64 0, .int .i64 0, .int .i64 0, .int .i64 0, .pointer none, .slice none 0 0] := by rw [← hwR]; exact Blk.new _ _ _
  have hroot : RootAt wR w2.heap.size 1 (List.replicate 9 0) none 0 [] := ⟨hblk.cell 0, fun i x hx => by
    have hi := (List.getElem?_eq_some_iff.1 hx).1
    have hx0 : x = 0 := List.eq_of_mem_replicate (List.mem_of_getElem? hx)
    subst hx0
    rw [hblk.cell]
    match i, hi with
    | 0, _ => rfl
    | 1, _ => rfl
    | 2, _ => rfl
    | 3, _ => rfl
    | 4, _ => rfl
    | 5, _ => rfl
    | 6, _ => rfl
    | 7, _ => rfl
    | 8, _ => rfl
    | n + 9, h => have : n + 9 < 9 := h; omega, hblk.cell 11, Bytes.nil _ _, rfl, ⟨hblk.lt, fun p e => by cases e⟩⟩
  have HRW := Lib.hid (root_write (k3.below hbR) h2 hn (by omega) hT1.out w2.heap.size 1 0 (List.replicate 9 0) none [] hroot (by decide) (fun x hx => by rw [List.eq_of_mem_replicate hx]; decide) (by simp) (fun _ => ⟨rfl, rfl⟩) (fun p e => by cases e))
  have HZ := Lib.hid (And.intro k3 (And.intro k4 (And.intro h2 hbR)))
  have HWQ := Lib.hid hwR
  clear k3 k4 h2 hblk hroot hbR hwR
  go_wp2_with fail
  rw [HWQ.out]
  refine HRW.out.mono ?_
  rintro e w3 ⟨rfl, r1, r2⟩
  go_wp2_with fail
  go_ret
  exact ⟨rfl, r1, rootD_hale HZ.out.2.2.1 hn 1 _ _ rfl (by simp), (HK.out.2.1.trans HZ.out.2.1).trans ((Keep.of_below HZ.out.2.2.2 HZ.out.1.lt).trans r2)⟩
end
end Go.Proofs.YtolpgpphjnkehaaGreatDoor
/- shadow: readBlock. -/
namespace Go.Proofs.YtolpgpphjnkehaaGreatDoor
set_option maxRecDepth 20000
open Go.RowKit Cac Dsk
open Pag (PM IntsO)
/-- What readBlock answers. -/
def RbTold (D : DS) (nn : Nat) (i : Int) (kd : Nat) (w : World) (e : Ending) (w' : World) : Prop :=
  ((∃ g k body, (0 ≤ i ∧ i < nn) ∧ Blo.IsBlk (readS D i.toNat) k body ∧ e = .returned (.tuple #[.slice (some ⟨g, 0, none⟩) body.length body.length, .bool (decide (k = kd))]) ∧ Blk w' g 5 (row8 body) ∧ w.heap.size ≤ g) ∨
   ((¬ (0 ≤ i ∧ i < nn) ∨ ∀ k body, ¬ Blo.IsBlk (readS D i.toNat) k body) ∧ e = .returned (.tuple #[.slice none 0 0, .bool false]))) ∧ Below w.heap.size w w'
section
variable {w0 w w' : World} {X : Nat → Prop} {dg nn t : Nat} {D : DS}
theorem readBlock_any (h : Run w0 w X dg D) (hD : Hale nn t D) (hT : Blo.Tab w0) (i : Int) (kd : Nat) (hkd : kd < 256) :
    Calls Tryz.prog 115 #[.pointer (some ⟨dg, 0, none⟩), .int .i64 i, .int .u8 (kd : Int)] w (RbTold D nn i kd w) := by
  obtain ⟨F, hdk, _⟩ := h.own
  have hbel := h.bel
  by_cases hi : 0 ≤ i ∧ i < nn
  · obtain ⟨s, rfl⟩ : ∃ s : Nat, i = s := ⟨i.toNat, by omega⟩
    have hsn : s < nn := by omega
    have hrd := hD.read hsn
    have H1 := Lib.hid (hdk.read_yes dg F D (s : Int) w hrd.2)
    have HI := Lib.hid (And.intro hi (And.intro hT hbel))
    clear h hD hdk hi hT hbel hrd hsn
    go_enter Tryz.func115, Tryz.ntmps115
    go_wp2_with fail
    refine H1.out.mono ?_
    rintro e w1 ⟨rfl, k1, k2, k3⟩
    have hbs := Bytes.row (t := 5) k1
    have H2 := Lib.hid (Blo.open_any (some ⟨w.heap.size, 0, none⟩) 256 256 (readS D (s : Int).toNat) w1 k2 hbs (Nat.le_refl _) (tab_at HI.out.2.1 (HI.out.2.2.trans (k3.mono HI.out.2.2.size))))
    have HK := Lib.hid k3
    clear k1 k2 k3 hbs
    go_wp2_with fail
    refine H2.out.mono ?_
    rintro e w2 ⟨⟨k, body, g, z1, rfl, z2, z3⟩ | ⟨z1, rfl⟩, z4⟩
    · have HZ := Lib.hid (And.intro z1 (And.intro z2 (And.intro z3 z4)))
      have hge : w.heap.size ≤ g := Nat.le_trans HK.out.size z2
      by_cases hk : k = kd
      · subst hk
        have hd : ((k : Int) == (k : Int)) = true := by simp
        clear z1 z2 z3 z4
        go_wp2_with fail
        go_ret2
        exact ⟨.inl ⟨g, k, body, HI.out.1, HZ.out.1, by rw [decide_eq_true rfl]; rfl, HZ.out.2.2.1, hge⟩, HK.out.trans (HZ.out.2.2.2.mono HK.out.size)⟩
      · have hd : ((k : Int) == (kd : Int)) = false := by simp; omega
        have HKD := Lib.hid hk
        clear z1 z2 z3 z4 hk
        go_wp2_with fail
        go_ret2
        exact ⟨.inl ⟨g, k, body, HI.out.1, HZ.out.1, by rw [decide_eq_false HKD.out]; rfl, HZ.out.2.2.1, hge⟩, HK.out.trans (HZ.out.2.2.2.mono HK.out.size)⟩
    · have HZ := Lib.hid (And.intro z1 z4)
      clear z1 z4
      go_wp2_with fail
      go_ret2
      exact ⟨.inr ⟨.inr HZ.out.1, rfl⟩, HK.out.trans (HZ.out.2.mono HK.out.size)⟩
  · have hre : readE D i = 1 := by
      unfold readE refuse
      rw [hD.dead, hD.len]
      simp only [Bool.false_eq_true, if_false]
      rw [if_pos (show i < 0 ∨ (nn : Int) ≤ i by omega)]
      rfl
    have H1 := hdk.read_no dg F D i w (by rw [hre]; decide)
    rw [hre] at H1
    have H1 := Lib.hid H1
    have HI := Lib.hid hi
    clear h hD hdk hi hT hbel hre
    go_enter Tryz.func115, Tryz.ntmps115
    go_wp2_with fail
    refine H1.out.mono ?_
    rintro e w1 ⟨rfl, rfl⟩
    go_wp2_with fail
    go_ret2
    exact ⟨.inr ⟨.inl HI.out, rfl⟩, Below.refl _ _⟩
end
end Go.Proofs.YtolpgpphjnkehaaGreatDoor
/- shadow: readRoot: where no root is. -/
namespace Go.Proofs.YtolpgpphjnkehaaGreatDoor
set_option maxRecDepth 20000
open Go.RowKit Cac Dsk
open Pag (PM IntsO)
theorem results_cell_tmp_row {P : Program} {fn : Func} {p u : Tmp} {ty : TypeId} (h : fn.results = #[.cell p ty, .tmp u]) (tmps : Array Value) (w : World) (g : Nat) (t : TypeId) (cs : Array Value) (fr : Nat × Nat) (d : TypeDesc)
    (hp : tmps.getD p undef = .pointer (some ⟨g, 0, none⟩)) (hg : w.heap[g]? = some (.cells cs t fr))
    (hu : P.underlying ty = some d) (hd : (match d with | .struct _ | .array _ _ => true | _ => false) = true) (hi : (P.info? ty).map (·.size) = some cs.size) :
    (results fn tmps).run P w = .ok (.tuple #[.agg cs, tmps.getD u undef]) w := by
  rw [results_cell_tmp h]
  have hp' : tmps[p]?.getD undef = .pointer (some ⟨g, 0, none⟩) := by simpa using hp
  simp [hp', asAddr, run_loadVar_row w g t ty cs fr d hg hu hd hi, Result.andThen]
theorem root12 : (Tryz.prog.info? 108).map (·.size) = some 12 := by kernel_rfl
/-- A root's cells as a row. -/
def rootRow (ep : Nat) (P : List Nat) (pv mv : Value) : Array Value := ([.int .u32 (ep : Int)] ++ P.map (fun (x : Nat) => Value.int .i64 (x : Int)) ++ [pv, mv] : List Value).toArray
def zeroRow : Array Value := #[.int .u32 0, .int .i64 0, .int .i64 0, .int .i64 0, .int .i64 0, .int .i64 0, .int .i64 0, .int .i64 0, .int .i64 0, .int .i64 0, .pointer none, .slice none 0 0]
theorem rootRow_zero : rootRow 0 (List.replicate 9 0) (.pointer none) (.slice none 0 0) = zeroRow := rfl
theorem built_zero : Tryz.prog.built 108 [] = some zeroRow := by kernel_rfl
theorem rootRow_one (ep : Nat) (P : List Nat) (pv mv : Value) (h1 : pv.oneCell' = true) (h2 : mv.oneCell' = true) : (rootRow ep P pv mv).all (·.oneCell') = true := by
  unfold rootRow
  rw [List.all_toArray, List.all_append, List.all_append, List.all_map]
  have e : (P.all ((fun x => Value.oneCell' x) ∘ fun (x : Nat) => Value.int .i64 (x : Int))) = true := List.all_eq_true.2 fun _ _ => rfl
  rw [e]
  simp [h1, h2]
  rfl
theorem zero_one : zeroRow.all (·.oneCell') = true := by rw [← rootRow_zero]; exact rootRow_one _ _ _ _ rfl rfl
theorem rootRow_size (ep : Nat) (P : List Nat) (pv mv : Value) (hP : P.length = 9) : (rootRow ep P pv mv).size = 12 := by simp [rootRow, hP]
section
variable {w0 w w' : World} {X : Nat → Prop} {dg nn t : Nat} {D : DS}
theorem readRoot_none (h : Run w0 w X dg D) (hD : Hale nn t D) (hT : Blo.Tab w0) (s : Nat) (hz : readS D s = zeros) :
    Calls Tryz.prog 110 #[.pointer (some ⟨dg, 0, none⟩), .int .i64 (s : Int)] w fun e w' => e = .returned (.tuple #[.agg zeroRow, .bool false]) ∧ Below w.heap.size w w' := by
  obtain ⟨wA, hwA⟩ : ∃ wA, w.alloc (.cells #[.int .u32 0, .int .i64 0, .int .i64 0, .int .i64 0, .int .i64 0, .int .i64 0, .int .i64 0, .int .i64 0, .int .i64 0, .int .i64 0, .pointer none, .slice none 0 0] 108) = wA := ⟨_, rfl⟩
  have hbA : Below w.heap.size w wA := by rw [← hwA]; exact (Below.refl _ _).alloc (Nat.le_refl _) _
  have hblk : Blk wA w.heap.size 108 zeroRow := by rw [← hwA]; exact Blk.new _ _ _
  have H1 := Lib.hid (readBlock_any (h.below hbA) hD hT (s : Int) 1 (by omega))
  have HK := Lib.hid (And.intro hbA (And.intro hblk (show readS D ((s : Int).toNat) = zeros by rw [Int.toNat_natCast]; exact hz)))
  have HWQ := Lib.hid hwA
  clear h hD hT hbA hblk hwA hz
  go_enter Tryz.func110, Tryz.ntmps110
  go_wp2_with fail
  rw [HWQ.out]
  refine H1.out.mono ?_
  rintro e w1 ⟨hh, k4⟩
  have he : e = .returned (.tuple #[.slice none 0 0, .bool false]) := by
    rcases hh with ⟨g, k, body, _, hb, _⟩ | ⟨_, he⟩
    · rw [HK.out.2.2] at hb
      exact absurd hb (Blo.not_blank k body)
    · exact he
  subst he
  have hb1 : Blk w1 w.heap.size 108 zeroRow := HK.out.2.1.below k4 HK.out.2.1.lt
  have hB : Hid (Below w.heap.size w w1) := Lib.hid (HK.out.1.trans (k4.mono HK.out.1.size))
  have HB1 : Hid (w1.heap[w.heap.size]? = some (.cells zeroRow 108 (0, 0))) := Lib.hid hb1
  obtain ⟨g4, hg4⟩ : ∃ g4, w.heap.size = g4 := ⟨_, rfl⟩
  have HG4 := Lib.hid hg4
  rw [hg4] at HB1 ⊢
  clear hh k4 hb1 hg4
  go_upto_region 3 with fail
  refine wp_region_lit ?_
  refine wpList_build rfl 108 #[] rfl (by simp [built_zero]) ?_
  simp only [List.map_toArray, List.map_nil, built_zero, Option.getD_some]
  simp only [Act.put, List.setIfInBounds_toArray, List.set_cons_zero, List.set_cons_succ]
  refine wpList_store_row rfl 108 (.tmp 4) (.tmp 31) rfl g4 zeroRow rfl rfl 108 _ HB1.out root12 rfl zero_one ?_
  have hself : w1.setRow g4 zeroRow = w1 := setRow_self w1 g4 zeroRow _ _ HB1.out
  rw [hself]
  go_wp2_with fail
  (try simp only [Exit.inBlock, Exit.then])
  refine bodyPost_ret (results_cell_tmp_row rfl _ _ g4 108 zeroRow (0, 0) _ rfl HB1.out Tryz.underlying108 rfl root12) rfl ?_
  exact ⟨rfl, hB.out⟩
end
end Go.Proofs.YtolpgpphjnkehaaGreatDoor
/- pages: parts as bytes, there and back, apart from memory. -/
namespace Go.Proofs.YtolpgpphjnkehaaGreatDoor.Pag
set_option maxRecDepth 20000
open Go.RowKit Pgs
namespace Pgs
theorem trim_rep (n : Nat) : trim (List.replicate n 0) = [] := by
  induction n with
  | zero => rfl
  | succ n ih => rw [List.replicate_succ, trim, if_pos ⟨rfl, ih⟩]
theorem trim_rep0 (P : List Nat) (n : Nat) : trim (P ++ List.replicate n 0) = trim P := by
  induction P with
  | nil => rw [List.nil_append, trim_rep]; rfl
  | cons x r ih => rw [List.cons_append, trim, trim, ih]
theorem trim_le (l : List Nat) : (trim l).length ≤ l.length := by
  induction l with
  | nil => exact Nat.le_refl _
  | cons x r ih =>
    unfold trim
    split
    · exact Nat.zero_le _
    · simpa using ih
theorem trim_nil {l : List Nat} (h : trim l = []) : l = List.replicate l.length 0 := by
  induction l with
  | nil => rfl
  | cons x r ih =>
    unfold trim at h
    split at h
    · rename_i hx
      rw [List.length_cons, List.replicate_succ, ← ih hx.2, hx.1]
    · cases h
theorem trim_back (l : List Nat) : trim l ++ List.replicate (l.length - (trim l).length) 0 = l := by
  induction l with
  | nil => rfl
  | cons x r ih =>
    unfold trim
    split
    · rename_i h
      rw [List.nil_append, List.length_nil, Nat.sub_zero, List.length_cons, List.replicate_succ, ← trim_nil h.2, h.1]
    · rw [List.length_cons, List.length_cons, Nat.add_sub_add_right, List.cons_append, ih]
theorem trim_last (l : List Nat) : trim l = [] ∨ ∃ x, (trim l)[(trim l).length - 1]? = some x ∧ x ≠ 0 := by
  induction l with
  | nil => exact .inl rfl
  | cons x r ih =>
    unfold trim
    split
    · exact .inl rfl
    · rename_i h
      right
      rcases ih with e | ⟨y, hy, h0⟩
      · refine ⟨x, by rw [e]; rfl, fun hx => h ⟨hx, e⟩⟩
      · have hl : 0 < (trim r).length := by
          rcases Nat.eq_zero_or_pos (trim r).length with e | e
          · rw [List.eq_nil_of_length_eq_zero e] at hy; cases hy
          · exact e
        refine ⟨y, ?_, h0⟩
        rw [List.length_cons, Nat.add_sub_cancel]
        obtain ⟨m, hm⟩ : ∃ m, (trim r).length = m + 1 := ⟨(trim r).length - 1, by omega⟩
        rw [hm] at hy ⊢
        rw [List.getElem?_cons_succ]
        simpa using hy
theorem trim_mem {l : List Nat} {x : Nat} (h : x ∈ trim l) : x ∈ l := by
  have := trim_back l
  rw [← this]
  exact List.mem_append_left _ h
theorem bytes2_cons (x : Nat) (l : List Nat) : bytes2 (x :: l) = UInt8.ofNat x :: UInt8.ofNat (x / 256) :: bytes2 l := rfl
theorem bytes2_get (l : List Nat) (k : Nat) : (bytes2 l).getD (2 * k) 0 = UInt8.ofNat (l.getD k 0) ∧ (bytes2 l).getD (2 * k + 1) 0 = UInt8.ofNat (l.getD k 0 / 256) := by
  induction l generalizing k with
  | nil => exact ⟨by simp [bytes2], by simp [bytes2]⟩
  | cons x r ih =>
    rw [bytes2_cons]
    cases k with
    | zero => exact ⟨rfl, rfl⟩
    | succ k =>
      have := ih k
      rw [show 2 * (k + 1) = 2 * k + 1 + 1 by omega]
      simp only [List.getD_cons_succ]
      exact this
theorem said_bytes2 {l : List Nat} (h : ∀ x ∈ l, x < 65536) : said (bytes2 l) = l := by
  unfold said
  rw [bytes2_len, show 2 * l.length / 2 = l.length by omega]
  apply List.ext_getElem?
  intro k
  rw [List.getElem?_map]
  rcases Nat.lt_or_ge k l.length with hk | hk
  · rw [List.getElem?_range hk, Option.map_some, (bytes2_get l k).1, (bytes2_get l k).2, List.getElem?_eq_getElem hk]
    have hx := h l[k] (List.getElem_mem hk)
    rw [List.getD_eq_getElem?_getD, List.getElem?_eq_getElem hk, Option.getD_some]
    simp only [UInt8.toNat_ofNat']
    congr 1
    omega
  · rw [List.getElem?_eq_none (by simpa using hk), List.getElem?_eq_none hk]; rfl
theorem bytes2_said {bs : List UInt8} (h : bs.length % 2 = 0) : bytes2 (said bs) = bs := by
  apply List.ext_getElem?
  intro k
  have hl : (bytes2 (said bs)).length = bs.length := by rw [bytes2_len, said_len]; omega
  rcases Nat.lt_or_ge k bs.length with hk | hk
  · have hg := bytes2_get (said bs) (k / 2)
    have hs : (said bs).getD (k / 2) 0 = (bs.getD (2 * (k / 2)) 0).toNat + 256 * (bs.getD (2 * (k / 2) + 1) 0).toNat := by
      unfold said
      rw [List.getD_eq_getElem?_getD, List.getElem?_map, List.getElem?_range (by omega)]; rfl
    rw [hs] at hg
    have b1 := (bs.getD (2 * (k / 2)) 0).toNat_lt
    have b2 := (bs.getD (2 * (k / 2) + 1) 0).toNat_lt
    have e0 : ∀ (l : List UInt8) (h : k < l.length), l[k]? = some (l.getD k 0) := fun l h => by rw [List.getD_eq_getElem?_getD, List.getElem?_eq_getElem h]; rfl
    rw [e0 _ (by omega), e0 _ hk]
    congr 1
    rcases Nat.mod_two_eq_zero_or_one k with e | e
    · rw [show 2 * (k / 2) = k by omega] at hg b1
      rw [hg.1]
      apply UInt8.toNat_inj.1
      rw [UInt8.toNat_ofNat']; omega
    · rw [show 2 * (k / 2) + 1 = k by omega] at hg b2
      rw [hg.2]
      apply UInt8.toNat_inj.1
      rw [UInt8.toNat_ofNat']; omega
  · rw [List.getElem?_eq_none (by omega), List.getElem?_eq_none hk]
theorem partN_lt {L : List Nat} (h : Ok L) (i : Nat) : ∀ x ∈ partN L i, x < 65536 := fun x hx => by
  unfold partN at hx
  obtain ⟨k, hk⟩ := List.mem_iff_getElem?.1 (List.mem_of_mem_drop (List.mem_of_mem_take hx))
  exact h.lt k x hk
theorem said_partB {L : List Nat} (h : Ok L) (i : Nat) : said (partB L i) = trim (partN L i) := by
  unfold partB
  exact said_bytes2 fun x hx => partN_lt h i x (trim_mem hx)
theorem partB_eq {L K : List Nat} (h : Ok L) (h' : Ok K) {i : Nat} (hi : i < 9) : partB L i = partB K i ↔ partN L i = partN K i := by
  constructor
  · intro e
    have e1 : trim (partN L i) = trim (partN K i) := by rw [← said_partB h, ← said_partB h', e]
    rw [← trim_back (partN L i), ← trim_back (partN K i), partN_len h hi, partN_len h' hi, e1]
  · intro e; unfold partB; rw [e]
theorem partB_len {L : List Nat} (h : Ok L) {i : Nat} (hi : i < 9) : (partB L i).length = 2 * (trim (partN L i)).length ∧ (trim (partN L i)).length ≤ 124 := by
  have := trim_le (partN L i)
  rw [partN_len h hi] at this
  exact ⟨by unfold partB; rw [bytes2_len], this⟩
theorem layB_partB {L : List Nat} (h : Ok L) {i : Nat} (hi : i < 9) : layB (i : Int) (partB L i) = true := by
  obtain ⟨h1, h2⟩ := partB_len h hi
  refine layB_true hi h1 h2 (fun k x hk hx h0 => ?_) ?_
  · rw [said_partB h] at hx
    have hb := trim_back (partN L i)
    have hx2 : (partN L i)[k]? = some x := by rw [← hb, List.getElem?_append_left hk]; exact hx
    unfold partN at hx2
    rw [List.getElem?_take_of_lt (by omega), List.getElem?_drop] at hx2
    rcases Nat.lt_or_ge (i * 124 + k) 1024 with hp | hp
    · exact hp
    · have := h.end_ _ hp
      rw [List.getD_eq_getElem?_getD, hx2] at this
      exact absurd this h0
  · rw [said_partB h]
    rcases trim_last (partN L i) with e | e
    · left; rw [e]; rfl
    · exact .inr e
theorem layL_partB {L X : List Nat} (h : Ok L) {i : Nat} (hi : i < 9) : layL X (i : Int) (partB L i) = X.take (i * 124) ++ partN L i ++ X.drop (i * 124 + 124) := by
  unfold layL
  obtain ⟨h1, _⟩ := partB_len h hi
  rw [if_pos (layB_partB h hi), Int.toNat_natCast, said_partB h, h1, Nat.mul_div_cancel_left _ (by decide)]
  have := trim_back (partN L i)
  rw [partN_len h hi] at this
  rw [this]
/-- The parts from one on. -/
def backTo (L : List Nat) (k : Nat) : List Nat := none_.take (k * 124) ++ L.drop (k * 124)
theorem backTo_end {L : List Nat} (h : Ok L) : backTo L 9 = none_ := by
  unfold backTo
  rw [List.drop_of_length_le (by rw [h.len]; decide), List.append_nil, List.take_of_length_le (by unfold none_; rw [List.length_replicate]; decide)]
theorem backTo_zero (L : List Nat) : backTo L 0 = L := by unfold backTo; rw [Nat.zero_mul]; rfl
theorem backTo_step {L : List Nat} (h : Ok L) {k : Nat} (hk : k < 9) : layL (backTo L (k + 1)) (k : Int) (partB L k) = backTo L k := by
  rw [layL_partB h hk]
  unfold backTo partN
  have hn : (none_).length = 1116 := none_ok.len
  rw [show (k + 1) * 124 = k * 124 + 124 by omega]
  have h1 : ((none_).take (k * 124 + 124)).length = k * 124 + 124 := by rw [List.length_take, hn]; omega
  rw [List.take_append_of_le_length (by omega), List.take_take, Nat.min_eq_left (by omega), List.drop_left' h1, List.append_assoc]
  congr 1
  rw [← List.drop_drop, List.take_append_drop]
/-- What is laid is told. -/
theorem partB_layL {L : List Nat} (h : Ok L) {i : Nat} {bs : List UInt8} (hb : layB (i : Int) bs = true) : partB (layL L (i : Int) bs) i = bs := by
  have hb' := hb
  unfold layB at hb'
  simp only [Bool.and_eq_true, decide_eq_true_eq] at hb'
  obtain ⟨⟨⟨⟨hi, hl⟩, hm⟩, hp⟩, he⟩ := hb'
  have hs := said_len bs
  have h1 : (L.take (i * 124)).length = i * 124 := by rw [List.length_take, h.len]; omega
  unfold layL partB partN
  rw [if_pos hb, Int.toNat_natCast, List.append_assoc, List.drop_append, h1, List.drop_of_length_le (by omega), List.nil_append, Nat.sub_self, List.drop_zero, List.take_append_of_le_length (by rw [List.length_append, List.length_replicate, hs]; omega), List.take_of_length_le (by rw [List.length_append, List.length_replicate, hs]; omega), trim_rep0]
  have ht : trim (said bs) = said bs := by
    have := trim_take (said bs) (said bs).length (Nat.le_refl _) (fun j h1 h2 => by omega) (by
      rcases he with e | e
      · left; rw [hs]; omega
      · by_cases e0 : bs.length = 0
        · left; rw [hs]; omega
        · right
          rw [hs, List.getElem?_eq_getElem (by rw [hs]; omega)]
          refine ⟨_, rfl, ?_⟩
          rw [List.getD_eq_getElem?_getD, List.getElem?_eq_getElem (by rw [hs]; omega)] at e
          exact e)
    rw [this, List.take_length]
  rw [ht, bytes2_said hm]
/-- What is laid turns no other part. -/
theorem partN_layL {L : List Nat} (h : Ok L) {i j : Nat} {bs : List UInt8} (hij : i ≠ j) : partN (layL L (i : Int) bs) j = partN L j := by
  unfold layL
  split
  · rename_i hb
    unfold layB at hb
    simp only [Bool.and_eq_true, decide_eq_true_eq] at hb
    obtain ⟨⟨⟨⟨hi, hl⟩, hm⟩, hp⟩, he⟩ := hb
    have hs := said_len bs
    have hL := h.len
    rw [Int.toNat_natCast]
    have h1 : (L.take (i * 124)).length = i * 124 := by rw [List.length_take]; omega
    have h2 : (said bs ++ List.replicate (124 - bs.length / 2) 0).length = 124 := by rw [List.length_append, List.length_replicate, hs]; omega
    unfold partN
    apply List.ext_getElem?
    intro k
    rcases Nat.lt_or_ge k 124 with hk | hk
    · rw [List.getElem?_take_of_lt hk, List.getElem?_take_of_lt hk, List.getElem?_drop, List.getElem?_drop]
      rcases Nat.lt_or_ge j i with hji | hji
      · rw [List.getElem?_append_left (by rw [List.length_append]; omega), List.getElem?_append_left (by omega), List.getElem?_take_of_lt (by omega)]
      · rw [List.getElem?_append_right (by rw [List.length_append]; omega), List.length_append, h1, h2, List.getElem?_drop, show i * 124 + 124 + (j * 124 + k - (i * 124 + 124)) = j * 124 + k by omega]
    · rw [List.getElem?_eq_none (by rw [List.length_take]; omega), List.getElem?_eq_none (by rw [List.length_take]; omega)]
  · rfl
theorem turnedL_same (L : List Nat) : turnedL L L = [] := by unfold turnedL; simp
theorem turnedL_lay {L : List Nat} (h : Ok L) {i : Nat} {bs : List UInt8} (hi : i < 9) : turnedL L (layL L (i : Int) bs) = [] ∨ turnedL L (layL L (i : Int) bs) = [i] := by
  unfold turnedL
  have he : ∀ j, j ≠ i → decide (partN L j ≠ partN (layL L (i : Int) bs) j) = false := fun j hne => by
    rw [partN_layL h (fun e => hne e.symm)]; simp
  by_cases e : partN L i = partN (layL L (i : Int) bs) i
  · left
    rw [List.filter_eq_nil_iff]
    intro j _
    by_cases hne : j = i
    · subst hne; simp [e]
    · rw [he j hne]; simp
  · right
    have hr : List.filter (fun j => decide (partN L j ≠ partN (layL L (i : Int) bs) j)) (List.range 9) = List.filter (fun j => decide (j = i)) (List.range 9) := by
      apply List.filter_congr
      intro j _
      by_cases hne : j = i
      · subst hne; simp [e]
      · rw [he j hne]; simp [hne]
    rw [hr]
    have : ∀ i, i < 9 → List.filter (fun j => decide (j = i)) (List.range 9) = [i] := by decide
    exact this i hi
theorem got_set {L : List Nat} (h : Ok L) {p s : Int} (hb : setB p s = true) : ((got (setL L p s) p : Nat) : Int) = s ∧ got (setL L p s) p ≠ 0 := by
  unfold setL
  rw [hb, if_pos rfl]
  unfold setB at hb
  simp only [Bool.and_eq_true, decide_eq_true_eq] at hb
  unfold got
  rw [if_pos hb.1, List.getD_eq_getElem?_getD, List.getElem?_set_self (by rw [h.len]; omega), Option.getD_some]
  omega
theorem got_set_ne (L : List Nat) {p q s : Int} (hq : q ≠ p) : got (setL L p s) q = got L q := by
  unfold setL
  split
  · rename_i hb
    unfold setB at hb
    simp only [Bool.and_eq_true, decide_eq_true_eq] at hb
    unfold got
    split
    · rw [List.getD_eq_getElem?_getD, List.getD_eq_getElem?_getD, List.getElem?_set_ne (by omega)]
    · rfl
  · rfl
theorem got_clear_ne (L : List Nat) {p q : Int} (hq : q ≠ p) : got (clearL L p) q = got L q := by
  unfold clearL
  split
  · rename_i hb
    unfold clearB at hb
    simp only [decide_eq_true_eq] at hb
    have hp := got_in hb
    unfold got
    split
    · rw [List.getD_eq_getElem?_getD, List.getD_eq_getElem?_getD, List.getElem?_set_ne (by omega)]
    · rfl
  · rfl
theorem clear_clear {L : List Nat} (h : Ok L) (p : Int) : clearB (clearL L p) p = false := by
  unfold clearL
  split
  · rename_i hb
    unfold clearB at hb
    simp only [decide_eq_true_eq] at hb
    have hp := got_in hb
    unfold clearB got
    rw [if_pos hp, List.getD_eq_getElem?_getD, List.getElem?_set_self (by rw [h.len]; omega)]; rfl
  · rename_i hb
    simpa using hb
/-- The parts up to one. -/
def fwdTo (L : List Nat) (k : Nat) : List Nat := L.take (k * 124) ++ none_.drop (k * 124)
theorem fwdTo_end {L : List Nat} (h : Ok L) : fwdTo L 9 = L := by
  unfold fwdTo
  rw [List.take_of_length_le (by rw [h.len]; decide), List.drop_of_length_le (by unfold none_; rw [List.length_replicate]; decide), List.append_nil]
theorem fwdTo_zero (L : List Nat) : fwdTo L 0 = none_ := by unfold fwdTo; rw [Nat.zero_mul]; rfl
theorem fwdTo_step {L : List Nat} (h : Ok L) {k : Nat} (hk : k < 9) : layL (fwdTo L k) (k : Int) (partB L k) = fwdTo L (k + 1) := by
  rw [layL_partB h hk]
  unfold fwdTo partN
  have hn : (none_).length = 1116 := none_ok.len
  rw [show (k + 1) * 124 = k * 124 + 124 by omega]
  have h1 : (L.take (k * 124)).length = k * 124 := by rw [List.length_take, h.len]; omega
  rw [List.take_left' h1, show k * 124 + 124 = (L.take (k * 124)).length + 124 by omega, List.drop_append, h1, List.drop_drop, List.take_add, List.append_assoc, List.append_assoc, List.drop_of_length_le (l := L.take (k * 124)) (i := k * 124 + 124) (by omega), List.nil_append, show k * 124 + (k * 124 + 124 - k * 124) = k * 124 + 124 by omega]
theorem fwdTo_skip {L : List Nat} (h : Ok L) {k : Nat} (hk : k < 9) (he : partB L k = []) : fwdTo L (k + 1) = fwdTo L k := by
  have h1 := said_partB h k
  rw [he] at h1
  have h2 := trim_back (partN L k)
  rw [partN_len h hk, ← h1] at h2
  have h3 : partN L k = List.replicate 124 0 := h2.symm
  have hn : none_ = List.replicate 1116 0 := rfl
  unfold fwdTo
  unfold partN at h3
  rw [show (k + 1) * 124 = k * 124 + 124 by omega, List.take_add, h3, List.append_assoc, hn, List.drop_replicate, List.drop_replicate, List.replicate_append_replicate]
  congr 2
  omega
theorem partB_none (i : Nat) : partB none_ i = [] := by
  unfold partB partN none_
  rw [List.drop_replicate, List.take_replicate, trim_rep]
  rfl
end Pgs
end Go.Proofs.YtolpgpphjnkehaaGreatDoor.Pag
/- shadow: what is published, apart from memory. -/
namespace Go.Proofs.YtolpgpphjnkehaaGreatDoor
set_option maxRecDepth 20000
open Go.RowKit Cac Dsk
open Pag.Pgs (got setL clearL partB pagesL sectorsL turnedL partN Ok none_)
theorem got_nat {L : List Nat} (h : Ok L) (p : Nat) : got L (p : Int) = L.getD p 0 := by
  unfold got
  split
  · rw [Int.toNat_natCast]
  · exact (h.end_ p (by omega)).symm
theorem sectors_mem {L : List Nat} (h : Ok L) (x : Nat) : x ∈ sectorsL L ↔ x ≠ 0 ∧ ∃ p, L.getD p 0 = x := by
  unfold sectorsL pagesL
  constructor
  · intro hx
    obtain ⟨p, hp, rfl⟩ := List.mem_map.1 hx
    rw [List.mem_filter] at hp
    exact ⟨of_decide_eq_true hp.2, p, rfl⟩
  · rintro ⟨h0, p, rfl⟩
    refine List.mem_map.2 ⟨p, List.mem_filter.2 ⟨List.mem_range.2 ?_, decide_eq_true h0⟩, rfl⟩
    rcases Nat.lt_or_ge p 1024 with h1 | h1
    · exact h1
    · exact absurd (h.end_ p h1) h0
/-- Where parts and pages stand. -/
structure Geo (nn : Nat) (P L O : List Nat) : Prop where
  pl : P.length = 9
  pin : ∀ (i x : Nat), P[i]? = some x → x = 0 ∨ (2 ≤ x ∧ x < nn)
  pnd : ∀ (i j x : Nat), P[i]? = some x → P[j]? = some x → x ≠ 0 → i = j
  okL : Ok L
  okO : Ok O
  lin : ∀ p, L.getD p 0 ≠ 0 → 2 ≤ L.getD p 0 ∧ L.getD p 0 < nn ∧ L.getD p 0 ∉ P
  oin : ∀ p, O.getD p 0 ≠ 0 → 2 ≤ O.getD p 0 ∧ O.getD p 0 < nn ∧ O.getD p 0 ∉ P
  linj : ∀ p q, L.getD p 0 ≠ 0 → L.getD p 0 = L.getD q 0 → p = q
  oinj : ∀ p q, O.getD p 0 ≠ 0 → O.getD p 0 = O.getD q 0 → p = q
  cross : ∀ p q, L.getD p 0 ≠ 0 → L.getD p 0 = O.getD q 0 → p = q
theorem Geo.back {nn : Nat} {P L O : List Nat} (h : Geo nn P L O) : Geo nn P L L := ⟨h.pl, h.pin, h.pnd, h.okL, h.okL, h.lin, h.lin, h.linj, h.linj, h.linj⟩
/-- What is published, as sectors are read. -/
structure Pub (rd : Nat → List UInt8) (nn ep : Nat) (P : List Nat) (M : List UInt8) (L : List Nat) : Prop where
  geo : Geo nn P L L
  epr : 0 < ep ∧ ep < 4294967296
  mlen : M.length ≤ 200
  one : rd (ep % 2) = rootBlk ep P M
  two : rd ((ep + 1) % 2) = zeros ∨ ∃ ep' P' M', rd ((ep + 1) % 2) = rootBlk ep' P' M' ∧ ep' < ep ∧ P'.length = 9 ∧ M'.length ≤ 200 ∧ ∀ x ∈ P', x < 65536
  part : ∀ (i x : Nat), P[i]? = some x → (x = 0 → partB L i = []) ∧ (x ≠ 0 → partB L i ≠ [] ∧ rd x = Blo.blockOf 2 (partB L i))
  page : ∀ p, L.getD p 0 ≠ 0 → ∃ b, b.length ≤ 248 ∧ rd (L.getD p 0) = pageB b
/-- A sector of what is published. -/
def PubS (P L : List Nat) (j : Nat) : Prop := j < 2 ∨ j ∈ P ∨ ∃ p, L.getD p 0 ≠ 0 ∧ L.getD p 0 = j
theorem Pub.congr {rd rd' : Nat → List UInt8} {nn ep : Nat} {P L : List Nat} {M : List UInt8} (h : Pub rd nn ep P M L) (he : ∀ j, PubS P L j → rd' j = rd j) : Pub rd' nn ep P M L := by
  refine ⟨h.geo, h.epr, h.mlen, (he _ (.inl (Nat.mod_lt _ (by omega)))).trans h.one, ?_, fun i x hx => ⟨(h.part i x hx).1, fun h0 => ⟨((h.part i x hx).2 h0).1, (he x (.inr (.inl (List.mem_of_getElem? hx)))).trans ((h.part i x hx).2 h0).2⟩⟩, fun p hp => ?_⟩
  · rw [he _ (.inl (Nat.mod_lt _ (by omega)))]
    exact h.two
  · rw [he _ (.inr (.inr ⟨p, hp, rfl⟩))]
    exact h.page p hp
/-- The pages that a map has, as sectors are read. -/
def Has (rd : Nat → List UInt8) (O : List Nat) (N : Nat → Option (List UInt8)) : Prop := ∀ p, (O.getD p 0 = 0 → N p = none) ∧ (O.getD p 0 ≠ 0 → ∃ b, b.length ≤ 248 ∧ rd (O.getD p 0) = pageB b ∧ N p = some b)
theorem Has.congr {rd rd' : Nat → List UInt8} {O : List Nat} {N : Nat → Option (List UInt8)} (h : Has rd O N) (he : ∀ p, O.getD p 0 ≠ 0 → rd' (O.getD p 0) = rd (O.getD p 0)) : Has rd' O N := fun p => ⟨(h p).1, fun h0 => by
  rw [he p h0]
  exact (h p).2 h0⟩
/-- A space as it should be: what it has now, and what was published. -/
structure Gd (nn : Nat) (v : Sv) (D : DS) (Lc : List Fr) (now last : Nat → Option (List UInt8)) : Prop where
  geo : Geo nn v.P v.L v.O
  pub : Pub (fun j => D.S.getD j []) nn v.ep v.P v.M v.L
  tch : ∀ j, Tch D Lc j → ¬ PubS v.P v.L j
  nowH : Has (what D Lc) v.O now
  lastH : Has (fun j => D.S.getD j []) v.L last
  calm : Calm Lc
section
variable {nn most t : Nat} {v : Sv} {D D' : DS} {Lc Lc' : List Fr} {now last : Nat → Option (List UInt8)}
theorem still_clean (hst : Sta nn most t D Lc) (hc : ∀ x ∈ Lc, x.dirty = false) (j : Nat) : what D Lc j = readS D j := by
  by_cases hx : ∃ x ∈ Lc, x.s = j
  · obtain ⟨x, hx, rfl⟩ := hx
    rw [what_yes hst.nodup hx, hst.clean x hx (hc x hx)]
  · exact what_no (fun x hx' e => hx ⟨x, hx', e⟩)
theorem Gd.read (h : Gd nn v D Lc now last) (hst : Sta nn most t D Lc) : Pub (readS D) nn v.ep v.P v.M v.L := h.pub.congr fun j hj => (still hst (fun ht => h.tch j ht hj)).1
theorem Gd.like (h : Gd nn v D Lc now last) (hl : Like D Lc D' Lc') : Gd nn v D' Lc' now last :=
  ⟨h.geo, by rw [hl.S]; exact h.pub, fun j hj => h.tch j (hl.tch j hj), h.nowH.congr fun p _ => hl.what_ _, by rw [hl.S]; exact h.lastH, hl.calm⟩
theorem Gd.fr (h : Gd nn v D Lc now last) (fr : Bool) : Gd nn { v with fr := fr } D Lc now last := ⟨h.geo, h.pub, h.tch, h.nowH, h.lastH, h.calm⟩
/-- A function turned at one place. -/
def upd (N : Nat → Option (List UInt8)) (p : Nat) (x : Option (List UInt8)) : Nat → Option (List UInt8) := fun q => if q = p then x else N q
theorem trn_true {O L : List Nat} {p : Nat} (hO : Ok O) (hL : Ok L) (h : trn O L (p : Int) = true) : O.getD p 0 ≠ 0 ∧ L.getD p 0 ≠ O.getD p 0 := by
  unfold trn at h
  rw [got_nat hO, got_nat hL] at h
  simpa using h
theorem trn_false {O L : List Nat} {p : Nat} (hO : Ok O) (hL : Ok L) (h : trn O L (p : Int) = false) : O.getD p 0 = 0 ∨ L.getD p 0 = O.getD p 0 := by
  unfold trn at h
  rw [got_nat hO, got_nat hL] at h
  by_cases h0 : O.getD p 0 = 0
  · exact .inl h0
  · right
    rw [decide_eq_true h0, Bool.true_and] at h
    simpa using h
/-- The sector of a page that is turned is none of what is published. -/
theorem Geo.turned {P L O : List Nat} (h : Geo nn P L O) {p : Nat} (h1 : O.getD p 0 ≠ 0) (h2 : L.getD p 0 ≠ O.getD p 0) : ¬ PubS P L (O.getD p 0) := by
  have hi := h.oin p h1
  rintro (h3 | h3 | ⟨q, h3, h4⟩)
  · omega
  · exact hi.2.2 h3
  · have := h.cross q p h3 h4
    subst this
    exact h2 h4
theorem Gd.over (h : Gd nn v D Lc now last) {p : Nat} {bs : List UInt8} (h1 : v.O.getD p 0 ≠ 0) (h2 : v.L.getD p 0 ≠ v.O.getD p 0) (hb : bs.length ≤ 248) (hw : Wr D Lc (v.O.getD p 0) (pageB bs) D' Lc') : Gd nn v D' Lc' (upd now p (some bs)) last := by
  refine ⟨h.geo, by rw [hw.S]; exact h.pub, fun j hj => ?_, fun q => ?_, by rw [hw.S]; exact h.lastH, hw.calm⟩
  · rcases hw.tch j hj with hj | rfl
    · exact h.tch j hj
    · exact h.geo.turned h1 h2
  · unfold upd
    by_cases hq : q = p
    · subst hq
      rw [if_pos rfl]
      exact ⟨fun h0 => absurd h0 h1, fun _ => ⟨bs, hb, by rw [hw.what_, if_pos rfl], rfl⟩⟩
    · rw [if_neg hq]
      refine ⟨(h.nowH q).1, fun h0 => ?_⟩
      rw [hw.what_, if_neg (fun e => hq (h.geo.oinj q p h0 e))]
      exact (h.nowH q).2 h0
theorem free_mem {P L O : List Nat} {s : Nat} (hL : Ok L) (hO : Ok O) : s ∈ freeL nn P L O ↔ s < nn ∧ 2 ≤ s ∧ s ∉ P ∧ (∀ p, L.getD p 0 ≠ s) ∧ ∀ p, O.getD p 0 ≠ s := by
  unfold freeL used
  rw [freeTo_mem, List.mem_append, List.mem_append, sectors_mem hL, sectors_mem hO]
  constructor
  · rintro ⟨h1, h2, h3⟩
    refine ⟨h1, h2, fun e => h3 (.inl (.inl e)), fun p e => h3 (.inl (.inr ⟨by omega, p, e⟩)), fun p e => h3 (.inr ⟨by omega, p, e⟩)⟩
  · rintro ⟨h1, h2, h3, h4, h5⟩
    refine ⟨h1, h2, ?_⟩
    rintro ((e | ⟨_, p, e⟩) | ⟨_, p, e⟩)
    · exact h3 e
    · exact h4 p e
    · exact h5 p e
theorem setL_get {O : List Nat} (h : Ok O) {p s : Nat} (hp : p < 1024) (hs : 1 ≤ s ∧ s ≤ 65535) (q : Nat) : (setL O (p : Int) (s : Int)).getD q 0 = if q = p then s else O.getD q 0 := by
  unfold setL Pag.Pgs.setB
  rw [if_pos (by simp; omega), Int.toNat_natCast, Int.toNat_natCast, List.getD_eq_getElem?_getD, List.getElem?_set]
  by_cases e : p = q
  · subst e
    rw [if_pos rfl, if_pos (by rw [h.len]; omega), if_pos rfl]; rfl
  · rw [if_neg e, if_neg (fun x => e x.symm), List.getD_eq_getElem?_getD]
theorem clearL_get {O : List Nat} (h : Ok O) (p q : Nat) : (clearL O (p : Int)).getD q 0 = if q = p then 0 else O.getD q 0 := by
  unfold clearL Pag.Pgs.clearB
  rw [got_nat h]
  by_cases h0 : O.getD p 0 = 0
  · rw [if_neg (by simp only [h0]; decide)]
    by_cases e : q = p
    · subst e; rw [if_pos rfl, h0]
    · rw [if_neg e]
  · rw [if_pos (decide_eq_true h0), Int.toNat_natCast, List.getD_eq_getElem?_getD, List.getElem?_set]
    by_cases e : p = q
    · subst e
      rw [if_pos rfl, if_pos rfl]
      split <;> rfl
    · rw [if_neg e, if_neg (fun x => e x.symm), List.getD_eq_getElem?_getD]
theorem Geo.put {P L O : List Nat} (h : Geo nn P L O) {p s : Nat} (hp : p < 1024) (hn : nn ≤ 4096) (hs : s ∈ freeL nn P L O) : Geo nn P L (setL O (p : Int) (s : Int)) := by
  obtain ⟨s1, s2, s3, s4, s5⟩ := (free_mem h.okL h.okO).1 hs
  have hg := fun q => setL_get h.okO hp (show 1 ≤ s ∧ s ≤ 65535 by omega) q
  refine ⟨h.pl, h.pin, h.pnd, h.okL, Pag.Pgs.setL_ok h.okO _ _, h.lin, fun q hq => ?_, h.linj, fun q r hq e => ?_, fun q r hq e => ?_⟩
  · rw [hg] at hq ⊢
    by_cases e : q = p
    · rw [if_pos e]; exact ⟨s2, s1, s3⟩
    · rw [if_neg e] at hq ⊢; exact h.oin q hq
  · rw [hg] at hq
    rw [hg, hg] at e
    by_cases e1 : q = p
    · rw [if_pos e1] at e
      by_cases e2 : r = p
      · rw [e1, e2]
      · rw [if_neg e2] at e; exact absurd e.symm (s5 r)
    · rw [if_neg e1] at e hq
      by_cases e2 : r = p
      · rw [if_pos e2] at e; exact absurd e (s5 q)
      · rw [if_neg e2] at e; exact h.oinj q r hq e
  · rw [hg] at e
    by_cases e2 : r = p
    · rw [if_pos e2] at e; exact absurd e (s4 q)
    · rw [if_neg e2] at e; exact h.cross q r hq e
theorem Gd.put (h : Gd nn v D Lc now last) (hn : nn ≤ 4096) {p s : Nat} {bs : List UInt8} (hp : p < 1024) (hs : s ∈ freeL nn v.P v.L v.O) (hb : bs.length ≤ 248) (hw : Wr D Lc s (pageB bs) D' Lc') (fr : Bool) : Gd nn { v with O := setL v.O (p : Int) (s : Int), fr := fr } D' Lc' (upd now p (some bs)) last := by
  obtain ⟨s1, s2, s3, s4, s5⟩ := (free_mem h.geo.okL h.geo.okO).1 hs
  have hg := fun q => setL_get h.geo.okO hp (show 1 ≤ s ∧ s ≤ 65535 by omega) q
  refine ⟨h.geo.put hp hn hs, by rw [hw.S]; exact h.pub, fun j hj => ?_, fun q => ?_, by rw [hw.S]; exact h.lastH, hw.calm⟩
  · rcases hw.tch j hj with hj | rfl
    · exact h.tch j hj
    · rintro (h3 | h3 | ⟨q, h3, h4⟩)
      · omega
      · exact s3 h3
      · exact s4 q h4
  · show ((setL v.O (p : Int) (s : Int)).getD q 0 = 0 → _) ∧ ((setL v.O (p : Int) (s : Int)).getD q 0 ≠ 0 → _)
    unfold upd
    rw [hg]
    by_cases hq : q = p
    · rw [if_pos hq, if_pos hq]
      exact ⟨fun h0 => by omega, fun _ => ⟨bs, hb, by rw [hw.what_, if_pos rfl], rfl⟩⟩
    · rw [if_neg hq, if_neg hq]
      refine ⟨(h.nowH q).1, fun h0 => ?_⟩
      rw [hw.what_, if_neg (s5 q)]
      exact (h.nowH q).2 h0
theorem Geo.drop {P L O : List Nat} (h : Geo nn P L O) (p : Nat) : Geo nn P L (clearL O (p : Int)) := by
  have hg := fun q => clearL_get h.okO p q
  refine ⟨h.pl, h.pin, h.pnd, h.okL, Pag.Pgs.clearL_ok h.okO _, h.lin, fun q hq => ?_, h.linj, fun q r hq e => ?_, fun q r hq e => ?_⟩
  · rw [hg] at hq ⊢
    by_cases e : q = p
    · rw [if_pos e] at hq; exact absurd rfl hq
    · rw [if_neg e] at hq ⊢; exact h.oin q hq
  · rw [hg] at hq
    rw [hg, hg] at e
    by_cases e1 : q = p
    · rw [if_pos e1] at hq; exact absurd rfl hq
    · rw [if_neg e1] at e hq
      by_cases e2 : r = p
      · rw [if_pos e2] at e; exact absurd e hq
      · rw [if_neg e2] at e; exact h.oinj q r hq e
  · rw [hg] at e
    by_cases e2 : r = p
    · rw [if_pos e2] at e; exact absurd e hq
    · rw [if_neg e2] at e; exact h.cross q r hq e
theorem Gd.drop (h : Gd nn v D Lc now last) (p : Nat) (fr : Bool) : Gd nn { v with O := clearL v.O (p : Int), fr := fr } D Lc (upd now p none) last := by
  have hg := fun q => clearL_get h.geo.okO p q
  refine ⟨h.geo.drop p, h.pub, h.tch, fun q => ?_, h.lastH, h.calm⟩
  show ((clearL v.O (p : Int)).getD q 0 = 0 → _) ∧ ((clearL v.O (p : Int)).getD q 0 ≠ 0 → _)
  unfold upd
  rw [hg]
  by_cases hq : q = p
  · rw [if_pos hq, if_pos hq]
    exact ⟨fun _ => rfl, fun h0 => absurd rfl h0⟩
  · rw [if_neg hq, if_neg hq]
    exact h.nowH q
end
end Go.Proofs.YtolpgpphjnkehaaGreatDoor
/- shadow: Commit, apart from memory. -/
namespace Go.Proofs.YtolpgpphjnkehaaGreatDoor
set_option maxRecDepth 20000
open Go.RowKit Cac Dsk
open Pag.Pgs (got setL clearL partB pagesL sectorsL turnedL partN Ok none_)
/-- Parts that are turned have no sector yet. -/
def clr (P : List Nat) (T : List Nat) : List Nat := T.foldl (fun P i => P.set i 0) P
/-- Parts that are written get one. -/
def putP (P W F : List Nat) : List Nat := (W.zip F).foldl (fun P x => P.set x.1 x.2) P
theorem clr_len (T : List Nat) : ∀ P, (clr P T).length = P.length := by
  induction T with
  | nil => exact fun _ => rfl
  | cons i r ih => intro P; show (clr (P.set i 0) r).length = _; rw [ih, List.length_set]
theorem clr_get (T : List Nat) : ∀ (P : List Nat) (i : Nat), (clr P T)[i]? = (P[i]?).map fun x => if i ∈ T then 0 else x := by
  induction T with
  | nil => intro P i; simp [clr]
  | cons k r ih =>
    intro P i
    show (clr (P.set k 0) r)[i]? = _
    rw [ih, List.getElem?_set]
    by_cases e : k = i
    · subst e
      rw [if_pos rfl]
      by_cases hl : k < P.length
      · rw [if_pos hl, List.getElem?_eq_getElem hl]; simp
      · rw [if_neg hl, List.getElem?_eq_none (by omega)]; rfl
    · rw [if_neg e]
      have e' : ¬ i = k := fun x => e x.symm
      simp [e']
theorem clr_snoc (P T : List Nat) (i : Nat) : clr P (T ++ [i]) = (clr P T).set i 0 := by unfold clr; rw [List.foldl_append]; rfl
theorem putP_len (W : List Nat) : ∀ (P F : List Nat), (putP P W F).length = P.length := by
  induction W with
  | nil => intro P F; rfl
  | cons i r ih =>
    intro P F
    cases F with
    | nil => rfl
    | cons s F => show (putP (P.set i s) r F).length = _; rw [ih, List.length_set]
theorem putP_no (W : List Nat) : ∀ (P F : List Nat) (i : Nat), i ∉ W → (putP P W F)[i]? = P[i]? := by
  induction W with
  | nil => intro P F i _; rfl
  | cons k r ih =>
    intro P F i hi
    cases F with
    | nil => rfl
    | cons s F =>
      show (putP (P.set k s) r F)[i]? = _
      rw [ih _ _ _ (fun x => hi (List.mem_cons_of_mem _ x)), List.getElem?_set, if_neg (fun e => hi (by rw [e]; exact List.mem_cons_self))]
theorem putP_yes (W : List Nat) : ∀ (P F : List Nat) (k i s : Nat), W.Nodup → W[k]? = some i → F[k]? = some s → i < P.length → (putP P W F)[i]? = some s := by
  induction W with
  | nil => intro P F k i s _ h; simp at h
  | cons j r ih =>
    intro P F k i s hn hk hF hi
    cases F with
    | nil => simp at hF
    | cons x F =>
      show (putP (P.set j x) r F)[i]? = _
      rw [List.nodup_cons] at hn
      cases k with
      | zero =>
        simp at hk hF
        subst hk; subst hF
        rw [putP_no _ _ _ _ hn.1, List.getElem?_set, if_pos rfl, if_pos hi]
      | succ k =>
        simp at hk hF
        exact ih _ _ k i s hn.2 hk hF (by rw [List.length_set]; exact hi)
theorem putP_snoc (P W F : List Nat) (k i s : Nat) (hk : W[k]? = some i) (hF : F[k]? = some s) : putP P (W.take (k + 1)) F = (putP P (W.take k) F).set i s := by
  unfold putP
  have h1 := (List.getElem?_eq_some_iff.1 hk).1
  have h2 := (List.getElem?_eq_some_iff.1 hF).1
  have e : (W.take (k + 1)).zip F = (W.take k).zip F ++ [(i, s)] := by
    rw [List.take_succ_eq_append_getElem h1, (List.getElem?_eq_some_iff.1 hk).2]
    have hsplit : F = F.take k ++ s :: F.drop (k + 1) := by
      rw [← (List.getElem?_eq_some_iff.1 hF).2, ← List.drop_eq_getElem_cons h2, List.take_append_drop]
    have hl : (W.take k).length = (F.take k).length := by rw [List.length_take, List.length_take]; omega
    rw [hsplit, List.zip_append hl]
    have e2 : (W.take k).zip (F.take k ++ s :: F.drop (k + 1)) = (W.take k).zip (F.take k) := by
      have := List.zip_append (l₁ := W.take k) (r₁ := []) (l₂ := F.take k) (r₂ := s :: F.drop (k + 1)) hl
      rw [List.append_nil] at this
      rw [this]
      simp
    rw [e2]
    simp
  rw [e, List.foldl_append]
  rfl
/-- The parts that are written. -/
def wrtL (O T : List Nat) : List Nat := T.filter fun i => decide (0 < (partB O i).length)
theorem turnedL_mem {L K : List Nat} {i : Nat} : i ∈ turnedL L K ↔ i < 9 ∧ partN L i ≠ partN K i := by
  unfold turnedL
  rw [List.mem_filter, List.mem_range, decide_eq_true_eq]
theorem turnedL_nodup (L K : List Nat) : (turnedL L K).Nodup := List.Pairwise.filter _ List.nodup_range
theorem wrtL_nodup (L K : List Nat) : (wrtL L (turnedL L K)).Nodup := List.Pairwise.filter _ (turnedL_nodup L K)
theorem wrtL_mem {O T : List Nat} {i : Nat} : i ∈ wrtL O T ↔ i ∈ T ∧ partB O i ≠ [] := by
  unfold wrtL
  rw [List.mem_filter, decide_eq_true_eq, List.length_pos_iff]
theorem freeTo_nodup (l : List Nat) (k : Nat) : (freeTo l k).Nodup := List.Pairwise.filter _ List.nodup_range
/-- The parts behind a Commit. -/
def newP (nn : Nat) (P L O : List Nat) : List Nat := putP (clr P (turnedL O L)) (wrtL O (turnedL O L)) (freeL nn P L O)
section
variable {nn most t : Nat} {v : Sv} {D D' : DS} {Lc Lc' : List Fr} {now last : Nat → Option (List UInt8)} {P L O : List Nat}
theorem newP_cases (h : Geo nn P L O) (hf : (wrtL O (turnedL O L)).length ≤ (freeL nn P L O).length) {i x : Nat} (hx : (newP nn P L O)[i]? = some x) :
    (i ∉ turnedL O L ∧ P[i]? = some x) ∨ (i ∈ turnedL O L ∧ partB O i = [] ∧ x = 0) ∨ (partB O i ≠ [] ∧ ∃ k : Nat, (wrtL O (turnedL O L))[k]? = some i ∧ (freeL nn P L O)[k]? = some x) := by
  have hi : i < 9 := by
    have := (List.getElem?_eq_some_iff.1 hx).1
    unfold newP at this
    rw [putP_len, clr_len, h.pl] at this
    exact this
  by_cases hw : i ∈ wrtL O (turnedL O L)
  · obtain ⟨k, hk⟩ := List.mem_iff_getElem?.1 hw
    have hkl := (List.getElem?_eq_some_iff.1 hk).1
    obtain ⟨s, hs⟩ : ∃ s, (freeL nn P L O)[k]? = some s := ⟨_, List.getElem?_eq_getElem (by omega)⟩
    have := putP_yes _ (clr P (turnedL O L)) _ k i s (wrtL_nodup O L) hk hs (by rw [clr_len, h.pl]; exact hi)
    unfold newP at hx
    rw [this] at hx
    cases hx
    exact .inr (.inr ⟨(wrtL_mem.1 hw).2, k, hk, hs⟩)
  · unfold newP at hx
    rw [putP_no _ _ _ _ hw, clr_get] at hx
    obtain ⟨y, hy, e⟩ := Option.map_eq_some_iff.1 hx
    by_cases ht : i ∈ turnedL O L
    · rw [if_pos ht] at e
      refine .inr (.inl ⟨ht, ?_, e.symm⟩)
      by_cases hb : partB O i = []
      · exact hb
      · exact absurd (wrtL_mem.2 ⟨ht, hb⟩) hw
    · rw [if_neg ht] at e
      subst e
      exact .inl ⟨ht, hy⟩
/-- The parts that are written so far. -/
structure CmI (O W F : List Nat) (D : DS) (Lc : List Fr) (k : Nat) (D' : DS) (Lc' : List Fr) : Prop where
  S : D'.S = D.S
  yes : ∀ (m s i : Nat), m < k → F[m]? = some s → W[m]? = some i → what D' Lc' s = Blo.blockOf 2 (partB O i)
  no : ∀ j, (∀ m, m < k → F[m]? ≠ some j) → what D' Lc' j = what D Lc j
  calm : Calm Lc'
  tch : ∀ j, Tch D' Lc' j → Tch D Lc j ∨ ∃ m, m < k ∧ F[m]? = some j
theorem CmI.zero (O W F : List Nat) (hc : Calm Lc) : CmI O W F D Lc 0 D Lc := ⟨rfl, (fun m s i h => by omega), fun j _ => rfl, hc, fun j h => .inl h⟩
theorem nodup_inj {F : List Nat} (hn : F.Nodup) {m k s : Nat} (h1 : F[m]? = some s) (h2 : F[k]? = some s) : m = k := by
  obtain ⟨a, e1⟩ := List.getElem?_eq_some_iff.1 h1
  exact (List.getElem?_inj a hn).1 (h1.trans h2.symm)
theorem CmI.next {W F : List Nat} {k s i : Nat} {D2 : DS} {L2 : List Fr} (h : CmI O W F D Lc k D' Lc') (hn : F.Nodup) (hF : F[k]? = some s) (hW : W[k]? = some i) (hw : Wr D' Lc' s (Blo.blockOf 2 (partB O i)) D2 L2) : CmI O W F D Lc (k + 1) D2 L2 := by
  refine ⟨hw.S.trans h.S, fun m x j hm hx hj => ?_, fun j hj => ?_, hw.calm, fun j hj => ?_⟩
  · rw [hw.what_]
    by_cases e : m = k
    · subst e
      rw [hF] at hx; cases hx
      rw [hW] at hj; cases hj
      rw [if_pos rfl]
    · rw [if_neg (fun e2 => e (by subst e2; exact nodup_inj hn hx hF))]
      exact h.yes m x j (by omega) hx hj
  · rw [hw.what_, if_neg (fun e => hj k (by omega) (by rw [e]; exact hF))]
    exact h.no j (fun m hm => hj m (by omega))
  · rcases hw.tch j hj with hj | rfl
    · rcases h.tch j hj with hj | ⟨m, hm, e⟩
      · exact .inl hj
      · exact .inr ⟨m, by omega, e⟩
    · exact .inr ⟨k, by omega, hF⟩
theorem Geo.commit (h : Geo nn P L O) (hf : (wrtL O (turnedL O L)).length ≤ (freeL nn P L O).length) : Geo nn (newP nn P L O) O O := by
  have hm : ∀ {k s : Nat}, (freeL nn P L O)[k]? = some s → s < nn ∧ 2 ≤ s ∧ s ∉ P ∧ (∀ p, L.getD p 0 ≠ s) ∧ ∀ p, O.getD p 0 ≠ s := fun hk => (free_mem h.okL h.okO).1 (List.mem_of_getElem? hk)
  have hoin : ∀ p, O.getD p 0 ≠ 0 → 2 ≤ O.getD p 0 ∧ O.getD p 0 < nn ∧ O.getD p 0 ∉ newP nn P L O := fun p hp => by
    obtain ⟨h1, h2, h3⟩ := h.oin p hp
    refine ⟨h1, h2, fun hx => ?_⟩
    obtain ⟨i, hi⟩ := List.mem_iff_getElem?.1 hx
    rcases newP_cases h hf hi with ⟨_, h4⟩ | ⟨_, _, h4⟩ | ⟨_, k, _, h4⟩
    · exact h3 (List.mem_of_getElem? h4)
    · exact hp h4
    · exact (hm h4).2.2.2.2 p rfl
  refine ⟨by unfold newP; rw [putP_len, clr_len]; exact h.pl, fun i x hx => ?_, fun i j x hi hj h0 => ?_, h.okO, h.okO, hoin, hoin, h.oinj, h.oinj, h.oinj⟩
  · rcases newP_cases h hf hx with ⟨_, h4⟩ | ⟨_, _, h4⟩ | ⟨_, k, _, h4⟩
    · exact h.pin i x h4
    · exact .inl h4
    · exact .inr ⟨(hm h4).2.1, (hm h4).1⟩
  · rcases newP_cases h hf hi with ⟨_, h4⟩ | ⟨_, _, h4⟩ | ⟨_, k, h3, h4⟩
    · rcases newP_cases h hf hj with ⟨_, h5⟩ | ⟨_, _, h5⟩ | ⟨_, m, _, h5⟩
      · exact h.pnd i j x h4 h5 h0
      · exact absurd h5 h0
      · exact absurd (List.mem_of_getElem? h4) (hm h5).2.2.1
    · exact absurd h4 h0
    · rcases newP_cases h hf hj with ⟨_, h5⟩ | ⟨_, _, h5⟩ | ⟨_, m, h6, h5⟩
      · exact absurd (List.mem_of_getElem? h5) (hm h4).2.2.1
      · exact absurd h5 h0
      · have := nodup_inj (freeTo_nodup _ _) h4 h5
        subst this
        rw [h3] at h6
        exact Option.some.inj h6
/-- Behind a Commit. -/
theorem Gd.commit (h : Gd nn v D Lc now last) (hst : Sta nn most t D Lc) (hn : 16 ≤ nn) (hf : (wrtL v.O (turnedL v.O v.L)).length ≤ (freeL nn v.P v.L v.O).length) {M : List UInt8} (hM : M.length ≤ 200) (hep : v.ep + 1 < 4294967296)
    (hc : CmI v.O (wrtL v.O (turnedL v.O v.L)) (freeL nn v.P v.L v.O) D Lc (wrtL v.O (turnedL v.O v.L)).length D' Lc') {D2 : DS} {L2 : List Fr} {t2 : Nat} (hst2 : Sta nn most t2 D2 L2) (hk : L2.map key = Lc'.map key) (hcl : ∀ x ∈ L2, x.dirty = false) (hw : ∀ j, what D2 L2 j = what D' Lc' j) (fr : Bool) :
    Gd nn ⟨v.ep + 1, newP nn v.P v.L v.O, M, v.O, v.O, fr⟩ (rootD D2 (v.ep + 1) (newP nn v.P v.L v.O) M) L2 now now := by
  have hg := h.geo.commit hf
  have hr := rootD_read hst2.hale hn (v.ep + 1) (newP nn v.P v.L v.O) M hg.pl hM
  have hcalm : Calm L2 := fun x hx => by
    have hx2 : key x ∈ Lc'.map key := by rw [← hk]; exact List.mem_map_of_mem hx
    obtain ⟨y, hy, e⟩ := List.mem_map.1 hx2
    have e1 : y.s = x.s := congrArg Prod.fst e
    have e2 : y.pins = x.pins := congrArg Prod.snd e
    have := hc.calm y hy
    omega
  have hrd : ∀ j, readS D2 j = what D' Lc' j := fun j => by
    rw [← hw]
    exact (still_clean hst2 hcl j).symm
  have hlow : ∀ j, j < 2 → what D' Lc' j = D.S.getD j [] := fun j hj => by
    rw [hc.no j (fun m hm e => by have := ((free_mem h.geo.okL h.geo.okO).1 (List.mem_of_getElem? e)).2.1; omega)]
    exact (still hst (fun ht => h.tch j ht (.inl hj))).2
  have hS : ∀ j, 2 ≤ j → (rootD D2 (v.ep + 1) (newP nn v.P v.L v.O) M).S.getD j [] = what D' Lc' j := fun j hj => by
    rw [(hr j).2, if_neg (by omega)]
    exact hrd j
  have hW : ∀ j, 2 ≤ j → what (rootD D2 (v.ep + 1) (newP nn v.P v.L v.O) M) L2 j = what D' Lc' j := fun j hj => by
    rw [← hw]
    by_cases hx : ∃ x ∈ L2, x.s = j
    · obtain ⟨x, hx, rfl⟩ := hx
      rw [what_yes hst2.nodup hx, what_yes hst2.nodup hx]
    · rw [what_no (fun x hx' e => hx ⟨x, hx', e⟩), what_no (fun x hx' e => hx ⟨x, hx', e⟩), (hr j).1, if_neg (by omega)]
  have hO : ∀ p, v.O.getD p 0 ≠ 0 → what D' Lc' (v.O.getD p 0) = what D Lc (v.O.getD p 0) := fun p hp => hc.no _ (fun m hm e => ((free_mem h.geo.okL h.geo.okO).1 (List.mem_of_getElem? e)).2.2.2.2 p rfl)
  have hnow : Has (what D' Lc') v.O now := h.nowH.congr hO
  have htch : ∀ j, ¬ Tch (rootD D2 (v.ep + 1) (newP nn v.P v.L v.O) M) L2 j := fun j hj => by
    rcases hj with ⟨p, hp, _⟩ | ⟨x, hx, _, hd⟩
    · have hz := hst2.hale.write (s := (v.ep + 1) % 2) (by omega) (rootBlk_len (v.ep + 1) (newP nn v.P v.L v.O) M hg.pl hM)
      unfold rootD at hp
      rw [hz.barD] at hp
      cases hp
    · rw [hcl x hx] at hd; cases hd
  refine ⟨hg, ⟨hg, ⟨by show 0 < v.ep + 1; omega, hep⟩, hM, ?_, ?_, fun i x hx => ?_, fun p hp => ?_⟩, fun j hj => absurd hj (htch j), ?_, ?_, hcalm⟩
  · show (rootD D2 (v.ep + 1) (newP nn v.P v.L v.O) M).S.getD ((v.ep + 1) % 2) [] = _
    rw [(hr _).2, if_pos rfl]
  · right
    refine ⟨v.ep, v.P, v.M, ?_, by show v.ep < v.ep + 1; omega, h.geo.pl, h.pub.mlen, fun x hx => ?_⟩
    · show (rootD D2 (v.ep + 1) (newP nn v.P v.L v.O) M).S.getD ((v.ep + 1 + 1) % 2) [] = _
      rw [(hr _).2, if_neg (by omega), show (v.ep + 1 + 1) % 2 = v.ep % 2 by omega, hrd, hlow _ (by omega)]
      exact h.pub.one
    · obtain ⟨i, hi⟩ := List.mem_iff_getElem?.1 hx
      have := hst.top
      rcases h.geo.pin i x hi with e | e <;> omega
  · have hx' : (newP nn v.P v.L v.O)[i]? = some x := hx
    rcases newP_cases h.geo hf hx' with ⟨h3, h4⟩ | ⟨_, h3, h4⟩ | ⟨h3, k, h5, h4⟩
    · have hi : i < 9 := by have := (List.getElem?_eq_some_iff.1 h4).1; rw [h.geo.pl] at this; exact this
      have hsame : partB v.O i = partB v.L i := by
        have hN : partN v.O i = partN v.L i := by
          by_cases e : partN v.O i = partN v.L i
          · exact e
          · exact absurd (turnedL_mem.2 ⟨hi, e⟩) h3
        unfold partB
        rw [hN]
      show (x = 0 → partB v.O i = []) ∧ (x ≠ 0 → partB v.O i ≠ [] ∧ (rootD D2 (v.ep + 1) (newP nn v.P v.L v.O) M).S.getD x [] = _)
      rw [hsame]
      have hp := h.pub.part i x h4
      refine ⟨hp.1, fun h0 => ⟨(hp.2 h0).1, ?_⟩⟩
      have h2x : 2 ≤ x := by rcases h.geo.pin i x h4 with e | e <;> omega
      rw [hS x h2x, hc.no x (fun m hm e => ((free_mem h.geo.okL h.geo.okO).1 (List.mem_of_getElem? e)).2.2.1 (List.mem_of_getElem? h4)), (still hst (fun ht => h.tch x ht (.inr (.inl (List.mem_of_getElem? h4))))).2]
      exact (hp.2 h0).2
    · exact ⟨fun _ => h3, fun h0 => absurd h4 h0⟩
    · have h2x := ((free_mem h.geo.okL h.geo.okO).1 (List.mem_of_getElem? h4)).2.1
      refine ⟨fun e => by omega, fun _ => ⟨h3, ?_⟩⟩
      show (rootD D2 (v.ep + 1) (newP nn v.P v.L v.O) M).S.getD x [] = _
      rw [hS x h2x]
      exact hc.yes k x i (List.getElem?_eq_some_iff.1 h5).1 h4 h5
  · obtain ⟨b, h1, h2, _⟩ := (hnow p).2 hp
    refine ⟨b, h1, ?_⟩
    show (rootD D2 (v.ep + 1) (newP nn v.P v.L v.O) M).S.getD (v.O.getD p 0) [] = _
    rw [hS _ (h.geo.oin p hp).1]
    exact h2
  · exact hnow.congr fun p hp => hW _ (h.geo.oin p hp).1
  · exact hnow.congr fun p hp => hS _ (h.geo.oin p hp).1
end
end Go.Proofs.YtolpgpphjnkehaaGreatDoor
/- shadow: how many are free, apart from memory. -/
namespace Go.Proofs.YtolpgpphjnkehaaGreatDoor
set_option maxRecDepth 20000
open Go.RowKit Cac Dsk
open Pag.Pgs (got setL clearL partB pagesL sectorsL turnedL partN Ok none_)
/-- Free, but for the parts. -/
def avail (nn : Nat) (L O : List Nat) : List Nat := (List.range nn).filter fun j => decide (2 ≤ j ∧ j ∉ sectorsL L ∧ j ∉ sectorsL O)
theorem ne_len {l : List Nat} (hn : l.Nodup) (x : Nat) : l.length ≤ (l.filter fun j => decide (j ≠ x)).length + 1 := by
  induction l with
  | nil => simp
  | cons a r ih =>
    rw [List.nodup_cons] at hn
    by_cases e : a = x
    · subst e
      rw [List.filter_cons_of_neg (by simp), List.filter_eq_self.2 (fun j hj => by
        have : j ≠ a := fun e => hn.1 (e ▸ hj)
        simpa using this)]
      simp
    · rw [List.filter_cons_of_pos (by simpa using e)]
      have := ih hn.2
      simp only [List.length_cons]
      omega
theorem out_len (P : List Nat) : ∀ {l : List Nat}, l.Nodup → l.length ≤ (l.filter fun j => decide (j ∉ P)).length + P.length := by
  induction P with
  | nil => intro l _; rw [List.filter_eq_self.2 (fun j _ => by simp)]; exact Nat.le_add_right _ _
  | cons a r ih =>
    intro l hn
    have h1 := ih hn
    have h2 := ne_len (List.Pairwise.filter (fun j => decide (j ∉ r)) hn) a
    rw [List.filter_filter] at h2
    have e : (l.filter fun j => decide (j ∉ a :: r)) = l.filter fun j => decide (j ≠ a) && decide (j ∉ r) := by
      refine List.filter_congr fun j _ => ?_
      simp [List.mem_cons]
    rw [e]
    simp only [List.length_cons]
    omega
theorem len_mono {l : List Nat} {p q : Nat → Bool} (h : ∀ x ∈ l, p x = true → q x = true) : (l.filter p).length ≤ (l.filter q).length := by
  rw [← List.countP_eq_length_filter, ← List.countP_eq_length_filter]
  exact List.countP_mono_left h
theorem free_avail (nn : Nat) (P L O : List Nat) : freeL nn P L O = (avail nn L O).filter fun j => decide (j ∉ P) := by
  unfold freeL freeTo avail used
  rw [List.filter_filter]
  refine List.filter_congr fun j _ => ?_
  rw [Bool.eq_iff_iff]
  simp only [List.mem_append, Bool.and_eq_true, decide_eq_true_eq, Bool.not_eq_true', decide_eq_false_iff_not]
  constructor
  · rintro ⟨h1, h2⟩
    exact ⟨fun e => h2 (.inl (.inl e)), h1, fun e => h2 (.inl (.inr e)), fun e => h2 (.inr e)⟩
  · rintro ⟨h1, h2, h3, h4⟩
    refine ⟨h2, ?_⟩
    rintro ((e | e) | e)
    · exact h1 e
    · exact h3 e
    · exact h4 e
theorem avail_nodup (nn : Nat) (L O : List Nat) : (avail nn L O).Nodup := List.Pairwise.filter _ List.nodup_range
theorem free_le (nn : Nat) (P L O : List Nat) : (freeL nn P L O).length ≤ (avail nn L O).length ∧ (avail nn L O).length ≤ (freeL nn P L O).length + P.length := by
  rw [free_avail]
  exact ⟨List.length_filter_le _ _, out_len P (avail_nodup nn L O)⟩
/-- There is room for the parts. -/
def Jr (nn : Nat) (L O : List Nat) : Prop := (∀ p, L.getD p 0 = 0 ∧ O.getD p 0 = 0) ∨ 18 ≤ (avail nn L O).length
section
variable {nn : Nat} {P L O : List Nat}
theorem avail_mono {L' O' : List Nat} (hL : Ok L) (hO : Ok O) (hL' : Ok L') (hO' : Ok O') (h : ∀ p j, j ≠ 0 → (L'.getD p 0 = j ∨ O'.getD p 0 = j) → ∃ q, L.getD q 0 = j ∨ O.getD q 0 = j) : (avail nn L O).length ≤ (avail nn L' O').length := by
  unfold avail
  refine len_mono fun j _ hj => ?_
  rw [decide_eq_true_eq, sectors_mem hL, sectors_mem hO] at hj
  rw [decide_eq_true_eq, sectors_mem hL', sectors_mem hO']
  refine ⟨hj.1, ?_, ?_⟩
  · rintro ⟨h0, p, e⟩
    obtain ⟨q, e1 | e1⟩ := h p j h0 (.inl e)
    · exact hj.2.1 ⟨h0, q, e1⟩
    · exact hj.2.2 ⟨h0, q, e1⟩
  · rintro ⟨h0, p, e⟩
    obtain ⟨q, e1 | e1⟩ := h p j h0 (.inr e)
    · exact hj.2.1 ⟨h0, q, e1⟩
    · exact hj.2.2 ⟨h0, q, e1⟩
theorem Jr.drop (h : Jr nn L O) (hL : Ok L) (hO : Ok O) (p : Nat) : Jr nn L (clearL O (p : Int)) := by
  rcases h with h | h
  · refine .inl fun q => ⟨(h q).1, ?_⟩
    rw [clearL_get hO]
    split
    · rfl
    · exact (h q).2
  · refine .inr (Nat.le_trans h (avail_mono hL hO hL (Pag.Pgs.clearL_ok hO _) fun q j h0 e => ⟨q, ?_⟩))
    rcases e with e | e
    · exact .inl e
    · rw [clearL_get hO] at e
      split at e
      · exact absurd e.symm h0
      · exact .inr e
theorem Jr.commit (h : Jr nn L O) (hL : Ok L) (hO : Ok O) : Jr nn O O := by
  rcases h with h | h
  · exact .inl fun q => ⟨(h q).2, (h q).2⟩
  · exact .inr (Nat.le_trans h (avail_mono hL hO hO hO fun q j _ e => ⟨q, .inr (e.elim id id)⟩))
theorem Jr.abort (h : Jr nn L O) (hL : Ok L) (hO : Ok O) : Jr nn L L := by
  rcases h with h | h
  · exact .inl fun q => ⟨(h q).1, (h q).1⟩
  · exact .inr (Nat.le_trans h (avail_mono hL hO hL hL fun q j _ e => ⟨q, .inl (e.elim id id)⟩))
/-- A page more is written: one is free no more. -/
theorem free_put (hL : Ok L) (hO : Ok O) (hn : nn ≤ 4096) {p s : Nat} (hp : p < 1024) (hs : s ∈ freeL nn P L O) (ht : O.getD p 0 = 0 ∨ L.getD p 0 = O.getD p 0) : freeL nn P L (setL O (p : Int) (s : Int)) = (freeL nn P L O).filter fun j => decide (j ≠ s) := by
  obtain ⟨s1, s2, s3, s4, s5⟩ := (free_mem hL hO).1 hs
  have hg := fun q => setL_get hO hp (show 1 ≤ s ∧ s ≤ 65535 by omega) q
  unfold freeL freeTo used
  rw [List.filter_filter]
  refine List.filter_congr fun j _ => ?_
  rw [Bool.eq_iff_iff]
  simp only [List.mem_append, Bool.and_eq_true, decide_eq_true_eq, Bool.not_eq_true', decide_eq_false_iff_not, sectors_mem hL, sectors_mem hO, sectors_mem (Pag.Pgs.setL_ok hO (p : Int) (s : Int))]
  constructor
  · rintro ⟨h1, h2⟩
    refine ⟨fun e => h2 (.inr ⟨by omega, p, by rw [hg, if_pos rfl]; exact e.symm⟩), h1, ?_⟩
    rintro ((e | e) | ⟨h0, q, e⟩)
    · exact h2 (.inl (.inl e))
    · exact h2 (.inl (.inr e))
    · by_cases hq : q = p
      · subst hq
        rcases ht with ht | ht
        · exact absurd (e ▸ ht) h0
        · exact h2 (.inl (.inr ⟨h0, q, ht.trans e⟩))
      · exact h2 (.inr ⟨h0, q, by rw [hg, if_neg hq]; exact e⟩)
  · rintro ⟨h1, h2, h3⟩
    refine ⟨h2, ?_⟩
    rintro ((e | e) | ⟨h0, q, e⟩)
    · exact h3 (.inl (.inl e))
    · exact h3 (.inl (.inr e))
    · rw [hg] at e
      by_cases hq : q = p
      · rw [if_pos hq] at e; exact h1 e.symm
      · rw [if_neg hq] at e; exact h3 (.inr ⟨h0, q, e⟩)
theorem mem_len {l : List Nat} {x : Nat} (hx : x ∈ l) : (l.filter fun j => decide (j ≠ x)).length + 1 ≤ l.length := by
  induction l with
  | nil => cases hx
  | cons a r ih =>
    by_cases e : a = x
    · rw [List.filter_cons_of_neg (by simp [e])]
      have := List.length_filter_le (fun j => decide (j ≠ x)) r
      simp only [List.length_cons]
      omega
    · rw [List.filter_cons_of_pos (by simpa using e)]
      have hx' : x ∈ r := by
        rcases List.mem_cons.1 hx with h | h
        · exact absurd h.symm e
        · exact h
      have := ih hx'
      simp only [List.length_cons]
      omega
theorem free_put_len (hL : Ok L) (hO : Ok O) (hn : nn ≤ 4096) {p s : Nat} (hp : p < 1024) (hs : s ∈ freeL nn P L O) (ht : O.getD p 0 = 0 ∨ L.getD p 0 = O.getD p 0) : (freeL nn P L (setL O (p : Int) (s : Int))).length + 1 = (freeL nn P L O).length := by
  rw [free_put hL hO hn hp hs ht]
  have h1 := mem_len hs
  have h2 := ne_len (freeTo_nodup (used P L O) nn) s
  unfold freeL at h1 ⊢
  omega
theorem Jr.put (hL : Ok L) (hO : Ok O) (hn : nn ≤ 4096) {p s : Nat} (hp : p < 1024) (hs : s ∈ freeL nn P L O) (h18 : 18 < (freeL nn P L O).length) (ht : O.getD p 0 = 0 ∨ L.getD p 0 = O.getD p 0) : Jr nn L (setL O (p : Int) (s : Int)) := by
  have h1 := free_put_len hL hO hn hp hs ht
  have h2 := (free_le nn P L (setL O (p : Int) (s : Int))).1
  exact .inr (by omega)
theorem Jr.enough (h : Jr nn L O) (hL : Ok L) (hO : Ok O) (hP : P.length = 9) : (wrtL O (turnedL O L)).length ≤ (freeL nn P L O).length := by
  rcases h with h | h
  · have e : wrtL O (turnedL O L) = [] := by
      unfold wrtL
      rw [List.filter_eq_nil_iff]
      intro i hi
      have hOL : O = L := by
        apply List.ext_getElem?
        intro k
        have h1 := (h k).1
        have h2 := (h k).2
        rw [List.getD_eq_getElem?_getD] at h1 h2
        rcases Nat.lt_or_ge k 1116 with hk | hk
        · rw [List.getElem?_eq_getElem (by rw [hO.len]; exact hk)] at h2 ⊢
          rw [List.getElem?_eq_getElem (by rw [hL.len]; exact hk)] at h1 ⊢
          simp at h1 h2
          rw [h1, h2]
        · rw [List.getElem?_eq_none (by rw [hO.len]; exact hk), List.getElem?_eq_none (by rw [hL.len]; exact hk)]
      exact absurd (by rw [hOL]) (turnedL_mem.1 hi).2
    rw [e]
    exact Nat.zero_le _
  · have h1 := (free_le nn P L O).2
    have h2 : (wrtL O (turnedL O L)).length ≤ 9 := by
      have h3 : (turnedL O L).length ≤ 9 := by
        have := List.length_filter_le (fun i => decide (partN O i ≠ partN L i)) (List.range 9)
        rw [List.length_range] at this
        exact this
      exact Nat.le_trans (List.length_filter_le _ _) h3
    omega
end
end Go.Proofs.YtolpgpphjnkehaaGreatDoor
