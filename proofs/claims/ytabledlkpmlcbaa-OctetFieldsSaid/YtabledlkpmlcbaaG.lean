/- The anchor 'works' of layer 1. -/
import Derived.Test.YtabledlkpmlcbaaF
import Derived.Maps.AppendAt
namespace Go.Proofs.Ytabledlkpmlcbaa
open Go.RowKit

theorem fill_okL (A : Option Addr) (len cap n : Nat) (bs : List UInt8) (w : World) (hl : bs.length = len) (hle : len ≤ n) (hn : n ≤ 1048576) (hA : Bytes w A bs) :
    Calls Try.prog 15 #[.slice A len cap, .int .i64 n] w fun e W' => e = .returned (.tuple #[.slice (some ⟨w.heap.size, 0, none⟩) n n, .bool true]) ∧
      Blk W' w.heap.size 5 (row8 (filled bs n)) ∧ Below w.heap.size w W' := by subst hl; exact fill_ok A cap n bs w hle hn hA
theorem get_okL (A : Option Addr) (len cap at_ n : Nat) (bs : List UInt8) (w : World) (hl : bs.length = len) (hn : sizeB n = true) (hle : at_ + n ≤ len) (hlm : len ≤ maxLen) (hA : Bytes w A bs) :
    Calls Try.prog 10 #[.slice A len cap, .int .i64 at_, .int .i64 n] w fun e W' => e = .returned (.tuple #[.int .u64 (leN (fieldOf bs at_ n) : Int), .int .i64 0]) ∧ Below w.heap.size w W' := by
  subst hl; exact get_ok A cap at_ n bs w hn hle hlm hA
theorem cut_okL (A : Option Addr) (len cap at_ n : Nat) (bs : List UInt8) (w : World) (hl : bs.length = len) (hle : at_ + n ≤ len) (hlm : len ≤ 281474976710656) (hA : Bytes w A bs) :
    Calls Try.prog 13 #[.slice A len cap, .int .i64 at_, .int .i64 n] w fun e W' => e = .returned (.tuple #[.slice (some ⟨w.heap.size, 0, none⟩) n n, .bool true]) ∧
      Blk W' w.heap.size 5 (row8 (fieldOf bs at_ n)) ∧ Below w.heap.size w W' := by subst hl; exact cut_ok A cap at_ n bs w hle hlm hA
theorem put_okL (A : Option Addr) (len cap n x : Nat) (bs : List UInt8) (w : World) (hl : bs.length = len) (hn : sizeB n = true) (hlm : len ≤ 140737488355328) (hA : Bytes w A bs) :
    Calls Try.prog 12 #[.slice A len cap, .int .u64 x, .int .i64 n] w fun e W' => e = .returned (.slice (some ⟨w.heap.size + 2, 0, none⟩) (len + n) (len + n)) ∧
      Blk W' (w.heap.size + 2) 5 (row8 (bs ++ lePut x n)) ∧ Below w.heap.size w W' := by subst hl; exact put_ok A cap n x bs w hn hlm hA
theorem run_str8L (w : World) (A : Option Addr) (len cap : Nat) (bs : List UInt8) (hl : bs.length = len) (hA : Bytes w A bs) :
    (convert 22 9 (.slice A len cap)).run Try.prog w = .ok (.string (str bs)) w := by subst hl; exact run_str8 w A cap bs hA

theorem own_below {w w' : World} {base : Nat} {e : TypeId} {size : Nat} {v : Value} {n : Nat} {xs : List Value} (h : w.ownsRow base e size v n xs) (hb : Below w.heap.size w w') : w'.ownsRow base e size v n xs :=
  h.kept (row := none) ⟨hb.os, hb.tape, hb.output, hb.size, fun k hk _ => hb.block k hk⟩ (by cases v.ownBlock <;> simp)

/-- append, where its run is known. -/
theorem wpList_app {P : Program} {w : World} {ops : Array Oper} {rest : List Oper} {o : Oper} {a : Act} {Q : Exit → Act → World → Prop} (hgd : o.guard = none) (s x : Operand) (t : TypeId)
    (ho : o.op = .call { callee := .builtin .append, args := #[s, x], argTypes := #[t, t] }) (v xv v' : Value) (w' : World) (hs : a.eval s = v) (hx : a.eval x = xv)
    (hrun : (Builtin.append_ #[t, t] o.type #[v, xv]).run P w = .ok v' w') (h : wpList P ops Q rest (a.put o.dst v') w') : wpList P ops Q (o :: rest) a w :=
  wpList_plain hgd fun K hK => by
    unfold Oper.wp execOp
    simp only [ho, resolve, invoke, builtin, Sem.run_bind, Sem.run_pure, Result.andThen_ok, List.map_toArray, List.map_cons, List.map_nil, hs, hx, hrun]
    exact hK _ _ h

/-- append of bytes to a row of the call's own. -/
theorem run_app8 (w : World) (base : Nat) (v : Value) (n : Nat) (xs : List UInt8) (hown : w.ownsRow base 5 1 v n (xs.map bv)) (A : Option Addr) (len c : Nat) (bs : List UInt8) (hlen : bs.length = len) (hA : Bytes w A bs)
    (hb : n + len ≤ 140737488355328) (hbase : base ≤ w.heap.size) :
    ∃ v' w', (Builtin.append_ #[22, 22] 22 #[v, .slice A len c]).run Try.prog w = .ok v' w' ∧ w'.ownsRow base 5 1 v' (n + len) ((xs ++ bs).map bv) ∧ w.grownBy w' v.ownBlock := by
  obtain ⟨i0, hi, hz0, hz1, hz2⟩ := info_parts Try.info8
  have hcells : ∀ (a : Addr), A = some a → ∀ (j : Nat) (u : Value), (bs.map bv)[j]? = some u → w.cell? (a.add j) = some u := fun a e j u hu => by
    rw [List.getElem?_map] at hu
    cases hj : bs[j]? with
    | none => rw [hj] at hu; cases hu
    | some d =>
      rw [hj] at hu
      simp only [Option.map_some, Option.some.injEq] at hu
      subst hu
      obtain ⟨b, off, e', _, hc⟩ := hA j d hj
      rw [e] at e'; cases e'
      have e2 : (⟨b, off, none⟩ : Addr).add j = ⟨b, off + j, none⟩ := by unfold Addr.add; split <;> simp_all
      rw [e2]; exact hc
  have h1 : ∀ u ∈ bs.map bv, u.oneCell' = true := fun u hu => by obtain ⟨d, _, rfl⟩ := List.mem_map.1 hu; rfl
  cases A with
  | some a =>
    obtain ⟨v', w', hrun, h2, h3, _, _⟩ := run_append_own_at (P := Try.prog) w base 22 22 5 i0 (.int .u8 0) 1 1 Try.underlying22 hi hz0 hz1 hz2 rfl (by decide) v n (xs.map bv) hown a len c (bs.map bv) (by simp; omega) (hcells a rfl) h1 (by unfold maxLen; omega) (by omega) hbase
    exact ⟨v', w', hrun, by rw [List.map_append]; exact h2, h3⟩
  | none =>
    have h0 : bs = [] := by
      cases bs with
      | nil => rfl
      | cons d r =>
        obtain ⟨b, off, e, _⟩ := hA 0 d rfl
        cases e
    subst h0
    obtain rfl : 0 = len := hlen
    refine ⟨v, w, ?_, by simpa using hown, World.grownBy.refl w _⟩
    rcases hown.2 with ⟨rfl, rfl⟩ | ⟨g, cap, cur, rfl, _, _, hnc, _⟩
    · simp [Builtin.append_, run_underlying Try.underlying22, sizeOf, typeInfo, hi, Builtin.lenOf, Builtin.firstCells]
    · simp [Builtin.append_, run_underlying Try.underlying22, sizeOf, typeInfo, hi, Builtin.lenOf, Builtin.firstCells, hnc, storeCells]

theorem Bytes.of_own {w : World} {base n : Nat} {t : TypeId} {A : Option Addr} {c : Nat} {bs : List UInt8} (h : w.ownsRow base t 1 (.slice A n c) n (bs.map bv)) : Bytes w A bs := fun k d hk => by
  rcases h.2 with ⟨e, rfl⟩ | ⟨g, cap, cur, e, hb, hg, hn, hm, hs, ht⟩
  · have := h.1; simp at this; subst this; simp at hk
  · injection e with e1 e2 e3
    have hlt : g < w.heap.size := (Array.getElem?_eq_some_iff.1 hg).1
    refine ⟨g, 0, e1, hlt, ?_⟩
    have hkl : k < n := by have := h.1; simp at this; have := (List.getElem?_eq_some_iff.1 hk).1; omega
    rw [Nat.zero_add, cell_of_row w g k cur t (0, 0) hg]
    have h2 : (cur.toList.take (n * 1))[k]? = some (bv d) := by rw [ht]; simp [hk]
    rw [List.getElem?_take_of_lt (by omega)] at h2
    simpa [bv] using h2

/-- string(b) of a row of the call's own. -/
theorem run_strOwn (w : World) (base n : Nat) (v : Value) (bs : List UInt8) (h : w.ownsRow base 5 1 v n (bs.map bv)) :
    (convert 22 9 v).run Try.prog w = .ok (.string (str bs)) w := by
  have hl : bs.length = n := by have := h.1; simp at this; exact this
  rcases h.2 with ⟨rfl, rfl⟩ | ⟨g, cap, cur, rfl, _⟩
  · exact run_str8L w none 0 0 bs hl (Bytes.of_own h)
  · exact run_str8L w _ n cap bs hl (Bytes.of_own h)

theorem put_lit (w : World) : Calls Try.prog 12 #[.slice (some ⟨w.heap.size, 0, none⟩) 1 1, .int .u64 515, .int .i64 2] (w.alloc (.cells #[.int .u8 9] 5)) fun e W' =>
    e = .returned (.slice (some ⟨w.heap.size + 3, 0, none⟩) 3 3) ∧ Blk W' (w.heap.size + 3) 5 (row8 [9, 3, 2]) ∧ Below (w.heap.size + 1) (w.alloc (.cells #[.int .u8 9] 5)) W' := by
  have h := put_in (some ⟨w.heap.size, 0, none⟩) 1 2 515 [9] (w.alloc (.cells #[.int .u8 9] 5)) (by decide) (by decide)
    (Bytes.of_blk (Blk.new w 5 #[.int .u8 9]) (fun k c hk => by
      cases k with
      | zero => simp at hk; subst hk; rfl
      | succ k => simp at hk))
  refine h.mono ?_
  rintro e W' ⟨rfl, hR, hB⟩
  rw [World.size_alloc] at *
  exact ⟨rfl, hR, hB⟩

set_option maxHeartbeats 1000000 in
theorem works_any (w : World) : Calls Try.prog 8 #[] w fun e W' => e = .returned (.bool true) ∧ Below w.heap.size w W' := by
  have hp := put_lit w
  have HP := Lib.hid hp
  clear hp
  go_enter Try.func8, Try.ntmps8
  go_wp2_with fail
  refine HP.out.mono ?_
  rintro e W1 ⟨rfl, hR1, hB1⟩
  have hlt1 : w.heap.size + 3 < W1.heap.size := hR1.lt
  have hA1 : Bytes W1 (some ⟨w.heap.size + 3, 0, none⟩) [9, 3, 2] := Bytes.row hR1
  have hf := fill_ok (some ⟨w.heap.size + 3, 0, none⟩) 3 6 [9, 3, 2] W1 (by decide) (by decide) hA1
  have hBw1 : Below w.heap.size w W1 := ((Below.refl _ w).alloc (Nat.le_refl _) _).trans (hB1.mono (by omega))
  have HF := Lib.hid hf
  clear hf hA1 hR1 hB1
  go_wp2_with fail
  refine HF.out.mono ?_
  rintro e W2 ⟨rfl, hR2, hB2⟩
  have hlt2 : W1.heap.size < W2.heap.size := hR2.lt
  have hA2 : Bytes W2 (some ⟨W1.heap.size, 0, none⟩) [9, 3, 2, 0, 0, 0] := Bytes.row hR2
  have hBw2 : Below w.heap.size w W2 := hBw1.trans (hB2.mono (by omega))
  have hg : Calls Try.prog 10 #[.slice (some ⟨W1.heap.size, 0, none⟩) 6 6, .int .i64 1, .int .i64 2] W2 fun e W' => e = .returned (.tuple #[.int .u64 515, .int .i64 0]) ∧ Below W2.heap.size W2 W' :=
    get_ok (some ⟨W1.heap.size, 0, none⟩) 6 1 2 [9, 3, 2, 0, 0, 0] W2 (by decide) (by decide) (by decide) hA2
  have HG := Lib.hid hg
  have HA2 := Lib.hid hA2
  clear hg hA2 hR2 hB2 HF HP
  go_wp2_with fail
  refine HG.out.mono ?_
  rintro e W3 ⟨rfl, hB3⟩
  have hBw3 : Below w.heap.size w W3 := hBw2.trans (hB3.mono (by omega))
  have hlt3 : W2.heap.size ≤ W3.heap.size := hB3.size
  have hA3 : Bytes W3 (some ⟨W1.heap.size, 0, none⟩) [9, 3, 2, 0, 0, 0] := HA2.out.below hB3
  have hn : Calls Try.prog 10 #[.slice (some ⟨W1.heap.size, 0, none⟩) 6 6, .int .i64 5, .int .i64 2] W3 fun e W' => e = .returned (.tuple #[.int .u64 0, .int .i64 1]) ∧ W3 = W' :=
    get_no (some ⟨W1.heap.size, 0, none⟩) 6 6 5 2 W3 (by decide) (by decide) (by decide) (.inr (by decide))
  have hc : Calls Try.prog 13 #[.slice (some ⟨W1.heap.size, 0, none⟩) 6 6, .int .i64 2, .int .i64 3] W3 fun e W' => e = .returned (.tuple #[.slice (some ⟨W3.heap.size, 0, none⟩) 3 3, .bool true]) ∧
      Blk W' W3.heap.size 5 (row8 [2, 0, 0]) ∧ Below W3.heap.size W3 W' :=
    cut_ok (some ⟨W1.heap.size, 0, none⟩) 6 2 3 [9, 3, 2, 0, 0, 0] W3 (by decide) (by decide) hA3
  have HN := Lib.hid hn
  have HC := Lib.hid hc
  clear hn hc hA3 hB3 HG HA2
  go_wp2_with fail
  refine HN.out.mono ?_
  rintro e W4 ⟨rfl, rfl⟩
  go_wp2_with fail
  refine HC.out.mono ?_
  rintro e W5 ⟨rfl, hR5, hB5⟩
  have c0 : W5.cell? ⟨W3.heap.size, 0, none⟩ = some (.int .u8 2) := hR5.cell 0
  have c2 : W5.cell? ⟨W3.heap.size, 2, none⟩ = some (.int .u8 0) := hR5.cell 2
  have hBw5 : Below w.heap.size w W5 := hBw3.trans (hB5.mono (by omega))
  have HB5 := Lib.hid hBw5
  clear hR5 hB5 hBw5 HN HC hBw1 hBw2 hBw3
  go_wp2
  go_ret
  exact ⟨rfl, HB5.out⟩

end Go.Proofs.Ytabledlkpmlcbaa
