/- heap: rows of words that are appended to; Clone, own. -/
import Derived.Test.YtclkkfffecmjnaaC
import Derived.Lib.LazyBuf
namespace Go.Proofs.Ytclkkfffecmjnaa
open Go.RowKit
attribute [local go_sem] Oper.semAt_some
theorem flat_app (xs ys : List Wd) : flat (xs ++ ys) = flat xs ++ flat ys := by unfold flat; rw [List.flatMap_append]
theorem WRow.of_own {B : Nat} {w : World} {A : Option Addr} {n c : Nat} {ws : List Wd} (h : w.ownsRow B 37 2 (.slice A n c) n (flat ws)) (hr : ∀ x ∈ ws, x.ok) : WRow B w A n c ws := by
  have hl : ws.length = n := by have := h.1; rw [flat_len] at this; omega
  rcases h.2 with ⟨e, rfl⟩ | ⟨g, cap, cur, e, hB, hg, h1, h2, _⟩
  · injection e with e1 e2 e3
    subst e1; subst e3
    have : ws = [] := List.eq_nil_of_length_eq_zero hl
    subst this
    exact WRow.nil B w
  · injection e with e1 e2 e3
    subst e1; subst e3
    have hBk : Blk w g 37 cur := hg
    refine ⟨hl, h1, h2, fun r x hx => ?_, fun p e => by cases e; exact ⟨rfl, rfl, hB, hBk.lt⟩, fun p e j => by cases e; exact hBk.frozen j⟩
    have hrl := (List.getElem?_eq_some_iff.1 hx).1
    have c0 := h.cellAt (r * 2) (by omega)
    have c1 := h.cellAt (r * 2 + 1) (by omega)
    obtain ⟨f0, f1⟩ := flat_get hx
    rw [f0] at c0
    rw [f1] at c1
    exact ⟨g, 0, rfl, hBk.lt, by rw [Nat.zero_add]; exact c0, by rw [Nat.zero_add]; exact c1, hr x (List.mem_of_getElem? hx)⟩
theorem own_slice {w : World} {base size n : Nat} {e : TypeId} {v : Value} {xs : List Value} (h : w.ownsRow base e size v n xs) : ∃ A c, v = .slice A n c := by
  rcases h.2 with ⟨rfl, e⟩ | ⟨g, cap, cur, rfl, _⟩
  · exact ⟨none, 0, by rw [e]⟩
  · exact ⟨_, _, rfl⟩
/-- append of words to a row of the call's own. -/
theorem run_appW (w : World) (base : Nat) (v : Value) (n : Nat) (xs : List Wd) (hown : w.ownsRow base 37 2 v n (flat xs)) (A : Option Addr) (len c : Nat) (bs : List Wd) (hlen : bs.length = len) (hA : Words w A bs)
    (hb : n + len ≤ 140737488355) (hbase : base ≤ w.heap.size) :
    ∃ v' w', (Builtin.append_ #[33, 33] 33 #[v, .slice A len c]).run Try.prog w = .ok v' w' ∧ w'.ownsRow base 37 2 v' (n + len) (flat (xs ++ bs)) ∧ w.grownBy w' v.ownBlock ∧ (v'.ownBlock = v.ownBlock ∨ v'.ownBlock = some w.heap.size) := by
  have hI : (Try.prog.info? 37).map (fun i => (i.zero, i.size, i.bytes)) = some (some (.agg #[.int .u8 0, .int .i64 0]), 2, 16) := by kernel_rfl
  obtain ⟨i0, hi, hz0, hz1, hz2⟩ := info_parts hI
  cases A with
  | some a =>
    have hcell : ∀ (j : Nat) (u : Value), (flat bs)[j]? = some u → w.cell? (a.add j) = some u := fun j u hj => by
      have hjl := (List.getElem?_eq_some_iff.1 hj).1
      rw [flat_len] at hjl
      obtain ⟨x, hx⟩ : ∃ x, bs[j / 2]? = some x := ⟨_, List.getElem?_eq_getElem (by omega)⟩
      obtain ⟨b, off, e, _, c0, c1, _⟩ := hA _ x hx
      cases e
      obtain ⟨f0, f1⟩ := flat_get hx
      have e2 : (⟨b, off, none⟩ : Addr).add j = ⟨b, off + j, none⟩ := by unfold Addr.add; split <;> simp_all
      rw [e2]
      rcases Nat.mod_two_eq_zero_or_one j with h0 | h0
      · have ej : j / 2 * 2 = j := by omega
        rw [ej] at c0 f0
        rw [hj] at f0
        rw [c0, f0]
      · have ej : j / 2 * 2 + 1 = j := by omega
        rw [Nat.add_assoc, ej] at c1
        rw [ej, hj] at f1
        rw [c1, f1]
    obtain ⟨v', w', hrun, h2, h3, _, h5⟩ := run_append_own_at (P := Try.prog) w base 33 33 37 i0 (.agg #[.int .u8 0, .int .i64 0]) 2 16 Try.underlying33 hi hz0 hz1 hz2 rfl (by decide) v n _ hown a len c (flat bs) (by rw [flat_len, hlen]) hcell
      flat_one (by unfold maxLen; omega) (by omega) hbase
    exact ⟨v', w', hrun, by rw [flat_app]; exact h2, h3, h5⟩
  | none =>
    have h0 : bs = [] := by
      cases bs with
      | nil => rfl
      | cons d r =>
        obtain ⟨b, off, e, _⟩ := hA 0 d rfl
        cases e
    subst h0
    obtain rfl : 0 = len := hlen
    refine ⟨v, w, ?_, by rw [List.append_nil]; exact hown, World.grownBy.refl w _, .inl rfl⟩
    rcases hown.2 with ⟨rfl, _⟩ | ⟨g, cap, cur, rfl, _, _, hnc, _⟩
    · simp [Builtin.append_, run_underlying Try.underlying33, sizeOf, typeInfo, hi, Builtin.lenOf, Builtin.firstCells]
    · simp [Builtin.append_, run_underlying Try.underlying33, sizeOf, typeInfo, hi, Builtin.lenOf, Builtin.firstCells, hnc, storeCells]
theorem run_eqW (A : Option Addr) (l c : Nat) (w : World) : (binOp .eql 33 (.slice A l c) (.slice none 0 0)).run Try.prog w = .ok (.bool A.isNone) w :=
  Lib.run_eql_slice_nil w 33 37 A l c 0 0 Try.underlying33
set_option maxRecDepth 20000 in
theorem cloneW_any (A : Option Addr) (n c : Nat) (ws : List Wd) (w : World) (hn : ws.length = n) (hl : n ≤ 1048576) (hA : Words w A ws) :
    Calls Try.prog 75 #[.slice A n c] w fun e w' => ∃ A' c', e = .returned (.slice A' n c') ∧ WRow w.heap.size w' A' n c' ws ∧ Below w.heap.size w w' := by
  cases A with
  | none =>
    have h0 : ws = [] := by
      cases ws with
      | nil => rfl
      | cons d r =>
        obtain ⟨b, off, e, _⟩ := hA 0 d rfl
        cases e
    subst h0
    obtain rfl : 0 = n := hn
    have heq : (binOp .eql 33 (.slice none 0 c) (.slice none 0 0)).run Try.prog w = .ok (.bool true) w := run_eqW none 0 c w
    clear hA
    go_enter Try.func75, Try.ntmps75
    go_wp2_with fail
    go_ret
    exact ⟨none, 0, rfl, WRow.nil _ _, Below.refl _ _⟩
  | some a =>
    have heq : (binOp .eql 33 (.slice (some a) n c) (.slice none 0 0)).run Try.prog w = .ok (.bool false) w := run_eqW (some a) n c w
    have hb0 : Below w.heap.size w (w.alloc (.cells #[] 37)) := (Below.refl _ w).alloc (Nat.le_refl _) _
    obtain ⟨v1, w1, hrun1, hown1, hgr1, _⟩ := run_appW (w.alloc (.cells #[] 37)) w.heap.size (.slice (some ⟨w.heap.size, 0, none⟩) 0 0) 0 [] (World.ownsRow_made w #[] 0 (Nat.le_refl _) (Nat.zero_le _) rfl) (some a) n c ws hn (hA.below hb0) (by omega) (by simp)
    rw [List.nil_append, Nat.zero_add] at hown1
    have hb1 : Below w.heap.size w w1 := hb0.grown hgr1 (by simp) (fun k e => by simp [Value.ownBlock] at e; omega)
    obtain ⟨A', c', rfl⟩ := own_slice hown1
    have HRUN := Lib.hid hrun1
    have HO := Lib.hid (And.intro (WRow.of_own hown1 hA.all) hb1)
    clear hrun1 hown1 hgr1 hb1 hb0 hA
    go_enter Try.func75, Try.ntmps75
    go_wp2_with (at_builtin; refine wpList_app rfl _ _ 33 rfl _ _ _ _ rfl rfl HRUN.out ?_; clear HRUN)
    go_ret
    exact ⟨_, _, rfl, HO.out⟩
/-- An object, its words in memory from B on. -/
structure ObV (B : Nat) (w : World) (v : Value) (o : Ob) (A : Option Addr) (c : Nat) : Prop where
  eq : v = .agg #[.int .u8 (o.k : Int), .int .i64 o.tag, .slice A o.ws.length c, .string (str o.t)]
  row : WRow B w A o.ws.length c o.ws
/-- An object as an argument. -/
structure OArg (w : World) (o : Ob) (A : Option Addr) : Prop where
  words : Words w A o.ws
  small : Hp.small o
  tag : -9223372036854775808 ≤ o.tag ∧ o.tag < 9223372036854775808
theorem OArg.below {w w' : World} {o : Ob} {A : Option Addr} (h : OArg w o A) (hb : Below w.heap.size w w') : OArg w' o A := ⟨h.words.below hb, h.small, h.tag⟩
theorem own_any (o : Ob) (A : Option Addr) (c : Nat) (w : World) (hl : o.ws.length ≤ 1048576) (hA : Words w A o.ws) :
    Calls Try.prog 63 #[.agg #[.int .u8 (o.k : Int), .int .i64 o.tag, .slice A o.ws.length c, .string (str o.t)]] w fun e w' => ∃ v A' c', e = .returned v ∧ ObV (w.heap.size + 2) w' v o A' c' ∧ Below w.heap.size w w' := by
  obtain ⟨k, tag, ws, t⟩ := o
  dsimp only at hl hA ⊢
  obtain ⟨n, hn⟩ : ∃ n, ws.length = n := ⟨_, rfl⟩
  rw [hn] at hl ⊢
  obtain ⟨w0, hw0⟩ : ∃ w0, (w.alloc (.cells #[.int .u8 (k : Int), .int .i64 tag, .slice A n c, .string (str t)] 35)).alloc (.cells #[.int .u8 0, .int .i64 0, .slice none 0 0, .string ⟨#[]⟩] 35) = w0 := ⟨_, rfl⟩
  have hB0 : Blk w0 w.heap.size 35 #[.int .u8 (k : Int), .int .i64 tag, .slice A n c, .string (str t)] := by rw [← hw0]; exact (Blk.new _ _ _).alloc _
  have hB1 : Blk w0 (w.heap.size + 1) 35 #[.int .u8 0, .int .i64 0, .slice none 0 0, .string ⟨#[]⟩] := by
    have := Blk.new (w.alloc (.cells #[.int .u8 (k : Int), .int .i64 tag, .slice A n c, .string (str t)] 35)) 35 #[.int .u8 0, .int .i64 0, .slice none 0 0, .string ⟨#[]⟩]
    rw [World.size_alloc] at this
    rw [← hw0]; exact this
  have hb0 : Below w.heap.size w w0 := by rw [← hw0]; exact ((Below.refl _ _).alloc (Nat.le_refl _) _).alloc (by rw [World.size_alloc]; omega) _
  have hz0 : w0.heap.size = w.heap.size + 2 := by rw [← hw0]; simp
  have HC := Lib.hid (cloneW_any A n c ws w0 hn hl (hA.below hb0))
  have d0 : w0.cell? ⟨w.heap.size, 0, none⟩ = some (.int .u8 (k : Int)) := hB0.cell 0
  have d1 : w0.cell? ⟨w.heap.size, 1, none⟩ = some (.int .i64 tag) := hB0.cell 1
  have d2 : w0.cell? ⟨w.heap.size, 2, none⟩ = some (.slice A n c) := hB0.cell 2
  have d3 : w0.cell? ⟨w.heap.size, 3, none⟩ = some (.string (str t)) := hB0.cell 3
  have H0 := Lib.hid (And.intro hB0 (And.intro hB1 (And.intro hb0 (And.intro hz0 hn))))
  clear hB0 hB1 hb0 hA hz0 hn
  go_enter Try.func63, Try.ntmps63
  go_wp2_with fail
  refine HC.out.mono ?_
  rintro e w1 ⟨A', c', rfl, hr, hb⟩
  obtain ⟨hB0, hB1, hb0, hz0, hn⟩ := H0.out
  have hX := hB0.below hb hB0.lt
  have hR := hB1.below hb hB1.lt
  have x0 := hX.cell 0
  have x1 := hX.cell 1
  have x2 := hX.cell 2
  have x3 := hX.cell 3
  have r0 := hR.cell 0
  have r1 := hR.cell 1
  have r2 := hR.cell 2
  have r3 := hR.cell 3
  have f0 := hX.frozen
  have f1 := hR.frozen
  simp only [List.getElem?_toArray, List.getElem?_cons_zero, List.getElem?_cons_succ] at x0 x1 x2 x3 r0 r1 r2 r3
  have HF := Lib.hid (And.intro hr (And.intro hR (And.intro (hb0.trans (hb.mono hb0.size)) (And.intro hz0 hn))))
  clear hr hR hX hB0 hB1 hb0 hz0 hn hb d0 d1 d2 d3 HC H0 hw0
  go_wp2_with fail
  have HB6 := ((((HF.out.2.1.far (p := ⟨w.heap.size, 2, none⟩) (by show w.heap.size + 1 ≠ w.heap.size; omega) (.slice A' n c')).set_ 0 (.int .u8 (k : Int))).set_ 1 (.int .i64 tag)).set_ 2 (.slice A' n c')).set_ 3 (.string (str t))
  refine bodyPost_ret (results_cell_row rfl _ _ (w.heap.size + 1) 35 _ (0, 0) _ rfl HB6 Try.underlying35 rfl (by kernel_rfl)) rfl ?_
  obtain ⟨hr, hR, hb, hz, hn⟩ := HF.out
  have ho : Off (fun k => k = w.heap.size ∨ k = w.heap.size + 1) w1 (((((w1.setCell ⟨w.heap.size, 2, none⟩ (.slice A' n c')).setCell ⟨w.heap.size + 1, 0, none⟩ (.int .u8 (k : Int))).setCell ⟨w.heap.size + 1, 1, none⟩ (.int .i64 tag)).setCell ⟨w.heap.size + 1, 2, none⟩ (.slice A' n c')).setCell ⟨w.heap.size + 1, 3, none⟩ (.string (str t))) :=
    offS (offS (offS (offS (offS (Off.refl _ _) _ _ _ (.inl rfl)) _ _ _ (.inr rfl)) _ _ _ (.inr rfl)) _ _ _ (.inr rfl)) _ _ _ (.inr rfl)
  refine ⟨_, A', c', rfl, ⟨?_, ?_⟩, hb.trans (ho.below hb.size (fun k e => by rcases e with e | e <;> omega))⟩
  · dsimp only; rw [hn]; rfl
  · dsimp only
    rw [hn]
    have hr' : WRow (w.heap.size + 2) w1 A' n c' ws := by rw [← hz]; exact hr
    exact hr'.same ho.size fun p e => ho.block _ (hr'.blk p e).2.2.2 fun e' => by have := (hr'.blk p e).2.2.1; rcases e' with e' | e' <;> omega
end Go.Proofs.Ytclkkfffecmjnaa
