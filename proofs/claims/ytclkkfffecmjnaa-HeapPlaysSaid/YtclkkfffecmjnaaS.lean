/- heap: Collect: what is reached, in memory; reach. -/
import Derived.Test.YtclkkfffecmjnaaR
namespace Go.Proofs.Ytclkkfffecmjnaa
open Go.RowKit Go.Sort
attribute [local go_sem] Oper.semAt_some
/-- A map of booleans, all of them true: which keys there are. -/
def KMap (w : World) (b n k : Nat) (S : Int → Bool) : Prop :=
  ∃ D : DataW Unit, w.ownsMap Try.prog 3 (plainElem Try.prog 4) b n D ∧ Maps.size D = k ∧ ∀ i : Int, (Lit.int .i64 i).wf = true → D.atKey (.int .i64 i) (.lit (.bool false)) = .lit (.bool (S i)) ∧ Maps.has D (.int .i64 i) = S i
theorem KMap.same {w w' : World} {b n k : Nat} {S : Int → Bool} (h : KMap w b n k S) (hb : w'.heap[b]? = w.heap[b]?) : KMap w' b n k S := by
  obtain ⟨D, ⟨es, clock, h1, h2⟩, h3⟩ := h
  exact ⟨D, ⟨es, clock, hb.trans h1, h2⟩, h3⟩
theorem KMap.lt {w : World} {b n k : Nat} {S : Int → Bool} (h : KMap w b n k S) : b < w.heap.size := by obtain ⟨D, h1, _⟩ := h; exact h1.lt
theorem KMap.mono {w : World} {b n n' k : Nat} {S : Int → Bool} (h : KMap w b n k S) (hn : n ≤ n') : KMap w b n' k S := by
  obtain ⟨D, h1, h2⟩ := h
  exact ⟨D, h1.mono hn, h2⟩
theorem KMap.made (w : World) : KMap (w.alloc (.map #[] 0)) w.heap.size 0 0 (fun _ => false) := ⟨_, World.ownsMap_made w _ _ _, rfl, fun _ _ => ⟨rfl, rfl⟩⟩
theorem plainElem_bool_inv {P : Program} {e : TypeId} (he : P.underlying e = some .bool) {v : Value} {z : DataW Unit × List MemPlace} (h : plainElem P e v = some z) : ∃ x, v = .bool x ∧ z = (.lit (.bool x), []) := by
  unfold plainElem at h
  rw [he] at h
  cases v <;> simp at h
  exact ⟨_, rfl, h.symm⟩
theorem KMap.look {w : World} {b n k : Nat} {S : Int → Bool} (h : KMap w b n k S) (i : Int) (hi : (Lit.int .i64 i).wf = true) : (Instr.lookup 96 (.map (some b)) (.int .i64 i) false).run Try.prog w = .ok (.bool (S i)) w := by
  obtain ⟨D, h1, _, h2⟩ := h
  have hz : (zeroValue 4).run Try.prog w = .ok (.bool false) w := by kernel_rfl
  obtain ⟨v, ps, hr, hv⟩ := h1.lookup (Maps.int_keyed Try.underlying3) Try.underlying96 hz (plainElem_bool Try.underlying4 false) (Maps.keyOf_int_mk Try.underlying3 hi)
  obtain ⟨x, rfl, hx⟩ := plainElem_bool_inv Try.underlying4 hv
  rw [(h2 i hi).1] at hx
  simp only [Prod.mk.injEq, DataW.lit.injEq, Lit.bool.injEq] at hx
  rw [← hx.1] at hr
  exact hr
theorem KMap.put {w : World} {b n k : Nat} {S : Int → Bool} (h : KMap w b n k S) (i : Int) (hi : (Lit.int .i64 i).wf = true) (hn : n < 1000000) :
    ∃ w', (Instr.mapUpdate 96 (.map (some b)) (.int .i64 i) (.bool true)).run Try.prog w = .ok () w' ∧ KMap w' b (n + 1) (if S i then k else k + 1) (fun j => j == i || S j) ∧ Off (fun k => k = b) w w' := by
  obtain ⟨D, h1, hs, h2⟩ := h
  obtain ⟨w', hr, h3, h4⟩ := h1.update (Maps.int_keyed Try.underlying3) Try.underlying96 (by unfold maxLen; omega) (Maps.keyOf_int_mk Try.underlying3 hi) (plainElem_bool Try.underlying4 true)
  have hT := h1.tidy (Maps.int_keyed Try.underlying3)
  refine ⟨w', hr, ⟨_, h3, ?_, fun j hj => ?_⟩, (Off.of_grown h4).mono fun k _ e => by cases e; rfl⟩
  · rw [Maps.size_put hT, (h2 i hi).2, hs]
  · have hM : Maps.IsMap D := h1.isMap
    by_cases e : j = i
    · subst e
      rw [Maps.atKey_put_same hM (by simp [WideAt.IsKeyLit]), Maps.has_put_same hM (by simp [WideAt.IsKeyLit])]
      simp
    · rw [Maps.atKey_put_other (by simpa using e), Maps.has_put_other (by simpa using e), (h2 j hj).1, (h2 j hj).2]
      have : (j == i) = false := by simpa using e
      simp only [this, Bool.false_or, and_self]
/-- How many entries a map has, read off the world; how long a list in a cell is. -/
def mapLen (w : World) (b : Nat) : Nat := match w.heap[b]? with
  | some (.map es _) => es.size
  | _ => 0
def listLen (w : World) (b : Nat) : Nat := match w.cell? ⟨b, 0, none⟩ with
  | some (.slice _ n _) => n
  | _ => 0
theorem KMap.count {w : World} {b n k : Nat} {S : Int → Bool} (h : KMap w b n k S) : mapLen w b = k := by
  obtain ⟨D, ⟨es, clock, h1, _, _, rfl⟩, h2, _⟩ := h
  unfold mapLen
  rw [h1, ← h2]
  simp [Maps.size, length_sorted]
theorem IntsZ.pop {W : World} {q l c : Nat} {zs : List Int} {z : Int} (h : IntsZ W (.slice (some ⟨q, 0, none⟩) l c) (zs ++ [z])) : IntsZ W (.slice (some ⟨q, 0, none⟩) (l - 1) c) zs ∧ l = zs.length + 1 := by
  have h1 := h.own.1
  rcases h.own.2 with ⟨e, _⟩ | ⟨g, cap, cur, e, h2, h3, h4, h5, h6, h7⟩
  · cases e
  · injection e with e1 e2 e3
    injection e1 with e1
    injection e1 with e1
    subst e1; subst e3
    have hl : l = zs.length + 1 := by rw [e2]; simp
    refine ⟨⟨by simp, .inr ⟨q, c, cur, by rw [hl]; rfl, h2, h3, by simp at h4; omega, h5, h6, ?_⟩⟩, hl⟩
    have h8 : cur.toList.take (zs.length + 1) = zs.map (fun (z : Int) => Value.int .i64 z) ++ [.int .i64 z] := by
      have := h7
      simpa using this
    have h9 : cur.toList.take zs.length = (cur.toList.take (zs.length + 1)).take zs.length := by rw [List.take_take, Nat.min_eq_left (Nat.le_succ _)]
    rw [Nat.mul_one, h9, h8, List.take_append_of_le_length (by simp), List.take_of_length_le (by simp)]
theorem count_push {S : Int → Bool} {k : Int} {x : Ho} : ∀ {L : List Ho}, L.Pairwise (fun x y => x.h < y.h) → x ∈ L → (x.h : Int) = k → S k = false → (L.countP fun y => ((y.h : Int) == k || S y.h)) = (L.countP fun y => S y.h) + 1
  | [], _, h, _, _ => by cases h
  | y :: L, hp, h, hk, hs => by
    obtain ⟨h1, h2⟩ := List.pairwise_cons.1 hp
    rw [List.countP_cons, List.countP_cons]
    rcases List.mem_cons.1 h with e | h
    · subst e
      have hL : (L.countP fun y => ((y.h : Int) == k || S y.h)) = L.countP fun y => S y.h := by
        apply List.countP_congr
        intro y hy
        have := h1 y hy
        have : ((y.h : Int) == k) = false := by simp; omega
        rw [this]; simp
      rw [hL, hk, hs]
      simp
    · have ih := count_push h2 h hk hs
      have := h1 x h
      have e : ((y.h : Int) == k) = false := by simp; omega
      rw [ih, e]
      simp
      omega
/-- One step of reach. -/
def reachS (H : HS) (S : Int → Bool) (k : Int) : Int → Bool := if S k = false ∧ (H.obj k).isSome = true then fun j => j == k || S j else S
def reachV (H : HS) (S : Int → Bool) (V : List Nat) (k : Int) : List Nat := if S k = false ∧ (H.obj k).isSome = true then V ++ [k.toNat] else V
theorem KMap.tight {w : World} {b n k : Nat} {S : Int → Bool} (h : KMap w b n k S) : KMap w b k k S := by
  obtain ⟨D, ⟨es, clock, h1, hF, hs, rfl⟩, h2, h3⟩ := h
  exact ⟨_, ⟨es, clock, h1, hF, by rw [← h2]; simp [Maps.size, length_sorted], rfl⟩, h2, h3⟩
/-- How many objects are reached. -/
def nS (H : HS) (S : Int → Bool) : Nat := H.L.countP fun x => S x.h
/-- Collect's memory; the blocks of X stay. -/
structure CoI (w wr : World) (M : Mem) (n : Nat) (H : HS) (X : Nat → Prop) (S : Int → Bool) (V : List Nat) : Prop where
  hm : HM wr M n H
  ch : Blk wr w.heap.size 25 #[.pointer (some ⟨M.g, 0, none⟩)]
  cr : Blk wr (w.heap.size + 2) 96 #[.map (some (w.heap.size + 1))]
  km : KMap wr (w.heap.size + 1) (nS H S) (nS H S) S
  cl : ∃ A l c, Blk wr (w.heap.size + 3) 41 #[.slice A l c] ∧ IntsZ wr (.slice A l c) (nums V) ∧ l = V.length ∧ ∀ j, (Value.slice A l c).ownBlock = some j → w.heap.size + 4 ≤ j ∧ ¬ X j
  bel : Below w.heap.size w wr
  far : ∀ b, M.R b ≠ .no → b < w.heap.size
  hx : ∀ b, X b → b < wr.heap.size ∧ (b < w.heap.size ∨ w.heap.size + 4 ≤ b)
section
variable {w wr w2 : World} {M : Mem} {n : Nat} {H : HS} {X Y : Nat → Prop} {S : Int → Bool} {V : List Nat}
theorem CoI.below (h : CoI w wr M n H X S V) (hb : Below wr.heap.size wr w2) : CoI w w2 M n H X S V :=
  ⟨h.hm.below hb, h.ch.below hb h.ch.lt, h.cr.below hb h.cr.lt, h.km.same (hb.block _ h.km.lt), by
    obtain ⟨A, l, c, h1, h2, h3, h4⟩ := h.cl
    exact ⟨A, l, c, h1.below hb h1.lt, h2.same fun k hk => hb.block k (h2.lt k hk), h3, h4⟩, h.bel.trans (hb.mono h.bel.size), h.far, fun b hb' => ⟨Nat.lt_of_lt_of_le (h.hx b hb').1 hb.size, (h.hx b hb').2⟩⟩
/-- What is new is to stay. -/
theorem CoI.more (h : CoI w wr M n H X S V) (hb : Below wr.heap.size wr w2) (hY : ∀ b, Y b → X b ∨ (wr.heap.size ≤ b ∧ b < w2.heap.size)) : CoI w w2 M n H Y S V := by
  have h0 := h.below hb
  obtain ⟨A, l, c, h1, h2, h3, h4⟩ := h.cl
  have hsz : w.heap.size + 3 < wr.heap.size := h1.lt
  refine ⟨h0.hm, h0.ch, h0.cr, h0.km, ⟨A, l, c, h1.below hb h1.lt, h2.same fun k hk => hb.block k (h2.lt k hk), h3, fun j hj => ⟨(h4 j hj).1, fun hy => ?_⟩⟩, h0.bel, h0.far, fun b hy => ?_⟩
  · rcases hY j hy with e | e
    · exact (h4 j hj).2 e
    · have := h2.lt j hj; omega
  · rcases hY b hy with e | e
    · exact h0.hx b e
    · exact ⟨e.2, .inr (by omega)⟩
theorem CoI.obs (h : CoI w wr M n H X S V) (k : Int) (hk : (Lit.int .i64 k).wf = true) :
    (Instr.lookup 77 (.map (some M.ob)) (.int .i64 k) false).run Try.prog wr = .ok (.pointer ((H.obj k).map fun x => ⟨M.B x.h, 0, none⟩)) wr := by
  have h1 := h.hm.obs.look k hk
  cases hx : H.obj k with
  | none => rw [h.hm.no hx] at h1; exact h1
  | some x => rw [h.hm.at_ hx] at h1; exact h1
theorem nS_le (H : HS) (S : Int → Bool) : nS H S ≤ H.L.length := List.countP_le_length
set_option maxRecDepth 20000 in
set_option maxHeartbeats 1000000 in
theorem reach_any (h : CoI w wr M n H X S V) (hp : H.L.Pairwise fun x y => x.h < y.h) (k : Int) (hk : (Lit.int .i64 k).wf = true) (hrn : H.L.length < 900000) (hV : V.length < 900000) :
    Calls Try.prog 64 #[.int .i64 k, .pointer (some ⟨w.heap.size + 2, 0, none⟩), .pointer (some ⟨w.heap.size, 0, none⟩), .pointer (some ⟨w.heap.size + 3, 0, none⟩)] wr fun e w' => e = .returned (.tuple #[]) ∧ CoI w w' M n H X (reachS H S k) (reachV H S V k) ∧ Keep X wr w' := by
  have c0 := h.ch.cell 0
  have c2 := h.cr.cell 0
  obtain ⟨A0, l0, cc0, hl1, hl2, hl0, hl3⟩ := h.cl
  have c3 := hl1.cell 0
  simp only [List.getElem?_toArray, List.getElem?_cons_zero] at c0 c2 c3
  obtain ⟨_, _, _, d3, _⟩ := h.hm.told
  have hkl := h.km.look k hk
  have hol := h.obs k hk
  obtain ⟨s, hs⟩ : ∃ s, S k = s := ⟨_, rfl⟩
  rw [hs] at hkl
  cases s with
  | true =>
    have HF : Hid (CoI w wr M n H X (reachS H S k) (reachV H S V k)) := Lib.hid (by
      unfold reachS reachV
      rw [if_neg (by rw [hs]; simp), if_neg (by rw [hs]; simp)]
      exact h)
    clear h hl1 hl2 hl3 hol hs
    go_enter Try.func64, Try.ntmps64
    go_wp2_with fail
    go_end0
    exact ⟨rfl, HF.out, Keep.refl _ _⟩
  | false =>
    cases hx : H.obj k with
    | none =>
      have HF : Hid (CoI w wr M n H X (reachS H S k) (reachV H S V k)) := Lib.hid (by
        unfold reachS reachV
        rw [if_neg (by rw [hx]; simp), if_neg (by rw [hx]; simp)]
        exact h)
      rw [hx] at hol
      have hol2 : (Instr.lookup 77 (.map (some M.ob)) (.int .i64 k) false).run Try.prog wr = .ok (.pointer none) wr := hol
      clear h hl1 hl2 hl3 hs hx hol
      go_enter Try.func64, Try.ntmps64
      go_wp2_with fail
      go_end0
      exact ⟨rfl, HF.out, Keep.refl _ _⟩
    | some x =>
      obtain ⟨hxl, hxk⟩ := HS.obj_some hx
      have hcp : nS H (fun j => j == k || S j) = nS H S + 1 := count_push hp hxl hxk hs
      obtain ⟨w1, hr1, hk1, ho1⟩ := h.km.put k hk (by have := nS_le H S; omega)
      rw [hs] at hk1
      have hk1 : KMap w1 (w.heap.size + 1) (nS H S + 1) (nS H S + 1) (fun j => j == k || S j) := hk1
      have hne : ∀ b, b ≠ w.heap.size + 1 → b < wr.heap.size → w1.heap[b]? = wr.heap[b]? := fun b e hb => ho1.block b hb e
      have hl11 : Blk w1 (w.heap.size + 3) 41 #[.slice A0 l0 cc0] := hl1.same (hne _ (by omega) hl1.lt)
      have hl12 : IntsZ w1 (.slice A0 l0 cc0) (nums V) := hl2.same fun j hj => hne j (by have := (hl3 j hj).1; omega) (hl2.lt j hj)
      have g0 : w1.cell? ⟨w.heap.size + 2, 0, none⟩ = some (.map (some (w.heap.size + 1))) := (h.cr.same (hne _ (by omega) h.cr.lt)).cell 0
      have g3 := hl11.cell 0
      have gf := hl11.frozen 0
      simp only [List.getElem?_toArray, List.getElem?_cons_zero] at g3
      have hl13 : IntsZ (w1.alloc (.cells #[.int .i64 k] 3)) (.slice A0 l0 cc0) (nums V) := hl12.same fun j hj => Below.heap_alloc _ _ _ (hl12.lt j hj)
      obtain ⟨v', w5, hrun, h2, h3, h4⟩ := hl13.push k w1.heap.size ((Blk.new w1 _ _).cell 0) (by rw [nums_len]; omega)
      obtain ⟨A5, l5, c5, hv5, hl5⟩ : ∃ A l c, v' = .slice A l c ∧ l = V.length + 1 := by obtain ⟨A, c, e, _⟩ := h2.shape; exact ⟨_, _, _, e, by rw [List.length_append, nums_len]; rfl⟩
      subst hv5
      have hB5 : Blk w5 (w.heap.size + 3) 41 #[.slice A0 l0 cc0] := (hl11.alloc _).grown h3 (fun e => by have := (hl3 _ e.symm).1; omega)
      have p3 := hB5.cell 0
      have pf := hB5.frozen 0
      simp only [List.getElem?_toArray, List.getElem?_cons_zero] at p3
      have hsz1 := ho1.size
      have hwz : w.heap.size + 3 < wr.heap.size := hl1.lt
      have hown' : ∀ j, (Value.slice A5 l5 c5).ownBlock = some j → w.heap.size + 4 ≤ j ∧ ¬ X j := fun j hj => by
        rcases h4 with h4 | h4
        · rw [h4] at hj; exact hl3 j hj
        · rw [h4, World.size_alloc] at hj
          have := Option.some.inj hj
          exact ⟨by omega, fun hX => by have := (h.hx j hX).1; omega⟩
      have hblk : ∀ b, b < wr.heap.size → b ≠ w.heap.size + 1 → b ≠ w.heap.size + 3 → (Value.slice A0 l0 cc0).ownBlock ≠ some b → (w5.setCell ⟨w.heap.size + 3, 0, none⟩ (.slice A5 l5 c5)).heap[b]? = wr.heap[b]? := fun b hb e1 e3 e4 => by
        rw [Below.heap_setCell _ _ _ _ e3, h3.block b (by rw [World.size_alloc]; omega) (fun e => e4 e.symm), Below.heap_alloc _ _ _ (by omega)]
        exact hne b e1 hb
      have hlow : ∀ b, b < w.heap.size + 4 → (Value.slice A0 l0 cc0).ownBlock ≠ some b := fun b hb e => by have := (hl3 b e).1; omega
      have hsz5 : w1.heap.size + 1 ≤ w5.heap.size := by have := h3.size; rw [World.size_alloc] at this; exact this
      have hssz : (w5.setCell ⟨w.heap.size + 3, 0, none⟩ (.slice A5 l5 c5)).heap.size = w5.heap.size := by simp [World.setCell]
      have hk5 : KMap (w5.setCell ⟨w.heap.size + 3, 0, none⟩ (.slice A5 l5 c5)) (w.heap.size + 1) (nS H S + 1) (nS H S + 1) (fun j => j == k || S j) := hk1.same (by
        rw [Below.heap_setCell _ _ _ _ (by show w.heap.size + 1 ≠ w.heap.size + 3; omega), h3.block _ (by rw [World.size_alloc]; omega) (fun e => hlow _ (by omega) e.symm), Below.heap_alloc _ _ _ (by omega)])
      have hkeep : Keep X wr (w5.setCell ⟨w.heap.size + 3, 0, none⟩ (.slice A5 l5 c5)) := ⟨by omega, fun b hX => by
        have h9 := h.hx b hX
        exact hblk b h9.1 (by omega) (by omega) (fun e => (hl3 b e).2 hX)⟩
      have HF : Hid (CoI w (w5.setCell ⟨w.heap.size + 3, 0, none⟩ (.slice A5 l5 c5)) M n H X (reachS H S k) (reachV H S V k) ∧ Keep X wr (w5.setCell ⟨w.heap.size + 3, 0, none⟩ (.slice A5 l5 c5))) := Lib.hid (by
        unfold reachS reachV
        rw [if_pos ⟨hs, by rw [hx]; rfl⟩, if_pos ⟨hs, by rw [hx]; rfl⟩]
        have e9 : nums (V ++ [k.toNat]) = nums V ++ [k] := by unfold nums; rw [List.map_append]; simp; omega
        refine ⟨⟨h.hm.keep (by omega) (fun b hb => by have h8 := h.far b hb; exact hblk b (h.hm.lt b hb) (by omega) (by omega) (hlow b (by omega))), h.ch.same (hblk _ h.ch.lt (by omega) (by omega) (hlow _ (by omega))), h.cr.same (hblk _ h.cr.lt (by omega) (by omega) (hlow _ (by omega))), by rw [hcp]; exact hk5, ⟨A5, l5, c5, hB5.set_ 0 _, ?_, by rw [hl5]; simp, hown'⟩, ?_, h.far, fun b hX => ⟨Nat.lt_of_lt_of_le (h.hx b hX).1 hkeep.size, (h.hx b hX).2⟩⟩, hkeep⟩
        · rw [e9]
          exact h2.same fun j hj => Below.heap_setCell _ _ _ _ (fun e => by have e : j = w.heap.size + 3 := e; have := (hown' j hj).1; omega)
        · exact ⟨h3.os.trans (ho1.os.trans h.bel.os), h3.tape.trans (ho1.tape.trans h.bel.tape), h3.output.trans (ho1.output.trans h.bel.output), by have := h.bel.size; omega, fun b hb => (hblk b (by omega) (by omega) (by omega) (hlow b (by omega))).trans (h.bel.block b hb)⟩)
      have HRUN := Lib.hid hrun
      rw [hx] at hol
      have hol2 : (Instr.lookup 77 (.map (some M.ob)) (.int .i64 k) false).run Try.prog wr = .ok (.pointer (some ⟨M.B x.h, 0, none⟩)) wr := hol
      clear h hl1 hl2 hl3 hs hx hxl hxk hk1 ho1 hne hl11 hl12 hl13 h2 h3 h4 hB5 hown' hblk hsz5 hssz hk5 hrun hwz hsz1 hol hkeep hlow hcp hl0 hl5
      go_enter Try.func64, Try.ntmps64
      go_wp2_with (at_builtin; refine wpList_app rfl _ _ 41 rfl _ _ _ _ rfl rfl HRUN.out ?_; clear HRUN)
      go_end0
      exact ⟨rfl, HF.out⟩
end
end Go.Proofs.Ytclkkfffecmjnaa
